/- A list of bounds as evidence; the years that bounds alone leave, and that finds alone leave. -/
import Derived.Test.YtjmbbepklofodaaEw
namespace Go.Proofs.Ytjmbbepklofodaa
open Go.RowKit

theorem infoEv : (Try.prog.info? 77).map (fun i => (i.zero, i.size, i.bytes)) = some (some .nilIface, 1, 16) := by kernel_rfl
/-- A row of which the first k places are laid. -/
def fillV (z : Value) (vs : List Value) (k : Nat) : List Value := vs.take k ++ List.replicate (vs.length - k) z
theorem fillV_at {z : Value} {vs : List Value} {k : Nat} (hk : k < vs.length) : (fillV z vs k)[k]? = some z := by
  unfold fillV
  rw [List.getElem?_append_right (by simp; omega), List.length_take, Nat.min_eq_left (by omega), Nat.sub_self, List.getElem?_replicate, if_pos (by omega)]
theorem fillV_set {z : Value} {vs : List Value} {k : Nat} {x : Value} (hx : vs[k]? = some x) : (fillV z vs k).set k x = fillV z vs (k+1) := by
  have hk : k < vs.length := (List.getElem?_eq_some_iff.1 hx).1
  unfold fillV
  rw [List.set_append_right _ _ (by simp; omega), List.length_take, Nat.min_eq_left (by omega), Nat.sub_self, List.take_add_one, hx]
  rw [show vs.length - k = (vs.length - (k+1)) + 1 from by omega, List.replicate_succ, List.set_cons_zero]
  simp only [Option.toList, List.append_assoc, List.cons_append, List.nil_append]
theorem fillV_all (z : Value) (vs : List Value) : fillV z vs vs.length = vs := by simp [fillV]
theorem zero_ifaces (n : Nat) : (madeCells (Value.nilIface).cells (n * 1)).toList = List.replicate n Value.nilIface := by
  refine List.ext_getElem? fun i => ?_
  by_cases hi : i < n
  · simp [madeCells, hi, Value.cells, Nat.mod_one]
  · simp [madeCells, hi]
def evB (l : List Ctx) : List Value := (l.map Ev.b).map encE
theorem evB_len (l : List Ctx) : (evB l).length = l.length := by simp [evB]
theorem evB_at {l : List Ctx} {k : Nat} {c : Ctx} (h : l[k]? = some c) : (evB l)[k]? = some (.iface 29 (.agg #[.int .i64 c.id, .int .i64 c.kind, .int .i64 c.area])) := by
  unfold evB
  rw [List.getElem?_map, List.getElem?_map, h]
  rfl
def EvsPost (w : World) (l : List Ctx) (e : Ending) (w2 : World) : Prop :=
  ∃ A cap, e = .returned (.slice A l.length cap) ∧ Below w.heap.size w w2 ∧ Reads w2 w2.heap.size 1 A l.length (evB l)

set_option maxHeartbeats 3000000 in
set_option maxRecDepth 100000 in
theorem evs_any (A : Option Addr) (cap : Nat) (l : List Ctx) (w : World) (hr : Reads w w.heap.size 3 A l.length (cellsC l)) (hl : l.length ≤ 1000000) :
    Calls Try.prog 40 #[.slice A l.length cap] w (EvsPost w l) := by
  obtain ⟨i0, hi0, hz0, hz1, hz2⟩ := info_parts infoEv
  have HR := Lib.hid hr
  clear hr
  go_enter Try.func40, Try.ntmps40
  go_wp2_with (at_make
               go_must (refine wpList_make_full _ rfl (.tmp 7) (.tmp 7) _ rfl w.heap.size 77 i0 _ 1 Try.underlying64 hi0 hz0 hz1 _ _ _ _ l.length rfl rfl rfl rfl (by rw [hz2]; omega) (by simp only [maxLen]; omega) (Nat.le_refl _) ?_)
               intro w5 hown hg5)
  rw [zero_ifaces] at hown
  have hb5 : Below w.heap.size w w5 := (Below.refl _ _).grown hg5 (Nat.le_refl _) (fun k hk => by cases hk)
  have H5 := Lib.hid (And.intro hb5 hown)
  clear hown hg5 hb5
  go_loopw [11] (fun i wr => ∃ k : Nat, k ≤ l.length ∧ i = .int .i64 k ∧ Below w.heap.size w wr ∧ wr.ownsRow w.heap.size 77 1 (.slice (some ⟨w.heap.size, 0, none⟩) l.length l.length) l.length (fillV .nilIface (evB l) k)) (fun i _ => l.length - (intOf i).toNat)
  case atStart => exact ⟨0, Nat.zero_le _, rfl, H5.out.1, by have := H5.out.2; simpa [fillV, evB_len] using this⟩
  case round =>
    obtain ⟨k, hk, rfl, hb, hown⟩ := hrel
    have hsz := hb.size
    by_cases hlt : k < l.length
    · obtain ⟨b, off, hA, hbl, hc⟩ := (HR.out.below hb).ctx (by omega)
      subst hA
      obtain ⟨c, hc0⟩ : ∃ c, l[k]? = some c := ⟨_, List.getElem?_eq_getElem hlt⟩
      obtain ⟨c1, c2, c3⟩ := hc k c hc0
      have hzc := (hown.cellAt k (by omega)).trans (fillV_at (by rw [evB_len]; exact hlt))
      have hzf := hown.frozenAt k
      have hol := (hown.lt _ rfl).2
      have HX := Lib.hid (And.intro hb (And.intro hown (evB_at hc0)))
      clear hc hc0 hb hown
      go_wp2_with fail
      go_roundw
      case rel =>
        refine ⟨k + 1, by omega, by go_num, ?_, ?_⟩
        · exact (HX.out.1.setCell (by simp) _).alloc (by simpa [World.setCell] using hsz) _
        · have h9 := (HX.out.2.1.stored k (.iface 29 (.agg #[.int .i64 c.id, .int .i64 c.kind, .int .i64 c.area]))).1
          rw [fillV_set HX.out.2.2] at h9
          exact h9.alloc _
      case measure => simp [intOf]; omega
    · have hkl : k = l.length := by omega
      have HK := Lib.hid hkl
      have HX := Lib.hid (And.intro hb hown)
      clear hkl hb hown
      go_wp2_with fail
      go_ret
      refine ⟨_, _, rfl, HX.out.1, ?_⟩
      have h9 := own_reads HX.out.2
      rw [HK.out, ← evB_len l, fillV_all] at h9
      rw [evB_len] at h9
      exact h9
/-- Bounds as evidence are valid where the bounds are. -/
theorem all_b (l : List Ctx) : (l.map Ev.b).all okE = l.all okB := by
  rw [List.all_map]
  rfl
theorem low_b (l : List Ctx) (id a : Int) : lowsE id (l.map Ev.b) a = maxF (ofB id) Ctx.kind l a := by
  unfold lowsE maxF
  rw [List.foldl_map]
  congr 1
  funext a c
  show (if c.id = id then max a c.kind else a) = _
  by_cases h : c.id = id
  · rw [if_pos h, if_pos (by simp [ofB, h])]
  · rw [if_neg h, if_neg (by simp [ofB, h])]
theorem high_b (l : List Ctx) (id a : Int) : highsE id (l.map Ev.b) a = minF (ofB id) Ctx.area l a := by
  unfold highsE minF
  rw [List.foldl_map]
  congr 1
  funext a c
  show (if c.id = id then min a c.area else a) = _
  by_cases h : c.id = id
  · rw [if_pos h, if_pos (by simp [ofB, h])]
  · rw [if_neg h, if_neg (by simp [ofB, h])]
theorem ev_b {w : World} {B : Nat} (l : List Ctx) : ∀ e ∈ l.map Ev.b, EvR w B e := by
  intro e he
  obtain ⟨c, _, rfl⟩ := List.mem_map.1 he
  trivial
theorem evsB_valid (A : Option Addr) (cap : Nat) (l : List Ctx) (w : World) (hr : Reads w w.heap.size 1 A l.length (evB l)) (hl : l.length ≤ 1000000) :
    Calls Try.prog 47 #[.slice A l.length cap] w fun e w2 => e = .returned (.bool (l.all okB)) ∧ Below w.heap.size w w2 := by
  have h := evsValid_any A cap (l.map Ev.b) w (by rw [List.length_map]; exact hr) (ev_b l) (by rw [List.length_map]; omega)
  rw [List.length_map, all_b] at h
  exact h
theorem evsB_years (A : Option Addr) (cap : Nat) (l : List Ctx) (id : Int) (w : World) (hr : Reads w w.heap.size 1 A l.length (evB l)) (hl : l.length ≤ 1000000) :
    Calls Try.prog 39 #[.slice A l.length cap, .int .i64 id] w fun e w2 => e = .returned (.tuple #[.int .i64 (lowB l id), .int .i64 (highB l id)]) ∧ Below w.heap.size w w2 := by
  have h := yearsLeft_any A cap (l.map Ev.b) id w (by rw [List.length_map]; exact hr) (ev_b l) (by rw [List.length_map]; omega)
  rw [List.length_map, low_b, high_b] at h
  exact h
end Go.Proofs.Ytjmbbepklofodaa
