/- The laws' copies of contexts in memory of their own, and the marks that they lay into a list. -/
import Derived.Test.YtfcjhpgohcbcaaaJ
namespace Go.Proofs.Ytfcjhpgohcbcaaa
open Go.RowKit

theorem toC_any (a b c : Int) (w : World) :
    Calls Try.prog 32 #[.agg #[.int .i64 a, .int .i64 b, .int .i64 c]] w fun e w2 => e = .returned (.agg #[.int .i64 a, .int .i64 b, .int .i64 c]) ∧ Below w.heap.size w w2 := by
  go_enter Try.func32, Try.ntmps32
  go_wp2_with fail
  refine bodyPost_ret (v := .agg #[.int .i64 a, .int .i64 b, .int .i64 c]) (by simp [results, Try.results32, go_sem]) rfl ⟨rfl, ?_⟩
  exact (((Below.refl _ _).alloc (Nat.le_refl _) _).alloc (by simp) _).alloc (by simp; omega) _

theorem cellsC_set (l : List Ctx) (k : Nat) (hk : k < l.length) (c : Ctx) : (((cellsC l).set (k * 3) (.int .i64 c.id)).set (k * 3 + 1) (.int .i64 c.kind)).set (k * 3 + 2) (.int .i64 c.area) = cellsC (l.set k c) := by
  induction l generalizing k with
  | nil => simp at hk
  | cons d l ih =>
    cases k with
    | zero => rfl
    | succ k =>
      have := ih k (by simpa using hk)
      simp only [cellsC, List.flatMap_cons, List.set_cons_succ] at *
      rw [← this, show cells3 d = [Value.int .i64 d.id, .int .i64 d.kind, .int .i64 d.area] from rfl]
      rw [show (k + 1) * 3 = k * 3 + 1 + 1 + 1 from by omega, show k * 3 + 1 + 1 + 1 + 1 = k * 3 + 1 + 1 + 1 + 1 from rfl]
      simp
theorem own_store3 {w : World} {base g n cap : Nat} {l : List Ctx} (h : w.ownsRow base 25 3 (.slice (some ⟨g, 0, none⟩) n cap) n (cellsC l)) {k : Nat} (hk : k < l.length) (c : Ctx) :
    (((w.setCell ⟨g, k * 3, none⟩ (.int .i64 c.id)).setCell ⟨g, k * 3 + 1, none⟩ (.int .i64 c.kind)).setCell ⟨g, k * 3 + 2, none⟩ (.int .i64 c.area)).ownsRow base 25 3 (.slice (some ⟨g, 0, none⟩) n cap) n (cellsC (l.set k c)) := by
  have h1 := (h.stored (k * 3) (.int .i64 c.id)).1
  have h2 := (h1.stored (k * 3 + 1) (.int .i64 c.kind)).1
  have h3 := (h2.stored (k * 3 + 2) (.int .i64 c.area)).1
  rw [cellsC_set l k hk c] at h3
  exact h3
theorem grown_store {w0 w : World} {g j : Nat} {u : Value} (h : w0.grownBy w (some g)) : w0.grownBy (w.setCell ⟨g, j, none⟩ u) (some g) :=
  ⟨h.os, h.tape, h.output, by simpa [World.setCell] using h.size, fun i hi hne => (Below.heap_setCell w ⟨g, j, none⟩ u i (fun e => hne (by rw [e]))).trans (h.block i hi hne)⟩
theorem own_cells {w : World} {base g n cap : Nat} {l : List Ctx} (h : w.ownsRow base 25 3 (.slice (some ⟨g, 0, none⟩) n cap) n (cellsC l)) {k : Nat} {c : Ctx} (hk : l[k]? = some c) :
    w.cell? ⟨g, k * 3, none⟩ = some (.int .i64 c.id) ∧ w.cell? ⟨g, k * 3 + 1, none⟩ = some (.int .i64 c.kind) ∧ w.cell? ⟨g, k * 3 + 2, none⟩ = some (.int .i64 c.area) ∧
    w.frozen? ⟨g, k * 3, none⟩ = false ∧ w.frozen? ⟨g, k * 3 + 1, none⟩ = false ∧ w.frozen? ⟨g, k * 3 + 2, none⟩ = false := by
  have hl : l.length = n := by have := h.1; rw [length_cellsC] at this; omega
  have hkl : k < l.length := (List.getElem?_eq_some_iff.1 hk).1
  obtain ⟨h1, h2, h3⟩ := cellsC_at l k c hk
  exact ⟨(h.cellAt _ (by omega)).trans h1, (h.cellAt _ (by omega)).trans h2, (h.cellAt _ (by omega)).trans h3, h.frozenAt _, h.frozenAt _, h.frozenAt _⟩

def zeroC : Ctx := ⟨0, 0, 0⟩
theorem zero_cells (n : Nat) : (madeCells (Value.agg #[.int .i64 0, .int .i64 0, .int .i64 0]).cells (n * 3)).toList = cellsC (List.replicate n zeroC) := by
  have h1 : cellsC (List.replicate n zeroC) = List.replicate (n * 3) (.int .i64 0) := by
    rw [List.eq_replicate_iff]
    refine ⟨by rw [length_cellsC, List.length_replicate], fun u hu => ?_⟩
    simp only [cellsC, List.mem_flatMap, List.mem_replicate, cells3, List.mem_cons, List.not_mem_nil, or_false] at hu
    obtain ⟨c, ⟨_, rfl⟩, rfl | rfl | rfl⟩ := hu <;> rfl
  rw [h1, List.eq_replicate_iff]
  refine ⟨by simp [madeCells], fun u hu => ?_⟩
  simp only [madeCells, Array.toList_map, List.mem_map, Array.toList_range, List.mem_range] at hu
  obtain ⟨j, _, rfl⟩ := hu
  have hj : j % 3 < 3 := Nat.mod_lt _ (by decide)
  show (#[Value.int .i64 0, .int .i64 0, .int .i64 0])[j % 3]! = _
  generalize j % 3 = m at hj
  match m, hj with
  | 0, _ => rfl
  | 1, _ => rfl
  | 2, _ => rfl
def fillC (l : List Ctx) (k : Nat) : List Ctx := l.take k ++ List.replicate (l.length - k) zeroC
theorem fillC_at {l : List Ctx} {k : Nat} (hk : k < l.length) : (fillC l k)[k]? = some zeroC := by
  unfold fillC
  rw [List.getElem?_append_right (by simp; omega), List.length_take, Nat.min_eq_left (by omega), Nat.sub_self, List.getElem?_replicate, if_pos (by omega)]
theorem fillC_set {l : List Ctx} {k : Nat} (hk : k < l.length) : (fillC l k).set k l[k] = fillC l (k+1) := by
  unfold fillC
  rw [List.set_append_right _ _ (by simp; omega), List.length_take, Nat.min_eq_left (by omega), Nat.sub_self, List.take_add_one, List.getElem?_eq_getElem hk]
  rw [show l.length - k = (l.length - (k+1)) + 1 from by omega, List.replicate_succ, List.set_cons_zero]
  simp only [Option.toList, List.append_assoc, List.cons_append, List.nil_append]
theorem fillC_len {l : List Ctx} {k : Nat} (hk : k ≤ l.length) : (fillC l k).length = l.length := by
  unfold fillC; simp; omega

set_option maxHeartbeats 800000 in
theorem toCS_any (A : Option Addr) (cap : Nat) (l : List Ctx) (w : World) (hr : Reads w w.heap.size 3 A l.length (cellsC l)) (hl : l.length ≤ 1000000000000) :
    Calls Try.prog 30 #[.slice A l.length cap] w fun e w2 => ∃ g, e = .returned (.slice (some ⟨g, 0, none⟩) l.length l.length) ∧ Below w.heap.size w w2 ∧ w2.ownsRow w.heap.size 25 3 (.slice (some ⟨g, 0, none⟩) l.length l.length) l.length (cellsC l) := by
  obtain ⟨i0, hi0, hz0, hz1, hz2⟩ := info_parts ctx_info
  go_enter Try.func30, Try.ntmps30
  go_wp2_with (at_make
               go_must (refine wpList_make_full _ rfl (.tmp 6) (.tmp 6) _ rfl w.heap.size 25 i0 _ 3 Try.underlying23 hi0 hz0 hz1 _ _ _ _ l.length rfl rfl rfl rfl (by rw [hz2]; omega) (by simp only [maxLen]; omega) (Nat.le_refl _) ?_)
               intro w1 hown hg)
  have hb1 : Below w.heap.size w w1 := (Below.refl _ _).grown hg (Nat.le_refl _) (fun k hk => by cases hk)
  rw [zero_cells] at hown
  have hown0 : w1.ownsRow w.heap.size 25 3 (.slice (some ⟨w.heap.size, 0, none⟩) l.length l.length) l.length (cellsC (fillC l 0)) := by simpa [fillC] using hown
  clear hown hg
  go_loopw [4] (fun i wr => ∃ k : Nat, k ≤ l.length ∧ i = .int .i64 k ∧ Below w.heap.size w wr ∧ wr.ownsRow w.heap.size 25 3 (.slice (some ⟨w.heap.size, 0, none⟩) l.length l.length) l.length (cellsC (fillC l k))) (fun i _ => l.length - (intOf i).toNat)
  case atStart => exact ⟨0, Nat.zero_le _, rfl, hb1, hown0⟩
  case round =>
    obtain ⟨k, hk, rfl, hb, hown⟩ := hrel
    clear hown0 hb1
    by_cases hlt : k < l.length
    · obtain ⟨b, off, hA, hbb, hc⟩ := (hr.below hb).ctx (by omega)
      subst hA
      have hk0 : l[k]? = some l[k] := List.getElem?_eq_getElem hlt
      obtain ⟨c1, c2, c3⟩ := hc k _ hk0
      have hkl : (k : Int) < (l.length : Int) := by omega
      have HB := Lib.hid hb
      have hsz := hb.size
      have HF := Lib.hid (fillC_set hlt)
      clear hc hk0 hr hb
      go_wp2_with (go_at_call 32
                   go_must (refine (toC_any _ _ _ _).mono ?_)
                   rintro e w2 ⟨rfl, hb2⟩
                   have hown2 := own_below hown hb2
                   obtain ⟨d1, d2, d3, d4, d5, d6⟩ := own_cells hown2 (fillC_at hlt)
                   simp only [zeroC] at d1 d2 d3)
      go_roundw
      case rel =>
        refine ⟨k + 1, by omega, by go_num, (((HB.out.trans (hb2.mono hsz)).setCell (by simp) _).setCell (by simp) _).setCell (by simp) _, ?_⟩
        have := own_store3 hown2 (by rw [fillC_len hk]; exact hlt) l[k]
        rw [HF.out] at this
        exact this
      case measure => simp [intOf]; omega
    · have hkl : k = l.length := by omega
      have HK := Lib.hid hkl
      clear hkl
      go_wp2_with fail
      go_ret
      refine ⟨_, rfl, hb, ?_⟩
      have := hown
      rw [HK.out, show fillC l l.length = l from by simp [fillC]] at this
      exact this

/-- The marks 1, 2, 3 .. laid into n contexts. -/
def markC (n : Nat) : List Ctx := (List.range n).map fun (i : Nat) => (⟨1 + 3 * (i : Int), 1 + 3 * (i : Int) + 1, 1 + 3 * (i : Int) + 1 + 1⟩ : Ctx)
def halfC (l : List Ctx) (k : Nat) : List Ctx := markC k ++ l.drop k
theorem markC_len (n : Nat) : (markC n).length = n := by simp [markC]
theorem halfC_at {l : List Ctx} {k : Nat} (hk : k < l.length) : (halfC l k)[k]? = some l[k] := by
  unfold halfC
  rw [List.getElem?_append_right (by simp [markC_len]), markC_len, Nat.sub_self, List.getElem?_drop, Nat.add_zero, List.getElem?_eq_getElem hk]
theorem halfC_set {l : List Ctx} {k : Nat} (hk : k < l.length) : (halfC l k).set k ⟨1 + 3 * (k : Int), 1 + 3 * (k : Int) + 1, 1 + 3 * (k : Int) + 1 + 1⟩ = halfC l (k+1) := by
  unfold halfC
  rw [List.set_append_right _ _ (by simp [markC_len]), markC_len, Nat.sub_self, List.drop_eq_getElem_cons hk, List.set_cons_zero]
  simp only [markC, List.range_succ, List.map_append, List.map_cons, List.map_nil, List.append_assoc, List.cons_append, List.nil_append]
theorem halfC_len {l : List Ctx} {k : Nat} (hk : k ≤ l.length) : (halfC l k).length = l.length := by
  unfold halfC; simp [markC_len]; omega

set_option maxHeartbeats 800000 in
theorem mark_any (v : Value) (base : Nat) (l : List Ctx) (w : World) (ho : w.ownsRow base 25 3 v l.length (cellsC l)) (hl : l.length ≤ 1000000000000) :
    Calls Try.prog 33 #[v, .int .i64 1] w fun e w2 => e = .returned (.int .i64 (1 + 3 * (l.length : Int))) ∧ w.grownBy w2 v.ownBlock ∧ w2.ownsRow base 25 3 v l.length (cellsC (markC l.length)) := by
  rcases Nat.eq_zero_or_pos l.length with h0 | hpos
  · obtain ⟨A, c, hv, _, _⟩ := Reads.of_own ho
    have hn : l = [] := List.eq_nil_of_length_eq_zero h0
    subst hn
    subst hv
    have HO := Lib.hid ho
    clear ho
    go_enter Try.func33, Try.ntmps33
    go_wp2_with fail
    go_loop [1, 5] (fun t i => t = .int .i64 1 ∧ i = .int .i64 0) (fun _ _ => 0)
    case atStart => exact ⟨rfl, rfl⟩
    case round =>
      obtain ⟨rfl, rfl⟩ := hrel
      go_wp2_with fail
      go_ret
      exact ⟨rfl, World.grownBy.refl _ _, HO.out⟩
  · obtain ⟨g, cap, hv, hbg, hgl⟩ := ho.form hpos
    subst hv
    go_enter Try.func33, Try.ntmps33
    go_wp2_with fail
    go_loopw [1, 5] (fun t i wr => ∃ k : Nat, k ≤ l.length ∧ i = .int .i64 k ∧ t = .int .i64 (1 + 3 * (k : Int)) ∧ w.grownBy wr (some g) ∧ wr.ownsRow base 25 3 (.slice (some ⟨g, 0, none⟩) l.length cap) l.length (cellsC (halfC l k))) (fun _ i _ => l.length - (intOf i).toNat)
    case atStart => exact ⟨0, Nat.zero_le _, rfl, rfl, World.grownBy.refl _ _, by simpa [halfC, markC] using ho⟩
    case round =>
      obtain ⟨k, hk, rfl, rfl, hg, hown⟩ := hrel
      clear ho
      by_cases hlt : k < l.length
      · obtain ⟨d1, d2, d3, d4, d5, d6⟩ := own_cells hown (halfC_at hlt)
        have hkl : (k : Int) < (l.length : Int) := by omega
        have HS := Lib.hid (halfC_set hlt)
        go_wp2_with fail
        go_roundw
        case rel =>
          refine ⟨k + 1, by omega, by go_num, by rw [show (1 : Int) + 3 * ((k + 1 : Nat) : Int) = 1 + 3 * (k : Int) + 1 + 1 + 1 from by omega], grown_store (grown_store (grown_store hg)), ?_⟩
          have := own_store3 hown (by rw [halfC_len hk]; exact hlt) ⟨1 + 3 * (k : Int), 1 + 3 * (k : Int) + 1, 1 + 3 * (k : Int) + 1 + 1⟩
          rw [HS.out] at this
          exact this
        case measure => simp [intOf]; omega
      · have hkl : k = l.length := by omega
        have HK := Lib.hid hkl
        clear hkl
        go_wp2_with fail
        go_ret
        refine ⟨ret_int (by rw [HK.out]), hg, ?_⟩
        have := hown
        rw [HK.out, show halfC l l.length = markC l.length from by simp [halfC]] at this
        exact this

theorem markC_at {n k : Nat} (hk : k < n) : (markC n)[k]? = some ⟨1 + 3 * (k : Int), 1 + 3 * (k : Int) + 1, 1 + 3 * (k : Int) + 1 + 1⟩ := by
  simp [markC, hk]
set_option maxHeartbeats 800000 in
theorem held_any (A : Option Addr) (cap n : Nat) (w : World) (hr : Reads w w.heap.size 3 A n (cellsC (markC n))) (hl : n ≤ 1000000000000) :
    Calls Try.prog 34 #[.slice A n cap, .int .i64 1] w fun e w2 => e = .returned (.int .i64 (1 + 3 * (n : Int))) ∧ w = w2 := by
  go_enter Try.func34, Try.ntmps34
  go_wp2_with fail
  go_loop [1, 5] (fun t i => ∃ k : Nat, k ≤ n ∧ i = .int .i64 k ∧ t = .int .i64 (1 + 3 * (k : Int))) (fun _ i => n - (intOf i).toNat)
  case atStart => exact ⟨0, Nat.zero_le _, rfl, rfl⟩
  case round =>
    obtain ⟨k, hk, rfl, rfl⟩ := hrel
    by_cases hlt : k < n
    · obtain ⟨b, off, hA, hbb, hc⟩ := hr.ctx (by omega)
      subst hA
      obtain ⟨c1, c2, c3⟩ := hc k _ (markC_at hlt)
      have hkl : (k : Int) < (n : Int) := by omega
      clear hc hr
      go_wp2_with fail
      go_round
      case rel => exact ⟨k + 1, by omega, by go_num, by rw [show (1 : Int) + 3 * ((k + 1 : Nat) : Int) = 1 + 3 * (k : Int) + 1 + 1 + 1 from by omega]⟩
      case measure => simp [intOf]; omega
    · have hkl : k = n := by omega
      have HK := Lib.hid hkl
      clear hkl
      go_wp2_with fail
      go_ret
      exact ⟨ret_int (by rw [HK.out]), rfl⟩
end Go.Proofs.Ytfcjhpgohcbcaaa
