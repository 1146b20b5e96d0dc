/- What the program's joining of lists of bounds returns. -/
import Derived.Test.YtjmbbepklofodaaTriBound
import Derived.Lib.AppendZerosOnto
import Derived.Lib.SliceRun
namespace Go.Proofs.Ytjmbbepklofodaa
open Go.RowKit

set_option maxHeartbeats 1000000 in
set_option maxRecDepth 100000 in
theorem grow_any (n : Nat) (w : World) (hn : n ≤ 1000000) :
    Calls Try.prog 48 #[.slice none 0 0, .int .i64 n] w fun e w2 => ∃ v, e = .returned v ∧ Below w.heap.size w w2 ∧ w2.ownsRow w.heap.size 29 3 v 0 [] := by
  rcases Nat.eq_zero_or_pos n with h0 | hpos
  · subst h0
    go_enter Try.func48, Try.ntmps48
    go_wp2_with fail
    go_ret
    exact ⟨_, rfl, Below.refl _ _, World.ownsRow_nil _ _ _ _⟩
  · obtain ⟨i0, hi0, hz0, hz1, hz2⟩ := info_parts infoBound
    have hnc : Builtin.nextslicecap n 0 = n := by unfold Builtin.nextslicecap; rw [if_pos (by omega)]
    have hrz : ∀ ty, (Builtin.append_ #[23, 3] ty #[.slice none 0 0, .int .i64 (n : Int)]).run Try.prog w = .ok (.slice (some ⟨w.heap.size, 0, none⟩) n (grownCap w n 0 29)) (w.drew.alloc (.cells (#[] ++ Builtin.zeroCells (Value.agg #[.int .i64 0, .int .i64 0, .int .i64 0]).cells n ++ Builtin.zeroCells (Value.agg #[.int .i64 0, .int .i64 0, .int .i64 0]).cells (grownCap w n 0 29 - n)) 29)) := fun ty => by
      have h := Lib.run_append_grow_zeros w 23 3 ty 29 i0 _ .i64 .i64 Try.underlying23 Try.underlying3 hi0 hz0 none 0 0 [] (run_firstCells_none w.drew i0.size 0 0 0) n hpos (by omega) (by omega) (by omega) (by rw [hz2]; omega) (by rw [Nat.zero_add, hnc, hz2]; omega)
      rw [Nat.zero_add] at h
      exact h
    obtain ⟨G, hG⟩ : ∃ G, G = grownCap w n 0 29 := ⟨_, rfl⟩
    have hGn : n ≤ G := by rw [hG]; exact grownCap_ge w _ _ _
    have hGm : G ≤ maxLen := by rw [hG]; exact grownCap_le_maxLen w n 0 _ (by unfold maxLen; omega)
    have hG63 : G ≤ 9223372036854775807 := hGm
    rw [← hG] at hrz
    obtain ⟨cur, hcur⟩ : ∃ cur, cur = #[] ++ Builtin.zeroCells (Value.agg #[.int .i64 0, .int .i64 0, .int .i64 0]).cells n ++ Builtin.zeroCells (Value.agg #[.int .i64 0, .int .i64 0, .int .i64 0]).cells (G - n) := ⟨_, rfl⟩
    have hsz : cur.size = G * 3 := by
      rw [hcur, Array.size_append, Array.size_append, size_zeroCells, size_zeroCells]
      show 0 + n * 3 + (G - n) * 3 = G * 3
      omega
    rw [← hcur] at hrz
    have HM := Lib.hid (World.ownsRow_made (w := w.drew) (base := w.heap.size) (e := 29) (size := 3) cur G (Nat.le_refl _) hGm hsz)
    have h4 : (0 : Int) < (n : Int) := by omega
    clear hG hcur hsz hnc hz2
    go_enter Try.func48, Try.ntmps48
    go_wp2_with (at_builtin; refine Lib.wpList_append_run _ rfl _ _ _ _ rfl _ _ rfl rfl _ _ (hrz _) ?_)
    go_ret
    exact ⟨_, rfl, (Below.refl _ _).drew.alloc (Nat.le_refl _) _, HM.out⟩

/-- A part of what is joined. -/
def Part (w : World) (v : Value) (m : List Ctx) : Prop := ∃ A c, v = .slice A m.length c ∧ Reads w w.heap.size 3 A m.length (cellsC m)
def flatN (ms : List (List Ctx)) (k : Nat) : List Ctx := (ms.take k).flatten
theorem flatN_succ {ms : List (List Ctx)} {k : Nat} {m : List Ctx} (h : ms[k]? = some m) : flatN ms (k + 1) = flatN ms k ++ m := by
  unfold flatN
  rw [List.take_add_one, h]
  simp
theorem flatN_le (ms : List (List Ctx)) (k : Nat) : (flatN ms k).length ≤ ms.flatten.length := by
  unfold flatN
  have h := congrArg (fun x => List.length (List.flatten x)) (List.take_append_drop k ms)
  simp only [List.flatten_append, List.length_append] at h
  omega
theorem flatN_all {ms : List (List Ctx)} {k : Nat} (h : ms.length ≤ k) : flatN ms k = ms.flatten := by
  unfold flatN; rw [List.take_of_length_le h]
/-- A list of its own was made. -/
def Made (w : World) (m : List Ctx) (e : Ending) (w2 : World) : Prop := ∃ v, e = .returned v ∧ Below w.heap.size w w2 ∧ w2.ownsRow w.heap.size 29 3 v m.length (cellsC m)

set_option maxHeartbeats 2000000 in
set_option maxRecDepth 100000 in
theorem concat_any (A : Option Addr) (cap : Nat) (vs : List Value) (ms : List (List Ctx)) (w : World) (hr : Reads w w.heap.size 1 A vs.length vs) (hlen : vs.length = ms.length) (hsm : vs.length ≤ 1000)
    (hp : ∀ (i : Nat) (v : Value) (m : List Ctx), vs[i]? = some v → ms[i]? = some m → Part w v m) (htot : ms.flatten.length ≤ 1000000) :
    Calls Try.prog 46 #[.slice A vs.length cap] w (Made w ms.flatten) := by
  obtain ⟨i0, hi0, hz0, hz1, hz2⟩ := info_parts infoBound
  have HP := Lib.hid hp
  have HLn := Lib.hid hlen
  clear hp hlen
  go_enter Try.func46, Try.ntmps46
  go_wp2_with fail
  go_loop [3, 11] (fun vn vi => ∃ k : Nat, k ≤ vs.length ∧ vi = .int .i64 k ∧ vn = .int .i64 ((flatN ms k).length : Nat)) (fun _ vi => vs.length - (intOf vi).toNat)
  case atStart => exact ⟨0, Nat.zero_le _, rfl, rfl⟩
  case round =>
    obtain ⟨k, hk, rfl, rfl⟩ := hrel
    have hfk := flatN_le ms k
    by_cases hlt : k < vs.length
    · obtain ⟨b, off, hA, hbl, hc⟩ := hr.2 (by omega)
      subst hA
      have hv0 : vs[k]? = some vs[k] := List.getElem?_eq_getElem hlt
      have hm0 : ms[k]? = some (ms[k]'(by have := HLn.out; omega)) := List.getElem?_eq_getElem _
      obtain ⟨Ak, ck, hvk, hrk⟩ := HP.out k _ _ hv0 hm0
      have c1 := hc k _ hv0
      rw [hvk] at c1
      have HF := Lib.hid (flatN_succ hm0)
      obtain ⟨m, hm⟩ : ∃ m, m = (ms[k]'(by have := HLn.out; omega)) := ⟨_, rfl⟩
      rw [← hm] at c1 HF
      have hle := flatN_le ms (k + 1)
      rw [HF.out, List.length_append] at hle
      have hne : decide ((((flatN ms k).length : Int) + (m.length : Int)) < 0) = false := by simp; omega
      clear hc hv0 hm0 hvk hrk hm hr
      go_wp2_with fail
      go_round
      case rel => exact ⟨k + 1, by omega, by go_num, by rw [HF.out, List.length_append]; go_num⟩
      case measure => simp [intOf]; omega
    · have HE := Lib.hid (flatN_all (ms := ms) (k := k) (by have := HLn.out; omega))
      have hr0 := hr
      go_wp2_with fail
      refine (grow_any _ _ (by omega)).mono ?_
      rintro e w2 ⟨v2, rfl, hb2, ho2⟩
      go_wp2_with fail
      go_loopw [6, 27] (fun v vi wr => ∃ j : Nat, j ≤ vs.length ∧ vi = .int .i64 j ∧ Below w.heap.size w wr ∧ wr.ownsRow w.heap.size 29 3 v (flatN ms j).length (cellsC (flatN ms j))) (fun _ vi _ => vs.length - (intOf vi).toNat)
      case atStart => exact ⟨0, Nat.zero_le _, rfl, hb2, ho2⟩
      case round =>
        obtain ⟨j, hj, rfl, hb, ho⟩ := hrel
        by_cases hlt2 : j < vs.length
        · obtain ⟨b, off, hA, hbl, hc⟩ := (hr0.below hb).2 (by omega)
          subst hA
          have hv0 : vs[j]? = some vs[j] := List.getElem?_eq_getElem hlt2
          have hm0 : ms[j]? = some (ms[j]'(by have := HLn.out; omega)) := List.getElem?_eq_getElem _
          obtain ⟨Ak, ck, hvk, hrk⟩ := HP.out j _ _ hv0 hm0
          have c1 := hc j _ hv0
          rw [hvk] at c1
          have HF := Lib.hid (flatN_succ hm0)
          obtain ⟨m, hm⟩ : ∃ m, m = (ms[j]'(by have := HLn.out; omega)) := ⟨_, rfl⟩
          rw [← hm] at c1 HF hrk
          have hle := flatN_le ms (j + 1)
          rw [HF.out, List.length_append] at hle
          have hrk2 := hrk.below hb
          have hbs := hb.size
          have HB := Lib.hid hb
          clear hc hv0 hm0 hvk hrk hm hr hr0 hb
          obtain ⟨Av, cv, hv, hcv, hrv⟩ := Reads.of_own ho
          subst hv
          go_wp2_with (first
            | (at_builtin
               go_must (refine wpList_append_reads _ rfl (.tmp 31) (.tmp 32) _ rfl w.heap.size 29 i0 _ 3 24 Try.underlying23 hi0 hz0 hz1 hz2 rfl (by omega) (.slice Av (flatN ms j).length cv) _ _ rfl ho _ _ m.length _ (cellsC m) rfl hrk2 (cellsC_one _) (by simp only [maxLen]; omega) (by omega) (by omega) ?_)
               intro v3 w3 hown3 hg3 hat3
               have hb3 := below_grown ho hg3 HB.out (Nat.le_refl _)))
          go_roundw
          case rel => exact ⟨j + 1, by omega, by go_num, hb3, by rw [HF.out, List.length_append, cellsC_append]; exact hown3⟩
          case measure => simp [intOf]; omega
        · have HE2 := Lib.hid (flatN_all (ms := ms) (k := j) (by have := HLn.out; omega))
          obtain ⟨Av, cv, hv, hcv, hrv⟩ := Reads.of_own ho
          subst hv
          go_wp2_with fail
          go_ret
          exact ⟨_, rfl, hb, by rw [← HE2.out]; exact ho⟩

theorem reads_vals {w : World} {vs : List Value} {t : TypeId} {g B : Nat} (hg : g = w.heap.size) (hB : g < B) : Reads (w.alloc (.cells vs.toArray t)) B 1 (some ⟨g, 0, none⟩) vs.length vs := by
  subst hg
  refine ⟨by omega, fun _ => ⟨_, 0, rfl, hB, fun j u hu => ?_⟩⟩
  rw [cell_of_row _ _ _ _ _ _ (heap_alloc_new _ _)]
  simpa using hu
theorem part_mk {w : World} {A : Option Addr} {n c : Nat} {m : List Ctx} (hr : Reads w w.heap.size 3 A n (cellsC m)) : Part w (.slice A n c) m := by
  have := hr.len
  subst this
  exact ⟨A, c, rfl, hr⟩
theorem parts1 {w : World} {v : Value} {m : List Ctx} (h : Part w v m) : ∀ (i : Nat) (x : Value) (y : List Ctx), [v][i]? = some x → [m][i]? = some y → Part w x y := by
  intro i x y hx hy
  match i with
  | 0 => simp at hx hy; subst hx hy; exact h
  | i + 1 => simp at hx
theorem parts2 {w : World} {v v2 : Value} {m m2 : List Ctx} (h : Part w v m) (h2 : Part w v2 m2) : ∀ (i : Nat) (x : Value) (y : List Ctx), [v, v2][i]? = some x → [m, m2][i]? = some y → Part w x y := by
  intro i x y hx hy
  match i with
  | 0 => simp at hx hy; subst hx hy; exact h
  | i + 1 => exact parts1 h2 i x y (by simpa using hx) (by simpa using hy)
theorem parts3 {w : World} {v v2 v3 : Value} {m m2 m3 : List Ctx} (h : Part w v m) (h2 : Part w v2 m2) (h3 : Part w v3 m3) : ∀ (i : Nat) (x : Value) (y : List Ctx), [v, v2, v3][i]? = some x → [m, m2, m3][i]? = some y → Part w x y := by
  intro i x y hx hy
  match i with
  | 0 => simp at hx hy; subst hx hy; exact h
  | i + 1 => exact parts2 h2 h3 i x y (by simpa using hx) (by simpa using hy)
theorem made_mono {w w1 : World} {m m2 : List Ctx} {e : Ending} {w2 : World} (h : Made w1 m e w2) (hb : Below w.heap.size w w1) (he : m = m2) : Made w m2 e w2 := by
  subst he
  obtain ⟨v, he, hb2, ho⟩ := h
  exact ⟨v, he, below_step hb hb2, own_less ho hb.size⟩

theorem reads_drew {w : World} {B size n : Nat} {A : Option Addr} {xs : List Value} (h : Reads w B size A n xs) : Reads w.drew B size A n xs := h
theorem below_drew {w w2 : World} {B : Nat} (h : Below B w w2) : Below B w w2.drew := below_draws h 1
end Go.Proofs.Ytjmbbepklofodaa
