/- What the program's search for a relation's place returns. -/
import Derived.Test.YtmcnjmflmpfjlaaP2
namespace Go.Proofs.Ytmcnjmflmpfjlaa
open Go.RowKit

/-- Whether a relation stands at a place. -/
def hereR (l : List Ctx) (c : Ctx) (k : Nat) : Bool := match l[k]? with | none => false | some d => eqC d c
/-- All before k are less, the one at k is not. -/
def Placed (l : List Ctx) (c : Ctx) (k : Nat) : Prop := k ≤ l.length ∧ (∀ (j : Nat) (d : Ctx), j < k → l[j]? = some d → lessR d c = true) ∧ ∀ d, l[k]? = some d → lessR d c = false
def SearchPost (w : World) (l : List Ctx) (c : Ctx) (e : Ending) (w2 : World) : Prop := ∃ k : Nat, e = .returned (.tuple #[.int .i64 k, .bool (hereR l c k)]) ∧ Placed l c k ∧ Below w.heap.size w w2
theorem ret_ib {k : Int} {a b : Bool} (h : a = b) : Ending.returned (.tuple #[.int .i64 k, .bool a]) = .returned (.tuple #[.int .i64 k, .bool b]) := by rw [h]
theorem cmpR_less {a b : Ctx} (h : lessR a b = true) : decide (cmpR a b < 0) = true := by rw [cmpR_neg, h]
theorem cmpR_more {a b : Ctx} (h : lessR a b = false) : decide (cmpR a b < 0) = false := by rw [cmpR_neg, h]
theorem pair_down {l : List Ctx} (hp : l.Pairwise (fun c d => lessR c d = true)) {c : Ctx} {i j : Nat} {d e : Ctx} (hi : l[i]? = some d) (hj : l[j]? = some e) (hij : i ≤ j) (h : lessR e c = true) : lessR d c = true := by
  rcases Nat.lt_or_ge i j with hlt | hge
  · rw [List.pairwise_iff_getElem] at hp
    obtain ⟨h1, rfl⟩ := List.getElem?_eq_some_iff.1 hi
    obtain ⟨h2, rfl⟩ := List.getElem?_eq_some_iff.1 hj
    exact lessR_tr _ _ _ (hp i j h1 h2 hlt) h
  · obtain rfl : i = j := by omega
    rw [hi] at hj
    injection hj with hj
    exact hj ▸ h

set_option maxHeartbeats 2000000 in
set_option maxRecDepth 100000 in
theorem search_any (A : Option Addr) (cap : Nat) (l : List Ctx) (c : Ctx) (w : World) (hr : Reads w w.heap.size 3 A l.length (cellsC l)) (hl : l.length ≤ 1000000000) (hp : l.Pairwise (fun c d => lessR c d = true)) :
    Calls Try.prog 106 #[.slice A l.length cap, .agg #[.int .i64 c.id, .int .i64 c.kind, .int .i64 c.area], .func (.func 105) #[] #[]] w (SearchPost w l c) := by
  have a0 : Aft 44 w c (w.alloc (.cells #[.int .i64 c.id, .int .i64 c.kind, .int .i64 c.area] 44)) := Below.refl _ _
  have HA0 := Lib.hid a0
  have HP := Lib.hid hp
  clear a0 hp
  go_enter Try.func106, Try.ntmps106
  go_wp2_with fail
  go_loopw [9, 10] (fun vi vj wr => ∃ i j : Nat, i ≤ j ∧ j ≤ l.length ∧ vi = .int .i64 i ∧ vj = .int .i64 j ∧ Aft 44 w c wr ∧ (∀ (p : Nat) (d : Ctx), p < i → l[p]? = some d → lessR d c = true) ∧ ∀ (p : Nat) (d : Ctx), j ≤ p → l[p]? = some d → lessR d c = false) (fun vi vj _ => (intOf vj - intOf vi).toNat)
  case atStart => exact ⟨0, l.length, Nat.zero_le _, Nat.le_refl _, rfl, rfl, HA0.out, fun p d h => absurd h (by omega), fun p d h hd => by rw [List.getElem?_eq_none h] at hd; cases hd⟩
  case round =>
    obtain ⟨i, j, hij, hj, rfl, rfl, ha, hlo, hhi⟩ := hrel
    have HL := Lib.hid hlo
    have HH := Lib.hid hhi
    clear hlo hhi
    obtain ⟨b0, b1, b2⟩ := ha.cells
    by_cases hlt : i < j
    · have hltI : (i : Int) < (j : Int) := by omega
      obtain ⟨b, off, hA, hbl, hc⟩ := (ha.reads hr).ctx (by omega)
      subst hA
      have hs0 : (0 : Int) ≤ (i : Int) + (j : Int) := by omega
      have hs1 : (i : Int) + (j : Int) ≤ 2000000000 := by omega
      obtain ⟨h, hh⟩ : ∃ h : Nat, h = (i + j) / 2 := ⟨_, rfl⟩
      have hq : ((i : Int) + (j : Int)) / 2 = (h : Int) := by omega
      have hih : i ≤ h := by omega
      have hhj : h < j := by omega
      have hhl : h < l.length := by omega
      have hsz := ha.sz
      have hk0 : l[h]? = some l[h] := List.getElem?_eq_getElem hhl
      have HK := Lib.hid hk0
      obtain ⟨c1, c2, c3⟩ := hc h _ hk0
      have hx := ext_cell (w := wr) (B := wr.heap.size) (Nat.lt_trans hbl hsz)
      have hx2 := ext_cell (w := wr) (B := wr.heap.size) hsz
      have HA := Lib.hid ha
      clear hc hk0 ha hh hr
      cases hid : lessR l[h] c
      · have e1 := cmpR_more hid
        have HI := Lib.hid hid
        clear hid
        go_wp2_with fail
        refine wp_region_ext wr.heap.size (by kernel_rfl) (by kernel_rfl) ?_
        repeat (go_big_quiet_step ((go_at_call 105; exact calls_ext (Nat.le_refl _) (cmpR_any l[h] c _))))
        refine wpQuiet_nil ?_
        rintro _ ⟨x, rfl⟩
        have hax := HA.out.step x.below
        clear hx hx2
        go_wp2_with fail
        go_roundw
        case rel =>
          refine ⟨i, h, hih, by omega, rfl, rfl, hax, HL.out, fun p d hp hd => ?_⟩
          cases hle : lessR d c
          · rfl
          · have := pair_down HP.out HK.out hd hp hle
            rw [HI.out] at this
            cases this
        case measure => simp [intOf]; omega
      · have e1 := cmpR_less hid
        have HI := Lib.hid hid
        clear hid
        go_wp2_with fail
        refine wp_region_ext wr.heap.size (by kernel_rfl) (by kernel_rfl) ?_
        repeat (go_big_quiet_step ((go_at_call 105; exact calls_ext (Nat.le_refl _) (cmpR_any l[h] c _))))
        refine wpQuiet_nil ?_
        rintro _ ⟨x, rfl⟩
        have hax := HA.out.step x.below
        clear hx hx2
        go_wp2_with fail
        go_roundw
        case rel =>
          refine ⟨h + 1, j, by omega, hj, by go_num, rfl, hax, fun p d hp hd => ?_, HH.out⟩
          exact pair_down HP.out hd HK.out (by omega) HI.out
        case measure => simp [intOf]; omega
    · obtain rfl : i = j := by omega
      have HPl : Hid (Placed l c i) := ⟨hj, HL.out, fun d hd => HH.out i d (Nat.le_refl _) hd⟩
      have hsz := ha.sz
      have HA := Lib.hid ha
      by_cases hil : i < l.length
      · obtain ⟨b, off, hA, hbl, hc⟩ := (ha.reads hr).ctx (by omega)
        subst hA
        have hk0 : l[i]? = some l[i] := List.getElem?_eq_getElem hil
        have HE : Hid (hereR l c i = (cmpR l[i] c == 0)) := by
          show hereR l c i = _
          unfold hereR
          rw [hk0]
          show eqC l[i] c = _
          rw [Bool.eq_iff_iff, eqC_iff, beq_iff_eq, cmpR_zero]
        obtain ⟨c1, c2, c3⟩ := hc i _ hk0
        have e0 : decide (i < l.length) = true := by simp [hil]
        have hx := ext_cell (w := wr) (B := wr.heap.size) (Nat.lt_trans hbl hsz)
        have hx2 := ext_cell (w := wr) (B := wr.heap.size) hsz
        clear hc hk0 ha hr
        go_wp2_with fail
        refine wp_region_ext wr.heap.size (by kernel_rfl) (by kernel_rfl) ?_
        repeat (go_big_quiet_step ((go_at_call 105; exact calls_ext (Nat.le_refl _) (cmpR_any l[i] c _))))
        refine wpQuiet_nil ?_
        rintro _ ⟨x, rfl⟩
        have hax := HA.out.step x.below
        clear hx hx2
        go_wp2_with fail
        go_ret2
        exact ⟨i, ret_ib HE.out.symm, HPl.out, hax.below⟩
      · have e0 : decide (i < l.length) = false := by simp; omega
        have HE : Hid (hereR l c i = false) := by
          show hereR l c i = false
          unfold hereR
          rw [List.getElem?_eq_none (by omega)]
        clear hr ha
        go_wp2_with fail
        refine wp_region_ext wr.heap.size (by kernel_rfl) (by kernel_rfl) ?_
        repeat (go_big_quiet_step (fail))
        refine wpQuiet_nil ?_
        rintro _ ⟨x, rfl⟩
        have hax := HA.out.step x.below
        go_wp2_with fail
        go_ret2
        exact ⟨i, ret_ib HE.out.symm, HPl.out, hax.below⟩

/-- The program's place of a relation. -/
theorem place_any (A : Option Addr) (cap : Nat) (l : List Ctx) (c : Ctx) (w : World) (hr : Reads w w.heap.size 3 A l.length (cellsC l)) (hl : l.length ≤ 1000000000) (hp : l.Pairwise (fun c d => lessR c d = true)) :
    Calls Try.prog 84 #[.slice A l.length cap, .agg #[.int .i64 c.id, .int .i64 c.kind, .int .i64 c.area]] w (SearchPost w l c) := by
  have hb0 := (Below.refl w.heap.size w).alloc (Nat.le_refl _) (.cells #[.int .i64 c.id, .int .i64 c.kind, .int .i64 c.area] 44)
  have hr1 := hr.step hb0
  clear hr
  go_enter Try.func84, Try.ntmps84
  go_wp2_with fail
  refine (search_any A cap l c _ hr1 hl hp).mono ?_
  rintro e w2 ⟨k, rfl, hk, hb⟩
  go_wp2_with fail
  go_ret2
  exact ⟨k, rfl, hk, below_step hb0 hb⟩
end Go.Proofs.Ytmcnjmflmpfjlaa
