/- Levels found in the order of digging: each place gives its level to what lies below it. Plain data. -/
import Derived.Test.YtjkjnicgbfpjiaaLv
import Derived.Test.YtjkjnicgbfpjiaaOp
namespace Go.Proofs.Ytjkjnicgbfpjiaa
open Go.RowKit

/-- The level as far as what has been dug tells it. -/
def lvD (f : Nat → Nat → Bool) (n : Nat) (d : Nat → Bool) (q : Nat) : Nat := mxN (fun i => if (d i && f i q) = true then levG f n i + 1 else 0) n
section
variable {f : Nat → Nat → Bool} {n : Nat} {d : Nat → Bool}
theorem lvD_none (q : Nat) : lvD f n (fun _ => false) q = 0 := by
  refine Nat.le_zero.1 (mxN_le n fun i _ => ?_)
  simp
theorem lvD_no {a q : Nat} (h : f a q = false) : lvD f n (dugB d a) q = lvD f n d q := by
  refine mxN_same n fun i _ => ?_
  by_cases e : i = a
  · subst e; simp [h]
  · simp [dugB, e]
theorem lvD_yes {a q : Nat} (ha : a < n) (h : f a q = true) : lvD f n (dugB d a) q = max (lvD f n d q) (levG f n a + 1) := by
  apply Nat.le_antisymm
  · refine mxN_le n fun i hi => ?_
    by_cases e : i = a
    · subst e
      split
      · exact Nat.le_max_right _ _
      · exact Nat.zero_le _
    · have := mxN_ge (fun i => if (d i && f i q) = true then levG f n i + 1 else 0) n hi
      refine Nat.le_trans ?_ (Nat.le_max_left _ _)
      refine Nat.le_trans ?_ this
      simp [dugB, e]
  · refine Nat.max_le.2 ⟨mxN_le n fun i hi => ?_, ?_⟩
    · have := mxN_ge (fun i => if (dugB d a i && f i q) = true then levG f n i + 1 else 0) n hi
      refine Nat.le_trans ?_ this
      by_cases e : (d i && f i q) = true
      · rw [if_pos e, if_pos]
        · exact Nat.le_refl _
        · rw [Bool.and_eq_true] at e ⊢
          exact ⟨dugB_of e.1, e.2⟩
      · rw [if_neg e]; exact Nat.zero_le _
    · have := mxN_ge (fun i => if (dugB d a i && f i q) = true then levG f n i + 1 else 0) n ha
      rw [if_pos (by rw [dugB_self, h]; rfl)] at this
      exact this
/-- A place that is free has its level. -/
theorem lvD_free (ht : ∀ i j k, f i j = true → f j k = true → f i k = true) (hi : ∀ i, f i i = false) {a : Nat} (h : freeB f n d a = true) : lvD f n d a = levG f n a := by
  rw [levG_fix ht hi a]
  refine mxN_same n fun i hin => ?_
  cases hf : f i a
  · simp
  · cases hd : d i
    · rw [(freeB_iff.1 h).2 i hin hd] at hf; cases hf
    · simp
theorem lvD_all (ht : ∀ i j k, f i j = true → f j k = true → f i k = true) (hi : ∀ i, f i i = false) (h : ∀ i, i < n → d i = true) (q : Nat) : lvD f n d q = levG f n q := by
  rw [levG_fix ht hi q]
  refine mxN_same n fun i hin => ?_
  rw [h i hin, Bool.true_and]
theorem left_nought (h : leftN n d = 0) {i : Nat} (hi : i < n) : d i = true := by
  unfold leftN at h
  rw [List.length_eq_zero_iff, List.filter_eq_nil_iff] at h
  simpa using h i (List.mem_range.2 hi)
end
/-- Levels as they are while the place a gives its own to those below it: the first j have been seen. -/
def lvL (f : Nat → Nat → Bool) (n : Nat) (d : Nat → Bool) (a j : Nat) : List Int := (List.range n).map fun q => ((if q < j then lvD f n (dugB d a) q else lvD f n d q : Nat) : Int)
def lv0 (f : Nat → Nat → Bool) (n : Nat) (d : Nat → Bool) : List Int := (List.range n).map fun q => (lvD f n d q : Int)
section
variable {f : Nat → Nat → Bool} {n : Nat} {d : Nat → Bool} {a j : Nat}
theorem lvL_len : (lvL f n d a j).length = n := by simp [lvL]
theorem lv0_len : (lv0 f n d).length = n := by simp [lv0]
theorem lvL_start : lvL f n d a 0 = lv0 f n d := by simp [lvL, lv0]
theorem lvL_end : lvL f n d a n = lv0 f n (dugB d a) := by
  unfold lvL lv0
  refine List.map_congr_left fun q hq => ?_
  rw [if_pos (List.mem_range.1 hq)]
theorem lvL_at {q : Nat} (hq : q < n) : (lvL f n d a j)[q]? = some ((if q < j then lvD f n (dugB d a) q else lvD f n d q : Nat) : Int) := by simp [lvL, hq]
theorem lvL_skip (hj : j < n) (h : f a j = false) : lvL f n d a (j + 1) = lvL f n d a j := by
  unfold lvL
  refine List.map_congr_left fun q _ => ?_
  by_cases e : q = j
  · subst e
    rw [if_pos (by omega), if_neg (by omega), lvD_no h]
  · by_cases h2 : q < j
    · rw [if_pos h2, if_pos (by omega)]
    · rw [if_neg h2, if_neg (by omega)]
theorem lvL_put (ha : a < n) (hj : j < n) (h : f a j = true) (hl : lvD f n d a = levG f n a) (hir : f a a = false) : ∃ x y : Nat, (lvL f n d a j)[j]? = some (x : Int) ∧ (lvL f n d a j)[a]? = some (y : Int) ∧ x ≤ n + 1 ∧ y ≤ n ∧ (lvL f n d a j).set j ((max x (y + 1) : Nat) : Int) = lvL f n d a (j + 1) := by
  have hle : ∀ (d : Nat → Bool) q, lvD f n d q ≤ n + 1 := fun d q => mxN_le n fun i _ => by
    have := levG_le (f := f) (n := n) i
    split <;> omega
  refine ⟨lvD f n d j, levG f n a, ?_, ?_, ?_, levG_le a, ?_⟩
  · rw [lvL_at hj, if_neg (Nat.lt_irrefl j)]
  · rw [lvL_at ha]
    by_cases h2 : a < j
    · rw [if_pos h2, lvD_no hir, hl]
    · rw [if_neg h2, hl]
  · exact hle d j
  · apply List.ext_getElem?
    intro q
    rw [List.getElem?_set, lvL_len]
    by_cases e : j = q
    · subst e
      rw [if_pos rfl, if_pos hj, lvL_at hj, if_pos (by omega), lvD_yes ha h]
    · rw [if_neg e]
      by_cases hq : q < n
      · rw [lvL_at hq, lvL_at hq]
        by_cases h2 : q < j
        · rw [if_pos h2, if_pos (by omega)]
        · rw [if_neg h2, if_neg (by omega)]
      · rw [List.getElem?_eq_none (by rw [lvL_len]; omega), List.getElem?_eq_none (by rw [lvL_len]; omega)]
/-- Behind the last one they are the levels. -/
theorem lv0_end (ht : ∀ i j k, f i j = true → f j k = true → f i k = true) (hi : ∀ i, f i i = false) : lv0 f n (dT f n n) = levL f n := by
  unfold lv0 levL
  refine List.map_congr_left fun q _ => ?_
  have h := (d_closed (n := n) hi ht n (Nat.le_refl _)).1
  rw [lvD_all ht hi (fun i hin => left_nought (h.trans (Nat.sub_self n)) hin)]
theorem lv0_zero : lv0 f n (fun _ => false) = List.replicate n 0 := by
  apply List.ext_getElem?
  intro q
  by_cases hq : q < n
  · simp [lv0, hq, lvD_none]
  · simp [lv0, hq]
end
end Go.Proofs.Ytjkjnicgbfpjiaa
