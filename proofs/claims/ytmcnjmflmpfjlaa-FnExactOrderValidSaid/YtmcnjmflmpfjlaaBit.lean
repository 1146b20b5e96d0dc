/- Rows of places as numbers: a bit for each place. Plain data. -/
import Derived.Test.YtmcnjmflmpfjlaaBase
namespace Go.Proofs.Ytmcnjmflmpfjlaa

/-- The number whose bits are the places below n at which f holds. -/
def bitN : Nat → (Nat → Bool) → Nat
  | 0, _ => 0
  | n + 1, f => bitN n f ||| (if f n = true then 2 ^ n else 0)
theorem bitN_test (f : Nat → Bool) (j : Nat) : ∀ n : Nat, (bitN n f).testBit j = (decide (j < n) && f j)
  | 0 => by simp [bitN]
  | n + 1 => by
    rw [bitN, Nat.testBit_or, bitN_test f j n]
    by_cases e : n = j
    · subst e
      cases h : f n <;> simp
    · have e2 : ¬ j = n := fun h => e h.symm
      have e3 : decide (j < n + 1) = decide (j < n) := by rw [decide_eq_decide]; omega
      rw [e3]
      cases h : f n <;> simp [e]
theorem bitN_lt (n : Nat) (f : Nat → Bool) : bitN n f < 2 ^ n :=
  Nat.lt_pow_two_of_testBit _ fun i hi => by rw [bitN_test, decide_eq_false (by omega)]; rfl
theorem bitN_16 {n : Nat} (f : Nat → Bool) (hn : n ≤ 16) : bitN n f < 65536 := Nat.lt_of_lt_of_le (bitN_lt n f) (Nat.pow_le_pow_right (by omega) hn : 2 ^ n ≤ 2 ^ 16)
theorem bitN_ext {n : Nat} {f g : Nat → Bool} (h : ∀ j, j < n → f j = g j) : bitN n f = bitN n g := by
  refine Nat.eq_of_testBit_eq fun j => ?_
  rw [bitN_test, bitN_test]
  by_cases hj : j < n
  · rw [h j hj]
  · simp [hj]
theorem bitN_or (n : Nat) (f g : Nat → Bool) : bitN n f ||| bitN n g = bitN n (fun j => f j || g j) := by
  refine Nat.eq_of_testBit_eq fun j => ?_
  rw [Nat.testBit_or, bitN_test, bitN_test, bitN_test]
  cases decide (j < n) <;> simp
theorem bitN_and (n : Nat) (f g : Nat → Bool) : bitN n f &&& bitN n g = bitN n (fun j => f j && g j) := by
  refine Nat.eq_of_testBit_eq fun j => ?_
  rw [Nat.testBit_and, bitN_test, bitN_test, bitN_test]
  cases decide (j < n) <;> simp
theorem bitN_one {n i : Nat} (hi : i < n) : bitN n (fun j => decide (j = i)) = 2 ^ i := by
  refine Nat.eq_of_testBit_eq fun j => ?_
  rw [bitN_test, Nat.testBit_two_pow]
  by_cases e : j = i
  · subst e
    simp [hi]
  · have e2 : ¬ i = j := fun h => e h.symm
    simp [e, e2]
theorem bitN_zero (n : Nat) : bitN n (fun _ => false) = 0 := by
  refine Nat.eq_of_testBit_eq fun j => ?_
  rw [bitN_test]
  simp
theorem bitN_none {n : Nat} {f : Nat → Bool} (h : bitN n f = 0) {j : Nat} (hj : j < n) : f j = false := by
  have := bitN_test f j n
  rw [h, Nat.zero_testBit, decide_eq_true hj, Bool.true_and] at this
  exact this.symm
theorem bitN_has {n : Nat} {f : Nat → Bool} {j : Nat} (hj : j < n) (h : f j = true) : bitN n f ≠ 0 := fun e => by
  have := bitN_none e hj
  rw [h] at this
  cases this
theorem bitN_any (n : Nat) (f : Nat → Bool) : decide (bitN n f = 0) = !(List.range n).any f := by
  cases h : (List.range n).any f
  · rw [Bool.not_false, decide_eq_true_eq]
    refine (bitN_ext (g := fun _ => false) fun j hj => ?_).trans (bitN_zero n)
    rw [List.any_eq_false] at h
    have := h j (List.mem_range.2 hj)
    simpa using this
  · obtain ⟨j, hj, hf⟩ := List.any_eq_true.1 h
    rw [Bool.not_true, decide_eq_false_iff_not]
    exact bitN_has (List.mem_range.1 hj) hf
/-- The least place below n at which p holds. -/
def leastB (n : Nat) (p : Nat → Bool) : Nat := ((List.range n).find? p).getD 0
theorem find_range {p : Nat → Bool} {y : Nat} : ∀ {n : Nat}, (List.range n).find? p = some y → p y = true ∧ y < n ∧ ∀ z, z < y → p z = false
  | n, h => by
    have h1 : p y = true := List.find?_some h
    have h2 := List.mem_range.1 (List.mem_of_find?_eq_some h)
    refine ⟨h1, h2, fun z hz => ?_⟩
    obtain ⟨xs, ys, hs, hno⟩ := (List.find?_eq_some_iff_append.1 h).2
    have hlen : xs.length = y := by
      have h3 : (List.range n)[xs.length]? = some y := by rw [hs]; simp
      rw [List.getElem?_range (by have := congrArg List.length hs; simp at this; omega)] at h3
      injection h3
    have h4 : (List.range n)[z]? = xs[z]? := by rw [hs, List.getElem?_append_left (by omega)]
    rw [List.getElem?_range (by omega)] at h4
    have := hno z (List.mem_of_getElem? h4.symm)
    simpa using this
theorem leastB_spec {n : Nat} {p : Nat → Bool} {y : Nat} (hy : y < n) (h : p y = true) : p (leastB n p) = true ∧ leastB n p < n ∧ ∀ z, z < leastB n p → p z = false := by
  unfold leastB
  cases hf : (List.range n).find? p with
  | none =>
    have := List.find?_eq_none.1 hf y (List.mem_range.2 hy)
    rw [h] at this
    exact absurd rfl this
  | some x => exact find_range hf
theorem least_only {p : Nat → Bool} {x y : Nat} (hx : p x = true) (hx2 : ∀ z, z < x → p z = false) (hy : p y = true) (hy2 : ∀ z, z < y → p z = false) : x = y := by
  rcases Nat.lt_trichotomy x y with h | h | h
  · rw [hy2 x h] at hx; cases hx
  · exact h
  · rw [hx2 y h] at hy; cases hy
end Go.Proofs.Ytmcnjmflmpfjlaa
