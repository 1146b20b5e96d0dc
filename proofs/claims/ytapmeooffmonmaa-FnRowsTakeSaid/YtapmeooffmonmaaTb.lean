/- Tables of a relation of places. Plain data. -/
import Derived.Test.YtapmeooffmonmaaBase
namespace Go.Proofs.Ytapmeooffmonmaa

/-- The table of a relation of n places. -/
def tabN (n : Nat) (f : Nat → Nat → Bool) : List (List Bool) := (List.range n).map fun i => (List.range n).map (f i)
def rowN (n : Nat) (f : Nat → Bool) : List Bool := (List.range n).map f
theorem rowN_len (n : Nat) (f : Nat → Bool) : (rowN n f).length = n := by simp [rowN]
theorem tabN_len (n : Nat) (f : Nat → Nat → Bool) : (tabN n f).length = n := by simp [tabN]
theorem tabN_row {n i : Nat} (f : Nat → Nat → Bool) (hi : i < n) : (tabN n f)[i]? = some (rowN n (f i)) := by simp [tabN, rowN, hi]
theorem rowN_at {n j : Nat} (f : Nat → Bool) (hj : j < n) : (rowN n f)[j]? = some (f j) := by simp [rowN, hj]
theorem rowN_congr {n : Nat} {f g : Nat → Bool} (h : ∀ j, j < n → f j = g j) : rowN n f = rowN n g := by
  unfold rowN
  exact List.map_congr_left fun j hj => h j (List.mem_range.1 hj)
theorem tabN_congr {n : Nat} {f g : Nat → Nat → Bool} (h : ∀ i j, i < n → j < n → f i j = g i j) : tabN n f = tabN n g := by
  unfold tabN
  exact List.map_congr_left fun i hi => List.map_congr_left fun j hj => h i j (List.mem_range.1 hi) (List.mem_range.1 hj)
theorem rowN_set {n j : Nat} (f : Nat → Bool) (x : Bool) : (rowN n f).set j x = rowN n (fun b => if b = j then x else f b) := by
  refine List.ext_getElem? fun b => ?_
  rw [List.getElem?_set]
  by_cases hb : j = b
  · subst hb
    by_cases hj : j < n <;> simp [rowN, hj]
  · rw [if_neg hb]
    by_cases h : b < n
    · have hb2 : ¬ b = j := fun e => hb e.symm
      simp [rowN, h, hb2]
    · simp [rowN, h]
theorem tabN_set {n i j : Nat} (f : Nat → Nat → Bool) (x : Bool) : (tabN n f).set i ((rowN n (f i)).set j x) = tabN n (fun a b => if a = i ∧ b = j then x else f a b) := by
  refine List.ext_getElem? fun a => ?_
  rw [List.getElem?_set]
  by_cases ha : i = a
  · subst ha
    by_cases hi : i < n
    · rw [if_pos rfl, if_pos (by rw [tabN_len]; exact hi), tabN_row _ hi, rowN_set]
      simp
    · rw [if_pos rfl, if_neg (by rw [tabN_len]; exact hi)]
      simp [tabN, hi]
  · rw [if_neg ha]
    by_cases h : a < n
    · rw [tabN_row _ h, tabN_row _ h]
      congr 1
      have ha2 : ¬ a = i := fun e => ha e.symm
      exact rowN_congr fun b _ => by simp [ha2]
    · simp [tabN, h]
end Go.Proofs.Ytapmeooffmonmaa
