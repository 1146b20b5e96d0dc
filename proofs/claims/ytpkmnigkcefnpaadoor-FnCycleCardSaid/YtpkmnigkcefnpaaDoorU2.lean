/- What the model's closing of a table is. -/
import Derived.Test.YtpkmnigkcefnpaaDoorU1
import Derived.Deep.Light
namespace Go.Proofs.YtpkmnigkcefnpaaDoor
open Go.RowKit

/-- The table while place k is gone through: rows below i, and of row i the columns below j, are done. -/
def mixB (f : Nat → Nat → Bool) (k i j a b : Nat) : Bool := if a < i ∨ (a = i ∧ b < j) then wayB f (k + 1) a b else wayB f k a b
theorem mixB_col (f : Nat → Nat → Bool) (k i j a : Nat) : mixB f k i j a k = wayB f k a k := by
  unfold mixB
  split
  · rw [wayB]
    cases wayB f k a k <;> simp
  · rfl
theorem mixB_row (f : Nat → Nat → Bool) (k i j b : Nat) : mixB f k i j k b = wayB f k k b := by
  unfold mixB
  split
  · rw [wayB]
    cases wayB f k k b <;> simp
  · rfl
theorem mixB_here (f : Nat → Nat → Bool) (k i j : Nat) : mixB f k i j i j = wayB f k i j := by
  unfold mixB
  rw [if_neg (by omega)]
theorem mixB_set (f : Nat → Nat → Bool) (n k i j : Nat) (x : Bool) (hx : x = wayB f (k + 1) i j) : tabN n (fun a b => if a = i ∧ b = j then x else mixB f k i j a b) = tabN n (mixB f k i (j + 1)) := by
  refine tabN_congr fun a b _ _ => ?_
  subst hx
  unfold mixB
  by_cases h : a = i ∧ b = j
  · obtain ⟨rfl, rfl⟩ := h
    rw [if_pos ⟨rfl, rfl⟩, if_pos (by omega)]
  · rw [if_neg h]
    by_cases h2 : a < i ∨ (a = i ∧ b < j)
    · rw [if_pos h2, if_pos (by omega)]
    · rw [if_neg h2, if_neg (by omega)]
theorem mixB_next (f : Nat → Nat → Bool) (n k i : Nat) : tabN n (mixB f k i n) = tabN n (mixB f k (i + 1) 0) := by
  refine tabN_congr fun a b _ hb => ?_
  unfold mixB
  by_cases h : a < i ∨ (a = i ∧ b < n)
  · rw [if_pos h, if_pos (by omega)]
  · rw [if_neg h, if_neg (by omega)]
theorem mixB_first (f : Nat → Nat → Bool) (n k : Nat) : tabN n (mixB f k 0 0) = tabN n (wayB f k) := tabN_congr fun a b _ _ => by unfold mixB; rw [if_neg (by omega)]
theorem mixB_last (f : Nat → Nat → Bool) (n k : Nat) : tabN n (mixB f k n 0) = tabN n (wayB f (k + 1)) := tabN_congr fun a b ha _ => by unfold mixB; rw [if_pos (by omega)]
theorem tabN_next (n : Nat) (f : Nat → Nat → Bool) {k : Nat} (hk : k < n) : (tabN n f).take k ++ [rowN n (f k)] = (tabN n f).take (k + 1) := by
  rw [List.take_add_one, tabN_row _ hk]; rfl

end Go.Proofs.YtpkmnigkcefnpaaDoor
