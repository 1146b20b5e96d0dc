/- What lies directly above a row, as the program finds it. -/
import Derived.Test.YtopdmcnbchpihaaVv
namespace Go.Proofs.Ytopdmcnbchpihaa
open Go.RowKit

theorem any_and (n : Nat) (f g : Nat → Bool) : (((bitN n f &&& bitN n g : Nat) : Int) != 0) = (List.range n).any fun y => f y && g y := by
  rw [bitN_and]
  have h := bitN_any n fun y => f y && g y
  cases ha : (List.range n).any fun y => f y && g y
  · rw [ha] at h
    have : bitN n (fun y => f y && g y) = 0 := by simpa using h
    rw [this]; rfl
  · rw [ha] at h
    have : bitN n (fun y => f y && g y) ≠ 0 := by simpa using h
    simp
    omega
end Go.Proofs.Ytopdmcnbchpihaa
