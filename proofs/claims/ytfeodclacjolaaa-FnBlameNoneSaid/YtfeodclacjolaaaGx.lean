/- What the program's list of the members of a group is. -/
import Derived.Test.YtfeodclacjolaaaGw
namespace Go.Proofs.Ytfeodclacjolaaa
open Go.RowKit

theorem membersG_len (ids : List Int) (l : List Ctx) (id : Int) : (membersG ids l id).length ≤ ids.length := by
  unfold membersG
  split
  · exact Nat.le_trans (selG_len _ _ _) (by rw [groupsG_len]; exact Nat.le_refl _)
  · simp
end Go.Proofs.Ytfeodclacjolaaa
