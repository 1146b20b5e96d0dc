/- What the model's order is for any arguments, and whether it is valid. -/
import Derived.Test.YtpkmnigkcefnpaaDoorU3
namespace Go.Proofs.YtpkmnigkcefnpaaDoor
open Go.RowKit

theorem ordOk_of {ids : List Int} {l : List Ctx} (hok : okG ids l = true) (h : ∀ (k : Nat) (a : Int), ids[k]? = some a → upG ids l a a = false) : ordOkG ids l = true := by
  unfold ordOkG
  rw [hok, Bool.true_and, List.all_eq_true]
  intro a ha
  obtain ⟨k, hk⟩ := List.mem_iff_getElem?.1 ha
  rw [h k a hk]; rfl
theorem ordOk_no {ids : List Int} {l : List Ctx} {k : Nat} {a : Int} (hk : ids[k]? = some a) (h : upG ids l a a = true) : ordOkG ids l = false := by
  unfold ordOkG
  rw [Bool.and_eq_false_iff]
  right
  rw [List.all_eq_false]
  exact ⟨a, List.mem_of_getElem? hk, by simp [h]⟩
end Go.Proofs.YtpkmnigkcefnpaaDoor
