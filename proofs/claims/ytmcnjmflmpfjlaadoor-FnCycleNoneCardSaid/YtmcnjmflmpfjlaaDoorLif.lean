/- Another fact on the whole program that its rows ask for, by the kernel: asked once for all rows. -/
import Derived.Test.YtmcnjmflmpfjlaaDoorRows
import Derived.JoinedOf
namespace Go.Proofs.YtmcnjmflmpfjlaaDoor

theorem lif : Tryd.checked.prog.liftsFinal = Rows.fnCycleNoneRow.lifted := (eq_of_beq (show (Rows.fnCycleNoneRow.lifted == Tryd.checked.prog.liftsFinal) = true by kernel_rfl)).symm
theorem lif_c {l : Bool} (h : (l == Rows.fnCycleNoneRow.lifted) = true) : (l == Tryd.checked.prog.liftsFinal) = true := by rw [lif]; exact h
theorem and_t {a b : Bool} (ha : a = true) (hb : b = true) : (a && b) = true := by rw [ha, hb]; rfl
end Go.Proofs.YtmcnjmflmpfjlaaDoor
