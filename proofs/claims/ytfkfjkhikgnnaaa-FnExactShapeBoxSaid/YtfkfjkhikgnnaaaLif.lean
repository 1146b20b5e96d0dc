/- Another fact on the whole program that its rows ask for, by the kernel: asked once for all rows. -/
import Derived.Test.YtfkfjkhikgnnaaaRows
import Derived.JoinedOf
namespace Go.Proofs.Ytfkfjkhikgnnaaa

theorem lif : Try.checked.prog.liftsFinal = Rows.fnShapeAreaRow.lifted := (eq_of_beq (show (Rows.fnShapeAreaRow.lifted == Try.checked.prog.liftsFinal) = true by kernel_rfl)).symm
theorem lif_c {l : Bool} (h : (l == Rows.fnShapeAreaRow.lifted) = true) : (l == Try.checked.prog.liftsFinal) = true := by rw [lif]; exact h
theorem and_t {a b : Bool} (ha : a = true) (hb : b = true) : (a && b) = true := by rw [ha, hb]; rfl
end Go.Proofs.Ytfkfjkhikgnnaaa
