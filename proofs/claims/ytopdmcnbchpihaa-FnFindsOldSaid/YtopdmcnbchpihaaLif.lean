/- Another fact on the whole program that its rows ask for, by the kernel: asked once for all rows. -/
import Derived.Test.YtopdmcnbchpihaaRows
import Derived.JoinedOf
namespace Go.Proofs.Ytopdmcnbchpihaa

theorem lif : Try.checked.prog.liftsFinal = Rows.fnFindsBoundsRow.lifted := (eq_of_beq (show (Rows.fnFindsBoundsRow.lifted == Try.checked.prog.liftsFinal) = true by kernel_rfl)).symm
theorem lif_c {l : Bool} (h : (l == Rows.fnFindsBoundsRow.lifted) = true) : (l == Try.checked.prog.liftsFinal) = true := by rw [lif]; exact h
theorem and_t {a b : Bool} (ha : a = true) (hb : b = true) : (a && b) = true := by rw [ha, hb]; rfl
end Go.Proofs.Ytopdmcnbchpihaa
