/- A third fact on the whole program that its rows ask for, by the kernel: asked once for all rows. -/
import Derived.Test.YtfkfjkhikgnnaaaRows
import Derived.JoinedOf
namespace Go.Proofs.Ytfkfjkhikgnnaaa

theorem mak : (Try.checked.prog.make == some Rows.fnShapeAreaRow.make) = true := by kernel_rfl
theorem mak_c {l : Make} (h : l = Rows.fnShapeAreaRow.make) : (Try.checked.prog.make == some l) = true := by rw [h]; exact mak
end Go.Proofs.Ytfkfjkhikgnnaaa
