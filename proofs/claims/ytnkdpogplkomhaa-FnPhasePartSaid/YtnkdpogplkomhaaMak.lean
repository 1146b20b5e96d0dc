/- A third fact on the whole program that its rows ask for, by the kernel: asked once for all rows. -/
import Derived.Test.YtnkdpogplkomhaaRows
import Derived.JoinedOf
namespace Go.Proofs.Ytnkdpogplkomhaa

theorem mak : (Try.checked.prog.make == some Rows.fnDatesRow.make) = true := by kernel_rfl
theorem mak_c {l : Make} (h : l = Rows.fnDatesRow.make) : (Try.checked.prog.make == some l) = true := by rw [h]; exact mak
end Go.Proofs.Ytnkdpogplkomhaa
