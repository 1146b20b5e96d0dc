/- A third fact on the whole program that its rows ask for, by the kernel: asked once for all rows. -/
import Derived.Test.YtopdmcnbchpihaaRows
import Derived.JoinedOf
namespace Go.Proofs.Ytopdmcnbchpihaa

theorem mak : (Try.checked.prog.make == some Rows.fnFindsBoundsRow.make) = true := by kernel_rfl
theorem mak_c {l : Make} (h : l = Rows.fnFindsBoundsRow.make) : (Try.checked.prog.make == some l) = true := by rw [h]; exact mak
end Go.Proofs.Ytopdmcnbchpihaa
