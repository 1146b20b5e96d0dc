/- A third fact on the whole program that its rows ask for, by the kernel: asked once for all rows. -/
import Derived.Test.YtmcnjmflmpfjlaaDoorRows
import Derived.JoinedOf
namespace Go.Proofs.YtmcnjmflmpfjlaaDoor

theorem mak : (Tryd.checked.prog.make == some Rows.fnCycleNoneRow.make) = true := by kernel_rfl
theorem mak_c {l : Make} (h : l = Rows.fnCycleNoneRow.make) : (Tryd.checked.prog.make == some l) = true := by rw [h]; exact mak
end Go.Proofs.YtmcnjmflmpfjlaaDoor
