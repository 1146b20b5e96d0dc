/- A third fact on the whole program that its rows ask for, by the kernel: asked once for all rows. -/
import Derived.Test.YtmcnjmflmpfjlaaRows
import Derived.JoinedOf
namespace Go.Proofs.Ytmcnjmflmpfjlaa

theorem mak : (Try.checked.prog.make == some Rows.fnAboveAllRow.make) = true := by kernel_rfl
theorem mak_c {l : Make} (h : l = Rows.fnAboveAllRow.make) : (Try.checked.prog.make == some l) = true := by rw [h]; exact mak
end Go.Proofs.Ytmcnjmflmpfjlaa
