/- A fact on the whole program that its rows ask for, by the kernel: asked once for all rows. -/
import Derived.Test.YtmcnjmflmpfjlaaRows
import Derived.JoinedOf
namespace Go.Proofs.Ytmcnjmflmpfjlaa

theorem ent : Try.checked.prog.mayEnter = true := by kernel_rfl
end Go.Proofs.Ytmcnjmflmpfjlaa
