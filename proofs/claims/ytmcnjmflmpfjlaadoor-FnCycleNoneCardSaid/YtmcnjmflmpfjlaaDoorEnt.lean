/- A fact on the whole program that its rows ask for, by the kernel: asked once for all rows. -/
import Derived.Test.YtmcnjmflmpfjlaaDoorRows
import Derived.JoinedOf
namespace Go.Proofs.YtmcnjmflmpfjlaaDoor

theorem ent : Tryd.checked.prog.mayEnter = true := by kernel_rfl
end Go.Proofs.YtmcnjmflmpfjlaaDoor
