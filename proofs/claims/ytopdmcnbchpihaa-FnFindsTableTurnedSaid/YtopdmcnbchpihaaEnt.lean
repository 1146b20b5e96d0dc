/- A fact on the whole program that its rows ask for, by the kernel: asked once for all rows. -/
import Derived.Test.YtopdmcnbchpihaaRows
import Derived.JoinedOf
namespace Go.Proofs.Ytopdmcnbchpihaa

theorem ent : Try.checked.prog.mayEnter = true := by kernel_rfl
end Go.Proofs.Ytopdmcnbchpihaa
