/- A fact on the whole program that its rows ask for, by the kernel: asked once for all rows. -/
import Derived.Test.YtjkjnicgbfpjiaaRows
import Derived.JoinedOf
namespace Go.Proofs.Ytjkjnicgbfpjiaa

theorem ent : Try.checked.prog.mayEnter = true := by kernel_rfl
end Go.Proofs.Ytjkjnicgbfpjiaa
