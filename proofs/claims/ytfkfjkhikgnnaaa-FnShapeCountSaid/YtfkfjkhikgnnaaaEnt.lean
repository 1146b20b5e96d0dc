/- A fact on the whole program that its rows ask for, by the kernel: asked once for all rows. -/
import Derived.Test.YtfkfjkhikgnnaaaRows
import Derived.JoinedOf
namespace Go.Proofs.Ytfkfjkhikgnnaaa

theorem ent : Try.checked.prog.mayEnter = true := by kernel_rfl
end Go.Proofs.Ytfkfjkhikgnnaaa
