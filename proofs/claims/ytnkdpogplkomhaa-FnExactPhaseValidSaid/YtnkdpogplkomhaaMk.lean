/- Marks laid into a list of relations from any number on. -/
import Derived.Test.YtnkdpogplkomhaaTriRel
namespace Go.Proofs.Ytnkdpogplkomhaa
open Go.RowKit

end Go.Proofs.Ytnkdpogplkomhaa
