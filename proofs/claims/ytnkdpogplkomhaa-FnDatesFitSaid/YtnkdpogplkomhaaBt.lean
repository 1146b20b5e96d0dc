/- Comparisons of rows and of tables of Booleans, as the laws make them. -/
import Derived.Test.YtnkdpogplkomhaaTw
namespace Go.Proofs.Ytnkdpogplkomhaa
open Go.RowKit

end Go.Proofs.Ytnkdpogplkomhaa
