/- Comparisons of rows and of tables of Booleans, as the laws make them. -/
import Derived.Test.YtopdmcnbchpihaaUu
namespace Go.Proofs.Ytopdmcnbchpihaa
open Go.RowKit

end Go.Proofs.Ytopdmcnbchpihaa
