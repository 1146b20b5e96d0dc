/- Comparisons of rows and of tables of Booleans, as the laws make them. -/
import Derived.Test.YtfeodclacjolaaaUu
namespace Go.Proofs.Ytfeodclacjolaaa
open Go.RowKit

end Go.Proofs.Ytfeodclacjolaaa
