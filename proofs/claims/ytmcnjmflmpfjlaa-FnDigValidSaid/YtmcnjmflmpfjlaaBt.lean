/- Comparisons of rows and of tables of Booleans, as the laws make them. -/
import Derived.Test.YtmcnjmflmpfjlaaUu
namespace Go.Proofs.Ytmcnjmflmpfjlaa
open Go.RowKit

end Go.Proofs.Ytmcnjmflmpfjlaa
