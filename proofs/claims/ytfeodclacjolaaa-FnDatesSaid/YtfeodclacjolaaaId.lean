/- The program's functions on dates, together. -/
import Derived.Test.YtfeodclacjolaaaIh
import Derived.Test.YtfeodclacjolaaaIj
import Derived.Test.YtfeodclacjolaaaIk
namespace Go.Proofs.Ytfeodclacjolaaa
end Go.Proofs.Ytfeodclacjolaaa
