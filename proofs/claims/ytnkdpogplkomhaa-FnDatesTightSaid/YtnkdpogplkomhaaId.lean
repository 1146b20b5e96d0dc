/- The program's functions on dates, together. -/
import Derived.Test.YtnkdpogplkomhaaIh
import Derived.Test.YtnkdpogplkomhaaIj
import Derived.Test.YtnkdpogplkomhaaIk
namespace Go.Proofs.Ytnkdpogplkomhaa
end Go.Proofs.Ytnkdpogplkomhaa
