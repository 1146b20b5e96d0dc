/- What the laws' functions on lists of Rel return. -/
import Derived.Test.YtmcnjmflmpfjlaaDoorTri
namespace Go.Proofs.YtmcnjmflmpfjlaaDoor
open Go.RowKit

theorem infoRel : (Tryd.prog.info? 55).map (fun i => (i.zero, i.size, i.bytes)) = some (some (.agg #[.int .i64 0, .int .i64 0, .int .i64 0]), 3, 24) := by kernel_rfl
end Go.Proofs.YtmcnjmflmpfjlaaDoor
