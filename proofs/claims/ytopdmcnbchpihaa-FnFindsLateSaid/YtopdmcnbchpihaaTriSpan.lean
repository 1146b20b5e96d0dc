/- What the laws' functions on lists of Span return. -/
import Derived.Test.YtopdmcnbchpihaaDuo
namespace Go.Proofs.Ytopdmcnbchpihaa
open Go.RowKit

theorem infoSpan : (Try.prog.info? 54).map (fun i => (i.zero, i.size, i.bytes)) = some (some (.agg #[.int .i64 0, .int .i64 0]), 2, 16) := by kernel_rfl
end Go.Proofs.Ytopdmcnbchpihaa
