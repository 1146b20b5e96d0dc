/- The laws' draws of their inputs on groups. -/
import Derived.Test.YtpkmnigkcefnpaaDoorDb
import Derived.OwnWalk
namespace Go.Proofs.YtpkmnigkcefnpaaDoor
open Go.RowKit

def DrewI (w : World) (v : Value) (l : List Int) (w2 : World) : Prop := w2.ownsRow w.heap.size 3 1 v l.length (cellsI l) ∧ l.length ≤ 13 ∧ Below w.heap.size w w2
def DrewB (w : World) (v1 v2 : Value) (ids : List Int) (l : List Ctx) (w2 : World) : Prop :=
  w2.ownsRow w.heap.size 3 1 v1 ids.length (cellsI ids) ∧ w2.ownsRow w.heap.size 30 3 v2 l.length (cellsC l) ∧ ids.length ≤ 13 ∧ l.length ≤ 31 ∧ Below w.heap.size w w2
end Go.Proofs.YtpkmnigkcefnpaaDoor
