/- Whether the program's order is valid, and what lies above what. -/
import Derived.Test.YtmcnjmflmpfjlaaDoorVr
namespace Go.Proofs.YtmcnjmflmpfjlaaDoor
open Go.RowKit

set_option maxHeartbeats 1600000 in
set_option maxRecDepth 100000 in
theorem iOrdValid_any (A B : Option Addr) (ca cb : Nat) (ids : List Int) (l : List Ctx) (w : World) (ha : Reads w w.heap.size 1 A ids.length (cellsI ids)) (hb : Reads w w.heap.size 3 B l.length (cellsC l)) (hn : ids.length ≤ 1000000000) (hl : l.length ≤ 1000000000) :
    Calls Tryd.prog 9 #[.slice A ids.length ca, .slice B l.length cb] w fun e w2 => e = .returned (.bool (ordOkG ids l)) ∧ Below w.heap.size w w2 := by
  have HV := Lib.hid (iVRows_any A B ca cb ids l w ha hb hn hl)
  clear ha hb
  go_enter Tryd.func9, Tryd.ntmps9
  go_wp2_with (go_at_call 22; go_must (refine HV.out.mono ?_); rintro e w2 ⟨v2, rfl, hb2, _⟩)
  go_ret
  exact ⟨rfl, hb2⟩
end Go.Proofs.YtmcnjmflmpfjlaaDoor
