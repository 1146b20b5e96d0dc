/- The laws' draws of their inputs on orders: those that draw both lists as they come. -/
import Derived.Test.YtpkmnigkcefnpaaDoorDg
namespace Go.Proofs.YtpkmnigkcefnpaaDoor
open Go.RowKit

theorem dOrdC_any (A : Option Addr) (c : Nat) (z : List Int) (w : World) (h : Bytes w A c z) :
    Calls Tryd.prog 8 #[.slice A z.length c] w fun e w2 => ∃ v1 v2 ids l, e = .returned (.tuple #[v1, v2]) ∧ DrewB w v1 v2 ids l w2 := by
  go_enter Tryd.func8, Tryd.ntmps8
  go_wp2_with fail
  refine (open_any A c z _ h.reads h.byte h.cap h.room).mono ?_
  rintro e w2 ⟨g, c2, A2, z2, rfl, hg, hb2, hr2⟩
  go_wp2_with fail
  refine (drawBoth_any g c2 0 A2 z2 _ hr2 (by omega)).mono ?_
  rintro e w3 ⟨v1, v2, ids, l, rfl, ho1, ho2, hl1, hl2, hd3⟩
  go_wp2_with fail
  go_ret2
  exact ⟨v1, v2, ids, l, rfl, own_less ho1 hb2.size, own_less ho2 hb2.size, hl1, hl2, grown_below hd3.grown hb2 hg⟩
end Go.Proofs.YtpkmnigkcefnpaaDoor
