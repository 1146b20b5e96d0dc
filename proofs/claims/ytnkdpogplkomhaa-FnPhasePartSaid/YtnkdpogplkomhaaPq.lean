/- The laws' draws for phase models. -/
import Derived.Test.YtnkdpogplkomhaaPp
namespace Go.Proofs.Ytnkdpogplkomhaa
open Go.RowKit

/-- A drawn phase model, in memory of the call's own. -/
def DrewPh (w : World) (v1 v2 : Value) (B : Option Addr) (cb : Nat) (ids : List Int) (l : List Ctx) (L : List (List Int)) (w2 : World) : Prop :=
  w2.ownsRow w.heap.size 3 1 v1 ids.length (cellsI ids) ∧ w2.ownsRow w.heap.size 111 3 v2 l.length (cellsC l) ∧ Nest (Value.int .i64) w2 w2.heap.size B L.length L ∧ L.length ≤ cb ∧ ids.length ≤ 5 ∧ l.length ≤ 30 ∧ L.length ≤ 5 ∧ (∀ r ∈ L, r.length ≤ 6) ∧ Below w.heap.size w w2
set_option maxHeartbeats 1600000 in
set_option maxRecDepth 100000 in
theorem dPhV_any (A : Option Addr) (c : Nat) (z : List Int) (w : World) (h : Bytes w A c z) :
    Calls Try.prog 25 #[.slice A z.length c] w fun e w2 => ∃ v1 v2 B cb ids l L, e = .returned (.tuple #[v1, v2, .slice B L.length cb]) ∧ DrewPh w v1 v2 B cb ids l L w2 := by
  go_enter Try.func25, Try.ntmps25
  go_wp2_with fail
  refine (open_any A c z _ h.reads h.byte h.cap h.room).mono ?_
  rintro e w2 ⟨g, c2, A2, z2, rfl, hg, hb2, hr2⟩
  have HB := Lib.hid (And.intro hg hb2)
  have hb2s := hb2.size
  clear h hg hb2
  go_wp2_with fail
  refine (drawPh_any g c2 0 A2 z2 _ hr2 (by omega)).mono ?_
  rintro e w3 ⟨v1, v2, B, cb, ids, l, L, rfl, h1, h2, h3, h4, h5, h6, h7, h8, hdr⟩
  have HF := Lib.hid (And.intro (own_less h1 hb2s) (And.intro (own_less h2 hb2s) (And.intro h3 (And.intro h4 (And.intro h8 (grown_below hdr.grown HB.out.2 HB.out.1))))))
  clear h1 h2 h3 h4 h8 hdr hr2
  go_wp2_with fail
  go_ret3
  exact ⟨v1, v2, B, cb, ids, l, L, rfl, HF.out.1, HF.out.2.1, HF.out.2.2.1, HF.out.2.2.2.1, h5, h6, h7, HF.out.2.2.2.2.1, HF.out.2.2.2.2.2⟩
end Go.Proofs.Ytnkdpogplkomhaa
