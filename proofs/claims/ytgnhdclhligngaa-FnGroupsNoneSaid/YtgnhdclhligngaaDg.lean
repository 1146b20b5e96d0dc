/- The laws' draws of their inputs on groups. -/
import Derived.Test.YtgnhdclhligngaaDb
import Derived.OwnWalk
namespace Go.Proofs.Ytgnhdclhligngaa
open Go.RowKit

def DrewI (w : World) (v : Value) (l : List Int) (w2 : World) : Prop := w2.ownsRow w.heap.size 3 1 v l.length (cellsI l) ∧ l.length ≤ 13 ∧ Below w.heap.size w w2
def DrewB (w : World) (v1 v2 : Value) (ids : List Int) (l : List Ctx) (w2 : World) : Prop :=
  w2.ownsRow w.heap.size 3 1 v1 ids.length (cellsI ids) ∧ w2.ownsRow w.heap.size 35 3 v2 l.length (cellsC l) ∧ ids.length ≤ 13 ∧ l.length ≤ 31 ∧ Below w.heap.size w w2
theorem dIds_any (A : Option Addr) (c : Nat) (z : List Int) (w : World) (h : Bytes w A c z) :
    Calls Try.prog 14 #[.slice A z.length c] w fun e w2 => ∃ v l, e = .returned v ∧ DrewI w v l w2 := by
  go_enter Try.func14, Try.ntmps14
  go_wp2_with fail
  refine (open_any A c z _ h.reads h.byte h.cap h.room).mono ?_
  rintro e w2 ⟨g, c2, A2, z2, rfl, hg, hb2, hr2⟩
  go_wp2_with fail
  refine (drawIs_any g c2 0 A2 z2 _ hr2 (by omega)).mono ?_
  rintro e w3 ⟨v, l, rfl, ho3, hl, hd3⟩
  go_wp2_with fail
  go_ret
  exact ⟨v, l, rfl, own_less ho3 hb2.size, hl, grown_below hd3.grown hb2 hg⟩
theorem dGroups_any (A : Option Addr) (c : Nat) (z : List Int) (w : World) (h : Bytes w A c z) :
    Calls Try.prog 17 #[.slice A z.length c] w fun e w2 => ∃ v1 v2 ids l, e = .returned (.tuple #[v1, v2]) ∧ DrewB w v1 v2 ids l w2 := by
  go_enter Try.func17, Try.ntmps17
  go_wp2_with fail
  refine (open_any A c z _ h.reads h.byte h.cap h.room).mono ?_
  rintro e w2 ⟨g, c2, A2, z2, rfl, hg, hb2, hr2⟩
  go_wp2_with fail
  refine (drawBoth_any g c2 0 A2 z2 _ hr2 (by omega)).mono ?_
  rintro e w3 ⟨v1, v2, ids, l, rfl, ho1, ho2, hl1, hl2, hd3⟩
  go_wp2_with fail
  go_ret2
  exact ⟨v1, v2, ids, l, rfl, own_less ho1 hb2.size, own_less ho2 hb2.size, hl1, hl2, grown_below hd3.grown hb2 hg⟩
theorem dHeads_any (A : Option Addr) (c : Nat) (z : List Int) (w : World) (h : Bytes w A c z) :
    Calls Try.prog 22 #[.slice A z.length c] w fun e w2 => ∃ v1 v2 ids l, e = .returned (.tuple #[v1, v2]) ∧ DrewB w v1 v2 ids l w2 := by
  go_enter Try.func22, Try.ntmps22
  go_wp2_with fail
  refine (open_any A c z _ h.reads h.byte h.cap h.room).mono ?_
  rintro e w2 ⟨g, c2, A2, z2, rfl, hg, hb2, hr2⟩
  go_wp2_with fail
  refine (drawBoth_any g c2 0 A2 z2 _ hr2 (by omega)).mono ?_
  rintro e w3 ⟨v1, v2, ids, l, rfl, ho1, ho2, hl1, hl2, hd3⟩
  go_wp2_with fail
  go_ret2
  exact ⟨v1, v2, ids, l, rfl, own_less ho1 hb2.size, own_less ho2 hb2.size, hl1, hl2, grown_below hd3.grown hb2 hg⟩
theorem dMembers_any (A : Option Addr) (c : Nat) (z : List Int) (w : World) (h : Bytes w A c z) :
    Calls Try.prog 25 #[.slice A z.length c] w fun e w2 => ∃ v1 v2 ids l id, e = .returned (.tuple #[v1, v2, .int .i64 id]) ∧ DrewB w v1 v2 ids l w2 := by
  go_enter Try.func25, Try.ntmps25
  go_wp2_with fail
  refine (open_any A c z _ h.reads h.byte h.cap h.room).mono ?_
  rintro e w2 ⟨g, c2, A2, z2, rfl, hg, hb2, hr2⟩
  have hgl := hr2.lt
  go_wp2_with fail
  refine (drawBoth_any g c2 0 A2 z2 _ hr2 (by omega)).mono ?_
  rintro e w3 ⟨v1, v2, ids, l, rfl, ho1, ho2, hl1, hl2, ⟨p3, hp3, hr3⟩, hg3⟩
  go_wp2_with fail
  refine (pick_any g c2 p3 A2 z2 _ _ hr3 (by omega) (by omega)).mono ?_
  rintro e w4 ⟨r4, rfl, a4, b4, _, hr4, hg4⟩
  have b4 := b4 (by omega)
  have o1 := own_drawn (w0 := w2) ho1 hg4 hgl
  have o2 := own_drawn (w0 := w2) ho2 hg4 hgl
  go_wp2_with fail
  go_ret3
  exact ⟨v1, v2, ids, l, _, rfl, own_less o1 hb2.size, own_less o2 hb2.size, hl1, hl2, grown_below (hg3.trans hg4) hb2 hg⟩
end Go.Proofs.Ytgnhdclhligngaa
