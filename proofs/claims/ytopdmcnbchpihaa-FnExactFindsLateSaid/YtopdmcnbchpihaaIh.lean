/- What the program's spans of dates, and its earliest dates, are. -/
import Derived.Test.YtopdmcnbchpihaaQq
namespace Go.Proofs.Ytopdmcnbchpihaa
open Go.RowKit

theorem qOrd_no {A B C : Option Addr} {ca cb cc : Nat} {ids : List Int} {l bs : List Ctx} {w : World} (h : argsD ids l bs = false) (ha : Reads w w.heap.size 1 A ids.length (cellsI ids)) (hb : Reads w w.heap.size 3 B l.length (cellsC l)) (hc : Reads w w.heap.size 3 C bs.length (cellsC bs))
    (hn : ids.length ≤ 1000000000) (hl : l.length ≤ 1000000000) (hm : bs.length ≤ 1000000000) :
    Calls Try.prog 81 #[.slice A ids.length ca, .slice B l.length cb, .slice C bs.length cc] w fun e w2 => e = .returned (.tuple #[.agg #[.slice none 0 0, .slice none 0 0, .slice none 0 0], .bool false]) ∧ Below w.heap.size w w2 :=
  (iDOrder_any A B C ca cb cc ids l bs w ha hb hc hn hl hm).mono fun e w2 ⟨hb2, h2⟩ => by
    rcases h2 with ⟨_, he⟩ | ⟨h3, _⟩
    · exact ⟨he, hb2⟩
    · rw [h] at h3; cases h3
theorem qOrd_yes {A B C : Option Addr} {ca cb cc : Nat} {ids : List Int} {l bs : List Ctx} {w : World} (h : argsD ids l bs = true) (ha : Reads w w.heap.size 1 A ids.length (cellsI ids)) (hb : Reads w w.heap.size 3 B l.length (cellsC l)) (hc : Reads w w.heap.size 3 C bs.length (cellsC bs))
    (hn : ids.length ≤ 1000000000) (hl : l.length ≤ 1000000000) (hm : bs.length ≤ 1000000000) :
    Calls Try.prog 81 #[.slice A ids.length ca, .slice B l.length cb, .slice C bs.length cc] w fun e w2 => Below w.heap.size w w2 ∧ ∃ A2 c2 A3 c3, e = .returned (.tuple #[.agg #[.slice A ids.length ca, .slice A2 ids.length c2, .slice A3 ids.length c3], .bool true]) ∧
      Reads w2 w2.heap.size 1 A2 ids.length (cellsI (groupsG ids l)) ∧ Reads w2 w2.heap.size 1 A3 ids.length (cellsU (rowsN ids.length (dirQ ids l))) :=
  (iDOrder_any A B C ca cb cc ids l bs w ha hb hc hn hl hm).mono fun e w2 ⟨hb2, h2⟩ => by
    rcases h2 with ⟨h3, _⟩ | ⟨_, h3⟩
    · rw [h] at h3; cases h3
    · exact ⟨hb2, h3⟩
set_option maxHeartbeats 1600000 in
set_option maxRecDepth 100000 in
theorem iDatesOf_any (A B C : Option Addr) (ca cb cc : Nat) (ids : List Int) (l bs : List Ctx) (w : World) (ha : Reads w w.heap.size 1 A ids.length (cellsI ids)) (hb : Reads w w.heap.size 3 B l.length (cellsC l)) (hc : Reads w w.heap.size 3 C bs.length (cellsC bs))
    (hn : ids.length ≤ 1000000000) (hl : l.length ≤ 1000000000) (hm : bs.length ≤ 1000000000) :
    Calls Try.prog 30 #[.slice A ids.length ca, .slice B l.length cb, .slice C bs.length cc] w (PairSp w (datesD ids l bs) (okD ids l bs)) := by
  cases hA : argsD ids l bs
  · have hO := Lib.hid (qOrd_no (ca := ca) (cb := cb) (cc := cc) hA ha hb hc hn hl hm)
    have HA := Lib.hid (okD_args hA)
    clear hA ha hb hc
    go_enter Try.func30, Try.ntmps30
    go_wp2_with (go_at_call 81; go_must (refine hO.out.mono ?_); rintro e w2 ⟨rfl, b2⟩)
    go_ret2
    exact pairSp_mk (m := []) HA.out.symm.symm (datesD_no HA.out) (b2.alloc b2.size _) (World.ownsRow_nil _ _ _ _)
  · have hO := Lib.hid (qOrd_yes (ca := ca) (cb := cb) (cc := cc) hA ha hb hc hn hl hm)
    have HR := Lib.hid (And.intro ha (And.intro hc hA))
    clear hA ha hb hc
    go_enter Try.func30, Try.ntmps30
    go_wp2_with (first
      | (go_at_call 81; go_must (refine hO.out.mono ?_); rintro e w2 ⟨b2, A2, c2, A3, c3, rfl, rg, rf⟩
         have bA := (Below.refl w2.heap.size w2).alloc (Nat.le_refl _) (.cells #[.slice A ids.length ca, .slice A2 ids.length c2, .slice A3 ids.length c3] 118)
         have H2 := Lib.hid (And.intro (HR.out.1.step (below_step b2 bA)) (And.intro (rg.step bA) (And.intro (rf.step bA) (And.intro (HR.out.2.1.step (below_step b2 bA)) (below_step b2 bA)))))
         clear b2 rg rf bA)
      | (go_at_call 82; go_must (refine (dSpans_any A A2 A3 C ca c2 c3 cc ids l bs _ H2.out.1 H2.out.2.1 H2.out.2.2.1 H2.out.2.2.2.1 HR.out.2.2).mono ?_); rintro e w3 ⟨v3, rfl, b3, o3⟩))
    go_ret2
    exact ⟨_, rfl, below_step H2.out.2.2.2.2 b3, own_less o3 H2.out.2.2.2.2.size⟩
end Go.Proofs.Ytopdmcnbchpihaa
