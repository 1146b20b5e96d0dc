/- Whether the program's order is valid, and what lies above what. -/
import Derived.Test.YtnkdpogplkomhaaVr
namespace Go.Proofs.Ytnkdpogplkomhaa
open Go.RowKit

set_option maxHeartbeats 1600000 in
set_option maxRecDepth 100000 in
theorem iOrdValid_any (A B : Option Addr) (ca cb : Nat) (ids : List Int) (l : List Ctx) (w : World) (ha : Reads w w.heap.size 1 A ids.length (cellsI ids)) (hb : Reads w w.heap.size 3 B l.length (cellsC l)) (hn : ids.length ≤ 1000000000) (hl : l.length ≤ 1000000000) :
    Calls Try.prog 17 #[.slice A ids.length ca, .slice B l.length cb] w fun e w2 => e = .returned (.bool (ordOkG ids l)) ∧ Below w.heap.size w w2 := by
  have HV := Lib.hid (iVRows_any A B ca cb ids l w ha hb hn hl)
  clear ha hb
  go_enter Try.func17, Try.ntmps17
  go_wp2_with (go_at_call 53; go_must (refine HV.out.mono ?_); rintro e w2 ⟨v2, rfl, hb2, _⟩)
  go_ret
  exact ⟨rfl, hb2⟩
set_option maxHeartbeats 1600000 in
set_option maxRecDepth 100000 in
theorem iAbove_any (A B : Option Addr) (ca cb : Nat) (ids : List Int) (l : List Ctx) (a b : Int) (w : World) (ha : Reads w w.heap.size 1 A ids.length (cellsI ids)) (hb : Reads w w.heap.size 3 B l.length (cellsC l)) (hn : ids.length ≤ 1000000000) (hl : l.length ≤ 1000000000) :
    Calls Try.prog 20 #[.slice A ids.length ca, .slice B l.length cb, .int .i64 a, .int .i64 b] w fun e w2 => e = .returned (.bool (aboveG ids l a b)) ∧ Below w.heap.size w w2 := by
  have hab := iAboveR_any A B ca cb ids l w ha hb hn hl
  have hix := fun (n : Int) (W : World) (hW : Below w.heap.size w W) => indexI_any A ca ids n W (ha.step hW) (by omega)
  cases hok : okG ids l
  · rw [hok] at hab
    obtain ⟨s, hs⟩ : ∃ s, s = findI ids a := ⟨_, rfl⟩
    obtain ⟨t, ht⟩ : ∃ t, t = findI ids b := ⟨_, rfl⟩
    have hi1 := hix a
    have hi2 := hix b
    have HI := Lib.hid hix
    clear hix ha hb hi1 hi2 hs ht
    go_enter Try.func20, Try.ntmps20
    go_wp2_with fail
    refine hab.mono ?_
    rintro e w2 ⟨v2, rfl, hb2, _⟩
    clear hab
    go_wp2_with (go_at_call 62; go_must (refine (HI.out _ _ hb2).mono ?_); rintro e w9 ⟨rfl, rfl⟩)
    go_ret
    exact ⟨ret_bool (by simp [aboveG, hok]), hb2⟩
  · rw [szG_ok hok, hok] at hab
    have hnn : ids.length ≤ 12 := validO_len (okG_parts hok).1
    by_cases hma : a ∈ ids
    · obtain ⟨p1, p2, p3⟩ := placeI_at hma
      obtain ⟨s, hs⟩ : ∃ s, s = placeI ids a := ⟨_, rfl⟩
      rw [← hs] at p1 p2 p3
      by_cases hmb : b ∈ ids
      · obtain ⟨q1, q2, q3⟩ := placeI_at hmb
        obtain ⟨t, ht⟩ : ∃ t, t = placeI ids b := ⟨_, rfl⟩
        rw [← ht] at q1 q2 q3
        obtain ⟨F, hF⟩ : ∃ F, F = clos (dirA ids (groupsG ids l) l) ids.length := ⟨_, rfl⟩
        have hup := upA hok p3 q3
        rw [← hF] at hup hab
        obtain ⟨x, hx⟩ : ∃ x, x = bitN ids.length (F s) := ⟨_, rfl⟩
        have hx2 : x < 65536 := by rw [hx]; exact bitN_16 _ (by omega)
        have hat : (rowsN ids.length F)[s]? = some x := by rw [rowsN_at _ p2, hx]
        have hht := fun (W : World) => has_to x t (upG ids l a b) hx2 (by omega) (by rw [hx, bitN_test, decide_eq_true q2, hup]; rfl) W
        obtain ⟨z, hz⟩ : ∃ z, z = upG ids l a b := ⟨_, rfl⟩
        rw [← hz] at hht
        have hres : aboveG ids l a b = z := by simp [aboveG, hok, hma, hmb, hz]
        rw [hres]
        have hsi : (s : Int) < (ids.length : Int) := by omega
        have HI := Lib.hid (And.intro hix (And.intro hht hat))
        clear hix ha hb hs ht hF hup hx hat hht hz hres hma hmb p3 q3 hok
        go_enter Try.func20, Try.ntmps20
        go_wp2_with fail
        refine hab.mono ?_
        rintro e w2 ⟨v2, rfl, hb2, ho2⟩
        obtain ⟨A2, c2, rfl, _, hr2⟩ := Reads.of_own ho2
        obtain ⟨b2, off, hA, hbb, hc⟩ := hr2.rows (by omega)
        subst hA
        have c1 := hc s x HI.out.2.2
        clear hab hc ho2 hr2
        go_wp2_with (first
          | (go_at_call 62; go_must (refine (HI.out.1 _ _ hb2).mono ?_); go_must (first | rw [p1] | rw [q1]); rintro e w9 ⟨rfl, rfl⟩)
          | (go_at_call 63; go_must (refine (HI.out.2.1 _).mono ?_); rintro e w9 ⟨rfl, rfl⟩))
        go_ret
        exact ⟨rfl, hb2⟩
      · have hf : findI ids b = -1 := by
          rcases findI_spec ids b with ⟨h, _⟩ | ⟨_, _, _, _, h⟩
          · exact h
          · exact absurd h hmb
        have hres : aboveG ids l a b = false := by simp [aboveG, hmb]
        rw [hres]
        have hs0 : ¬ (s : Int) < 0 := by omega
        have HI := Lib.hid hix
        clear hix ha hb hs hma hmb p3 hok hres
        go_enter Try.func20, Try.ntmps20
        go_wp2_with fail
        refine hab.mono ?_
        rintro e w2 ⟨v2, rfl, hb2, _⟩
        clear hab
        go_wp2_with (go_at_call 62; go_must (refine (HI.out _ _ hb2).mono ?_); go_must (first | rw [p1] | rw [hf]); rintro e w9 ⟨rfl, rfl⟩)
        go_ret
        exact ⟨rfl, hb2⟩
    · have hf : findI ids a = -1 := by
        rcases findI_spec ids a with ⟨h, _⟩ | ⟨_, _, _, _, h⟩
        · exact h
        · exact absurd h hma
      have hres : aboveG ids l a b = false := by simp [aboveG, hma]
      rw [hres]
      obtain ⟨t, ht⟩ : ∃ t, findI ids b = t := ⟨_, rfl⟩
      have HI := Lib.hid hix
      clear hix ha hb hma hok hres
      go_enter Try.func20, Try.ntmps20
      go_wp2_with fail
      refine hab.mono ?_
      rintro e w2 ⟨v2, rfl, hb2, _⟩
      clear hab
      go_wp2_with (go_at_call 62; go_must (refine (HI.out _ _ hb2).mono ?_); go_must (first | rw [hf] | rw [ht]); rintro e w9 ⟨rfl, rfl⟩)
      go_ret
      exact ⟨rfl, hb2⟩
end Go.Proofs.Ytnkdpogplkomhaa
