/- What the program's rows of a valid order are. -/
import Derived.Test.YtnkdpogplkomhaaVv
import Derived.Test.YtnkdpogplkomhaaVm
namespace Go.Proofs.Ytnkdpogplkomhaa
open Go.RowKit

theorem rowsF {ids : List Int} {l : List Ctx} (hok : okG ids l = true) : rowsN ids.length (clos (dirA ids (groupsG ids l) l) ids.length) = rowsN ids.length (ordF ids l) := by
  refine rowsN_ext fun i j hi hj => ?_
  have e : ∀ k, k < ids.length → ids[k]? = some (ids.getD k 0) := fun k hk => by simp [hk]
  rw [upA hok (e i hi) (e j hj)]
  simp [ordF, hi, hj]
theorem rowsS (ids : List Int) (l : List Ctx) : rowsN (szG ids l) (clos (dirA ids (groupsG ids l) l) (szG ids l)) = rowsN (szG ids l) (ordF ids l) := by
  cases h : okG ids l
  · rw [szG_no h]; rfl
  · rw [szG_ok h]; exact rowsF h
theorem iAboveF_any (A B : Option Addr) (ca cb : Nat) (ids : List Int) (l : List Ctx) (w : World) (ha : Reads w w.heap.size 1 A ids.length (cellsI ids)) (hb : Reads w w.heap.size 3 B l.length (cellsC l)) (hn : ids.length ≤ 1000000000) (hl : l.length ≤ 1000000000) :
    Calls Try.prog 61 #[.slice A ids.length ca, .slice B l.length cb] w (RowsPost w (szG ids l) (ordF ids l) (okG ids l)) := by
  have h := iAboveR_any A B ca cb ids l w ha hb hn hl
  unfold RowsPost at h ⊢
  rw [rowsS] at h
  exact h
/-- How many rows of a valid order there are. -/
def vN (ids : List Int) (l : List Ctx) : Nat := if ordOkG ids l = true then ids.length else 0
theorem vN_ok {ids : List Int} {l : List Ctx} (h : ordOkG ids l = true) : vN ids l = ids.length := if_pos h
theorem vN_no {ids : List Int} {l : List Ctx} (h : ordOkG ids l = false) : vN ids l = 0 := by simp [vN, h]
theorem ordOk_ok {ids : List Int} {l : List Ctx} (h : ordOkG ids l = true) : okG ids l = true := by
  unfold ordOkG at h
  exact (Bool.and_eq_true_iff.1 h).1
theorem vN_le (ids : List Int) (l : List Ctx) : vN ids l ≤ 12 := by
  cases h : ordOkG ids l
  · rw [vN_no h]; omega
  · rw [vN_ok h]; exact validO_len (okG_parts (ordOk_ok h)).1
set_option maxHeartbeats 1600000 in
set_option maxRecDepth 100000 in
theorem iVRows_any (A B : Option Addr) (ca cb : Nat) (ids : List Int) (l : List Ctx) (w : World) (ha : Reads w w.heap.size 1 A ids.length (cellsI ids)) (hb : Reads w w.heap.size 3 B l.length (cellsC l)) (hn : ids.length ≤ 1000000000) (hl : l.length ≤ 1000000000) :
    Calls Try.prog 53 #[.slice A ids.length ca, .slice B l.length cb] w (RowsPost w (vN ids l) (ordF ids l) (ordOkG ids l)) := by
  have hab := iAboveF_any A B ca cb ids l w ha hb hn hl
  have hup : ∀ (i : Nat) (a : Int), ids[i]? = some a → ordF ids l i i = upG ids l a a := fun i a h => by
    have hi := (List.getElem?_eq_some_iff.1 h).1
    have e : ids.getD i 0 = a := by simp [h]
    simp only [ordF, hi, decide_true, Bool.true_and, e]
  have hsz : okG ids l = true → szG ids l = ids.length := fun h => szG_ok h
  have hsz0 : okG ids l = false → szG ids l = 0 := fun h => szG_no h
  obtain ⟨n, hn0⟩ : ∃ n, n = szG ids l := ⟨_, rfl⟩
  have hn12 : n ≤ 12 := by rw [hn0]; exact szG_le ids l
  rw [← hn0] at hab hsz hsz0
  obtain ⟨F, hF⟩ : ∃ F, F = ordF ids l := ⟨_, rfl⟩
  obtain ⟨ok, hok⟩ : ∃ ok, ok = okG ids l := ⟨_, rfl⟩
  rw [← hF] at hup
  rw [← hF, ← hok] at hab
  rw [← hF]
  have HU := Lib.hid (And.intro hup (And.intro hsz (And.intro hsz0 hok)))
  clear hn0 hF hok ha hb hup hsz hsz0
  go_enter Try.func53, Try.ntmps53
  go_wp2_with fail
  refine hab.mono ?_
  rintro e w2 ⟨v2, rfl, hb2, ho2⟩
  obtain ⟨A2, c2, rfl, _, hr2⟩ := Reads.of_own ho2
  have H2 := Lib.hid (And.intro hb2 (And.intro hr2 ho2))
  clear hab hb2 ho2 hr2
  go_wp2_with fail
  go_loop [18] (fun i => ∃ k : Nat, k ≤ n ∧ i = .int .i64 k ∧ ∀ j, j < k → F j j = false) (fun i => n - (intOf i).toNat)
  case atStart => exact ⟨0, Nat.zero_le _, rfl, fun j h => absurd h (by omega)⟩
  case round =>
    obtain ⟨k, hk, rfl, hg⟩ := hrel
    have HG := Lib.hid hg
    clear hg
    by_cases hlt : k < n
    · have hlti : (k : Int) < (n : Int) := by omega
      obtain ⟨b, off, hA, hbb, hc⟩ := H2.out.2.1.rows (by omega)
      subst hA
      obtain ⟨x, hx⟩ : ∃ x, x = bitN n (F k) := ⟨_, rfl⟩
      have hx2 : x < 65536 := by rw [hx]; exact bitN_16 _ (by omega)
      have c1 := hc k x (by rw [rowsN_at _ hlt, hx])
      obtain ⟨t, ht⟩ : ∃ t, t = F k k := ⟨_, rfl⟩
      have hht := fun (W : World) => has_to x k t hx2 (by omega) (by rw [hx, bitN_test, decide_eq_true hlt, ht]; rfl) W
      have HH := Lib.hid (And.intro hht ht)
      clear hc hx ht hht
      cases t
      · go_wp2_with (go_at_call 63; go_must (refine (HH.out.1 _).mono ?_); rintro e w9 ⟨rfl, rfl⟩)
        go_round
        case rel =>
          refine ⟨k + 1, by omega, by go_num, fun j hj => ?_⟩
          by_cases hj2 : j < k
          · exact HG.out j hj2
          · obtain rfl : j = k := by omega
            exact HH.out.2.symm
        case measure => simp [intOf]; omega
      · go_wp2_with (go_at_call 63; go_must (refine (HH.out.1 _).mono ?_); rintro e w9 ⟨rfl, rfl⟩)
        go_ret2
        obtain ⟨hup, hsz, hsz0, hok⟩ := HU.out
        have hok2 : okG ids l = true := by
          cases h : okG ids l
          · have := hsz0 h; omega
          · rfl
        have hkl : k < ids.length := by have := hsz hok2; omega
        have hka : ids[k]? = some ids[k] := List.getElem?_eq_getElem hkl
        have hno := ordOk_no (l := l) hka (by rw [← hup k _ hka]; exact HH.out.2.symm)
        rw [hno, vN_no hno]
        exact ⟨_, rfl, H2.out.1, rfl, .inl ⟨rfl, rfl⟩⟩
    · have hkn : k = n := by omega
      have HK := Lib.hid hkn
      clear hkn
      go_wp2_with fail
      go_ret2
      obtain ⟨hup, hsz, hsz0, hok⟩ := HU.out
      cases h : okG ids l
      · have hno : ordOkG ids l = false := by simp [ordOkG, h]
        have h0 := hsz0 h
        rw [hno, vN_no hno, hok, h]
        have h9 := H2.out.2.2
        rw [h0] at h9 ⊢
        exact ⟨_, rfl, H2.out.1, h9⟩
      · have hyes : ordOkG ids l = true := ordOk_of h fun j a hj => by
          rw [← hup j a hj]
          exact HG.out j (by have := (List.getElem?_eq_some_iff.1 hj).1; rw [HK.out, hsz h]; exact this)
        have h9 := H2.out.2.2
        rw [hyes, vN_ok hyes, hok, h]
        rw [hsz h] at h9 ⊢
        exact ⟨_, rfl, H2.out.1, h9⟩
end Go.Proofs.Ytnkdpogplkomhaa
