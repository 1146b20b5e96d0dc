/- What the program's spans of dates, and its earliest dates, are. -/
import Derived.Test.YtnkdpogplkomhaaQq
namespace Go.Proofs.Ytnkdpogplkomhaa
open Go.RowKit

theorem qOrd_no {A B C : Option Addr} {ca cb cc : Nat} {ids : List Int} {l bs : List Ctx} {w : World} (h : argsD ids l bs = false) (ha : Reads w w.heap.size 1 A ids.length (cellsI ids)) (hb : Reads w w.heap.size 3 B l.length (cellsC l)) (hc : Reads w w.heap.size 3 C bs.length (cellsC bs))
    (hn : ids.length ≤ 1000000000) (hl : l.length ≤ 1000000000) (hm : bs.length ≤ 1000000000) :
    Calls Try.prog 43 #[.slice A ids.length ca, .slice B l.length cb, .slice C bs.length cc] w fun e w2 => e = .returned (.tuple #[.agg #[.slice none 0 0, .slice none 0 0, .slice none 0 0], .bool false]) ∧ Below w.heap.size w w2 :=
  (iDOrder_any A B C ca cb cc ids l bs w ha hb hc hn hl hm).mono fun e w2 ⟨hb2, h2⟩ => by
    rcases h2 with ⟨_, he⟩ | ⟨h3, _⟩
    · exact ⟨he, hb2⟩
    · rw [h] at h3; cases h3
theorem qOrd_yes {A B C : Option Addr} {ca cb cc : Nat} {ids : List Int} {l bs : List Ctx} {w : World} (h : argsD ids l bs = true) (ha : Reads w w.heap.size 1 A ids.length (cellsI ids)) (hb : Reads w w.heap.size 3 B l.length (cellsC l)) (hc : Reads w w.heap.size 3 C bs.length (cellsC bs))
    (hn : ids.length ≤ 1000000000) (hl : l.length ≤ 1000000000) (hm : bs.length ≤ 1000000000) :
    Calls Try.prog 43 #[.slice A ids.length ca, .slice B l.length cb, .slice C bs.length cc] w fun e w2 => Below w.heap.size w w2 ∧ ∃ A2 c2 A3 c3, e = .returned (.tuple #[.agg #[.slice A ids.length ca, .slice A2 ids.length c2, .slice A3 ids.length c3], .bool true]) ∧
      Reads w2 w2.heap.size 1 A2 ids.length (cellsI (groupsG ids l)) ∧ Reads w2 w2.heap.size 1 A3 ids.length (cellsU (rowsN ids.length (dirQ ids l))) :=
  (iDOrder_any A B C ca cb cc ids l bs w ha hb hc hn hl hm).mono fun e w2 ⟨hb2, h2⟩ => by
    rcases h2 with ⟨h3, _⟩ | ⟨_, h3⟩
    · rw [h] at h3; cases h3
    · exact ⟨hb2, h3⟩
set_option maxHeartbeats 1600000 in
set_option maxRecDepth 100000 in
theorem iDatesOf_any (A B C : Option Addr) (ca cb cc : Nat) (ids : List Int) (l bs : List Ctx) (w : World) (ha : Reads w w.heap.size 1 A ids.length (cellsI ids)) (hb : Reads w w.heap.size 3 B l.length (cellsC l)) (hc : Reads w w.heap.size 3 C bs.length (cellsC bs))
    (hn : ids.length ≤ 1000000000) (hl : l.length ≤ 1000000000) (hm : bs.length ≤ 1000000000) :
    Calls Try.prog 13 #[.slice A ids.length ca, .slice B l.length cb, .slice C bs.length cc] w (PairSp w (datesD ids l bs) (okD ids l bs)) := by
  cases hA : argsD ids l bs
  · have hO := Lib.hid (qOrd_no (ca := ca) (cb := cb) (cc := cc) hA ha hb hc hn hl hm)
    have HA := Lib.hid (okD_args hA)
    clear hA ha hb hc
    go_enter Try.func13, Try.ntmps13
    go_wp2_with (go_at_call 43; go_must (refine hO.out.mono ?_); rintro e w2 ⟨rfl, b2⟩)
    go_ret2
    exact pairSp_mk (m := []) HA.out.symm.symm (datesD_no HA.out) (b2.alloc b2.size _) (World.ownsRow_nil _ _ _ _)
  · have hO := Lib.hid (qOrd_yes (ca := ca) (cb := cb) (cc := cc) hA ha hb hc hn hl hm)
    have HR := Lib.hid (And.intro ha (And.intro hc hA))
    clear hA ha hb hc
    go_enter Try.func13, Try.ntmps13
    go_wp2_with (first
      | (go_at_call 43; go_must (refine hO.out.mono ?_); rintro e w2 ⟨b2, A2, c2, A3, c3, rfl, rg, rf⟩
         have bA := (Below.refl w2.heap.size w2).alloc (Nat.le_refl _) (.cells #[.slice A ids.length ca, .slice A2 ids.length c2, .slice A3 ids.length c3] 73)
         have H2 := Lib.hid (And.intro (HR.out.1.step (below_step b2 bA)) (And.intro (rg.step bA) (And.intro (rf.step bA) (And.intro (HR.out.2.1.step (below_step b2 bA)) (below_step b2 bA)))))
         clear b2 rg rf bA)
      | (go_at_call 51; go_must (refine (dSpans_any A A2 A3 C ca c2 c3 cc ids l bs _ H2.out.1 H2.out.2.1 H2.out.2.2.1 H2.out.2.2.2.1 HR.out.2.2).mono ?_); rintro e w3 ⟨v3, rfl, b3, o3⟩))
    go_ret2
    exact ⟨_, rfl, below_step H2.out.2.2.2.2 b3, own_less o3 H2.out.2.2.2.2.size⟩
set_option maxHeartbeats 1600000 in
set_option maxRecDepth 100000 in
theorem iEarliest_any (A B C : Option Addr) (ca cb cc : Nat) (ids : List Int) (l bs : List Ctx) (w : World) (ha : Reads w w.heap.size 1 A ids.length (cellsI ids)) (hb : Reads w w.heap.size 3 B l.length (cellsC l)) (hc : Reads w w.heap.size 3 C bs.length (cellsC bs))
    (hn : ids.length ≤ 1000000000) (hl : l.length ≤ 1000000000) (hm : bs.length ≤ 1000000000) :
    Calls Try.prog 22 #[.slice A ids.length ca, .slice B l.length cb, .slice C bs.length cc] w (PairIn w (firstD ids l bs) (okD ids l bs)) := by
  obtain ⟨i0, hi0, hz0, hz1, hz2⟩ := info_parts infoInt
  have hd := iDatesOf_any A B C ca cb cc ids l bs w ha hb hc hn hl hm
  have hle := datesD_len ids l bs
  have hF : firstD ids l bs = (datesD ids l bs).map Sp.lo := rfl
  obtain ⟨D, hD⟩ : ∃ D, D = datesD ids l bs := ⟨_, rfl⟩
  rw [← hD] at hd hle hF
  rw [hF]
  obtain ⟨F, hF2⟩ : ∃ F, F = D.map Sp.lo := ⟨_, rfl⟩
  have hFl : F.length = D.length := by rw [hF2, List.length_map]
  rw [← hF2]
  have H := Lib.hid (And.intro hd (And.intro hF2 hFl))
  clear hd hF hD ha hb hc hF2 hFl
  go_enter Try.func22, Try.ntmps22
  go_wp2_with (first
    | (go_at_call 13; go_must (refine H.out.1.mono ?_); rintro e w2 ⟨v2, rfl, k2, o2⟩
       obtain ⟨A2, c2, hv2, _, hr2⟩ := Reads.of_own o2
       subst hv2
       have K := Lib.hid (And.intro k2 hr2)
       have hs2 := k2.size
       clear k2 o2 hr2)
    | (at_make
       go_must (refine wpList_make_full _ rfl (.tmp 21) (.tmp 21) _ rfl w2.heap.size 3 i0 _ 1 Try.underlying23 hi0 hz0 hz1 _ _ _ _ D.length rfl rfl rfl rfl (by rw [hz2]; omega) (by simp only [maxLen]; omega) (Nat.le_refl _) ?_)
       intro w5 hown hg5))
  rw [zero_cellsI] at hown
  have hb5 : Below w2.heap.size w2 w5 := (Below.refl _ _).grown hg5 (Nat.le_refl _) (fun k hk => by cases hk)
  have hfi : fillI F 0 = List.replicate D.length 0 := by simp [fillI, H.out.2.2]
  rw [← hfi] at hown
  have O := Lib.hid (And.intro hown hb5)
  clear hown hg5 hb5 hfi
  go_loopw [25] (fun i wr => ∃ k : Nat, k ≤ D.length ∧ i = .int .i64 k ∧ Below w2.heap.size w2 wr ∧ wr.ownsRow w2.heap.size 3 1 (.slice (some ⟨w2.heap.size, 0, none⟩) D.length D.length) D.length (cellsI (fillI F k))) (fun i _ => D.length - (intOf i).toNat)
  case atStart => exact ⟨0, Nat.zero_le _, rfl, O.out.2, O.out.1⟩
  case round =>
    obtain ⟨k, hk, rfl, hbl, hown⟩ := hrel
    have hsz := hbl.size
    by_cases hlt : k < D.length
    · obtain ⟨b, off, hA, hbb, hc⟩ := (K.out.2.below hbl).sp (by omega)
      subst hA
      obtain ⟨s, hs⟩ : ∃ s, D[k]? = some s := ⟨_, List.getElem?_eq_getElem hlt⟩
      obtain ⟨c1, c2'⟩ := hc k s hs
      have hkl : (k : Int) < (D.length : Int) := by omega
      obtain ⟨d1, f1⟩ := own_cell0 hown H.out.2.2 hlt
      have hgl := (hown.lt _ rfl).2
      have bA := (Below.refl wr.heap.size wr).alloc (Nat.le_refl _) (.cells #[.int .i64 s.lo, .int .i64 s.hi] 33)
      have hst := own_storeI hown k s.lo
      rw [fillI_set (x := s.lo) (by rw [H.out.2.1, List.getElem?_map, hs]; rfl)] at hst
      have bS : Below w2.heap.size w2 (wr.setCell ⟨w2.heap.size, k, none⟩ (.int .i64 s.lo)) := hbl.setCell (Nat.le_refl _) _
      have HX := Lib.hid (And.intro hst bS)
      clear hbl hown hs hc hst bA bS
      go_wp2_with fail
      go_roundw
      case rel =>
        have bA := (Below.refl (wr.setCell ⟨w2.heap.size, k, none⟩ (.int .i64 s.lo)).heap.size (wr.setCell ⟨w2.heap.size, k, none⟩ (.int .i64 s.lo))).alloc (Nat.le_refl _) (.cells #[.int .i64 s.lo, .int .i64 s.hi] 33)
        exact ⟨k + 1, by omega, by go_num, below_step HX.out.2 bA, own_below HX.out.1 bA⟩
      case measure => simp [intOf]; omega
    · have hkl : k = D.length := by omega
      subst hkl
      have HX := Lib.hid (And.intro hbl hown)
      clear hbl hown
      go_wp2_with fail
      go_ret2
      have h := HX.out.2
      have h2 : fillI F D.length = F := by rw [← H.out.2.2, fillI_all]
      rw [h2] at h
      refine ⟨_, rfl, below_step K.out.1 HX.out.1, ?_⟩
      rw [H.out.2.2]
      exact own_less h hs2
end Go.Proofs.Ytnkdpogplkomhaa
