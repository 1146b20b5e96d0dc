/- The finds that the program tells to be too late. -/
import Derived.Test.YtopdmcnbchpihaaIfa
import Derived.Test.YtopdmcnbchpihaaTt
import Derived.Test.YtopdmcnbchpihaaFf
import Derived.Test.YtopdmcnbchpihaaIh
namespace Go.Proofs.Ytopdmcnbchpihaa
open Go.RowKit

set_option maxHeartbeats 4000000 in
set_option maxRecDepth 100000 in
theorem iLate_no (A B C D : Option Addr) (ca cb cc cd : Nat) (ids : List Int) (l bs L : List Ctx) (w : World) (ha : Reads w w.heap.size 1 A ids.length (cellsI ids)) (hb : Reads w w.heap.size 3 B l.length (cellsC l)) (hc : Reads w w.heap.size 3 C bs.length (cellsC bs)) (hd : Reads w w.heap.size 3 D L.length (cellsC L))
    (hn : ids.length ≤ 1000000000) (hl : l.length ≤ 1000000000) (hm : bs.length ≤ 1000000000) (hL : L.length ≤ 1000000000) (hno : lateOk ids l bs L = false) :
    Calls Try.prog 27 #[.slice A ids.length ca, .slice B l.length cb, .slice C bs.length cc, .slice D L.length cd] w (IntsS w (lateG ids l bs L)) := by
  have hD := iDatesOf_any A B C ca cb cc ids l bs w ha hb hc hn hl hm
  have hV := fun (W : World) (hW : Below w.heap.size w W) => iFindsValid_any D cd L W (hd.step hW) (by omega)
  have HG := Lib.hid (lateG_no hno)
  obtain ⟨S, hS⟩ : ∃ S, S = datesD ids l bs := ⟨_, rfl⟩
  cases h1 : okD ids l bs
  · rw [← hS, h1] at hD
    have H := Lib.hid hD
    clear ha hb hc hd hD hV hS h1 hno
    go_enter Try.func27, Try.ntmps27
    go_wp2_with (go_at_call 30; go_must (refine H.out.mono ?_); rintro e w2 ⟨v2, rfl, k2, o2⟩)
    go_ret
    exact ⟨_, rfl, k2, by rw [HG.out]; exact World.ownsRow_nil _ _ _ _⟩
  · rw [← hS, h1] at hD
    have h2 : validF L = false := by simpa [lateOk, h1] using hno
    simp only [h2] at hV
    have H := Lib.hid (And.intro hD hV)
    clear ha hb hc hd hD hV hS h1 hno h2
    go_enter Try.func27, Try.ntmps27
    go_wp2_with (first
      | (go_at_call 30; go_must (refine H.out.1.mono ?_); rintro e w2 ⟨v2, rfl, k2, o2⟩)
      | (go_at_call 31; go_must (refine (H.out.2 _ k2).mono ?_); rintro e w3 ⟨rfl, k3⟩))
    go_ret
    exact ⟨_, rfl, below_step k2 k3, by rw [HG.out]; exact World.ownsRow_nil _ _ _ _⟩
set_option maxHeartbeats 8000000 in
set_option maxRecDepth 100000 in
theorem iLate_yes (A B C D : Option Addr) (ca cb cc cd : Nat) (ids : List Int) (l bs L : List Ctx) (w : World) (ha : Reads w w.heap.size 1 A ids.length (cellsI ids)) (hb : Reads w w.heap.size 3 B l.length (cellsC l)) (hc : Reads w w.heap.size 3 C bs.length (cellsC bs)) (hd : Reads w w.heap.size 3 D L.length (cellsC L))
    (hn : ids.length ≤ 1000000000) (hl : l.length ≤ 1000000000) (hm : bs.length ≤ 1000000000) (hL : L.length ≤ 1000000000) (hyes : lateOk ids l bs L = true) :
    Calls Try.prog 27 #[.slice A ids.length ca, .slice B l.length cb, .slice C bs.length cc, .slice D L.length cd] w (IntsS w (lateG ids l bs L)) := by
  obtain ⟨i0, hi0, hz0, hz1, hz2⟩ := info_parts infoInt
  have hD := iDatesOf_any A B C ca cb cc ids l bs w ha hb hc hn hl hm
  have hV := fun (W : World) (hW : Below w.heap.size w W) => iFindsValid_any D cd L W (hd.step hW) (by omega)
  obtain ⟨h1, h2⟩ : okD ids l bs = true ∧ validF L = true := by simpa [lateOk] using hyes
  have hG := lateG_ok hyes
  rw [hG]
  have hS := datesD_ok h1
  have hn12 : ids.length ≤ 12 := validO_len (okG_parts (ordOk_okG (argsD_parts (okD_parts h1).1).1)).1
  have hL20 := (validF_ok h2).2
  simp only [hS, h1] at hD
  simp only [h2] at hV
  obtain ⟨p, hp⟩ : ∃ p, p = isLate ids l bs := ⟨_, rfl⟩
  rw [← hp]
  have H := Lib.hid (And.intro hD (And.intro hV (And.intro ha (And.intro hd hp))))
  clear ha hb hc hd hD hV hS h1 h2 hG hp hyes
  go_enter Try.func27, Try.ntmps27
  go_wp2_with (first
    | (go_at_call 30; go_must (refine H.out.1.mono ?_); rintro e w2 ⟨v2, rfl, k2, o2⟩
       have hl2 : (allD ids l bs).length = ids.length := allD_len ids l bs
       rw [hl2] at o2
       obtain ⟨A2, c2, hv2, _, _⟩ := Reads.of_own o2
       subst hv2
       have K2 := Lib.hid (And.intro k2 o2)
       clear k2 o2 hl2)
    | (go_at_call 31; go_must (refine (H.out.2.1 _ K2.out.1).mono ?_); rintro e w3 ⟨rfl, k3⟩))
  obtain ⟨W3, hW3⟩ : ∃ W3, W3 = w3.alloc (.cells #[.slice A ids.length ca, .slice A2 ids.length c2] 113) := ⟨_, rfl⟩
  have bA : Below w3.heap.size w3 W3 := by rw [hW3]; exact (Below.refl w3.heap.size w3).alloc (Nat.le_refl _) _
  have hs3 : w3.heap.size < W3.heap.size := by rw [hW3]; simp
  have hz : W3.heap[w3.heap.size]? = some (.cells #[.slice A ids.length ca, .slice A2 ids.length c2] 113 (0, 0)) := by rw [hW3]; exact heap_alloc_new _ _
  have b23 := below_step k3 bA
  have bW := below_step K2.out.1 b23
  have K3 := Lib.hid (And.intro hz (And.intro bW (And.intro (H.out.2.2.1.step bW) (And.intro (H.out.2.2.2.1.step bW) (own_below K2.out.2 b23)))))
  rw [← hW3]
  clear hz bW b23 bA k3 hW3 K2
  go_loopw [12, 35] (fun v c wr => ∃ k : Nat, k ≤ L.length ∧ c = .int .i64 k ∧ Below W3.heap.size W3 wr ∧ wr.ownsRow W3.heap.size 3 1 v (idxF p L k).length (cellsI (idxF p L k))) (fun _ c _ => L.length - (intOf c).toNat)
  case atStart => exact ⟨0, Nat.zero_le _, rfl, Below.refl _ _, World.ownsRow_nil _ _ _ _⟩
  case round =>
    obtain ⟨k, hk, rfl, hbl, hov⟩ := hrel
    have hsz := hbl.size
    by_cases hlt : k < L.length
    · have hkl : (k : Int) < (L.length : Int) := by omega
      obtain ⟨b, off, hA, hbb, hcc⟩ := (K3.out.2.2.2.1.below hbl).ctx (by omega)
      subst hA
      obtain ⟨⟨xa, xb, xc⟩, hx⟩ : ∃ f, L[k]? = some f := ⟨_, List.getElem?_eq_getElem hlt⟩
      obtain ⟨c1, c2', c3⟩ := hcc k _ hx
      dsimp only at c1 c2' c3
      have hpf : p ⟨xa, xb, xc⟩ = (decide (xa ∈ ids) && decide (highD ids l bs (placeI ids xa) < xc)) := by rw [H.out.2.2.2.2]; rfl
      have hll := idxF_len p L k
      have ht := (hbl.block _ hs3).trans K3.out.1
      obtain ⟨W5, hW5⟩ : ∃ W5, W5 = wr.alloc (.cells #[.int .i64 xa, .int .i64 xb, .int .i64 xc] 31) := ⟨_, rfl⟩
      have b5 : Below wr.heap.size wr W5 := by rw [hW5]; exact (Below.refl wr.heap.size wr).alloc (Nat.le_refl _) _
      have hs5 : wr.heap.size < W5.heap.size := by rw [hW5]; simp
      have hf5 : W5.heap[wr.heap.size]? = some (.cells #[.int .i64 xa, .int .i64 xb, .int .i64 xc] 31 (0, 0)) := by rw [hW5]; exact heap_alloc_new _ _
      have t5 := (b5.block _ (by omega)).trans ht
      have z0 := cell_of_row _ _ 0 _ _ _ t5
      have z1 := cell_of_row _ _ 1 _ _ _ t5
      have y0 := cell_of_row _ _ 0 _ _ _ hf5
      have y2 := cell_of_row _ _ 2 _ _ _ hf5
      rw [hW5] at z0 z1 y0
      have b35 := hbl.trans (b5.mono hsz)
      have HX := Lib.hid (And.intro b35 (And.intro (own_below hov b5) hx))
      have hrd := K3.out.2.2.1.step b35
      clear hbl hov hcc ht t5 b35
      by_cases hin : xa ∈ ids
      · obtain ⟨p1, p2, p3⟩ := placeI_at hin
        obtain ⟨g, cap, hvs, hg1, hg2⟩ := K3.out.2.2.2.2.form (by omega)
        injection hvs with e1 e2 e3
        subst e1 e3
        clear e2
        obtain ⟨d1, d2, _, _⟩ := own_cellsS K3.out.2.2.2.2 (allD_at (l := l) (B := bs) p2)
        dsimp only at d2
        have hE := entS_yes A ca g c2 ids xa W5 hrd hn hin
        obtain ⟨q, hq⟩ : ∃ q, q = placeI ids xa := ⟨_, rfl⟩
        obtain ⟨y, hy⟩ : ∃ y, y = highD ids l bs q := ⟨_, rfl⟩
        rw [← hq] at d2 hpf hE
        rw [← hy] at d2 hpf
        rw [decide_eq_true hin, Bool.true_and] at hpf
        have d5 := (HX.out.1.cell (p := ⟨g, q * 2 + 1, none⟩) hg2).trans d2
        have HP := Lib.hid hE
        clear p1 p2 p3 hin hq hy d1 d2 hE hrd
        have arm : ∀ w6, Below W5.heap.size W5 w6 → w6.cell? ⟨wr.heap.size, 2, none⟩ = some (.int .i64 xc) ∧ w6.cell? ⟨g, q * 2 + 1, none⟩ = some (.int .i64 y) := fun w6 k6 =>
          ⟨(k6.cell (p := ⟨wr.heap.size, 2, none⟩) hs5).trans y2, (k6.cell (p := ⟨g, q * 2 + 1, none⟩) (by show g < W5.heap.size; omega)).trans d5⟩
        have HM := Lib.hid arm
        clear arm d5
        by_cases hyx : y < xc
        · have e5 : decide (y < xc) = true := decide_eq_true hyx
          have HY := Lib.hid (hpf.trans e5)
          clear hpf
          go_wp2_with (go_at_call 79; rw [← hW5]; go_must (refine HP.out.mono ?_); rintro e w6 ⟨rfl, k6⟩
                       obtain ⟨m1, m2⟩ := HM.out w6 k6)
          go_quiet (fail)
          have b7 : Below W5.heap.size W5 (w6.drewN nq) := below_draws k6 nq
          obtain ⟨w7, hw7⟩ : ∃ w7, w7 = w6.drewN nq := ⟨_, rfl⟩
          rw [← hw7] at b7 ⊢
          have HW7 := Lib.hid b7
          have hs7 := b7.size
          clear b7 hw7 m1 m2 k6 c1 c2' c3 y0 y2 z0 z1 hyx e5
          go_wp2_with (at_builtin
                       go_must (refine wpList_append_reads _ rfl (.tmp 55) (.tmp 57) _ rfl W3.heap.size 3 i0 _ 1 8 Try.underlying29 hi0 hz0 hz1 hz2 rfl (by omega) u12 (idxF p L k).length _ rfl ((own_below HX.out.2.1 HW7.out).alloc _) (w7.heap.size + 1) _ 1 1 (cellsI [(k : Int)]) rfl (reads_int (by omega)) (cellsI_one _) (by simp only [maxLen]; omega) (by omega) (by simp; omega) ?_)
                       intro v8 w8 hown8 hg8 hat8)
          go_roundw
          case rel =>
            have ho7 := own_below HX.out.2.1 HW7.out
            have b8 : Below W3.heap.size W3 w8 := (below_step HX.out.1 HW7.out).trans (app_below ho7 (Nat.le_refl _) (by omega) hg8)
            have e9 : idxF p L (k + 1) = idxF p L k ++ [(k : Int)] := idxF_yes HX.out.2.2 HY.out
            have e10 : cellsI (idxF p L (k + 1)) = cellsI (idxF p L k) ++ cellsI [(k : Int)] := by rw [e9]; simp [cellsI]
            have e11 : (idxF p L (k + 1)).length = (idxF p L k).length + 1 := by rw [e9]; simp
            exact ⟨k + 1, by omega, by go_num, b8, by rw [e10, e11]; exact hown8⟩
          case measure => simp [intOf]; omega
        · have e5 : decide (y < xc) = false := decide_eq_false hyx
          have HY := Lib.hid (hpf.trans e5)
          clear hpf
          go_wp2_with (go_at_call 79; rw [← hW5]; go_must (refine HP.out.mono ?_); rintro e w6 ⟨rfl, k6⟩
                       obtain ⟨m1, m2⟩ := HM.out w6 k6)
          go_quiet (fail)
          go_wp2_with fail
          go_roundw
          case rel => exact ⟨k + 1, by omega, by go_num, below_draws (below_step HX.out.1 k6) nq, by rw [idxF_no HX.out.2.2 HY.out]; exact own_below HX.out.2.1 (below_draws k6 nq)⟩
          case measure => simp [intOf]; omega
      · have HY : Hid (p ⟨xa, xb, xc⟩ = false) := by show p ⟨xa, xb, xc⟩ = false; rw [hpf, decide_eq_false hin, Bool.false_and]
        have HP := Lib.hid (entS_no A ca (.slice A2 ids.length c2) ids xa W5 hrd hn hin)
        clear hin hpf hrd
        go_wp2_with (go_at_call 79; rw [← hW5]; go_must (refine HP.out.mono ?_); rintro e w6 ⟨rfl, k6⟩)
        go_quiet (fail)
        go_wp2_with fail
        go_roundw
        case rel => exact ⟨k + 1, by omega, by go_num, below_draws (below_step HX.out.1 k6) nq, by rw [idxF_no HX.out.2.2 HY.out]; exact own_below HX.out.2.1 (below_draws k6 nq)⟩
        case measure => simp [intOf]; omega
    · have hkl : k = L.length := by omega
      subst hkl
      have HX := Lib.hid (And.intro hbl hov)
      clear hbl hov
      go_wp2_with fail
      go_ret
      exact ⟨_, rfl, K3.out.2.1.trans (HX.out.1.mono K3.out.2.1.size), own_less HX.out.2 K3.out.2.1.size⟩
theorem iFindsLate_any (A B C D : Option Addr) (ca cb cc cd : Nat) (ids : List Int) (l bs L : List Ctx) (w : World) (ha : Reads w w.heap.size 1 A ids.length (cellsI ids)) (hb : Reads w w.heap.size 3 B l.length (cellsC l)) (hc : Reads w w.heap.size 3 C bs.length (cellsC bs)) (hd : Reads w w.heap.size 3 D L.length (cellsC L))
    (hn : ids.length ≤ 1000000000) (hl : l.length ≤ 1000000000) (hm : bs.length ≤ 1000000000) (hL : L.length ≤ 1000000000) :
    Calls Try.prog 27 #[.slice A ids.length ca, .slice B l.length cb, .slice C bs.length cc, .slice D L.length cd] w (IntsS w (lateG ids l bs L)) := by
  cases h : lateOk ids l bs L
  · exact iLate_no A B C D ca cb cc cd ids l bs L w ha hb hc hd hn hl hm hL h
  · exact iLate_yes A B C D ca cb cc cd ids l bs L w ha hb hc hd hn hl hm hL h
end Go.Proofs.Ytopdmcnbchpihaa
