/- The model's FindsLate where there are no dates or the finds are invalid. -/
import Derived.Test.YtopdmcnbchpihaaFna
import Derived.Test.YtopdmcnbchpihaaFf
import Derived.Test.YtopdmcnbchpihaaKk
import Derived.Test.YtopdmcnbchpihaaSs
namespace Go.Proofs.Ytopdmcnbchpihaa
open Go.RowKit

set_option maxHeartbeats 4000000 in
set_option maxRecDepth 100000 in
theorem sLate_no (A B C D : Option Addr) (ca cb cc cd : Nat) (ids : List Int) (l bs L : List Ctx) (w : World) (ha : Reads w w.heap.size 1 A ids.length (cellsI ids)) (hb : Reads w w.heap.size 3 B l.length (cellsC l)) (hc : Reads w w.heap.size 3 C bs.length (cellsC bs)) (hd : Reads w w.heap.size 3 D L.length (cellsC L))
    (hn : ids.length ≤ 1000000000) (hl : l.length ≤ 1000000000) (hm : bs.length ≤ 1000000000) (hL : L.length ≤ 1000000000) (hno : lateOk ids l bs L = false) :
    Calls Try.prog 28 #[.slice A ids.length ca, .slice B l.length cb, .slice C bs.length cc, .slice D L.length cd] w (IntsS w (lateG ids l bs L)) := by
  have hD := fun (W : World) (hW : Below w.heap.size w W) => sDatesOf_any A B C ca cb cc ids l bs W (ha.step hW) (hb.step hW) (hc.step hW) hn hl hm
  have hV := fun (W : World) (hW : Below w.heap.size w W) => sValidF_any D cd L W (hd.step hW) (by omega)
  have hb1 : Below w.heap.size w (w.alloc (.cells #[] 3)) := (Below.refl _ _).alloc (Nat.le_refl _) _
  have ho1 : (w.alloc (.cells #[] 3)).ownsRow w.heap.size 3 1 (.slice (some ⟨w.heap.size, 0, none⟩) 0 0) 0 [] := own_empty (Nat.le_refl _) rfl
  obtain ⟨S, hS⟩ : ∃ S, S = datesD ids l bs := ⟨_, rfl⟩
  cases h1 : okD ids l bs
  · have HG : Hid (lateG ids l bs L = []) := by exact lateG_no (by simp [lateOk, h1])
    rw [← hS, h1] at hD
    have H := Lib.hid (And.intro hb1 (And.intro ho1 (And.intro hD hV)))
    clear ha hb hc hd hD hV hb1 ho1 hS h1
    go_enter Try.func28, Try.ntmps28
    go_wp2_with fail
    refine (H.out.2.2.1 _ H.out.1).mono ?_
    rintro e w2 ⟨v2, rfl, k2, o2⟩
    have K2 := Lib.hid (And.intro (below_step H.out.1 k2) (own_below H.out.2.1 k2))
    clear k2 o2
    go_wp2_with fail
    go_loopw [9, 12] (fun v c wr => v = .slice (some ⟨w.heap.size, 0, none⟩) 0 0 ∧ c = .int .i64 0 ∧ wr = w2) (fun _ _ _ => 0)
    case atStart => exact ⟨rfl, rfl, rfl⟩
    case round =>
      obtain ⟨rfl, rfl, rfl⟩ := hrel
      by_cases h0 : 0 < L.length
      · have h0i : (0 : Int) < (L.length : Int) := by omega
        go_wp2_with fail
        go_ret
        exact ⟨_, rfl, K2.out.1, by rw [HG.out]; exact K2.out.2⟩
      · have h0i : (L.length : Int) = 0 := by omega
        go_wp2_with fail
        go_ret
        exact ⟨_, rfl, K2.out.1, by rw [HG.out]; exact K2.out.2⟩
  · rw [← hS, h1] at hD
    cases h2 : validF L
    · have HG : Hid (lateG ids l bs L = []) := by exact lateG_no (by simp [lateOk, h2])
      rw [h2] at hV
      have H := Lib.hid (And.intro hb1 (And.intro ho1 (And.intro hD hV)))
      clear ha hb hc hd hD hV hb1 ho1 hS h1
      go_enter Try.func28, Try.ntmps28
      go_wp2_with fail
      refine (H.out.2.2.1 _ H.out.1).mono ?_
      rintro e w2 ⟨v2, rfl, k2, o2⟩
      have K2 := Lib.hid (And.intro (below_step H.out.1 k2) (own_below H.out.2.1 k2))
      clear k2 o2
      go_wp2_with fail
      go_loopw [9, 12] (fun v c wr => v = .slice (some ⟨w.heap.size, 0, none⟩) 0 0 ∧ c = .int .i64 0 ∧ wr = w2) (fun _ _ _ => 0)
      case atStart => exact ⟨rfl, rfl, rfl⟩
      case round =>
        obtain ⟨rfl, rfl, rfl⟩ := hrel
        by_cases h0 : 0 < L.length
        · have h0i : (0 : Int) < (L.length : Int) := by omega
          have hsz := K2.out.1.size
          go_wp2_with (go_at_call 37
                       go_must (refine (H.out.2.2.2 _ K2.out.1).mono ?_)
                       rintro e w6 ⟨rfl, k6⟩)
          go_ret
          exact ⟨_, rfl, K2.out.1.trans (k6.mono hsz), by rw [HG.out]; exact own_below K2.out.2 k6⟩
        · have h0i : (L.length : Int) = 0 := by omega
          go_wp2_with fail
          go_ret
          exact ⟨_, rfl, K2.out.1, by rw [HG.out]; exact K2.out.2⟩
    · simp [lateOk, h1, h2] at hno
set_option maxHeartbeats 8000000 in
set_option maxRecDepth 100000 in
theorem sLate_yes (A B C D : Option Addr) (ca cb cc cd : Nat) (ids : List Int) (l bs L : List Ctx) (w : World) (ha : Reads w w.heap.size 1 A ids.length (cellsI ids)) (hb : Reads w w.heap.size 3 B l.length (cellsC l)) (hc : Reads w w.heap.size 3 C bs.length (cellsC bs)) (hd : Reads w w.heap.size 3 D L.length (cellsC L))
    (hn : ids.length ≤ 1000000000) (hl : l.length ≤ 1000000000) (hm : bs.length ≤ 1000000000) (hL : L.length ≤ 1000000000) (hyes : lateOk ids l bs L = true) :
    Calls Try.prog 28 #[.slice A ids.length ca, .slice B l.length cb, .slice C bs.length cc, .slice D L.length cd] w (IntsS w (lateG ids l bs L)) := by
  obtain ⟨i0, hi0, hz0, hz1, hz2⟩ := info_parts infoInt
  have hD := fun (W : World) (hW : Below w.heap.size w W) => sDatesOf_any A B C ca cb cc ids l bs W (ha.step hW) (hb.step hW) (hc.step hW) hn hl hm
  have hV := fun (W : World) (hW : Below w.heap.size w W) => sValidF_any D cd L W (hd.step hW) (by omega)
  have hP := fun (W : World) (hW : Below w.heap.size w W) (x : Int) => sPlace_any A ca ids x W (ha.step hW) (by omega)
  have hb1 : Below w.heap.size w (w.alloc (.cells #[] 3)) := (Below.refl _ _).alloc (Nat.le_refl _) _
  have ho1 : (w.alloc (.cells #[] 3)).ownsRow w.heap.size 3 1 (.slice (some ⟨w.heap.size, 0, none⟩) 0 0) 0 [] := own_empty (Nat.le_refl _) rfl
  obtain ⟨h1, h2⟩ : okD ids l bs = true ∧ validF L = true := by simpa [lateOk] using hyes
  have hG := lateG_ok hyes
  rw [hG]
  have hS := datesD_ok h1
  have hn12 : ids.length ≤ 12 := validO_len (okG_parts (ordOk_okG (argsD_parts (okD_parts h1).1).1)).1
  have hL20 := (validF_ok h2).2
  simp only [hS, h1] at hD
  simp only [h2] at hV
  obtain ⟨p, hp⟩ : ∃ p, p = isLate ids l bs := ⟨_, rfl⟩
  rw [← hp]
  have H := Lib.hid (And.intro hb1 (And.intro ho1 (And.intro hD (And.intro hV (And.intro hP (And.intro hd hp))))))
  clear ha hb hc hd hD hV hP hb1 ho1 hS h1 h2 hG hp hyes
  go_enter Try.func28, Try.ntmps28
  go_wp2_with fail
  refine (H.out.2.2.1 _ H.out.1).mono ?_
  rintro e w2 ⟨v2, rfl, k2, o2⟩
  have hl2 : (allD ids l bs).length = ids.length := allD_len ids l bs
  rw [hl2] at o2
  have hap : ∀ g, v2.ownBlock = some g → (Value.slice (some ⟨w.heap.size, 0, none⟩) 0 0).ownBlock ≠ some g := fun g h1 h2 => by
    have h3 := (o2.lt g h1).1
    have h4 : w.heap.size = g := by injection h2
    simp at h3
    omega
  obtain ⟨A2, c2, hv2, _, _⟩ := Reads.of_own o2
  subst hv2
  have K2 := Lib.hid (And.intro (below_step H.out.1 k2) (And.intro (own_below H.out.2.1 k2) (And.intro (own_less (base2 := w.heap.size) o2 (by simp)) hap)))
  clear k2 o2 hap
  go_wp2_with fail
  go_loopw [9, 12] (fun v c wr => ∃ k : Nat, k ≤ L.length ∧ c = .int .i64 k ∧ Below w.heap.size w wr ∧ wr.ownsRow w.heap.size 3 1 v (idxF p L k).length (cellsI (idxF p L k)) ∧ wr.ownsRow w.heap.size 54 2 (.slice A2 ids.length c2) ids.length (cellsS (allD ids l bs)) ∧
    ∀ g, (Value.slice A2 ids.length c2).ownBlock = some g → v.ownBlock ≠ some g) (fun _ c _ => L.length - (intOf c).toNat)
  case atStart => exact ⟨0, Nat.zero_le _, rfl, K2.out.1, K2.out.2.1, K2.out.2.2.1, K2.out.2.2.2⟩
  case round =>
    obtain ⟨k, hk, rfl, hbl, hov, hos, hap⟩ := hrel
    have hsz := hbl.size
    by_cases hlt : k < L.length
    · have hkl : (k : Int) < (L.length : Int) := by omega
      obtain ⟨b, off, hA, hbb, hcc⟩ := (H.out.2.2.2.2.2.1.below hbl).ctx (by omega)
      subst hA
      obtain ⟨⟨xa, xb, xc⟩, hx⟩ : ∃ f, L[k]? = some f := ⟨_, List.getElem?_eq_getElem hlt⟩
      obtain ⟨c1, c2', c3⟩ := hcc k _ hx
      dsimp only at c1 c2' c3
      have hpf : p ⟨xa, xb, xc⟩ = (decide (xa ∈ ids) && decide (highD ids l bs (placeI ids xa) < xc)) := by rw [H.out.2.2.2.2.2.2]; rfl
      have hll := idxF_len p L k
      have HX := Lib.hid (And.intro hbl (And.intro hov (And.intro hos (And.intro hap hx))))
      clear hbl hov hos hap hx hcc c2'
      by_cases hin : xa ∈ ids
      · obtain ⟨p1, p2, p3⟩ := placeI_at hin
        obtain ⟨g, cap, hvs, hg1, hg2⟩ := HX.out.2.2.1.form (by omega)
        injection hvs with e1 e2 e3
        subst e1 e3
        clear e2
        obtain ⟨d1, d2, _, _⟩ := own_cellsS HX.out.2.2.1 (allD_at (l := l) (B := bs) p2)
        dsimp only at d2
        obtain ⟨q, hq⟩ : ∃ q, q = placeI ids xa := ⟨_, rfl⟩
        obtain ⟨y, hy⟩ : ∃ y, y = highD ids l bs q := ⟨_, rfl⟩
        rw [← hq] at p1 p2 d2 hpf
        rw [← hy] at d2 hpf
        rw [decide_eq_true hin, Bool.true_and] at hpf
        have hP := H.out.2.2.2.2.1
        have hqi : (0 : Int) ≤ (q : Int) := by omega
        have hqn : (q : Int) < (ids.length : Int) := by omega
        have e0 : decide ((0 : Int) ≤ (q : Int)) = true := decide_eq_true hqi
        have HP := Lib.hid p1
        clear p1 p3 hin hq hy d1 hP
        by_cases hyx : y < xc
        · have e5 : decide (y < xc) = true := decide_eq_true hyx
          have HY := Lib.hid (hpf.trans e5)
          clear hyx hpf
          go_wp2_with (first
            | (go_at_call 37; go_must (refine (H.out.2.2.2.1 _ HX.out.1).mono ?_); rintro e w6 ⟨rfl, k6⟩
               have c1 := (k6.cell (p := ⟨b, off + k * 3, none⟩) (by show b < wr.heap.size; omega)).trans c1
               have c3 := (k6.cell (p := ⟨b, off + k * 3 + 2, none⟩) (by show b < wr.heap.size; omega)).trans c3
               have d2 := (k6.cell (p := ⟨g, q * 2 + 1, none⟩) hg2).trans d2)
            | (go_at_call 70; go_must (refine (H.out.2.2.2.2.1 w6 (HX.out.1.trans (k6.mono hsz)) xa).mono ?_); rw [HP.out]; rintro e w7 ⟨rfl, rfl⟩))
          go_quiet (fail)
          have b7 : Below wr.heap.size wr (w6.drewN nq) := below_draws k6 nq
          obtain ⟨w7, hw7⟩ : ∃ w7, w7 = w6.drewN nq := ⟨_, rfl⟩
          rw [← hw7] at b7 ⊢
          have HW7 := Lib.hid b7
          have hs7 := b7.size
          clear b7 hw7 c1 c3 d2 k6
          go_wp2_with (at_builtin
                       go_must (refine wpList_append_reads _ rfl (.tmp 57) (.tmp 59) _ rfl w.heap.size 3 i0 _ 1 8 Try.underlying29 hi0 hz0 hz1 hz2 rfl (by omega) u9 (idxF p L k).length _ rfl ((own_below HX.out.2.1 HW7.out).alloc _) (w7.heap.size + 1) _ 1 1 (cellsI [(k : Int)]) rfl (reads_int (by omega)) (cellsI_one _) (by simp only [maxLen]; omega) (by omega) (by simp; omega) ?_)
                       intro v8 w8 hown8 hg8 hat8)
          go_roundw
          case rel =>
            obtain ⟨hbl, hov, hos, hap, hx⟩ := HX.out
            have ho7 := own_below hov HW7.out
            have hs8 := own_below hos HW7.out
            have b8 : Below w.heap.size w w8 := (hbl.trans (HW7.out.mono hsz)).trans (app_below ho7 (Nat.le_refl _) (Nat.le_trans hsz hs7) hg8)
            have e9 : idxF p L (k + 1) = idxF p L k ++ [(k : Int)] := idxF_yes hx HY.out
            have e10 : cellsI (idxF p L (k + 1)) = cellsI (idxF p L k) ++ cellsI [(k : Int)] := by rw [e9]; simp [cellsI]
            have e11 : (idxF p L (k + 1)).length = (idxF p L k).length + 1 := by rw [e9]; simp
            refine ⟨k + 1, by omega, by go_num, b8, by rw [e10, e11]; exact hown8, own_other (hs8.alloc _) (ho7.alloc _) hap hg8, fun g h1 h2 => ?_⟩
            rcases hat8 with h3 | h3
            · exact hap g h1 (h3 ▸ h2)
            · rw [h3] at h2
              injection h2 with h2
              have := (hs8.lt g h1).2
              simp at h2
              omega
          case measure => simp [intOf]; omega
        · have e5 : decide (y < xc) = false := decide_eq_false hyx
          have HY := Lib.hid (hpf.trans e5)
          clear hyx hpf
          go_wp2_with (first
            | (go_at_call 37; go_must (refine (H.out.2.2.2.1 _ HX.out.1).mono ?_); rintro e w6 ⟨rfl, k6⟩
               have c1 := (k6.cell (p := ⟨b, off + k * 3, none⟩) (by show b < wr.heap.size; omega)).trans c1
               have c3 := (k6.cell (p := ⟨b, off + k * 3 + 2, none⟩) (by show b < wr.heap.size; omega)).trans c3
               have d2 := (k6.cell (p := ⟨g, q * 2 + 1, none⟩) hg2).trans d2)
            | (go_at_call 70; go_must (refine (H.out.2.2.2.2.1 w6 (HX.out.1.trans (k6.mono hsz)) xa).mono ?_); rw [HP.out]; rintro e w7 ⟨rfl, rfl⟩))
          go_quiet (fail)
          go_wp2_with fail
          go_roundw
          case rel =>
            obtain ⟨hbl, hov, hos, hap, hx⟩ := HX.out
            refine ⟨k + 1, by omega, by go_num, below_draws (hbl.trans (k6.mono hsz)) nq, ?_, ?_, hap⟩
            · rw [idxF_no hx HY.out]
              exact own_below hov (below_draws k6 nq)
            · exact own_below hos (below_draws k6 nq)
          case measure => simp [intOf]; omega
      · have HY : Hid (p ⟨xa, xb, xc⟩ = false) := by show p ⟨xa, xb, xc⟩ = false; rw [hpf, decide_eq_false hin, Bool.false_and]
        have hf : findI ids xa = -1 := by
          rcases findI_spec ids xa with h | ⟨_, _, _, _, h⟩
          · exact h.1
          · exact absurd h hin
        have HP := Lib.hid hf
        clear hin hpf hf
        go_wp2_with (first
          | (go_at_call 37; go_must (refine (H.out.2.2.2.1 _ HX.out.1).mono ?_); rintro e w6 ⟨rfl, k6⟩
             have c1 := (k6.cell (p := ⟨b, off + k * 3, none⟩) (by show b < wr.heap.size; omega)).trans c1)
          | (go_at_call 70; go_must (refine (H.out.2.2.2.2.1 w6 (HX.out.1.trans (k6.mono hsz)) xa).mono ?_); rw [HP.out]; rintro e w7 ⟨rfl, rfl⟩))
        go_quiet (fail)
        go_wp2_with fail
        go_roundw
        case rel =>
          obtain ⟨hbl, hov, hos, hap, hx⟩ := HX.out
          refine ⟨k + 1, by omega, by go_num, below_draws (hbl.trans (k6.mono hsz)) nq, ?_, ?_, hap⟩
          · rw [idxF_no hx HY.out]
            exact own_below hov (below_draws k6 nq)
          · exact own_below hos (below_draws k6 nq)
        case measure => simp [intOf]; omega
    · have hkl : k = L.length := by omega
      subst hkl
      have HX := Lib.hid (And.intro hbl hov)
      clear hbl hov hos hap
      go_wp2_with fail
      go_ret
      exact ⟨_, rfl, HX.out.1, HX.out.2⟩
theorem sFindsLate_any (A B C D : Option Addr) (ca cb cc cd : Nat) (ids : List Int) (l bs L : List Ctx) (w : World) (ha : Reads w w.heap.size 1 A ids.length (cellsI ids)) (hb : Reads w w.heap.size 3 B l.length (cellsC l)) (hc : Reads w w.heap.size 3 C bs.length (cellsC bs)) (hd : Reads w w.heap.size 3 D L.length (cellsC L))
    (hn : ids.length ≤ 1000000000) (hl : l.length ≤ 1000000000) (hm : bs.length ≤ 1000000000) (hL : L.length ≤ 1000000000) :
    Calls Try.prog 28 #[.slice A ids.length ca, .slice B l.length cb, .slice C bs.length cc, .slice D L.length cd] w (IntsS w (lateG ids l bs L)) := by
  cases h : lateOk ids l bs L
  · exact sLate_no A B C D ca cb cc cd ids l bs L w ha hb hc hd hn hl hm hL h
  · exact sLate_yes A B C D ca cb cc cd ids l bs L w ha hb hc hd hn hl hm hL h
end Go.Proofs.Ytopdmcnbchpihaa
