/- What the model's list of what lies directly below returns. -/
import Derived.Test.YtjkjnicgbfpjiaaMw
import Derived.Test.YtjkjnicgbfpjiaaMp
namespace Go.Proofs.Ytjkjnicgbfpjiaa
open Go.RowKit

set_option maxHeartbeats 8000000 in
set_option maxRecDepth 100000 in
theorem sMatBelow_any (A B : Option Addr) (ca cb : Nat) (ids : List Int) (l : List Ctx) (id : Int) (w : World) (ha : Reads w w.heap.size 1 A ids.length (cellsI ids)) (hb : Reads w w.heap.size 3 B l.length (cellsC l)) (hn : ids.length ≤ 1000000000) (hl : l.length ≤ 1000000000) :
    Calls Try.prog 34 #[.slice A ids.length ca, .slice B l.length cb, .int .i64 id] w (IntsS w (belowG ids l id)) := by
  obtain ⟨i0, hi0, hz0, hz1, hz2⟩ := info_parts sInfoInt
  have hb1 : Below w.heap.size w (w.alloc (.cells #[] 3)) := (Below.refl _ _).alloc (Nat.le_refl _) _
  have ho1 : (w.alloc (.cells #[] 3)).ownsRow w.heap.size 3 1 (.slice (some ⟨w.heap.size, 0, none⟩) 0 0) 0 [] := own_empty (Nat.le_refl _) rfl
  have hov := sOrdValid_any A B ca cb ids l _ (ha.step hb1) (hb.step hb1) hn hl
  have hpl := fun (W : World) (hW : Below w.heap.size w W) => sPlace_any A ca ids id W (ha.step hW) (by omega)
  have H1 := Lib.hid (And.intro hb1 ho1)
  cases ho : ordOkG ids l
  · rw [ho] at hov
    have HO := Lib.hid (And.intro hov (belowG_no1 (id := id) ho))
    clear hov hpl ho hb1 ho1 ha hb
    go_enter Try.func34, Try.ntmps34
    go_wp2_with fail
    refine HO.out.1.mono ?_
    rintro e w2 ⟨rfl, k2⟩
    go_wp2_with fail
    go_ret
    exact ⟨_, rfl, H1.out.1.trans (k2.mono H1.out.1.size), by rw [HO.out.2]; exact own_below H1.out.2 k2⟩
  · by_cases hin : id ∈ ids
    · have hok := ordOk_ok ho
      have hn12 : ids.length ≤ 12 := validO_len (okG_parts hok).1
      obtain ⟨hf, hplt, hpa⟩ := placeI_at hin
      obtain ⟨p, hp⟩ : ∃ p, p = placeI ids id := ⟨_, rfl⟩
      rw [← hp] at hf hplt hpa
      obtain ⟨h, hh⟩ : ∃ h, h = labG ids (groupsG ids l) id := ⟨_, rfl⟩
      have hgp : (groupsG ids l)[p]? = some h := by rw [hh, hp]; exact labG_of (groupsG_len ids l) hin
      have hgr := fun (W : World) (hW : Below w.heap.size w W) => sGroups_any A B ca cb ids l W (ha.step hW) (hb.step hW) hok
      have hmt := fun (W : World) (hW : Below w.heap.size w W) => sMat_any A B ca cb ids l W (ha.step hW) (hb.step hW) hok
      rw [ho] at hov
      simp only [hf] at hpl
      obtain ⟨M, hM⟩ : ∃ M, M = matG ids l := ⟨_, rfl⟩
      obtain ⟨G, hG⟩ : ∃ G, G = groupsG ids l := ⟨_, rfl⟩
      have hGl : G.length = ids.length := by rw [hG, groupsG_len]
      have hMl : M.length ≤ 30 := by rw [hM]; exact Nat.le_trans (mat_len ho) (validO_len (okG_parts hok).2.1)
      rw [← hG] at hgp hgr
      rw [← hM] at hmt
      have HE : Hid (belowG ids l id = belL h M) := by show _ = _; rw [belowG_ok ho hin, hM, hh]
      have HO := Lib.hid (And.intro hov (And.intro hpl (And.intro hgr (And.intro hmt (And.intro hgp hGl)))))
      have hpi : (p : Int) < (G.length : Int) := by rw [hGl]; omega
      clear hov hpl hgr hmt hgp hh hM hG ho hin hok hf hpa hp hGl ha hb hb1 ho1
      go_enter Try.func34, Try.ntmps34
      go_wp2_with fail
      refine HO.out.1.mono ?_
      rintro e w2 ⟨rfl, k2⟩
      have H2 := Lib.hid (And.intro (below_step H1.out.1 k2) (own_below H1.out.2 k2))
      clear k2
      go_wp2_with fail
      refine (HO.out.2.1 _ H2.out.1).mono ?_
      rintro e w3 ⟨rfl, rfl⟩
      go_wp2_with fail
      refine (HO.out.2.2.1 _ H2.out.1).mono ?_
      rintro e w3 ⟨v3, rfl, k3, o3⟩
      obtain ⟨A3, c3, rfl, _, r3⟩ := own_slice o3
      obtain ⟨b3, off3, hA3, hbb3, hc3⟩ := r3.ints (by omega)
      subst hA3
      have f1 := hc3 p h HO.out.2.2.2.2.1
      have H3 := Lib.hid (And.intro (below_step H2.out.1 k3) (own_below H2.out.2 k3))
      clear k3 o3 r3 hc3
      go_wp2_with fail
      refine (HO.out.2.1 _ H3.out.1).mono ?_
      rintro e w4 ⟨rfl, rfl⟩
      go_wp2_with fail
      refine (HO.out.2.2.2.1 _ H3.out.1).mono ?_
      rintro e w5 ⟨v5, rfl, k5, o5⟩
      obtain ⟨A5, c5, rfl, _, _⟩ := own_slice o5
      have hne := own_far2 H3.out.2 o5 (Nat.le_refl _)
      have H5 := Lib.hid (And.intro (below_step H3.out.1 k5) (And.intro (own_below H3.out.2 k5) (And.intro o5 hne)))
      have hw3 : w.heap.size ≤ w3.heap.size := H3.out.1.size
      clear k5 o5 hne f1
      go_wp2_with fail
      go_loopw [7, 10] (fun v i wr => ∃ k : Nat, k ≤ M.length ∧ i = .int .i64 k ∧ Below w.heap.size w wr ∧ wr.ownsRow w.heap.size 3 1 v (belL h (M.take k)).length (cellsI (belL h (M.take k))) ∧
        wr.ownsRow w3.heap.size 48 3 (.slice A5 M.length c5) M.length (cellsC M) ∧ ∀ g, (Value.slice A5 M.length c5).ownBlock = some g → v.ownBlock ≠ some g) (fun _ i _ => M.length - (intOf i).toNat)
      case atStart => exact ⟨0, Nat.zero_le _, rfl, H5.out.1, by simpa [cellsI, belL] using H5.out.2.1, H5.out.2.2.1, H5.out.2.2.2⟩
      case round =>
        obtain ⟨k, hk, rfl, hbl, hown, hgr, hne⟩ := hrel
        have hsz := hbl.size
        by_cases hlt : k < M.length
        · obtain ⟨b, off, hA, hbb, hc⟩ := (own_reads hgr).ctx (by omega)
          subst hA
          obtain ⟨r, hr⟩ : ∃ r, M[k]? = some r := ⟨_, List.getElem?_eq_getElem hlt⟩
          obtain ⟨c1, c2, c3⟩ := hc k _ hr
          have hki : (k : Int) < (M.length : Int) := by omega
          have hsl : (belL h (M.take k)).length ≤ 30 := by
            have := belL_len h (M.take k)
            rw [List.length_take] at this; omega
          have hnx := belL_next (h := h) hr
          have HB := Lib.hid (And.intro hbl (And.intro hgr hne))
          clear hc hr hbl hgr hne
          by_cases h1 : r.area = 1
          · have e1 : (r.area == 1) = true := by simp [h1]
            by_cases h2 : r.id = h
            · have e2 : (r.id == h) = true := by simp [h2]
              rw [if_pos ⟨h1, h2⟩] at hnx
              have HN := Lib.hid hnx
              clear hnx h1 h2
              go_wp2_with (at_builtin
                           go_must (refine wpList_append_reads _ rfl (.tmp 55) (.tmp 61) _ rfl w.heap.size 3 i0 _ 1 8 Try.underlying23 hi0 hz0 hz1 hz2 rfl (by omega) _ (belL h (M.take k)).length _ rfl (hown.alloc _) (wr.heap.size + 1) _ 1 1 (cellsI [r.kind]) rfl (reads_int (by omega)) (cellsI_one _) (by simp only [maxLen]; omega) (by omega) (by simp; omega) ?_)
                           intro v4 w4 hown4 hg4 hat4)
              go_roundw
              case rel =>
                obtain ⟨q1, q2⟩ := app_both hown HB.out.2.1 HB.out.2.2 hg4 hat4
                refine ⟨k + 1, by omega, by go_num, HB.out.1.trans (app_below hown (Nat.le_refl _) hsz hg4), ?_, q1, q2⟩
                rw [HN.out, sCells_append, List.length_append]
                exact hown4
              case measure => simp [intOf]; omega
            · have e2 : (r.id == h) = false := by simp [h2]
              rw [if_neg (fun q => h2 q.2), List.append_nil] at hnx
              have HN := Lib.hid hnx
              clear hnx h1 h2
              go_wp2_with fail
              go_roundw
              case rel => exact ⟨k + 1, by omega, by go_num, HB.out.1, by rw [HN.out]; exact hown, HB.out.2.1, HB.out.2.2⟩
              case measure => simp [intOf]; omega
          · have e1 : (r.area == 1) = false := by simp [h1]
            rw [if_neg (fun q => h1 q.1), List.append_nil] at hnx
            have HN := Lib.hid hnx
            clear hnx h1
            go_wp2_with fail
            go_roundw
            case rel => exact ⟨k + 1, by omega, by go_num, HB.out.1, by rw [HN.out]; exact hown, HB.out.2.1, HB.out.2.2⟩
            case measure => simp [intOf]; omega
        · have hkl : k = M.length := by omega
          have HK := Lib.hid (And.intro hkl (And.intro hbl hown))
          clear hkl hbl hown hgr hne
          go_wp2_with fail
          go_ret
          obtain ⟨hkl, hbl, hown⟩ := HK.out
          rw [hkl, List.take_length] at hown
          refine ⟨_, rfl, hbl, ?_⟩
          rw [HE.out]
          exact hown
    · have hfi : findI ids id = -1 := by
        rcases findI_spec ids id with ⟨h, _⟩ | ⟨_, _, _, _, h⟩
        · exact h
        · exact absurd h hin
      rw [ho] at hov
      simp only [hfi] at hpl
      have HO := Lib.hid (And.intro hov (And.intro hpl (belowG_no2 (l := l) hin)))
      clear hov hpl ho hin hfi ha hb hb1 ho1
      go_enter Try.func34, Try.ntmps34
      go_wp2_with fail
      refine HO.out.1.mono ?_
      rintro e w2 ⟨rfl, k2⟩
      have H2 := Lib.hid (And.intro (below_step H1.out.1 k2) (own_below H1.out.2 k2))
      clear k2
      go_wp2_with fail
      refine (HO.out.2.1 _ H2.out.1).mono ?_
      rintro e w3 ⟨rfl, rfl⟩
      go_wp2_with fail
      go_ret
      exact ⟨_, rfl, H2.out.1, by rw [HO.out.2.2]; exact H2.out.2⟩
end Go.Proofs.Ytjkjnicgbfpjiaa
