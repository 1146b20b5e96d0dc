/- The order of digging that the model finds. -/
import Derived.Test.YtmcnjmflmpfjlaaLm
import Derived.Test.YtmcnjmflmpfjlaaIo
namespace Go.Proofs.Ytmcnjmflmpfjlaa
open Go.RowKit

theorem OwnV.elsewhere {α : Type} {enc : α → Value} {W : World} {base g o : Nat} {e1 e2 : TypeId} {m v : Value} {vs : List Value} {L : List (List α)} (h : OwnV enc W base e1 e2 m vs L) (hne : FarV m vs v) (hv : v.ownBlock = some g) (x : Value) : OwnV enc (W.setCell ⟨g, o, none⟩ x) base e1 e2 m vs L :=
  ⟨h.len, ownsRow_setCell_other h.out (fun e => hne.1 g e hv) _, fun i r hr => by
    obtain ⟨u, hu, ho⟩ := h.row i r hr
    exact ⟨u, hu, ownsRow_setCell_other ho (fun e => hne.2 i u g hu e hv) _⟩, h.far, h.apart⟩
set_option maxHeartbeats 8000000 in
set_option maxRecDepth 100000 in
theorem sDigOrder_any (A B : Option Addr) (ca cb : Nat) (ids : List Int) (l : List Ctx) (w : World) (ha : Reads w w.heap.size 1 A ids.length (cellsI ids)) (hb : Reads w w.heap.size 3 B l.length (cellsC l)) (hn : ids.length ≤ 1000000000) (hl : l.length ≤ 1000000000) :
    Calls Try.prog 33 #[.slice A ids.length ca, .slice B l.length cb] w (DigPost w (digG ids l) (ordOkG ids l)) := by
  obtain ⟨i0, hi0, hz0, hz1, hz2⟩ := info_parts sInfoInt
  obtain ⟨ib, hib, hbz, hbs, hbb⟩ := info_parts infoBool
  have hb1 : Below w.heap.size w (w.alloc (.cells #[] 3)) := (Below.refl _ _).alloc (Nat.le_refl _) _
  have ho1 : (w.alloc (.cells #[] 3)).ownsRow w.heap.size 3 1 (.slice (some ⟨w.heap.size, 0, none⟩) 0 0) 0 [] := own_empty (Nat.le_refl _) rfl
  have ha1 := ha.step hb1
  have hl1 := hb.step hb1
  have hv := sOrdValid_any A B ca cb ids l _ ha1 hl1 hn hl
  obtain ⟨o, ho⟩ : ∃ o, ordOkG ids l = o := ⟨_, rfl⟩
  rw [ho] at hv ⊢
  cases o
  · have HV := Lib.hid (And.intro hv (And.intro hb1 ho1))
    clear hv hb1 ho1 ha1 hl1
    go_enter Try.func33, Try.ntmps33
    go_wp2_with (go_at_call 52; go_must (refine HV.out.1.mono ?_); rintro e w2 ⟨rfl, k2⟩)
    go_ret2
    refine ⟨_, rfl, below_step HV.out.2.1 k2, ?_⟩
    rw [show digG ids l = [] from by simp [digG, ho]]
    exact own_below HV.out.2.2 k2
  · have hok : okG ids l = true := ordOk_ok ho
    have hnn : ids.length ≤ 12 := validO_len (okG_parts hok).1
    have hirr := ordF_irr ho
    have htr := ordF_tr hok
    have hdig : digG ids l = numP ids (dP (ordF ids l) ids.length) := by unfold digG; rw [ho]; rfl
    rw [hdig]
    have HV := Lib.hid (And.intro hv (And.intro hb1 ho1))
    have HR := Lib.hid (And.intro ha (And.intro ha1 hl1))
    have HO := Lib.hid hok
    obtain ⟨F, hF⟩ : ∃ F, F = ordF ids l := ⟨_, rfl⟩
    rw [← hF] at hirr htr ⊢
    have HF := Lib.hid (And.intro hirr (And.intro htr hF))
    clear hv ha hb hb1 ho1 ha1 hl1 ho hok hirr htr hF hdig
    go_enter Try.func33, Try.ntmps33
    go_wp2_with (first
      | (go_at_call 52; go_must (refine HV.out.1.mono ?_); rintro e w2 ⟨rfl, k2⟩)
      | (go_at_call 76; go_must (refine (sOrder_any A B ca cb ids l _ (HR.out.2.1.step k2) (HR.out.2.2.step k2) HO.out).mono ?_); rintro e w3 ⟨v3, vs3, rfl, k3, ho3⟩
         obtain ⟨A3, c3, hv3, _, _⟩ := ho3.nest
         rw [ordG_len] at hv3
         subst hv3
         rw [← ordF_tab, ← HF.out.2.2] at ho3
         have H3 := Lib.hid (And.intro k2 (And.intro k3 ho3))
         clear k2 k3 ho3)
      | (at_make
         go_must (refine wpList_make_full _ rfl (.tmp 20) (.tmp 20) _ rfl w3.heap.size 4 ib _ 1 Try.underlying85 hib hbz hbs _ _ _ _ ids.length rfl rfl rfl rfl (by rw [hbb]; omega) (by simp only [maxLen]; omega) (Nat.le_refl _) ?_)
         intro w5 hnew hg5
         rw [zero_bools] at hnew))
    have hk13 : Below w.heap.size w w3 := below_step HV.out.2.1 (below_step H3.out.1 H3.out.2.1)
    have hb5 : Below w3.heap.size w3 w5 := (Below.refl _ _).grown hg5 (Nat.le_refl _) (fun k hk => by cases hk)
    have hu3 := own_below (own_below HV.out.2.2 H3.out.1) H3.out.2.1
    have hu3l : (Value.slice (some ⟨w.heap.size, 0, none⟩) 0 0).ownBlock ≠ some w3.heap.size := fun e => by
      have := (hu3.lt _ e).2
      omega
    have hfar3 := FarV.of_own HV.out.2.2 H3.out.2.2 H3.out.1.size
    have hfard : FarV (.slice A3 ids.length c3) vs3 (.slice (some ⟨w3.heap.size, 0, none⟩) ids.length ids.length) := ⟨fun g hg e => by
      have h1 := (H3.out.2.2.out.lt g hg).2
      simp [Value.ownBlock] at e
      omega, fun i u g hu hg e => by
      have h1 := (H3.out.2.2.lt hu hg).2
      simp [Value.ownBlock] at e
      omega⟩
    have hs13 : w.heap.size ≤ w3.heap.size := hk13.size
    have H5 := Lib.hid (And.intro (below_step hk13 hb5) (And.intro (own_below hu3 hb5) (And.intro (H3.out.2.2.below hb5) (And.intro hfar3 (And.intro hnew (And.intro hu3l hfard))))))
    have HFD := Lib.hid hfard
    clear hk13 hb5 hu3 hu3l hfar3 hfard hnew hg5
    go_loopw [6] (fun u wr => ∃ t : Nat, t ≤ ids.length ∧ Below w.heap.size w wr ∧ wr.ownsRow w.heap.size 3 1 u t (cellsI (numP ids ((dP F ids.length).take t))) ∧ OwnV encB wr w2.heap.size 4 85 (.slice A3 ids.length c3) vs3 (tabN ids.length F) ∧ FarV (.slice A3 ids.length c3) vs3 u ∧ wr.ownsRow w3.heap.size 4 1 (.slice (some ⟨w3.heap.size, 0, none⟩) ids.length ids.length) ids.length ((rowN ids.length (dT F ids.length t)).map encB) ∧ u.ownBlock ≠ some w3.heap.size) (fun u _ => ids.length - (match u with | .slice _ l _ => l | _ => 0))
    case atStart => exact ⟨0, Nat.zero_le _, H5.out.1, H5.out.2.1, H5.out.2.2.1, H5.out.2.2.2.1, H5.out.2.2.2.2.1, H5.out.2.2.2.2.2.1⟩
    case round =>
      obtain ⟨t, ht, hbl, hou, hmm, hfar, hdg, hul⟩ := hrel
      obtain ⟨Au, cu, hvu, _, _⟩ := Reads.of_own hou
      subst hvu
      obtain ⟨hlf, _⟩ := d_closed (n := ids.length) HF.out.1 HF.out.2.1 t ht
      by_cases hlt : t < ids.length
      · have hti : (t : Int) < (ids.length : Int) := by omega
        obtain ⟨a, han, hpt, haf, hmin, hdn, _⟩ := d_next (n := ids.length) HF.out.1 HF.out.2.1 hlt hlf
        obtain ⟨d, hd⟩ : ∃ d, d = dT F ids.length t := ⟨_, rfl⟩
        rw [← hd] at haf hmin hdn hdg
        obtain ⟨Am, cm, hvm, _, hm3⟩ := hmm.nest
        rw [tabN_len] at hvm hm3
        injection hvm with em1 _ em2
        have hfr := fun (z : Nat) (hz : z < ids.length) => sFree_any Am (some ⟨w3.heap.size, 0, none⟩) cm ids.length ids.length z F d wr hm3 (own_reads hdg) hnn hz
        subst em1 em2
        obtain ⟨x, hx⟩ : ∃ x, ids[a]? = some x := ⟨_, List.getElem?_eq_getElem (by omega)⟩
        have hnx := numP_next (ids := ids) hpt
        have hgx : ids.getD a 0 = x := by simp [hx]
        rw [hgx] at hnx
        obtain ⟨q, hq⟩ : ∃ q, q = numP ids ((dP F ids.length).take t) := ⟨_, rfl⟩
        have hql : q.length = t := by rw [hq, numP_len, List.length_take, dP_len]; omega
        rw [← hq] at hou hnx
        have hai : (a : Int) < (ids.length : Int) := by omega
        have hdc := hdg.frozenAt a
        obtain ⟨bd, od, hAd, hbd, gd⟩ := Reads.cellE (by rw [rowN_len]; exact own_reads hdg : Reads wr wr.heap.size 1 (some ⟨w3.heap.size, 0, none⟩) (rowN ids.length d).length ((rowN ids.length d).map encB)) (rowN_at d han)
        injection hAd with hAd
        injection hAd with e1 e2 e3
        subst e1 e2
        clear e3
        rw [Nat.zero_add] at gd
        simp only [encB] at gd
        have hws : w.heap.size ≤ wr.heap.size := hbl.size
        have HX := Lib.hid (And.intro hbl (And.intro hou (And.intro hmm (And.intro hfar (And.intro hdg (And.intro hul (And.intro hfr hmin)))))))
        have HD := Lib.hid (And.intro hx (And.intro hnx (And.intro hdn (And.intro haf (And.intro hd (And.intro hq hql))))))
        obtain ⟨b3, off3, hA4, hbb3, hc3⟩ := (HR.out.1.below hbl).ints (by omega)
        subst hA4
        have f0 := hc3 a _ hx
        clear hc3 hbl hou hmm hfar hdg hul hfr hmin hx hnx hdn haf hd hq hql hpt hlf hm3 hgx
        go_wp2_with fail
        go_loop [9] (fun i => ∃ z : Nat, z ≤ a ∧ i = .int .i64 z) (fun i => ids.length - (intOf i).toNat)
        case atStart => exact ⟨0, Nat.zero_le _, rfl⟩
        case round =>
          obtain ⟨z, hz, rfl⟩ := hrel
          by_cases hza : z < a
          · have hfz := HX.out.2.2.2.2.2.2.1 z (by omega)
            rw [HX.out.2.2.2.2.2.2.2 z hza] at hfz
            have HZ := Lib.hid hfz
            clear hfz
            go_wp2_with (go_at_call 77; go_must (refine HZ.out.mono ?_); rintro e w6 ⟨rfl, rfl⟩)
            go_round
            case rel => exact ⟨z + 1, by omega, by go_num⟩
            case measure => simp [intOf]; omega
          · obtain rfl : z = a := by omega
            have hfz := HX.out.2.2.2.2.2.2.1 z (by omega)
            rw [HD.out.2.2.2.1] at hfz
            have HZ := Lib.hid hfz
            have hdg9 := (HX.out.2.2.2.2.1.stored z (.bool true)).1
            rw [row_dug] at hdg9
            have hou9 : (wr.setCell ⟨w3.heap.size, z, none⟩ (.bool true)).ownsRow w.heap.size 3 1 (.slice Au t cu) t (cellsI q) := ownsRow_setCell_other HX.out.2.1 (fun e => HX.out.2.2.2.2.2.1 e) _
            have hmm9 := HX.out.2.2.1.elsewhere (o := z) HFD.out rfl (.bool true)
            have hbl9 : Below w.heap.size w (wr.setCell ⟨w3.heap.size, z, none⟩ (.bool true)) := HX.out.1.setCell (by simpa using hs13) _
            have hsz9 : (wr.setCell ⟨w3.heap.size, z, none⟩ (.bool true)).heap.size = wr.heap.size := by simp [World.setCell]
            have hrx := reads_int (w := wr.setCell ⟨w3.heap.size, z, none⟩ (.bool true)) (n := x) (t := 3) (B := wr.heap.size + 1) (by rw [hsz9]; omega)
            rw [hsz9] at hrx
            have HRX := Lib.hid hrx
            clear hrx
            have H9 := Lib.hid (And.intro hbl9 (And.intro hou9 (And.intro hmm9 hdg9)))
            have f9 := (World.cell?_of_block (w := wr) (a := ⟨b3, off3 + z, none⟩) (Below.heap_setCell wr ⟨w3.heap.size, z, none⟩ (.bool true) b3 (by simp; omega))).trans f0
            clear hfz hdg9 hou9 hmm9 hbl9
            go_wp2_with (first
              | (go_at_call 77; go_must (refine HZ.out.mono ?_); rintro e w6 ⟨rfl, rfl⟩)
              | (at_builtin
                 go_must (refine wpList_append_reads _ rfl (.tmp 37) (.tmp 42) _ rfl w.heap.size 3 i0 _ 1 8 Try.underlying23 hi0 hz0 hz1 hz2 rfl (by omega) _ t _ rfl (H9.out.2.1.alloc _) (wr.heap.size + 1) _ 1 1 (cellsI [x]) rfl HRX.out (cellsI_one _) (by simp only [maxLen]; omega) (by omega) (by rw [World.size_alloc, hsz9]; omega) ?_)
                 intro v8 w8 hown8 hg8 hat8))
            obtain ⟨hbl9, hou9, hmm9, hdg9⟩ := H9.out
            obtain ⟨r1, r2⟩ := hmm9.both (by exact hou9) HX.out.2.2.2.1 hg8 hat8
            have hul := HX.out.2.2.2.2.2.1
            obtain ⟨r3, r4⟩ := app_both hou9 hdg9 (fun g hg e => hul (by rw [e, ← hg]; rfl)) hg8 hat8
            have hbl10 := hbl9.trans (app_below hou9 (Nat.le_refl _) (by rw [hsz9]; exact hws) hg8)
            have hl8 : (q ++ [x]).length = t + 1 := by rw [List.length_append, HD.out.2.2.2.2.2.2]; rfl
            have hown9 : w8.ownsRow w.heap.size 3 1 v8 (t + 1) (cellsI (q ++ [x])) := by
              rw [sCells_append]
              exact hown8
            obtain ⟨A8, c8, hv8, _, _⟩ := Reads.of_own hown9
            go_roundw
            case rel =>
              refine ⟨t + 1, by omega, hbl10, ?_, r1, r2, by rw [HD.out.2.2.1]; exact r3, fun e => r4 _ rfl e⟩
              rw [HD.out.2.1]
              exact hown9
            case measure =>
              subst hv8
              simp
              omega
      · have htn : t = ids.length := by omega
        have HE := Lib.hid (And.intro htn (And.intro hbl hou))
        clear htn hbl hou hmm hfar hdg hul hlf
        go_wp2_with fail
        go_ret2
        obtain ⟨htn, hbl, hou⟩ := HE.out
        have hln : (numP ids (dP F ids.length)).length = t := by rw [numP_len, dP_len, htn]
        have htk : (dP F ids.length).take t = dP F ids.length := by rw [htn]; exact List.take_of_length_le (by rw [dP_len]; exact Nat.le_refl _)
        rw [htk] at hou
        refine ⟨_, rfl, hbl, ?_⟩
        rw [hln]
        exact hou
end Go.Proofs.Ytmcnjmflmpfjlaa
