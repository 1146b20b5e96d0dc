/- What the program's levels return. -/
import Derived.Test.YtjkjnicgbfpjiaaNl
import Derived.Test.YtjkjnicgbfpjiaaLq
import Derived.Test.YtjkjnicgbfpjiaaIo
namespace Go.Proofs.Ytjkjnicgbfpjiaa
open Go.RowKit

theorem digG_at {ids : List Int} {l : List Ctx} (ho : ordOkG ids l = true) {t a : Nat} (h : (dP (ordF ids l) ids.length)[t]? = some a) : (digG ids l)[t]? = some (ids.getD a 0) := by
  unfold digG
  rw [if_pos ho]
  unfold numP digPs
  rw [List.getElem?_map, h]
  rfl
set_option maxHeartbeats 8000000 in
set_option maxRecDepth 100000 in
theorem iMatLevels_any (A B : Option Addr) (ca cb : Nat) (ids : List Int) (l : List Ctx) (w : World) (ha : Reads w w.heap.size 1 A ids.length (cellsI ids)) (hb : Reads w w.heap.size 3 B l.length (cellsC l)) (hn : ids.length ≤ 1000000000) (hl : l.length ≤ 1000000000) :
    Calls Try.prog 30 #[.slice A ids.length ca, .slice B l.length cb] w (PairI w (levS ids l) (ordOkG ids l)) := by
  obtain ⟨i0, hi0, hz0, hz1, hz2⟩ := info_parts infoInt
  have hvr := iVRows_any A B ca cb ids l w ha hb hn hl
  have hdo := fun (W : World) (hW : Below w.heap.size w W) => iDigOrder_any A B ca cb ids l W (ha.step hW) (hb.step hW) hn hl
  have hix := fun (n : Int) (W : World) (hW : Below w.heap.size w W) => indexI_any A ca ids n W (ha.step hW) (by omega)
  have hvl := vN_le ids l
  have hdl := digG_len ids l
  cases ho : ordOkG ids l
  · have HE := Lib.hid (levS_no ho)
    have HD : Hid (digG ids l = []) := by show _ = _; unfold digG; rw [ho]; rfl
    rw [vN_no ho, ho] at hvr
    rw [ho, HD.out] at hdo
    have HC := Lib.hid (And.intro hvr hdo)
    clear hvr hdo hix hvl hdl ho ha hb
    go_enter Try.func30, Try.ntmps30
    go_wp2_with fail
    refine HC.out.1.mono ?_
    rintro e w2 ⟨v2, rfl, k2, o2⟩
    obtain ⟨A2, c2, rfl, _, r2⟩ := Reads.of_own o2
    have H2 := Lib.hid k2
    clear k2 o2 r2
    go_wp2_with (at_make
                 go_must (refine wpList_make_full _ rfl (.tmp 22) (.tmp 22) _ rfl w2.heap.size 3 i0 _ 1 Try.underlying23 hi0 hz0 hz1 _ _ _ _ 0 rfl rfl rfl rfl (by rw [hz2]; omega) (by simp only [maxLen]; omega) (Nat.le_refl _) ?_)
                 intro w5 hown hg5)
    have hb5 : Below w2.heap.size w2 w5 := (Below.refl _ _).grown hg5 (Nat.le_refl _) (fun k hk => by cases hk)
    have H5 := Lib.hid (And.intro (below_step H2.out hb5) hown)
    clear hown hg5 hb5
    refine (HC.out.2 _ H5.out.1).mono ?_
    rintro e w6 ⟨v6, rfl, k6, o6⟩
    obtain ⟨A6, c6, rfl, _, r6⟩ := own_slice o6
    have H6 := Lib.hid k6
    clear k6 o6 r6
    go_wp2_with fail
    go_loopw [32] (fun v wr => v = .int .i64 0 ∧ wr = w6) (fun _ _ => 0)
    case atStart => exact ⟨rfl, rfl⟩
    case round =>
      obtain ⟨rfl, rfl⟩ := hrel
      go_wp2_with fail
      go_ret2
      refine ⟨_, rfl, below_step H5.out.1 H6.out, ?_⟩
      rw [HE.out]
      have h9 := own_below H5.out.2 H6.out
      exact own_less (by simpa [madeCells, cellsI] using h9) H2.out.size
  · have hok := ordOk_ok ho
    have hv := (okG_parts hok).1
    have hn12 : ids.length ≤ 12 := validO_len hv
    have HE := Lib.hid (levS_ok ho)
    have hir := ordF_irr ho
    have htr := ordF_tr hok
    have hat := fun (t a : Nat) => digG_at (t := t) (a := a) ho
    have hpl : ∀ a, a < ids.length → findI ids (ids.getD a 0) = a := fun a h => findI_own hv (by simp [h])
    have hol : (digG ids l).length = ids.length := by unfold digG; rw [if_pos ho, numP_len, digPs_len]
    rw [vN_ok ho, ho] at hvr
    rw [ho] at hdo
    obtain ⟨f, hf⟩ : ∃ f, f = ordF ids l := ⟨_, rfl⟩
    rw [← hf] at hvr hir htr hat
    have HEf : Hid (levS ids l = levL f ids.length) := by show _ = _; rw [HE.out, hf]
    obtain ⟨D, hD⟩ : ∃ D, D = digG ids l := ⟨_, rfl⟩
    rw [← hD] at hdo hat hol
    have HC := Lib.hid (And.intro hvr (And.intro hdo (And.intro hix (And.intro hat (And.intro hpl hol)))))
    have HF := Lib.hid (And.intro hir htr)
    clear hvr hdo hix hvl hdl ho ha hb hat hpl hol hir htr hok hv hf hD HE
    go_enter Try.func30, Try.ntmps30
    go_wp2_with fail
    refine HC.out.1.mono ?_
    rintro e w2 ⟨v2, rfl, k2, o2⟩
    obtain ⟨A2, c2, rfl, _, r2⟩ := Reads.of_own o2
    have H2 := Lib.hid (And.intro k2 r2)
    clear k2 o2 r2
    go_wp2_with (at_make
                 go_must (refine wpList_make_full _ rfl (.tmp 22) (.tmp 22) _ rfl w2.heap.size 3 i0 _ 1 Try.underlying23 hi0 hz0 hz1 _ _ _ _ ids.length rfl rfl rfl rfl (by rw [hz2]; omega) (by simp only [maxLen]; omega) (Nat.le_refl _) ?_)
                 intro w5 hown hg5
                 rw [zero_cellsI, ← lv0_zero (f := f)] at hown)
    have hb5 : Below w2.heap.size w2 w5 := (Below.refl _ _).grown hg5 (Nat.le_refl _) (fun k hk => by cases hk)
    have H5 := Lib.hid (And.intro (below_step H2.out.1 hb5) (And.intro hown hb5))
    clear hown hg5 hb5
    refine (HC.out.2.1 _ H5.out.1).mono ?_
    rintro e w6 ⟨v6, rfl, k6, o6⟩
    obtain ⟨A6, c6, rfl, _, _⟩ := own_slice o6
    rw [HC.out.2.2.2.2.2] at o6
    rw [HC.out.2.2.2.2.2]
    have hne := own_far2 H5.out.2.1 o6 (Nat.le_refl _)
    have H6 := Lib.hid (And.intro (below_step H5.out.2.2 k6) (And.intro (own_below H5.out.2.1 k6) (And.intro o6 hne)))
    clear k6 o6 hne
    go_wp2_with fail
    go_loopw [32] (fun v wr => ∃ t : Nat, t ≤ ids.length ∧ v = .int .i64 t ∧ Below w2.heap.size w2 wr ∧ wr.ownsRow w2.heap.size 3 1 (.slice (some ⟨w2.heap.size, 0, none⟩) ids.length ids.length) ids.length (cellsI (lv0 f ids.length (dT f ids.length t))) ∧ wr.ownsRow w5.heap.size 3 1 (.slice A6 ids.length c6) ids.length (cellsI D)) (fun v _ => ids.length - (intOf v).toNat)
    case atStart => exact ⟨0, Nat.zero_le _, rfl, H6.out.1, H6.out.2.1, H6.out.2.2.1⟩
    case round =>
      obtain ⟨t, ht, rfl, hbl, hlv, hod⟩ := hrel
      by_cases hlt : t < ids.length
      · have hti : (t : Int) < (ids.length : Int) := by omega
        obtain ⟨a, han, hPa, hfr, _, hnx, _⟩ := d_next (n := ids.length) HF.out.1 HF.out.2 hlt (d_closed (n := ids.length) HF.out.1 HF.out.2 t ht).1
        obtain ⟨b6, off6, hA6, hb6, hc6⟩ := (own_reads hod).ints (by omega)
        subst hA6
        obtain ⟨x, hx⟩ : ∃ x, ids.getD a 0 = x := ⟨_, rfl⟩
        have f1 := hc6 t x (by rw [← hx]; exact HC.out.2.2.2.1 t a hPa)
        have hii := HC.out.2.2.1 x wr (below_step H2.out.1 hbl)
        rw [show findI ids x = (a : Int) from by rw [← hx]; exact HC.out.2.2.2.2.1 a han] at hii
        have hai : (a : Int) < (ids.length : Int) := by omega
        have HT := Lib.hid (And.intro hbl (And.intro hlv (And.intro hod (And.intro hnx (lvD_free (n := ids.length) HF.out.2 HF.out.1 hfr)))))
        have HI := Lib.hid hii
        clear hbl hlv hod hnx hfr hPa hii hc6 hx
        go_wp2_with (go_at_call 70; go_must (refine HI.out.mono ?_); rintro e w9 ⟨rfl, rfl⟩)
        go_loopw [41] (fun v wq => ∃ j : Nat, j ≤ ids.length ∧ v = .int .i64 j ∧ Below w2.heap.size w2 wq ∧ wq.ownsRow w2.heap.size 3 1 (.slice (some ⟨w2.heap.size, 0, none⟩) ids.length ids.length) ids.length (cellsI (lvL f ids.length (dT f ids.length t) a j)) ∧ wq.ownsRow w5.heap.size 3 1 (.slice (some ⟨b6, off6, none⟩) ids.length c6) ids.length (cellsI D)) (fun v _ => ids.length - (intOf v).toNat)
        case atStart => exact ⟨0, Nat.zero_le _, rfl, HT.out.1, by rw [lvL_start]; exact HT.out.2.1, HT.out.2.2.1⟩
        case round =>
          obtain ⟨j, hj, rfl, hbj, hlj, hoj⟩ := hrel
          by_cases hltj : j < ids.length
          · have hji : (j : Int) < (ids.length : Int) := by omega
            obtain ⟨b, off, hA2, hbb, hc⟩ := (H2.out.2.below hbj).rows (by omega)
            subst hA2
            obtain ⟨r, hr⟩ : ∃ r, r = bitN ids.length (f a) := ⟨_, rfl⟩
            have c1 := hc a r (by rw [rowsN_at _ han, hr])
            have hha := fun (W : World) => has_row f ids.length a j hn12 hltj W
            rw [← hr] at hha
            obtain ⟨z, hz⟩ : ∃ z, f a j = z := ⟨_, rfl⟩
            rw [hz] at hha
            have HA := Lib.hid (And.intro hha hz)
            clear hha hz hr hc
            cases z
            · have HJ := Lib.hid (And.intro hbj (And.intro hlj hoj))
              clear hbj hlj hoj
              go_wp2_with (go_at_call 67; go_must (refine (HA.out.1 _).mono ?_); rintro e w9 ⟨rfl, rfl⟩)
              go_roundw
              case rel => exact ⟨j + 1, by omega, by go_num, HJ.out.1, by rw [lvL_skip hltj HA.out.2]; exact HJ.out.2.1, HJ.out.2.2⟩
              case measure => simp [intOf]; omega
            · obtain ⟨x0, y0, hx1, hy1, hx2, hy2, hset⟩ := lvL_put (d := dT f ids.length t) han hltj HA.out.2 HT.out.2.2.2.2 (HF.out.1 a)
              obtain ⟨g1, g2⟩ := own_cellI hlj hx1
              obtain ⟨g3, _⟩ := own_cellI hlj hy1
              have hgl : w2.heap.size < wr.heap.size := by
                obtain ⟨o, ho⟩ : ∃ o, wr.heap[w2.heap.size]? = some o := by
                  unfold World.cell? at g1
                  cases hh : wr.heap[w2.heap.size]? with
                  | none => rw [hh] at g1; cases g1
                  | some o => exact ⟨o, rfl⟩
                exact (Array.getElem?_eq_some_iff.1 ho).1
              have HJ := Lib.hid (And.intro hbj (And.intro hlj (And.intro hoj hset)))
              clear hbj hlj hoj hset hx1 hy1
              go_wp2_with (go_at_call 67; go_must (refine (HA.out.1 _).mono ?_); rintro e w9 ⟨rfl, rfl⟩)
              refine region_still_tail2 13 (by kernel_rfl) (by kernel_rfl) ?_
              intro W hW hzz hbw
              simp only [List.take_succ_cons, List.take_zero, List.drop_succ_cons, List.drop_zero]
              repeat still_step
              refine wpStill_nil ?_
              have w1' := (World.cell?_of_block (w := wr) (a := ⟨w2.heap.size, j, none⟩) (hbw.block _ hgl)).trans g1
              have w2' := (World.frozen?_of_block (w := wr) (a := ⟨w2.heap.size, j, none⟩) (hbw.block _ hgl)).trans g2
              have HW := Lib.hid hbw
              clear hW hzz hbw g1 g2 g3 c1
              go_wp2_with fail
              go_roundw
              case rel =>
                have hm : (if (x0 : Int) < (y0 : Int) + 1 then (y0 : Int) + 1 else (x0 : Int)) = ((max x0 (y0 + 1) : Nat) : Int) := by
                  split <;> omega
                rw [hm]
                have hlw := own_below HJ.out.2.1 HW.out
                have h9 := own_storeI hlw j ((max x0 (y0 + 1) : Nat) : Int)
                rw [HJ.out.2.2.2] at h9
                refine ⟨j + 1, by omega, by go_num, (below_step HJ.out.1 HW.out).setCell (p := ⟨w2.heap.size, j, none⟩) (Nat.le_refl _) _, h9, ?_⟩
                exact own_other (own_below HJ.out.2.2.1 HW.out) hlw H6.out.2.2.2 (grown_store (grown_of_below (Below.refl _ _) _))
              case measure => simp [intOf]; omega
          · have hjn : j = ids.length := by omega
            have HJ := Lib.hid (And.intro hjn (And.intro hbj (And.intro hlj hoj)))
            clear hjn hbj hlj hoj
            go_wp2_with fail
            go_roundw
            case rel =>
              obtain ⟨hjn, hbj, hlj, hoj⟩ := HJ.out
              refine ⟨t + 1, by omega, by go_num, hbj, ?_, hoj⟩
              rw [hjn, lvL_end, ← HT.out.2.2.2.1] at hlj
              exact hlj
            case measure => simp [intOf]; omega
      · have htn : t = ids.length := by omega
        have HT := Lib.hid (And.intro htn (And.intro hbl hlv))
        clear htn hbl hlv hod
        go_wp2_with fail
        go_ret2
        obtain ⟨htn, hbl, hlv⟩ := HT.out
        rw [htn, lv0_end HF.out.2 HF.out.1] at hlv
        refine ⟨_, rfl, below_step H2.out.1 hbl, ?_⟩
        rw [HEf.out, levL_len]
        exact own_less hlv H2.out.1.size
end Go.Proofs.Ytjkjnicgbfpjiaa
