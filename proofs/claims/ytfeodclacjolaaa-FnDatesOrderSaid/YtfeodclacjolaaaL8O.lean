/-
  Whatever bytes are given: of contexts, relations and bounds drawn from them, what lies above is not older in the program's spans, and contexts of one group have one span; the program's dates are the model's. No condition.
-/
import Derived.Test.YtfeodclacjolaaaEnt
import Derived.Test.YtfeodclacjolaaaLif
import Derived.Test.YtfeodclacjolaaaMak
import Derived.Test.YtfeodclacjolaaaZz
import Derived.Test.YtfeodclacjolaaaId
import Derived.Test.YtfeodclacjolaaaOpen
import Derived.Test.YtfeodclacjolaaaGg
import Derived.Test.YtfeodclacjolaaaVv
import Derived.Test.YtfeodclacjolaaaTab
import Derived.Deep.RegionHeld3
namespace Go.Proofs.Ytfeodclacjolaaa.lawDatesOrder
open Go.ChangeShapes Go.WideShapes Go.ChangeAt Go.RowKit

theorem spNe_run (a b : Int) (W : World) : (binOp .neq 33 (.agg #[.int .i64 a, .int .i64 b]) (.agg #[.int .i64 a, .int .i64 b])).run Try.prog W = .ok (.bool false) W := by
  go_simp
set_option maxHeartbeats 8000000 in
set_option maxRecDepth 100000 in
theorem walk_short (A : Option Addr) (c : Nat) (z : List Int) (w : World) (h : Bytes w A c z) (hn : z.length ≤ 1048576) :
    Calls Try.prog 5 #[.slice A z.length c] w fun e w2 => e = .returned (.bool true) ∧ Below w.heap.size w w2 := by
  have e0 : decide ((1048576 : Int) < (z.length : Int)) = false := decide_eq_false (by omega)
  go_enter Try.func5, Try.ntmps5
  go_wp2_with fail
  refine (dDates_any A c z _ h).mono ?_
  rintro e w2 ⟨v1, v2, v3, ids, l, bs, rfl, ho1, ho2, ho3, hl1, hl2, hl3, hb2⟩
  obtain ⟨A1, c1, hv1, hcap1, hr1⟩ := own_slice ho1
  obtain ⟨A2, c2, hv2, hcap2, hr2⟩ := own_slice ho2
  obtain ⟨A3, c3, hv3, hcap3, hr3⟩ := own_slice ho3
  subst hv1 hv2 hv3
  have HR := Lib.hid (And.intro hb2 (And.intro hr1 (And.intro hr2 hr3)))
  clear ho1 ho2 ho3 hb2 h hr1 hr2 hr3
  obtain ⟨M, hM⟩ : ∃ M, M = datesD ids l bs := ⟨_, rfl⟩
  obtain ⟨o, ho⟩ : ∃ o, o = okD ids l bs := ⟨_, rfl⟩
  have hMl : M.length ≤ 13 := by rw [hM]; exact Nat.le_trans (datesD_len ids l bs) (by omega)
  have q2 := eqLS_self M
  have eb : (o != o) = false := by simp
  have ec : (o == o) = true := by simp
  have HC := Lib.hid (And.intro hM ho)
  clear hM ho
  go_wp2_with fail
  refine (iDatesOf_any _ _ _ _ _ _ ids l bs _ HR.out.2.1 HR.out.2.2.1 HR.out.2.2.2 (by omega) (by omega) (by omega)).mono ?_
  rintro e w3 ⟨v4, rfl, hb3, ho4⟩
  rw [← HC.out.1] at ho4
  rw [← HC.out.2]
  obtain ⟨A4, c4, hv4, hcap4, hr4⟩ := own_slice ho4
  subst hv4
  have H3 := Lib.hid (And.intro hb3 hr4)
  clear hb3 ho4 hr4
  go_wp2_with fail
  refine (sDatesOf_any _ _ _ _ _ _ ids l bs _ (HR.out.2.1.step H3.out.1) (HR.out.2.2.1.step H3.out.1) (HR.out.2.2.2.step H3.out.1) (by omega) (by omega) (by omega)).mono ?_
  rintro e w4 ⟨v5, rfl, hb4, ho5⟩
  rw [← HC.out.1] at ho5
  rw [← HC.out.2]
  obtain ⟨A5, c5, hv5, hcap5, hr5⟩ := own_slice ho5
  subst hv5
  have H4 := Lib.hid (And.intro hb4 hr5)
  clear hb4 ho5 hr5
  go_wp2_with fail
  refine (sameSpan_any _ _ _ _ M M _ (H3.out.2.step H4.out.1) H4.out.2 (by omega)).mono ?_
  rintro e w5 ⟨rfl, hb5⟩
  have k5 := below_step H4.out.1 hb5
  have k25 := below_step H3.out.1 k5
  have R := Lib.hid (And.intro (HR.out.2.1.step k25) (And.intro (HR.out.2.2.1.step k25) (And.intro (HR.out.2.2.2.step k25) (And.intro (H3.out.2.step k5) (below_step HR.out.1 k25)))))
  have R4 := Lib.hid (H4.out.2.step hb5)
  clear hb5 k5 k25
  cases o
  · clear eb ec
    go_wp2_with fail
    refine (sameSpan_any _ _ _ _ M M _ R.out.2.2.2.1 R4.out (by omega)).mono ?_
    rintro e w6 ⟨rfl, hb6⟩
    go_wp2_with fail
    go_ret
    exact ⟨rfl, below_step R.out.2.2.2.2 hb6⟩
  · clear eb ec
    have hok : okD ids l bs = true := HC.out.2.symm
    have hMe : M = allD ids l bs := by rw [HC.out.1, datesD_ok hok]
    have hMn : M.length = ids.length := by rw [hMe, allD_len]
    have hn12 : ids.length ≤ 12 := validO_len (okG_parts (ordOk_okG (argsD_parts (okD_parts hok).1).1)).1
    have hat : ∀ i, i < M.length → M[i]? = some ⟨lowD ids l bs i, highD ids l bs i⟩ := fun i hi => by rw [hMe]; exact allD_at (by omega)
    have hokG := ordOk_okG (argsD_parts (okD_parts hok).1).1
    have hge : groupsOfG ids l = groupsG ids l := by rw [groupsOfG, if_pos hokG]
    have hgr : ∀ W : World, Below w5.heap.size w5 W → Calls Try.prog 25 #[.slice A1 ids.length c1, .slice A2 l.length c2] W fun e w2 => ∃ v, e = .returned (.tuple #[v, .bool true]) ∧ Below W.heap.size W w2 ∧ w2.ownsRow W.heap.size 3 1 v (groupsG ids l).length (cellsI (groupsG ids l)) := fun W hW =>
      (iGroups_any A1 A2 c1 c2 ids l W (R.out.1.step hW) (R.out.2.1.step hW) (by omega) (by omega)).mono fun e w2 ⟨v, h1, h2, h3⟩ => ⟨v, by rw [h1, hokG], h2, by rw [← hge]; exact h3⟩
    have hor := fun (W : World) (hW : Below w5.heap.size w5 W) => iOrderOf_any A1 A2 c1 c2 ids l W (R.out.1.step hW) (R.out.2.1.step hW) (by omega) (by omega)
    have hoe : ordOfG ids l = tabN ids.length (ordF ids l) := by rw [ordOfG, if_pos hokG, ordF_tab]
    simp only [hoe] at hor
    have hgl := groupsG_len ids l
    have hpair : ∀ (i j : Nat) (p q : Sp) (x y : Int), M[i]? = some p → M[j]? = some q → (groupsG ids l)[i]? = some x → (groupsG ids l)[j]? = some y → (ordF ids l i j = true → q.lo ≤ p.lo ∧ q.hi ≤ p.hi) ∧ (x = y → p = q) := fun i j p q x y hi hj hx hy => by
      have h1 : i < M.length := (List.getElem?_eq_some_iff.1 hi).1
      have h2 : j < M.length := (List.getElem?_eq_some_iff.1 hj).1
      have h3 := hat i h1
      have h4 := hat j h2
      rw [hi] at h3
      rw [hj] at h4
      injection h3 with h3
      injection h4 with h4
      subst h3 h4
      refine ⟨fun hu => ?_, fun hxy => ?_⟩
      · have hJ : joinK ids l i j = true := by rw [joinK_at (by omega) (by omega), joinJ_iff]; exact .inl hu
        exact dates_order hokG hJ
      · have hg : (groupsG ids l).getD i 0 = (groupsG ids l).getD j 0 := by simp [List.getD_eq_getElem?_getD, hx, hy, hxy]
        have hs := span_group (lo := loP ids bs) (hi := hiP ids bs) hokG (i := i) (j := j) (by omega) (by omega) hg
        exact Sp.ext_ hs.1 hs.2
    obtain ⟨G, hG⟩ : ∃ G, G = groupsG ids l := ⟨_, rfl⟩
    obtain ⟨f, hf⟩ : ∃ f, f = ordF ids l := ⟨_, rfl⟩
    simp only [← hG, ← hf] at hgr hor hgl hpair
    have HF := Lib.hid (And.intro hgr (And.intro hor (And.intro hgl (And.intro hMn hpair))))
    have elG : ((G.length : Int) != (ids.length : Int)) = false := by simp [hgl]
    have elM : ((M.length : Int) != (ids.length : Int)) = false := by simp [hMn]
    have hG13 : G.length ≤ 13 := by omega
    clear hok hMe hMn hat hokG hgr hor hoe hge hgl hpair hG hf
    go_wp2_with fail
    refine (HF.out.1 _ (Below.refl _ _)).mono ?_
    rintro e w6 ⟨v6, rfl, hb6, ho6⟩
    obtain ⟨A6, c6, hv6, _, hr6⟩ := own_slice ho6
    subst hv6
    have H6 := Lib.hid (And.intro hb6 hr6)
    clear hb6 ho6 hr6
    go_wp2_with fail
    refine (HF.out.2.1 _ H6.out.1).mono ?_
    rintro e w7 ⟨v7, vs7, rfl, hb7, ho7⟩
    obtain ⟨A7, c7, rfl, _, hm7⟩ := ho7.nest
    have htl : (tabN ids.length f).length = ids.length := tabN_len _ _
    rw [htl] at hm7 ⊢
    have k7 := below_step H6.out.1 hb7
    have H7 := Lib.hid (And.intro k7 (And.intro hm7 (And.intro (H6.out.2.step hb7) (R.out.2.2.2.1.step k7))))
    clear hb7 ho7 hm7 k7 htl
    go_wp2_with fail
    go_loopw [13] (fun i wr => ∃ k : Nat, k ≤ ids.length ∧ i = .int .i64 k ∧ Below w7.heap.size w7 wr) (fun i _ => ids.length - (intOf i).toNat)
    case atStart => exact ⟨0, Nat.zero_le _, rfl, Below.refl _ _⟩
    case round =>
      obtain ⟨i, hile, rfl, hbi⟩ := hrel
      have HI := Lib.hid hbi
      clear hbi
      by_cases hii : i < ids.length
      · have hiii : (i : Int) < (ids.length : Int) := by omega
        go_wp2_with fail
        go_loopw [14] (fun c wr => ∃ j : Nat, j ≤ ids.length ∧ c = .int .i64 j ∧ Below w7.heap.size w7 wr) (fun c _ => ids.length - (intOf c).toNat)
        case atStart => exact ⟨0, Nat.zero_le _, rfl, HI.out⟩
        case round =>
          obtain ⟨j, hjle, rfl, hbj⟩ := hrel
          by_cases hjj : j < ids.length
          · have hjji : (j : Int) < (ids.length : Int) := by omega
            have hGl := HF.out.2.2.1
            have hMl2 := HF.out.2.2.2.1
            have hiG : (i : Int) < (G.length : Int) := by omega
            have hjG : (j : Int) < (G.length : Int) := by omega
            have hiM : (i : Int) < (M.length : Int) := by omega
            have hjM : (j : Int) < (M.length : Int) := by omega
            obtain ⟨p, hp⟩ : ∃ p, M[i]? = some p := ⟨_, List.getElem?_eq_getElem (by omega)⟩
            obtain ⟨q, hq⟩ : ∃ q, M[j]? = some q := ⟨_, List.getElem?_eq_getElem (by omega)⟩
            obtain ⟨x, hx⟩ : ∃ x, G[i]? = some x := ⟨_, List.getElem?_eq_getElem (by omega)⟩
            obtain ⟨y, hy⟩ : ∃ y, G[j]? = some y := ⟨_, List.getElem?_eq_getElem (by omega)⟩
            obtain ⟨bg, og, hAg, hbg, hcg⟩ := (H7.out.2.2.1.below hbj).ints (by omega)
            subst hAg
            have g1 := hcg i x hx
            have g2 := hcg j y hy
            obtain ⟨bm, om, hAm, hbm, hcm⟩ := (H7.out.2.2.2.below hbj).sp (by omega)
            subst hAm
            obtain ⟨f1, f2⟩ := hcm i p hp
            obtain ⟨f3, f4⟩ := hcm j q hq
            obtain ⟨b4, o4, A8, c8, hA4, hb4, f5, _, hr4⟩ := (H7.out.2.1.below hbj).row (tabN_row f hii)
            obtain ⟨b5, o5, hA5, hb5, f6⟩ := Reads.cellE hr4 (rowN_at (f i) hjj)
            subst hA4 hA5
            rw [rowN_len] at f5
            simp only [encB] at f6
            obtain ⟨ho, hs⟩ := HF.out.2.2.2.2 i j p q x y hp hq hx hy
            obtain ⟨u, hu⟩ : ∃ u, f i j = u := ⟨_, rfl⟩
            rw [hu] at f6 ho
            have HB := Lib.hid hbj
            clear hbj hp hq hx hy hcg hcm hr4 hu hGl hMl2
            by_cases hxy : x = y
            · have e1 : (x == y) = true := by simp [hxy]
              have hpq := hs hxy
              subst hpq
              have e2 := spNe_run p.lo p.hi
              have e3 : decide (p.lo < p.lo) = false := decide_eq_false (by omega)
              have e4 : decide (p.hi < p.hi) = false := decide_eq_false (by omega)
              clear hxy hs ho
              cases u
              · skip
                go_wp2_with fail
                refine region_still_tail2 54 (by kernel_rfl) (by kernel_rfl) ?_
                intro W hW hz hbw
                simp only [List.take_succ_cons, List.take_zero, List.drop_succ_cons, List.drop_zero]
                refine Shut.out ?_
                iterate 54
                  refine still_stepH (fun K hK => ?_)
                  go_simp
                  refine hK _ ?_
                  clear hK K
                refine still_nilH ?_
                have HW := Lib.hid hbw
                clear hW hz hbw
                go_wp2_with fail
                go_roundw
                case rel => exact ⟨j + 1, by omega, by go_num, below_step HB.out HW.out⟩
                case measure => simp [intOf]; omega
              · skip
                go_wp2_with fail
                refine region_still_tail2 54 (by kernel_rfl) (by kernel_rfl) ?_
                intro W hW hz hbw
                simp only [List.take_succ_cons, List.take_zero, List.drop_succ_cons, List.drop_zero]
                refine Shut.out ?_
                iterate 54
                  refine still_stepH (fun K hK => ?_)
                  go_simp
                  refine hK _ ?_
                  clear hK K
                refine still_nilH ?_
                have HW := Lib.hid hbw
                clear hW hz hbw
                go_wp2_with fail
                go_roundw
                case rel => exact ⟨j + 1, by omega, by go_num, below_step HB.out HW.out⟩
                case measure => simp [intOf]; omega
            · have e1 : (x == y) = false := by simp [hxy]
              clear hxy hs
              cases u
              · clear ho
                go_wp2_with fail
                refine region_still_tail2 54 (by kernel_rfl) (by kernel_rfl) ?_
                intro W hW hz hbw
                simp only [List.take_succ_cons, List.take_zero, List.drop_succ_cons, List.drop_zero]
                refine Shut.out ?_
                iterate 54
                  refine still_stepH (fun K hK => ?_)
                  go_simp
                  refine hK _ ?_
                  clear hK K
                refine still_nilH ?_
                have HW := Lib.hid hbw
                clear hW hz hbw
                go_wp2_with fail
                go_roundw
                case rel => exact ⟨j + 1, by omega, by go_num, below_step HB.out HW.out⟩
                case measure => simp [intOf]; omega
              · obtain ⟨ha, hb⟩ := ho rfl
                have e3 : decide (p.lo < q.lo) = false := decide_eq_false (by omega)
                have e4 : decide (p.hi < q.hi) = false := decide_eq_false (by omega)
                clear ho ha hb
                go_wp2_with fail
                refine region_still_tail2 54 (by kernel_rfl) (by kernel_rfl) ?_
                intro W hW hz hbw
                simp only [List.take_succ_cons, List.take_zero, List.drop_succ_cons, List.drop_zero]
                refine Shut.out ?_
                iterate 54
                  refine still_stepH (fun K hK => ?_)
                  go_simp
                  refine hK _ ?_
                  clear hK K
                refine still_nilH ?_
                have HW := Lib.hid hbw
                clear hW hz hbw
                go_wp2_with fail
                go_roundw
                case rel => exact ⟨j + 1, by omega, by go_num, below_step HB.out HW.out⟩
                case measure => simp [intOf]; omega
          · have HB := Lib.hid hbj
            clear hbj
            go_wp2_with fail
            go_roundw
            case rel => exact ⟨i + 1, by omega, by go_num, HB.out⟩
            case measure => simp [intOf]; omega
      · go_wp2_with fail
        go_ret
        exact ⟨rfl, below_step R.out.2.2.2.2 (below_step H7.out.1 HI.out)⟩

theorem walk (A : Option Addr) (c : Nat) (z : List Int) (w : World) (h1 : z.length ≤ c) (h2 : Reads w w.heap.size 1 A z.length (cellsB z)) (h3 : ∀ b ∈ z, 0 ≤ b ∧ b ≤ 255) (h4 : c ≤ maxLen) :
    Calls Try.prog 5 #[.slice A z.length c] w fun e w2 => e = .returned (.bool true) ∧ Below w.heap.size w w2 := by
  by_cases hn : z.length ≤ 1048576
  · exact walk_short A c z w (Bytes.mk_ h1 h2 h3 h4) hn
  · have e0 : decide ((1048576 : Int) < (z.length : Int)) = true := decide_eq_true (by omega)
    go_enter Try.func5, Try.ntmps5
    go_wp2_with fail
    go_ret
    exact ⟨rfl, Below.refl _ _⟩

set_option linter.unusedVariables false
set_option maxRecDepth 100000 in
theorem lifted (os : Os) (started : os.Started) (H : Type) (enc : TypeId × Value → H) :
    ReturnsInHanded {} Try.checked os 5 .any (Rows.fnDatesOrderSpec.pre6 enc Try.prog Try.f5 Rows.fnDatesOrderRow.domain false) (Rows.fnDatesOrderSpec.post enc Try.prog Try.f5 false true false false) := by
  refine returnsInHanded_of_change (C := Try.checked) lawOwn started (by kernel_rfl) Try.func5
    (ChangeSpec.witness6 (enc := enc) (C := Try.checked) false ⟨#[], #[.slice none 0 0], []⟩ 8 (by kernel_rfl) (by kernel_rfl) (by kernel_rfl) (by kernel_rfl)) ?_
  intro W base args ds gs before hval0 hW hcnd _
  have hval : ∀ (j : Nat) t v, Try.f5.params[j]? = some t → args[j]? = some v → Value.okWide Try.prog W .any base t v := hval0
  have hW' := hW
  obtain ⟨p, q, hA0, hV, rfl, hfz, hnd⟩ := hW
  have hA : DataW.TrodAll enc Try.prog W 0 (fun _ => true) true Try.f5.params.toList args.toList ds p := hA0
  rw [Try.params5] at hA hval
  obtain ⟨v0, vs0, d0, ds0, p0, q0, hargs, rfl, rfl, h0, r0⟩ := trodAll_cons hA
  obtain ⟨rfl, rfl, rfl⟩ := trodAll_nil r0
  obtain rfl : args = #[v0] := by cases args; simp_all
  obtain ⟨rfl, rfl⟩ := trodVars_none hV
  have k0 := h0
  have lt0 : ∀ x ∈ p0, x.block < W.heap.size := by obtain ⟨m, hm⟩ := k0; exact DataW.trod_lt m _ _ _ hm
  obtain ⟨a0, len0, cap0, rfl⟩ := okWide_slice Try.underlying22 (hval 0 22 v0 rfl rfl)
  obtain ⟨z0, hl0, hc0, hr0, hb0, hm0⟩ : ∃ z : List Int, len0 = z.length ∧ len0 ≤ cap0 ∧ Reads W W.heap.size 1 a0 len0 (cellsB z) ∧ (∀ b ∈ z, 0 ≤ b ∧ b ≤ 255) ∧ cap0 ≤ maxLen := by
    obtain ⟨fuel, hf⟩ := h0
    exact open_bytes Try.underlying22 Try.underlying5 (by kernel_rfl) (by simpa [Value.cells] using hf)
  subst hl0
  clear hA0 hval0
  refine (walk a0 cap0 z0 W hc0 hr0 hb0 hm0).mono fun e W' ⟨he, bel⟩ => ?_
  subst he
  exact ⟨_, rfl, _, _, _, [], _, [], hW', trodAll_mk1 (shut_bool Try.underlying4 _), (trodAll_cons_mk (Below.trod lawLaid (by kernel_rfl) (of_decide_eq_true (by kernel_rfl)) k0 bel lt0) trodAll_mk0), rfl, bel.frame _, fun h => by cases h⟩

theorem closed : joinedFacts Try.checked.prog 5 Try.f5 Rows.fnDatesOrderSpec Rows.fnDatesOrderRow = true := by
  unfold joinedFacts
  repeat (refine and_t ?_ (by first | (with_reducible exact ent) | (with_reducible refine lif_c ?_; kernel_rfl) | (with_reducible refine mak_c ?_; kernel_rfl) | kernel_rfl))
  kernel_rfl
theorem proved : Rows.FnDatesOrderSaid :=
  OpenClaim.holds_of_wide 5 Try.f5 rfl rfl rfl rfl rfl rfl rfl ⟨rfl, rfl, rfl, rfl, rfl⟩ rfl rfl rfl rfl rfl (by kernel_rfl) Try.func5 closed
    (of_decide_eq_true (by kernel_rfl)) (by unfold Func.isWrapper; rw [if_neg (of_decide_eq_false (by kernel_rfl))]; exact ⟨rfl, rfl⟩)
    (fun os started H enc _ => lifted os started H enc)
#print axioms proved
end Go.Proofs.Ytfeodclacjolaaa.lawDatesOrder
