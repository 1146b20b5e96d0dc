/-
  Whatever bytes are given: of contexts and relations drawn from them, the program's levels are the model's; what lies above has a lesser level, and contexts of one group have one level. No condition.
-/
import Derived.Test.YtjkjnicgbfpjiaaEnt
import Derived.Test.YtjkjnicgbfpjiaaLif
import Derived.Test.YtjkjnicgbfpjiaaMak
import Derived.Test.YtjkjnicgbfpjiaaDm
import Derived.Test.YtjkjnicgbfpjiaaJl
import Derived.Test.YtjkjnicgbfpjiaaGv
import Derived.Test.YtjkjnicgbfpjiaaV4
import Derived.Test.YtjkjnicgbfpjiaaInts
import Derived.Test.YtjkjnicgbfpjiaaOpen
import Derived.Deep.RegionHeld3
namespace Go.Proofs.Ytjkjnicgbfpjiaa.lawLevels
open Go.ChangeShapes Go.WideShapes Go.ChangeAt Go.RowKit

theorem levL_at {f : Nat → Nat → Bool} {n q : Nat} (hq : q < n) : (levL f n)[q]? = some (levG f n q : Int) := by simp [levL, hq]
theorem rng_next (p : Nat → Bool) (k : Nat) : (List.range (k + 1)).any p = ((List.range k).any p || p k) := by
  rw [List.range_succ, List.any_append]
  simp
/-- Contexts of one group have one level. -/
theorem lev_group {ids : List Int} {l : List Ctx} (ho : ordOkG ids l = true) {i j : Nat} (hi : i < ids.length) (hj : j < ids.length) (h : (groupsG ids l)[i]? = (groupsG ids l)[j]?) : levG (ordF ids l) ids.length i = levG (ordF ids l) ids.length j := by
  have hok := ordOk_ok ho
  have hv := (okG_parts hok).1
  refine levG_same (ordF_tr hok) (ordF_irr ho) fun k hk => ?_
  have hgi : (groupsG ids l)[i]? = some ((groupsG ids l).getD i 0) := by have := groupsG_len ids l; simp [this, hi]
  have hgj : (groupsG ids l)[j]? = some ((groupsG ids l).getD j 0) := by have := groupsG_len ids l; simp [this, hj]
  have e1 := labG_at hv (x := ids.getD i 0) (by simp [hi]) hgi
  have e2 := labG_at hv (x := ids.getD j 0) (by simp [hj]) hgj
  have e3 : labG ids (groupsG ids l) (ids.getD i 0) = labG ids (groupsG ids l) (ids.getD j 0) := by
    rw [e1, e2]
    rw [hgi, hgj] at h
    injection h
  have e4 := (upG_same (c := ids.getD k 0) e3).2
  unfold ordF
  rw [e4]
  simp [hi, hj]
set_option maxHeartbeats 2000000 in
set_option maxRecDepth 100000 in
theorem walk_short (A : Option Addr) (c : Nat) (z : List Int) (w : World) (h : Bytes w A c z) (hn : z.length ≤ 1048576) :
    Calls Try.prog 9 #[.slice A z.length c] w fun e w2 => e = .returned (.bool true) ∧ Below w.heap.size w w2 := by
  have e0 : decide ((1048576 : Int) < (z.length : Int)) = false := decide_eq_false (by omega)
  go_enter Try.func9, Try.ntmps9
  go_wp2_with fail
  refine (dMatLev_any A c z _ h).mono ?_
  rintro e w2 ⟨v1, v2, ids, l, rfl, ho1, ho2, hl1, hl2, hb2⟩
  obtain ⟨A1, c1, hv1, hcap1, hr1⟩ := own_slice ho1
  obtain ⟨A2, c2, hv2, hcap2, hr2⟩ := own_slice ho2
  subst hv1 hv2
  have HR := Lib.hid (And.intro hb2 (And.intro hr1 hr2))
  clear ho1 ho2 hb2 h hr1 hr2
  obtain ⟨M, hM⟩ : ∃ M, M = levS ids l := ⟨_, rfl⟩
  obtain ⟨o, ho⟩ : ∃ o, o = ordOkG ids l := ⟨_, rfl⟩
  have hMl : M.length ≤ 31 := by rw [hM]; exact Nat.le_trans (levS_len ids l) (by omega)
  have q2 := eqLI_self M
  have eb : (o != o) = false := by simp
  have ec : (o == o) = true := by simp
  have HC := Lib.hid (And.intro hM ho)
  clear hM ho
  go_wp2_with fail
  refine (iMatLevels_any _ _ _ _ ids l _ HR.out.2.1 HR.out.2.2 (by omega) (by omega)).mono ?_
  rintro e w3 ⟨v3, rfl, hb3, ho3⟩
  rw [← HC.out.1] at ho3
  rw [← HC.out.2]
  obtain ⟨A3, c3, hv3, hcap3, hr3⟩ := own_slice ho3
  subst hv3
  have H3 := Lib.hid (And.intro hb3 hr3)
  clear hb3 ho3 hr3
  go_wp2_with fail
  refine (sMatLevels_any _ _ _ _ ids l _ (HR.out.2.1.step H3.out.1) (HR.out.2.2.step H3.out.1) (by omega) (by omega)).mono ?_
  rintro e w4 ⟨v4, rfl, hb4, ho4⟩
  rw [← HC.out.1] at ho4
  rw [← HC.out.2]
  obtain ⟨A4, c4, hv4, hcap4, hr4⟩ := own_slice ho4
  subst hv4
  have H4 := Lib.hid (And.intro hb4 hr4)
  clear hb4 ho4 hr4
  go_wp2_with fail
  refine (sameInts_any _ _ _ _ M M _ (H3.out.2.step H4.out.1) H4.out.2 (by omega)).mono ?_
  rintro e w5 ⟨rfl, hb5⟩
  have k5 := below_step H4.out.1 hb5
  have k25 := below_step H3.out.1 k5
  have R := Lib.hid (And.intro (HR.out.2.1.step k25) (And.intro (HR.out.2.2.step k25) (And.intro (H3.out.2.step k5) (below_step HR.out.1 k25))))
  have R4 := Lib.hid (H4.out.2.step hb5)
  clear hb5 k5 k25
  cases o
  · clear eb ec
    go_wp2_with fail
    refine (sameInts_any _ _ _ _ M M _ R.out.2.2.1 R4.out (by omega)).mono ?_
    rintro e w6 ⟨rfl, hb6⟩
    go_wp2_with fail
    go_ret
    exact ⟨rfl, below_step R.out.2.2.2 hb6⟩
  · have ho : ordOkG ids l = true := HC.out.2.symm
    have hok := ordOk_ok ho
    have hn12 : ids.length ≤ 12 := validO_len (okG_parts hok).1
    have hlg := fun (i j : Nat) => lev_group (i := i) (j := j) ho
    have hir := ordF_irr ho
    have htr := ordF_tr hok
    have hMe : M = levL (ordF ids l) ids.length := by rw [HC.out.1, levS_ok ho]
    have g1 := fun (W : World) (hW : Below w5.heap.size w5 W) => iGroups_any A1 A2 c1 c2 ids l W (R.out.1.step hW) (R.out.2.1.step hW) (by omega) (by omega)
    have o1 := fun (W : World) (hW : Below w5.heap.size w5 W) => iOrderOf_any A1 A2 c1 c2 ids l W (R.out.1.step hW) (R.out.2.1.step hW) (by omega) (by omega)
    unfold GroupsPost at g1
    rw [hok, groupsOfG, if_pos hok] at g1
    rw [ordOfG, if_pos hok, ← ordF_tab] at o1
    obtain ⟨f, hf⟩ : ∃ f, f = ordF ids l := ⟨_, rfl⟩
    obtain ⟨G, hG⟩ : ∃ G, G = groupsG ids l := ⟨_, rfl⟩
    have hGl : G.length = ids.length := by rw [hG, groupsG_len]
    rw [← hf] at hir htr hlg hMe o1
    rw [← hG] at hlg g1
    have hMn : M.length = ids.length := by rw [hMe, levL_len]
    have hMat : ∀ q, q < ids.length → M[q]? = some (levG f ids.length q : Int) := fun q hq => by rw [hMe]; exact levL_at hq
    have kG : ((G.length : Int) != (ids.length : Int)) = false := by simp [hGl]
    have kM : ((M.length : Int) == (ids.length : Int)) = true := by simp [hMn]
    have HV := Lib.hid (And.intro g1 (And.intro o1 (And.intro hlg (And.intro hir (And.intro htr (And.intro hMat (And.intro hGl hMn)))))))
    clear ho hok hlg hir htr hMe g1 o1 hf hG hGl hMn hMat eb ec
    go_wp2_with fail
    refine (HV.out.1 _ (Below.refl _ _)).mono ?_
    rintro e w6 ⟨v6, rfl, hb6, ho6⟩
    obtain ⟨A6, c6, hv6, _, hr6⟩ := own_slice ho6
    subst hv6
    have H6 := Lib.hid (And.intro hb6 hr6)
    clear hb6 ho6 hr6
    go_wp2_with fail
    refine (HV.out.2.1 _ H6.out.1).mono ?_
    rintro e w7 ⟨v7, vs7, rfl, hb7, ho7⟩
    obtain ⟨A7, c7, hv7, _, hm7⟩ := ho7.nest
    subst hv7
    have htl : (tabN ids.length f).length = ids.length := tabN_len _ _
    rw [htl] at hm7
    rw [htl]
    clear htl ho7
    have k57 := below_step H6.out.1 hb7
    have H7 := Lib.hid (And.intro (R.out.2.2.1.step k57) (And.intro (H6.out.2.step hb7) (And.intro hm7 (below_step R.out.2.2.2 k57))))
    clear hb7 hm7 k57
    go_wp2_with fail
    go_loopw [12] (fun v wr => ∃ i : Nat, i ≤ ids.length ∧ v = .int .i64 i ∧ Below w7.heap.size w7 wr) (fun v _ => ids.length - (intOf v).toNat)
    case atStart => exact ⟨0, Nat.zero_le _, rfl, Below.refl _ _⟩
    case round =>
      obtain ⟨i, hi, rfl, hbl⟩ := hrel
      have HB := Lib.hid hbl
      clear hbl
      by_cases hli : i < ids.length
      · have hii : (i : Int) < (ids.length : Int) := by omega
        go_wp2_with fail
        go_loopw [13] (fun v wr => ∃ j : Nat, j ≤ ids.length ∧ v = .int .i64 j ∧ Below w7.heap.size w7 wr) (fun v _ => ids.length - (intOf v).toNat)
        case atStart => exact ⟨0, Nat.zero_le _, rfl, HB.out⟩
        case round =>
          obtain ⟨j, hj, rfl, hbj⟩ := hrel
          by_cases hlj : j < ids.length
          · have hjj : (j : Int) < (ids.length : Int) := by omega
            have hiM : (i : Int) < (M.length : Int) := by rw [HV.out.2.2.2.2.2.2.2]; omega
            have hjM : (j : Int) < (M.length : Int) := by rw [HV.out.2.2.2.2.2.2.2]; omega
            have hiG : (i : Int) < (G.length : Int) := by rw [HV.out.2.2.2.2.2.2.1]; omega
            have hjG : (j : Int) < (G.length : Int) := by rw [HV.out.2.2.2.2.2.2.1]; omega
            obtain ⟨b1, o1, Ar, cr, hA1, hbb1, f1, hcr, hrow⟩ := (H7.out.2.2.1.step hbj).row (tabN_row f hli)
            obtain ⟨b2, o2, hA2, hbb2, f2⟩ := Reads.cellE hrow (rowN_at (f i) hlj)
            obtain ⟨b3, o3, hA3, hbb3, hc3⟩ := (H7.out.1.step hbj).ints (by omega)
            obtain ⟨b4, o4, hA4, hbb4, hc4⟩ := (H7.out.2.1.step hbj).ints (by omega)
            subst hA1 hA2 hA3 hA4
            rw [rowN_len] at f1
            simp only [encB] at f2
            obtain ⟨t, ht⟩ : ∃ t, f i j = t := ⟨_, rfl⟩
            rw [ht] at f2
            obtain ⟨x, hx⟩ : ∃ x, levG f ids.length i = x := ⟨_, rfl⟩
            obtain ⟨y, hy⟩ : ∃ y, levG f ids.length j = y := ⟨_, rfl⟩
            obtain ⟨p, hp⟩ : ∃ p, G[i]? = some p := ⟨_, List.getElem?_eq_getElem (by rw [HV.out.2.2.2.2.2.2.1]; exact hli)⟩
            obtain ⟨q, hq⟩ : ∃ q, G[j]? = some q := ⟨_, List.getElem?_eq_getElem (by rw [HV.out.2.2.2.2.2.2.1]; exact hlj)⟩
            have f3 := hc3 i _ (HV.out.2.2.2.2.2.1 i hli)
            have f4 := hc3 j _ (HV.out.2.2.2.2.2.1 j hlj)
            have f5 := hc4 i _ hp
            have f6 := hc4 j _ hq
            rw [hx] at f3
            rw [hy] at f4
            have hstep : t = true → x < y := fun h => by
              have := levG_step (n := ids.length) HV.out.2.2.2.2.1 HV.out.2.2.2.1 hli (ht.trans h)
              omega
            have hgrp : p = q → x = y := fun h => by
              have := HV.out.2.2.1 i j hli hlj (by rw [hp, hq, h])
              omega
            clear hc3 hc4 hrow ht hx hy hp hq
            by_cases hpq : p = q
            · have k1 : (p == q) = true := by simp [hpq]
              have k2 : ((x : Int) != (y : Int)) = false := by simp [hgrp hpq]
              cases t
              · clear hstep hgrp hpq
                go_wp2_with fail
                refine region_still_tail2 39 (by kernel_rfl) (by kernel_rfl) ?_
                intro W hW hzz hbW
                simp only [List.take_succ_cons, List.take_zero, List.drop_succ_cons, List.drop_zero]
                refine Shut.out ?_
                iterate 39
                  refine still_stepH (fun K hK => ?_)
                  go_simp
                  refine hK _ ?_
                  clear hK K
                refine still_nilH ?_
                have HW := Lib.hid (below_step hbj hbW)
                clear hW hzz hbW f1 f2 f3 f4 f5 f6
                go_wp2_with fail
                go_roundw
                case rel => exact ⟨j + 1, by omega, by go_num, HW.out⟩
                case measure => simp [intOf]; omega
              · have k3 : x < y := hstep rfl
                clear hstep hgrp hpq
                go_wp2_with fail
                refine region_still_tail2 39 (by kernel_rfl) (by kernel_rfl) ?_
                intro W hW hzz hbW
                simp only [List.take_succ_cons, List.take_zero, List.drop_succ_cons, List.drop_zero]
                refine Shut.out ?_
                iterate 39
                  refine still_stepH (fun K hK => ?_)
                  go_simp
                  refine hK _ ?_
                  clear hK K
                refine still_nilH ?_
                have HW := Lib.hid (below_step hbj hbW)
                clear hW hzz hbW f1 f2 f3 f4 f5 f6
                go_wp2_with fail
                go_roundw
                case rel => exact ⟨j + 1, by omega, by go_num, HW.out⟩
                case measure => simp [intOf]; omega
            · have k1 : (p == q) = false := by simp [hpq]
              cases t
              · clear hstep hgrp hpq
                go_wp2_with fail
                refine region_still_tail2 39 (by kernel_rfl) (by kernel_rfl) ?_
                intro W hW hzz hbW
                simp only [List.take_succ_cons, List.take_zero, List.drop_succ_cons, List.drop_zero]
                refine Shut.out ?_
                iterate 39
                  refine still_stepH (fun K hK => ?_)
                  go_simp
                  refine hK _ ?_
                  clear hK K
                refine still_nilH ?_
                have HW := Lib.hid (below_step hbj hbW)
                clear hW hzz hbW f1 f2 f3 f4 f5 f6
                go_wp2_with fail
                go_roundw
                case rel => exact ⟨j + 1, by omega, by go_num, HW.out⟩
                case measure => simp [intOf]; omega
              · have k3 : x < y := hstep rfl
                clear hstep hgrp hpq
                go_wp2_with fail
                refine region_still_tail2 39 (by kernel_rfl) (by kernel_rfl) ?_
                intro W hW hzz hbW
                simp only [List.take_succ_cons, List.take_zero, List.drop_succ_cons, List.drop_zero]
                refine Shut.out ?_
                iterate 39
                  refine still_stepH (fun K hK => ?_)
                  go_simp
                  refine hK _ ?_
                  clear hK K
                refine still_nilH ?_
                have HW := Lib.hid (below_step hbj hbW)
                clear hW hzz hbW f1 f2 f3 f4 f5 f6
                go_wp2_with fail
                go_roundw
                case rel => exact ⟨j + 1, by omega, by go_num, HW.out⟩
                case measure => simp [intOf]; omega
          · go_wp2_with fail
            go_roundw
            case rel => exact ⟨i + 1, by omega, by go_num, hbj⟩
            case measure => simp [intOf]; omega
      · go_wp2_with fail
        go_ret
        exact ⟨rfl, below_step H7.out.2.2.2 HB.out⟩

theorem walk (A : Option Addr) (c : Nat) (z : List Int) (w : World) (h1 : z.length ≤ c) (h2 : Reads w w.heap.size 1 A z.length (cellsB z)) (h3 : ∀ b ∈ z, 0 ≤ b ∧ b ≤ 255) (h4 : c ≤ maxLen) :
    Calls Try.prog 9 #[.slice A z.length c] w fun e w2 => e = .returned (.bool true) ∧ Below w.heap.size w w2 := by
  by_cases hn : z.length ≤ 1048576
  · exact walk_short A c z w (Bytes.mk_ h1 h2 h3 h4) hn
  · have e0 : decide ((1048576 : Int) < (z.length : Int)) = true := decide_eq_true (by omega)
    go_enter Try.func9, Try.ntmps9
    go_wp2_with fail
    go_ret
    exact ⟨rfl, Below.refl _ _⟩

set_option linter.unusedVariables false
set_option maxRecDepth 100000 in
theorem lifted (os : Os) (started : os.Started) (H : Type) (enc : TypeId × Value → H) :
    ReturnsInHanded {} Try.checked os 9 .any (Rows.fnLevelsSpec.pre6 enc Try.prog Try.f9 Rows.fnLevelsRow.domain false) (Rows.fnLevelsSpec.post enc Try.prog Try.f9 false true false false) := by
  refine returnsInHanded_of_change (C := Try.checked) lawOwn started (by kernel_rfl) Try.func9
    (ChangeSpec.witness6 (enc := enc) (C := Try.checked) false ⟨#[], #[.slice none 0 0], []⟩ 8 (by kernel_rfl) (by kernel_rfl) (by kernel_rfl) (by kernel_rfl)) ?_
  intro W base args ds gs before hval0 hW hcnd _
  have hval : ∀ (j : Nat) t v, Try.f9.params[j]? = some t → args[j]? = some v → Value.okWide Try.prog W .any base t v := hval0
  have hW' := hW
  obtain ⟨p, q, hA0, hV, rfl, hfz, hnd⟩ := hW
  have hA : DataW.TrodAll enc Try.prog W 0 (fun _ => true) true Try.f9.params.toList args.toList ds p := hA0
  rw [Try.params9] at hA hval
  obtain ⟨v0, vs0, d0, ds0, p0, q0, hargs, rfl, rfl, h0, r0⟩ := trodAll_cons hA
  obtain ⟨rfl, rfl, rfl⟩ := trodAll_nil r0
  obtain rfl : args = #[v0] := by cases args; simp_all
  obtain ⟨rfl, rfl⟩ := trodVars_none hV
  have k0 := h0
  have lt0 : ∀ x ∈ p0, x.block < W.heap.size := by obtain ⟨m, hm⟩ := k0; exact DataW.trod_lt m _ _ _ hm
  obtain ⟨a0, len0, cap0, rfl⟩ := okWide_slice Try.underlying22 (hval 0 22 v0 rfl rfl)
  obtain ⟨z0, hl0, hc0, hr0, hb0, hm0⟩ : ∃ z : List Int, len0 = z.length ∧ len0 ≤ cap0 ∧ Reads W W.heap.size 1 a0 len0 (cellsB z) ∧ (∀ b ∈ z, 0 ≤ b ∧ b ≤ 255) ∧ cap0 ≤ maxLen := by
    obtain ⟨fuel, hf⟩ := h0
    exact open_bytes Try.underlying22 Try.underlying5 (by kernel_rfl) (by simpa [Value.cells] using hf)
  subst hl0
  clear hA0 hval0
  refine (walk a0 cap0 z0 W hc0 hr0 hb0 hm0).mono fun e W' ⟨he, bel⟩ => ?_
  subst he
  exact ⟨_, rfl, _, _, _, [], _, [], hW', trodAll_mk1 (shut_bool Try.underlying4 _), (trodAll_cons_mk (Below.trod lawLaid (by kernel_rfl) (of_decide_eq_true (by kernel_rfl)) k0 bel lt0) trodAll_mk0), rfl, bel.frame _, fun h => by cases h⟩

theorem closed : joinedFacts Try.checked.prog 9 Try.f9 Rows.fnLevelsSpec Rows.fnLevelsRow = true := by
  unfold joinedFacts
  repeat (refine and_t ?_ (by first | (with_reducible exact ent) | (with_reducible refine lif_c ?_; kernel_rfl) | (with_reducible refine mak_c ?_; kernel_rfl) | kernel_rfl))
  kernel_rfl
theorem proved : Rows.FnLevelsSaid :=
  OpenClaim.holds_of_wide 9 Try.f9 rfl rfl rfl rfl rfl rfl rfl ⟨rfl, rfl, rfl, rfl, rfl⟩ rfl rfl rfl rfl rfl (by kernel_rfl) Try.func9 closed
    (of_decide_eq_true (by kernel_rfl)) (by unfold Func.isWrapper; rw [if_neg (of_decide_eq_false (by kernel_rfl))]; exact ⟨rfl, rfl⟩)
    (fun os started H enc _ => lifted os started H enc)
#print axioms proved
end Go.Proofs.Ytjkjnicgbfpjiaa.lawLevels
