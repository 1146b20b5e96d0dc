/-
  For every list of numbers, of relations, of bounds and of finds that it takes, the old finds are answered as the model's, in memory of its own, and the program leaves its arguments as they were. No condition.
-/
import Derived.Test.YtopdmcnbchpihaaEnt
import Derived.Test.YtopdmcnbchpihaaLif
import Derived.Test.YtopdmcnbchpihaaMak
import Derived.Test.YtopdmcnbchpihaaOpen
import Derived.Test.YtopdmcnbchpihaaInts
import Derived.Test.YtopdmcnbchpihaaMk
import Derived.Test.YtopdmcnbchpihaaMkF
import Derived.Test.YtopdmcnbchpihaaFno
import Derived.Test.YtopdmcnbchpihaaIfo
namespace Go.Proofs.Ytopdmcnbchpihaa.exFindsOld
open Go.ChangeShapes Go.WideShapes Go.ChangeAt Go.RowKit

set_option maxHeartbeats 8000000 in
set_option maxRecDepth 100000 in
theorem walk (A : Option Addr) (ca : Nat) (ids : List Int) (B : Option Addr) (cb : Nat) (l : List Ctx) (D : Option Addr) (cd : Nat) (L : List Ctx) (w : World) (ha : Reads w w.heap.size 1 A ids.length (cellsI ids)) (hm : ids.length ≤ maxLen) (hb : Reads w w.heap.size 3 B l.length (cellsC l)) (hm2 : l.length ≤ maxLen) (hd : Reads w w.heap.size 3 D L.length (cellsC L)) (hm4 : L.length ≤ maxLen) :
    Calls Try.prog 15 #[.slice A ids.length ca, .slice B l.length cb, .slice D L.length cd] w fun e w2 => e = .returned (.bool true) ∧ Below w.heap.size w w2 := by
  unfold maxLen at hm hm2 hm4
  by_cases hn : ids.length ≤ 1048576
  · have e0 : decide ((1048576 : Int) < (ids.length : Int)) = false := by simp; omega
    by_cases hn_rels : l.length ≤ 1048576
    · have e_rels : decide ((1048576 : Int) - (l.length : Int) < 0) = false := by simp; omega
      by_cases hn_finds : L.length ≤ 1048576 - l.length
      · have e_finds : decide ((1048576 : Int) - (l.length : Int) - (L.length : Int) < 0) = false := by simp; omega
        have q1 := eqLI_self ids
        have q2 := eqLC_self l
        have q3 := eqLC_self L
        have em : decide ((1 : Int) + (ids.length : Int) + 3 * (l.length : Int) + 3 * (L.length : Int) < 0) = false := by simp; omega
        obtain ⟨R0, hR0⟩ : ∃ R0, R0 = oldG ids l L := ⟨_, rfl⟩
        have hRl : R0.length ≤ 1048576 := by rw [hR0]; have := oldG_len ids l L; omega
        have q9 := eqLI_self R0
        have HG := Lib.hid hR0
        clear hR0
        have en : decide ((1 : Int) + (R0.length : Int) < 0) = false := by simp; omega
        go_enter Try.func15, Try.ntmps15
        go_wp2_with (first
          | (go_at_call 53; go_must (refine (szRel_any _ _ _ _ hn_rels).mono ?_); rintro e w2 ⟨rfl, rfl⟩)
          | (go_at_call 40; go_must (refine (szFindAt_any _ _ _ _ _ (by omega) (by omega)).mono ?_); rintro e w2 ⟨rfl, rfl⟩))
        refine (toIS_any _ _ ids _ ha (by omega)).mono ?_
        rintro e w2 ⟨g2, rfl, hb2, ho2⟩
        have k2 := hb2
        go_wp2_with fail
        refine (toSRel_any _ _ l _ (hb.step k2) (by omega)).mono ?_
        rintro e w3 ⟨g3, rfl, hb3, ho3⟩
        have k3 := below_step k2 hb3
        go_wp2_with fail
        refine (toSFind_any _ _ L _ (hd.step k3) (by omega)).mono ?_
        rintro e w4 ⟨g4, rfl, hb4, ho4⟩
        have k4 := below_step k3 hb4
        go_wp2_with fail
        refine (sFindsOld_any _ _ _ _ _ _ ids l L _ ((own_reads ho2).step (below_step hb3 hb4)) ((own_reads ho3).step hb4) (own_reads ho4) (by omega) (by omega) (by omega)).mono ?_
        rintro e w5 ⟨v5, rfl, hb5, ho5⟩
        rw [← HG.out] at ho5
        have k5 := below_step k4 hb5
        obtain ⟨A5, c5, rfl, _, hr5⟩ := own_slice ho5
        go_wp2_with fail
        refine (toIS_any _ _ ids _ (ha.step k5) (by omega)).mono ?_
        rintro e w6 ⟨g6, rfl, hb6, ho6⟩
        have k6 := below_step k5 hb6
        go_wp2_with fail
        refine (toSRel_any _ _ l _ (hb.step k6) (by omega)).mono ?_
        rintro e w7 ⟨g7, rfl, hb7, ho7⟩
        have k7 := below_step k6 hb7
        go_wp2_with fail
        refine (toSFind_any _ _ L _ (hd.step k7) (by omega)).mono ?_
        rintro e w8 ⟨g8, rfl, hb8, ho8⟩
        have k8 := below_step k7 hb8
        go_wp2_with fail
        refine (iFindsOld_any _ _ _ _ _ _ ids l L _ ((own_reads ho6).step (below_step hb7 hb8)) ((own_reads ho7).step hb8) (own_reads ho8) (by omega) (by omega) (by omega)).mono ?_
        rintro e w9 ⟨v9, rfl, hb9, ho9⟩
        rw [← HG.out] at ho9
        have k9 := below_step k8 hb9
        obtain ⟨A9, c9, rfl, _, hr9⟩ := own_slice ho9
        go_wp2_with fail
        refine (eqIS_any _ _ _ _ R0 R0 _ (own_reads ho9) ((own_reads ho5).step (below_step (below_step (below_step hb6 hb7) hb8) hb9)) (by omega)).mono ?_
        rintro e w10 ⟨rfl, hb10⟩
        have k10 := below_step k9 hb10
        go_wp2_with fail
        refine (toIS_any _ _ ids _ (ha.step k10) (by omega)).mono ?_
        rintro e w11 ⟨g11, rfl, hb11, ho11⟩
        have k11 := below_step k10 hb11
        go_wp2_with fail
        refine (eqIS_any _ _ _ _ ids ids _ ((own_reads ho6).step (below_step (below_step (below_step (below_step hb7 hb8) hb9) hb10) hb11)) (own_reads ho11) (by omega)).mono ?_
        rintro e w12 ⟨rfl, hb12⟩
        have k12 := below_step k11 hb12
        go_wp2_with fail
        refine (toSRel_any _ _ l _ (hb.step k12) (by omega)).mono ?_
        rintro e w13 ⟨g13, rfl, hb13, ho13⟩
        have k13 := below_step k12 hb13
        go_wp2_with fail
        refine (eqSRel_any _ _ _ _ l l _ ((own_reads ho7).step (below_step (below_step (below_step (below_step (below_step hb8 hb9) hb10) hb11) hb12) hb13)) (own_reads ho13) (by omega)).mono ?_
        rintro e w14 ⟨rfl, hb14⟩
        have k14 := below_step k13 hb14
        go_wp2_with fail
        refine (toSFind_any _ _ L _ (hd.step k14) (by omega)).mono ?_
        rintro e w15 ⟨g15, rfl, hb15, ho15⟩
        have k15 := below_step k14 hb15
        go_wp2_with fail
        refine (eqSFind_any _ _ _ _ L L _ ((own_reads ho8).step (below_step (below_step (below_step (below_step (below_step (below_step hb9 hb10) hb11) hb12) hb13) hb14) hb15)) (own_reads ho15) (by omega)).mono ?_
        rintro e w16 ⟨rfl, hb16⟩
        have k16 := below_step k15 hb16
        have o6x := own_below ho6 (below_step (below_step (below_step (below_step (below_step (below_step (below_step (below_step (below_step hb7 hb8) hb9) hb10) hb11) hb12) hb13) hb14) hb15) hb16)
        have o7x := own_below ho7 (below_step (below_step (below_step (below_step (below_step (below_step (below_step (below_step hb8 hb9) hb10) hb11) hb12) hb13) hb14) hb15) hb16)
        have o8x := own_below ho8 (below_step (below_step (below_step (below_step (below_step (below_step (below_step hb9 hb10) hb11) hb12) hb13) hb14) hb15) hb16)
        have o9x := own_below ho9 (below_step (below_step (below_step (below_step (below_step (below_step hb10 hb11) hb12) hb13) hb14) hb15) hb16)
        have o5x := own_below ho5 (below_step (below_step (below_step (below_step (below_step (below_step (below_step (below_step (below_step (below_step hb6 hb7) hb8) hb9) hb10) hb11) hb12) hb13) hb14) hb15) hb16)
        go_wp2_with fail
        refine (markI_any _ _ ids _ o6x (by omega)).mono ?_
        rintro e w17 ⟨rfl, hg17, _⟩
        have k17 := below_own o6x hg17 k16 (below_step (below_step (below_step hb2 hb3) hb4) hb5).size
        have o7y17 := own_other o7x o6x (own_far2 ho6 o7x (Nat.le_refl _)) hg17
        have o8y17 := own_other o8x o6x (own_far2 ho6 o8x hb7.size) hg17
        have o9y17 := own_other o9x o6x (own_far2 ho6 o9x (below_step hb7 hb8).size) hg17
        have o5y17 := own_other o5x o6x (own_far ho5 o6x (Nat.le_refl _)) hg17
        go_wp2_with fail
        refine (markRelAt_any _ _ l _ _ o7y17 (by omega) (by omega) (by omega)).mono ?_
        rintro e w18 ⟨rfl, hg18⟩
        have k18 := below_own o7y17 hg18 k17 (below_step (below_step (below_step (below_step hb2 hb3) hb4) hb5) hb6).size
        have o8y18 := own_other o8y17 o7y17 (own_far2 ho7 o8y17 (Nat.le_refl _)) hg18
        have o9y18 := own_other o9y17 o7y17 (own_far2 ho7 o9y17 hb8.size) hg18
        have o5y18 := own_other o5y17 o7y17 (own_far ho5 o7y17 hb6.size) hg18
        go_wp2_with fail
        refine (markFindAt_any _ _ L _ _ o8y18 (by omega) (by omega) (by omega)).mono ?_
        rintro e w19 ⟨rfl, hg19⟩
        have k19 := below_own o8y18 hg19 k18 (below_step (below_step (below_step (below_step (below_step hb2 hb3) hb4) hb5) hb6) hb7).size
        have o9y19 := own_other o9y18 o8y18 (own_far2 ho8 o9y18 (Nat.le_refl _)) hg19
        have o5y19 := own_other o5y18 o8y18 (own_far ho5 o8y18 (below_step hb6 hb7).size) hg19
        go_wp2_with fail
        refine (eqIS_any _ _ _ _ R0 R0 _ (own_reads o9y19) (own_reads o5y19) (by omega)).mono ?_
        rintro e w20 ⟨rfl, hb20⟩
        have k20 := below_step k19 hb20
        have r7 := own_below o9y19 hb20
        have r4 := own_below o5y19 hb20
        go_wp2_with fail
        refine (markI_any _ _ R0 _ r7 (by omega)).mono ?_
        rintro e w21 ⟨rfl, hg21, hoM⟩
        have k21 := below_own r7 hg21 k20 (below_step (below_step (below_step (below_step (below_step (below_step hb2 hb3) hb4) hb5) hb6) hb7) hb8).size
        have s4 := own_other r4 r7 (own_far ho5 r7 (below_step (below_step hb6 hb7) hb8).size) hg21
        go_wp2_with fail
        refine (heldI_any _ _ R0.length _ (own_reads hoM) (by omega)).mono ?_
        rintro e w22p ⟨rfl, rfl⟩
        go_wp2_with fail
        refine (toIS_any _ _ ids _ (ha.step k21) (by omega)).mono ?_
        rintro e w22 ⟨g22, rfl, hb22, ho22⟩
        have k22 := below_step k21 hb22
        go_wp2_with fail
        refine (toSRel_any _ _ l _ (hb.step k22) (by omega)).mono ?_
        rintro e w23 ⟨g23, rfl, hb23, ho23⟩
        have k23 := below_step k22 hb23
        go_wp2_with fail
        refine (toSFind_any _ _ L _ (hd.step k23) (by omega)).mono ?_
        rintro e w24 ⟨g24, rfl, hb24, ho24⟩
        have k24 := below_step k23 hb24
        go_wp2_with fail
        refine (iFindsOld_any _ _ _ _ _ _ ids l L _ ((own_reads ho22).step (below_step hb23 hb24)) ((own_reads ho23).step hb24) (own_reads ho24) (by omega) (by omega) (by omega)).mono ?_
        rintro e w25 ⟨v25, rfl, hb25, ho25⟩
        rw [← HG.out] at ho25
        have k25 := below_step k24 hb25
        obtain ⟨A25, c25, rfl, _, hr25⟩ := own_slice ho25
        go_wp2_with fail
        refine (eqIS_any _ _ _ _ R0 R0 _ hr25 ((own_reads s4).step (below_step (below_step (below_step hb22 hb23) hb24) hb25)) (by omega)).mono ?_
        rintro e w26 ⟨rfl, hb26⟩
        have k26 := below_step k25 hb26
        go_wp2_with fail
        refine (heldI_any _ _ R0.length _ ((own_reads hoM).step (below_step (below_step (below_step (below_step hb22 hb23) hb24) hb25) hb26)) (by omega)).mono ?_
        rintro e w27p ⟨rfl, rfl⟩
        go_wp2_with fail
        go_ret
        exact ⟨rfl, k26⟩
      · go_enter Try.func15, Try.ntmps15
        go_wp2_with (first
          | (go_at_call 53; go_must (refine (szRel_any _ _ _ _ hn_rels).mono ?_); rintro e w2 ⟨rfl, rfl⟩)
          | (go_at_call 40; go_must (refine (szFindAt_big _ _ _ _ _ (by omega) (by omega) (by omega) hm4).mono ?_); rintro e w2 ⟨rfl, rfl⟩))
        go_ret
        exact ⟨rfl, Below.refl _ _⟩
    · go_enter Try.func15, Try.ntmps15
      go_wp2_with (first
        | (go_at_call 53; go_must (refine (szRel_big _ _ _ _ (by omega) hm2).mono ?_); rintro e w2 ⟨rfl, rfl⟩))
      go_ret
      exact ⟨rfl, Below.refl _ _⟩
  · have e0 : decide ((1048576 : Int) < (ids.length : Int)) = true := by simp; omega
    go_enter Try.func15, Try.ntmps15
    go_wp2_with fail
    go_ret
    exact ⟨rfl, Below.refl _ _⟩

set_option linter.unusedVariables false
set_option maxRecDepth 100000 in
theorem lifted (os : Os) (started : os.Started) (H : Type) (enc : TypeId × Value → H) :
    ReturnsInHanded {} Try.checked os 15 .any (Rows.fnExactFindsOldSpec.pre6 enc Try.prog Try.f15 Rows.fnExactFindsOldRow.domain false) (Rows.fnExactFindsOldSpec.post enc Try.prog Try.f15 false true false false) := by
  refine returnsInHanded_of_change (C := Try.checked) lawOwn started (by kernel_rfl) Try.func15
    (ChangeSpec.witness6 (enc := enc) (C := Try.checked) false ⟨#[], #[.slice none 0 0, .slice none 0 0, .slice none 0 0], []⟩ 8 (by kernel_rfl) (by kernel_rfl) (by kernel_rfl) (by kernel_rfl)) ?_
  intro W base args ds gs before hval0 hW hcnd _
  have hval : ∀ (j : Nat) t v, Try.f15.params[j]? = some t → args[j]? = some v → Value.okWide Try.prog W .any base t v := hval0
  have hW' := hW
  obtain ⟨p, q, hA0, hV, rfl, hfz, hnd⟩ := hW
  have hA : DataW.TrodAll enc Try.prog W 0 (fun _ => true) true Try.f15.params.toList args.toList ds p := hA0
  rw [Try.params15] at hA hval
  obtain ⟨v0, vs0, d0, ds0, p0, q0, hargs, rfl, rfl, h0, r0⟩ := trodAll_cons hA
  obtain ⟨v1, vs1, d1, ds1, p1, q1, rfl, rfl, rfl, h1, r1⟩ := trodAll_cons r0
  obtain ⟨v2, vs2, d2, ds2, p2, q2, rfl, rfl, rfl, h2, r2⟩ := trodAll_cons r1
  obtain ⟨rfl, rfl, rfl⟩ := trodAll_nil r2
  obtain rfl : args = #[v0, v1, v2] := by cases args; simp_all
  obtain ⟨rfl, rfl⟩ := trodVars_none hV
  have k0 := h0
  have lt0 : ∀ x ∈ p0, x.block < W.heap.size := by obtain ⟨m, hm⟩ := k0; exact DataW.trod_lt m _ _ _ hm
  obtain ⟨a0, len0, cap0, rfl⟩ := okWide_slice Try.underlying29 (hval 0 29 v0 rfl rfl)
  obtain ⟨l0, hl0, hr0, hm0⟩ : ∃ l : List Int, len0 = l.length ∧ Reads W W.heap.size 1 a0 len0 (cellsI l) ∧ len0 ≤ maxLen := by
    obtain ⟨fuel, hf⟩ := h0
    exact open_ints Try.underlying29 Try.underlying3 (by kernel_rfl) (by simpa [Value.cells] using hf)
  subst hl0
  have k1 := h1
  have lt1 : ∀ x ∈ p1, x.block < W.heap.size := by obtain ⟨m, hm⟩ := k1; exact DataW.trod_lt m _ _ _ hm
  obtain ⟨a1, len1, cap1, rfl⟩ := okWide_slice Try.underlying73 (hval 1 73 v1 rfl rfl)
  obtain ⟨l1, hl1, hr1, hm1⟩ : ∃ l : List Ctx, len1 = l.length ∧ Reads W W.heap.size 3 a1 len1 (cellsC l) ∧ len1 ≤ maxLen := by
    obtain ⟨fuel, hf⟩ := h1
    exact open_ctxs Try.underlying73 Try.underlying146 (by kernel_rfl) (by kernel_rfl) rfl rfl rfl Try.underlying3 (by simpa [Value.cells] using hf)
  subst hl1
  have k2 := h2
  have lt2 : ∀ x ∈ p2, x.block < W.heap.size := by obtain ⟨m, hm⟩ := k2; exact DataW.trod_lt m _ _ _ hm
  obtain ⟨a2, len2, cap2, rfl⟩ := okWide_slice Try.underlying62 (hval 2 62 v2 rfl rfl)
  obtain ⟨l2, hl2, hr2, hm2⟩ : ∃ l : List Ctx, len2 = l.length ∧ Reads W W.heap.size 3 a2 len2 (cellsC l) ∧ len2 ≤ maxLen := by
    obtain ⟨fuel, hf⟩ := h2
    exact open_ctxs Try.underlying62 Try.underlying140 (by kernel_rfl) (by kernel_rfl) rfl rfl rfl Try.underlying3 (by simpa [Value.cells] using hf)
  subst hl2
  clear hA0 hval0
  refine (walk a0 cap0 l0 a1 cap1 l1 a2 cap2 l2 W hr0 hm0 hr1 hm1 hr2 hm2).mono fun e W' ⟨he, bel⟩ => ?_
  subst he
  exact ⟨_, rfl, _, _, _, [], _, [], hW', trodAll_mk1 (shut_bool Try.underlying4 _), (trodAll_cons_mk (Below.trod lawLaid (by kernel_rfl) (of_decide_eq_true (by kernel_rfl)) k0 bel lt0) (trodAll_cons_mk (Below.trod lawLaid (by kernel_rfl) (of_decide_eq_true (by kernel_rfl)) k1 bel lt1) (trodAll_cons_mk (Below.trod lawLaid (by kernel_rfl) (of_decide_eq_true (by kernel_rfl)) k2 bel lt2) trodAll_mk0))), rfl, bel.frame _, fun h => by cases h⟩

theorem closed : joinedFacts Try.checked.prog 15 Try.f15 Rows.fnExactFindsOldSpec Rows.fnExactFindsOldRow = true := by
  unfold joinedFacts
  repeat (refine and_t ?_ (by first | (with_reducible exact ent) | (with_reducible refine lif_c ?_; kernel_rfl) | (with_reducible refine mak_c ?_; kernel_rfl) | kernel_rfl))
  kernel_rfl
theorem proved : Rows.FnExactFindsOldSaid :=
  OpenClaim.holds_of_wide 15 Try.f15 rfl rfl rfl rfl rfl rfl rfl ⟨rfl, rfl, rfl, rfl, rfl⟩ rfl rfl rfl rfl rfl (by kernel_rfl) Try.func15 closed
    (of_decide_eq_true (by kernel_rfl)) (by unfold Func.isWrapper; rw [if_neg (of_decide_eq_false (by kernel_rfl))]; exact ⟨rfl, rfl⟩)
    (fun os started H enc _ => lifted os started H enc)
#print axioms proved
end Go.Proofs.Ytopdmcnbchpihaa.exFindsOld
