/-
  For every list of numbers, of relations, of bounds and of finds that it takes, the late finds are answered as the model's, in memory of its own, and the program leaves its arguments as they were. No condition.
-/
import Derived.Test.YtopdmcnbchpihaaEnt
import Derived.Test.YtopdmcnbchpihaaLif
import Derived.Test.YtopdmcnbchpihaaMak
import Derived.Test.YtopdmcnbchpihaaOpen
import Derived.Test.YtopdmcnbchpihaaInts
import Derived.Test.YtopdmcnbchpihaaMk
import Derived.Test.YtopdmcnbchpihaaMkB
import Derived.Test.YtopdmcnbchpihaaMkF
import Derived.Test.YtopdmcnbchpihaaFnc
import Derived.Test.YtopdmcnbchpihaaIfl
namespace Go.Proofs.Ytopdmcnbchpihaa.exFindsLate
open Go.ChangeShapes Go.WideShapes Go.ChangeAt Go.RowKit

set_option maxHeartbeats 8000000 in
set_option maxRecDepth 100000 in
theorem walk (A : Option Addr) (ca : Nat) (ids : List Int) (B : Option Addr) (cb : Nat) (l : List Ctx) (C : Option Addr) (cc : Nat) (bs : List Ctx) (D : Option Addr) (cd : Nat) (L : List Ctx) (w : World) (ha : Reads w w.heap.size 1 A ids.length (cellsI ids)) (hm : ids.length ≤ maxLen) (hb : Reads w w.heap.size 3 B l.length (cellsC l)) (hm2 : l.length ≤ maxLen) (hc : Reads w w.heap.size 3 C bs.length (cellsC bs)) (hm3 : bs.length ≤ maxLen) (hd : Reads w w.heap.size 3 D L.length (cellsC L)) (hm4 : L.length ≤ maxLen) :
    Calls Try.prog 14 #[.slice A ids.length ca, .slice B l.length cb, .slice C bs.length cc, .slice D L.length cd] w fun e w2 => e = .returned (.bool true) ∧ Below w.heap.size w w2 := by
  unfold maxLen at hm hm2 hm3 hm4
  by_cases hn : ids.length ≤ 1048576
  · have e0 : decide ((1048576 : Int) < (ids.length : Int)) = false := by simp; omega
    by_cases hn_rels : l.length ≤ 1048576
    · have e_rels : decide ((1048576 : Int) - (l.length : Int) < 0) = false := by simp; omega
      by_cases hn_bnds : bs.length ≤ 1048576 - l.length
      · have e_bnds : decide ((1048576 : Int) - (l.length : Int) - (bs.length : Int) < 0) = false := by simp; omega
        by_cases hn_finds : L.length ≤ 1048576 - l.length - bs.length
        · have e_finds : decide ((1048576 : Int) - (l.length : Int) - (bs.length : Int) - (L.length : Int) < 0) = false := by simp; omega
          have q1 := eqLI_self ids
          have q2 := eqLC_self l
          have q3 := eqLC_self bs
          have q4 := eqLC_self L
          have em : decide ((1 : Int) + (ids.length : Int) + 3 * (l.length : Int) + 3 * (bs.length : Int) + 3 * (L.length : Int) < 0) = false := by simp; omega
          obtain ⟨R0, hR0⟩ : ∃ R0, R0 = lateG ids l bs L := ⟨_, rfl⟩
          have hRl : R0.length ≤ 1048576 := by rw [hR0]; have := lateG_len ids l bs L; omega
          have q9 := eqLI_self R0
          have HG := Lib.hid hR0
          clear hR0
          have en : decide ((1 : Int) + (R0.length : Int) < 0) = false := by simp; omega
          go_enter Try.func14, Try.ntmps14
          go_wp2_with (first
            | (go_at_call 53; go_must (refine (szRel_any _ _ _ _ hn_rels).mono ?_); rintro e w2 ⟨rfl, rfl⟩)
            | (go_at_call 54; go_must (refine (szBoundAt_any _ _ _ _ _ (by omega) (by omega)).mono ?_); rintro e w2 ⟨rfl, rfl⟩)
            | (go_at_call 40; go_must (refine (szFindAt_any _ _ _ _ _ (by omega) (by omega)).mono ?_); rintro e w2 ⟨rfl, rfl⟩))
          refine (toIS_any _ _ ids _ ha (by omega)).mono ?_
          rintro e w2 ⟨g2, rfl, hb2, ho2⟩
          have k2 := hb2
          go_wp2_with fail
          refine (toSRel_any _ _ l _ (hb.step k2) (by omega)).mono ?_
          rintro e w3 ⟨g3, rfl, hb3, ho3⟩
          have k3 := below_step k2 hb3
          go_wp2_with fail
          refine (toSBound_any _ _ bs _ (hc.step k3) (by omega)).mono ?_
          rintro e w4 ⟨g4, rfl, hb4, ho4⟩
          have k4 := below_step k3 hb4
          go_wp2_with fail
          refine (toSFind_any _ _ L _ (hd.step k4) (by omega)).mono ?_
          rintro e w5 ⟨g5, rfl, hb5, ho5⟩
          have k5 := below_step k4 hb5
          go_wp2_with fail
          refine (sFindsLate_any _ _ _ _ _ _ _ _ ids l bs L _ ((own_reads ho2).step (below_step (below_step hb3 hb4) hb5)) ((own_reads ho3).step (below_step hb4 hb5)) ((own_reads ho4).step hb5) (own_reads ho5) (by omega) (by omega) (by omega) (by omega)).mono ?_
          rintro e w6 ⟨v6, rfl, hb6, ho6⟩
          rw [← HG.out] at ho6
          have k6 := below_step k5 hb6
          obtain ⟨A6, c6, rfl, _, hr6⟩ := own_slice ho6
          go_wp2_with fail
          refine (toIS_any _ _ ids _ (ha.step k6) (by omega)).mono ?_
          rintro e w7 ⟨g7, rfl, hb7, ho7⟩
          have k7 := below_step k6 hb7
          go_wp2_with fail
          refine (toSRel_any _ _ l _ (hb.step k7) (by omega)).mono ?_
          rintro e w8 ⟨g8, rfl, hb8, ho8⟩
          have k8 := below_step k7 hb8
          go_wp2_with fail
          refine (toSBound_any _ _ bs _ (hc.step k8) (by omega)).mono ?_
          rintro e w9 ⟨g9, rfl, hb9, ho9⟩
          have k9 := below_step k8 hb9
          go_wp2_with fail
          refine (toSFind_any _ _ L _ (hd.step k9) (by omega)).mono ?_
          rintro e w10 ⟨g10, rfl, hb10, ho10⟩
          have k10 := below_step k9 hb10
          go_wp2_with fail
          refine (iFindsLate_any _ _ _ _ _ _ _ _ ids l bs L _ ((own_reads ho7).step (below_step (below_step hb8 hb9) hb10)) ((own_reads ho8).step (below_step hb9 hb10)) ((own_reads ho9).step hb10) (own_reads ho10) (by omega) (by omega) (by omega) (by omega)).mono ?_
          rintro e w11 ⟨v11, rfl, hb11, ho11⟩
          rw [← HG.out] at ho11
          have k11 := below_step k10 hb11
          obtain ⟨A11, c11, rfl, _, hr11⟩ := own_slice ho11
          go_wp2_with fail
          refine (eqIS_any _ _ _ _ R0 R0 _ (own_reads ho11) ((own_reads ho6).step (below_step (below_step (below_step (below_step hb7 hb8) hb9) hb10) hb11)) (by omega)).mono ?_
          rintro e w12 ⟨rfl, hb12⟩
          have k12 := below_step k11 hb12
          go_wp2_with fail
          refine (toIS_any _ _ ids _ (ha.step k12) (by omega)).mono ?_
          rintro e w13 ⟨g13, rfl, hb13, ho13⟩
          have k13 := below_step k12 hb13
          go_wp2_with fail
          refine (eqIS_any _ _ _ _ ids ids _ ((own_reads ho7).step (below_step (below_step (below_step (below_step (below_step hb8 hb9) hb10) hb11) hb12) hb13)) (own_reads ho13) (by omega)).mono ?_
          rintro e w14 ⟨rfl, hb14⟩
          have k14 := below_step k13 hb14
          go_wp2_with fail
          refine (toSRel_any _ _ l _ (hb.step k14) (by omega)).mono ?_
          rintro e w15 ⟨g15, rfl, hb15, ho15⟩
          have k15 := below_step k14 hb15
          go_wp2_with fail
          refine (eqSRel_any _ _ _ _ l l _ ((own_reads ho8).step (below_step (below_step (below_step (below_step (below_step (below_step hb9 hb10) hb11) hb12) hb13) hb14) hb15)) (own_reads ho15) (by omega)).mono ?_
          rintro e w16 ⟨rfl, hb16⟩
          have k16 := below_step k15 hb16
          go_wp2_with fail
          refine (toSBound_any _ _ bs _ (hc.step k16) (by omega)).mono ?_
          rintro e w17 ⟨g17, rfl, hb17, ho17⟩
          have k17 := below_step k16 hb17
          go_wp2_with fail
          refine (eqSBound_any _ _ _ _ bs bs _ ((own_reads ho9).step (below_step (below_step (below_step (below_step (below_step (below_step (below_step hb10 hb11) hb12) hb13) hb14) hb15) hb16) hb17)) (own_reads ho17) (by omega)).mono ?_
          rintro e w18 ⟨rfl, hb18⟩
          have k18 := below_step k17 hb18
          go_wp2_with fail
          refine (toSFind_any _ _ L _ (hd.step k18) (by omega)).mono ?_
          rintro e w19 ⟨g19, rfl, hb19, ho19⟩
          have k19 := below_step k18 hb19
          go_wp2_with fail
          refine (eqSFind_any _ _ _ _ L L _ ((own_reads ho10).step (below_step (below_step (below_step (below_step (below_step (below_step (below_step (below_step hb11 hb12) hb13) hb14) hb15) hb16) hb17) hb18) hb19)) (own_reads ho19) (by omega)).mono ?_
          rintro e w20 ⟨rfl, hb20⟩
          have k20 := below_step k19 hb20
          have o7x := own_below ho7 (below_step (below_step (below_step (below_step (below_step (below_step (below_step (below_step (below_step (below_step (below_step (below_step hb8 hb9) hb10) hb11) hb12) hb13) hb14) hb15) hb16) hb17) hb18) hb19) hb20)
          have o8x := own_below ho8 (below_step (below_step (below_step (below_step (below_step (below_step (below_step (below_step (below_step (below_step (below_step hb9 hb10) hb11) hb12) hb13) hb14) hb15) hb16) hb17) hb18) hb19) hb20)
          have o9x := own_below ho9 (below_step (below_step (below_step (below_step (below_step (below_step (below_step (below_step (below_step (below_step hb10 hb11) hb12) hb13) hb14) hb15) hb16) hb17) hb18) hb19) hb20)
          have o10x := own_below ho10 (below_step (below_step (below_step (below_step (below_step (below_step (below_step (below_step (below_step hb11 hb12) hb13) hb14) hb15) hb16) hb17) hb18) hb19) hb20)
          have o11x := own_below ho11 (below_step (below_step (below_step (below_step (below_step (below_step (below_step (below_step hb12 hb13) hb14) hb15) hb16) hb17) hb18) hb19) hb20)
          have o6x := own_below ho6 (below_step (below_step (below_step (below_step (below_step (below_step (below_step (below_step (below_step (below_step (below_step (below_step (below_step hb7 hb8) hb9) hb10) hb11) hb12) hb13) hb14) hb15) hb16) hb17) hb18) hb19) hb20)
          go_wp2_with fail
          refine (markI_any _ _ ids _ o7x (by omega)).mono ?_
          rintro e w21 ⟨rfl, hg21, _⟩
          have k21 := below_own o7x hg21 k20 (below_step (below_step (below_step (below_step hb2 hb3) hb4) hb5) hb6).size
          have o8y21 := own_other o8x o7x (own_far2 ho7 o8x (Nat.le_refl _)) hg21
          have o9y21 := own_other o9x o7x (own_far2 ho7 o9x hb8.size) hg21
          have o10y21 := own_other o10x o7x (own_far2 ho7 o10x (below_step hb8 hb9).size) hg21
          have o11y21 := own_other o11x o7x (own_far2 ho7 o11x (below_step (below_step hb8 hb9) hb10).size) hg21
          have o6y21 := own_other o6x o7x (own_far ho6 o7x (Nat.le_refl _)) hg21
          go_wp2_with fail
          refine (markRelAt_any _ _ l _ _ o8y21 (by omega) (by omega) (by omega)).mono ?_
          rintro e w22 ⟨rfl, hg22⟩
          have k22 := below_own o8y21 hg22 k21 (below_step (below_step (below_step (below_step (below_step hb2 hb3) hb4) hb5) hb6) hb7).size
          have o9y22 := own_other o9y21 o8y21 (own_far2 ho8 o9y21 (Nat.le_refl _)) hg22
          have o10y22 := own_other o10y21 o8y21 (own_far2 ho8 o10y21 hb9.size) hg22
          have o11y22 := own_other o11y21 o8y21 (own_far2 ho8 o11y21 (below_step hb9 hb10).size) hg22
          have o6y22 := own_other o6y21 o8y21 (own_far ho6 o8y21 hb7.size) hg22
          go_wp2_with fail
          refine (markBoundAt_any _ _ bs _ _ o9y22 (by omega) (by omega) (by omega)).mono ?_
          rintro e w23 ⟨rfl, hg23⟩
          have k23 := below_own o9y22 hg23 k22 (below_step (below_step (below_step (below_step (below_step (below_step hb2 hb3) hb4) hb5) hb6) hb7) hb8).size
          have o10y23 := own_other o10y22 o9y22 (own_far2 ho9 o10y22 (Nat.le_refl _)) hg23
          have o11y23 := own_other o11y22 o9y22 (own_far2 ho9 o11y22 hb10.size) hg23
          have o6y23 := own_other o6y22 o9y22 (own_far ho6 o9y22 (below_step hb7 hb8).size) hg23
          go_wp2_with fail
          refine (markFindAt_any _ _ L _ _ o10y23 (by omega) (by omega) (by omega)).mono ?_
          rintro e w24 ⟨rfl, hg24⟩
          have k24 := below_own o10y23 hg24 k23 (below_step (below_step (below_step (below_step (below_step (below_step (below_step hb2 hb3) hb4) hb5) hb6) hb7) hb8) hb9).size
          have o11y24 := own_other o11y23 o10y23 (own_far2 ho10 o11y23 (Nat.le_refl _)) hg24
          have o6y24 := own_other o6y23 o10y23 (own_far ho6 o10y23 (below_step (below_step hb7 hb8) hb9).size) hg24
          go_wp2_with fail
          refine (eqIS_any _ _ _ _ R0 R0 _ (own_reads o11y24) (own_reads o6y24) (by omega)).mono ?_
          rintro e w25 ⟨rfl, hb25⟩
          have k25 := below_step k24 hb25
          have r7 := own_below o11y24 hb25
          have r4 := own_below o6y24 hb25
          go_wp2_with fail
          refine (markI_any _ _ R0 _ r7 (by omega)).mono ?_
          rintro e w26 ⟨rfl, hg26, hoM⟩
          have k26 := below_own r7 hg26 k25 (below_step (below_step (below_step (below_step (below_step (below_step (below_step (below_step hb2 hb3) hb4) hb5) hb6) hb7) hb8) hb9) hb10).size
          have s4 := own_other r4 r7 (own_far ho6 r7 (below_step (below_step (below_step hb7 hb8) hb9) hb10).size) hg26
          go_wp2_with fail
          refine (heldI_any _ _ R0.length _ (own_reads hoM) (by omega)).mono ?_
          rintro e w27p ⟨rfl, rfl⟩
          go_wp2_with fail
          refine (toIS_any _ _ ids _ (ha.step k26) (by omega)).mono ?_
          rintro e w27 ⟨g27, rfl, hb27, ho27⟩
          have k27 := below_step k26 hb27
          go_wp2_with fail
          refine (toSRel_any _ _ l _ (hb.step k27) (by omega)).mono ?_
          rintro e w28 ⟨g28, rfl, hb28, ho28⟩
          have k28 := below_step k27 hb28
          go_wp2_with fail
          refine (toSBound_any _ _ bs _ (hc.step k28) (by omega)).mono ?_
          rintro e w29 ⟨g29, rfl, hb29, ho29⟩
          have k29 := below_step k28 hb29
          go_wp2_with fail
          refine (toSFind_any _ _ L _ (hd.step k29) (by omega)).mono ?_
          rintro e w30 ⟨g30, rfl, hb30, ho30⟩
          have k30 := below_step k29 hb30
          go_wp2_with fail
          refine (iFindsLate_any _ _ _ _ _ _ _ _ ids l bs L _ ((own_reads ho27).step (below_step (below_step hb28 hb29) hb30)) ((own_reads ho28).step (below_step hb29 hb30)) ((own_reads ho29).step hb30) (own_reads ho30) (by omega) (by omega) (by omega) (by omega)).mono ?_
          rintro e w31 ⟨v31, rfl, hb31, ho31⟩
          rw [← HG.out] at ho31
          have k31 := below_step k30 hb31
          obtain ⟨A31, c31, rfl, _, hr31⟩ := own_slice ho31
          go_wp2_with fail
          refine (eqIS_any _ _ _ _ R0 R0 _ hr31 ((own_reads s4).step (below_step (below_step (below_step (below_step hb27 hb28) hb29) hb30) hb31)) (by omega)).mono ?_
          rintro e w32 ⟨rfl, hb32⟩
          have k32 := below_step k31 hb32
          go_wp2_with fail
          refine (heldI_any _ _ R0.length _ ((own_reads hoM).step (below_step (below_step (below_step (below_step (below_step hb27 hb28) hb29) hb30) hb31) hb32)) (by omega)).mono ?_
          rintro e w33p ⟨rfl, rfl⟩
          go_wp2_with fail
          go_ret
          exact ⟨rfl, k32⟩
        · go_enter Try.func14, Try.ntmps14
          go_wp2_with (first
            | (go_at_call 53; go_must (refine (szRel_any _ _ _ _ hn_rels).mono ?_); rintro e w2 ⟨rfl, rfl⟩)
            | (go_at_call 54; go_must (refine (szBoundAt_any _ _ _ _ _ (by omega) (by omega)).mono ?_); rintro e w2 ⟨rfl, rfl⟩)
            | (go_at_call 40; go_must (refine (szFindAt_big _ _ _ _ _ (by omega) (by omega) (by omega) hm4).mono ?_); rintro e w2 ⟨rfl, rfl⟩))
          go_ret
          exact ⟨rfl, Below.refl _ _⟩
      · go_enter Try.func14, Try.ntmps14
        go_wp2_with (first
          | (go_at_call 53; go_must (refine (szRel_any _ _ _ _ hn_rels).mono ?_); rintro e w2 ⟨rfl, rfl⟩)
          | (go_at_call 54; go_must (refine (szBoundAt_big _ _ _ _ _ (by omega) (by omega) (by omega) hm3).mono ?_); rintro e w2 ⟨rfl, rfl⟩))
        go_ret
        exact ⟨rfl, Below.refl _ _⟩
    · go_enter Try.func14, Try.ntmps14
      go_wp2_with (first
        | (go_at_call 53; go_must (refine (szRel_big _ _ _ _ (by omega) hm2).mono ?_); rintro e w2 ⟨rfl, rfl⟩))
      go_ret
      exact ⟨rfl, Below.refl _ _⟩
  · have e0 : decide ((1048576 : Int) < (ids.length : Int)) = true := by simp; omega
    go_enter Try.func14, Try.ntmps14
    go_wp2_with fail
    go_ret
    exact ⟨rfl, Below.refl _ _⟩

set_option linter.unusedVariables false
set_option maxRecDepth 100000 in
theorem lifted (os : Os) (started : os.Started) (H : Type) (enc : TypeId × Value → H) :
    ReturnsInHanded {} Try.checked os 14 .any (Rows.fnExactFindsLateSpec.pre6 enc Try.prog Try.f14 Rows.fnExactFindsLateRow.domain false) (Rows.fnExactFindsLateSpec.post enc Try.prog Try.f14 false true false false) := by
  refine returnsInHanded_of_change (C := Try.checked) lawOwn started (by kernel_rfl) Try.func14
    (ChangeSpec.witness6 (enc := enc) (C := Try.checked) false ⟨#[], #[.slice none 0 0, .slice none 0 0, .slice none 0 0, .slice none 0 0], []⟩ 8 (by kernel_rfl) (by kernel_rfl) (by kernel_rfl) (by kernel_rfl)) ?_
  intro W base args ds gs before hval0 hW hcnd _
  have hval : ∀ (j : Nat) t v, Try.f14.params[j]? = some t → args[j]? = some v → Value.okWide Try.prog W .any base t v := hval0
  have hW' := hW
  obtain ⟨p, q, hA0, hV, rfl, hfz, hnd⟩ := hW
  have hA : DataW.TrodAll enc Try.prog W 0 (fun _ => true) true Try.f14.params.toList args.toList ds p := hA0
  rw [Try.params14] at hA hval
  obtain ⟨v0, vs0, d0, ds0, p0, q0, hargs, rfl, rfl, h0, r0⟩ := trodAll_cons hA
  obtain ⟨v1, vs1, d1, ds1, p1, q1, rfl, rfl, rfl, h1, r1⟩ := trodAll_cons r0
  obtain ⟨v2, vs2, d2, ds2, p2, q2, rfl, rfl, rfl, h2, r2⟩ := trodAll_cons r1
  obtain ⟨v3, vs3, d3, ds3, p3, q3, rfl, rfl, rfl, h3, r3⟩ := trodAll_cons r2
  obtain ⟨rfl, rfl, rfl⟩ := trodAll_nil r3
  obtain rfl : args = #[v0, v1, v2, v3] := by cases args; simp_all
  obtain ⟨rfl, rfl⟩ := trodVars_none hV
  have k0 := h0
  have lt0 : ∀ x ∈ p0, x.block < W.heap.size := by obtain ⟨m, hm⟩ := k0; exact DataW.trod_lt m _ _ _ hm
  obtain ⟨a0, len0, cap0, rfl⟩ := okWide_slice Try.underlying29 (hval 0 29 v0 rfl rfl)
  obtain ⟨l0, hl0, hr0, hm0⟩ : ∃ l : List Int, len0 = l.length ∧ Reads W W.heap.size 1 a0 len0 (cellsI l) ∧ len0 ≤ maxLen := by
    obtain ⟨fuel, hf⟩ := h0
    exact open_ints Try.underlying29 Try.underlying3 (by kernel_rfl) (by simpa [Value.cells] using hf)
  subst hl0
  have k1 := h1
  have lt1 : ∀ x ∈ p1, x.block < W.heap.size := by obtain ⟨m, hm⟩ := k1; exact DataW.trod_lt m _ _ _ hm
  obtain ⟨a1, len1, cap1, rfl⟩ := okWide_slice Try.underlying73 (hval 1 73 v1 rfl rfl)
  obtain ⟨l1, hl1, hr1, hm1⟩ : ∃ l : List Ctx, len1 = l.length ∧ Reads W W.heap.size 3 a1 len1 (cellsC l) ∧ len1 ≤ maxLen := by
    obtain ⟨fuel, hf⟩ := h1
    exact open_ctxs Try.underlying73 Try.underlying146 (by kernel_rfl) (by kernel_rfl) rfl rfl rfl Try.underlying3 (by simpa [Value.cells] using hf)
  subst hl1
  have k2 := h2
  have lt2 : ∀ x ∈ p2, x.block < W.heap.size := by obtain ⟨m, hm⟩ := k2; exact DataW.trod_lt m _ _ _ hm
  obtain ⟨a2, len2, cap2, rfl⟩ := okWide_slice Try.underlying74 (hval 2 74 v2 rfl rfl)
  obtain ⟨l2, hl2, hr2, hm2⟩ : ∃ l : List Ctx, len2 = l.length ∧ Reads W W.heap.size 3 a2 len2 (cellsC l) ∧ len2 ≤ maxLen := by
    obtain ⟨fuel, hf⟩ := h2
    exact open_ctxs Try.underlying74 Try.underlying148 (by kernel_rfl) (by kernel_rfl) rfl rfl rfl Try.underlying3 (by simpa [Value.cells] using hf)
  subst hl2
  have k3 := h3
  have lt3 : ∀ x ∈ p3, x.block < W.heap.size := by obtain ⟨m, hm⟩ := k3; exact DataW.trod_lt m _ _ _ hm
  obtain ⟨a3, len3, cap3, rfl⟩ := okWide_slice Try.underlying62 (hval 3 62 v3 rfl rfl)
  obtain ⟨l3, hl3, hr3, hm3⟩ : ∃ l : List Ctx, len3 = l.length ∧ Reads W W.heap.size 3 a3 len3 (cellsC l) ∧ len3 ≤ maxLen := by
    obtain ⟨fuel, hf⟩ := h3
    exact open_ctxs Try.underlying62 Try.underlying140 (by kernel_rfl) (by kernel_rfl) rfl rfl rfl Try.underlying3 (by simpa [Value.cells] using hf)
  subst hl3
  clear hA0 hval0
  refine (walk a0 cap0 l0 a1 cap1 l1 a2 cap2 l2 a3 cap3 l3 W hr0 hm0 hr1 hm1 hr2 hm2 hr3 hm3).mono fun e W' ⟨he, bel⟩ => ?_
  subst he
  exact ⟨_, rfl, _, _, _, [], _, [], hW', trodAll_mk1 (shut_bool Try.underlying4 _), (trodAll_cons_mk (Below.trod lawLaid (by kernel_rfl) (of_decide_eq_true (by kernel_rfl)) k0 bel lt0) (trodAll_cons_mk (Below.trod lawLaid (by kernel_rfl) (of_decide_eq_true (by kernel_rfl)) k1 bel lt1) (trodAll_cons_mk (Below.trod lawLaid (by kernel_rfl) (of_decide_eq_true (by kernel_rfl)) k2 bel lt2) (trodAll_cons_mk (Below.trod lawLaid (by kernel_rfl) (of_decide_eq_true (by kernel_rfl)) k3 bel lt3) trodAll_mk0)))), rfl, bel.frame _, fun h => by cases h⟩

theorem closed : joinedFacts Try.checked.prog 14 Try.f14 Rows.fnExactFindsLateSpec Rows.fnExactFindsLateRow = true := by
  unfold joinedFacts
  repeat (refine and_t ?_ (by first | (with_reducible exact ent) | (with_reducible refine lif_c ?_; kernel_rfl) | (with_reducible refine mak_c ?_; kernel_rfl) | kernel_rfl))
  kernel_rfl
theorem proved : Rows.FnExactFindsLateSaid :=
  OpenClaim.holds_of_wide 14 Try.f14 rfl rfl rfl rfl rfl rfl rfl ⟨rfl, rfl, rfl, rfl, rfl⟩ rfl rfl rfl rfl rfl (by kernel_rfl) Try.func14 closed
    (of_decide_eq_true (by kernel_rfl)) (by unfold Func.isWrapper; rw [if_neg (of_decide_eq_false (by kernel_rfl))]; exact ⟨rfl, rfl⟩)
    (fun os started H enc _ => lifted os started H enc)
#print axioms proved
end Go.Proofs.Ytopdmcnbchpihaa.exFindsLate
