/-
  For every list of contexts and every area, the program lists the numbers that the model lists, in memory of its own, and leaves its argument as it was. No condition.
-/
import Derived.Test.YtfcjhpgohcbcaaaOpen
namespace Go.Proofs.Ytfcjhpgohcbcaaa.exArea
open Go.ChangeShapes Go.WideShapes Go.ChangeAt Go.RowKit

set_option maxHeartbeats 2000000 in
theorem walk (A : Option Addr) (cap : Nat) (l : List Ctx) (x : Int) (w : World) (hr : Reads w w.heap.size 3 A l.length (cellsC l)) (hm : l.length ≤ maxLen) :
    Calls Try.prog 13 #[.slice A l.length cap, .int .i64 x] w fun e w2 => e = .returned (.bool true) ∧ Below w.heap.size w w2 := by
  unfold maxLen at hm
  by_cases hn : l.length ≤ 1048576
  · have e0 : decide ((1048576 : Int) - (l.length : Int) < 0) = false := by simp; omega
    have hq := eqLC_self l
    have hq2 := eqLI_self (areaL l x)
    have hal := areaL_len l x
    have em : decide ((1 : Int) + 3 * (l.length : Int) < 0) = false := by simp; omega
    have en : decide ((1 : Int) + ((areaL l x).length : Int) < 0) = false := by simp; omega
    go_enter Try.func13, Try.ntmps13
    go_wp2_with (first
      | (go_at_call 29; go_must (refine (sz_any _ _ _ _ hn).mono ?_); rintro e w2 ⟨rfl, rfl⟩))
    refine (toCS_any _ _ l _ hr (by omega)).mono ?_
    rintro e w2 ⟨g2, rfl, hb2, ho2⟩
    go_wp2_with fail
    refine (sArea_any _ _ l _ _ (own_reads ho2) (by omega)).mono ?_
    rintro e w3 ⟨v3, rfl, hb3, ho3⟩
    have k3 := below_step hb2 hb3
    go_wp2_with fail
    refine (toCS_any _ _ l _ (hr.step k3) (by omega)).mono ?_
    rintro e w4 ⟨g4, rfl, hb4, ho4⟩
    have k4 := below_step k3 hb4
    go_wp2_with fail
    refine (iArea_any _ _ l _ _ (own_reads ho4) (by omega)).mono ?_
    rintro e w5 ⟨v5, rfl, hb5, ho5⟩
    have k5 := below_step k4 hb5
    obtain ⟨A3, c3, hv3, _, hr3⟩ := own_slice ho3
    obtain ⟨A5, c5, hv5, _, hr5⟩ := own_slice ho5
    subst hv3 hv5
    go_wp2_with fail
    refine (eqIS_any _ _ _ _ (areaL l x) (areaL l x) _ hr5 (hr3.step (below_step hb4 hb5)) (by omega)).mono ?_
    rintro e w6 ⟨rfl, hb6⟩
    have k6 := below_step k5 hb6
    go_wp2_with fail
    refine (toCS_any _ _ l _ (hr.step k6) (by omega)).mono ?_
    rintro e w7 ⟨g7, rfl, hb7, ho7⟩
    have k7 := below_step k6 hb7
    go_wp2_with fail
    refine (eqS_any _ _ _ _ l l _ ((own_reads ho4).step (below_step (below_step hb5 hb6) hb7)) (own_reads ho7) (by omega)).mono ?_
    rintro e w8 ⟨rfl, hb8⟩
    have k8 := below_step k7 hb8
    go_wp2_with fail
    have b48 := below_step (below_step (below_step hb5 hb6) hb7) hb8
    have o4 := own_below ho4 b48
    have b58 := below_step (below_step hb6 hb7) hb8
    have o5 := own_below ho5 b58
    have o3 := own_below ho3 (below_step (below_step hb4 hb5) b58)
    refine (mark_any _ _ l _ o4 (by omega)).mono ?_
    rintro e w9 ⟨rfl, hg9, ho9⟩
    have k9 := below_own o4 hg9 k8 k3.size
    have p3 := own_other o3 o4 (own_far ho3 o4 (Nat.le_refl _)) hg9
    have p5 := own_other o5 o4 (own_far2 ho4 o5 (Nat.le_refl _)) hg9
    go_wp2_with fail
    refine (eqIS_any _ _ _ _ (areaL l x) (areaL l x) _ (own_reads p5) (own_reads p3) (by omega)).mono ?_
    rintro e w10 ⟨rfl, hb10⟩
    have k10 := below_step k9 hb10
    go_wp2_with fail
    have q5 := own_below p5 hb10
    have q3 := own_below p3 hb10
    refine (markI_any _ _ (areaL l x) _ q5 (by omega)).mono ?_
    rintro e w11 ⟨rfl, hg11, ho11⟩
    have k11 := below_own q5 hg11 k10 k4.size
    have r3 := own_other q3 q5 (own_far ho3 q5 hb4.size) hg11
    go_wp2_with fail
    refine (heldI_any _ _ (areaL l x).length _ (own_reads ho11) (by omega)).mono ?_
    rintro e w12 ⟨rfl, rfl⟩
    go_wp2_with fail
    refine (toCS_any _ _ l _ (hr.step k11) (by omega)).mono ?_
    rintro e w13 ⟨g13, rfl, hb13, ho13⟩
    have k13 := below_step k11 hb13
    go_wp2_with fail
    refine (iArea_any _ _ l _ _ (own_reads ho13) (by omega)).mono ?_
    rintro e w14 ⟨v14, rfl, hb14, ho14⟩
    have k14 := below_step k13 hb14
    obtain ⟨A14, c14, hv14, _, hr14⟩ := own_slice ho14
    subst hv14
    go_wp2_with fail
    refine (eqIS_any _ _ _ _ (areaL l x) (areaL l x) _ hr14 ((own_reads r3).step (below_step hb13 hb14)) (by omega)).mono ?_
    rintro e w15 ⟨rfl, hb15⟩
    have k15 := below_step k14 hb15
    go_wp2_with fail
    refine (heldI_any _ _ (areaL l x).length _ ((own_reads ho11).step (below_step (below_step hb13 hb14) hb15)) (by omega)).mono ?_
    rintro e w16 ⟨rfl, rfl⟩
    go_wp2_with fail
    go_ret
    exact ⟨rfl, k15⟩
  · go_enter Try.func13, Try.ntmps13
    go_wp2_with (first
      | (go_at_call 29; go_must (refine (sz_big _ _ _ _ (by omega) hm).mono ?_); rintro e w2 ⟨rfl, rfl⟩))
    go_ret
    exact ⟨rfl, Below.refl _ _⟩

set_option linter.unusedVariables false
set_option maxRecDepth 100000 in
theorem lifted (os : Os) (started : os.Started) (H : Type) (enc : TypeId × Value → H) :
    ReturnsInHanded {} Try.checked os 13 .any (Rows.fnExactContextsAreaSpec.pre6 enc Try.prog Try.f13 Rows.fnExactContextsAreaRow.domain false) (Rows.fnExactContextsAreaSpec.post enc Try.prog Try.f13 false true false false) := by
  refine returnsInHanded_of_change (C := Try.checked) lawOwn started (by kernel_rfl) Try.func13
    (ChangeSpec.witness6 (enc := enc) (C := Try.checked) false ⟨#[], #[.slice none 0 0, .int .i64 0], []⟩ 8 (by kernel_rfl) (by kernel_rfl) (by kernel_rfl) (by kernel_rfl)) ?_
  intro W base args ds gs before hval0 hW hcnd _
  have hval : ∀ (j : Nat) t v, Try.f13.params[j]? = some t → args[j]? = some v → Value.okWide Try.prog W .any base t v := hval0
  have hW' := hW
  obtain ⟨p, q, hA0, hV, rfl, hfz, hnd⟩ := hW
  have hA : DataW.TrodAll enc Try.prog W 0 (fun _ => true) true Try.f13.params.toList args.toList ds p := hA0
  rw [Try.params13] at hA hval
  obtain ⟨v0, vs0, d0, ds0, p0, q0, hargs, rfl, rfl, h0, r0⟩ := trodAll_cons hA
  obtain ⟨v1, vs1, d1, ds1, p1, q1, rfl, rfl, rfl, h1, r1⟩ := trodAll_cons r0
  obtain ⟨rfl, rfl, rfl⟩ := trodAll_nil r1
  obtain rfl : args = #[v0, v1] := by cases args; simp_all
  obtain ⟨rfl, rfl⟩ := trodVars_none hV
  have k0 := h0
  have lt0 : ∀ x ∈ p0, x.block < W.heap.size := by obtain ⟨m, hm⟩ := k0; exact DataW.trod_lt m _ _ _ hm
  obtain ⟨a0, len0, cap0, rfl⟩ := okWide_slice Try.underlying42 (hval 0 42 v0 rfl rfl)
  obtain ⟨l0, hl0, hr0, hm0⟩ : ∃ l : List Ctx, len0 = l.length ∧ Reads W W.heap.size 3 a0 len0 (cellsC l) ∧ len0 ≤ maxLen := by
    obtain ⟨fuel, hf⟩ := h0
    exact open_ctxs Try.underlying42 Try.underlying46 (by kernel_rfl) (by kernel_rfl) rfl rfl rfl Try.underlying3 (by simpa [Value.cells] using hf)
  subst hl0
  obtain ⟨x1, rfl, rfl, rfl, w1⟩ := open_int Try.underlying3 (hval 1 3 v1 rfl rfl) h1
  clear hA0 hval0
  refine (walk a0 cap0 l0 x1 W hr0 hm0).mono fun e W' ⟨he, bel⟩ => ?_
  subst he
  exact ⟨_, rfl, _, _, _, [], _, [], hW', trodAll_mk1 (shut_bool Try.underlying4 _), (trodAll_cons_mk (Below.trod lawLaid (by kernel_rfl) (of_decide_eq_true (by kernel_rfl)) k0 bel lt0) (trodAll_cons_mk (shut_int Try.underlying3 w1) trodAll_mk0)), rfl, bel.frame _, fun h => by cases h⟩

theorem proved : Rows.FnExactContextsAreaSaid :=
  OpenClaim.holds_of_wide 13 Try.f13 rfl rfl rfl rfl rfl rfl rfl ⟨rfl, rfl, rfl, rfl, rfl⟩ rfl rfl rfl rfl rfl (by kernel_rfl) Try.func13 (by kernel_rfl)
    (of_decide_eq_true (by kernel_rfl)) (by unfold Func.isWrapper; rw [if_neg (of_decide_eq_false (by kernel_rfl))]; exact ⟨rfl, rfl⟩)
    (fun os started H enc _ => lifted os started H enc)
#print axioms proved
end Go.Proofs.Ytfcjhpgohcbcaaa.exArea
