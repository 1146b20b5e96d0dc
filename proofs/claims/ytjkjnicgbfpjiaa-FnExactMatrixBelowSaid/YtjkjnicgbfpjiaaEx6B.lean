/-
  For every list of numbers and of relations and every number, the program's list of what lies directly below is answered as the model's, in memory of its own, and leaves its arguments as they were. No condition.
-/
import Derived.Test.YtjkjnicgbfpjiaaEnt
import Derived.Test.YtjkjnicgbfpjiaaLif
import Derived.Test.YtjkjnicgbfpjiaaMak
import Derived.Test.YtjkjnicgbfpjiaaOpen
import Derived.Test.YtjkjnicgbfpjiaaJb
import Derived.Test.YtjkjnicgbfpjiaaNb
import Derived.Test.YtjkjnicgbfpjiaaInts
import Derived.Test.YtjkjnicgbfpjiaaMk
namespace Go.Proofs.Ytjkjnicgbfpjiaa.exMatrixBelow
open Go.ChangeShapes Go.WideShapes Go.ChangeAt Go.RowKit

set_option maxHeartbeats 4000000 in
set_option maxRecDepth 100000 in
theorem walk (A : Option Addr) (ca : Nat) (ids : List Int) (B : Option Addr) (cb : Nat) (l : List Ctx) (id : Int) (w : World) (ha : Reads w w.heap.size 1 A ids.length (cellsI ids)) (hm : ids.length ≤ maxLen) (hb : Reads w w.heap.size 3 B l.length (cellsC l)) (hm2 : l.length ≤ maxLen) :
    Calls Try.prog 16 #[.slice A ids.length ca, .slice B l.length cb, .int .i64 id] w fun e w2 => e = .returned (.bool true) ∧ Below w.heap.size w w2 := by
  unfold maxLen at hm hm2
  by_cases hn : ids.length ≤ 1048576
  · have e0 : decide ((1048576 : Int) < (ids.length : Int)) = false := by simp; omega
    by_cases hn2 : l.length ≤ 1048576
    · have e1 : decide ((1048576 : Int) - (l.length : Int) < 0) = false := by simp; omega
      have q1 := eqLI_self ids
      have q2 := eqLC_self l
      obtain ⟨G, hG⟩ : ∃ G, G = belowG ids l id := ⟨_, rfl⟩
      have hGl : G.length ≤ 1048576 := by rw [hG]; exact Nat.le_trans (belowG_len ids l id) hn2
      have q3 := eqLI_self G
      have HG := Lib.hid hG
      clear hG
      have em : decide ((1 : Int) + (ids.length : Int) + 3 * (l.length : Int) < 0) = false := by simp; omega
      have en : decide ((1 : Int) + (G.length : Int) < 0) = false := by simp; omega
      obtain ⟨ok, hok⟩ : ∃ ok, ok = okG ids l := ⟨_, rfl⟩
      have HOK := Lib.hid hok
      clear hok
      have eb : (ok != ok) = false := by simp
      go_enter Try.func16, Try.ntmps16
      go_wp2_with (first
        | (go_at_call 38; go_must (refine (szRel_any _ _ _ _ hn2).mono ?_); rintro e w2 ⟨rfl, rfl⟩))
      refine (toIS_any _ _ ids _ ha (by omega)).mono ?_
      rintro e w2 ⟨g2, rfl, hb2, ho2⟩
      go_wp2_with fail
      refine (toSRel_any _ _ l _ (hb.step hb2) (by omega)).mono ?_
      rintro e w3 ⟨g3, rfl, hb3, ho3⟩
      have k3 := below_step hb2 hb3
      go_wp2_with fail
      refine (sMatBelow_any _ _ _ _ ids l id _ ((own_reads ho2).step hb3) (own_reads ho3) (by omega) (by omega)).mono ?_
      rintro e w4 ⟨v4, rfl, hb4, ho4⟩
      rw [← HG.out] at ho4
      have k4 := below_step k3 hb4
      obtain ⟨A4, c4, rfl, _, hr4⟩ := own_slice ho4
      go_wp2_with fail
      refine (toIS_any _ _ ids _ (ha.step k4) (by omega)).mono ?_
      rintro e w5 ⟨g5, rfl, hb5, ho5⟩
      have k5 := below_step k4 hb5
      go_wp2_with fail
      refine (toSRel_any _ _ l _ (hb.step k5) (by omega)).mono ?_
      rintro e w6 ⟨g6, rfl, hb6, ho6⟩
      have k6 := below_step k5 hb6
      go_wp2_with fail
      refine (iMatBelow_any _ _ _ _ ids l id _ ((own_reads ho5).step hb6) (own_reads ho6) (by omega) (by omega)).mono ?_
      rintro e w7 ⟨v7, rfl, hb7, ho7⟩
      rw [← HG.out] at ho7
      have k7 := below_step k6 hb7
      obtain ⟨A7, c7, rfl, _, hr7⟩ := own_slice ho7
      have b47 := below_step (below_step hb5 hb6) hb7
      have b57 := below_step hb6 hb7
      go_wp2_with fail
      refine (eqIS_any _ _ _ _ G G _ hr7 (hr4.step b47) (by omega)).mono ?_
      rintro e w8 ⟨rfl, hb8⟩
      have k8 := below_step k7 hb8
      go_wp2_with fail
      refine (toIS_any _ _ ids _ (ha.step k8) (by omega)).mono ?_
      rintro e w9 ⟨g9, rfl, hb9, ho9⟩
      have k9 := below_step k8 hb9
      have b59 := below_step (below_step b57 hb8) hb9
      go_wp2_with fail
      refine (eqIS_any _ _ _ _ ids ids _ ((own_reads ho5).step b59) (own_reads ho9) (by omega)).mono ?_
      rintro e w10 ⟨rfl, hb10⟩
      have k10 := below_step k9 hb10
      go_wp2_with fail
      refine (toSRel_any _ _ l _ (hb.step k10) (by omega)).mono ?_
      rintro e w11 ⟨g11, rfl, hb11, ho11⟩
      have k11 := below_step k10 hb11
      have b711 := below_step (below_step (below_step hb8 hb9) hb10) hb11
      have b611 := below_step hb7 b711
      go_wp2_with fail
      refine (eqSRel_any _ _ _ _ l l _ ((own_reads ho6).step b611) (own_reads ho11) (by omega)).mono ?_
      rintro e w12 ⟨rfl, hb12⟩
      have k12 := below_step k11 hb12
      have b712 := below_step b711 hb12
      have b612 := below_step b611 hb12
      have o7 := own_below ho7 b712
      have o6 := own_below ho6 b612
      have o5 := own_below ho5 (below_step hb6 b612)
      have o4 := own_below ho4 (below_step (below_step hb5 hb6) (below_step hb7 b712))
      go_wp2_with fail
      refine (markI_any _ _ ids _ o5 (by omega)).mono ?_
      rintro e w13 ⟨rfl, hg13, _⟩
      have k13 := below_own o5 hg13 k12 k4.size
      have p7 := own_other o7 o5 (own_far2 (own_below ho5 hb6) o7 (Nat.le_refl _)) hg13
      have p6 := own_other o6 o5 (own_far2 ho5 o6 (Nat.le_refl _)) hg13
      have p4 := own_other o4 o5 (own_far ho4 o5 (Nat.le_refl _)) hg13
      go_wp2_with fail
      refine (markRelAt_any _ _ l _ _ p6 (by omega) (by omega) (by omega)).mono ?_
      rintro e w14 ⟨rfl, hg14⟩
      have k14 := below_own p6 hg14 k13 k5.size
      have p7' := own_other p7 p6 (own_far2 ho6 p7 (Nat.le_refl _)) hg14
      have p4' := own_other p4 p6 (own_far ho4 p6 hb5.size) hg14
      go_wp2_with fail
      refine (eqIS_any _ _ _ _ G G _ (own_reads p7') (own_reads p4') (by omega)).mono ?_
      rintro e w15 ⟨rfl, hb15⟩
      have k15 := below_step k14 hb15
      have r7 := own_below p7' hb15
      have r4 := own_below p4' hb15
      go_wp2_with fail
      refine (markI_any _ _ G _ r7 (by omega)).mono ?_
      rintro e w16 ⟨rfl, hg16, ho16⟩
      have k16 := below_own r7 hg16 k15 k6.size
      have s4 := own_other r4 r7 (own_far ho4 r7 (Nat.le_trans hb5.size hb6.size)) hg16
      go_wp2_with fail
      refine (heldI_any _ _ G.length _ (own_reads ho16) (by omega)).mono ?_
      rintro e w17 ⟨rfl, rfl⟩
      go_wp2_with fail
      refine (toIS_any _ _ ids _ (ha.step k16) (by omega)).mono ?_
      rintro e w18 ⟨g18, rfl, hb18, ho18⟩
      have k18 := below_step k16 hb18
      go_wp2_with fail
      refine (toSRel_any _ _ l _ (hb.step k18) (by omega)).mono ?_
      rintro e w19 ⟨g19, rfl, hb19, ho19⟩
      have k19 := below_step k18 hb19
      go_wp2_with fail
      refine (iMatBelow_any _ _ _ _ ids l id _ ((own_reads ho18).step hb19) (own_reads ho19) (by omega) (by omega)).mono ?_
      rintro e w20 ⟨v20, rfl, hb20, ho20⟩
      rw [← HG.out] at ho20
      have k20 := below_step k19 hb20
      obtain ⟨A20, c20, rfl, _, hr20⟩ := own_slice ho20
      have b20 := below_step (below_step hb18 hb19) hb20
      go_wp2_with fail
      refine (eqIS_any _ _ _ _ G G _ hr20 ((own_reads s4).step b20) (by omega)).mono ?_
      rintro e w21 ⟨rfl, hb21⟩
      have k21 := below_step k20 hb21
      go_wp2_with fail
      refine (heldI_any _ _ G.length _ ((own_reads ho16).step (below_step b20 hb21)) (by omega)).mono ?_
      rintro e w22 ⟨rfl, rfl⟩
      go_wp2_with fail
      go_ret
      exact ⟨rfl, k21⟩
    · go_enter Try.func16, Try.ntmps16
      go_wp2_with (first
        | (go_at_call 38; go_must (refine (szRel_big _ _ _ _ (by omega) hm2).mono ?_); rintro e w2 ⟨rfl, rfl⟩))
      go_ret
      exact ⟨rfl, Below.refl _ _⟩
  · have e0 : decide ((1048576 : Int) < (ids.length : Int)) = true := by simp; omega
    go_enter Try.func16, Try.ntmps16
    go_wp2_with fail
    go_ret
    exact ⟨rfl, Below.refl _ _⟩

set_option linter.unusedVariables false
set_option maxRecDepth 100000 in
theorem lifted (os : Os) (started : os.Started) (H : Type) (enc : TypeId × Value → H) :
    ReturnsInHanded {} Try.checked os 16 .any (Rows.fnExactMatrixBelowSpec.pre6 enc Try.prog Try.f16 Rows.fnExactMatrixBelowRow.domain false) (Rows.fnExactMatrixBelowSpec.post enc Try.prog Try.f16 false true false false) := by
  refine returnsInHanded_of_change (C := Try.checked) lawOwn started (by kernel_rfl) Try.func16
    (ChangeSpec.witness6 (enc := enc) (C := Try.checked) false ⟨#[], #[.slice none 0 0, .slice none 0 0, .int .i64 0], []⟩ 8 (by kernel_rfl) (by kernel_rfl) (by kernel_rfl) (by kernel_rfl)) ?_
  intro W base args ds gs before hval0 hW hcnd _
  have hval : ∀ (j : Nat) t v, Try.f16.params[j]? = some t → args[j]? = some v → Value.okWide Try.prog W .any base t v := hval0
  have hW' := hW
  obtain ⟨p, q, hA0, hV, rfl, hfz, hnd⟩ := hW
  have hA : DataW.TrodAll enc Try.prog W 0 (fun _ => true) true Try.f16.params.toList args.toList ds p := hA0
  rw [Try.params16] at hA hval
  obtain ⟨v0, vs0, d0, ds0, p0, q0, hargs, rfl, rfl, h0, r0⟩ := trodAll_cons hA
  obtain ⟨v1, vs1, d1, ds1, p1, q1, rfl, rfl, rfl, h1, r1⟩ := trodAll_cons r0
  obtain ⟨v2, vs2, d2, ds2, p2, q2, rfl, rfl, rfl, h2, r2⟩ := trodAll_cons r1
  obtain ⟨rfl, rfl, rfl⟩ := trodAll_nil r2
  obtain rfl : args = #[v0, v1, v2] := by cases args; simp_all
  obtain ⟨rfl, rfl⟩ := trodVars_none hV
  have k0 := h0
  have lt0 : ∀ x ∈ p0, x.block < W.heap.size := by obtain ⟨m, hm⟩ := k0; exact DataW.trod_lt m _ _ _ hm
  obtain ⟨a0, len0, cap0, rfl⟩ := okWide_slice Try.underlying23 (hval 0 23 v0 rfl rfl)
  obtain ⟨l0, hl0, hr0, hm0⟩ : ∃ l : List Int, len0 = l.length ∧ Reads W W.heap.size 1 a0 len0 (cellsI l) ∧ len0 ≤ maxLen := by
    obtain ⟨fuel, hf⟩ := h0
    exact open_ints Try.underlying23 Try.underlying3 (by kernel_rfl) (by simpa [Value.cells] using hf)
  subst hl0
  have k1 := h1
  have lt1 : ∀ x ∈ p1, x.block < W.heap.size := by obtain ⟨m, hm⟩ := k1; exact DataW.trod_lt m _ _ _ hm
  obtain ⟨a1, len1, cap1, rfl⟩ := okWide_slice Try.underlying50 (hval 1 50 v1 rfl rfl)
  obtain ⟨l1, hl1, hr1, hm1⟩ : ∃ l : List Ctx, len1 = l.length ∧ Reads W W.heap.size 3 a1 len1 (cellsC l) ∧ len1 ≤ maxLen := by
    obtain ⟨fuel, hf⟩ := h1
    exact open_ctxs Try.underlying50 Try.underlying87 (by kernel_rfl) (by kernel_rfl) rfl rfl rfl Try.underlying3 (by simpa [Value.cells] using hf)
  subst hl1
  obtain ⟨x2, rfl, rfl, rfl, w2⟩ := open_int Try.underlying3 (hval 2 3 v2 rfl rfl) h2
  clear hA0 hval0
  refine (walk a0 cap0 l0 a1 cap1 l1 x2 W hr0 hm0 hr1 hm1).mono fun e W' ⟨he, bel⟩ => ?_
  subst he
  exact ⟨_, rfl, _, _, _, [], _, [], hW', trodAll_mk1 (shut_bool Try.underlying4 _), (trodAll_cons_mk (Below.trod lawLaid (by kernel_rfl) (of_decide_eq_true (by kernel_rfl)) k0 bel lt0) (trodAll_cons_mk (Below.trod lawLaid (by kernel_rfl) (of_decide_eq_true (by kernel_rfl)) k1 bel lt1) (trodAll_cons_mk (shut_int Try.underlying3 w2) trodAll_mk0))), rfl, bel.frame _, fun h => by cases h⟩

theorem closed : joinedFacts Try.checked.prog 16 Try.f16 Rows.fnExactMatrixBelowSpec Rows.fnExactMatrixBelowRow = true := by
  unfold joinedFacts
  repeat (refine and_t ?_ (by first | (with_reducible exact ent) | (with_reducible refine lif_c ?_; kernel_rfl) | (with_reducible refine mak_c ?_; kernel_rfl) | kernel_rfl))
  kernel_rfl
theorem proved : Rows.FnExactMatrixBelowSaid :=
  OpenClaim.holds_of_wide 16 Try.f16 rfl rfl rfl rfl rfl rfl rfl ⟨rfl, rfl, rfl, rfl, rfl⟩ rfl rfl rfl rfl rfl (by kernel_rfl) Try.func16 closed
    (of_decide_eq_true (by kernel_rfl)) (by unfold Func.isWrapper; rw [if_neg (of_decide_eq_false (by kernel_rfl))]; exact ⟨rfl, rfl⟩)
    (fun os started H enc _ => lifted os started H enc)
#print axioms proved
end Go.Proofs.Ytjkjnicgbfpjiaa.exMatrixBelow
