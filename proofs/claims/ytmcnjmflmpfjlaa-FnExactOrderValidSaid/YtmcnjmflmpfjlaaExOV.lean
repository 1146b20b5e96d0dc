/-
  For every list of numbers and of relations, the program's order is valid as the model says, and the program leaves its arguments as they were. No condition.
-/
import Derived.Test.YtmcnjmflmpfjlaaEnt
import Derived.Test.YtmcnjmflmpfjlaaLif
import Derived.Test.YtmcnjmflmpfjlaaMak
import Derived.Test.YtmcnjmflmpfjlaaOpen
import Derived.Test.YtmcnjmflmpfjlaaV5
import Derived.Test.YtmcnjmflmpfjlaaUu
import Derived.Test.YtmcnjmflmpfjlaaInts
import Derived.Test.YtmcnjmflmpfjlaaMk
namespace Go.Proofs.Ytmcnjmflmpfjlaa.exOrderValid
open Go.ChangeShapes Go.WideShapes Go.ChangeAt Go.RowKit

set_option maxHeartbeats 4000000 in
set_option maxRecDepth 100000 in
theorem walk (A : Option Addr) (ca : Nat) (ids : List Int) (B : Option Addr) (cb : Nat) (l : List Ctx) (w : World) (ha : Reads w w.heap.size 1 A ids.length (cellsI ids)) (hm : ids.length ≤ maxLen) (hb : Reads w w.heap.size 3 B l.length (cellsC l)) (hm2 : l.length ≤ maxLen) :
    Calls Try.prog 19 #[.slice A ids.length ca, .slice B l.length cb] w fun e w2 => e = .returned (.bool true) ∧ Below w.heap.size w w2 := by
  unfold maxLen at hm hm2
  by_cases hn : ids.length ≤ 1048576
  · have e0 : decide ((1048576 : Int) < (ids.length : Int)) = false := by simp; omega
    by_cases hn2 : l.length ≤ 1048576
    · have e1 : decide ((1048576 : Int) - (l.length : Int) < 0) = false := by simp; omega
      have q1 := eqLI_self ids
      have q2 := eqLC_self l
      obtain ⟨ok, hok⟩ : ∃ ok, ok = ordOkG ids l := ⟨_, rfl⟩
      have HOK := Lib.hid hok
      clear hok
      have eb : (ok != ok) = false := by simp
      go_enter Try.func19, Try.ntmps19
      go_wp2_with (first
        | (go_at_call 42; go_must (refine (szRel_any _ _ _ _ hn2).mono ?_); rintro e w2 ⟨rfl, rfl⟩))
      refine (toIS_any _ _ ids _ ha (by omega)).mono ?_
      rintro e w2 ⟨g2, rfl, hb2, ho2⟩
      go_wp2_with fail
      refine (toSRel_any _ _ l _ (hb.step hb2) (by omega)).mono ?_
      rintro e w3 ⟨g3, rfl, hb3, ho3⟩
      have k3 := below_step hb2 hb3
      go_wp2_with fail
      refine (sOrdValid_any _ _ _ _ ids l _ ((own_reads ho2).step hb3) (own_reads ho3) (by omega) (by omega)).mono ?_
      rintro e w4 ⟨rfl, hb4⟩
      rw [← HOK.out]
      have k4 := below_step k3 hb4
      go_wp2_with fail
      refine (toIS_any _ _ ids _ (ha.step k4) (by omega)).mono ?_
      rintro e w5 ⟨g5, rfl, hb5, ho5⟩
      have k5 := below_step k4 hb5
      go_wp2_with fail
      refine (toSRel_any _ _ l _ (hb.step k5) (by omega)).mono ?_
      rintro e w6 ⟨g6, rfl, hb6, ho6⟩
      have k6 := below_step k5 hb6
      go_wp2_with fail
      refine (iOrdValid_any _ _ _ _ ids l _ ((own_reads ho5).step hb6) (own_reads ho6) (by omega) (by omega)).mono ?_
      rintro e w7 ⟨rfl, hb7⟩
      rw [← HOK.out]
      have k7 := below_step k6 hb7
      have b57 := below_step hb6 hb7
      go_wp2_with fail
      refine (toIS_any _ _ ids _ (ha.step k7) (by omega)).mono ?_
      rintro e w9 ⟨g9, rfl, hb9, ho9⟩
      have k9 := below_step k7 hb9
      have b59 := below_step b57 hb9
      go_wp2_with fail
      refine (eqIS_any _ _ _ _ ids ids _ ((own_reads ho5).step b59) (own_reads ho9) (by omega)).mono ?_
      rintro e w10 ⟨rfl, hb10⟩
      have k10 := below_step k9 hb10
      go_wp2_with fail
      refine (toSRel_any _ _ l _ (hb.step k10) (by omega)).mono ?_
      rintro e w11 ⟨g11, rfl, hb11, ho11⟩
      have k11 := below_step k10 hb11
      have b611 := below_step (below_step (below_step hb7 hb9) hb10) hb11
      go_wp2_with fail
      refine (eqSRel_any _ _ _ _ l l _ ((own_reads ho6).step b611) (own_reads ho11) (by omega)).mono ?_
      rintro e w12 ⟨rfl, hb12⟩
      have k12 := below_step k11 hb12
      go_wp2_with fail
      go_ret
      exact ⟨rfl, k12⟩
    · go_enter Try.func19, Try.ntmps19
      go_wp2_with (first
        | (go_at_call 42; go_must (refine (szRel_big _ _ _ _ (by omega) hm2).mono ?_); rintro e w2 ⟨rfl, rfl⟩))
      go_ret
      exact ⟨rfl, Below.refl _ _⟩
  · have e0 : decide ((1048576 : Int) < (ids.length : Int)) = true := by simp; omega
    go_enter Try.func19, Try.ntmps19
    go_wp2_with fail
    go_ret
    exact ⟨rfl, Below.refl _ _⟩

set_option linter.unusedVariables false
set_option maxRecDepth 100000 in
theorem lifted (os : Os) (started : os.Started) (H : Type) (enc : TypeId × Value → H) :
    ReturnsInHanded {} Try.checked os 19 .any (Rows.fnExactOrderValidSpec.pre6 enc Try.prog Try.f19 Rows.fnExactOrderValidRow.domain false) (Rows.fnExactOrderValidSpec.post enc Try.prog Try.f19 false true false false) := by
  refine returnsInHanded_of_change (C := Try.checked) lawOwn started (by kernel_rfl) Try.func19
    (ChangeSpec.witness6 (enc := enc) (C := Try.checked) false ⟨#[], #[.slice none 0 0, .slice none 0 0], []⟩ 8 (by kernel_rfl) (by kernel_rfl) (by kernel_rfl) (by kernel_rfl)) ?_
  intro W base args ds gs before hval0 hW hcnd _
  have hval : ∀ (j : Nat) t v, Try.f19.params[j]? = some t → args[j]? = some v → Value.okWide Try.prog W .any base t v := hval0
  have hW' := hW
  obtain ⟨p, q, hA0, hV, rfl, hfz, hnd⟩ := hW
  have hA : DataW.TrodAll enc Try.prog W 0 (fun _ => true) true Try.f19.params.toList args.toList ds p := hA0
  rw [Try.params19] at hA hval
  obtain ⟨v0, vs0, d0, ds0, p0, q0, hargs, rfl, rfl, h0, r0⟩ := trodAll_cons hA
  obtain ⟨v1, vs1, d1, ds1, p1, q1, rfl, rfl, rfl, h1, r1⟩ := trodAll_cons r0
  obtain ⟨rfl, rfl, rfl⟩ := trodAll_nil r1
  obtain rfl : args = #[v0, v1] := by cases args; simp_all
  obtain ⟨rfl, rfl⟩ := trodVars_none hV
  have k0 := h0
  have lt0 : ∀ x ∈ p0, x.block < W.heap.size := by obtain ⟨m, hm⟩ := k0; exact DataW.trod_lt m _ _ _ hm
  obtain ⟨a0, len0, cap0, rfl⟩ := okWide_slice Try.underlying23 (hval 0 23 v0 rfl rfl)
  obtain ⟨l0, hl0, hr0, hm0⟩ : ∃ l : List Int, len0 = l.length ∧ Reads W W.heap.size 1 a0 len0 (cellsI l) ∧ len0 ≤ maxLen := by
    obtain ⟨fuel, hf⟩ := h0
    exact open_ints Try.underlying23 Try.underlying3 (by kernel_rfl) (by simpa [Value.cells] using hf)
  subst hl0
  have k1 := h1
  have lt1 : ∀ x ∈ p1, x.block < W.heap.size := by obtain ⟨m, hm⟩ := k1; exact DataW.trod_lt m _ _ _ hm
  obtain ⟨a1, len1, cap1, rfl⟩ := okWide_slice Try.underlying45 (hval 1 45 v1 rfl rfl)
  obtain ⟨l1, hl1, hr1, hm1⟩ : ∃ l : List Ctx, len1 = l.length ∧ Reads W W.heap.size 3 a1 len1 (cellsC l) ∧ len1 ≤ maxLen := by
    obtain ⟨fuel, hf⟩ := h1
    exact open_ctxs Try.underlying45 Try.underlying96 (by kernel_rfl) (by kernel_rfl) rfl rfl rfl Try.underlying3 (by simpa [Value.cells] using hf)
  subst hl1
  clear hA0 hval0
  refine (walk a0 cap0 l0 a1 cap1 l1 W hr0 hm0 hr1 hm1).mono fun e W' ⟨he, bel⟩ => ?_
  subst he
  exact ⟨_, rfl, _, _, _, [], _, [], hW', trodAll_mk1 (shut_bool Try.underlying4 _), (trodAll_cons_mk (Below.trod lawLaid (by kernel_rfl) (of_decide_eq_true (by kernel_rfl)) k0 bel lt0) (trodAll_cons_mk (Below.trod lawLaid (by kernel_rfl) (of_decide_eq_true (by kernel_rfl)) k1 bel lt1) trodAll_mk0)), rfl, bel.frame _, fun h => by cases h⟩

theorem closed : joinedFacts Try.checked.prog 19 Try.f19 Rows.fnExactOrderValidSpec Rows.fnExactOrderValidRow = true := by
  unfold joinedFacts
  repeat (refine and_t ?_ (by first | (with_reducible exact ent) | (with_reducible refine lif_c ?_; kernel_rfl) | (with_reducible refine mak_c ?_; kernel_rfl) | kernel_rfl))
  kernel_rfl
theorem proved : Rows.FnExactOrderValidSaid :=
  OpenClaim.holds_of_wide 19 Try.f19 rfl rfl rfl rfl rfl rfl rfl ⟨rfl, rfl, rfl, rfl, rfl⟩ rfl rfl rfl rfl rfl (by kernel_rfl) Try.func19 closed
    (of_decide_eq_true (by kernel_rfl)) (by unfold Func.isWrapper; rw [if_neg (of_decide_eq_false (by kernel_rfl))]; exact ⟨rfl, rfl⟩)
    (fun os started H enc _ => lifted os started H enc)
#print axioms proved
end Go.Proofs.Ytmcnjmflmpfjlaa.exOrderValid
