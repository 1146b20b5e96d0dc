/-
  For every list of finds, the program's bounds are answered as the model's, in memory of its own, and the program leaves its arguments as they were. No condition.
-/
import Derived.Test.YtopdmcnbchpihaaEnt
import Derived.Test.YtopdmcnbchpihaaLif
import Derived.Test.YtopdmcnbchpihaaMak
import Derived.Test.YtopdmcnbchpihaaOpen
import Derived.Test.YtopdmcnbchpihaaMkB
import Derived.Test.YtopdmcnbchpihaaMkF
import Derived.Test.YtopdmcnbchpihaaFnb
import Derived.Test.YtopdmcnbchpihaaIfb
namespace Go.Proofs.Ytopdmcnbchpihaa.exFindsBounds
open Go.ChangeShapes Go.WideShapes Go.ChangeAt Go.RowKit

set_option maxHeartbeats 8000000 in
set_option maxRecDepth 100000 in
theorem walk (D : Option Addr) (cd : Nat) (L : List Ctx) (w : World) (hd : Reads w w.heap.size 3 D L.length (cellsC L)) (hm4 : L.length ≤ maxLen) :
    Calls Try.prog 12 #[.slice D L.length cd] w fun e w2 => e = .returned (.bool true) ∧ Below w.heap.size w w2 := by
  unfold maxLen at hm4
  by_cases hn_finds : L.length ≤ 1048576
  · have e_finds : decide ((1048576 : Int) - (L.length : Int) < 0) = false := by simp; omega
    have q1 := eqLC_self L
    have em : decide ((1 : Int) + 3 * (L.length : Int) < 0) = false := by simp; omega
    obtain ⟨R0, hR0⟩ : ∃ R0, R0 = fbG L := ⟨_, rfl⟩
    have hRl : R0.length ≤ 1048576 := by rw [hR0]; have := fbG_len L; omega
    have q9 := eqLC_self R0
    have HG := Lib.hid hR0
    clear hR0
    have en : decide ((1 : Int) + 3 * (R0.length : Int) < 0) = false := by simp; omega
    obtain ⟨ok, hok⟩ : ∃ ok, ok = fbOk L := ⟨_, rfl⟩
    have HOK := Lib.hid hok
    clear hok
    have eb : (ok != ok) = false := by simp
    go_enter Try.func12, Try.ntmps12
    go_wp2_with (first
      | (go_at_call 40; go_must (refine (szFindAt_any _ _ _ _ _ (by omega) (by omega)).mono ?_); rintro e w2 ⟨rfl, rfl⟩))
    refine (toSFind_any _ _ L _ hd (by omega)).mono ?_
    rintro e w2 ⟨g2, rfl, hb2, ho2⟩
    have k2 := hb2
    go_wp2_with fail
    refine (sFindsBounds_any _ _ L _ (own_reads ho2) (by omega)).mono ?_
    rintro e w3 ⟨v3, rfl, hb3, ho3⟩
    rw [← HG.out] at ho3
    rw [← HOK.out]
    have k3 := below_step k2 hb3
    obtain ⟨A3, c3, rfl, _, hr3⟩ := own_slice ho3
    go_wp2_with fail
    refine (toSFind_any _ _ L _ (hd.step k3) (by omega)).mono ?_
    rintro e w4 ⟨g4, rfl, hb4, ho4⟩
    have k4 := below_step k3 hb4
    go_wp2_with fail
    refine (iFindsBounds_any _ _ L _ (own_reads ho4) (by omega)).mono ?_
    rintro e w5 ⟨v5, rfl, hb5, ho5⟩
    rw [← HG.out] at ho5
    rw [← HOK.out]
    have k5 := below_step k4 hb5
    obtain ⟨A5, c5, rfl, _, hr5⟩ := own_slice ho5
    go_wp2_with fail
    refine (eqSBound_any _ _ _ _ R0 R0 _ (own_reads ho5) ((own_reads ho3).step (below_step hb4 hb5)) (by omega)).mono ?_
    rintro e w6 ⟨rfl, hb6⟩
    have k6 := below_step k5 hb6
    go_wp2_with fail
    refine (toSFind_any _ _ L _ (hd.step k6) (by omega)).mono ?_
    rintro e w7 ⟨g7, rfl, hb7, ho7⟩
    have k7 := below_step k6 hb7
    go_wp2_with fail
    refine (eqSFind_any _ _ _ _ L L _ ((own_reads ho4).step (below_step (below_step hb5 hb6) hb7)) (own_reads ho7) (by omega)).mono ?_
    rintro e w8 ⟨rfl, hb8⟩
    have k8 := below_step k7 hb8
    have o4x := own_below ho4 (below_step (below_step (below_step hb5 hb6) hb7) hb8)
    have o5x := own_below ho5 (below_step (below_step hb6 hb7) hb8)
    have o3x := own_below ho3 (below_step (below_step (below_step (below_step hb4 hb5) hb6) hb7) hb8)
    go_wp2_with fail
    refine (markFindAt_any _ _ L _ _ o4x (by omega) (by omega) (by omega)).mono ?_
    rintro e w9 ⟨rfl, hg9⟩
    have k9 := below_own o4x hg9 k8 (below_step hb2 hb3).size
    have o5y9 := own_other o5x o4x (own_far2 ho4 o5x (Nat.le_refl _)) hg9
    have o3y9 := own_other o3x o4x (own_far ho3 o4x (Nat.le_refl _)) hg9
    go_wp2_with fail
    refine (eqSBound_any _ _ _ _ R0 R0 _ (own_reads o5y9) (own_reads o3y9) (by omega)).mono ?_
    rintro e w10 ⟨rfl, hb10⟩
    have k10 := below_step k9 hb10
    have r7 := own_below o5y9 hb10
    have r4 := own_below o3y9 hb10
    go_wp2_with fail
    refine (markBound_any _ _ R0 _ r7 (by omega)).mono ?_
    rintro e w11 ⟨rfl, hg11, hoM⟩
    have k11 := below_own r7 hg11 k10 (below_step (below_step hb2 hb3) hb4).size
    have s4 := own_other r4 r7 (own_far ho3 r7 hb4.size) hg11
    go_wp2_with fail
    refine (heldBound_any _ _ R0.length _ (own_reads hoM) (by omega)).mono ?_
    rintro e w12p ⟨rfl, rfl⟩
    go_wp2_with fail
    refine (toSFind_any _ _ L _ (hd.step k11) (by omega)).mono ?_
    rintro e w12 ⟨g12, rfl, hb12, ho12⟩
    have k12 := below_step k11 hb12
    go_wp2_with fail
    refine (iFindsBounds_any _ _ L _ (own_reads ho12) (by omega)).mono ?_
    rintro e w13 ⟨v13, rfl, hb13, ho13⟩
    rw [← HG.out] at ho13
    rw [← HOK.out]
    have k13 := below_step k12 hb13
    obtain ⟨A13, c13, rfl, _, hr13⟩ := own_slice ho13
    go_wp2_with fail
    refine (eqSBound_any _ _ _ _ R0 R0 _ hr13 ((own_reads s4).step (below_step hb12 hb13)) (by omega)).mono ?_
    rintro e w14 ⟨rfl, hb14⟩
    have k14 := below_step k13 hb14
    go_wp2_with fail
    refine (heldBound_any _ _ R0.length _ ((own_reads hoM).step (below_step (below_step hb12 hb13) hb14)) (by omega)).mono ?_
    rintro e w15p ⟨rfl, rfl⟩
    go_wp2_with fail
    go_ret
    exact ⟨rfl, k14⟩
  · go_enter Try.func12, Try.ntmps12
    go_wp2_with (first
      | (go_at_call 40; go_must (refine (szFindAt_big _ _ _ _ _ (by omega) (by omega) (by omega) hm4).mono ?_); rintro e w2 ⟨rfl, rfl⟩))
    go_ret
    exact ⟨rfl, Below.refl _ _⟩

set_option linter.unusedVariables false
set_option maxRecDepth 100000 in
theorem lifted (os : Os) (started : os.Started) (H : Type) (enc : TypeId × Value → H) :
    ReturnsInHanded {} Try.checked os 12 .any (Rows.fnExactFindsBoundsSpec.pre6 enc Try.prog Try.f12 Rows.fnExactFindsBoundsRow.domain false) (Rows.fnExactFindsBoundsSpec.post enc Try.prog Try.f12 false true false false) := by
  refine returnsInHanded_of_change (C := Try.checked) lawOwn started (by kernel_rfl) Try.func12
    (ChangeSpec.witness6 (enc := enc) (C := Try.checked) false ⟨#[], #[.slice none 0 0], []⟩ 8 (by kernel_rfl) (by kernel_rfl) (by kernel_rfl) (by kernel_rfl)) ?_
  intro W base args ds gs before hval0 hW hcnd _
  have hval : ∀ (j : Nat) t v, Try.f12.params[j]? = some t → args[j]? = some v → Value.okWide Try.prog W .any base t v := hval0
  have hW' := hW
  obtain ⟨p, q, hA0, hV, rfl, hfz, hnd⟩ := hW
  have hA : DataW.TrodAll enc Try.prog W 0 (fun _ => true) true Try.f12.params.toList args.toList ds p := hA0
  rw [Try.params12] at hA hval
  obtain ⟨v0, vs0, d0, ds0, p0, q0, hargs, rfl, rfl, h0, r0⟩ := trodAll_cons hA
  obtain ⟨rfl, rfl, rfl⟩ := trodAll_nil r0
  obtain rfl : args = #[v0] := by cases args; simp_all
  obtain ⟨rfl, rfl⟩ := trodVars_none hV
  have k0 := h0
  have lt0 : ∀ x ∈ p0, x.block < W.heap.size := by obtain ⟨m, hm⟩ := k0; exact DataW.trod_lt m _ _ _ hm
  obtain ⟨a0, len0, cap0, rfl⟩ := okWide_slice Try.underlying62 (hval 0 62 v0 rfl rfl)
  obtain ⟨l0, hl0, hr0, hm0⟩ : ∃ l : List Ctx, len0 = l.length ∧ Reads W W.heap.size 3 a0 len0 (cellsC l) ∧ len0 ≤ maxLen := by
    obtain ⟨fuel, hf⟩ := h0
    exact open_ctxs Try.underlying62 Try.underlying140 (by kernel_rfl) (by kernel_rfl) rfl rfl rfl Try.underlying3 (by simpa [Value.cells] using hf)
  subst hl0
  clear hA0 hval0
  refine (walk a0 cap0 l0 W hr0 hm0).mono fun e W' ⟨he, bel⟩ => ?_
  subst he
  exact ⟨_, rfl, _, _, _, [], _, [], hW', trodAll_mk1 (shut_bool Try.underlying4 _), (trodAll_cons_mk (Below.trod lawLaid (by kernel_rfl) (of_decide_eq_true (by kernel_rfl)) k0 bel lt0) trodAll_mk0), rfl, bel.frame _, fun h => by cases h⟩

theorem closed : joinedFacts Try.checked.prog 12 Try.f12 Rows.fnExactFindsBoundsSpec Rows.fnExactFindsBoundsRow = true := by
  unfold joinedFacts
  repeat (refine and_t ?_ (by first | (with_reducible exact ent) | (with_reducible refine lif_c ?_; kernel_rfl) | (with_reducible refine mak_c ?_; kernel_rfl) | kernel_rfl))
  kernel_rfl
theorem proved : Rows.FnExactFindsBoundsSaid :=
  OpenClaim.holds_of_wide 12 Try.f12 rfl rfl rfl rfl rfl rfl rfl ⟨rfl, rfl, rfl, rfl, rfl⟩ rfl rfl rfl rfl rfl (by kernel_rfl) Try.func12 closed
    (of_decide_eq_true (by kernel_rfl)) (by unfold Func.isWrapper; rw [if_neg (of_decide_eq_false (by kernel_rfl))]; exact ⟨rfl, rfl⟩)
    (fun os started H enc _ => lifted os started H enc)
#print axioms proved
end Go.Proofs.Ytopdmcnbchpihaa.exFindsBounds
