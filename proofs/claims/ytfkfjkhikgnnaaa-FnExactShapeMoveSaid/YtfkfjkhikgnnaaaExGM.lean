/-
  For every list of points and every two numbers, the program moves the shape as the model does, in memory of its own, and leaves its argument as it was. No condition.
-/
import Derived.Test.YtfkfjkhikgnnaaaEnt
import Derived.Test.YtfkfjkhikgnnaaaLif
import Derived.Test.YtfkfjkhikgnnaaaMak
import Derived.Test.YtfkfjkhikgnnaaaToP
import Derived.Test.YtfkfjkhikgnnaaaIsh
import Derived.Deep.RegionHeld3
namespace Go.Proofs.Ytfkfjkhikgnnaaa.exShapeMove
open Go.ChangeShapes Go.WideShapes Go.ChangeAt Go.RowKit

theorem moveG_len (l : List Sp) (x y : Int) : (moveG l x y).length ≤ l.length := by
  unfold moveG
  split
  · rw [moveL_len]; omega
  · simp
set_option maxHeartbeats 4000000 in
set_option maxRecDepth 100000 in
theorem walk (A : Option Addr) (cap : Nat) (l : List Sp) (x y : Int) (w : World) (hr : Reads w w.heap.size 2 A l.length (cellsS l)) (hm : l.length ≤ maxLen) :
    Calls Try.prog 16 #[.slice A l.length cap, .int .i64 x, .int .i64 y] w fun e w2 => e = .returned (.bool true) ∧ Below w.heap.size w w2 := by
  unfold maxLen at hm
  by_cases hn : l.length ≤ 1048576
  · have e0 : decide ((1048576 : Int) - (l.length : Int) < 0) = false := by simp; omega
    have hq := eqLS_self l
    obtain ⟨M, hM⟩ : ∃ M, M = moveG l x y := ⟨_, rfl⟩
    obtain ⟨ok, hok⟩ : ∃ ok, ok = moveOk l x y := ⟨_, rfl⟩
    have eok : (ok != ok) = false := by simp
    have hq2 := eqLS_self M
    have hal : M.length ≤ l.length := by rw [hM]; exact moveG_len l x y
    have HM := Lib.hid (And.intro hM hok)
    clear hM hok
    have em : decide ((1 : Int) + 2 * (l.length : Int) < 0) = false := by simp; omega
    have en : decide ((1 : Int) + 2 * (M.length : Int) < 0) = false := by simp; omega
    go_enter Try.func16, Try.ntmps16
    go_wp2_with (first
      | (go_at_call 38; go_must (refine (szPoint_any _ _ _ _ hn).mono ?_); rintro e w2 ⟨rfl, rfl⟩))
    refine (toSPoint_any _ _ l _ hr (by omega)).mono ?_
    rintro e w2 ⟨g2, rfl, hb2, ho2⟩
    go_wp2_with fail
    refine (sShMove_any _ _ l x y _ (own_reads ho2) (by omega)).mono ?_
    rw [← HM.out.1, ← HM.out.2]
    rintro e w3 ⟨v3, rfl, hb3, v3o⟩
    have k3 := below_step hb2 hb3
    go_wp2_with fail
    refine (toSPoint_any _ _ l _ (hr.step k3) (by omega)).mono ?_
    rintro e w4 ⟨g4, rfl, hb4, ho4⟩
    have k4 := below_step k3 hb4
    go_wp2_with fail
    refine (iShMove_any _ _ l x y _ (own_reads ho4) (by omega)).mono ?_
    rw [← HM.out.1, ← HM.out.2]
    rintro e w6 ⟨v6, rfl, hb6, ho6⟩
    have k6 := below_step k4 hb6
    obtain ⟨A3, c3, hv3, _, hr3⟩ := own_slice v3o
    obtain ⟨A6, c6, hv6, _, hr6⟩ := own_slice ho6
    subst hv3 hv6
    go_wp2_with fail
    refine (eqSPoint_any _ _ _ _ M M _ hr6 (hr3.step (below_step hb4 hb6)) (by omega)).mono ?_
    rintro e w7 ⟨rfl, hb7⟩
    have k7 := below_step k6 hb7
    go_wp2_with fail
    refine (toSPoint_any _ _ l _ (hr.step k7) (by omega)).mono ?_
    rintro e w8 ⟨g8, rfl, hb8, ho8⟩
    have k8 := below_step k7 hb8
    go_wp2_with fail
    refine (eqSPoint_any _ _ _ _ l l _ ((own_reads ho4).step (below_step (below_step hb6 hb7) hb8)) (own_reads ho8) (by omega)).mono ?_
    rintro e w9 ⟨rfl, hb9⟩
    have k9 := below_step k8 hb9
    have b79 := below_step (below_step hb7 hb8) hb9
    have o6 := own_below ho6 b79
    have b49 := below_step hb6 b79
    have o4 := own_below ho4 b49
    have o3 := own_below v3o (below_step hb4 b49)
    go_wp2_with fail
    refine (markPoint_any _ _ l _ o4 (by omega)).mono ?_
    rintro e w10 ⟨rfl, hg10, ho10⟩
    have k10 := k9.grown hg10 k9.size (fun k hk => Nat.le_trans k3.size (o4.lt k hk).1)
    have p3 := own_other o3 o4 (own_far v3o o4 (Nat.le_refl _)) hg10
    have p6 := own_other o6 o4 (own_far2 ho4 o6 (Nat.le_refl _)) hg10
    go_wp2_with fail
    refine (eqSPoint_any _ _ _ _ M M _ (own_reads p6) (own_reads p3) (by omega)).mono ?_
    rintro e w11 ⟨rfl, hb11⟩
    have k11 := below_step k10 hb11
    have q3 := own_below p3 hb11
    have q6 := own_below p6 hb11
    go_wp2_with fail
    refine (markPoint_any _ _ M _ q6 (by omega)).mono ?_
    rintro e w12 ⟨rfl, hg12, ho12⟩
    have k12 := k11.grown hg12 k11.size (fun k hk => Nat.le_trans k4.size (q6.lt k hk).1)
    have r3 := own_other q3 q6 (own_far v3o q6 hb4.size) hg12
    go_wp2_with fail
    refine (heldPoint_any _ _ M.length _ (own_reads ho12) (by omega)).mono ?_
    rintro e w13 ⟨rfl, rfl⟩
    go_wp2_with fail
    refine (toSPoint_any _ _ l _ (hr.step k12) (by omega)).mono ?_
    rintro e w14 ⟨g14, rfl, hb14, ho14⟩
    have k14 := below_step k12 hb14
    go_wp2_with fail
    refine (iShMove_any _ _ l x y _ (own_reads ho14) (by omega)).mono ?_
    rw [← HM.out.1, ← HM.out.2]
    rintro e w15 ⟨v15, rfl, hb15, ho15⟩
    have k15 := below_step k14 hb15
    obtain ⟨A15, c15, hv15, _, hr15⟩ := own_slice ho15
    subst hv15
    have b12 := below_step hb14 hb15
    go_wp2_with fail
    refine (eqSPoint_any _ _ _ _ M M _ hr15 ((own_reads r3).step b12) (by omega)).mono ?_
    rintro e w16 ⟨rfl, hb16⟩
    have k16 := below_step k15 hb16
    go_wp2_with fail
    refine (heldPoint_any _ _ M.length _ ((own_reads ho12).step (below_step b12 hb16)) (by omega)).mono ?_
    rintro e w17 ⟨rfl, rfl⟩
    go_wp2_with fail
    go_ret
    exact ⟨rfl, k16⟩
  · go_enter Try.func16, Try.ntmps16
    go_wp2_with (first
      | (go_at_call 38; go_must (refine (szPoint_big _ _ _ _ (by omega) hm).mono ?_); rintro e w2 ⟨rfl, rfl⟩))
    go_ret
    exact ⟨rfl, Below.refl _ _⟩

set_option linter.unusedVariables false
set_option maxRecDepth 100000 in
theorem lifted (os : Os) (started : os.Started) (H : Type) (enc : TypeId × Value → H) :
    ReturnsInHanded {} Try.checked os 16 .any (Rows.fnExactShapeMoveSpec.pre6 enc Try.prog Try.f16 Rows.fnExactShapeMoveRow.domain false) (Rows.fnExactShapeMoveSpec.post enc Try.prog Try.f16 false true false false) := by
  refine returnsInHanded_of_change (C := Try.checked) lawOwn started (by kernel_rfl) Try.func16
    (ChangeSpec.witness6 (enc := enc) (C := Try.checked) false ⟨#[], #[.slice none 0 0, .int .i64 0, .int .i64 0], []⟩ 8 (by kernel_rfl) (by kernel_rfl) (by kernel_rfl) (by kernel_rfl)) ?_
  intro W base args ds gs before hval0 hW hcnd _
  have hval : ∀ (j : Nat) t v, Try.f16.params[j]? = some t → args[j]? = some v → Value.okWide Try.prog W .any base t v := hval0
  have hW' := hW
  obtain ⟨p, q, hA0, hV, rfl, hfz, hnd⟩ := hW
  have hA : DataW.TrodAll enc Try.prog W 0 (fun _ => true) true Try.f16.params.toList args.toList ds p := hA0
  rw [Try.params16] at hA hval
  obtain ⟨v0, vs0, d0, ds0, p0, q0, hargs, rfl, rfl, h0, r0⟩ := trodAll_cons hA
  obtain ⟨v1, vs1, d1, ds1, p1, q1, rfl, rfl, rfl, h1, r1⟩ := trodAll_cons r0
  obtain ⟨v2, vs2, d2, ds2, p2, q2, rfl, rfl, rfl, h2, r2⟩ := trodAll_cons r1
  obtain ⟨rfl, rfl, rfl⟩ := trodAll_nil r2
  obtain rfl : args = #[v0, v1, v2] := by cases args; simp_all
  obtain ⟨rfl, rfl⟩ := trodVars_none hV
  have k0 := h0
  have lt0 : ∀ x ∈ p0, x.block < W.heap.size := by obtain ⟨m, hm⟩ := k0; exact DataW.trod_lt m _ _ _ hm
  obtain ⟨a0, len0, cap0, rfl⟩ := okWide_slice Try.underlying42 (hval 0 42 v0 rfl rfl)
  obtain ⟨l0, hl0, hr0, hm0⟩ : ∃ l : List Sp, len0 = l.length ∧ Reads W W.heap.size 2 a0 len0 (cellsS l) ∧ len0 ≤ maxLen := by
    obtain ⟨fuel, hf⟩ := h0
    exact open_points Try.underlying42 Try.underlying46 (by kernel_rfl) (by kernel_rfl) rfl rfl Try.underlying3 (by simpa [Value.cells] using hf)
  subst hl0
  obtain ⟨x1, rfl, rfl, rfl, w1⟩ := open_int Try.underlying3 (hval 1 3 v1 rfl rfl) h1
  obtain ⟨x2, rfl, rfl, rfl, w2⟩ := open_int Try.underlying3 (hval 2 3 v2 rfl rfl) h2
  clear hA0 hval0
  refine (walk a0 cap0 l0 x1 x2 W hr0 hm0).mono fun e W' ⟨he, bel⟩ => ?_
  subst he
  exact ⟨_, rfl, _, _, _, [], _, [], hW', trodAll_mk1 (shut_bool Try.underlying4 _), (trodAll_cons_mk (Below.trod lawLaid (by kernel_rfl) (of_decide_eq_true (by kernel_rfl)) k0 bel lt0) (trodAll_cons_mk (shut_int Try.underlying3 w1) (trodAll_cons_mk (shut_int Try.underlying3 w2) trodAll_mk0))), rfl, bel.frame _, fun h => by cases h⟩

theorem closed : joinedFacts Try.checked.prog 16 Try.f16 Rows.fnExactShapeMoveSpec Rows.fnExactShapeMoveRow = true := by
  unfold joinedFacts
  repeat (refine and_t ?_ (by first | (with_reducible exact ent) | (with_reducible refine lif_c ?_; kernel_rfl) | (with_reducible refine mak_c ?_; kernel_rfl) | kernel_rfl))
  kernel_rfl
theorem proved : Rows.FnExactShapeMoveSaid :=
  OpenClaim.holds_of_wide 16 Try.f16 rfl rfl rfl rfl rfl rfl rfl ⟨rfl, rfl, rfl, rfl, rfl⟩ rfl rfl rfl rfl rfl (by kernel_rfl) Try.func16 closed
    (of_decide_eq_true (by kernel_rfl)) (by unfold Func.isWrapper; rw [if_neg (of_decide_eq_false (by kernel_rfl))]; exact ⟨rfl, rfl⟩)
    (fun os started H enc _ => lifted os started H enc)
#print axioms proved
end Go.Proofs.Ytfkfjkhikgnnaaa.exShapeMove
