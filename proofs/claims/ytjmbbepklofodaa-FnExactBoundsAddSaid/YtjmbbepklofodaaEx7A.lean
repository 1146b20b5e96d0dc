/-
  For every list of bounds and every bound, the program's adding answers as the model's, in memory of its own, and leaves its argument as it was. No condition.
-/
import Derived.Test.YtjmbbepklofodaaOpen
import Derived.Test.YtjmbbepklofodaaIb
import Derived.Deep.RegionHeld3
namespace Go.Proofs.Ytjmbbepklofodaa.exBoundsAdd
open Go.ChangeShapes Go.WideShapes Go.ChangeAt Go.RowKit

/-- A world behind the one in which the argument was laid in a block of its own. -/
def Bx (w : World) (c : Ctx) (W : World) : Prop := Below (w.alloc (.cells #[.int .i64 c.id, .int .i64 c.kind, .int .i64 c.area] 49)).heap.size (w.alloc (.cells #[.int .i64 c.id, .int .i64 c.kind, .int .i64 c.area] 49)) W
section
variable {w W W2 : World} {c : Ctx}
theorem Bx.cells (h : Bx w c W) : W.cell? ⟨w.heap.size, 0, none⟩ = some (.int .i64 c.id) ∧ W.cell? ⟨w.heap.size, 1, none⟩ = some (.int .i64 c.kind) ∧ W.cell? ⟨w.heap.size, 2, none⟩ = some (.int .i64 c.area) := by
  refine ⟨?_, ?_, ?_⟩
  · exact (Below.cell h (p := ⟨w.heap.size, 0, none⟩) (by simp)).trans ((cell_of_row _ _ _ _ _ _ (heap_alloc_new _ _)).trans rfl)
  · exact (Below.cell h (p := ⟨w.heap.size, 1, none⟩) (by simp)).trans ((cell_of_row _ _ _ _ _ _ (heap_alloc_new _ _)).trans rfl)
  · exact (Below.cell h (p := ⟨w.heap.size, 2, none⟩) (by simp)).trans ((cell_of_row _ _ _ _ _ _ (heap_alloc_new _ _)).trans rfl)
theorem Bx.step (h : Bx w c W) (k : Below W.heap.size W W2) : Bx w c W2 := below_step h k
theorem Bx.draws (h : Bx w c W) (n : Nat) : Bx w c (W.drewN n) := below_draws h n
theorem Bx.below (h : Bx w c W) : Below w.heap.size w W := ((Below.refl _ _).alloc (Nat.le_refl _) _).trans (Below.mono h (by simp))
theorem Bx.sz (h : Bx w c W) : w.heap.size + 1 ≤ W.heap.size := by
  have := Below.size h
  simpa using this
theorem Bx.own {base e size n : Nat} {v : Value} {xs : List Value} (h : Bx w c W) (ho : W.ownsRow base e size v n xs) (hg : W.grownBy W2 v.ownBlock) (hb : w.heap.size + 1 ≤ base) : Bx w c W2 :=
  Below.grown h hg (Below.size h) fun k hk => by have := (ho.lt k hk).1; simp; omega
theorem Bx.reads {A : Option Addr} {n : Nat} {xs : List Value} (h : Bx w c W) (hr : Reads w w.heap.size 3 A n xs) : Reads W W.heap.size 3 A n xs := hr.step h.below
end

set_option maxHeartbeats 4000000 in
set_option maxRecDepth 100000 in
theorem walk (A : Option Addr) (cap : Nat) (l : List Ctx) (c : Ctx) (w : World) (hr : Reads w w.heap.size 3 A l.length (cellsC l)) (hm : l.length ≤ maxLen) :
    Calls Try.prog 11 #[.slice A l.length cap, .agg #[.int .i64 c.id, .int .i64 c.kind, .int .i64 c.area]] w fun e w2 => e = .returned (.bool true) ∧ Below w.heap.size w w2 := by
  unfold maxLen at hm
  by_cases hn : l.length ≤ 1048576
  · have e0 : decide ((1048576 : Int) - (l.length : Int) < 0) = false := by simp; omega
    have hq := eqLC_self l
    have hq2 := eqLC_self (addB l c)
    have hal := addB_len l c
    have em : decide ((1 : Int) + 3 * (l.length : Int) < 0) = false := by simp; omega
    have en : decide ((1 : Int) + 3 * ((addB l c).length : Int) < 0) = false := by simp; omega
    have kb := (Below.refl w.heap.size w).alloc (Nat.le_refl _) (.cells #[.int .i64 c.id, .int .i64 c.kind, .int .i64 c.area] 49)
    have hr0 := hr.step kb
    go_enter Try.func11, Try.ntmps11
    go_wp2_with (first
      | (go_at_call 26; go_must (refine (szBound_any _ _ _ _ hn).mono ?_); rintro e w2 ⟨rfl, rfl⟩))
    have k0 : Bx w c (w.alloc (.cells #[.int .i64 c.id, .int .i64 c.kind, .int .i64 c.area] 49)) := Below.refl _ _
    obtain ⟨s0, s1, s2⟩ := k0.cells
    go_region_held3 (fun w' => w'.cell? ⟨w.heap.size, 0, none⟩ = some (.int .i64 c.id) ∧ w'.cell? ⟨w.heap.size, 1, none⟩ = some (.int .i64 c.kind) ∧ w'.cell? ⟨w.heap.size, 2, none⟩ = some (.int .i64 c.area))
      (first
        | assumption
        | exact ⟨s0, s1, s2⟩)
      (first
        | (go_at_call 27
           go_must (refine (toSBound_any _ _ l _ ((k0.draws 1).reads hr) (by omega)).mono ?_)
           rintro e xa ⟨g2, rfl, xh1, ho2⟩
           have xk1 := (k0.draws 1).step xh1
           obtain ⟨s0, s1, s2⟩ := xk1.cells)
        | (go_at_call 29
           go_must (refine (toBound_any _ _ _ _).mono ?_)
           rintro e xb ⟨rfl, xh2⟩
           have xk2 := xk1.step xh2
           obtain ⟨s0, s1, s2⟩ := xk2.cells)
        | (go_at_call 19
           go_must (refine (sBoundsAdd_any _ _ l c _ ((own_reads ho2).step xh2) (by omega) (Nat.le_refl _)).mono ?_)
           rintro e xc ⟨v3, rfl, xh3, v3o⟩
           have xk3 := xk2.step xh3
           obtain ⟨s0, s1, s2⟩ := xk3.cells))
    go_wp2_with fail
    refine (toSBound_any _ _ l _ (xk3.reads hr) (by omega)).mono ?_
    rintro e w4 ⟨g4, rfl, hb4, ho4⟩
    have k4 := xk3.step hb4
    obtain ⟨s0, s1, s2⟩ := k4.cells
    go_wp2_with fail
    refine (toBound_any _ _ _ _).mono ?_
    rintro e w5 ⟨rfl, hb5⟩
    have k5 := k4.step hb5
    go_wp2_with fail
    refine (iBoundsAdd_any _ _ l c _ ((own_reads ho4).step hb5) (by omega) (Nat.le_refl _)).mono ?_
    rintro e w6 ⟨v6, rfl, hb6, ho6⟩
    have k6 := k5.step hb6
    obtain ⟨A3, c3, hv3, _, hr3⟩ := own_slice v3o
    obtain ⟨A6, c6, hv6, _, hr6⟩ := own_slice ho6
    subst hv3 hv6
    go_wp2_with fail
    refine (eqSBound_any _ _ _ _ (addB l c) (addB l c) _ hr6 (hr3.step (below_step (below_step hb4 hb5) hb6)) (by omega)).mono ?_
    rintro e w7 ⟨rfl, hb7⟩
    have k7 := k6.step hb7
    go_wp2_with fail
    refine (toSBound_any _ _ l _ (k7.reads hr) (by omega)).mono ?_
    rintro e w8 ⟨g8, rfl, hb8, ho8⟩
    have k8 := k7.step hb8
    go_wp2_with fail
    refine (eqSBound_any _ _ _ _ l l _ ((own_reads ho4).step (below_step (below_step (below_step hb5 hb6) hb7) hb8)) (own_reads ho8) (by omega)).mono ?_
    rintro e w9 ⟨rfl, hb9⟩
    have k9 := k8.step hb9
    have b79 := below_step (below_step hb7 hb8) hb9
    have o6 := own_below ho6 b79
    have b49 := below_step (below_step hb5 hb6) b79
    have o4 := own_below ho4 b49
    have o3 := own_below v3o (below_step hb4 b49)
    go_wp2_with fail
    refine (markBound_any _ _ l _ o4 (by omega)).mono ?_
    rintro e w10 ⟨rfl, hg10, ho10⟩
    have k10 := k9.own o4 hg10 xk3.sz
    have p3 := own_other o3 o4 (own_far v3o o4 (Nat.le_refl _)) hg10
    have p6 := own_other o6 o4 (own_far2 ho4 o6 hb5.size) hg10
    go_wp2_with fail
    refine (eqSBound_any _ _ _ _ (addB l c) (addB l c) _ (own_reads p6) (own_reads p3) (by omega)).mono ?_
    rintro e w11 ⟨rfl, hb11⟩
    have k11 := k10.step hb11
    have q3 := own_below p3 hb11
    have q6 := own_below p6 hb11
    go_wp2_with fail
    refine (markBound_any _ _ (addB l c) _ q6 (by omega)).mono ?_
    rintro e w12 ⟨rfl, hg12, ho12⟩
    have k12 := k11.own q6 hg12 k5.sz
    have r3 := own_other q3 q6 (own_far v3o q6 (Nat.le_trans hb4.size hb5.size)) hg12
    obtain ⟨s0, s1, s2⟩ := k12.cells
    go_wp2_with fail
    refine (heldBound_any _ _ (addB l c).length _ (own_reads ho12) (by omega)).mono ?_
    rintro e w13 ⟨rfl, rfl⟩
    go_wp2_with fail
    go_region_held3 (fun w' => w'.cell? ⟨w.heap.size, 0, none⟩ = some (.int .i64 c.id) ∧ w'.cell? ⟨w.heap.size, 1, none⟩ = some (.int .i64 c.kind) ∧ w'.cell? ⟨w.heap.size, 2, none⟩ = some (.int .i64 c.area))
      (first
        | assumption
        | exact ⟨s0, s1, s2⟩)
      (first
        | (go_at_call 27
           go_must (refine (toSBound_any _ _ l _ ((k12.draws 1).reads hr) (by omega)).mono ?_)
           rintro e ya ⟨g14, rfl, yh1, ho14⟩
           have yk1 := (k12.draws 1).step yh1
           obtain ⟨s0, s1, s2⟩ := yk1.cells)
        | (go_at_call 29
           go_must (refine (toBound_any _ _ _ _).mono ?_)
           rintro e yb ⟨rfl, yh2⟩
           have yk2 := yk1.step yh2
           obtain ⟨s0, s1, s2⟩ := yk2.cells)
        | (go_at_call 18
           go_must (refine (iBoundsAdd_any _ _ l c _ ((own_reads ho14).step yh2) (by omega) (Nat.le_refl _)).mono ?_)
           rintro e yc ⟨v15, rfl, yh3, v15o⟩
           have yk3 := yk2.step yh3
           obtain ⟨s0, s1, s2⟩ := yk3.cells))
    obtain ⟨A15, c15, hv15, _, hr15⟩ := own_slice v15o
    subst hv15
    have b12 : Below w12.heap.size w12 yc := below_step (below_step ((below_draws (Below.refl _ _) 1).trans yh1) yh2) yh3
    go_wp2_with fail
    refine (eqSBound_any _ _ _ _ (addB l c) (addB l c) _ hr15 ((own_reads r3).step b12) (by omega)).mono ?_
    rintro e w16 ⟨rfl, hb16⟩
    have k16 := yk3.step hb16
    go_wp2_with fail
    refine (heldBound_any _ _ (addB l c).length _ ((own_reads ho12).step (below_step b12 hb16)) (by omega)).mono ?_
    rintro e w17 ⟨rfl, rfl⟩
    go_wp2_with fail
    go_ret
    exact ⟨rfl, k16.below⟩
  · go_enter Try.func11, Try.ntmps11
    go_wp2_with (first
      | (go_at_call 26; go_must (refine (szBound_big _ _ _ _ (by omega) hm).mono ?_); rintro e w2 ⟨rfl, rfl⟩))
    go_ret
    exact ⟨rfl, (Below.refl _ _).alloc (Nat.le_refl _) _⟩

set_option linter.unusedVariables false
set_option maxRecDepth 100000 in
theorem lifted (os : Os) (started : os.Started) (H : Type) (enc : TypeId × Value → H) :
    ReturnsInHanded {} Try.checked os 11 .any (Rows.fnExactBoundsAddSpec.pre6 enc Try.prog Try.f11 Rows.fnExactBoundsAddRow.domain false) (Rows.fnExactBoundsAddSpec.post enc Try.prog Try.f11 false true false false) := by
  refine returnsInHanded_of_change (C := Try.checked) lawOwn started (by kernel_rfl) Try.func11
    (ChangeSpec.witness6 (enc := enc) (C := Try.checked) false ⟨#[], #[.slice none 0 0, .agg #[.int .i64 0, .int .i64 0, .int .i64 0]], []⟩ 8 (by kernel_rfl) (by kernel_rfl) (by kernel_rfl) (by kernel_rfl)) ?_
  intro W base args ds gs before hval0 hW hcnd _
  have hval : ∀ (j : Nat) t v, Try.f11.params[j]? = some t → args[j]? = some v → Value.okWide Try.prog W .any base t v := hval0
  have hW' := hW
  obtain ⟨p, q, hA0, hV, rfl, hfz, hnd⟩ := hW
  have hA : DataW.TrodAll enc Try.prog W 0 (fun _ => true) true Try.f11.params.toList args.toList ds p := hA0
  rw [Try.params11] at hA hval
  obtain ⟨v0, vs0, d0, ds0, p0, q0, hargs, rfl, rfl, h0, r0⟩ := trodAll_cons hA
  obtain ⟨v1, vs1, d1, ds1, p1, q1, rfl, rfl, rfl, h1, r1⟩ := trodAll_cons r0
  obtain ⟨rfl, rfl, rfl⟩ := trodAll_nil r1
  obtain rfl : args = #[v0, v1] := by cases args; simp_all
  obtain ⟨rfl, rfl⟩ := trodVars_none hV
  have k0 := h0
  have lt0 : ∀ x ∈ p0, x.block < W.heap.size := by obtain ⟨m, hm⟩ := k0; exact DataW.trod_lt m _ _ _ hm
  obtain ⟨a0, len0, cap0, rfl⟩ := okWide_slice Try.underlying44 (hval 0 44 v0 rfl rfl)
  obtain ⟨l0, hl0, hr0, hm0⟩ : ∃ l : List Ctx, len0 = l.length ∧ Reads W W.heap.size 3 a0 len0 (cellsC l) ∧ len0 ≤ maxLen := by
    obtain ⟨fuel, hf⟩ := h0
    exact open_ctxs Try.underlying44 Try.underlying49 (by kernel_rfl) (by kernel_rfl) rfl rfl rfl Try.underlying3 (by simpa [Value.cells] using hf)
  subst hl0
  have k1 := h1
  have lt1 : ∀ x ∈ p1, x.block < W.heap.size := by obtain ⟨m, hm⟩ := k1; exact DataW.trod_lt m _ _ _ hm
  obtain ⟨c1, rfl⟩ := open_ctx Try.underlying49 (by kernel_rfl) (by kernel_rfl) rfl rfl rfl Try.underlying3 (hval 1 49 v1 rfl rfl) h1
  clear hA0 hval0
  refine (walk a0 cap0 l0 c1 W hr0 hm0).mono fun e W' ⟨he, bel⟩ => ?_
  subst he
  exact ⟨_, rfl, _, _, _, [], _, [], hW', trodAll_mk1 (shut_bool Try.underlying4 _), (trodAll_cons_mk (Below.trod lawLaid (by kernel_rfl) (of_decide_eq_true (by kernel_rfl)) k0 bel lt0) (trodAll_cons_mk (Below.trod lawLaid (by kernel_rfl) (of_decide_eq_true (by kernel_rfl)) k1 bel lt1) trodAll_mk0)), rfl, bel.frame _, fun h => by cases h⟩

theorem proved : Rows.FnExactBoundsAddSaid :=
  OpenClaim.holds_of_wide 11 Try.f11 rfl rfl rfl rfl rfl rfl rfl ⟨rfl, rfl, rfl, rfl, rfl⟩ rfl rfl rfl rfl rfl (by kernel_rfl) Try.func11 (by kernel_rfl)
    (of_decide_eq_true (by kernel_rfl)) (by unfold Func.isWrapper; rw [if_neg (of_decide_eq_false (by kernel_rfl))]; exact ⟨rfl, rfl⟩)
    (fun os started H enc _ => lifted os started H enc)
#print axioms proved
end Go.Proofs.Ytjmbbepklofodaa.exBoundsAdd
