/-
  For every list of points and every point, the program says whether the point is in the shape as the model does, and leaves its argument as it was. No condition.
-/
import Derived.Test.YtfkfjkhikgnnaaaEnt
import Derived.Test.YtfkfjkhikgnnaaaLif
import Derived.Test.YtfkfjkhikgnnaaaMak
import Derived.Test.YtfkfjkhikgnnaaaToP
import Derived.Test.YtfkfjkhikgnnaaaIsh
import Derived.Deep.RegionHeld3
namespace Go.Proofs.Ytfkfjkhikgnnaaa.exShapeHas
open Go.ChangeShapes Go.WideShapes Go.ChangeAt Go.RowKit

/-- A world behind the one in which the argument was laid in a block of its own. -/
def Bx (w : World) (c : Sp) (W : World) : Prop := Below (w.alloc (.cells #[.int .i64 c.lo, .int .i64 c.hi] 46)).heap.size (w.alloc (.cells #[.int .i64 c.lo, .int .i64 c.hi] 46)) W
section
variable {w W W2 : World} {c : Sp}
theorem Bx.cells (h : Bx w c W) : W.cell? ⟨w.heap.size, 0, none⟩ = some (.int .i64 c.lo) ∧ W.cell? ⟨w.heap.size, 1, none⟩ = some (.int .i64 c.hi) := by
  refine ⟨?_, ?_⟩
  · exact (Below.cell h (p := ⟨w.heap.size, 0, none⟩) (by simp)).trans ((cell_of_row _ _ _ _ _ _ (heap_alloc_new _ _)).trans rfl)
  · exact (Below.cell h (p := ⟨w.heap.size, 1, none⟩) (by simp)).trans ((cell_of_row _ _ _ _ _ _ (heap_alloc_new _ _)).trans rfl)
theorem Bx.step (h : Bx w c W) (k : Below W.heap.size W W2) : Bx w c W2 := below_step h k
theorem Bx.draws (h : Bx w c W) (n : Nat) : Bx w c (W.drewN n) := below_draws h n
theorem Bx.below (h : Bx w c W) : Below w.heap.size w W := ((Below.refl _ _).alloc (Nat.le_refl _) _).trans (Below.mono h (by simp))
theorem Bx.reads {A : Option Addr} {n : Nat} {xs : List Value} (h : Bx w c W) (hr : Reads w w.heap.size 2 A n xs) : Reads W W.heap.size 2 A n xs := hr.step h.below
end

set_option maxHeartbeats 4000000 in
set_option maxRecDepth 100000 in
theorem walk (A : Option Addr) (cap : Nat) (l : List Sp) (c : Sp) (w : World) (hr : Reads w w.heap.size 2 A l.length (cellsS l)) (hm : l.length ≤ maxLen) :
    Calls Try.prog 15 #[.slice A l.length cap, .agg #[.int .i64 c.lo, .int .i64 c.hi]] w fun e w2 => e = .returned (.bool true) ∧ Below w.heap.size w w2 := by
  unfold maxLen at hm
  by_cases hn : l.length ≤ 1048576
  · have e0 : decide ((1048576 : Int) - (l.length : Int) < 0) = false := by simp; omega
    have hq := eqLS_self l
    obtain ⟨y, hy⟩ : ∃ y, y = hasS l c := ⟨_, rfl⟩
    have ey : (y != y) = false := by simp
    have HY := Lib.hid hy
    clear hy
    go_enter Try.func15, Try.ntmps15
    go_wp2_with (first
      | (go_at_call 38; go_must (refine (szPoint_any _ _ _ _ hn).mono ?_); rintro e w2 ⟨rfl, rfl⟩))
    have k0 : Bx w c (w.alloc (.cells #[.int .i64 c.lo, .int .i64 c.hi] 46)) := Below.refl _ _
    obtain ⟨s0, s1⟩ := k0.cells
    go_region_held3 (fun w' => w'.cell? ⟨w.heap.size, 0, none⟩ = some (.int .i64 c.lo) ∧ w'.cell? ⟨w.heap.size, 1, none⟩ = some (.int .i64 c.hi))
      (first
        | assumption
        | exact ⟨s0, s1⟩)
      (first
        | (go_at_call 39
           go_must (refine (toSPoint_any _ _ l _ ((k0.draws 1).reads hr) (by omega)).mono ?_)
           rintro e xa ⟨g2, rfl, xh1, ho2⟩
           have xk1 := (k0.draws 1).step xh1
           obtain ⟨s0, s1⟩ := xk1.cells)
        | (go_at_call 41
           go_must (refine (toPoint_any _ _ _).mono ?_)
           rintro e xb ⟨rfl, xh2⟩
           have xk2 := xk1.step xh2
           obtain ⟨s0, s1⟩ := xk2.cells)
        | (go_at_call 30
           go_must (refine (sShHas_any _ _ l c _ ((own_reads ho2).step xh2) (by omega)).mono ?_)
           rintro e xc ⟨rfl, xh3⟩
           rw [← HY.out]
           have xk3 := xk2.step xh3
           obtain ⟨s0, s1⟩ := xk3.cells))
    go_wp2_with fail
    refine (toSPoint_any _ _ l _ (xk3.reads hr) (by omega)).mono ?_
    rintro e w4 ⟨g4, rfl, hb4, ho4⟩
    have k4 := xk3.step hb4
    obtain ⟨s0, s1⟩ := k4.cells
    go_wp2_with fail
    refine (toPoint_any _ _ _).mono ?_
    rintro e w5 ⟨rfl, hb5⟩
    have k5 := k4.step hb5
    go_wp2_with fail
    refine (iShHas_any _ _ l c _ ((own_reads ho4).step hb5) (by omega)).mono ?_
    rintro e w6 ⟨rfl, hb6⟩
    rw [← HY.out]
    have k6 := k5.step hb6
    go_wp2_with fail
    refine (toSPoint_any _ _ l _ (k6.reads hr) (by omega)).mono ?_
    rintro e w8 ⟨g8, rfl, hb8, ho8⟩
    have k8 := k6.step hb8
    go_wp2_with fail
    refine (eqSPoint_any _ _ _ _ l l _ ((own_reads ho4).step (below_step (below_step hb5 hb6) hb8)) (own_reads ho8) (by omega)).mono ?_
    rintro e w9 ⟨rfl, hb9⟩
    have k9 := k8.step hb9
    go_wp2_with fail
    go_ret
    exact ⟨rfl, k9.below⟩
  · go_enter Try.func15, Try.ntmps15
    go_wp2_with (first
      | (go_at_call 38; go_must (refine (szPoint_big _ _ _ _ (by omega) hm).mono ?_); rintro e w2 ⟨rfl, rfl⟩))
    go_ret
    exact ⟨rfl, (Below.refl _ _).alloc (Nat.le_refl _) _⟩

set_option linter.unusedVariables false
set_option maxRecDepth 100000 in
theorem lifted (os : Os) (started : os.Started) (H : Type) (enc : TypeId × Value → H) :
    ReturnsInHanded {} Try.checked os 15 .any (Rows.fnExactShapeHasSpec.pre6 enc Try.prog Try.f15 Rows.fnExactShapeHasRow.domain false) (Rows.fnExactShapeHasSpec.post enc Try.prog Try.f15 false true false false) := by
  refine returnsInHanded_of_change (C := Try.checked) lawOwn started (by kernel_rfl) Try.func15
    (ChangeSpec.witness6 (enc := enc) (C := Try.checked) false ⟨#[], #[.slice none 0 0, .agg #[.int .i64 0, .int .i64 0]], []⟩ 8 (by kernel_rfl) (by kernel_rfl) (by kernel_rfl) (by kernel_rfl)) ?_
  intro W base args ds gs before hval0 hW hcnd _
  have hval : ∀ (j : Nat) t v, Try.f15.params[j]? = some t → args[j]? = some v → Value.okWide Try.prog W .any base t v := hval0
  have hW' := hW
  obtain ⟨p, q, hA0, hV, rfl, hfz, hnd⟩ := hW
  have hA : DataW.TrodAll enc Try.prog W 0 (fun _ => true) true Try.f15.params.toList args.toList ds p := hA0
  rw [Try.params15] at hA hval
  obtain ⟨v0, vs0, d0, ds0, p0, q0, hargs, rfl, rfl, h0, r0⟩ := trodAll_cons hA
  obtain ⟨v1, vs1, d1, ds1, p1, q1, rfl, rfl, rfl, h1, r1⟩ := trodAll_cons r0
  obtain ⟨rfl, rfl, rfl⟩ := trodAll_nil r1
  obtain rfl : args = #[v0, v1] := by cases args; simp_all
  obtain ⟨rfl, rfl⟩ := trodVars_none hV
  have k0 := h0
  have lt0 : ∀ x ∈ p0, x.block < W.heap.size := by obtain ⟨m, hm⟩ := k0; exact DataW.trod_lt m _ _ _ hm
  obtain ⟨a0, len0, cap0, rfl⟩ := okWide_slice Try.underlying42 (hval 0 42 v0 rfl rfl)
  obtain ⟨l0, hl0, hr0, hm0⟩ : ∃ l : List Sp, len0 = l.length ∧ Reads W W.heap.size 2 a0 len0 (cellsS l) ∧ len0 ≤ maxLen := by
    obtain ⟨fuel, hf⟩ := h0
    exact open_points Try.underlying42 Try.underlying46 (by kernel_rfl) (by kernel_rfl) rfl rfl Try.underlying3 (by simpa [Value.cells] using hf)
  subst hl0
  have k1 := h1
  have lt1 : ∀ x ∈ p1, x.block < W.heap.size := by obtain ⟨m, hm⟩ := k1; exact DataW.trod_lt m _ _ _ hm
  obtain ⟨c1, rfl⟩ := open_point Try.underlying46 (by kernel_rfl) (by kernel_rfl) rfl rfl Try.underlying3 (hval 1 46 v1 rfl rfl) h1
  clear hA0 hval0
  refine (walk a0 cap0 l0 c1 W hr0 hm0).mono fun e W' ⟨he, bel⟩ => ?_
  subst he
  exact ⟨_, rfl, _, _, _, [], _, [], hW', trodAll_mk1 (shut_bool Try.underlying4 _), (trodAll_cons_mk (Below.trod lawLaid (by kernel_rfl) (of_decide_eq_true (by kernel_rfl)) k0 bel lt0) (trodAll_cons_mk (Below.trod lawLaid (by kernel_rfl) (of_decide_eq_true (by kernel_rfl)) k1 bel lt1) trodAll_mk0)), rfl, bel.frame _, fun h => by cases h⟩

theorem closed : joinedFacts Try.checked.prog 15 Try.f15 Rows.fnExactShapeHasSpec Rows.fnExactShapeHasRow = true := by
  unfold joinedFacts
  repeat (refine and_t ?_ (by first | (with_reducible exact ent) | (with_reducible refine lif_c ?_; kernel_rfl) | (with_reducible refine mak_c ?_; kernel_rfl) | kernel_rfl))
  kernel_rfl
theorem proved : Rows.FnExactShapeHasSaid :=
  OpenClaim.holds_of_wide 15 Try.f15 rfl rfl rfl rfl rfl rfl rfl ⟨rfl, rfl, rfl, rfl, rfl⟩ rfl rfl rfl rfl rfl (by kernel_rfl) Try.func15 closed
    (of_decide_eq_true (by kernel_rfl)) (by unfold Func.isWrapper; rw [if_neg (of_decide_eq_false (by kernel_rfl))]; exact ⟨rfl, rfl⟩)
    (fun os started H enc _ => lifted os started H enc)
#print axioms proved
end Go.Proofs.Ytfkfjkhikgnnaaa.exShapeHas
