/-
  For every list of points, the program's check of a shape answers as the model does, and leaves its argument as it was. No condition.
-/
import Derived.Test.YtfkfjkhikgnnaaaEnt
import Derived.Test.YtfkfjkhikgnnaaaLif
import Derived.Test.YtfkfjkhikgnnaaaMak
import Derived.Test.YtfkfjkhikgnnaaaToP
import Derived.Test.YtfkfjkhikgnnaaaIsh
namespace Go.Proofs.Ytfkfjkhikgnnaaa.exShapeValid
open Go.ChangeShapes Go.WideShapes Go.ChangeAt Go.RowKit

set_option maxHeartbeats 1000000 in
set_option maxRecDepth 100000 in
theorem walk (A : Option Addr) (cap : Nat) (l : List Sp) (w : World) (hr : Reads w w.heap.size 2 A l.length (cellsS l)) (hm : l.length ≤ maxLen) :
    Calls Try.prog 13 #[.slice A l.length cap] w fun e w2 => e = .returned (.bool true) ∧ Below w.heap.size w w2 := by
  unfold maxLen at hm
  by_cases hn : l.length ≤ 1048576
  · have e0 : decide ((1048576 : Int) - (l.length : Int) < 0) = false := by simp; omega
    have hq := eqLS_self l
    obtain ⟨y, hy⟩ : ∃ y, y = okSh l := ⟨_, rfl⟩
    have ey : (y != y) = false := by simp
    have HY := Lib.hid hy
    clear hy
    go_enter Try.func13, Try.ntmps13
    go_wp2_with (first
      | (go_at_call 38; go_must (refine (szPoint_any _ _ _ _ hn).mono ?_); rintro e w2 ⟨rfl, rfl⟩))
    refine (toSPoint_any _ _ l _ hr (by omega)).mono ?_
    rintro e w2 ⟨g2, rfl, hb2, ho2⟩
    go_wp2_with fail
    refine (sShValid_any _ _ l _ (own_reads ho2) (by omega)).mono ?_
    rintro e w3 ⟨rfl, hb3⟩
    rw [← HY.out]
    have k3 := below_step hb2 hb3
    go_wp2_with fail
    refine (toSPoint_any _ _ l _ (hr.step k3) (by omega)).mono ?_
    rintro e w4 ⟨g4, rfl, hb4, ho4⟩
    have k4 := below_step k3 hb4
    go_wp2_with fail
    refine (iShValid_any _ _ l _ (own_reads ho4) (by omega)).mono ?_
    rintro e w5 ⟨rfl, hb5⟩
    rw [← HY.out]
    have k5 := below_step k4 hb5
    go_wp2_with fail
    refine (toSPoint_any _ _ l _ (hr.step k5) (by omega)).mono ?_
    rintro e w6 ⟨g6, rfl, hb6, ho6⟩
    have k6 := below_step k5 hb6
    go_wp2_with fail
    refine (eqSPoint_any _ _ _ _ l l _ ((own_reads ho4).step (below_step hb5 hb6)) (own_reads ho6) (by omega)).mono ?_
    rintro e w7 ⟨rfl, hb7⟩
    have k7 := below_step k6 hb7
    go_wp2_with fail
    go_ret
    exact ⟨rfl, k7⟩
  · go_enter Try.func13, Try.ntmps13
    go_wp2_with (first
      | (go_at_call 38; go_must (refine (szPoint_big _ _ _ _ (by omega) hm).mono ?_); rintro e w2 ⟨rfl, rfl⟩))
    go_ret
    exact ⟨rfl, Below.refl _ _⟩

set_option linter.unusedVariables false
set_option maxRecDepth 100000 in
theorem lifted (os : Os) (started : os.Started) (H : Type) (enc : TypeId × Value → H) :
    ReturnsInHanded {} Try.checked os 13 .any (Rows.fnExactShapeValidSpec.pre6 enc Try.prog Try.f13 Rows.fnExactShapeValidRow.domain false) (Rows.fnExactShapeValidSpec.post enc Try.prog Try.f13 false true false false) := by
  refine returnsInHanded_of_change (C := Try.checked) lawOwn started (by kernel_rfl) Try.func13
    (ChangeSpec.witness6 (enc := enc) (C := Try.checked) false ⟨#[], #[.slice none 0 0], []⟩ 8 (by kernel_rfl) (by kernel_rfl) (by kernel_rfl) (by kernel_rfl)) ?_
  intro W base args ds gs before hval0 hW hcnd _
  have hval : ∀ (j : Nat) t v, Try.f13.params[j]? = some t → args[j]? = some v → Value.okWide Try.prog W .any base t v := hval0
  have hW' := hW
  obtain ⟨p, q, hA0, hV, rfl, hfz, hnd⟩ := hW
  have hA : DataW.TrodAll enc Try.prog W 0 (fun _ => true) true Try.f13.params.toList args.toList ds p := hA0
  rw [Try.params13] at hA hval
  obtain ⟨v0, vs0, d0, ds0, p0, q0, hargs, rfl, rfl, h0, r0⟩ := trodAll_cons hA
  obtain ⟨rfl, rfl, rfl⟩ := trodAll_nil r0
  obtain rfl : args = #[v0] := by cases args; simp_all
  obtain ⟨rfl, rfl⟩ := trodVars_none hV
  have k0 := h0
  have lt0 : ∀ x ∈ p0, x.block < W.heap.size := by obtain ⟨m, hm⟩ := k0; exact DataW.trod_lt m _ _ _ hm
  obtain ⟨a0, len0, cap0, rfl⟩ := okWide_slice Try.underlying42 (hval 0 42 v0 rfl rfl)
  obtain ⟨l0, hl0, hr0, hm0⟩ : ∃ l : List Sp, len0 = l.length ∧ Reads W W.heap.size 2 a0 len0 (cellsS l) ∧ len0 ≤ maxLen := by
    obtain ⟨fuel, hf⟩ := h0
    exact open_points Try.underlying42 Try.underlying46 (by kernel_rfl) (by kernel_rfl) rfl rfl Try.underlying3 (by simpa [Value.cells] using hf)
  subst hl0
  clear hA0 hval0
  refine (walk a0 cap0 l0 W hr0 hm0).mono fun e W' ⟨he, bel⟩ => ?_
  subst he
  exact ⟨_, rfl, _, _, _, [], _, [], hW', trodAll_mk1 (shut_bool Try.underlying4 _), (trodAll_cons_mk (Below.trod lawLaid (by kernel_rfl) (of_decide_eq_true (by kernel_rfl)) k0 bel lt0) trodAll_mk0), rfl, bel.frame _, fun h => by cases h⟩

theorem closed : joinedFacts Try.checked.prog 13 Try.f13 Rows.fnExactShapeValidSpec Rows.fnExactShapeValidRow = true := by
  unfold joinedFacts
  repeat (refine and_t ?_ (by first | (with_reducible exact ent) | (with_reducible refine lif_c ?_; kernel_rfl) | (with_reducible refine mak_c ?_; kernel_rfl) | kernel_rfl))
  kernel_rfl
theorem proved : Rows.FnExactShapeValidSaid :=
  OpenClaim.holds_of_wide 13 Try.f13 rfl rfl rfl rfl rfl rfl rfl ⟨rfl, rfl, rfl, rfl, rfl⟩ rfl rfl rfl rfl rfl (by kernel_rfl) Try.func13 closed
    (of_decide_eq_true (by kernel_rfl)) (by unfold Func.isWrapper; rw [if_neg (of_decide_eq_false (by kernel_rfl))]; exact ⟨rfl, rfl⟩)
    (fun os started H enc _ => lifted os started H enc)
#print axioms proved
end Go.Proofs.Ytfkfjkhikgnnaaa.exShapeValid
