/-
  For every list of points, the program's box answers as the model does, and leaves its argument as it was. No condition.
-/
import Derived.Test.YtfkfjkhikgnnaaaEnt
import Derived.Test.YtfkfjkhikgnnaaaLif
import Derived.Test.YtfkfjkhikgnnaaaMak
import Derived.Test.YtfkfjkhikgnnaaaToP
import Derived.Test.YtfkfjkhikgnnaaaIsh
import Derived.Deep.RegionHeld3
namespace Go.Proofs.Ytfkfjkhikgnnaaa.exShapeBox
open Go.ChangeShapes Go.WideShapes Go.ChangeAt Go.RowKit

set_option maxHeartbeats 4000000 in
set_option maxRecDepth 100000 in
theorem walk (A : Option Addr) (cap : Nat) (l : List Sp) (w : World) (hr : Reads w w.heap.size 2 A l.length (cellsS l)) (hm : l.length ≤ maxLen) :
    Calls Try.prog 17 #[.slice A l.length cap] w fun e w2 => e = .returned (.bool true) ∧ Below w.heap.size w w2 := by
  unfold maxLen at hm
  by_cases hn : l.length ≤ 1048576
  · have e0 : decide ((1048576 : Int) - (l.length : Int) < 0) = false := by simp; omega
    have hq := eqLS_self l
    obtain ⟨a, ha⟩ : ∃ a, a = boxA l := ⟨_, rfl⟩
    obtain ⟨b, hb⟩ : ∃ b, b = boxB l := ⟨_, rfl⟩
    obtain ⟨ok, hok⟩ : ∃ ok, ok = okSh l := ⟨_, rfl⟩
    have eok : (ok != ok) = false := by simp
    have HM := Lib.hid (And.intro ha (And.intro hb hok))
    clear ha hb hok
    have hsa : eqS a a = true := (eqS_iff a a).2 rfl
    have hsb : eqS b b = true := (eqS_iff b b).2 rfl
    go_enter Try.func17, Try.ntmps17
    go_wp2_with (first
      | (go_at_call 38; go_must (refine (szPoint_any _ _ _ _ hn).mono ?_); rintro e w2 ⟨rfl, rfl⟩))
    refine (toSPoint_any _ _ l _ hr (by omega)).mono ?_
    rintro e w2 ⟨g2, rfl, hb2, ho2⟩
    go_wp2_with fail
    refine (sShBox_any _ _ l _ (own_reads ho2) (by omega)).mono ?_
    rw [← HM.out.1, ← HM.out.2.1, ← HM.out.2.2]
    rintro e w3 ⟨rfl, hb3⟩
    have k3 := below_step hb2 hb3
    go_wp2_with fail
    obtain ⟨j3, pa, pb⟩ := pts_two w3 a b
    generalize (w3.alloc (.cells #[.int .i64 a.lo, .int .i64 a.hi] 27)).alloc (.cells #[.int .i64 b.lo, .int .i64 b.hi] 27) = V3 at j3 pa pb ⊢
    have l3 := below_step k3 j3
    refine (toSPoint_any _ _ l _ (hr.step l3) (by omega)).mono ?_
    rintro e w4 ⟨g4, rfl, hb4, ho4⟩
    have k4 := below_step l3 hb4
    go_wp2_with fail
    refine (iShBox_any _ _ l _ (own_reads ho4) (by omega)).mono ?_
    rw [← HM.out.1, ← HM.out.2.1, ← HM.out.2.2]
    rintro e w6 ⟨rfl, hb6⟩
    have k6 := below_step k4 hb6
    obtain ⟨j6, pc, pd⟩ := pts_two w6 a b
    have pa6 := (pa.step (below_step hb4 hb6)).step j6
    have pb6 := (pb.step (below_step hb4 hb6)).step j6
    have l6 := below_step k6 j6
    have r4 := (own_reads ho4).step (below_step hb6 j6)
    obtain ⟨a0, a1⟩ := pa6.cells
    obtain ⟨b0, b1⟩ := pb6.cells
    obtain ⟨c0, c1⟩ := pc.cells
    obtain ⟨d0, d1⟩ := pd.cells
    have HP := Lib.hid (And.intro pa6 (And.intro pb6 (And.intro pc pd)))
    clear pa pb pa6 pb6 pc pd j6 j3
    obtain ⟨x1, hx1⟩ : ∃ x1, x1 = w6.heap.size := ⟨_, rfl⟩
    obtain ⟨x2, hx2⟩ : ∃ x2, x2 = w6.heap.size + 1 := ⟨_, rfl⟩
    go_wp2_with fail
    generalize (w6.alloc (.cells #[.int .i64 a.lo, .int .i64 a.hi] 27)).alloc (.cells #[.int .i64 b.lo, .int .i64 b.hi] 27) = V6 at l6 r4 HP ⊢
    refine (eqPoint_any _ _ _ _ _).mono ?_
    rintro e w7 ⟨rfl, hb7⟩
    have k7 := below_step l6 hb7
    obtain ⟨b0, b1⟩ := (HP.out.2.1.step hb7).cells
    obtain ⟨d0, d1⟩ := (HP.out.2.2.2.step hb7).cells
    go_wp2_with fail
    refine (eqPoint_any _ _ _ _ _).mono ?_
    rintro e w8 ⟨rfl, hb8⟩
    have k8 := below_step k7 hb8
    go_wp2_with fail
    refine (toSPoint_any _ _ l _ (hr.step k8) (by omega)).mono ?_
    rintro e w9 ⟨g9, rfl, hb9, ho9⟩
    have k9 := below_step k8 hb9
    go_wp2_with fail
    refine (eqSPoint_any _ _ _ _ l l _ (r4.step (below_step (below_step hb7 hb8) hb9)) (own_reads ho9) (by omega)).mono ?_
    rintro e w10 ⟨rfl, hb10⟩
    have k10 := below_step k9 hb10
    go_wp2_with fail
    go_ret
    exact ⟨rfl, k10⟩
  · go_enter Try.func17, Try.ntmps17
    go_wp2_with (first
      | (go_at_call 38; go_must (refine (szPoint_big _ _ _ _ (by omega) hm).mono ?_); rintro e w2 ⟨rfl, rfl⟩))
    go_ret
    exact ⟨rfl, Below.refl _ _⟩

set_option linter.unusedVariables false
set_option maxRecDepth 100000 in
theorem lifted (os : Os) (started : os.Started) (H : Type) (enc : TypeId × Value → H) :
    ReturnsInHanded {} Try.checked os 17 .any (Rows.fnExactShapeBoxSpec.pre6 enc Try.prog Try.f17 Rows.fnExactShapeBoxRow.domain false) (Rows.fnExactShapeBoxSpec.post enc Try.prog Try.f17 false true false false) := by
  refine returnsInHanded_of_change (C := Try.checked) lawOwn started (by kernel_rfl) Try.func17
    (ChangeSpec.witness6 (enc := enc) (C := Try.checked) false ⟨#[], #[.slice none 0 0], []⟩ 8 (by kernel_rfl) (by kernel_rfl) (by kernel_rfl) (by kernel_rfl)) ?_
  intro W base args ds gs before hval0 hW hcnd _
  have hval : ∀ (j : Nat) t v, Try.f17.params[j]? = some t → args[j]? = some v → Value.okWide Try.prog W .any base t v := hval0
  have hW' := hW
  obtain ⟨p, q, hA0, hV, rfl, hfz, hnd⟩ := hW
  have hA : DataW.TrodAll enc Try.prog W 0 (fun _ => true) true Try.f17.params.toList args.toList ds p := hA0
  rw [Try.params17] at hA hval
  obtain ⟨v0, vs0, d0, ds0, p0, q0, hargs, rfl, rfl, h0, r0⟩ := trodAll_cons hA
  obtain ⟨rfl, rfl, rfl⟩ := trodAll_nil r0
  obtain rfl : args = #[v0] := by cases args; simp_all
  obtain ⟨rfl, rfl⟩ := trodVars_none hV
  have k0 := h0
  have lt0 : ∀ x ∈ p0, x.block < W.heap.size := by obtain ⟨m, hm⟩ := k0; exact DataW.trod_lt m _ _ _ hm
  obtain ⟨a0, len0, cap0, rfl⟩ := okWide_slice Try.underlying42 (hval 0 42 v0 rfl rfl)
  obtain ⟨l0, hl0, hr0, hm0⟩ : ∃ l : List Sp, len0 = l.length ∧ Reads W W.heap.size 2 a0 len0 (cellsS l) ∧ len0 ≤ maxLen := by
    obtain ⟨fuel, hf⟩ := h0
    exact open_points Try.underlying42 Try.underlying46 (by kernel_rfl) (by kernel_rfl) rfl rfl Try.underlying3 (by simpa [Value.cells] using hf)
  subst hl0
  clear hA0 hval0
  refine (walk a0 cap0 l0 W hr0 hm0).mono fun e W' ⟨he, bel⟩ => ?_
  subst he
  exact ⟨_, rfl, _, _, _, [], _, [], hW', trodAll_mk1 (shut_bool Try.underlying4 _), (trodAll_cons_mk (Below.trod lawLaid (by kernel_rfl) (of_decide_eq_true (by kernel_rfl)) k0 bel lt0) trodAll_mk0), rfl, bel.frame _, fun h => by cases h⟩

theorem closed : joinedFacts Try.checked.prog 17 Try.f17 Rows.fnExactShapeBoxSpec Rows.fnExactShapeBoxRow = true := by
  unfold joinedFacts
  repeat (refine and_t ?_ (by first | (with_reducible exact ent) | (with_reducible refine lif_c ?_; kernel_rfl) | (with_reducible refine mak_c ?_; kernel_rfl) | kernel_rfl))
  kernel_rfl
theorem proved : Rows.FnExactShapeBoxSaid :=
  OpenClaim.holds_of_wide 17 Try.f17 rfl rfl rfl rfl rfl rfl rfl ⟨rfl, rfl, rfl, rfl, rfl⟩ rfl rfl rfl rfl rfl (by kernel_rfl) Try.func17 closed
    (of_decide_eq_true (by kernel_rfl)) (by unfold Func.isWrapper; rw [if_neg (of_decide_eq_false (by kernel_rfl))]; exact ⟨rfl, rfl⟩)
    (fun os started H enc _ => lifted os started H enc)
#print axioms proved
end Go.Proofs.Ytfkfjkhikgnnaaa.exShapeBox
