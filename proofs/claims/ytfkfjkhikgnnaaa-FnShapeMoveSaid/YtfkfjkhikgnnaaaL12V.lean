/-
  Whatever bytes are given: a shape moved forth and back is the same, and a moved shape has the same area and as many points. No condition.
-/
import Derived.Test.YtfkfjkhikgnnaaaEnt
import Derived.Test.YtfkfjkhikgnnaaaLif
import Derived.Test.YtfkfjkhikgnnaaaMak
import Derived.Test.YtfkfjkhikgnnaaaOpen
import Derived.Test.YtfkfjkhikgnnaaaIsh
import Derived.Test.YtfkfjkhikgnnaaaGe5
import Derived.Test.YtfkfjkhikgnnaaaSd3
import Derived.Test.YtfkfjkhikgnnaaaToP
namespace Go.Proofs.Ytfkfjkhikgnnaaa.lawShapeMove
open Go.ChangeShapes Go.WideShapes Go.ChangeAt Go.RowKit

set_option maxHeartbeats 8000000 in
set_option maxRecDepth 100000 in
theorem walk_short (A : Option Addr) (c : Nat) (z : List Int) (w : World) (h : Bytes w A c z) (hn : z.length ≤ 1048576) :
    Calls Try.prog 9 #[.slice A z.length c] w fun e w2 => e = .returned (.bool true) ∧ Below w.heap.size w w2 := by
  have e0 : decide ((1048576 : Int) < (z.length : Int)) = false := decide_eq_false (by omega)
  go_enter Try.func9, Try.ntmps9
  go_wp2_with fail
  refine (dShMove_any A c z _ h).mono ?_
  rintro e w2 ⟨v1, L, x, y, rfl, ⟨⟨A2, c2, hv1, hc2, hr2⟩, hL, hb2⟩, hx1, hx2, hy1, hy2⟩
  subst hv1
  obtain ⟨M, hM⟩ : ∃ M, M = moveG L x y := ⟨_, rfl⟩
  obtain ⟨ok, hok⟩ : ∃ ok, ok = moveOk L x y := ⟨_, rfl⟩
  have hML : M.length ≤ L.length := by
    rw [hM]
    unfold moveG
    split
    · rw [moveL_len]; omega
    · simp
  have eok : (ok != ok) = false := by simp
  have eok2 : (ok == ok) = true := by simp
  have HM := Lib.hid (And.intro hM hok)
  clear hM hok
  have hq := eqLS_self M
  go_wp2_with fail
  refine (iShMove_any _ _ L x y _ hr2 (by omega)).mono ?_
  rw [← HM.out.1, ← HM.out.2]
  rintro e w3 ⟨v3, rfl, hb3, ho3⟩
  obtain ⟨A3, c3, hv3, _, hr3⟩ := own_slice ho3
  subst hv3
  go_wp2_with fail
  refine (sShMove_any _ _ L x y _ (hr2.step hb3) (by omega)).mono ?_
  rw [← HM.out.1, ← HM.out.2]
  rintro e w4 ⟨v4, rfl, hb4, ho4⟩
  obtain ⟨A4, c4, hv4, _, hr4⟩ := own_slice ho4
  subst hv4
  have K4 := Lib.hid (And.intro (below_step (below_step hb2 hb3) hb4) (And.intro (hr2.step (below_step hb3 hb4)) (And.intro (hr3.step hb4) hr4)))
  clear hb2 hb3 hb4 hr2 hr3 hr4 ho3 ho4 h
  go_wp2_with fail
  refine (samePoint_any _ _ _ _ M M _ K4.out.2.2.1 K4.out.2.2.2 (by omega)).mono ?_
  rintro e w5 ⟨rfl, hb5⟩
  have K5 := Lib.hid (And.intro (below_step K4.out.1 hb5) (And.intro (K4.out.2.1.step hb5) (And.intro (K4.out.2.2.1.step hb5) (K4.out.2.2.2.step hb5))))
  clear hb5 K4
  cases hv : ok
  · subst hv
    go_wp2_with fail
    refine (samePoint_any _ _ _ _ M M _ K5.out.2.2.1 K5.out.2.2.2 (by omega)).mono ?_
    rintro e w6 ⟨rfl, hb6⟩
    have KE := Lib.hid (below_step K5.out.1 hb6)
    clear hb6
    go_wp2_with fail
    go_ret
    exact ⟨rfl, KE.out⟩
  · subst hv
    have hmo : moveOk L x y = true := HM.out.2.symm
    have hMe : M = moveL L x y := by rw [HM.out.1]; unfold moveG; rw [if_pos hmo]
    have hpa := moveOk_parts hmo
    obtain ⟨xn, hxn⟩ : ∃ xn, 0 - x = xn := ⟨_, rfl⟩
    obtain ⟨yn, hyn⟩ : ∃ yn, 0 - y = yn := ⟨_, rfl⟩
    have hxw : IntKind.i64.wrap xn = xn := by rw [IntKind.wrap_i64]; omega
    have hyw : IntKind.i64.wrap yn = yn := by rw [IntKind.wrap_i64]; omega
    have hbk : moveOk M xn yn = true := by rw [hMe, ← hxn, ← hyn]; exact moveOk_back hmo
    have hbl : moveG M xn yn = L := by unfold moveG; rw [if_pos hbk, hMe, ← hxn, ← hyn]; exact moveL_back L x y
    have hqL := eqLS_self L
    obtain ⟨ar, har⟩ : ∃ ar, ar = areaS L := ⟨_, rfl⟩
    obtain ⟨ct, hct⟩ : ∃ ct, ct = countS L := ⟨_, rfl⟩
    have e1 : (ar == ar) = true := by simp
    have e2 : (ct == ct) = true := by simp
    have HX := Lib.hid (And.intro hbk (And.intro hbl (And.intro har (And.intro (show areaS M = ar by rw [hMe, har]; exact move_area hmo) (And.intro hct (show countS M = ct by rw [hMe, hct]; exact move_count hmo))))))
    clear hbk hbl hMe hmo hpa har hct
    go_wp2_with fail
    refine (iShMove_any _ _ M xn yn _ K5.out.2.2.1 (by omega)).mono ?_
    rw [HX.out.1, HX.out.2.1]
    rintro e w6 ⟨v6, rfl, hb6, ho6⟩
    obtain ⟨A6, c6, hv6, _, hr6⟩ := own_slice ho6
    subst hv6
    have K6 := Lib.hid (And.intro (below_step K5.out.1 hb6) (And.intro (K5.out.2.1.step hb6) (And.intro (K5.out.2.2.1.step hb6) hr6)))
    clear hb6 hr6 ho6
    go_wp2_with fail
    refine (samePoint_any _ _ _ _ L L _ K6.out.2.2.2 K6.out.2.1 (by omega)).mono ?_
    rintro e w7 ⟨rfl, hb7⟩
    have K7 := Lib.hid (And.intro (below_step K6.out.1 hb7) (And.intro (K6.out.2.1.step hb7) (K6.out.2.2.1.step hb7)))
    clear hb7
    go_wp2_with fail
    refine (iShArea_any _ _ M _ K7.out.2.2 (by omega)).mono ?_
    rw [HX.out.2.2.2.1]
    rintro e w8 ⟨rfl, hb8⟩
    have K8 := Lib.hid (And.intro (below_step K7.out.1 hb8) (And.intro (K7.out.2.1.step hb8) (K7.out.2.2.step hb8)))
    clear hb8
    go_wp2_with fail
    refine (iShArea_any _ _ L _ K8.out.2.1 (by omega)).mono ?_
    rw [← HX.out.2.2.1]
    rintro e w9 ⟨rfl, hb9⟩
    have K9 := Lib.hid (And.intro (below_step K8.out.1 hb9) (And.intro (K8.out.2.1.step hb9) (K8.out.2.2.step hb9)))
    clear hb9
    go_wp2_with fail
    refine (iShCount_any _ _ M _ K9.out.2.2 (by omega)).mono ?_
    rw [HX.out.2.2.2.2.2]
    rintro e w10 ⟨rfl, hb10⟩
    have K10 := Lib.hid (And.intro (below_step K9.out.1 hb10) (K9.out.2.1.step hb10))
    clear hb10
    go_wp2_with fail
    refine (iShCount_any _ _ L _ K10.out.2 (by omega)).mono ?_
    rw [← HX.out.2.2.2.2.1]
    rintro e w11 ⟨rfl, hb11⟩
    have KE := Lib.hid (below_step K10.out.1 hb11)
    clear hb11
    go_wp2_with fail
    go_ret
    exact ⟨rfl, KE.out⟩
theorem walk (A : Option Addr) (c : Nat) (z : List Int) (w : World) (h1 : z.length ≤ c) (h2 : Reads w w.heap.size 1 A z.length (cellsB z)) (h3 : ∀ b ∈ z, 0 ≤ b ∧ b ≤ 255) (h4 : c ≤ maxLen) :
    Calls Try.prog 9 #[.slice A z.length c] w fun e w2 => e = .returned (.bool true) ∧ Below w.heap.size w w2 := by
  by_cases hn : z.length ≤ 1048576
  · exact walk_short A c z w (Bytes.mk_ h1 h2 h3 h4) hn
  · have e0 : decide ((1048576 : Int) < (z.length : Int)) = true := decide_eq_true (by omega)
    go_enter Try.func9, Try.ntmps9
    go_wp2_with fail
    go_ret
    exact ⟨rfl, Below.refl _ _⟩

set_option linter.unusedVariables false
set_option maxRecDepth 100000 in
theorem lifted (os : Os) (started : os.Started) (H : Type) (enc : TypeId × Value → H) :
    ReturnsInHanded {} Try.checked os 9 .any (Rows.fnShapeMoveSpec.pre6 enc Try.prog Try.f9 Rows.fnShapeMoveRow.domain false) (Rows.fnShapeMoveSpec.post enc Try.prog Try.f9 false true false false) := by
  refine returnsInHanded_of_change (C := Try.checked) lawOwn started (by kernel_rfl) Try.func9
    (ChangeSpec.witness6 (enc := enc) (C := Try.checked) false ⟨#[], #[.slice none 0 0], []⟩ 8 (by kernel_rfl) (by kernel_rfl) (by kernel_rfl) (by kernel_rfl)) ?_
  intro W base args ds gs before hval0 hW hcnd _
  have hval : ∀ (j : Nat) t v, Try.f9.params[j]? = some t → args[j]? = some v → Value.okWide Try.prog W .any base t v := hval0
  have hW' := hW
  obtain ⟨p, q, hA0, hV, rfl, hfz, hnd⟩ := hW
  have hA : DataW.TrodAll enc Try.prog W 0 (fun _ => true) true Try.f9.params.toList args.toList ds p := hA0
  rw [Try.params9] at hA hval
  obtain ⟨v0, vs0, d0, ds0, p0, q0, hargs, rfl, rfl, h0, r0⟩ := trodAll_cons hA
  obtain ⟨rfl, rfl, rfl⟩ := trodAll_nil r0
  obtain rfl : args = #[v0] := by cases args; simp_all
  obtain ⟨rfl, rfl⟩ := trodVars_none hV
  have k0 := h0
  have lt0 : ∀ x ∈ p0, x.block < W.heap.size := by obtain ⟨m, hm⟩ := k0; exact DataW.trod_lt m _ _ _ hm
  obtain ⟨a0, len0, cap0, rfl⟩ := okWide_slice Try.underlying22 (hval 0 22 v0 rfl rfl)
  obtain ⟨z0, hl0, hc0, hr0, hb0, hm0⟩ : ∃ z : List Int, len0 = z.length ∧ len0 ≤ cap0 ∧ Reads W W.heap.size 1 a0 len0 (cellsB z) ∧ (∀ b ∈ z, 0 ≤ b ∧ b ≤ 255) ∧ cap0 ≤ maxLen := by
    obtain ⟨fuel, hf⟩ := h0
    exact open_bytes Try.underlying22 Try.underlying5 (by kernel_rfl) (by simpa [Value.cells] using hf)
  subst hl0
  clear hA0 hval0
  refine (walk a0 cap0 z0 W hc0 hr0 hb0 hm0).mono fun e W' ⟨he, bel⟩ => ?_
  subst he
  exact ⟨_, rfl, _, _, _, [], _, [], hW', trodAll_mk1 (shut_bool Try.underlying4 _), (trodAll_cons_mk (Below.trod lawLaid (by kernel_rfl) (of_decide_eq_true (by kernel_rfl)) k0 bel lt0) trodAll_mk0), rfl, bel.frame _, fun h => by cases h⟩

theorem closed : joinedFacts Try.checked.prog 9 Try.f9 Rows.fnShapeMoveSpec Rows.fnShapeMoveRow = true := by
  unfold joinedFacts
  repeat (refine and_t ?_ (by first | (with_reducible exact ent) | (with_reducible refine lif_c ?_; kernel_rfl) | (with_reducible refine mak_c ?_; kernel_rfl) | kernel_rfl))
  kernel_rfl
theorem proved : Rows.FnShapeMoveSaid :=
  OpenClaim.holds_of_wide 9 Try.f9 rfl rfl rfl rfl rfl rfl rfl ⟨rfl, rfl, rfl, rfl, rfl⟩ rfl rfl rfl rfl rfl (by kernel_rfl) Try.func9 closed
    (of_decide_eq_true (by kernel_rfl)) (by unfold Func.isWrapper; rw [if_neg (of_decide_eq_false (by kernel_rfl))]; exact ⟨rfl, rfl⟩)
    (fun os started H enc _ => lifted os started H enc)
#print axioms proved
end Go.Proofs.Ytfkfjkhikgnnaaa.lawShapeMove
