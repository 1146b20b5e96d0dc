/-
  Whatever bytes are given: what is in a shape drawn from them is in its box. No condition.
-/
import Derived.Test.YtfkfjkhikgnnaaaEnt
import Derived.Test.YtfkfjkhikgnnaaaLif
import Derived.Test.YtfkfjkhikgnnaaaMak
import Derived.Test.YtfkfjkhikgnnaaaOpen
import Derived.Test.YtfkfjkhikgnnaaaIsh
import Derived.Test.YtfkfjkhikgnnaaaGe5
import Derived.Test.YtfkfjkhikgnnaaaSd4
import Derived.Test.YtfkfjkhikgnnaaaToP
namespace Go.Proofs.Ytfkfjkhikgnnaaa.lawShapeOut
open Go.ChangeShapes Go.WideShapes Go.ChangeAt Go.RowKit

set_option maxHeartbeats 8000000 in
set_option maxRecDepth 100000 in
theorem walk_short (A : Option Addr) (c : Nat) (z : List Int) (w : World) (h : Bytes w A c z) (hn : z.length ≤ 1048576) :
    Calls Try.prog 7 #[.slice A z.length c] w fun e w2 => e = .returned (.bool true) ∧ Below w.heap.size w w2 := by
  have e0 : decide ((1048576 : Int) < (z.length : Int)) = false := decide_eq_false (by omega)
  go_enter Try.func7, Try.ntmps7
  go_wp2_with fail
  refine (dShHas_any A c z _ h).mono ?_
  rintro e w2 ⟨v1, L, p, rfl, ⟨A2, c2, hv1, hc2, hr2⟩, hL, hb2⟩
  subst hv1
  have j2 := (Below.refl w2.heap.size w2).alloc (Nat.le_refl _) (.cells #[.int .i64 p.lo, .int .i64 p.hi] 27)
  have hp2 := PtAt.new w2 p
  obtain ⟨p0, p1⟩ := hp2.cells
  obtain ⟨ok, hok⟩ : ∃ ok, ok = hasS L p := ⟨_, rfl⟩
  have HOK := Lib.hid hok
  have HP2 := Lib.hid hp2
  clear hok hp2
  go_wp2_with fail
  generalize w2.alloc (.cells #[.int .i64 p.lo, .int .i64 p.hi] 27) = V2 at j2 HP2 p0 p1 ⊢
  refine (iShHas_any _ _ L p _ (hr2.step j2) (by omega)).mono ?_
  rw [← HOK.out]
  rintro e w3 ⟨rfl, hb3⟩
  have hp3 := HP2.out.step hb3
  obtain ⟨p0, p1⟩ := hp3.cells
  have HP3 := Lib.hid hp3
  clear hp3
  go_wp2_with fail
  refine (sShHas_any _ _ L p _ (hr2.step (below_step j2 hb3)) (by omega)).mono ?_
  rw [← HOK.out]
  rintro e w4 ⟨rfl, hb4⟩
  have K4 := Lib.hid (And.intro (below_step hb2 (below_step (below_step j2 hb3) hb4)) (And.intro (hr2.step (below_step (below_step j2 hb3) hb4)) (HP3.out.step hb4)))
  have hs2 : w2.heap.size < w4.heap.size := (HP3.out.step hb4).lt
  clear hb2 j2 hb3 hb4 hr2 h p0 p1 HP2 HP3
  cases hv : ok
  · go_wp2_with fail
    go_ret
    exact ⟨rfl, K4.out.1⟩
  · subst hv
    have hh := HOK.out.symm
    have hbx := has_box hh
    have hbo : okSh L = true := (hasS_parts hh).1
    have ha : boxA L = boxLo L := by unfold boxA; rw [if_pos hbo]
    have hb : boxB L = boxHi L := by unfold boxB; rw [if_pos hbo]
    obtain ⟨a, ha2⟩ : ∃ a, a = boxLo L := ⟨_, rfl⟩
    obtain ⟨b, hb2⟩ : ∃ b, b = boxHi L := ⟨_, rfl⟩
    rw [← ha2] at ha hbx
    rw [← hb2] at hb hbx
    have HX := Lib.hid (And.intro hbo (And.intro ha hb))
    obtain ⟨t1, t2, t3, t4⟩ := hbx
    have e1 : decide (a.lo ≤ p.lo) = true := decide_eq_true t1
    have e2 : decide (p.lo ≤ b.lo) = true := decide_eq_true t2
    have e3 : decide (a.hi ≤ p.hi) = true := decide_eq_true t3
    have e4 : decide (p.hi ≤ b.hi) = true := decide_eq_true t4
    clear hh hbo ha hb ha2 hb2
    go_wp2_with fail
    refine (iShBox_any _ _ L _ K4.out.2.1 (by omega)).mono ?_
    rw [HX.out.1, HX.out.2.1, HX.out.2.2]
    rintro e w5 ⟨rfl, hb5⟩
    obtain ⟨j5, pa, pb⟩ := pts_two w5 a b
    have pp := (K4.out.2.2.step hb5).step j5
    obtain ⟨p0, p1⟩ := pp.cells
    obtain ⟨a0, a1⟩ := pa.cells
    obtain ⟨b0, b1⟩ := pb.cells
    have KE := Lib.hid (below_step (below_step K4.out.1 hb5) j5)
    clear pp pa pb j5 hb5
    go_wp2_with fail
    go_ret
    exact ⟨rfl, KE.out⟩
theorem walk (A : Option Addr) (c : Nat) (z : List Int) (w : World) (h1 : z.length ≤ c) (h2 : Reads w w.heap.size 1 A z.length (cellsB z)) (h3 : ∀ b ∈ z, 0 ≤ b ∧ b ≤ 255) (h4 : c ≤ maxLen) :
    Calls Try.prog 7 #[.slice A z.length c] w fun e w2 => e = .returned (.bool true) ∧ Below w.heap.size w w2 := by
  by_cases hn : z.length ≤ 1048576
  · exact walk_short A c z w (Bytes.mk_ h1 h2 h3 h4) hn
  · have e0 : decide ((1048576 : Int) < (z.length : Int)) = true := decide_eq_true (by omega)
    go_enter Try.func7, Try.ntmps7
    go_wp2_with fail
    go_ret
    exact ⟨rfl, Below.refl _ _⟩

set_option linter.unusedVariables false
set_option maxRecDepth 100000 in
theorem lifted (os : Os) (started : os.Started) (H : Type) (enc : TypeId × Value → H) :
    ReturnsInHanded {} Try.checked os 7 .any (Rows.fnShapeOutSpec.pre6 enc Try.prog Try.f7 Rows.fnShapeOutRow.domain false) (Rows.fnShapeOutSpec.post enc Try.prog Try.f7 false true false false) := by
  refine returnsInHanded_of_change (C := Try.checked) lawOwn started (by kernel_rfl) Try.func7
    (ChangeSpec.witness6 (enc := enc) (C := Try.checked) false ⟨#[], #[.slice none 0 0], []⟩ 8 (by kernel_rfl) (by kernel_rfl) (by kernel_rfl) (by kernel_rfl)) ?_
  intro W base args ds gs before hval0 hW hcnd _
  have hval : ∀ (j : Nat) t v, Try.f7.params[j]? = some t → args[j]? = some v → Value.okWide Try.prog W .any base t v := hval0
  have hW' := hW
  obtain ⟨p, q, hA0, hV, rfl, hfz, hnd⟩ := hW
  have hA : DataW.TrodAll enc Try.prog W 0 (fun _ => true) true Try.f7.params.toList args.toList ds p := hA0
  rw [Try.params7] at hA hval
  obtain ⟨v0, vs0, d0, ds0, p0, q0, hargs, rfl, rfl, h0, r0⟩ := trodAll_cons hA
  obtain ⟨rfl, rfl, rfl⟩ := trodAll_nil r0
  obtain rfl : args = #[v0] := by cases args; simp_all
  obtain ⟨rfl, rfl⟩ := trodVars_none hV
  have k0 := h0
  have lt0 : ∀ x ∈ p0, x.block < W.heap.size := by obtain ⟨m, hm⟩ := k0; exact DataW.trod_lt m _ _ _ hm
  obtain ⟨a0, len0, cap0, rfl⟩ := okWide_slice Try.underlying22 (hval 0 22 v0 rfl rfl)
  obtain ⟨z0, hl0, hc0, hr0, hb0, hm0⟩ : ∃ z : List Int, len0 = z.length ∧ len0 ≤ cap0 ∧ Reads W W.heap.size 1 a0 len0 (cellsB z) ∧ (∀ b ∈ z, 0 ≤ b ∧ b ≤ 255) ∧ cap0 ≤ maxLen := by
    obtain ⟨fuel, hf⟩ := h0
    exact open_bytes Try.underlying22 Try.underlying5 (by kernel_rfl) (by simpa [Value.cells] using hf)
  subst hl0
  clear hA0 hval0
  refine (walk a0 cap0 z0 W hc0 hr0 hb0 hm0).mono fun e W' ⟨he, bel⟩ => ?_
  subst he
  exact ⟨_, rfl, _, _, _, [], _, [], hW', trodAll_mk1 (shut_bool Try.underlying4 _), (trodAll_cons_mk (Below.trod lawLaid (by kernel_rfl) (of_decide_eq_true (by kernel_rfl)) k0 bel lt0) trodAll_mk0), rfl, bel.frame _, fun h => by cases h⟩

theorem closed : joinedFacts Try.checked.prog 7 Try.f7 Rows.fnShapeOutSpec Rows.fnShapeOutRow = true := by
  unfold joinedFacts
  repeat (refine and_t ?_ (by first | (with_reducible exact ent) | (with_reducible refine lif_c ?_; kernel_rfl) | (with_reducible refine mak_c ?_; kernel_rfl) | kernel_rfl))
  kernel_rfl
theorem proved : Rows.FnShapeOutSaid :=
  OpenClaim.holds_of_wide 7 Try.f7 rfl rfl rfl rfl rfl rfl rfl ⟨rfl, rfl, rfl, rfl, rfl⟩ rfl rfl rfl rfl rfl (by kernel_rfl) Try.func7 closed
    (of_decide_eq_true (by kernel_rfl)) (by unfold Func.isWrapper; rw [if_neg (of_decide_eq_false (by kernel_rfl))]; exact ⟨rfl, rfl⟩)
    (fun os started H enc _ => lifted os started H enc)
#print axioms proved
end Go.Proofs.Ytfkfjkhikgnnaaa.lawShapeOut
