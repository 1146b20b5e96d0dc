/-
  For every list of relations, the program's text of a list of relations is the model's, and leaves its argument as it was. No condition.
-/
import Derived.Test.YtbbjdpmffokcfaaDoorOpen
import Derived.Test.YtbbjdpmffokcfaaDoorTp
import Derived.Test.YtbbjdpmffokcfaaDoorCd
namespace Go.Proofs.YtbbjdpmffokcfaaDoor.exText
open Go.ChangeShapes Go.WideShapes Go.ChangeAt Go.RowKit

set_option maxHeartbeats 1000000 in
set_option maxRecDepth 100000 in
theorem walk (A : Option Addr) (cap : Nat) (l : List Ctx) (w : World) (hr : Reads w w.heap.size 3 A l.length (cellsC l)) (hm : l.length ≤ maxLen) :
    Calls Tryd.prog 6 #[.slice A l.length cap] w fun e w2 => e = .returned (.bool true) ∧ Below w.heap.size w w2 := by
  unfold maxLen at hm
  by_cases hn : l.length ≤ 1048576
  · have e0 : decide ((1048576 : Int) - (l.length : Int) < 0) = false := by simp; omega
    have hq := eqLC_self l
    go_enter Tryd.func6, Tryd.ntmps6
    go_wp2_with (first
      | (go_at_call 17; go_must (refine (szRel_any _ _ _ _ hn).mono ?_); rintro e w2 ⟨rfl, rfl⟩))
    refine (toSRel_any _ _ l _ hr (by omega)).mono ?_
    rintro e w2 ⟨g2, rfl, hb2, ho2⟩
    go_wp2_with fail
    refine (sText_any _ _ l _ (own_reads ho2) (by omega)).mono ?_
    rintro e w3 ⟨rfl, hb3⟩
    have k3 := below_step hb2 hb3
    go_wp2_with fail
    refine (toSRel_any _ _ l _ (hr.step k3) (by omega)).mono ?_
    rintro e w4 ⟨g4, rfl, hb4, ho4⟩
    have k4 := below_step k3 hb4
    go_wp2_with fail
    refine (iText_any _ _ l _ (own_reads ho4) (by omega)).mono ?_
    rintro e w5 ⟨rfl, hb5⟩
    have k5 := below_step k4 hb5
    go_wp2_with fail
    refine (toSRel_any _ _ l _ (hr.step k5) (by omega)).mono ?_
    rintro e w6 ⟨g6, rfl, hb6, ho6⟩
    have k6 := below_step k5 hb6
    go_wp2_with fail
    refine (eqSRel_any _ _ _ _ l l _ ((own_reads ho4).step (below_step hb5 hb6)) (own_reads ho6) (by omega)).mono ?_
    rintro e w7 ⟨rfl, hb7⟩
    have k7 := below_step k6 hb7
    go_wp2_with fail
    go_ret
    exact ⟨rfl, k7⟩
  · go_enter Tryd.func6, Tryd.ntmps6
    go_wp2_with (first
      | (go_at_call 17; go_must (refine (szRel_big _ _ _ _ (by omega) hm).mono ?_); rintro e w2 ⟨rfl, rfl⟩))
    go_ret
    exact ⟨rfl, Below.refl _ _⟩

set_option linter.unusedVariables false
set_option maxRecDepth 100000 in
theorem lifted (os : Os) (started : os.Started) (H : Type) (enc : TypeId × Value → H) :
    ReturnsInHanded {} Tryd.checked os 6 .any (fun w args => (Rows.fnExactRelsTextSpec.pre enc Tryd.prog Tryd.f6 [] false w args ∧ laidMetH Tryd.prog Rows.fnExactRelsTextRow.laid w) ∧ sizedMet enc Tryd.prog Tryd.f6 (OpenSpec.ofChange Rows.fnExactRelsTextSpec) false w args)
      (Rows.fnExactRelsTextSpec.post enc Tryd.prog Tryd.f6 false true false false) := by
  refine returns_laid (C := Tryd.checked) (X := fun w _ => laidMetH Tryd.prog Rows.fnExactRelsTextRow.laid w) (fun _ _ _ hh h => h.of_heap hh) lawOwn started (by kernel_rfl) Tryd.func6
    (ChangeSpec.witness_shaped (enc := enc) (C := Tryd.checked) (os := os) (X := fun w _ => laidMetH Tryd.prog Rows.fnExactRelsTextRow.laid w) false (World.laidAll Tryd.prog os Rows.fnExactRelsTextRow.laid) #[.slice none 0 0] 8 (World.laidAll_os _ _ _)
      (World.shaped_of_ZipB (by kernel_rfl) (by kernel_rfl)) (by kernel_rfl) (by kernel_rfl) (by kernel_rfl)
      (by rw [MakeChecks.laidMetH_plain _ _ _ (by kernel_rfl)]; exact laidMet_laidAll _ (by kernel_rfl) (by kernel_rfl))) ?_
  intro W base args ds gs before hval0 hW hL hsh
  have hval : ∀ (j : Nat) t v, Tryd.f6.params[j]? = some t → args[j]? = some v → Value.okWide Tryd.prog W .any base t v := hval0
  have hW' := hW
  obtain ⟨p, q, hA0, hV, rfl, hfz, hnd⟩ := hW
  have hA : DataW.TrodAll enc Tryd.prog W 0 (fun _ => true) true Tryd.f6.params.toList args.toList ds p := hA0
  rw [Tryd.params6] at hA hval
  obtain ⟨v0, vs0, d0, ds0, p0, q0, hargs, rfl, rfl, h0, r0⟩ := trodAll_cons hA
  obtain ⟨rfl, rfl, rfl⟩ := trodAll_nil r0
  obtain rfl : args = #[v0] := by cases args; simp_all
  obtain ⟨rfl, rfl⟩ := trodVars_none hV
  have k0 := h0
  have lt0 : ∀ x ∈ p0, x.block < W.heap.size := by obtain ⟨m, hm⟩ := k0; exact DataW.trod_lt m _ _ _ hm
  obtain ⟨a0, len0, cap0, rfl⟩ := okWide_slice Tryd.underlying32 (hval 0 32 v0 rfl rfl)
  obtain ⟨l0, hl0, hr0, hm0⟩ : ∃ l : List Ctx, len0 = l.length ∧ Reads W W.heap.size 3 a0 len0 (cellsC l) ∧ len0 ≤ maxLen := by
    obtain ⟨fuel, hf⟩ := h0
    exact open_ctxs Tryd.underlying32 Tryd.underlying58 (by kernel_rfl) (by kernel_rfl) rfl rfl rfl Tryd.underlying3 (by simpa [Value.cells] using hf)
  subst hl0
  clear hA0 hval0
  refine (walk a0 cap0 l0 W hr0 hm0).mono fun e W' ⟨he, bel⟩ => ?_
  subst he
  exact ⟨_, rfl, _, _, _, [], _, [], hW', trodAll_mk1 (shut_bool Tryd.underlying4 _), (trodAll_cons_mk (Below.trod lawLaid (by kernel_rfl) (of_decide_eq_true (by kernel_rfl)) k0 bel lt0) trodAll_mk0), rfl, bel.frame _, fun h => by cases h⟩

theorem proved : Rows.FnExactRelsTextSaid :=
  OpenClaim.holds_of_wide 6 Tryd.f6 rfl rfl rfl rfl rfl rfl rfl ⟨rfl, rfl, rfl, rfl, rfl⟩ rfl rfl rfl rfl rfl (by kernel_rfl) Tryd.func6 (by kernel_rfl)
    (of_decide_eq_true (by kernel_rfl)) (by unfold Func.isWrapper; rw [if_neg (of_decide_eq_false (by kernel_rfl))]; exact ⟨rfl, rfl⟩)
    (fun os started H enc _ => lifted os started H enc)
theorem card : Rows.FnExactRelsTextCardSaid :=
  Claim7.holds_tied_plain_at .later [] [.data, .data, .data] true (true, "a552459b5cb4b909e779ce3d9a0a4adc998094f57585e2670a29168c97bb0632") true proved (fun _ h => by cases h) (by kernel_rfl) (fun _ h => by cases h) fnExactRelsText_row_tie rfl ⟨rfl, rfl⟩ (by kernel_rfl) rfl
    (fun f fn hf hfn => by
      obtain rfl : f = 6 := Option.some.inj ((show Tryd.prog.funcNamed "loop.example/excavation/laws.FnExactRelsText" = some 6 by kernel_rfl).symm.trans hf) |>.symm
      obtain rfl : fn = Tryd.f6 := (Option.some.inj (Tryd.func6.symm.trans hfn)).symm
      exact ⟨by kernel_rfl, fun j t ht => by
        rw [Tryd.params6] at ht
        have hm : t ∈ [32] := by simpa using Array.mem_of_getElem? ht
        have hall : ([32].all fun u => !Tryd.prog.wantsStandIn u) = true := by kernel_rfl
        exact (show Tryd.prog.wantsStandIn t = false by simpa using List.all_eq_true.1 hall t hm)⟩)
    (by kernel_rfl)
#print axioms card
end Go.Proofs.YtbbjdpmffokcfaaDoor.exText
