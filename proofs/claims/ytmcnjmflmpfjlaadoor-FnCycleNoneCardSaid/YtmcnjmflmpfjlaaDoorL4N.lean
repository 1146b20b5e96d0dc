/-
  Whatever bytes are given: of contexts and relations drawn from them, the program's circle is the model's, and there is none exactly if the arguments are invalid or the order is valid. Condition: the library's listed table is as its own initialiser lays it.
-/
import Derived.Test.YtmcnjmflmpfjlaaDoorEnt
import Derived.Test.YtmcnjmflmpfjlaaDoorLif
import Derived.Test.YtmcnjmflmpfjlaaDoorMak
import Derived.Test.YtmcnjmflmpfjlaaDoorCc
import Derived.Test.YtmcnjmflmpfjlaaDoorV5
import Derived.Test.YtmcnjmflmpfjlaaDoorW2
import Derived.Test.YtmcnjmflmpfjlaaDoorGc
import Derived.Test.YtmcnjmflmpfjlaaDoorDz
import Derived.Test.YtmcnjmflmpfjlaaDoorInts
import Derived.Test.YtmcnjmflmpfjlaaDoorOpen
import Derived.Deep.RegionHeld3
namespace Go.Proofs.YtmcnjmflmpfjlaaDoor.lawCycleNone
open Go.ChangeShapes Go.WideShapes Go.ChangeAt Go.RowKit

set_option maxHeartbeats 8000000 in
set_option maxRecDepth 100000 in
theorem walk_short (A : Option Addr) (c : Nat) (z : List Int) (w : World) (hG : Glob w) (h : Bytes w A c z) (hn : z.length ≤ 1048576) :
    Calls Tryd.prog 3 #[.slice A z.length c] w fun e w2 => e = .returned (.bool true) ∧ Below w.heap.size w w2 := by
  have e0 : decide ((1048576 : Int) < (z.length : Int)) = false := decide_eq_false (by omega)
  go_enter Tryd.func3, Tryd.ntmps3
  go_wp2_with fail
  refine (dOrdC_any A c z _ h).mono ?_
  rintro e w2 ⟨v1, v2, ids, l, rfl, ho1, ho2, hl1, hl2, hb2⟩
  obtain ⟨A1, c1, hv1, hcap1, hr1⟩ := own_slice ho1
  obtain ⟨A2, c2, hv2, hcap2, hr2⟩ := own_slice ho2
  subst hv1 hv2
  obtain ⟨C, hC⟩ : ∃ C, C = cycG ids l := ⟨_, rfl⟩
  have hCl : C.length ≤ 12 := by rw [hC]; exact cycG_len ids l
  have q := eqLI_self C
  have HC := Lib.hid hC
  have HR := Lib.hid (And.intro hb2 (And.intro hr1 (And.intro hr2 (hG.step hb2))))
  clear ho1 ho2 hb2 h hr1 hr2 hC hG
  go_wp2_with fail
  refine (iCycle_any _ _ _ _ ids l _ HR.out.2.1 HR.out.2.2.1 (by omega) (by omega) HR.out.2.2.2).mono ?_
  rintro e w3 ⟨v3, rfl, hb3, ho3⟩
  rw [← HC.out] at ho3
  obtain ⟨A3, c3, hv3, hcap3, hr3⟩ := own_slice ho3
  subst hv3
  have H3 := Lib.hid (And.intro hb3 hr3)
  clear hb3 ho3 hr3
  go_wp2_with fail
  refine (sCycle_any _ _ _ _ ids l _ (HR.out.2.1.step H3.out.1) (HR.out.2.2.1.step H3.out.1) (by omega) (by omega)).mono ?_
  rintro e w4 ⟨v4, rfl, hb4, ho4⟩
  rw [← HC.out] at ho4
  obtain ⟨A4, c4, hv4, hcap4, hr4⟩ := own_slice ho4
  subst hv4
  have H4 := Lib.hid (And.intro hb4 hr4)
  clear hb4 ho4 hr4
  go_wp2_with fail
  refine (sameInts_any _ _ _ _ C C _ (H3.out.2.step H4.out.1) H4.out.2 (by omega)).mono ?_
  rintro e w5 ⟨rfl, hb5⟩
  have k5 := below_step H4.out.1 hb5
  have R := Lib.hid (And.intro (HR.out.2.1.step (below_step H3.out.1 k5)) (And.intro (HR.out.2.2.1.step (below_step H3.out.1 k5)) (And.intro (H3.out.2.step k5) (below_step HR.out.1 (below_step H3.out.1 k5)))))
  have R4 := Lib.hid (H4.out.2.step hb5)
  clear hb5 k5
  cases hok : okG ids l
  · have hc0 : C = [] := by rw [HC.out]; unfold cycG; rw [szG_no hok, cycP_nil]; rfl
    have e1 : ((C.length : Int) == 0) = true := by rw [hc0]; rfl
    clear hc0
    go_wp2_with fail
    refine (iGroups_any _ _ _ _ ids l _ R.out.1 R.out.2.1 (by omega) (by omega)).mono ?_
    rintro e w6 ⟨v6, rfl, hb6, ho6⟩
    rw [hok]
    go_wp2_with fail
    go_ret
    exact ⟨rfl, below_step R.out.2.2.2 hb6⟩
  · obtain ⟨t, ht⟩ : ∃ t, t = ordOkG ids l := ⟨_, rfl⟩
    have hct := cyc_none hok
    rw [← HC.out, ← ht] at hct
    have e1 : ((C.length : Int) == 0) = t := by
      rw [← hct, Bool.eq_iff_iff, beq_iff_eq, decide_eq_true_eq]
      omega
    have e2 : (t == t) = true := by simp
    have HT := Lib.hid ht
    clear ht hct
    go_wp2_with fail
    refine (iGroups_any _ _ _ _ ids l _ R.out.1 R.out.2.1 (by omega) (by omega)).mono ?_
    rintro e w6 ⟨v6, rfl, hb6, ho6⟩
    rw [hok]
    clear hok ho6
    go_wp2_with fail
    refine (iOrdValid_any _ _ _ _ ids l _ (R.out.1.step hb6) (R.out.2.1.step hb6) (by omega) (by omega)).mono ?_
    rintro e w7 ⟨rfl, hb7⟩
    rw [← HT.out]
    go_wp2_with fail
    go_ret
    exact ⟨rfl, below_step R.out.2.2.2 (below_step hb6 hb7)⟩

theorem walk {w : World} (hG : Glob w) (A : Option Addr) (c : Nat) (z : List Int) (_ : World) (h1 : z.length ≤ c) (h2 : Reads w w.heap.size 1 A z.length (cellsB z)) (h3 : ∀ b ∈ z, 0 ≤ b ∧ b ≤ 255) (h4 : c ≤ maxLen) :
    Calls Tryd.prog 3 #[.slice A z.length c] w fun e w2 => e = .returned (.bool true) ∧ Below w.heap.size w w2 := by
  by_cases hn : z.length ≤ 1048576
  · exact walk_short A c z w hG (Bytes.mk_ h1 h2 h3 h4) hn
  · have e0 : decide ((1048576 : Int) < (z.length : Int)) = true := decide_eq_true (by omega)
    clear hG
    go_enter Tryd.func3, Tryd.ntmps3
    go_wp2_with fail
    go_ret
    exact ⟨rfl, Below.refl _ _⟩

set_option linter.unusedVariables false
set_option maxRecDepth 100000 in
theorem lifted (os : Os) (started : os.Started) (H : Type) (enc : TypeId × Value → H) :
    ReturnsInHanded {} Tryd.checked os 3 .any (fun w args => (Rows.fnCycleNoneSpec.pre enc Tryd.prog Tryd.f3 [] false w args ∧ laidMetH Tryd.prog Rows.fnCycleNoneRow.laid w) ∧ sizedMet enc Tryd.prog Tryd.f3 (OpenSpec.ofChange Rows.fnCycleNoneSpec) false w args)
      (Rows.fnCycleNoneSpec.post enc Tryd.prog Tryd.f3 false true false false) := by
  refine returns_laid (C := Tryd.checked) (X := fun w _ => laidMetH Tryd.prog Rows.fnCycleNoneRow.laid w) (fun _ _ _ hh h => h.of_heap hh) lawOwn started (by kernel_rfl) Tryd.func3
    (ChangeSpec.witness_shaped (enc := enc) (C := Tryd.checked) (os := os) (X := fun w _ => laidMetH Tryd.prog Rows.fnCycleNoneRow.laid w) false (World.laidAll Tryd.prog os Rows.fnCycleNoneRow.laid) #[.slice none 0 0] 8 (World.laidAll_os _ _ _)
      (World.shaped_of_ZipB (by kernel_rfl) (by kernel_rfl)) (by kernel_rfl) (by kernel_rfl) (by kernel_rfl)
      (by rw [MakeChecks.laidMetH_plain _ _ _ (by kernel_rfl)]; exact laidMet_laidAll _ (by kernel_rfl) (by kernel_rfl))) ?_
  intro W base args ds gs before hval0 hW hL hsh
  have hval : ∀ (j : Nat) t v, Tryd.f3.params[j]? = some t → args[j]? = some v → Value.okWide Tryd.prog W .any base t v := hval0
  have hW' := hW
  obtain ⟨p, q, hA0, hV, rfl, hfz, hnd⟩ := hW
  have hA : DataW.TrodAll enc Tryd.prog W 0 (fun _ => true) true Tryd.f3.params.toList args.toList ds p := hA0
  rw [Tryd.params3] at hA hval
  obtain ⟨v0, vs0, d0, ds0, p0, q0, hargs, rfl, rfl, h0, r0⟩ := trodAll_cons hA
  obtain ⟨rfl, rfl, rfl⟩ := trodAll_nil r0
  obtain rfl : args = #[v0] := by cases args; simp_all
  obtain ⟨rfl, rfl⟩ := trodVars_none hV
  have k0 := h0
  have lt0 : ∀ x ∈ p0, x.block < W.heap.size := by obtain ⟨m, hm⟩ := k0; exact DataW.trod_lt m _ _ _ hm
  obtain ⟨a0, len0, cap0, rfl⟩ := okWide_slice Tryd.underlying22 (hval 0 22 v0 rfl rfl)
  obtain ⟨z0, hl0, hc0, hr0, hb0, hm0⟩ : ∃ z : List Int, len0 = z.length ∧ len0 ≤ cap0 ∧ Reads W W.heap.size 1 a0 len0 (cellsB z) ∧ (∀ b ∈ z, 0 ≤ b ∧ b ≤ 255) ∧ cap0 ≤ maxLen := by
    obtain ⟨fuel, hf⟩ := h0
    exact open_bytes Tryd.underlying22 Tryd.underlying5 (by kernel_rfl) (by simpa [Value.cells] using hf)
  subst hl0
  clear hA0 hval0
  have hG := glob_of hL hsh
  refine (walk hG a0 cap0 z0 W hc0 hr0 hb0 hm0).mono fun e W' ⟨he, bel⟩ => ?_
  subst he
  exact ⟨_, rfl, _, _, _, [], _, [], hW', trodAll_mk1 (shut_bool Tryd.underlying4 _), (trodAll_cons_mk (Below.trod lawLaid (by kernel_rfl) (of_decide_eq_true (by kernel_rfl)) k0 bel lt0) trodAll_mk0), rfl, bel.frame _, fun h => by cases h⟩

theorem closed : joinedFacts Tryd.checked.prog 3 Tryd.f3 Rows.fnCycleNoneSpec Rows.fnCycleNoneRow = true := by
  unfold joinedFacts
  repeat (refine and_t ?_ (by first | (with_reducible exact ent) | (with_reducible refine lif_c ?_; kernel_rfl) | (with_reducible refine mak_c ?_; kernel_rfl) | kernel_rfl))
  kernel_rfl
theorem proved : Rows.FnCycleNoneSaid :=
  OpenClaim.holds_of_wide 3 Tryd.f3 rfl rfl rfl rfl rfl rfl rfl ⟨rfl, rfl, rfl, rfl, rfl⟩ rfl rfl rfl rfl rfl (by kernel_rfl) Tryd.func3 closed
    (of_decide_eq_true (by kernel_rfl)) (by unfold Func.isWrapper; rw [if_neg (of_decide_eq_false (by kernel_rfl))]; exact ⟨rfl, rfl⟩)
    (fun os started H enc _ => lifted os started H enc)
theorem card : Rows.FnCycleNoneCardSaid :=
  Claim7.holds_tied_plain_at .later [] [.data] true (true, "884c8f30e24b38bfee3cc4cb07b2cd8094a349a90e2a2d65dcdf658ac0e1419f") false proved (fun _ h => by cases h) (by kernel_rfl) (fun _ h => by cases h) fnCycleNone_row_tie rfl ⟨rfl, rfl⟩ (by kernel_rfl) rfl
    (fun f fn hf hfn => by
      obtain rfl : f = 3 := Option.some.inj ((show Tryd.prog.funcNamed "loop.example/excavation/laws.FnCycleNone" = some 3 by kernel_rfl).symm.trans hf) |>.symm
      obtain rfl : fn = Tryd.f3 := (Option.some.inj (Tryd.func3.symm.trans hfn)).symm
      exact ⟨by kernel_rfl, fun j t ht => by
        rw [Tryd.params3] at ht
        have hm : t ∈ [22] := by simpa using Array.mem_of_getElem? ht
        have hall : ([22].all fun u => !Tryd.prog.wantsStandIn u) = true := by kernel_rfl
        exact (show Tryd.prog.wantsStandIn t = false by simpa using List.all_eq_true.1 hall t hm)⟩)
    (by kernel_rfl)
#print axioms card
end Go.Proofs.YtmcnjmflmpfjlaaDoor.lawCycleNone
