/-
  Whatever bytes are given: of contexts and relations drawn from them, the program's circle is the model's, and it begins with its least context. Condition: the library's listed table is as its own initialiser lays it.
-/
import Derived.Test.YtpkmnigkcefnpaaDoorCc
import Derived.Test.YtpkmnigkcefnpaaDoorW2
import Derived.Test.YtpkmnigkcefnpaaDoorGc
import Derived.Test.YtpkmnigkcefnpaaDoorDo
import Derived.Test.YtpkmnigkcefnpaaDoorInts
import Derived.Test.YtpkmnigkcefnpaaDoorOpen
import Derived.Deep.RegionHeld3
namespace Go.Proofs.YtpkmnigkcefnpaaDoor.lawCycleFirst
open Go.ChangeShapes Go.WideShapes Go.ChangeAt Go.RowKit

set_option maxHeartbeats 8000000 in
set_option maxRecDepth 100000 in
theorem walk_short (A : Option Addr) (c : Nat) (z : List Int) (w : World) (hG : Glob w) (h : Bytes w A c z) (hn : z.length ≤ 1048576) :
    Calls Tryd.prog 5 #[.slice A z.length c] w fun e w2 => e = .returned (.bool true) ∧ Below w.heap.size w w2 := by
  have e0 : decide ((1048576 : Int) < (z.length : Int)) = false := decide_eq_false (by omega)
  go_enter Tryd.func5, Tryd.ntmps5
  go_wp2_with fail
  refine (dOrdC_any A c z _ h).mono ?_
  rintro e w2 ⟨v1, v2, ids, l, rfl, ho1, ho2, hl1, hl2, hb2⟩
  obtain ⟨A1, c1, hv1, hcap1, hr1⟩ := own_slice ho1
  obtain ⟨A2, c2, hv2, hcap2, hr2⟩ := own_slice ho2
  subst hv1 hv2
  obtain ⟨C, hC⟩ : ∃ C, C = cycG ids l := ⟨_, rfl⟩
  have hCl : C.length ≤ 12 := by rw [hC]; exact cycG_len ids l
  have q := eqLI_self C
  have HC := Lib.hid hC
  have HR := Lib.hid (And.intro hb2 (And.intro hr1 (And.intro hr2 (hG.step hb2))))
  clear ho1 ho2 hb2 h hr1 hr2 hC hG
  go_wp2_with fail
  refine (iCycle_any _ _ _ _ ids l _ HR.out.2.1 HR.out.2.2.1 (by omega) (by omega) HR.out.2.2.2).mono ?_
  rintro e w3 ⟨v3, rfl, hb3, ho3⟩
  rw [← HC.out] at ho3
  obtain ⟨A3, c3, hv3, hcap3, hr3⟩ := own_slice ho3
  subst hv3
  have H3 := Lib.hid (And.intro hb3 hr3)
  clear hb3 ho3 hr3
  go_wp2_with fail
  refine (sCycle_any _ _ _ _ ids l _ (HR.out.2.1.step H3.out.1) (HR.out.2.2.1.step H3.out.1) (by omega) (by omega)).mono ?_
  rintro e w4 ⟨v4, rfl, hb4, ho4⟩
  rw [← HC.out] at ho4
  obtain ⟨A4, c4, hv4, hcap4, hr4⟩ := own_slice ho4
  subst hv4
  have H4 := Lib.hid (And.intro hb4 hr4)
  clear hb4 ho4 hr4
  by_cases h0 : C.length = 0
  · have e1 : ((C.length : Int) == 0) = true := by simp [h0]
    clear h0
    go_wp2_with fail
    refine (sameInts_any _ _ _ _ C C _ (H3.out.2.step H4.out.1) H4.out.2 (by omega)).mono ?_
    rintro e w5 ⟨rfl, hb5⟩
    have k5 := below_step H4.out.1 hb5
    have R := Lib.hid (And.intro (HR.out.2.1.step (below_step H3.out.1 k5)) (And.intro (HR.out.2.2.1.step (below_step H3.out.1 k5)) (And.intro (H3.out.2.step k5) (below_step HR.out.1 (below_step H3.out.1 k5)))))
    have R4 := Lib.hid (H4.out.2.step hb5)
    clear hb5 k5
    go_wp2_with fail
    refine (sameInts_any _ _ _ _ C C _ R.out.2.2.1 R4.out (by omega)).mono ?_
    rintro e w6 ⟨rfl, hb6⟩
    go_wp2_with fail
    go_ret
    exact ⟨rfl, below_step R.out.2.2.2 hb6⟩
  · have e1 : ((C.length : Int) == 0) = false := by rw [beq_eq_false_iff_ne]; omega
    have e2 : decide ((0 : Int) < (C.length : Int)) = true := decide_eq_true (by omega)
    have e2' : decide (0 < C.length) = true := decide_eq_true (by omega)
    have hp0 : (0 : Int) < (C.length : Int) := by omega
    clear h0
    go_wp2_with fail
    refine (sameInts_any _ _ _ _ C C _ (H3.out.2.step H4.out.1) H4.out.2 (by omega)).mono ?_
    rintro e w5 ⟨rfl, hb5⟩
    have k5 := below_step H4.out.1 hb5
    have R := Lib.hid (And.intro (HR.out.2.1.step (below_step H3.out.1 k5)) (And.intro (HR.out.2.2.1.step (below_step H3.out.1 k5)) (And.intro (H3.out.2.step k5) (below_step HR.out.1 (below_step H3.out.1 k5)))))
    have R4 := Lib.hid (H4.out.2.step hb5)
    clear hb5 k5
    obtain ⟨b3, o3, hA3, hbb3, hc3⟩ := R.out.2.2.1.ints (by omega)
    subst hA3
    obtain ⟨y, hy⟩ : ∃ y, C[0]? = some y := ⟨_, List.getElem?_eq_getElem (by omega)⟩
    have g0 := hc3 0 _ hy
    rw [Nat.add_zero] at g0
    have HY := Lib.hid (And.intro hy hc3)
    clear hy hc3
    go_wp2_with fail
    go_loopw [7] (fun i wr => ∃ k : Nat, k ≤ C.length ∧ i = .int .i64 k ∧ Below w5.heap.size w5 wr) (fun i _ => C.length - (intOf i).toNat)
    case atStart => exact ⟨0, Nat.zero_le _, rfl, Below.refl _ _⟩
    case round =>
      obtain ⟨k, hk, rfl, hbl⟩ := hrel
      by_cases hlt : k < C.length
      · have hlti : (k : Int) < (C.length : Int) := by omega
        obtain ⟨x, hx⟩ : ∃ x, C[k]? = some x := ⟨_, List.getElem?_eq_getElem hlt⟩
        have f1 := (below_cell hbl b3 _ hbb3).trans (HY.out.2 k _ hx)
        have f2 := (below_cell hbl b3 _ hbb3).trans g0
        have hle := cyc_first HC.out hx HY.out.1
        have e3 : decide (x < y) = false := decide_eq_false (by omega)
        have HB := Lib.hid hbl
        clear hx hle hbl
        go_wp2_with fail
        go_quiet (fail)
        go_wp2_with fail
        go_roundw
        case rel => exact ⟨k + 1, by omega, by go_num, below_draws HB.out _⟩
        case measure => simp [intOf]; omega
      · have HB := Lib.hid hbl
        clear hbl
        go_wp2_with fail
        go_ret
        exact ⟨rfl, below_step R.out.2.2.2 HB.out⟩

theorem walk {w : World} (hG : Glob w) (A : Option Addr) (c : Nat) (z : List Int) (_ : World) (h1 : z.length ≤ c) (h2 : Reads w w.heap.size 1 A z.length (cellsB z)) (h3 : ∀ b ∈ z, 0 ≤ b ∧ b ≤ 255) (h4 : c ≤ maxLen) :
    Calls Tryd.prog 5 #[.slice A z.length c] w fun e w2 => e = .returned (.bool true) ∧ Below w.heap.size w w2 := by
  by_cases hn : z.length ≤ 1048576
  · exact walk_short A c z w hG (Bytes.mk_ h1 h2 h3 h4) hn
  · have e0 : decide ((1048576 : Int) < (z.length : Int)) = true := decide_eq_true (by omega)
    clear hG
    go_enter Tryd.func5, Tryd.ntmps5
    go_wp2_with fail
    go_ret
    exact ⟨rfl, Below.refl _ _⟩

set_option linter.unusedVariables false
set_option maxRecDepth 100000 in
theorem lifted (os : Os) (started : os.Started) (H : Type) (enc : TypeId × Value → H) :
    ReturnsInHanded {} Tryd.checked os 5 .any (fun w args => (Rows.fnCycleFirstSpec.pre enc Tryd.prog Tryd.f5 [] false w args ∧ laidMetH Tryd.prog Rows.fnCycleFirstRow.laid w) ∧ sizedMet enc Tryd.prog Tryd.f5 (OpenSpec.ofChange Rows.fnCycleFirstSpec) false w args)
      (Rows.fnCycleFirstSpec.post enc Tryd.prog Tryd.f5 false true false false) := by
  refine returns_laid (C := Tryd.checked) (X := fun w _ => laidMetH Tryd.prog Rows.fnCycleFirstRow.laid w) (fun _ _ _ hh h => h.of_heap hh) lawOwn started (by kernel_rfl) Tryd.func5
    (ChangeSpec.witness_shaped (enc := enc) (C := Tryd.checked) (os := os) (X := fun w _ => laidMetH Tryd.prog Rows.fnCycleFirstRow.laid w) false (World.laidAll Tryd.prog os Rows.fnCycleFirstRow.laid) #[.slice none 0 0] 8 (World.laidAll_os _ _ _)
      (World.shaped_of_ZipB (by kernel_rfl) (by kernel_rfl)) (by kernel_rfl) (by kernel_rfl) (by kernel_rfl)
      (by rw [MakeChecks.laidMetH_plain _ _ _ (by kernel_rfl)]; exact laidMet_laidAll _ (by kernel_rfl) (by kernel_rfl))) ?_
  intro W base args ds gs before hval0 hW hL hsh
  have hval : ∀ (j : Nat) t v, Tryd.f5.params[j]? = some t → args[j]? = some v → Value.okWide Tryd.prog W .any base t v := hval0
  have hW' := hW
  obtain ⟨p, q, hA0, hV, rfl, hfz, hnd⟩ := hW
  have hA : DataW.TrodAll enc Tryd.prog W 0 (fun _ => true) true Tryd.f5.params.toList args.toList ds p := hA0
  rw [Tryd.params5] at hA hval
  obtain ⟨v0, vs0, d0, ds0, p0, q0, hargs, rfl, rfl, h0, r0⟩ := trodAll_cons hA
  obtain ⟨rfl, rfl, rfl⟩ := trodAll_nil r0
  obtain rfl : args = #[v0] := by cases args; simp_all
  obtain ⟨rfl, rfl⟩ := trodVars_none hV
  have k0 := h0
  have lt0 : ∀ x ∈ p0, x.block < W.heap.size := by obtain ⟨m, hm⟩ := k0; exact DataW.trod_lt m _ _ _ hm
  obtain ⟨a0, len0, cap0, rfl⟩ := okWide_slice Tryd.underlying22 (hval 0 22 v0 rfl rfl)
  obtain ⟨z0, hl0, hc0, hr0, hb0, hm0⟩ : ∃ z : List Int, len0 = z.length ∧ len0 ≤ cap0 ∧ Reads W W.heap.size 1 a0 len0 (cellsB z) ∧ (∀ b ∈ z, 0 ≤ b ∧ b ≤ 255) ∧ cap0 ≤ maxLen := by
    obtain ⟨fuel, hf⟩ := h0
    exact open_bytes Tryd.underlying22 Tryd.underlying5 (by kernel_rfl) (by simpa [Value.cells] using hf)
  subst hl0
  clear hA0 hval0
  have hG := glob_of hL hsh
  refine (walk hG a0 cap0 z0 W hc0 hr0 hb0 hm0).mono fun e W' ⟨he, bel⟩ => ?_
  subst he
  exact ⟨_, rfl, _, _, _, [], _, [], hW', trodAll_mk1 (shut_bool Tryd.underlying4 _), (trodAll_cons_mk (Below.trod lawLaid (by kernel_rfl) (of_decide_eq_true (by kernel_rfl)) k0 bel lt0) trodAll_mk0), rfl, bel.frame _, fun h => by cases h⟩

theorem proved : Rows.FnCycleFirstSaid :=
  OpenClaim.holds_of_wide 5 Tryd.f5 rfl rfl rfl rfl rfl rfl rfl ⟨rfl, rfl, rfl, rfl, rfl⟩ rfl rfl rfl rfl rfl (by kernel_rfl) Tryd.func5 (by kernel_rfl)
    (of_decide_eq_true (by kernel_rfl)) (by unfold Func.isWrapper; rw [if_neg (of_decide_eq_false (by kernel_rfl))]; exact ⟨rfl, rfl⟩)
    (fun os started H enc _ => lifted os started H enc)
theorem card : Rows.FnCycleFirstCardSaid :=
  Claim7.holds_tied_plain_at .later [] [.data] true (true, "c480af179db24834c5411751ceb87e45ea7951b8dcef4a03ac609f05d56629bd") false proved (fun _ h => by cases h) (by kernel_rfl) (fun _ h => by cases h) fnCycleFirst_row_tie rfl ⟨rfl, rfl⟩ (by kernel_rfl) rfl
    (fun f fn hf hfn => by
      obtain rfl : f = 5 := Option.some.inj ((show Tryd.prog.funcNamed "loop.example/excavation/laws.FnCycleFirst" = some 5 by kernel_rfl).symm.trans hf) |>.symm
      obtain rfl : fn = Tryd.f5 := (Option.some.inj (Tryd.func5.symm.trans hfn)).symm
      exact ⟨by kernel_rfl, fun j t ht => by
        rw [Tryd.params5] at ht
        have hm : t ∈ [22] := by simpa using Array.mem_of_getElem? ht
        have hall : ([22].all fun u => !Tryd.prog.wantsStandIn u) = true := by kernel_rfl
        exact (show Tryd.prog.wantsStandIn t = false by simpa using List.all_eq_true.1 hall t hm)⟩)
    (by kernel_rfl)
#print axioms card
end Go.Proofs.YtpkmnigkcefnpaaDoor.lawCycleFirst
