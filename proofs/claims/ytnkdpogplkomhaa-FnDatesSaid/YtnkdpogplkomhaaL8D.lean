/-
  Whatever bytes are given: of contexts, relations, bounds and years drawn from them, years that fit lie in the program's spans; whether they fit is told as the model tells it. No condition.
-/
import Derived.Test.YtnkdpogplkomhaaEnt
import Derived.Test.YtnkdpogplkomhaaLif
import Derived.Test.YtnkdpogplkomhaaMak
import Derived.Test.YtnkdpogplkomhaaZz
import Derived.Test.YtnkdpogplkomhaaId
import Derived.Test.YtnkdpogplkomhaaOpen
import Derived.Deep.RegionHeld3
namespace Go.Proofs.Ytnkdpogplkomhaa.lawDates
open Go.ChangeShapes Go.WideShapes Go.ChangeAt Go.RowKit

set_option maxHeartbeats 2000000 in
set_option maxRecDepth 100000 in
theorem walk_short (A : Option Addr) (c : Nat) (z : List Int) (w : World) (h : Bytes w A c z) (hn : z.length ≤ 1048576) :
    Calls Try.prog 3 #[.slice A z.length c] w fun e w2 => e = .returned (.bool true) ∧ Below w.heap.size w w2 := by
  have e0 : decide ((1048576 : Int) < (z.length : Int)) = false := decide_eq_false (by omega)
  go_enter Try.func3, Try.ntmps3
  go_wp2_with fail
  refine (dFit_any A c z _ h).mono ?_
  rintro e w2 ⟨v1, v2, v3, v4, ids, l, bs, Y, rfl, ⟨ho1, ho2, ho3, hl1, hl2, hl3, hb2⟩, ho4, hl4⟩
  obtain ⟨A1, c1, hv1, hcap1, hr1⟩ := own_slice ho1
  obtain ⟨A2, c2, hv2, hcap2, hr2⟩ := own_slice ho2
  obtain ⟨A3, c3, hv3, hcap3, hr3⟩ := own_slice ho3
  obtain ⟨A4, c4, hv4, hcap4, hr4⟩ := own_slice ho4
  subst hv1 hv2 hv3 hv4
  have HR := Lib.hid (And.intro hb2 (And.intro hr1 (And.intro hr2 (And.intro hr3 hr4))))
  clear ho1 ho2 ho3 ho4 hb2 h hr1 hr2 hr3 hr4
  obtain ⟨o, ho⟩ : ∃ o, o = fitD ids l bs Y := ⟨_, rfl⟩
  have eb : (o != o) = false := by simp
  have ec : (o == o) = true := by simp
  have hfi := iDatesFit_any A1 A2 A3 A4 c1 c2 c3 c4 ids l bs Y w2 HR.out.2.1 HR.out.2.2.1 HR.out.2.2.2.1 HR.out.2.2.2.2 (by omega) (by omega) (by omega) (by omega)
  have hfs := fun (W : World) (hW : Below w2.heap.size w2 W) => sDatesFit_any A1 A2 A3 A4 c1 c2 c3 c4 ids l bs Y W (HR.out.2.1.step hW) (HR.out.2.2.1.step hW) (HR.out.2.2.2.1.step hW) (HR.out.2.2.2.2.step hW) (by omega) (by omega) (by omega) (by omega)
  rw [← ho] at hfi hfs
  have HC := Lib.hid (And.intro ho (And.intro hfi hfs))
  clear ho hfi hfs
  go_wp2_with fail
  refine HC.out.2.1.mono ?_
  rintro e w3 ⟨rfl, hb3⟩
  have B3 := Lib.hid hb3
  clear hb3
  go_wp2_with fail
  refine (HC.out.2.2 _ B3.out).mono ?_
  rintro e w4 ⟨rfl, hb4⟩
  have k4 := below_step B3.out hb4
  have R := Lib.hid (And.intro (HR.out.2.1.step k4) (And.intro (HR.out.2.2.1.step k4) (And.intro (HR.out.2.2.2.1.step k4) (And.intro (HR.out.2.2.2.2.step k4) (below_step HR.out.1 k4)))))
  clear hb4 k4
  cases o
  · go_wp2_with fail
    go_ret
    exact ⟨rfl, R.out.2.2.2.2⟩
  · clear eb ec
    have hfit : fitD ids l bs Y = true := HC.out.1.symm
    obtain ⟨hok, hin⟩ := fit_spans hfit
    have hYn : Y.length = ids.length := (fitD_iff.1 hfit).2.1
    have hdo := fun (W : World) (hW : Below w4.heap.size w4 W) => iDatesOf_any A1 A2 A3 c1 c2 c3 ids l bs W (R.out.1.step hW) (R.out.2.1.step hW) (R.out.2.2.1.step hW) (by omega) (by omega) (by omega)
    rw [hok, datesD_ok hok] at hdo
    have hal := allD_len ids l bs
    have hat : ∀ (k : Nat) (y : Int), Y[k]? = some y → ∃ s : Sp, (allD ids l bs)[k]? = some s ∧ s.lo ≤ y ∧ y ≤ s.hi := fun k y hy => by
      have hk : k < ids.length := by have := (List.getElem?_eq_some_iff.1 hy).1; omega
      have := hin k hk
      simp only [List.getD_eq_getElem?_getD, hy, Option.getD_some] at this
      exact ⟨_, allD_at hk, this⟩
    obtain ⟨D, hD⟩ : ∃ D, D = allD ids l bs := ⟨_, rfl⟩
    rw [← hD] at hdo hal
    simp only [← hD] at hat
    have hDY : D.length = Y.length := by omega
    have eln : ((D.length : Int) == (Y.length : Int)) = true := by simp [hDY]
    have HF := Lib.hid (And.intro hat (And.intro hdo hDY))
    clear hfit hok hin hYn hdo hal hat hD hDY
    go_wp2_with fail
    refine (HF.out.2.1 _ (Below.refl _ _)).mono ?_
    rintro e w6 ⟨v6, rfl, hb6, ho6⟩
    obtain ⟨A6, c6, hv6, _, hr6⟩ := own_slice ho6
    subst hv6
    have H6 := Lib.hid (And.intro hb6 hr6)
    clear hb6 ho6 hr6
    go_wp2_with fail
    go_loopw [11] (fun i wr => ∃ k : Nat, k ≤ Y.length ∧ i = .int .i64 k ∧ Below w6.heap.size w6 wr) (fun i _ => Y.length - (intOf i).toNat)
    case atStart => exact ⟨0, Nat.zero_le _, rfl, Below.refl _ _⟩
    case round =>
      obtain ⟨k, hk, rfl, hbl⟩ := hrel
      by_cases hlt : k < Y.length
      · have hkD : k < D.length := by have := HF.out.2.2; omega
        have hkmi : (k : Int) < (Y.length : Int) := by omega
        have hkdi : (k : Int) < (D.length : Int) := by omega
        obtain ⟨y, hy⟩ : ∃ y, Y[k]? = some y := ⟨_, List.getElem?_eq_getElem hlt⟩
        obtain ⟨s, hs, h1, h2⟩ := HF.out.1 k y hy
        obtain ⟨b, off, hA, hbb, hcx⟩ := ints_at (R.out.2.2.2.1.step (below_step H6.out.1 hbl)) hy
        subst hA
        obtain ⟨bm, om, hAm, hbm, hcm⟩ := (H6.out.2.step hbl).sp (by omega)
        subst hAm
        obtain ⟨f1, f2⟩ := hcm k s hs
        have e1 : decide (y < s.lo) = false := decide_eq_false (by omega)
        have e2 : decide (s.hi < y) = false := decide_eq_false (by omega)
        have HB := Lib.hid hbl
        clear hbl hs hcm hy h1 h2
        go_wp2_with fail
        go_quiet (fail)
        go_wp2_with fail
        go_roundw
        case rel => exact ⟨k + 1, by omega, by go_num, below_draws HB.out nq⟩
        case measure => simp [intOf]; omega
      · have hki : decide ((k : Int) < (Y.length : Int)) = false := decide_eq_false (by omega)
        have hkd : decide ((k : Int) < (D.length : Int)) = false := decide_eq_false (by have := HF.out.2.2; omega)
        have HB := Lib.hid hbl
        clear hbl
        go_wp2_with fail
        go_ret
        exact ⟨rfl, below_step R.out.2.2.2.2 (below_step H6.out.1 HB.out)⟩

theorem walk (A : Option Addr) (c : Nat) (z : List Int) (w : World) (h1 : z.length ≤ c) (h2 : Reads w w.heap.size 1 A z.length (cellsB z)) (h3 : ∀ b ∈ z, 0 ≤ b ∧ b ≤ 255) (h4 : c ≤ maxLen) :
    Calls Try.prog 3 #[.slice A z.length c] w fun e w2 => e = .returned (.bool true) ∧ Below w.heap.size w w2 := by
  by_cases hn : z.length ≤ 1048576
  · exact walk_short A c z w (Bytes.mk_ h1 h2 h3 h4) hn
  · have e0 : decide ((1048576 : Int) < (z.length : Int)) = true := decide_eq_true (by omega)
    go_enter Try.func3, Try.ntmps3
    go_wp2_with fail
    go_ret
    exact ⟨rfl, Below.refl _ _⟩

set_option linter.unusedVariables false
set_option maxRecDepth 100000 in
theorem lifted (os : Os) (started : os.Started) (H : Type) (enc : TypeId × Value → H) :
    ReturnsInHanded {} Try.checked os 3 .any (Rows.fnDatesSpec.pre6 enc Try.prog Try.f3 Rows.fnDatesRow.domain false) (Rows.fnDatesSpec.post enc Try.prog Try.f3 false true false false) := by
  refine returnsInHanded_of_change (C := Try.checked) lawOwn started (by kernel_rfl) Try.func3
    (ChangeSpec.witness6 (enc := enc) (C := Try.checked) false ⟨#[], #[.slice none 0 0], []⟩ 8 (by kernel_rfl) (by kernel_rfl) (by kernel_rfl) (by kernel_rfl)) ?_
  intro W base args ds gs before hval0 hW hcnd _
  have hval : ∀ (j : Nat) t v, Try.f3.params[j]? = some t → args[j]? = some v → Value.okWide Try.prog W .any base t v := hval0
  have hW' := hW
  obtain ⟨p, q, hA0, hV, rfl, hfz, hnd⟩ := hW
  have hA : DataW.TrodAll enc Try.prog W 0 (fun _ => true) true Try.f3.params.toList args.toList ds p := hA0
  rw [Try.params3] at hA hval
  obtain ⟨v0, vs0, d0, ds0, p0, q0, hargs, rfl, rfl, h0, r0⟩ := trodAll_cons hA
  obtain ⟨rfl, rfl, rfl⟩ := trodAll_nil r0
  obtain rfl : args = #[v0] := by cases args; simp_all
  obtain ⟨rfl, rfl⟩ := trodVars_none hV
  have k0 := h0
  have lt0 : ∀ x ∈ p0, x.block < W.heap.size := by obtain ⟨m, hm⟩ := k0; exact DataW.trod_lt m _ _ _ hm
  obtain ⟨a0, len0, cap0, rfl⟩ := okWide_slice Try.underlying22 (hval 0 22 v0 rfl rfl)
  obtain ⟨z0, hl0, hc0, hr0, hb0, hm0⟩ : ∃ z : List Int, len0 = z.length ∧ len0 ≤ cap0 ∧ Reads W W.heap.size 1 a0 len0 (cellsB z) ∧ (∀ b ∈ z, 0 ≤ b ∧ b ≤ 255) ∧ cap0 ≤ maxLen := by
    obtain ⟨fuel, hf⟩ := h0
    exact open_bytes Try.underlying22 Try.underlying5 (by kernel_rfl) (by simpa [Value.cells] using hf)
  subst hl0
  clear hA0 hval0
  refine (walk a0 cap0 z0 W hc0 hr0 hb0 hm0).mono fun e W' ⟨he, bel⟩ => ?_
  subst he
  exact ⟨_, rfl, _, _, _, [], _, [], hW', trodAll_mk1 (shut_bool Try.underlying4 _), (trodAll_cons_mk (Below.trod lawLaid (by kernel_rfl) (of_decide_eq_true (by kernel_rfl)) k0 bel lt0) trodAll_mk0), rfl, bel.frame _, fun h => by cases h⟩

theorem closed : joinedFacts Try.checked.prog 3 Try.f3 Rows.fnDatesSpec Rows.fnDatesRow = true := by
  unfold joinedFacts
  repeat (refine and_t ?_ (by first | (with_reducible exact ent) | (with_reducible refine lif_c ?_; kernel_rfl) | (with_reducible refine mak_c ?_; kernel_rfl) | kernel_rfl))
  kernel_rfl
theorem proved : Rows.FnDatesSaid :=
  OpenClaim.holds_of_wide 3 Try.f3 rfl rfl rfl rfl rfl rfl rfl ⟨rfl, rfl, rfl, rfl, rfl⟩ rfl rfl rfl rfl rfl (by kernel_rfl) Try.func3 closed
    (of_decide_eq_true (by kernel_rfl)) (by unfold Func.isWrapper; rw [if_neg (of_decide_eq_false (by kernel_rfl))]; exact ⟨rfl, rfl⟩)
    (fun os started H enc _ => lifted os started H enc)
#print axioms proved
end Go.Proofs.Ytnkdpogplkomhaa.lawDates
