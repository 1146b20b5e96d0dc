/-
  Whatever bytes are given: of contexts, relations and bounds drawn from them, the program's earliest dates fit and begin its spans; they are the model's. No condition.
-/
import Derived.Test.YtnkdpogplkomhaaEnt
import Derived.Test.YtnkdpogplkomhaaLif
import Derived.Test.YtnkdpogplkomhaaMak
import Derived.Test.YtnkdpogplkomhaaZz
import Derived.Test.YtnkdpogplkomhaaId
import Derived.Test.YtnkdpogplkomhaaOpen
import Derived.Test.YtnkdpogplkomhaaInts
import Derived.Deep.RegionHeld3
namespace Go.Proofs.Ytnkdpogplkomhaa.lawEarliest
open Go.ChangeShapes Go.WideShapes Go.ChangeAt Go.RowKit

set_option maxHeartbeats 2000000 in
set_option maxRecDepth 100000 in
theorem walk_short (A : Option Addr) (c : Nat) (z : List Int) (w : World) (h : Bytes w A c z) (hn : z.length ≤ 1048576) :
    Calls Try.prog 6 #[.slice A z.length c] w fun e w2 => e = .returned (.bool true) ∧ Below w.heap.size w w2 := by
  have e0 : decide ((1048576 : Int) < (z.length : Int)) = false := decide_eq_false (by omega)
  go_enter Try.func6, Try.ntmps6
  go_wp2_with fail
  refine (dEarl_any A c z _ h).mono ?_
  rintro e w2 ⟨v1, v2, v3, ids, l, bs, rfl, ho1, ho2, ho3, hl1, hl2, hl3, hb2⟩
  obtain ⟨A1, c1, hv1, hcap1, hr1⟩ := own_slice ho1
  obtain ⟨A2, c2, hv2, hcap2, hr2⟩ := own_slice ho2
  obtain ⟨A3, c3, hv3, hcap3, hr3⟩ := own_slice ho3
  subst hv1 hv2 hv3
  have HR := Lib.hid (And.intro hb2 (And.intro hr1 (And.intro hr2 hr3)))
  clear ho1 ho2 ho3 hb2 h hr1 hr2 hr3
  obtain ⟨M, hM⟩ : ∃ M, M = firstD ids l bs := ⟨_, rfl⟩
  obtain ⟨o, ho⟩ : ∃ o, o = okD ids l bs := ⟨_, rfl⟩
  have hMl : M.length ≤ 13 := by rw [hM]; exact Nat.le_trans (firstD_len ids l bs) (by omega)
  have q2 := eqLI_self M
  have eb : (o != o) = false := by simp
  have ec : (o == o) = true := by simp
  have HC := Lib.hid (And.intro hM ho)
  clear hM ho
  go_wp2_with fail
  refine (iEarliest_any _ _ _ _ _ _ ids l bs _ HR.out.2.1 HR.out.2.2.1 HR.out.2.2.2 (by omega) (by omega) (by omega)).mono ?_
  rintro e w3 ⟨v4, rfl, hb3, ho4⟩
  rw [← HC.out.1] at ho4
  rw [← HC.out.2]
  obtain ⟨A4, c4, hv4, hcap4, hr4⟩ := own_slice ho4
  subst hv4
  have H3 := Lib.hid (And.intro hb3 hr4)
  clear hb3 ho4 hr4
  go_wp2_with fail
  refine (sEarliest_any _ _ _ _ _ _ ids l bs _ (HR.out.2.1.step H3.out.1) (HR.out.2.2.1.step H3.out.1) (HR.out.2.2.2.step H3.out.1) (by omega) (by omega) (by omega)).mono ?_
  rintro e w4 ⟨v5, rfl, hb4, ho5⟩
  rw [← HC.out.1] at ho5
  rw [← HC.out.2]
  obtain ⟨A5, c5, hv5, hcap5, hr5⟩ := own_slice ho5
  subst hv5
  have H4 := Lib.hid (And.intro hb4 hr5)
  clear hb4 ho5 hr5
  go_wp2_with fail
  refine (sameInts_any _ _ _ _ M M _ (H3.out.2.step H4.out.1) H4.out.2 (by omega)).mono ?_
  rintro e w5 ⟨rfl, hb5⟩
  have k5 := below_step H4.out.1 hb5
  have k25 := below_step H3.out.1 k5
  have R := Lib.hid (And.intro (HR.out.2.1.step k25) (And.intro (HR.out.2.2.1.step k25) (And.intro (HR.out.2.2.2.step k25) (And.intro (H3.out.2.step k5) (below_step HR.out.1 k25)))))
  have R4 := Lib.hid (H4.out.2.step hb5)
  clear hb5 k5 k25
  cases o
  · clear eb ec
    go_wp2_with fail
    refine (sameInts_any _ _ _ _ M M _ R.out.2.2.2.1 R4.out (by omega)).mono ?_
    rintro e w6 ⟨rfl, hb6⟩
    go_wp2_with fail
    go_ret
    exact ⟨rfl, below_step R.out.2.2.2.2 hb6⟩
  · clear eb ec
    have hok : okD ids l bs = true := HC.out.2.symm
    have hdl : (datesD ids l bs).length = ids.length := by rw [datesD_ok hok, allD_len]
    have hMe : M = (datesD ids l bs).map Sp.lo := HC.out.1
    have hMn : M.length = ids.length := by rw [hMe, List.length_map, hdl]
    have hn12 : ids.length ≤ 12 := validO_len (okG_parts (ordOk_okG (argsD_parts (okD_parts hok).1).1)).1
    have hfit : fitD ids l bs M = true := first_fit hok hMn fun i hi => by
      rw [hMe, datesD_ok hok]
      simp [List.getD_eq_getElem?_getD, allD_at hi]
    have hdo := fun (W : World) (hW : Below w5.heap.size w5 W) => iDatesOf_any A1 A2 A3 c1 c2 c3 ids l bs W (R.out.1.step hW) (R.out.2.1.step hW) (R.out.2.2.1.step hW) (by omega) (by omega) (by omega)
    rw [hok] at hdo
    obtain ⟨D, hD⟩ : ∃ D, D = datesD ids l bs := ⟨_, rfl⟩
    rw [← hD] at hdo hdl hMe
    have hat : ∀ (k : Nat) (s : Sp), D[k]? = some s → M[k]? = some s.lo := fun k s hs => by rw [hMe]; simp [hs]
    have eln : ((M.length : Int) == (D.length : Int)) = true := by simp [hMn, hdl]
    have hDM : D.length = M.length := by omega
    have HF := Lib.hid (And.intro hat (And.intro hdo (And.intro hfit hDM)))
    clear hok hMe hMn hat hdl hdo hD hfit hDM
    go_wp2_with fail
    refine (HF.out.2.1 _ (Below.refl _ _)).mono ?_
    rintro e w6 ⟨v6, rfl, hb6, ho6⟩
    obtain ⟨A6, c6, hv6, _, hr6⟩ := own_slice ho6
    subst hv6
    have H6 := Lib.hid (And.intro hb6 hr6)
    clear hb6 ho6 hr6
    go_wp2_with fail
    go_loopw [12] (fun i wr => ∃ k : Nat, k ≤ M.length ∧ i = .int .i64 k ∧ Below w6.heap.size w6 wr) (fun i _ => M.length - (intOf i).toNat)
    case atStart => exact ⟨0, Nat.zero_le _, rfl, Below.refl _ _⟩
    case round =>
      obtain ⟨k, hk, rfl, hbl⟩ := hrel
      by_cases hlt : k < M.length
      · have hkD : k < D.length := by have := HF.out.2.2.2; omega
        have hkmi : (k : Int) < (M.length : Int) := by omega
        have hkdi : (k : Int) < (D.length : Int) := by omega
        obtain ⟨s, hs⟩ : ∃ s, D[k]? = some s := ⟨_, List.getElem?_eq_getElem hkD⟩
        obtain ⟨b, off, hA, hbb, hcx⟩ := ints_at (R.out.2.2.2.1.step (below_step H6.out.1 hbl)) (HF.out.1 k s hs)
        subst hA
        obtain ⟨bm, om, hAm, hbm, hcm⟩ := (H6.out.2.step hbl).sp (by omega)
        subst hAm
        obtain ⟨f1, f2⟩ := hcm k s hs
        have HB := Lib.hid hbl
        clear hbl hs hcm
        go_wp2_with fail
        go_quiet (fail)
        go_wp2_with fail
        go_roundw
        case rel => exact ⟨k + 1, by omega, by go_num, below_draws HB.out nq⟩
        case measure => simp [intOf]; omega
      · have hki : decide ((k : Int) < (M.length : Int)) = false := decide_eq_false (by omega)
        have hkd : decide ((k : Int) < (D.length : Int)) = false := decide_eq_false (by have := HF.out.2.2.2; omega)
        have k6 := below_step H6.out.1 hbl
        have hfa := iDatesFit_any A1 A2 A3 A4 c1 c2 c3 c4 ids l bs M wr (R.out.1.step k6) (R.out.2.1.step k6) (R.out.2.2.1.step k6) (R.out.2.2.2.1.step k6) (by omega) (by omega) (by omega) (by omega)
        rw [HF.out.2.2.1] at hfa
        have HB := Lib.hid (And.intro k6 hfa)
        clear hbl k6 hfa
        go_wp2_with (go_at_call 11; go_must (refine HB.out.2.mono ?_); rintro e w8 ⟨rfl, hb8⟩)
        go_ret
        exact ⟨rfl, below_step R.out.2.2.2.2 (below_step HB.out.1 hb8)⟩

theorem walk (A : Option Addr) (c : Nat) (z : List Int) (w : World) (h1 : z.length ≤ c) (h2 : Reads w w.heap.size 1 A z.length (cellsB z)) (h3 : ∀ b ∈ z, 0 ≤ b ∧ b ≤ 255) (h4 : c ≤ maxLen) :
    Calls Try.prog 6 #[.slice A z.length c] w fun e w2 => e = .returned (.bool true) ∧ Below w.heap.size w w2 := by
  by_cases hn : z.length ≤ 1048576
  · exact walk_short A c z w (Bytes.mk_ h1 h2 h3 h4) hn
  · have e0 : decide ((1048576 : Int) < (z.length : Int)) = true := decide_eq_true (by omega)
    go_enter Try.func6, Try.ntmps6
    go_wp2_with fail
    go_ret
    exact ⟨rfl, Below.refl _ _⟩

set_option linter.unusedVariables false
set_option maxRecDepth 100000 in
theorem lifted (os : Os) (started : os.Started) (H : Type) (enc : TypeId × Value → H) :
    ReturnsInHanded {} Try.checked os 6 .any (Rows.fnEarliestSpec.pre6 enc Try.prog Try.f6 Rows.fnEarliestRow.domain false) (Rows.fnEarliestSpec.post enc Try.prog Try.f6 false true false false) := by
  refine returnsInHanded_of_change (C := Try.checked) lawOwn started (by kernel_rfl) Try.func6
    (ChangeSpec.witness6 (enc := enc) (C := Try.checked) false ⟨#[], #[.slice none 0 0], []⟩ 8 (by kernel_rfl) (by kernel_rfl) (by kernel_rfl) (by kernel_rfl)) ?_
  intro W base args ds gs before hval0 hW hcnd _
  have hval : ∀ (j : Nat) t v, Try.f6.params[j]? = some t → args[j]? = some v → Value.okWide Try.prog W .any base t v := hval0
  have hW' := hW
  obtain ⟨p, q, hA0, hV, rfl, hfz, hnd⟩ := hW
  have hA : DataW.TrodAll enc Try.prog W 0 (fun _ => true) true Try.f6.params.toList args.toList ds p := hA0
  rw [Try.params6] at hA hval
  obtain ⟨v0, vs0, d0, ds0, p0, q0, hargs, rfl, rfl, h0, r0⟩ := trodAll_cons hA
  obtain ⟨rfl, rfl, rfl⟩ := trodAll_nil r0
  obtain rfl : args = #[v0] := by cases args; simp_all
  obtain ⟨rfl, rfl⟩ := trodVars_none hV
  have k0 := h0
  have lt0 : ∀ x ∈ p0, x.block < W.heap.size := by obtain ⟨m, hm⟩ := k0; exact DataW.trod_lt m _ _ _ hm
  obtain ⟨a0, len0, cap0, rfl⟩ := okWide_slice Try.underlying22 (hval 0 22 v0 rfl rfl)
  obtain ⟨z0, hl0, hc0, hr0, hb0, hm0⟩ : ∃ z : List Int, len0 = z.length ∧ len0 ≤ cap0 ∧ Reads W W.heap.size 1 a0 len0 (cellsB z) ∧ (∀ b ∈ z, 0 ≤ b ∧ b ≤ 255) ∧ cap0 ≤ maxLen := by
    obtain ⟨fuel, hf⟩ := h0
    exact open_bytes Try.underlying22 Try.underlying5 (by kernel_rfl) (by simpa [Value.cells] using hf)
  subst hl0
  clear hA0 hval0
  refine (walk a0 cap0 z0 W hc0 hr0 hb0 hm0).mono fun e W' ⟨he, bel⟩ => ?_
  subst he
  exact ⟨_, rfl, _, _, _, [], _, [], hW', trodAll_mk1 (shut_bool Try.underlying4 _), (trodAll_cons_mk (Below.trod lawLaid (by kernel_rfl) (of_decide_eq_true (by kernel_rfl)) k0 bel lt0) trodAll_mk0), rfl, bel.frame _, fun h => by cases h⟩

theorem closed : joinedFacts Try.checked.prog 6 Try.f6 Rows.fnEarliestSpec Rows.fnEarliestRow = true := by
  unfold joinedFacts
  repeat (refine and_t ?_ (by first | (with_reducible exact ent) | (with_reducible refine lif_c ?_; kernel_rfl) | (with_reducible refine mak_c ?_; kernel_rfl) | kernel_rfl))
  kernel_rfl
theorem proved : Rows.FnEarliestSaid :=
  OpenClaim.holds_of_wide 6 Try.f6 rfl rfl rfl rfl rfl rfl rfl ⟨rfl, rfl, rfl, rfl, rfl⟩ rfl rfl rfl rfl rfl (by kernel_rfl) Try.func6 closed
    (of_decide_eq_true (by kernel_rfl)) (by unfold Func.isWrapper; rw [if_neg (of_decide_eq_false (by kernel_rfl))]; exact ⟨rfl, rfl⟩)
    (fun os started H enc _ => lifted os started H enc)
#print axioms proved
end Go.Proofs.Ytnkdpogplkomhaa.lawEarliest
