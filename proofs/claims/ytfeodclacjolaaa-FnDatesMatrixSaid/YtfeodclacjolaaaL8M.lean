/-
  Whatever bytes are given: of contexts, relations and bounds drawn from them, the least relations have the same dates, and the program's dates are the model's. No condition.
-/
import Derived.Test.YtfeodclacjolaaaEnt
import Derived.Test.YtfeodclacjolaaaLif
import Derived.Test.YtfeodclacjolaaaMak
import Derived.Test.YtfeodclacjolaaaZz
import Derived.Test.YtfeodclacjolaaaId
import Derived.Test.YtfeodclacjolaaaOpen
import Derived.Test.YtfeodclacjolaaaIi
import Derived.Deep.RegionHeld3
namespace Go.Proofs.Ytfeodclacjolaaa.lawDatesMatrix
open Go.ChangeShapes Go.WideShapes Go.ChangeAt Go.RowKit

set_option maxHeartbeats 2000000 in
set_option maxRecDepth 100000 in
theorem walk_short (A : Option Addr) (c : Nat) (z : List Int) (w : World) (h : Bytes w A c z) (hn : z.length ≤ 1048576) :
    Calls Try.prog 8 #[.slice A z.length c] w fun e w2 => e = .returned (.bool true) ∧ Below w.heap.size w w2 := by
  have e0 : decide ((1048576 : Int) < (z.length : Int)) = false := decide_eq_false (by omega)
  go_enter Try.func8, Try.ntmps8
  go_wp2_with fail
  refine (dDates_any A c z _ h).mono ?_
  rintro e w2 ⟨v1, v2, v3, ids, l, bs, rfl, ho1, ho2, ho3, hl1, hl2, hl3, hb2⟩
  obtain ⟨A1, c1, hv1, hcap1, hr1⟩ := own_slice ho1
  obtain ⟨A2, c2, hv2, hcap2, hr2⟩ := own_slice ho2
  obtain ⟨A3, c3, hv3, hcap3, hr3⟩ := own_slice ho3
  subst hv1 hv2 hv3
  have HR := Lib.hid (And.intro hb2 (And.intro hr1 (And.intro hr2 hr3)))
  clear ho1 ho2 ho3 hb2 h hr1 hr2 hr3
  obtain ⟨M, hM⟩ : ∃ M, M = datesD ids l bs := ⟨_, rfl⟩
  obtain ⟨o, ho⟩ : ∃ o, o = okD ids l bs := ⟨_, rfl⟩
  have hMl : M.length ≤ 13 := by rw [hM]; exact Nat.le_trans (datesD_len ids l bs) (by omega)
  have q2 := eqLS_self M
  have eb : (o != o) = false := by simp
  have ec : (o == o) = true := by simp
  have HC := Lib.hid (And.intro hM ho)
  clear hM ho
  go_wp2_with fail
  refine (iDatesOf_any _ _ _ _ _ _ ids l bs _ HR.out.2.1 HR.out.2.2.1 HR.out.2.2.2 (by omega) (by omega) (by omega)).mono ?_
  rintro e w3 ⟨v4, rfl, hb3, ho4⟩
  rw [← HC.out.1] at ho4
  rw [← HC.out.2]
  obtain ⟨A4, c4, hv4, hcap4, hr4⟩ := own_slice ho4
  subst hv4
  have H3 := Lib.hid (And.intro hb3 hr4)
  clear hb3 ho4 hr4
  go_wp2_with fail
  refine (sDatesOf_any _ _ _ _ _ _ ids l bs _ (HR.out.2.1.step H3.out.1) (HR.out.2.2.1.step H3.out.1) (HR.out.2.2.2.step H3.out.1) (by omega) (by omega) (by omega)).mono ?_
  rintro e w4 ⟨v5, rfl, hb4, ho5⟩
  rw [← HC.out.1] at ho5
  rw [← HC.out.2]
  obtain ⟨A5, c5, hv5, hcap5, hr5⟩ := own_slice ho5
  subst hv5
  have H4 := Lib.hid (And.intro hb4 hr5)
  clear hb4 ho5 hr5
  go_wp2_with fail
  refine (sameSpan_any _ _ _ _ M M _ (H3.out.2.step H4.out.1) H4.out.2 (by omega)).mono ?_
  rintro e w5 ⟨rfl, hb5⟩
  have k5 := below_step H4.out.1 hb5
  have k25 := below_step H3.out.1 k5
  have R := Lib.hid (And.intro (HR.out.2.1.step k25) (And.intro (HR.out.2.2.1.step k25) (And.intro (HR.out.2.2.2.step k25) (And.intro (H3.out.2.step k5) (below_step HR.out.1 k25)))))
  have R4 := Lib.hid (H4.out.2.step hb5)
  clear hb5 k5 k25
  obtain ⟨od, hod⟩ : ∃ od, ordOkG ids l = od := ⟨_, rfl⟩
  have hov := fun (W : World) (hW : Below w5.heap.size w5 W) => sOrdValid_any A1 A2 c1 c2 ids l W (R.out.1.step hW) (R.out.2.1.step hW) (by omega) (by omega)
  rw [hod] at hov
  cases od
  · have HV := Lib.hid hov
    clear hov hod
    go_wp2_with fail
    refine (HV.out _ (Below.refl _ _)).mono ?_
    rintro e w6 ⟨rfl, hb6⟩
    go_wp2_with fail
    refine (sameSpan_any _ _ _ _ M M _ (R.out.2.2.2.1.step hb6) (R4.out.step hb6) (by omega)).mono ?_
    rintro e w7 ⟨rfl, hb7⟩
    go_wp2_with fail
    go_ret
    exact ⟨rfl, below_step R.out.2.2.2.2 (below_step hb6 hb7)⟩
  · have hml : (matS ids l).length ≤ 31 := Nat.le_trans (matS_len ids l) (by omega)
    have hdm := dates_mat (B := bs) hod
    have hmS : matS ids l = matG ids l := matS_ok hod
    have hmo := fun (W : World) (hW : Below w5.heap.size w5 W) => iMatrixOf_any A1 A2 c1 c2 ids l W (R.out.1.step hW) (R.out.2.1.step hW) (by omega) (by omega)
    rw [hod] at hmo
    rw [hmS] at hmo hml
    obtain ⟨L, hL⟩ : ∃ L, L = matG ids l := ⟨_, rfl⟩
    rw [← hL] at hmo hml hdm
    rw [← HC.out.1, ← HC.out.2] at hdm
    have HV := Lib.hid (And.intro hov (And.intro hmo hdm))
    clear hov hmo hdm hmS hL hod
    go_wp2_with fail
    refine (HV.out.1 _ (Below.refl _ _)).mono ?_
    rintro e w6 ⟨rfl, hb6⟩
    have B6 := Lib.hid hb6
    clear hb6
    go_wp2_with fail
    refine (HV.out.2.1 _ B6.out).mono ?_
    rintro e w7 ⟨v7, rfl, hb7, ho7⟩
    obtain ⟨A7, c7, hv7, _, hr7⟩ := own_slice ho7
    subst hv7
    have k7 := below_step B6.out hb7
    have B7 := Lib.hid (And.intro k7 hr7)
    clear ho7 hb7 k7 hr7
    go_wp2_with fail
    have hid := iDatesOf_any A1 A7 A3 c1 c7 c3 ids L bs w7 (R.out.1.step B7.out.1) B7.out.2 (R.out.2.2.1.step B7.out.1) (by omega) (by omega) (by omega)
    rw [HV.out.2.2.1, HV.out.2.2.2] at hid
    refine hid.mono ?_
    rintro e w8 ⟨v8, rfl, hb8, ho8⟩
    obtain ⟨A8, c8, hv8, _, hr8⟩ := own_slice ho8
    subst hv8
    have k8 := below_step B7.out.1 hb8
    have B8 := Lib.hid (And.intro k8 hr8)
    clear ho8 hb8 k8 hr8 hid
    go_wp2_with fail
    refine (sameSpan_any _ _ _ _ M M _ B8.out.2 (R.out.2.2.2.1.step B8.out.1) (by omega)).mono ?_
    rintro e w9 ⟨rfl, hb9⟩
    go_wp2_with fail
    go_ret
    exact ⟨rfl, below_step R.out.2.2.2.2 (below_step B8.out.1 hb9)⟩

theorem walk (A : Option Addr) (c : Nat) (z : List Int) (w : World) (h1 : z.length ≤ c) (h2 : Reads w w.heap.size 1 A z.length (cellsB z)) (h3 : ∀ b ∈ z, 0 ≤ b ∧ b ≤ 255) (h4 : c ≤ maxLen) :
    Calls Try.prog 8 #[.slice A z.length c] w fun e w2 => e = .returned (.bool true) ∧ Below w.heap.size w w2 := by
  by_cases hn : z.length ≤ 1048576
  · exact walk_short A c z w (Bytes.mk_ h1 h2 h3 h4) hn
  · have e0 : decide ((1048576 : Int) < (z.length : Int)) = true := decide_eq_true (by omega)
    go_enter Try.func8, Try.ntmps8
    go_wp2_with fail
    go_ret
    exact ⟨rfl, Below.refl _ _⟩

set_option linter.unusedVariables false
set_option maxRecDepth 100000 in
theorem lifted (os : Os) (started : os.Started) (H : Type) (enc : TypeId × Value → H) :
    ReturnsInHanded {} Try.checked os 8 .any (Rows.fnDatesMatrixSpec.pre6 enc Try.prog Try.f8 Rows.fnDatesMatrixRow.domain false) (Rows.fnDatesMatrixSpec.post enc Try.prog Try.f8 false true false false) := by
  refine returnsInHanded_of_change (C := Try.checked) lawOwn started (by kernel_rfl) Try.func8
    (ChangeSpec.witness6 (enc := enc) (C := Try.checked) false ⟨#[], #[.slice none 0 0], []⟩ 8 (by kernel_rfl) (by kernel_rfl) (by kernel_rfl) (by kernel_rfl)) ?_
  intro W base args ds gs before hval0 hW hcnd _
  have hval : ∀ (j : Nat) t v, Try.f8.params[j]? = some t → args[j]? = some v → Value.okWide Try.prog W .any base t v := hval0
  have hW' := hW
  obtain ⟨p, q, hA0, hV, rfl, hfz, hnd⟩ := hW
  have hA : DataW.TrodAll enc Try.prog W 0 (fun _ => true) true Try.f8.params.toList args.toList ds p := hA0
  rw [Try.params8] at hA hval
  obtain ⟨v0, vs0, d0, ds0, p0, q0, hargs, rfl, rfl, h0, r0⟩ := trodAll_cons hA
  obtain ⟨rfl, rfl, rfl⟩ := trodAll_nil r0
  obtain rfl : args = #[v0] := by cases args; simp_all
  obtain ⟨rfl, rfl⟩ := trodVars_none hV
  have k0 := h0
  have lt0 : ∀ x ∈ p0, x.block < W.heap.size := by obtain ⟨m, hm⟩ := k0; exact DataW.trod_lt m _ _ _ hm
  obtain ⟨a0, len0, cap0, rfl⟩ := okWide_slice Try.underlying22 (hval 0 22 v0 rfl rfl)
  obtain ⟨z0, hl0, hc0, hr0, hb0, hm0⟩ : ∃ z : List Int, len0 = z.length ∧ len0 ≤ cap0 ∧ Reads W W.heap.size 1 a0 len0 (cellsB z) ∧ (∀ b ∈ z, 0 ≤ b ∧ b ≤ 255) ∧ cap0 ≤ maxLen := by
    obtain ⟨fuel, hf⟩ := h0
    exact open_bytes Try.underlying22 Try.underlying5 (by kernel_rfl) (by simpa [Value.cells] using hf)
  subst hl0
  clear hA0 hval0
  refine (walk a0 cap0 z0 W hc0 hr0 hb0 hm0).mono fun e W' ⟨he, bel⟩ => ?_
  subst he
  exact ⟨_, rfl, _, _, _, [], _, [], hW', trodAll_mk1 (shut_bool Try.underlying4 _), (trodAll_cons_mk (Below.trod lawLaid (by kernel_rfl) (of_decide_eq_true (by kernel_rfl)) k0 bel lt0) trodAll_mk0), rfl, bel.frame _, fun h => by cases h⟩

theorem closed : joinedFacts Try.checked.prog 8 Try.f8 Rows.fnDatesMatrixSpec Rows.fnDatesMatrixRow = true := by
  unfold joinedFacts
  repeat (refine and_t ?_ (by first | (with_reducible exact ent) | (with_reducible refine lif_c ?_; kernel_rfl) | (with_reducible refine mak_c ?_; kernel_rfl) | kernel_rfl))
  kernel_rfl
theorem proved : Rows.FnDatesMatrixSaid :=
  OpenClaim.holds_of_wide 8 Try.f8 rfl rfl rfl rfl rfl rfl rfl ⟨rfl, rfl, rfl, rfl, rfl⟩ rfl rfl rfl rfl rfl (by kernel_rfl) Try.func8 closed
    (of_decide_eq_true (by kernel_rfl)) (by unfold Func.isWrapper; rw [if_neg (of_decide_eq_false (by kernel_rfl))]; exact ⟨rfl, rfl⟩)
    (fun os started H enc _ => lifted os started H enc)
#print axioms proved
end Go.Proofs.Ytfeodclacjolaaa.lawDatesMatrix
