/-
  Whatever bytes are given: of contexts and two lists of relations drawn from them, the program says whether they have the same order and groups as the model does, and if they have, their least relations are the same. No condition.
-/
import Derived.Test.YtjkjnicgbfpjiaaEnt
import Derived.Test.YtjkjnicgbfpjiaaLif
import Derived.Test.YtjkjnicgbfpjiaaMak
import Derived.Test.YtjkjnicgbfpjiaaDm
import Derived.Test.YtjkjnicgbfpjiaaIi
import Derived.Test.YtjkjnicgbfpjiaaNs
import Derived.Test.YtjkjnicgbfpjiaaJs
import Derived.Test.YtjkjnicgbfpjiaaOpen
import Derived.Deep.RegionHeld3
namespace Go.Proofs.Ytjkjnicgbfpjiaa.lawMatrixOnly
open Go.ChangeShapes Go.WideShapes Go.ChangeAt Go.RowKit

set_option maxHeartbeats 2000000 in
set_option maxRecDepth 100000 in
theorem walk_short (A : Option Addr) (c : Nat) (z : List Int) (w : World) (h : Bytes w A c z) (hn : z.length ≤ 1048576) :
    Calls Try.prog 6 #[.slice A z.length c] w fun e w2 => e = .returned (.bool true) ∧ Below w.heap.size w w2 := by
  have e0 : decide ((1048576 : Int) < (z.length : Int)) = false := decide_eq_false (by omega)
  go_enter Try.func6, Try.ntmps6
  go_wp2_with fail
  refine (dMatSame_any A c z _ h).mono ?_
  rintro e w2 ⟨v1, v2, v3, ids, a, b, rfl, ho1, ho2, ho3, hl1, hl2, hl3, hb2⟩
  obtain ⟨A1, c1, hv1, hcap1, hr1⟩ := own_slice ho1
  obtain ⟨A2, c2, hv2, hcap2, hr2⟩ := own_slice ho2
  obtain ⟨A3, c3, hv3, hcap3, hr3⟩ := own_slice ho3
  subst hv1 hv2 hv3
  obtain ⟨s, hs⟩ : ∃ s, s = sameG ids a b := ⟨_, rfl⟩
  have eb : (s != s) = false := by simp
  have ec : (s == s) = true := by simp
  have HR := Lib.hid (And.intro hb2 (And.intro hr1 (And.intro hr2 (And.intro hr3 hs))))
  clear ho1 ho2 ho3 hb2 h hr1 hr2 hr3 hs
  go_wp2_with fail
  refine (iSame_any _ _ _ _ _ _ ids a b _ HR.out.2.1 HR.out.2.2.1 HR.out.2.2.2.1 (by omega) (by omega) (by omega)).mono ?_
  rintro e w3 ⟨rfl, hb3⟩
  rw [← HR.out.2.2.2.2]
  go_wp2_with fail
  refine (sSame_any _ _ _ _ _ _ ids a b _ (HR.out.2.1.step hb3) (HR.out.2.2.1.step hb3) (HR.out.2.2.2.1.step hb3) (by omega) (by omega) (by omega)).mono ?_
  rintro e w4 ⟨rfl, hb4⟩
  rw [← HR.out.2.2.2.2]
  have k4 := below_step hb3 hb4
  have R := Lib.hid (And.intro (HR.out.2.1.step k4) (And.intro (HR.out.2.2.1.step k4) (And.intro (HR.out.2.2.2.1.step k4) (below_step HR.out.1 k4))))
  clear hb3 hb4 k4
  cases s
  · clear eb ec
    go_wp2_with fail
    go_ret
    exact ⟨rfl, R.out.2.2.2⟩
  · have hs : sameG ids a b = true := HR.out.2.2.2.2.symm
    have hsm := same_mat hs
    have hM : matS ids a = matS ids b := by unfold matS; rw [hsm.1, hsm.2]
    have h1 := iMatrixOf_any A1 A2 c1 c2 ids a w4 R.out.1 R.out.2.1 (by omega) (by omega)
    have h2 := fun (W : World) (hW : Below w4.heap.size w4 W) => iMatrixOf_any A1 A3 c1 c3 ids b W (R.out.1.step hW) (R.out.2.2.1.step hW) (by omega) (by omega)
    rw [← hM, ← hsm.1] at h2
    have hml := matS_len ids a
    obtain ⟨M, hMe⟩ : ∃ M, M = matS ids a := ⟨_, rfl⟩
    obtain ⟨o, ho⟩ : ∃ o, o = ordOkG ids a := ⟨_, rfl⟩
    rw [← hMe] at h1 h2 hml
    rw [← ho] at h1 h2
    have HV := Lib.hid (And.intro h1 h2)
    have q2 := eqLC_self M
    have ed : (o == o) = true := by simp
    clear hs hsm hM h1 h2 hMe ho eb ec
    go_wp2_with fail
    refine HV.out.1.mono ?_
    rintro e w6 ⟨v6, rfl, hb6, ho6⟩
    obtain ⟨A6, c6, hv6, _, hr6⟩ := own_slice ho6
    subst hv6
    have H6 := Lib.hid (And.intro hb6 hr6)
    clear hb6 ho6 hr6
    go_wp2_with fail
    refine (HV.out.2 _ H6.out.1).mono ?_
    rintro e w7 ⟨v7, rfl, hb7, ho7⟩
    obtain ⟨A7, c7, hv7, _, hr7⟩ := own_slice ho7
    subst hv7
    have H7 := Lib.hid (And.intro hb7 hr7)
    clear hb7 ho7 hr7
    go_wp2_with fail
    refine (sameRel_any _ _ _ _ M M _ (H6.out.2.step H7.out.1) H7.out.2 (by omega)).mono ?_
    rintro e w8 ⟨rfl, hb8⟩
    go_wp2_with fail
    go_ret
    exact ⟨rfl, below_step R.out.2.2.2 (below_step H6.out.1 (below_step H7.out.1 hb8))⟩

theorem walk (A : Option Addr) (c : Nat) (z : List Int) (w : World) (h1 : z.length ≤ c) (h2 : Reads w w.heap.size 1 A z.length (cellsB z)) (h3 : ∀ b ∈ z, 0 ≤ b ∧ b ≤ 255) (h4 : c ≤ maxLen) :
    Calls Try.prog 6 #[.slice A z.length c] w fun e w2 => e = .returned (.bool true) ∧ Below w.heap.size w w2 := by
  by_cases hn : z.length ≤ 1048576
  · exact walk_short A c z w (Bytes.mk_ h1 h2 h3 h4) hn
  · have e0 : decide ((1048576 : Int) < (z.length : Int)) = true := decide_eq_true (by omega)
    go_enter Try.func6, Try.ntmps6
    go_wp2_with fail
    go_ret
    exact ⟨rfl, Below.refl _ _⟩

set_option linter.unusedVariables false
set_option maxRecDepth 100000 in
theorem lifted (os : Os) (started : os.Started) (H : Type) (enc : TypeId × Value → H) :
    ReturnsInHanded {} Try.checked os 6 .any (Rows.fnMatrixOnlySpec.pre6 enc Try.prog Try.f6 Rows.fnMatrixOnlyRow.domain false) (Rows.fnMatrixOnlySpec.post enc Try.prog Try.f6 false true false false) := by
  refine returnsInHanded_of_change (C := Try.checked) lawOwn started (by kernel_rfl) Try.func6
    (ChangeSpec.witness6 (enc := enc) (C := Try.checked) false ⟨#[], #[.slice none 0 0], []⟩ 8 (by kernel_rfl) (by kernel_rfl) (by kernel_rfl) (by kernel_rfl)) ?_
  intro W base args ds gs before hval0 hW hcnd _
  have hval : ∀ (j : Nat) t v, Try.f6.params[j]? = some t → args[j]? = some v → Value.okWide Try.prog W .any base t v := hval0
  have hW' := hW
  obtain ⟨p, q, hA0, hV, rfl, hfz, hnd⟩ := hW
  have hA : DataW.TrodAll enc Try.prog W 0 (fun _ => true) true Try.f6.params.toList args.toList ds p := hA0
  rw [Try.params6] at hA hval
  obtain ⟨v0, vs0, d0, ds0, p0, q0, hargs, rfl, rfl, h0, r0⟩ := trodAll_cons hA
  obtain ⟨rfl, rfl, rfl⟩ := trodAll_nil r0
  obtain rfl : args = #[v0] := by cases args; simp_all
  obtain ⟨rfl, rfl⟩ := trodVars_none hV
  have k0 := h0
  have lt0 : ∀ x ∈ p0, x.block < W.heap.size := by obtain ⟨m, hm⟩ := k0; exact DataW.trod_lt m _ _ _ hm
  obtain ⟨a0, len0, cap0, rfl⟩ := okWide_slice Try.underlying22 (hval 0 22 v0 rfl rfl)
  obtain ⟨z0, hl0, hc0, hr0, hb0, hm0⟩ : ∃ z : List Int, len0 = z.length ∧ len0 ≤ cap0 ∧ Reads W W.heap.size 1 a0 len0 (cellsB z) ∧ (∀ b ∈ z, 0 ≤ b ∧ b ≤ 255) ∧ cap0 ≤ maxLen := by
    obtain ⟨fuel, hf⟩ := h0
    exact open_bytes Try.underlying22 Try.underlying5 (by kernel_rfl) (by simpa [Value.cells] using hf)
  subst hl0
  clear hA0 hval0
  refine (walk a0 cap0 z0 W hc0 hr0 hb0 hm0).mono fun e W' ⟨he, bel⟩ => ?_
  subst he
  exact ⟨_, rfl, _, _, _, [], _, [], hW', trodAll_mk1 (shut_bool Try.underlying4 _), (trodAll_cons_mk (Below.trod lawLaid (by kernel_rfl) (of_decide_eq_true (by kernel_rfl)) k0 bel lt0) trodAll_mk0), rfl, bel.frame _, fun h => by cases h⟩

theorem closed : joinedFacts Try.checked.prog 6 Try.f6 Rows.fnMatrixOnlySpec Rows.fnMatrixOnlyRow = true := by
  unfold joinedFacts
  repeat (refine and_t ?_ (by first | (with_reducible exact ent) | (with_reducible refine lif_c ?_; kernel_rfl) | (with_reducible refine mak_c ?_; kernel_rfl) | kernel_rfl))
  kernel_rfl
theorem proved : Rows.FnMatrixOnlySaid :=
  OpenClaim.holds_of_wide 6 Try.f6 rfl rfl rfl rfl rfl rfl rfl ⟨rfl, rfl, rfl, rfl, rfl⟩ rfl rfl rfl rfl rfl (by kernel_rfl) Try.func6 closed
    (of_decide_eq_true (by kernel_rfl)) (by unfold Func.isWrapper; rw [if_neg (of_decide_eq_false (by kernel_rfl))]; exact ⟨rfl, rfl⟩)
    (fun os started H enc _ => lifted os started H enc)
#print axioms proved
end Go.Proofs.Ytjkjnicgbfpjiaa.lawMatrixOnly
