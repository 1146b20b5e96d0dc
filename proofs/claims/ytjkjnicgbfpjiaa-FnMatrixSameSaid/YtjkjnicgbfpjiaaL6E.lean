/-
  Whatever bytes are given: of contexts and two lists of relations drawn from them, the program says whether they have the same order and groups as the model does, and if they have, they have so both ways, and their groups and their orders are the same. No condition.
-/
import Derived.Test.YtjkjnicgbfpjiaaEnt
import Derived.Test.YtjkjnicgbfpjiaaLif
import Derived.Test.YtjkjnicgbfpjiaaMak
import Derived.Test.YtjkjnicgbfpjiaaDm
import Derived.Test.YtjkjnicgbfpjiaaNs
import Derived.Test.YtjkjnicgbfpjiaaJs
import Derived.Test.YtjkjnicgbfpjiaaV4
import Derived.Test.YtjkjnicgbfpjiaaLw
import Derived.Test.YtjkjnicgbfpjiaaInts
import Derived.Test.YtjkjnicgbfpjiaaOpen
import Derived.Deep.RegionHeld3
namespace Go.Proofs.Ytjkjnicgbfpjiaa.lawMatrixSame
open Go.ChangeShapes Go.WideShapes Go.ChangeAt Go.RowKit

set_option maxHeartbeats 2000000 in
set_option maxRecDepth 100000 in
theorem walk_short (A : Option Addr) (c : Nat) (z : List Int) (w : World) (h : Bytes w A c z) (hn : z.length ≤ 1048576) :
    Calls Try.prog 7 #[.slice A z.length c] w fun e w2 => e = .returned (.bool true) ∧ Below w.heap.size w w2 := by
  have e0 : decide ((1048576 : Int) < (z.length : Int)) = false := decide_eq_false (by omega)
  go_enter Try.func7, Try.ntmps7
  go_wp2_with fail
  refine (dMatSame_any A c z _ h).mono ?_
  rintro e w2 ⟨v1, v2, v3, ids, a, b, rfl, ho1, ho2, ho3, hl1, hl2, hl3, hb2⟩
  obtain ⟨A1, c1, hv1, hcap1, hr1⟩ := own_slice ho1
  obtain ⟨A2, c2, hv2, hcap2, hr2⟩ := own_slice ho2
  obtain ⟨A3, c3, hv3, hcap3, hr3⟩ := own_slice ho3
  subst hv1 hv2 hv3
  obtain ⟨s, hs⟩ : ∃ s, s = sameG ids a b := ⟨_, rfl⟩
  have eb : (s != s) = false := by simp
  have ec : (s == s) = true := by simp
  have HR := Lib.hid (And.intro hb2 (And.intro hr1 (And.intro hr2 (And.intro hr3 hs))))
  clear ho1 ho2 ho3 hb2 h hr1 hr2 hr3 hs
  go_wp2_with fail
  refine (iSame_any _ _ _ _ _ _ ids a b _ HR.out.2.1 HR.out.2.2.1 HR.out.2.2.2.1 (by omega) (by omega) (by omega)).mono ?_
  rintro e w3 ⟨rfl, hb3⟩
  rw [← HR.out.2.2.2.2]
  go_wp2_with fail
  refine (sSame_any _ _ _ _ _ _ ids a b _ (HR.out.2.1.step hb3) (HR.out.2.2.1.step hb3) (HR.out.2.2.2.1.step hb3) (by omega) (by omega) (by omega)).mono ?_
  rintro e w4 ⟨rfl, hb4⟩
  rw [← HR.out.2.2.2.2]
  have k4 := below_step hb3 hb4
  have R := Lib.hid (And.intro (HR.out.2.1.step k4) (And.intro (HR.out.2.2.1.step k4) (And.intro (HR.out.2.2.2.1.step k4) (below_step HR.out.1 k4))))
  clear hb3 hb4 k4
  cases s
  · clear eb ec
    go_wp2_with fail
    go_ret
    exact ⟨rfl, R.out.2.2.2⟩
  · have hs : sameG ids a b = true := HR.out.2.2.2.2.symm
    obtain ⟨p1, p2, p3, p4⟩ := sameG_parts hs
    have hG : groupsOfG ids b = groupsOfG ids a := by rw [groupsOfG, groupsOfG, if_pos p1, if_pos p2, p4]
    have hT : ordOfG ids b = ordOfG ids a := by rw [ordOfG, ordOfG, if_pos p1, if_pos p2, p3]
    have s1 := fun (W : World) (hW : Below w4.heap.size w4 W) => iSame_any A1 A3 A2 c1 c3 c2 ids b a W (R.out.1.step hW) (R.out.2.2.1.step hW) (R.out.2.1.step hW) (by omega) (by omega) (by omega)
    have s2 := fun (W : World) (hW : Below w4.heap.size w4 W) => iSame_any A1 A2 A2 c1 c2 c2 ids a a W (R.out.1.step hW) (R.out.2.1.step hW) (R.out.2.1.step hW) (by omega) (by omega) (by omega)
    rw [sameG_back hs] at s1
    rw [sameG_self p1] at s2
    have g1 := iGroups_any A1 A2 c1 c2 ids a w4 R.out.1 R.out.2.1 (by omega) (by omega)
    have g2 := fun (W : World) (hW : Below w4.heap.size w4 W) => iGroups_any A1 A3 c1 c3 ids b W (R.out.1.step hW) (R.out.2.2.1.step hW) (by omega) (by omega)
    have o1 := fun (W : World) (hW : Below w4.heap.size w4 W) => iOrderOf_any A1 A2 c1 c2 ids a W (R.out.1.step hW) (R.out.2.1.step hW) (by omega) (by omega)
    have o2 := fun (W : World) (hW : Below w4.heap.size w4 W) => iOrderOf_any A1 A3 c1 c3 ids b W (R.out.1.step hW) (R.out.2.2.1.step hW) (by omega) (by omega)
    have hl7 := groupsOfG_len ids a
    have hl8 := groupsOfG_len ids b
    have hl9 := ordT_small ids a
    have hl10 := ordT_small ids b
    unfold GroupsPost at g1 g2
    rw [p1] at g1
    rw [p2, hG] at g2
    rw [hT] at o2
    obtain ⟨G, hGe⟩ : ∃ G, G = groupsOfG ids a := ⟨_, rfl⟩
    obtain ⟨T, hTe⟩ : ∃ T, T = ordOfG ids a := ⟨_, rfl⟩
    rw [← hGe] at g1 g2 hl7
    rw [← hTe] at o1 o2 hl9
    have HV := Lib.hid (And.intro g1 (And.intro g2 (And.intro s1 (And.intro s2 (And.intro o1 (And.intro o2 hl9))))))
    have q3 := eqLI_self G
    clear hs p1 p2 p3 p4 hG hT g1 g2 s1 s2 o1 o2 hl8 hl9 hl10 hGe hTe eb ec
    go_wp2_with fail
    refine HV.out.1.mono ?_
    rintro e w6 ⟨v6, rfl, hb6, ho6⟩
    obtain ⟨A6, c6, hv6, _, hr6⟩ := own_slice ho6
    subst hv6
    have H6 := Lib.hid (And.intro hb6 hr6)
    clear hb6 ho6 hr6
    go_wp2_with fail
    refine (HV.out.2.1 _ H6.out.1).mono ?_
    rintro e w7 ⟨v7, rfl, hb7, ho7⟩
    obtain ⟨A7, c7, hv7, _, hr7⟩ := own_slice ho7
    subst hv7
    have H7 := Lib.hid (And.intro (below_step H6.out.1 hb7) (And.intro hr7 (H6.out.2.step hb7)))
    clear hb7 ho7 hr7
    go_wp2_with fail
    refine (HV.out.2.2.1 _ H7.out.1).mono ?_
    rintro e w8 ⟨rfl, hb8⟩
    have k8 := below_step H7.out.1 hb8
    go_wp2_with fail
    refine (HV.out.2.2.2.1 _ k8).mono ?_
    rintro e w9 ⟨rfl, hb9⟩
    have k79 := below_step hb8 hb9
    have H9 := Lib.hid (And.intro (below_step k8 hb9) (And.intro (H7.out.2.1.step k79) (H7.out.2.2.step k79)))
    clear hb8 hb9 k8 k79
    go_wp2_with fail
    refine (sameInts_any _ _ _ _ G G _ H9.out.2.2 H9.out.2.1 (by omega)).mono ?_
    rintro e w10 ⟨rfl, hb10⟩
    have k10 := below_step H9.out.1 hb10
    clear hb10
    go_wp2_with fail
    refine (HV.out.2.2.2.2.1 _ k10).mono ?_
    rintro e w11 ⟨v11, vs11, rfl, hb11, ho11⟩
    obtain ⟨A11, c11, hv11, _, hm11⟩ := ho11.nest
    subst hv11
    have H11 := Lib.hid (And.intro (below_step k10 hb11) hm11)
    clear hb11 ho11 hm11 k10
    go_wp2_with fail
    refine (HV.out.2.2.2.2.2.1 _ H11.out.1).mono ?_
    rintro e w12 ⟨v12, vs12, rfl, hb12, ho12⟩
    obtain ⟨A12, c12, hv12, _, hm12⟩ := ho12.nest
    subst hv12
    have H12 := Lib.hid (And.intro (below_step H11.out.1 hb12) (And.intro (H11.out.2.step hb12) hm12))
    clear hb12 ho12 hm12
    go_wp2_with fail
    refine (sameT_self _ _ _ _ T _ H12.out.2.1 H12.out.2.2 (by have := HV.out.2.2.2.2.2.2.1; omega) (fun r hr => by have := HV.out.2.2.2.2.2.2.2 r hr; omega)).mono ?_
    rintro e w13 ⟨rfl, hb13⟩
    go_wp2_with fail
    go_ret
    exact ⟨rfl, below_step R.out.2.2.2 (below_step H12.out.1 hb13)⟩

theorem walk (A : Option Addr) (c : Nat) (z : List Int) (w : World) (h1 : z.length ≤ c) (h2 : Reads w w.heap.size 1 A z.length (cellsB z)) (h3 : ∀ b ∈ z, 0 ≤ b ∧ b ≤ 255) (h4 : c ≤ maxLen) :
    Calls Try.prog 7 #[.slice A z.length c] w fun e w2 => e = .returned (.bool true) ∧ Below w.heap.size w w2 := by
  by_cases hn : z.length ≤ 1048576
  · exact walk_short A c z w (Bytes.mk_ h1 h2 h3 h4) hn
  · have e0 : decide ((1048576 : Int) < (z.length : Int)) = true := decide_eq_true (by omega)
    go_enter Try.func7, Try.ntmps7
    go_wp2_with fail
    go_ret
    exact ⟨rfl, Below.refl _ _⟩

set_option linter.unusedVariables false
set_option maxRecDepth 100000 in
theorem lifted (os : Os) (started : os.Started) (H : Type) (enc : TypeId × Value → H) :
    ReturnsInHanded {} Try.checked os 7 .any (Rows.fnMatrixSameSpec.pre6 enc Try.prog Try.f7 Rows.fnMatrixSameRow.domain false) (Rows.fnMatrixSameSpec.post enc Try.prog Try.f7 false true false false) := by
  refine returnsInHanded_of_change (C := Try.checked) lawOwn started (by kernel_rfl) Try.func7
    (ChangeSpec.witness6 (enc := enc) (C := Try.checked) false ⟨#[], #[.slice none 0 0], []⟩ 8 (by kernel_rfl) (by kernel_rfl) (by kernel_rfl) (by kernel_rfl)) ?_
  intro W base args ds gs before hval0 hW hcnd _
  have hval : ∀ (j : Nat) t v, Try.f7.params[j]? = some t → args[j]? = some v → Value.okWide Try.prog W .any base t v := hval0
  have hW' := hW
  obtain ⟨p, q, hA0, hV, rfl, hfz, hnd⟩ := hW
  have hA : DataW.TrodAll enc Try.prog W 0 (fun _ => true) true Try.f7.params.toList args.toList ds p := hA0
  rw [Try.params7] at hA hval
  obtain ⟨v0, vs0, d0, ds0, p0, q0, hargs, rfl, rfl, h0, r0⟩ := trodAll_cons hA
  obtain ⟨rfl, rfl, rfl⟩ := trodAll_nil r0
  obtain rfl : args = #[v0] := by cases args; simp_all
  obtain ⟨rfl, rfl⟩ := trodVars_none hV
  have k0 := h0
  have lt0 : ∀ x ∈ p0, x.block < W.heap.size := by obtain ⟨m, hm⟩ := k0; exact DataW.trod_lt m _ _ _ hm
  obtain ⟨a0, len0, cap0, rfl⟩ := okWide_slice Try.underlying22 (hval 0 22 v0 rfl rfl)
  obtain ⟨z0, hl0, hc0, hr0, hb0, hm0⟩ : ∃ z : List Int, len0 = z.length ∧ len0 ≤ cap0 ∧ Reads W W.heap.size 1 a0 len0 (cellsB z) ∧ (∀ b ∈ z, 0 ≤ b ∧ b ≤ 255) ∧ cap0 ≤ maxLen := by
    obtain ⟨fuel, hf⟩ := h0
    exact open_bytes Try.underlying22 Try.underlying5 (by kernel_rfl) (by simpa [Value.cells] using hf)
  subst hl0
  clear hA0 hval0
  refine (walk a0 cap0 z0 W hc0 hr0 hb0 hm0).mono fun e W' ⟨he, bel⟩ => ?_
  subst he
  exact ⟨_, rfl, _, _, _, [], _, [], hW', trodAll_mk1 (shut_bool Try.underlying4 _), (trodAll_cons_mk (Below.trod lawLaid (by kernel_rfl) (of_decide_eq_true (by kernel_rfl)) k0 bel lt0) trodAll_mk0), rfl, bel.frame _, fun h => by cases h⟩

theorem closed : joinedFacts Try.checked.prog 7 Try.f7 Rows.fnMatrixSameSpec Rows.fnMatrixSameRow = true := by
  unfold joinedFacts
  repeat (refine and_t ?_ (by first | (with_reducible exact ent) | (with_reducible refine lif_c ?_; kernel_rfl) | (with_reducible refine mak_c ?_; kernel_rfl) | kernel_rfl))
  kernel_rfl
theorem proved : Rows.FnMatrixSameSaid :=
  OpenClaim.holds_of_wide 7 Try.f7 rfl rfl rfl rfl rfl rfl rfl ⟨rfl, rfl, rfl, rfl, rfl⟩ rfl rfl rfl rfl rfl (by kernel_rfl) Try.func7 closed
    (of_decide_eq_true (by kernel_rfl)) (by unfold Func.isWrapper; rw [if_neg (of_decide_eq_false (by kernel_rfl))]; exact ⟨rfl, rfl⟩)
    (fun os started H enc _ => lifted os started H enc)
#print axioms proved
end Go.Proofs.Ytjkjnicgbfpjiaa.lawMatrixSame
