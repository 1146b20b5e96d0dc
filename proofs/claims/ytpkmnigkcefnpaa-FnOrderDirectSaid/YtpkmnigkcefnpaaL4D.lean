/-
  Whatever bytes are given: of contexts and relations drawn from them, the program's order is the model's, and whatever is told to lie above something lies above it. No condition.
-/
import Derived.Test.YtpkmnigkcefnpaaLw
import Derived.Test.YtpkmnigkcefnpaaU4
import Derived.Deep.RegionHeld3
namespace Go.Proofs.Ytpkmnigkcefnpaa.lawOrderDirect
open Go.ChangeShapes Go.WideShapes Go.ChangeAt Go.RowKit

set_option maxHeartbeats 4000000 in
set_option maxRecDepth 100000 in
theorem walk_short (A : Option Addr) (c : Nat) (z : List Int) (w : World) (h : Bytes w A c z) (hn : z.length ≤ 1048576) :
    Calls Try.prog 3 #[.slice A z.length c] w fun e w2 => e = .returned (.bool true) ∧ Below w.heap.size w w2 := by
  have e0 : decide ((1048576 : Int) < (z.length : Int)) = false := decide_eq_false (by omega)
  go_enter Try.func3, Try.ntmps3
  go_wp2_with fail
  refine (dOrd_any A c z _ h).mono ?_
  rintro e w2 ⟨v1, v2, ids, l, rfl, ho1, ho2, hl1, hl2, hb2⟩
  obtain ⟨A1, c1, hv1, hcap1, hr1⟩ := own_slice ho1
  obtain ⟨A2, c2, hv2, hcap2, hr2⟩ := own_slice ho2
  subst hv1 hv2
  obtain ⟨T, hT⟩ : ∃ T, T = ordOfG ids l := ⟨_, rfl⟩
  obtain ⟨hTl, hTr⟩ := ordT_small ids l
  rw [← hT] at hTl hTr
  have HT := Lib.hid (And.intro hT hTr)
  have HR := Lib.hid (And.intro hb2 (And.intro hr1 hr2))
  clear ho1 ho2 hb2 h hr1 hr2 hT hTr
  go_wp2_with fail
  refine (iOrderOf_any _ _ _ _ ids l _ HR.out.2.1 HR.out.2.2 (by omega) (by omega)).mono ?_
  rintro e w3 ⟨v3, vs3, rfl, hb3, ho3⟩
  rw [← HT.out.1] at ho3
  obtain ⟨A3, c3, hv3, hcap3, hr3⟩ := ho3.nest
  subst hv3
  have H3 := Lib.hid (And.intro hb3 hr3)
  clear hb3 ho3 hr3
  go_wp2_with fail
  refine (sOrderOf_any _ _ _ _ ids l _ (HR.out.2.1.step H3.out.1) (HR.out.2.2.step H3.out.1) (by omega) (by omega)).mono ?_
  rintro e w4 ⟨v4, vs4, rfl, hb4, ho4⟩
  rw [← HT.out.1] at ho4
  obtain ⟨A4, c4, hv4, hcap4, hr4⟩ := ho4.nest
  subst hv4
  have H4 := Lib.hid (And.intro hb4 hr4)
  clear hb4 ho4 hr4
  by_cases h0 : T.length = 0
  · have e1 : ((T.length : Int) == 0) = true := by simp [h0]
    clear h0
    go_wp2_with fail
    refine (sameT_self _ _ _ _ T _ (H3.out.2.step H4.out.1) H4.out.2 (by omega) (fun r hr => by have := HT.out.2 r hr; omega)).mono ?_
    rintro e w5 ⟨rfl, hb5⟩
    have H5 := Lib.hid hb5
    clear hb5
    go_wp2_with fail
    refine (sameT_self _ _ _ _ T _ (H3.out.2.step (below_step H4.out.1 H5.out)) (H4.out.2.step H5.out) (by omega) (fun r hr => by have := HT.out.2 r hr; omega)).mono ?_
    rintro e w6 ⟨rfl, hb6⟩
    go_wp2_with fail
    go_ret
    exact ⟨rfl, below_step (below_step (below_step (below_step HR.out.1 H3.out.1) H4.out.1) H5.out) hb6⟩
  · have e1 : ((T.length : Int) == 0) = false := by rw [beq_eq_false_iff_ne]; omega
    obtain ⟨hok, hTo⟩ := ordT_ok (by rw [← HT.out.1]; exact h0)
    rw [← HT.out.1] at hTo
    have hTn : T.length = ids.length := by rw [hTo, ordG_len]
    have HO := Lib.hid (And.intro hok (And.intro hTo hTn))
    clear h0 hok hTo hTn
    go_wp2_with fail
    refine (sameT_self _ _ _ _ T _ (H3.out.2.step H4.out.1) H4.out.2 (by omega) (fun r hr => by have := HT.out.2 r hr; omega)).mono ?_
    rintro e w5 ⟨rfl, hb5⟩
    have k5 := below_step H4.out.1 hb5
    have R := Lib.hid (And.intro (HR.out.2.1.step (below_step H3.out.1 k5)) (And.intro (HR.out.2.2.step (below_step H3.out.1 k5)) (And.intro (H3.out.2.step k5) (below_step HR.out.1 (below_step H3.out.1 k5)))))
    clear hb5 k5
    have eln : ((T.length : Int) == (ids.length : Int)) = true := by rw [HO.out.2.2]; simp
    go_wp2_with fail
    go_loopw [7] (fun i wr => ∃ k : Nat, k ≤ l.length ∧ i = .int .i64 k ∧ Below w5.heap.size w5 wr) (fun i _ => l.length - (intOf i).toNat)
    case atStart => exact ⟨0, Nat.zero_le _, rfl, Below.refl _ _⟩
    case round =>
      obtain ⟨k, hk, rfl, hbl⟩ := hrel
      by_cases hlt : k < l.length
      · have rI := R.out.1.step hbl
        have rL := R.out.2.1.step hbl
        obtain ⟨b, off, hA2, hbb, hc⟩ := rL.ctx (by omega)
        subst hA2
        obtain ⟨⟨xa, xb, xc⟩, hr⟩ : ∃ r, l[k]? = some r := ⟨_, List.getElem?_eq_getElem hlt⟩
        obtain ⟨g1, g2, g3⟩ := hc k _ hr
        dsimp only at g1 g2 g3
        have hkl : (k : Int) < (l.length : Int) := by omega
        have hx1 := ext_cell (w := wr) (B := wr.heap.size) hbb
        by_cases h2 : xc = 1
        · have e2 : (xc == 1) = true := by simp [h2]
          have hab := aboveG_direct HO.out.1 hr h2
          dsimp only at hab
          have HR2 := Lib.hid (And.intro rI (And.intro rL hab))
          have HM := Lib.hid hbl
          clear hc hr rI rL h2 hab hbl
          go_wp2_with fail
          refine wp_region_ext wr.heap.size (by kernel_rfl) (by kernel_rfl) ?_
          repeat (go_big_quiet_step ((go_at_call 16; exact above_to _ _ _ _ ids l _ _ true _ HR2.out.1 HR2.out.2.1 (by omega) (by omega) HR2.out.2.2)))
          refine wpQuiet_nil ?_
          rintro _ ⟨x9, rfl⟩
          have hb9 := below_step HM.out x9.below
          clear hx1 g1 g2 g3
          go_wp2_with fail
          go_roundw
          case rel => exact ⟨k + 1, by omega, by go_num, hb9⟩
          case measure => simp [intOf]; omega
        · have e2 : (xc == 1) = false := by simp [h2]
          have HM := Lib.hid hbl
          clear hc hr rI rL h2 hbl
          go_wp2_with fail
          refine wp_region_ext wr.heap.size (by kernel_rfl) (by kernel_rfl) ?_
          repeat (go_big_quiet_step (fail))
          refine wpQuiet_nil ?_
          rintro _ ⟨x9, rfl⟩
          have hb9 := below_step HM.out x9.below
          clear hx1 g1 g2 g3
          go_wp2_with fail
          go_roundw
          case rel => exact ⟨k + 1, by omega, by go_num, hb9⟩
          case measure => simp [intOf]; omega
      · have HM := Lib.hid hbl
        clear hbl
        go_wp2_with fail
        go_ret
        exact ⟨rfl, below_step R.out.2.2.2 HM.out⟩

theorem walk (A : Option Addr) (c : Nat) (z : List Int) (w : World) (h1 : z.length ≤ c) (h2 : Reads w w.heap.size 1 A z.length (cellsB z)) (h3 : ∀ b ∈ z, 0 ≤ b ∧ b ≤ 255) (h4 : c ≤ maxLen) :
    Calls Try.prog 3 #[.slice A z.length c] w fun e w2 => e = .returned (.bool true) ∧ Below w.heap.size w w2 := by
  by_cases hn : z.length ≤ 1048576
  · exact walk_short A c z w (Bytes.mk_ h1 h2 h3 h4) hn
  · have e0 : decide ((1048576 : Int) < (z.length : Int)) = true := decide_eq_true (by omega)
    go_enter Try.func3, Try.ntmps3
    go_wp2_with fail
    go_ret
    exact ⟨rfl, Below.refl _ _⟩

set_option linter.unusedVariables false
set_option maxRecDepth 100000 in
theorem lifted (os : Os) (started : os.Started) (H : Type) (enc : TypeId × Value → H) :
    ReturnsInHanded {} Try.checked os 3 .any (Rows.fnOrderDirectSpec.pre6 enc Try.prog Try.f3 Rows.fnOrderDirectRow.domain false) (Rows.fnOrderDirectSpec.post enc Try.prog Try.f3 false true false false) := by
  refine returnsInHanded_of_change (C := Try.checked) lawOwn started (by kernel_rfl) Try.func3
    (ChangeSpec.witness6 (enc := enc) (C := Try.checked) false ⟨#[], #[.slice none 0 0], []⟩ 8 (by kernel_rfl) (by kernel_rfl) (by kernel_rfl) (by kernel_rfl)) ?_
  intro W base args ds gs before hval0 hW hcnd _
  have hval : ∀ (j : Nat) t v, Try.f3.params[j]? = some t → args[j]? = some v → Value.okWide Try.prog W .any base t v := hval0
  have hW' := hW
  obtain ⟨p, q, hA0, hV, rfl, hfz, hnd⟩ := hW
  have hA : DataW.TrodAll enc Try.prog W 0 (fun _ => true) true Try.f3.params.toList args.toList ds p := hA0
  rw [Try.params3] at hA hval
  obtain ⟨v0, vs0, d0, ds0, p0, q0, hargs, rfl, rfl, h0, r0⟩ := trodAll_cons hA
  obtain ⟨rfl, rfl, rfl⟩ := trodAll_nil r0
  obtain rfl : args = #[v0] := by cases args; simp_all
  obtain ⟨rfl, rfl⟩ := trodVars_none hV
  have k0 := h0
  have lt0 : ∀ x ∈ p0, x.block < W.heap.size := by obtain ⟨m, hm⟩ := k0; exact DataW.trod_lt m _ _ _ hm
  obtain ⟨a0, len0, cap0, rfl⟩ := okWide_slice Try.underlying22 (hval 0 22 v0 rfl rfl)
  obtain ⟨z0, hl0, hc0, hr0, hb0, hm0⟩ : ∃ z : List Int, len0 = z.length ∧ len0 ≤ cap0 ∧ Reads W W.heap.size 1 a0 len0 (cellsB z) ∧ (∀ b ∈ z, 0 ≤ b ∧ b ≤ 255) ∧ cap0 ≤ maxLen := by
    obtain ⟨fuel, hf⟩ := h0
    exact open_bytes Try.underlying22 Try.underlying5 (by kernel_rfl) (by simpa [Value.cells] using hf)
  subst hl0
  clear hA0 hval0
  refine (walk a0 cap0 z0 W hc0 hr0 hb0 hm0).mono fun e W' ⟨he, bel⟩ => ?_
  subst he
  exact ⟨_, rfl, _, _, _, [], _, [], hW', trodAll_mk1 (shut_bool Try.underlying4 _), (trodAll_cons_mk (Below.trod lawLaid (by kernel_rfl) (of_decide_eq_true (by kernel_rfl)) k0 bel lt0) trodAll_mk0), rfl, bel.frame _, fun h => by cases h⟩

theorem proved : Rows.FnOrderDirectSaid :=
  OpenClaim.holds_of_wide 3 Try.f3 rfl rfl rfl rfl rfl rfl rfl ⟨rfl, rfl, rfl, rfl, rfl⟩ rfl rfl rfl rfl rfl (by kernel_rfl) Try.func3 (by kernel_rfl)
    (of_decide_eq_true (by kernel_rfl)) (by unfold Func.isWrapper; rw [if_neg (of_decide_eq_false (by kernel_rfl))]; exact ⟨rfl, rfl⟩)
    (fun os started H enc _ => lifted os started H enc)
#print axioms proved
end Go.Proofs.Ytpkmnigkcefnpaa.lawOrderDirect
