/-
  Whatever bytes are given: of contexts, relations and two contexts drawn from them, the one lies above the other exactly if the model says so, and then the order of all contexts says so. No condition.
-/
import Derived.Test.YtpkmnigkcefnpaaLw
import Derived.Test.YtpkmnigkcefnpaaU4
import Derived.Deep.RegionHeld3
import Derived.Test.YtpkmnigkcefnpaaU6
import Derived.Test.YtpkmnigkcefnpaaDa
namespace Go.Proofs.Ytpkmnigkcefnpaa.lawOrderAbove
open Go.ChangeShapes Go.WideShapes Go.ChangeAt Go.RowKit

set_option maxHeartbeats 4000000 in
set_option maxRecDepth 100000 in
theorem walk_short (A : Option Addr) (c : Nat) (z : List Int) (w : World) (h : Bytes w A c z) (hn : z.length ≤ 1048576) :
    Calls Try.prog 6 #[.slice A z.length c] w fun e w2 => e = .returned (.bool true) ∧ Below w.heap.size w w2 := by
  have e0 : decide ((1048576 : Int) < (z.length : Int)) = false := decide_eq_false (by omega)
  go_enter Try.func6, Try.ntmps6
  go_wp2_with fail
  refine (dAbove_any A c z _ h).mono ?_
  rintro e w2 ⟨v1, v2, ids, l, a, b, rfl, ho1, ho2, hl1, hl2, hb2⟩
  obtain ⟨A1, c1, hv1, hcap1, hr1⟩ := own_slice ho1
  obtain ⟨A2, c2, hv2, hcap2, hr2⟩ := own_slice ho2
  subst hv1 hv2
  obtain ⟨t, ht⟩ : ∃ t, t = aboveG ids l a b := ⟨_, rfl⟩
  have HT := Lib.hid ht
  have HR := Lib.hid (And.intro hb2 (And.intro hr1 hr2))
  clear ho1 ho2 hb2 h hr1 hr2 ht
  go_wp2_with fail
  refine (iAbove_any _ _ _ _ ids l a b _ HR.out.2.1 HR.out.2.2 (by omega) (by omega)).mono ?_
  rintro e w3 ⟨rfl, hb3⟩
  rw [← HT.out]
  have H3 := Lib.hid hb3
  clear hb3
  go_wp2_with fail
  refine (sAbove_any _ _ _ _ ids l a b _ (HR.out.2.1.step H3.out) (HR.out.2.2.step H3.out) (by omega) (by omega)).mono ?_
  rintro e w4 ⟨rfl, hb4⟩
  rw [← HT.out]
  have H4 := Lib.hid hb4
  clear hb4
  cases t
  · go_wp2_with fail
    go_ret
    exact ⟨rfl, below_step (below_step HR.out.1 H3.out) H4.out⟩
  · have hok := HT.out.symm
    simp only [aboveG, Bool.and_eq_true, decide_eq_true_eq] at hok
    obtain ⟨hok, hma, hmb, hup⟩ := hok
    obtain ⟨T, hT⟩ : ∃ T, T = ordOfG ids l := ⟨_, rfl⟩
    have hTo : T = ordG ids l := by rw [hT, ordOfG, if_pos hok]
    have hTl : T.length ≤ 12 := by rw [hT]; exact (ordT_small ids l).1
    have HO := Lib.hid (And.intro hok (And.intro hma (And.intro hmb (And.intro hup (And.intro hT hTo)))))
    clear hok hma hmb hup hT hTo
    go_wp2_with fail
    refine (iOrderOf_any _ _ _ _ ids l _ (HR.out.2.1.step (below_step H3.out H4.out)) (HR.out.2.2.step (below_step H3.out H4.out)) (by omega) (by omega)).mono ?_
    rintro e w5 ⟨v5, vs5, rfl, hb5, ho5⟩
    rw [← HO.out.2.2.2.2.1] at ho5
    obtain ⟨A5, c5, hv5, hcap5, hr5⟩ := ho5.nest
    subst hv5
    have k5 := below_step (below_step H3.out H4.out) hb5
    have R := Lib.hid (And.intro (HR.out.2.1.step k5) (And.intro hr5 (below_step HR.out.1 k5)))
    clear hb5 ho5 hr5 k5
    go_wp2_with fail
    go_loop [10] (fun i => ∃ k : Nat, k ≤ ids.length ∧ i = .int .i64 k ∧ ∀ (x : Nat) (y : Int), x < k → ids[x]? = some y → y ≠ a) (fun i => ids.length - (intOf i).toNat)
    case atStart => exact ⟨0, Nat.zero_le _, rfl, fun x y h => absurd h (by omega)⟩
    case round =>
      obtain ⟨i, hi, rfl, hg⟩ := hrel
      have HG := Lib.hid hg
      clear hg
      by_cases hii : i < ids.length
      · have hiii : (i : Int) < (ids.length : Int) := by omega
        obtain ⟨p, hp⟩ : ∃ p, ids[i]? = some p := ⟨_, List.getElem?_eq_getElem hii⟩
        obtain ⟨b1, o1, hA1, hbb1, hc1⟩ := R.out.1.ints (by omega)
        subst hA1
        have g1 := hc1 i _ hp
        by_cases hpa : p = a
        · have e1 : (p == a) = true := by simp [hpa]
          have HP := Lib.hid (And.intro hp (And.intro hpa hc1))
          clear hp hpa hc1
          go_wp2_with fail
          go_loop [11] (fun i => ∃ k : Nat, k ≤ ids.length ∧ i = .int .i64 k ∧ ∀ (x : Nat) (y : Int), x < k → ids[x]? = some y → y ≠ b) (fun i => ids.length - (intOf i).toNat)
          case atStart => exact ⟨0, Nat.zero_le _, rfl, fun x y h => absurd h (by omega)⟩
          case round =>
            obtain ⟨j, hj, rfl, hg⟩ := hrel
            have HJ := Lib.hid hg
            clear hg
            by_cases hjj : j < ids.length
            · have hjji : (j : Int) < (ids.length : Int) := by omega
              obtain ⟨q, hq⟩ : ∃ q, ids[j]? = some q := ⟨_, List.getElem?_eq_getElem hjj⟩
              have g2 := HP.out.2.2 j _ hq
              by_cases hqb : q = b
              · have e2 : (q == b) = true := by simp [hqb]
                obtain ⟨r, r1, r2, r3⟩ := ordG_at (l := l) HP.out.1 hq
                rw [← HO.out.2.2.2.2.2] at r1
                obtain ⟨b2, o2, B2, d2, hA5, hbb2, f1, hd2, hro⟩ := R.out.2.1.row r1
                obtain ⟨b3, o3, hB2, hbb3, f2⟩ := Reads.cellE hro r3
                subst hA5 hB2
                rw [HP.out.2.1, hqb, HO.out.2.2.2.1] at f2
                simp only [encB] at f2
                rw [r2] at f1
                have hiT : (i : Int) < (T.length : Int) := by rw [HO.out.2.2.2.2.2, ordG_len]; exact hiii
                clear hq hqb r1 r2 r3 hro hd2
                go_wp2_with fail
                go_ret
                exact ⟨rfl, R.out.2.2⟩
              · have e2 : (q == b) = false := by simp [hqb]
                have HQ := Lib.hid (And.intro hq hqb)
                clear hq hqb
                go_wp2_with fail
                go_round
                case rel =>
                  refine ⟨j + 1, by omega, by go_num, fun x y hx hy => ?_⟩
                  by_cases hx2 : x < j
                  · exact HJ.out x y hx2 hy
                  · obtain rfl : x = j := by omega
                    rw [HQ.out.1] at hy
                    injection hy with hy
                    exact hy ▸ HQ.out.2
                case measure => simp [intOf]; omega
            · exfalso
              obtain ⟨x, hx⟩ := List.mem_iff_getElem?.1 HO.out.2.2.1
              exact HJ.out x b (by have := (List.getElem?_eq_some_iff.1 hx).1; omega) hx rfl
        · have e1 : (p == a) = false := by simp [hpa]
          have HP := Lib.hid (And.intro hp hpa)
          clear hp hpa hc1
          go_wp2_with fail
          go_loop [11] (fun i => ∃ k : Nat, k ≤ ids.length ∧ i = .int .i64 k) (fun i => ids.length - (intOf i).toNat)
          case atStart => exact ⟨0, Nat.zero_le _, rfl⟩
          case round =>
            obtain ⟨j, hj, rfl⟩ := hrel
            by_cases hjj : j < ids.length
            · have hjji : (j : Int) < (ids.length : Int) := by omega
              go_wp2_with fail
              go_round
              case rel => exact ⟨j + 1, by omega, by go_num⟩
              case measure => simp [intOf]; omega
            · go_wp2_with fail
              go_round
              case rel =>
                refine ⟨i + 1, by omega, by go_num, fun x y hx hy => ?_⟩
                by_cases hx2 : x < i
                · exact HG.out x y hx2 hy
                · obtain rfl : x = i := by omega
                  rw [HP.out.1] at hy
                  injection hy with hy
                  exact hy ▸ HP.out.2
              case measure => simp [intOf]; omega
      · exfalso
        obtain ⟨x, hx⟩ := List.mem_iff_getElem?.1 HO.out.2.1
        exact HG.out x a (by have := (List.getElem?_eq_some_iff.1 hx).1; omega) hx rfl

theorem walk (A : Option Addr) (c : Nat) (z : List Int) (w : World) (h1 : z.length ≤ c) (h2 : Reads w w.heap.size 1 A z.length (cellsB z)) (h3 : ∀ b ∈ z, 0 ≤ b ∧ b ≤ 255) (h4 : c ≤ maxLen) :
    Calls Try.prog 6 #[.slice A z.length c] w fun e w2 => e = .returned (.bool true) ∧ Below w.heap.size w w2 := by
  by_cases hn : z.length ≤ 1048576
  · exact walk_short A c z w (Bytes.mk_ h1 h2 h3 h4) hn
  · have e0 : decide ((1048576 : Int) < (z.length : Int)) = true := decide_eq_true (by omega)
    go_enter Try.func6, Try.ntmps6
    go_wp2_with fail
    go_ret
    exact ⟨rfl, Below.refl _ _⟩

set_option linter.unusedVariables false
set_option maxRecDepth 100000 in
theorem lifted (os : Os) (started : os.Started) (H : Type) (enc : TypeId × Value → H) :
    ReturnsInHanded {} Try.checked os 6 .any (Rows.fnOrderAboveSpec.pre6 enc Try.prog Try.f6 Rows.fnOrderAboveRow.domain false) (Rows.fnOrderAboveSpec.post enc Try.prog Try.f6 false true false false) := by
  refine returnsInHanded_of_change (C := Try.checked) lawOwn started (by kernel_rfl) Try.func6
    (ChangeSpec.witness6 (enc := enc) (C := Try.checked) false ⟨#[], #[.slice none 0 0], []⟩ 8 (by kernel_rfl) (by kernel_rfl) (by kernel_rfl) (by kernel_rfl)) ?_
  intro W base args ds gs before hval0 hW hcnd _
  have hval : ∀ (j : Nat) t v, Try.f6.params[j]? = some t → args[j]? = some v → Value.okWide Try.prog W .any base t v := hval0
  have hW' := hW
  obtain ⟨p, q, hA0, hV, rfl, hfz, hnd⟩ := hW
  have hA : DataW.TrodAll enc Try.prog W 0 (fun _ => true) true Try.f6.params.toList args.toList ds p := hA0
  rw [Try.params6] at hA hval
  obtain ⟨v0, vs0, d0, ds0, p0, q0, hargs, rfl, rfl, h0, r0⟩ := trodAll_cons hA
  obtain ⟨rfl, rfl, rfl⟩ := trodAll_nil r0
  obtain rfl : args = #[v0] := by cases args; simp_all
  obtain ⟨rfl, rfl⟩ := trodVars_none hV
  have k0 := h0
  have lt0 : ∀ x ∈ p0, x.block < W.heap.size := by obtain ⟨m, hm⟩ := k0; exact DataW.trod_lt m _ _ _ hm
  obtain ⟨a0, len0, cap0, rfl⟩ := okWide_slice Try.underlying22 (hval 0 22 v0 rfl rfl)
  obtain ⟨z0, hl0, hc0, hr0, hb0, hm0⟩ : ∃ z : List Int, len0 = z.length ∧ len0 ≤ cap0 ∧ Reads W W.heap.size 1 a0 len0 (cellsB z) ∧ (∀ b ∈ z, 0 ≤ b ∧ b ≤ 255) ∧ cap0 ≤ maxLen := by
    obtain ⟨fuel, hf⟩ := h0
    exact open_bytes Try.underlying22 Try.underlying5 (by kernel_rfl) (by simpa [Value.cells] using hf)
  subst hl0
  clear hA0 hval0
  refine (walk a0 cap0 z0 W hc0 hr0 hb0 hm0).mono fun e W' ⟨he, bel⟩ => ?_
  subst he
  exact ⟨_, rfl, _, _, _, [], _, [], hW', trodAll_mk1 (shut_bool Try.underlying4 _), (trodAll_cons_mk (Below.trod lawLaid (by kernel_rfl) (of_decide_eq_true (by kernel_rfl)) k0 bel lt0) trodAll_mk0), rfl, bel.frame _, fun h => by cases h⟩

theorem proved : Rows.FnOrderAboveSaid :=
  OpenClaim.holds_of_wide 6 Try.f6 rfl rfl rfl rfl rfl rfl rfl ⟨rfl, rfl, rfl, rfl, rfl⟩ rfl rfl rfl rfl rfl (by kernel_rfl) Try.func6 (by kernel_rfl)
    (of_decide_eq_true (by kernel_rfl)) (by unfold Func.isWrapper; rw [if_neg (of_decide_eq_false (by kernel_rfl))]; exact ⟨rfl, rfl⟩)
    (fun os started H enc _ => lifted os started H enc)
#print axioms proved
end Go.Proofs.Ytpkmnigkcefnpaa.lawOrderAbove
