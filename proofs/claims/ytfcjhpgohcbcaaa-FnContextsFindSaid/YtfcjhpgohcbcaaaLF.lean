/-
  Whatever bytes are given: in the contexts drawn from them the program finds a number where it stands, and -1 where it does not stand or the contexts are not valid. No condition.
-/
import Derived.Test.YtfcjhpgohcbcaaaDd
namespace Go.Proofs.Ytfcjhpgohcbcaaa.lawFind
open Go.ChangeShapes Go.WideShapes Go.ChangeAt Go.RowKit

theorem walk_short (A : Option Addr) (c : Nat) (z : List Int) (w : World) (h : Bytes w A c z) (hn : z.length ≤ 1048576) :
    Calls Try.prog 6 #[.slice A z.length c] w fun e w2 => e = .returned (.bool true) ∧ Below w.heap.size w w2 := by
  have e0 : decide ((1048576 : Int) < (z.length : Int)) = false := decide_eq_false (by omega)
  go_enter Try.func6, Try.ntmps6
  go_wp2_with fail
  refine (dFind_any A c z _ h).mono ?_
  rintro e w2 ⟨v, l, x, rfl, ho2, hl, hb2⟩
  obtain ⟨Al, cl, hv, hcap, hrl⟩ := own_slice ho2
  subst hv
  go_wp2_with fail
  refine (iFind_any _ _ l x _ hrl (by omega)).mono ?_
  rintro e w3 ⟨rfl, hb3⟩
  go_wp2_with fail
  refine (sFind_any _ _ l x _ (hrl.step hb3) (by omega)).mono ?_
  rintro e w4 ⟨rfl, hb4⟩
  have k4 := below_step (below_step hb2 hb3) hb4
  have hr4 := hrl.step (below_step hb3 hb4)
  have K4 := Lib.hid k4
  have R4 := Lib.hid hr4
  clear hb2 hb3 hb4 ho2 hrl hr4 k4
  go_wp2_with fail
  go_loopw [7] (fun i wr => ∃ k : Nat, k ≤ l.length ∧ i = .int .i64 k ∧ Below w4.heap.size w4 wr ∧ (validL l = true → ∀ (j : Nat) (c : Ctx), j < k → l[j]? = some c → c.id ≠ x)) (fun i _ => l.length - (intOf i).toNat)
  case atStart => exact ⟨0, Nat.zero_le _, rfl, Below.refl _ _, fun _ j c h => absurd h (by omega)⟩
  case round =>
    obtain ⟨k, hk, rfl, hb, hg⟩ := hrel
    have HG := Lib.hid hg; clear hg
    by_cases hlt : k < l.length
    · have hkl : (k : Int) < (l.length : Int) := by omega
      obtain ⟨b, off, hA, hbb, hc⟩ := (R4.out.below hb).ctx (by omega)
      subst hA
      have hk0 : l[k]? = some l[k] := List.getElem?_eq_getElem hlt
      obtain ⟨c1, _, _⟩ := hc k _ hk0
      have HK := Lib.hid hk0
      have hsz := hb.size
      have HB := Lib.hid hb
      clear hc hk0
      by_cases hid : l[k].id = x
      · have e1 : (l[k].id == x) = true := by simp [hid]
        have HI := Lib.hid hid
        clear hid
        cases hv : validL l
        · have HV := Lib.hid hv
          go_wp2_with (go_at_call 19; go_must (refine (iValid_any _ _ l _ (R4.out.step HB.out) (by omega)).mono ?_); rintro e w5 ⟨rfl, hb5⟩)
          go_roundw
          case rel => exact ⟨k + 1, by omega, by go_num, below_step HB.out hb5, fun h => absurd h Bool.false_ne_true⟩
          case measure => simp [intOf]; omega
        · have HV := Lib.hid hv
          have HF : Hid (findL l x = k) := by
            have hex : ∀ (j : Nat) (c : Ctx), j < k → l[j]? = some c → c.id ≠ x := HG.out HV.out
            show findL l x = k
            unfold findL
            rw [HV.out, if_pos rfl]
            exact findC_at x l k _ hex HK.out HI.out
          go_wp2_with (go_at_call 19; go_must (refine (iValid_any _ _ l _ (R4.out.step HB.out) (by omega)).mono ?_); rintro e w5 ⟨rfl, hb5⟩)
          go_ret
          exact ⟨ret_bool (by rw [HF.out]; simp), below_step K4.out (below_step HB.out hb5)⟩
      · have e1 : (l[k].id == x) = false := by simp [hid]
        have HI : Hid (l[k].id ≠ x) := hid
        clear hid
        go_wp2_with fail
        go_roundw
        case rel =>
          refine ⟨k + 1, by omega, by go_num, HB.out, fun hv j c hj hc => ?_⟩
          by_cases hj2 : j < k
          · exact HG.out hv j c hj2 hc
          · obtain rfl : j = k := by omega
            rw [HK.out] at hc
            injection hc with hc
            exact hc ▸ HI.out
        case measure => simp [intOf]; omega
    · have HF : Hid (findL l x = -1) := by
        show findL l x = -1
        unfold findL
        cases hv : validL l
        · rfl
        · rw [if_pos rfl]
          exact findC_none x l fun j c hc => HG.out hv j c (by have := (List.getElem?_eq_some_iff.1 hc).1; omega) hc
      have HB := Lib.hid hb
      clear hb
      go_wp2_with fail
      go_ret
      exact ⟨ret_bool (by rw [HF.out]; rfl), below_step K4.out HB.out⟩

theorem walk (A : Option Addr) (c : Nat) (z : List Int) (w : World) (h1 : z.length ≤ c) (h2 : Reads w w.heap.size 1 A z.length (cellsB z)) (h3 : ∀ b ∈ z, 0 ≤ b ∧ b ≤ 255) (h4 : c ≤ maxLen) :
    Calls Try.prog 6 #[.slice A z.length c] w fun e w2 => e = .returned (.bool true) ∧ Below w.heap.size w w2 := by
  by_cases hn : z.length ≤ 1048576
  · exact walk_short A c z w (Bytes.mk_ h1 h2 h3 h4) hn
  · have e0 : decide ((1048576 : Int) < (z.length : Int)) = true := decide_eq_true (by omega)
    go_enter Try.func6, Try.ntmps6
    go_wp2_with fail
    go_ret
    exact ⟨rfl, Below.refl _ _⟩

set_option linter.unusedVariables false
set_option maxRecDepth 100000 in
theorem lifted (os : Os) (started : os.Started) (H : Type) (enc : TypeId × Value → H) :
    ReturnsInHanded {} Try.checked os 6 .any (Rows.fnContextsFindSpec.pre6 enc Try.prog Try.f6 Rows.fnContextsFindRow.domain false) (Rows.fnContextsFindSpec.post enc Try.prog Try.f6 false true false false) := by
  refine returnsInHanded_of_change (C := Try.checked) lawOwn started (by kernel_rfl) Try.func6
    (ChangeSpec.witness6 (enc := enc) (C := Try.checked) false ⟨#[], #[.slice none 0 0], []⟩ 8 (by kernel_rfl) (by kernel_rfl) (by kernel_rfl) (by kernel_rfl)) ?_
  intro W base args ds gs before hval0 hW hcnd _
  have hval : ∀ (j : Nat) t v, Try.f6.params[j]? = some t → args[j]? = some v → Value.okWide Try.prog W .any base t v := hval0
  have hW' := hW
  obtain ⟨p, q, hA0, hV, rfl, hfz, hnd⟩ := hW
  have hA : DataW.TrodAll enc Try.prog W 0 (fun _ => true) true Try.f6.params.toList args.toList ds p := hA0
  rw [Try.params6] at hA hval
  obtain ⟨v0, vs0, d0, ds0, p0, q0, hargs, rfl, rfl, h0, r0⟩ := trodAll_cons hA
  obtain ⟨rfl, rfl, rfl⟩ := trodAll_nil r0
  obtain rfl : args = #[v0] := by cases args; simp_all
  obtain ⟨rfl, rfl⟩ := trodVars_none hV
  have k0 := h0
  have lt0 : ∀ x ∈ p0, x.block < W.heap.size := by obtain ⟨m, hm⟩ := k0; exact DataW.trod_lt m _ _ _ hm
  obtain ⟨a0, len0, cap0, rfl⟩ := okWide_slice Try.underlying22 (hval 0 22 v0 rfl rfl)
  obtain ⟨z0, hl0, hc0, hr0, hb0, hm0⟩ : ∃ z : List Int, len0 = z.length ∧ len0 ≤ cap0 ∧ Reads W W.heap.size 1 a0 len0 (cellsB z) ∧ (∀ b ∈ z, 0 ≤ b ∧ b ≤ 255) ∧ cap0 ≤ maxLen := by
    obtain ⟨fuel, hf⟩ := h0
    exact open_bytes Try.underlying22 Try.underlying5 (by kernel_rfl) (by simpa [Value.cells] using hf)
  subst hl0
  clear hA0 hval0
  refine (walk a0 cap0 z0 W hc0 hr0 hb0 hm0).mono fun e W' ⟨he, bel⟩ => ?_
  subst he
  exact ⟨_, rfl, _, _, _, [], _, [], hW', trodAll_mk1 (shut_bool Try.underlying4 _), (trodAll_cons_mk (Below.trod lawLaid (by kernel_rfl) (of_decide_eq_true (by kernel_rfl)) k0 bel lt0) trodAll_mk0), rfl, bel.frame _, fun h => by cases h⟩

theorem proved : Rows.FnContextsFindSaid :=
  OpenClaim.holds_of_wide 6 Try.f6 rfl rfl rfl rfl rfl rfl rfl ⟨rfl, rfl, rfl, rfl, rfl⟩ rfl rfl rfl rfl rfl (by kernel_rfl) Try.func6 (by kernel_rfl)
    (of_decide_eq_true (by kernel_rfl)) (by unfold Func.isWrapper; rw [if_neg (of_decide_eq_false (by kernel_rfl))]; exact ⟨rfl, rfl⟩)
    (fun os started H enc _ => lifted os started H enc)
#print axioms proved
end Go.Proofs.Ytfcjhpgohcbcaaa.lawFind
