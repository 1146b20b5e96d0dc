/-
  Whatever bytes are given: of two rows drawn from them, how alike they are is the model's answer, the same in both directions, and at most how alike each is to itself. No condition.
-/
import Derived.Test.YtapmeooffmonmaaOpen
import Derived.Test.YtapmeooffmonmaaSe7
import Derived.Test.YtapmeooffmonmaaSe9
import Derived.Test.YtapmeooffmonmaaIsc
namespace Go.Proofs.Ytapmeooffmonmaa.lawRowsAlike
open Go.ChangeShapes Go.WideShapes Go.ChangeAt Go.RowKit

set_option maxHeartbeats 4000000 in
set_option maxRecDepth 100000 in
theorem walk_short (A : Option Addr) (c : Nat) (z : List Int) (w : World) (h : Bytes w A c z) (hn : z.length ≤ 1048576) :
    Calls Try.prog 8 #[.slice A z.length c] w fun e w2 => e = .returned (.bool true) ∧ Below w.heap.size w w2 := by
  have e0 : decide ((1048576 : Int) < (z.length : Int)) = false := decide_eq_false (by omega)
  go_enter Try.func8, Try.ntmps8
  go_wp2_with fail
  refine (dRowsA_any A c z _ h).mono ?_
  rintro e w2 ⟨v1, l, v2, m, rfl, ⟨A1, c1, hv1, _, hr1⟩, ⟨A2, c2, hv2, _, hr2⟩, hl, hm, hb2⟩
  subst hv1 hv2
  obtain ⟨N, hN⟩ : ∃ N, N = alikeS l m := ⟨_, rfl⟩
  obtain ⟨Nl, hNl⟩ : ∃ Nl, Nl = alikeS l l := ⟨_, rfl⟩
  obtain ⟨Nm, hNm⟩ : ∃ Nm, Nm = alikeS m m := ⟨_, rfl⟩
  have ebN : (N != N) = false := by simp
  have eqN : (N == N) = true := by simp
  have HN := Lib.hid (And.intro hN (And.intro (hN.trans (alikeS_comm l m)) (And.intro hNl hNm)))
  have HR := Lib.hid (And.intro hb2 (And.intro hr1 hr2))
  clear hb2 hr1 hr2 h
  go_wp2_with fail
  refine (iAlike_any _ _ _ _ l m _ HR.out.2.1 HR.out.2.2 (by omega) (by omega)).mono ?_
  rintro e w3 ⟨rfl, hb3⟩
  rw [← HN.out.1]
  have K3 := Lib.hid (And.intro (below_step HR.out.1 hb3) (And.intro (HR.out.2.1.step hb3) (HR.out.2.2.step hb3)))
  clear hb3
  go_wp2_with fail
  refine (sAlike_any _ _ _ _ l m _ K3.out.2.1 K3.out.2.2 (by omega) (by omega)).mono ?_
  rintro e w4 ⟨rfl, hb4⟩
  rw [← HN.out.1]
  have K4 := Lib.hid (And.intro (below_step K3.out.1 hb4) (And.intro (K3.out.2.1.step hb4) (K3.out.2.2.step hb4)))
  clear hb4
  cases h9 : (N == (-99 : Int))
  · have hle := alikeS_self_le (a := l) (b := m) (by rw [← hN]; intro e; rw [e] at h9; cases h9)
    rw [← hN, ← hNl, ← hNm] at hle
    have d1 : decide (N ≤ Nl) = true := decide_eq_true hle.1
    have d2 : decide (N ≤ Nm) = true := decide_eq_true hle.2
    clear hle hN hNl hNm
    go_wp2_with fail
    refine (iAlike_any _ _ _ _ m l _ K4.out.2.2 K4.out.2.1 (by omega) (by omega)).mono ?_
    rintro e w5 ⟨rfl, hb5⟩
    rw [← HN.out.2.1]
    have K5 := Lib.hid (And.intro (below_step K4.out.1 hb5) (And.intro (K4.out.2.1.step hb5) (K4.out.2.2.step hb5)))
    clear hb5
    go_wp2_with fail
    refine (iAlike_any _ _ _ _ l l _ K5.out.2.1 K5.out.2.1 (by omega) (by omega)).mono ?_
    rintro e w6 ⟨rfl, hb6⟩
    rw [← HN.out.2.2.1]
    have K6 := Lib.hid (And.intro (below_step K5.out.1 hb6) (K5.out.2.2.step hb6))
    clear hb6
    go_wp2_with fail
    refine (iAlike_any _ _ _ _ m m _ K6.out.2 K6.out.2 (by omega) (by omega)).mono ?_
    rintro e w7 ⟨rfl, hb7⟩
    rw [← HN.out.2.2.2]
    have K7 := Lib.hid (below_step K6.out.1 hb7)
    clear hb7
    go_wp2_with fail
    go_ret
    exact ⟨rfl, K7.out⟩
  · clear hN hNl hNm
    go_wp2_with fail
    go_ret
    exact ⟨rfl, K4.out.1⟩
theorem walk (A : Option Addr) (c : Nat) (z : List Int) (w : World) (h1 : z.length ≤ c) (h2 : Reads w w.heap.size 1 A z.length (cellsB z)) (h3 : ∀ b ∈ z, 0 ≤ b ∧ b ≤ 255) (h4 : c ≤ maxLen) :
    Calls Try.prog 8 #[.slice A z.length c] w fun e w2 => e = .returned (.bool true) ∧ Below w.heap.size w w2 := by
  by_cases hn : z.length ≤ 1048576
  · exact walk_short A c z w (Bytes.mk_ h1 h2 h3 h4) hn
  · have e0 : decide ((1048576 : Int) < (z.length : Int)) = true := decide_eq_true (by omega)
    go_enter Try.func8, Try.ntmps8
    go_wp2_with fail
    go_ret
    exact ⟨rfl, Below.refl _ _⟩

set_option linter.unusedVariables false
set_option maxRecDepth 100000 in
theorem lifted (os : Os) (started : os.Started) (H : Type) (enc : TypeId × Value → H) :
    ReturnsInHanded {} Try.checked os 8 .any (Rows.fnRowsAlikeSpec.pre6 enc Try.prog Try.f8 Rows.fnRowsAlikeRow.domain false) (Rows.fnRowsAlikeSpec.post enc Try.prog Try.f8 false true false false) := by
  refine returnsInHanded_of_change (C := Try.checked) lawOwn started (by kernel_rfl) Try.func8
    (ChangeSpec.witness6 (enc := enc) (C := Try.checked) false ⟨#[], #[.slice none 0 0], []⟩ 8 (by kernel_rfl) (by kernel_rfl) (by kernel_rfl) (by kernel_rfl)) ?_
  intro W base args ds gs before hval0 hW hcnd _
  have hval : ∀ (j : Nat) t v, Try.f8.params[j]? = some t → args[j]? = some v → Value.okWide Try.prog W .any base t v := hval0
  have hW' := hW
  obtain ⟨p, q, hA0, hV, rfl, hfz, hnd⟩ := hW
  have hA : DataW.TrodAll enc Try.prog W 0 (fun _ => true) true Try.f8.params.toList args.toList ds p := hA0
  rw [Try.params8] at hA hval
  obtain ⟨v0, vs0, d0, ds0, p0, q0, hargs, rfl, rfl, h0, r0⟩ := trodAll_cons hA
  obtain ⟨rfl, rfl, rfl⟩ := trodAll_nil r0
  obtain rfl : args = #[v0] := by cases args; simp_all
  obtain ⟨rfl, rfl⟩ := trodVars_none hV
  have k0 := h0
  have lt0 : ∀ x ∈ p0, x.block < W.heap.size := by obtain ⟨m, hm⟩ := k0; exact DataW.trod_lt m _ _ _ hm
  obtain ⟨a0, len0, cap0, rfl⟩ := okWide_slice Try.underlying22 (hval 0 22 v0 rfl rfl)
  obtain ⟨z0, hl0, hc0, hr0, hb0, hm0⟩ : ∃ z : List Int, len0 = z.length ∧ len0 ≤ cap0 ∧ Reads W W.heap.size 1 a0 len0 (cellsB z) ∧ (∀ b ∈ z, 0 ≤ b ∧ b ≤ 255) ∧ cap0 ≤ maxLen := by
    obtain ⟨fuel, hf⟩ := h0
    exact open_bytes Try.underlying22 Try.underlying5 (by kernel_rfl) (by simpa [Value.cells] using hf)
  subst hl0
  clear hA0 hval0
  refine (walk a0 cap0 z0 W hc0 hr0 hb0 hm0).mono fun e W' ⟨he, bel⟩ => ?_
  subst he
  exact ⟨_, rfl, _, _, _, [], _, [], hW', trodAll_mk1 (shut_bool Try.underlying4 _), (trodAll_cons_mk (Below.trod lawLaid (by kernel_rfl) (of_decide_eq_true (by kernel_rfl)) k0 bel lt0) trodAll_mk0), rfl, bel.frame _, fun h => by cases h⟩

theorem proved : Rows.FnRowsAlikeSaid :=
  OpenClaim.holds_of_wide 8 Try.f8 rfl rfl rfl rfl rfl rfl rfl ⟨rfl, rfl, rfl, rfl, rfl⟩ rfl rfl rfl rfl rfl (by kernel_rfl) Try.func8 (by kernel_rfl)
    (of_decide_eq_true (by kernel_rfl)) (by unfold Func.isWrapper; rw [if_neg (of_decide_eq_false (by kernel_rfl))]; exact ⟨rfl, rfl⟩)
    (fun os started H enc _ => lifted os started H enc)
#print axioms proved
end Go.Proofs.Ytapmeooffmonmaa.lawRowsAlike
