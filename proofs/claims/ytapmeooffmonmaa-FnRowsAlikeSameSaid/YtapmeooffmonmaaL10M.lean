/-
  Whatever bytes are given: of two rows drawn from them, each is as alike to itself as it has types, and they are the same if and only if they are as alike as that. No condition.
-/
import Derived.Test.YtapmeooffmonmaaOpen
import Derived.Test.YtapmeooffmonmaaSe7
import Derived.Test.YtapmeooffmonmaaSe9
import Derived.Test.YtapmeooffmonmaaIsc
namespace Go.Proofs.Ytapmeooffmonmaa.lawRowsAlikeSame
open Go.ChangeShapes Go.WideShapes Go.ChangeAt Go.RowKit

set_option maxHeartbeats 8000000 in
set_option maxRecDepth 100000 in
theorem walk_short (A : Option Addr) (c : Nat) (z : List Int) (w : World) (h : Bytes w A c z) (hn : z.length ≤ 1048576) :
    Calls Try.prog 9 #[.slice A z.length c] w fun e w2 => e = .returned (.bool true) ∧ Below w.heap.size w w2 := by
  have e0 : decide ((1048576 : Int) < (z.length : Int)) = false := decide_eq_false (by omega)
  go_enter Try.func9, Try.ntmps9
  go_wp2_with fail
  refine (dRowsA_any A c z _ h).mono ?_
  rintro e w2 ⟨v1, l, v2, m, rfl, ⟨A1, c1, hv1, _, hr1⟩, ⟨A2, c2, hv2, _, hr2⟩, hl, hm, hb2⟩
  subst hv1 hv2
  obtain ⟨N, hN⟩ : ∃ N, N = alikeS l m := ⟨_, rfl⟩
  have ebN : (N != N) = false := by simp
  have eqN : (N == N) = true := by simp
  have HN := Lib.hid hN
  have HR := Lib.hid (And.intro hb2 (And.intro hr1 hr2))
  clear hb2 hr1 hr2 h
  go_wp2_with fail
  refine (iAlike_any _ _ _ _ l m _ HR.out.2.1 HR.out.2.2 (by omega) (by omega)).mono ?_
  rintro e w3 ⟨rfl, hb3⟩
  rw [← HN.out]
  have K3 := Lib.hid (And.intro (below_step HR.out.1 hb3) (And.intro (HR.out.2.1.step hb3) (HR.out.2.2.step hb3)))
  clear hb3
  go_wp2_with fail
  refine (sAlike_any _ _ _ _ l m _ K3.out.2.1 K3.out.2.2 (by omega) (by omega)).mono ?_
  rintro e w4 ⟨rfl, hb4⟩
  rw [← HN.out]
  have K4 := Lib.hid (And.intro (below_step K3.out.1 hb4) (And.intro (K3.out.2.1.step hb4) (K3.out.2.2.step hb4)))
  clear hb4
  cases h9 : (N == (-99 : Int))
  · obtain ⟨l5, m5⟩ := (alikeS_ne (a := l) (b := m)).1 (by rw [← hN]; intro e; rw [e] at h9; cases h9)
    have eN : N = alF l m 5 := by rw [hN]; exact if_pos ⟨l5, m5⟩
    have eL : alikeS l l = alF l l 5 := if_pos ⟨l5, l5⟩
    have eM : alikeS m m = alF m m 5 := if_pos ⟨m5, m5⟩
    have HE := Lib.hid (And.intro eN (And.intro eL (And.intro eM (And.intro l5 m5))))
    clear eN eL eM l5 m5 hN
    go_wp2_with fail
    go_loopw [7, 8, 9] (fun n s v wr => ∃ k : Nat, k ≤ 5 ∧ v = .int .i64 k ∧ n = .int .i64 (alF l l k) ∧ s = .bool (sameB l m k) ∧ Below w4.heap.size w4 wr) (fun _ _ v _ => 5 - (intOf v).toNat)
    case atStart => exact ⟨0, Nat.zero_le _, rfl, rfl, rfl, Below.refl _ _⟩
    case round =>
      obtain ⟨k, hk, rfl, rfl, rfl, hb⟩ := hrel
      have hle := alF_le l l k
      obtain ⟨n, hn2⟩ : ∃ n, n = alF l l k := ⟨_, rfl⟩
      obtain ⟨s, hs⟩ : ∃ s, s = sameB l m k := ⟨_, rfl⟩
      rw [← hn2] at hle ⊢
      rw [← hs]
      by_cases hk5 : k < 5
      · have kl : (k : Int) < (l.length : Int) := by have := HE.out.2.2.2.1; omega
        have km : (k : Int) < (m.length : Int) := by have := HE.out.2.2.2.2; omega
        have kln : k < l.length := by omega
        obtain ⟨x, hx⟩ : ∃ x, l[k]? = some x := ⟨_, List.getElem?_eq_getElem (by omega)⟩
        obtain ⟨y, hy⟩ : ∃ y, m[k]? = some y := ⟨_, List.getElem?_eq_getElem (by omega)⟩
        obtain ⟨b1, off1, hA1, hbb1, hc1⟩ := (K4.out.2.1.below hb).2 (by omega)
        obtain ⟨b2, off2, hA2, hbb2, hc2⟩ := (K4.out.2.2.below hb).2 (by omega)
        subst hA1 hA2
        have d1 := hc1 k (.bool x) (by rw [List.getElem?_map, hx]; rfl)
        have d2 := hc2 k (.bool y) (by rw [List.getElem?_map, hy]; rfl)
        have n1 : alF l l (k + 1) = n + if x = true then 1 else 0 := by rw [alF_self_next, ← hn2, List.getD_eq_getElem?_getD, hx]; rfl
        have s1 : sameB l m (k + 1) = (s && (x == y)) := by
          show (sameB l m k && _) = _
          rw [← hs, List.getD_eq_getElem?_getD, List.getD_eq_getElem?_getD, hx, hy]
          rfl
        have HB := Lib.hid (And.intro hb (And.intro n1 s1))
        clear hb n1 s1 hx hy hc1 hc2 hn2 hs
        cases x
        · cases s
          · go_wp2_with fail
            go_quiet (fail)
            go_wp2_with fail
            go_roundw
            case rel => exact ⟨k + 1, by omega, by go_num, by rw [HB.out.2.1]; simp, by rw [HB.out.2.2]; simp, below_draws HB.out.1 _⟩
            case measure => simp [intOf]; omega
          · go_wp2_with fail
            go_quiet (fail)
            go_wp2_with fail
            go_roundw
            case rel => exact ⟨k + 1, by omega, by go_num, by rw [HB.out.2.1]; simp, by rw [HB.out.2.2]; simp, below_draws HB.out.1 _⟩
            case measure => simp [intOf]; omega
        · cases s
          · go_wp2_with fail
            go_quiet (fail)
            go_wp2_with fail
            go_roundw
            case rel => exact ⟨k + 1, by omega, by go_num, by rw [HB.out.2.1]; simp, by rw [HB.out.2.2]; simp, below_draws HB.out.1 _⟩
            case measure => simp [intOf]; omega
          · go_wp2_with fail
            go_quiet (fail)
            go_wp2_with fail
            go_roundw
            case rel => exact ⟨k + 1, by omega, by go_num, by rw [HB.out.2.1]; simp, by rw [HB.out.2.2]; simp, below_draws HB.out.1 _⟩
            case measure => simp [intOf]; omega
      · obtain rfl : k = 5 := by omega
        have kl : decide (((5 : Nat) : Int) < (l.length : Int)) = false := decide_eq_false (by have := HE.out.2.2.2.1; omega)
        have kl2 : ¬ 5 < l.length := by have := HE.out.2.2.2.1; omega
        have kl3 : ¬ (5 : Int) < (l.length : Int) := by have := HE.out.2.2.2.1; omega
        have hfin := sameF_all l m
        obtain ⟨M, hM⟩ : ∃ M, M = alikeS m m := ⟨_, rfl⟩
        have hL : alikeS l l = n := by rw [HE.out.2.1, hn2]
        rw [← HE.out.1, ← HE.out.2.2.1, ← hn2, ← hs, ← hM] at hfin
        have enn : (n == n) = true := by simp
        have rb := K4.out.2.1.below hb
        have HF := Lib.hid (And.intro hb (And.intro (K4.out.2.1.step hb) (And.intro (K4.out.2.2.step hb) (And.intro hL hM))))
        have HG := Lib.hid hfin
        clear hb hL hM hn2 hs rb hfin
        go_wp2_with fail
        refine (iAlike_any _ _ _ _ l l _ HF.out.2.1 HF.out.2.1 (by omega) (by omega)).mono ?_
        rintro e w5 ⟨rfl, hb5⟩
        rw [HF.out.2.2.2.1]
        have K5 := Lib.hid (And.intro (below_step HF.out.1 hb5) (HF.out.2.2.1.step hb5))
        clear hb5
        cases hq : (N == n)
        · have hsf : s = false := by have := HG.out; rw [hq] at this; simpa using this
          subst hsf
          go_wp2_with fail
          go_ret
          exact ⟨rfl, below_step K4.out.1 K5.out.1⟩
        · have hsm : (s == (M == n)) = true := by have := HG.out; rw [hq] at this; simpa using this
          go_wp2_with fail
          refine (iAlike_any _ _ _ _ m m _ K5.out.2 K5.out.2 (by omega) (by omega)).mono ?_
          rintro e w6 ⟨rfl, hb6⟩
          rw [← HF.out.2.2.2.2]
          have K6 := Lib.hid (below_step K4.out.1 (below_step K5.out.1 hb6))
          clear hb6
          go_wp2_with fail
          go_ret
          exact ⟨rfl, K6.out⟩
  · clear hN
    go_wp2_with fail
    go_ret
    exact ⟨rfl, K4.out.1⟩
theorem walk (A : Option Addr) (c : Nat) (z : List Int) (w : World) (h1 : z.length ≤ c) (h2 : Reads w w.heap.size 1 A z.length (cellsB z)) (h3 : ∀ b ∈ z, 0 ≤ b ∧ b ≤ 255) (h4 : c ≤ maxLen) :
    Calls Try.prog 9 #[.slice A z.length c] w fun e w2 => e = .returned (.bool true) ∧ Below w.heap.size w w2 := by
  by_cases hn : z.length ≤ 1048576
  · exact walk_short A c z w (Bytes.mk_ h1 h2 h3 h4) hn
  · have e0 : decide ((1048576 : Int) < (z.length : Int)) = true := decide_eq_true (by omega)
    go_enter Try.func9, Try.ntmps9
    go_wp2_with fail
    go_ret
    exact ⟨rfl, Below.refl _ _⟩

set_option linter.unusedVariables false
set_option maxRecDepth 100000 in
theorem lifted (os : Os) (started : os.Started) (H : Type) (enc : TypeId × Value → H) :
    ReturnsInHanded {} Try.checked os 9 .any (Rows.fnRowsAlikeSameSpec.pre6 enc Try.prog Try.f9 Rows.fnRowsAlikeSameRow.domain false) (Rows.fnRowsAlikeSameSpec.post enc Try.prog Try.f9 false true false false) := by
  refine returnsInHanded_of_change (C := Try.checked) lawOwn started (by kernel_rfl) Try.func9
    (ChangeSpec.witness6 (enc := enc) (C := Try.checked) false ⟨#[], #[.slice none 0 0], []⟩ 8 (by kernel_rfl) (by kernel_rfl) (by kernel_rfl) (by kernel_rfl)) ?_
  intro W base args ds gs before hval0 hW hcnd _
  have hval : ∀ (j : Nat) t v, Try.f9.params[j]? = some t → args[j]? = some v → Value.okWide Try.prog W .any base t v := hval0
  have hW' := hW
  obtain ⟨p, q, hA0, hV, rfl, hfz, hnd⟩ := hW
  have hA : DataW.TrodAll enc Try.prog W 0 (fun _ => true) true Try.f9.params.toList args.toList ds p := hA0
  rw [Try.params9] at hA hval
  obtain ⟨v0, vs0, d0, ds0, p0, q0, hargs, rfl, rfl, h0, r0⟩ := trodAll_cons hA
  obtain ⟨rfl, rfl, rfl⟩ := trodAll_nil r0
  obtain rfl : args = #[v0] := by cases args; simp_all
  obtain ⟨rfl, rfl⟩ := trodVars_none hV
  have k0 := h0
  have lt0 : ∀ x ∈ p0, x.block < W.heap.size := by obtain ⟨m, hm⟩ := k0; exact DataW.trod_lt m _ _ _ hm
  obtain ⟨a0, len0, cap0, rfl⟩ := okWide_slice Try.underlying22 (hval 0 22 v0 rfl rfl)
  obtain ⟨z0, hl0, hc0, hr0, hb0, hm0⟩ : ∃ z : List Int, len0 = z.length ∧ len0 ≤ cap0 ∧ Reads W W.heap.size 1 a0 len0 (cellsB z) ∧ (∀ b ∈ z, 0 ≤ b ∧ b ≤ 255) ∧ cap0 ≤ maxLen := by
    obtain ⟨fuel, hf⟩ := h0
    exact open_bytes Try.underlying22 Try.underlying5 (by kernel_rfl) (by simpa [Value.cells] using hf)
  subst hl0
  clear hA0 hval0
  refine (walk a0 cap0 z0 W hc0 hr0 hb0 hm0).mono fun e W' ⟨he, bel⟩ => ?_
  subst he
  exact ⟨_, rfl, _, _, _, [], _, [], hW', trodAll_mk1 (shut_bool Try.underlying4 _), (trodAll_cons_mk (Below.trod lawLaid (by kernel_rfl) (of_decide_eq_true (by kernel_rfl)) k0 bel lt0) trodAll_mk0), rfl, bel.frame _, fun h => by cases h⟩

theorem proved : Rows.FnRowsAlikeSameSaid :=
  OpenClaim.holds_of_wide 9 Try.f9 rfl rfl rfl rfl rfl rfl rfl ⟨rfl, rfl, rfl, rfl, rfl⟩ rfl rfl rfl rfl rfl (by kernel_rfl) Try.func9 (by kernel_rfl)
    (of_decide_eq_true (by kernel_rfl)) (by unfold Func.isWrapper; rw [if_neg (of_decide_eq_false (by kernel_rfl))]; exact ⟨rfl, rfl⟩)
    (fun os started H enc _ => lifted os started H enc)
#print axioms proved
end Go.Proofs.Ytapmeooffmonmaa.lawRowsAlikeSame
