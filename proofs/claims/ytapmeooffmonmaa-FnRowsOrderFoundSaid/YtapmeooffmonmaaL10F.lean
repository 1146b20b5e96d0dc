/-
  Whatever bytes are given: where rows drawn from them are serial in an order drawn from them, an order is found, and it is that one or comes before it. No condition.
-/
import Derived.Test.YtapmeooffmonmaaOpen
import Derived.Test.YtapmeooffmonmaaSe7
import Derived.Test.YtapmeooffmonmaaSe9
import Derived.Test.YtapmeooffmonmaaInts
import Derived.Test.YtapmeooffmonmaaIsb
import Derived.Test.YtapmeooffmonmaaIsd
import Derived.Test.YtapmeooffmonmaaIse
namespace Go.Proofs.Ytapmeooffmonmaa.lawRowsOrderFound
open Go.ChangeShapes Go.WideShapes Go.ChangeAt Go.RowKit

set_option maxHeartbeats 8000000 in
set_option maxRecDepth 100000 in
theorem walk_short (A : Option Addr) (c : Nat) (z : List Int) (w : World) (h : Bytes w A c z) (hn : z.length ≤ 1048576) :
    Calls Try.prog 6 #[.slice A z.length c] w fun e w2 => e = .returned (.bool true) ∧ Below w.heap.size w w2 := by
  have e0 : decide ((1048576 : Int) < (z.length : Int)) = false := decide_eq_false (by omega)
  go_enter Try.func6, Try.ntmps6
  go_wp2_with fail
  refine (dRowsT_any A c z _ h).mono ?_
  rintro e w2 ⟨v1, T, v2, o, rfl, ⟨⟨A1, c1, hv1, _, hn1⟩, hT, h5, hb2⟩, ho2, hol⟩
  obtain ⟨A2, c2, hv2, _, hr2⟩ := own_slice ho2
  subst hv1 hv2
  have hr : ∀ r ∈ T, r.length ≤ 2000000 := fun r h => by have := h5 r h; omega
  have HR := Lib.hid (And.intro hb2 (And.intro hn1 (And.intro hr2 hr)))
  clear hb2 hn1 h hr h5 ho2 hr2
  obtain ⟨X, hX0⟩ : ∃ X, X = takeG T o := ⟨_, rfl⟩
  obtain ⟨ok, hok⟩ : ∃ ok, ok = takeOk T o := ⟨_, rfl⟩
  obtain ⟨hX5, hXr⟩ : X.length ≤ 5 ∧ ∀ r ∈ X, r.length = 5 := by rw [hX0]; exact takeG_small T o
  have HX := Lib.hid (And.intro hX0 (And.intro hok hXr))
  clear hX0 hok hXr
  have eb : (ok != ok) = false := by simp
  have ec : (ok == ok) = true := by simp
  have hI := iRowsTake_any A1 A2 c1 c2 T o w2 HR.out.2.1 HR.out.2.2.1 (by omega) HR.out.2.2.2 (by omega)
  rw [← HX.out.1, ← HX.out.2.1] at hI
  go_wp2_with fail
  refine hI.mono ?_
  clear hI
  rintro e w3 ⟨v3, vs3, rfl, hb3, ho3⟩
  obtain ⟨A3, c3, hv3, _, hn3⟩ := ho3.nest
  subst hv3
  have K3 := Lib.hid (And.intro (below_step HR.out.1 hb3) (And.intro (HR.out.2.1.step hb3) (And.intro (HR.out.2.2.1.step hb3) hn3)))
  clear hb3 ho3 hn3
  have hO := sRowsTake_any A1 A2 c1 c2 T o w3 K3.out.2.1 K3.out.2.2.1 (by omega) (by omega)
  rw [← HX.out.1, ← HX.out.2.1] at hO
  go_wp2_with fail
  refine hO.mono ?_
  clear hO
  rintro e w4 ⟨v4, vs4, rfl, hb4, ho4⟩
  have K4 := Lib.hid (And.intro (below_step K3.out.1 hb4) (And.intro (K3.out.2.1.step hb4) (And.intro (K3.out.2.2.1.step hb4) (K3.out.2.2.2.step hb4))))
  clear hb4 ho4
  cases ok
  · clear eb ec
    go_wp2_with fail
    go_ret
    exact ⟨rfl, K4.out.1⟩
  · obtain ⟨sr, hsr⟩ : ∃ sr, sr = serOk X := ⟨_, rfl⟩
    have hS := iSerial_any A3 c3 X w4 K4.out.2.2.2 (by omega) (fun r h => by have := HX.out.2.2 r h; omega)
    rw [← hsr] at hS
    have HSR := Lib.hid (And.intro hsr hS)
    clear hsr hS
    go_wp2_with fail
    refine HSR.out.2.mono ?_
    rintro e w5 ⟨rfl, hb5⟩
    have K5 := Lib.hid (And.intro (below_step K4.out.1 hb5) (And.intro (K4.out.2.1.step hb5) (K4.out.2.2.1.step hb5)))
    clear hb5
    cases sr
    · go_wp2_with fail
      go_ret
      exact ⟨rfl, K5.out.1⟩
    · obtain ⟨hok, hp, _⟩ := takeOk_parts HX.out.2.1.symm
      have hse : serS (takeS T o) = true := by
        have h1 := HSR.out.1
        rw [HX.out.1, takeG_ok HX.out.2.1.symm, serOk, takeOk_ok HX.out.2.1.symm, Bool.true_and] at h1
        exact h1.symm
      obtain ⟨hok2, hle⟩ := ordS_least hok hp hse
      obtain ⟨_, hp2, _⟩ := ordS_some hok2
      obtain ⟨G, hG⟩ : ∃ G, G = ordSG T := ⟨_, rfl⟩
      have hI := iRowsOrd_any A1 c1 T w5 K5.out.2.1 (by omega) HR.out.2.2.2
      rw [hok2, ← hG] at hI
      rw [← hG] at hp2 hle
      have hol2 := hp.1
      have hGl := hp2.1
      have HL := Lib.hid (And.intro hle (And.intro hI (And.intro hGl hol2)))
      clear hle hI hG hp2 hp hok2 hse hok hGl hol2 eb ec
      go_wp2_with fail
      refine HL.out.2.1.mono ?_
      rintro e w6 ⟨v6, rfl, hb6, ho6⟩
      obtain ⟨A6, c6, hv6, _, hr6⟩ := own_slice ho6
      subst hv6
      have K6 := Lib.hid (And.intro (below_step K5.out.1 hb6) (And.intro (K5.out.2.2.step hb6) hr6))
      clear hb6 ho6 hr6
      go_wp2_with fail
      go_loopw [11] (fun v wr => ∃ i : Nat, i ≤ T.length ∧ v = .int .i64 i ∧ Below w6.heap.size w6 wr ∧ ∀ j, j < i → G[j]? = o[j]?) (fun v _ => T.length - (intOf v).toNat)
      case atStart => exact ⟨0, Nat.zero_le _, rfl, Below.refl _ _, fun j h => absurd h (by omega)⟩
      case round =>
        obtain ⟨i, hi, rfl, hb, hpre⟩ := hrel
        obtain ⟨gl, hgl⟩ : ∃ gl, gl = G.length := ⟨_, rfl⟩
        by_cases hil : i < T.length
        · have gi : decide ((i : Int) < (G.length : Int)) = true := decide_eq_true (by have := HL.out.2.2.1; omega)
          have oi : decide ((i : Int) < (o.length : Int)) = true := decide_eq_true (by have := HL.out.2.2.2; omega)
          have gi2 : (i : Int) < (G.length : Int) := of_decide_eq_true gi
          have oi2 : (i : Int) < (o.length : Int) := of_decide_eq_true oi
          obtain ⟨a, ha⟩ : ∃ a, G[i]? = some a := ⟨_, List.getElem?_eq_getElem (by omega)⟩
          obtain ⟨b, hb1⟩ : ∃ b, o[i]? = some b := ⟨_, List.getElem?_eq_getElem (by omega)⟩
          have hab := HL.out.1 i a b hpre ha hb1
          obtain ⟨b6, off6, hA6, hbb6, hc6⟩ := (K6.out.2.2.below hb).ints (by omega)
          obtain ⟨b2, off2, hA2, hbb2, hc2⟩ := (K6.out.2.1.below hb).ints (by omega)
          subst hA6 hA2
          have d1 := hc6 i a ha
          have d2 := hc2 i b hb1
          have HB := Lib.hid (And.intro hb (And.intro hpre (And.intro ha hb1)))
          clear hb hpre ha hb1 hc6 hc2 hgl
          by_cases hne : a = b
          · subst hne
            clear hab
            go_wp2_with fail
            go_quiet (fail)
            go_wp2_with fail
            go_roundw
            case rel => exact ⟨i + 1, by omega, by go_num, below_draws HB.out.1 _, fun j hj => by
              by_cases h : j < i
              · exact HB.out.2.1 j h
              · obtain rfl : j = i := by omega
                rw [HB.out.2.2.1, HB.out.2.2.2]⟩
            case measure => simp [intOf]; omega
          · have hlt : decide (a < b) = true := decide_eq_true (by omega)
            clear hab
            go_wp2_with fail
            go_quiet (fail)
            go_wp2_with fail
            go_quiet (fail)
            go_wp2_with fail
            go_ret
            exact ⟨rfl, below_step K6.out.1 (below_draws (below_draws HB.out.1 _) _)⟩
        · have gi : decide ((i : Int) < (G.length : Int)) = false := decide_eq_false (by have := HL.out.2.2.1; omega)
          have gn : ¬ i < G.length := by have := HL.out.2.2.1; omega
          have on : ¬ i < o.length := by have := HL.out.2.2.2; omega
          clear hil hi
          have gl2 : ((G.length : Int) == (o.length : Int)) = true := by rw [beq_iff_eq]; have h1 := HL.out.2.2.1; have h2 := HL.out.2.2.2; omega
          have gl3 : (G.length == o.length) = true := by rw [beq_iff_eq]; have h1 := HL.out.2.2.1; have h2 := HL.out.2.2.2; omega
          have gl4 : decide (G.length = o.length) = true := decide_eq_true (by have h1 := HL.out.2.2.1; have h2 := HL.out.2.2.2; omega)
          have HB := Lib.hid hb
          clear hb hpre hgl
          go_wp2_with fail
          go_ret
          exact ⟨rfl, below_step K6.out.1 HB.out⟩
theorem walk (A : Option Addr) (c : Nat) (z : List Int) (w : World) (h1 : z.length ≤ c) (h2 : Reads w w.heap.size 1 A z.length (cellsB z)) (h3 : ∀ b ∈ z, 0 ≤ b ∧ b ≤ 255) (h4 : c ≤ maxLen) :
    Calls Try.prog 6 #[.slice A z.length c] w fun e w2 => e = .returned (.bool true) ∧ Below w.heap.size w w2 := by
  by_cases hn : z.length ≤ 1048576
  · exact walk_short A c z w (Bytes.mk_ h1 h2 h3 h4) hn
  · have e0 : decide ((1048576 : Int) < (z.length : Int)) = true := decide_eq_true (by omega)
    go_enter Try.func6, Try.ntmps6
    go_wp2_with fail
    go_ret
    exact ⟨rfl, Below.refl _ _⟩

set_option linter.unusedVariables false
set_option maxRecDepth 100000 in
theorem lifted (os : Os) (started : os.Started) (H : Type) (enc : TypeId × Value → H) :
    ReturnsInHanded {} Try.checked os 6 .any (Rows.fnRowsOrderFoundSpec.pre6 enc Try.prog Try.f6 Rows.fnRowsOrderFoundRow.domain false) (Rows.fnRowsOrderFoundSpec.post enc Try.prog Try.f6 false true false false) := by
  refine returnsInHanded_of_change (C := Try.checked) lawOwn started (by kernel_rfl) Try.func6
    (ChangeSpec.witness6 (enc := enc) (C := Try.checked) false ⟨#[], #[.slice none 0 0], []⟩ 8 (by kernel_rfl) (by kernel_rfl) (by kernel_rfl) (by kernel_rfl)) ?_
  intro W base args ds gs before hval0 hW hcnd _
  have hval : ∀ (j : Nat) t v, Try.f6.params[j]? = some t → args[j]? = some v → Value.okWide Try.prog W .any base t v := hval0
  have hW' := hW
  obtain ⟨p, q, hA0, hV, rfl, hfz, hnd⟩ := hW
  have hA : DataW.TrodAll enc Try.prog W 0 (fun _ => true) true Try.f6.params.toList args.toList ds p := hA0
  rw [Try.params6] at hA hval
  obtain ⟨v0, vs0, d0, ds0, p0, q0, hargs, rfl, rfl, h0, r0⟩ := trodAll_cons hA
  obtain ⟨rfl, rfl, rfl⟩ := trodAll_nil r0
  obtain rfl : args = #[v0] := by cases args; simp_all
  obtain ⟨rfl, rfl⟩ := trodVars_none hV
  have k0 := h0
  have lt0 : ∀ x ∈ p0, x.block < W.heap.size := by obtain ⟨m, hm⟩ := k0; exact DataW.trod_lt m _ _ _ hm
  obtain ⟨a0, len0, cap0, rfl⟩ := okWide_slice Try.underlying22 (hval 0 22 v0 rfl rfl)
  obtain ⟨z0, hl0, hc0, hr0, hb0, hm0⟩ : ∃ z : List Int, len0 = z.length ∧ len0 ≤ cap0 ∧ Reads W W.heap.size 1 a0 len0 (cellsB z) ∧ (∀ b ∈ z, 0 ≤ b ∧ b ≤ 255) ∧ cap0 ≤ maxLen := by
    obtain ⟨fuel, hf⟩ := h0
    exact open_bytes Try.underlying22 Try.underlying5 (by kernel_rfl) (by simpa [Value.cells] using hf)
  subst hl0
  clear hA0 hval0
  refine (walk a0 cap0 z0 W hc0 hr0 hb0 hm0).mono fun e W' ⟨he, bel⟩ => ?_
  subst he
  exact ⟨_, rfl, _, _, _, [], _, [], hW', trodAll_mk1 (shut_bool Try.underlying4 _), (trodAll_cons_mk (Below.trod lawLaid (by kernel_rfl) (of_decide_eq_true (by kernel_rfl)) k0 bel lt0) trodAll_mk0), rfl, bel.frame _, fun h => by cases h⟩

theorem proved : Rows.FnRowsOrderFoundSaid :=
  OpenClaim.holds_of_wide 6 Try.f6 rfl rfl rfl rfl rfl rfl rfl ⟨rfl, rfl, rfl, rfl, rfl⟩ rfl rfl rfl rfl rfl (by kernel_rfl) Try.func6 (by kernel_rfl)
    (of_decide_eq_true (by kernel_rfl)) (by unfold Func.isWrapper; rw [if_neg (of_decide_eq_false (by kernel_rfl))]; exact ⟨rfl, rfl⟩)
    (fun os started H enc _ => lifted os started H enc)
#print axioms proved
end Go.Proofs.Ytapmeooffmonmaa.lawRowsOrderFound
