/-
  Whatever bytes are given: an order of rows drawn from them is the model's, and where one is found the rows can be taken in it and are serial then. No condition.
-/
import Derived.Test.YtapmeooffmonmaaOpen
import Derived.Test.YtapmeooffmonmaaSe7
import Derived.Test.YtapmeooffmonmaaSe9
import Derived.Test.YtapmeooffmonmaaInts
import Derived.Test.YtapmeooffmonmaaIsb
import Derived.Test.YtapmeooffmonmaaIsd
import Derived.Test.YtapmeooffmonmaaIse
namespace Go.Proofs.Ytapmeooffmonmaa.lawRowsOrder
open Go.ChangeShapes Go.WideShapes Go.ChangeAt Go.RowKit

set_option maxHeartbeats 4000000 in
set_option maxRecDepth 100000 in
theorem walk_short (A : Option Addr) (c : Nat) (z : List Int) (w : World) (h : Bytes w A c z) (hn : z.length ≤ 1048576) :
    Calls Try.prog 5 #[.slice A z.length c] w fun e w2 => e = .returned (.bool true) ∧ Below w.heap.size w w2 := by
  have e0 : decide ((1048576 : Int) < (z.length : Int)) = false := decide_eq_false (by omega)
  go_enter Try.func5, Try.ntmps5
  go_wp2_with fail
  refine (dRowsO_any A c z _ h).mono ?_
  rintro e w2 ⟨v1, T, rfl, ⟨A1, c1, hv1, _, hn1⟩, hT, h5, hb2⟩
  subst hv1
  have hr : ∀ r ∈ T, r.length ≤ 2000000 := fun r h => by have := h5 r h; omega
  have HR := Lib.hid (And.intro hb2 (And.intro hn1 hr))
  clear hb2 hn1 h hr h5
  obtain ⟨G, hG0⟩ : ∃ G, G = ordSG T := ⟨_, rfl⟩
  obtain ⟨ok, hok⟩ : ∃ ok, ok = ordSOk T := ⟨_, rfl⟩
  have hGl : G.length ≤ 11 := by rw [hG0]; exact Nat.le_trans (ordSG_len T) hT
  have HG := Lib.hid (And.intro hG0 hok)
  clear hG0 hok
  have q := eqLI_self G
  have eb : (ok != ok) = false := by simp
  have ec : (ok == ok) = true := by simp
  have hI := iRowsOrd_any A1 c1 T w2 HR.out.2.1 (by omega) HR.out.2.2
  rw [← HG.out.1, ← HG.out.2] at hI
  go_wp2_with fail
  refine hI.mono ?_
  clear hI
  rintro e w3 ⟨v3, rfl, hb3, ho3⟩
  obtain ⟨A3, c3, hv3, _, hr3⟩ := own_slice ho3
  subst hv3
  have K3 := Lib.hid (And.intro (below_step HR.out.1 hb3) (And.intro (HR.out.2.1.step hb3) hr3))
  clear hb3 ho3 hr3
  have hO := sRowsOrd_any A1 c1 T w3 K3.out.2.1 (by omega)
  rw [← HG.out.1, ← HG.out.2] at hO
  go_wp2_with fail
  refine hO.mono ?_
  clear hO
  rintro e w4 ⟨A4, c4, rfl, hb4, hr4, _⟩
  have K4 := Lib.hid (And.intro (below_step K3.out.1 hb4) (And.intro (K3.out.2.1.step hb4) (And.intro (K3.out.2.2.step hb4) hr4)))
  clear hb4 hr4
  go_wp2_with fail
  refine (sameInts_any _ _ _ _ G G _ K4.out.2.2.1 K4.out.2.2.2 (by omega)).mono ?_
  rintro e w5 ⟨rfl, hb5⟩
  have K5 := Lib.hid (And.intro (below_step K4.out.1 hb5) (And.intro (K4.out.2.1.step hb5) (And.intro (K4.out.2.2.1.step hb5) (K4.out.2.2.2.step hb5))))
  clear hb5
  cases ok
  · clear eb ec
    go_wp2_with fail
    refine (sameInts_any _ _ _ _ G G _ K5.out.2.2.1 K5.out.2.2.2 (by omega)).mono ?_
    rintro e w6 ⟨rfl, hb6⟩
    have K6 := Lib.hid (below_step K5.out.1 hb6)
    clear hb6
    go_wp2_with fail
    go_ret
    exact ⟨rfl, K6.out⟩
  · obtain ⟨ht, hs⟩ := ord_take HG.out.2.symm
    rw [← HG.out.1] at ht hs
    have hTk := iRowsTake_any A1 A3 c1 c3 T G _ K5.out.2.1 K5.out.2.2.1 (by omega) HR.out.2.2 (by omega)
    rw [ht] at hTk
    obtain ⟨hX5, hX⟩ := takeG_small T G
    obtain ⟨X, hX0⟩ : ∃ X, X = takeG T G := ⟨_, rfl⟩
    rw [← hX0] at hs hTk hX hX5
    have HX := Lib.hid (And.intro hs (And.intro hTk (fun r h => by have := hX r h; omega : ∀ r ∈ X, r.length ≤ 2000000)))
    clear hs hTk ht hX hX0 eb ec
    go_wp2_with fail
    refine HX.out.2.1.mono ?_
    rintro e w6 ⟨v6, vs6, rfl, hb6, ho6⟩
    obtain ⟨A6, c6, hv6, _, hn6⟩ := ho6.nest
    subst hv6
    have K6 := Lib.hid (And.intro (below_step K5.out.1 hb6) hn6)
    clear hb6 ho6 hn6
    go_wp2_with fail
    refine (iSerial_any _ _ X _ K6.out.2 (by omega) HX.out.2.2).mono ?_
    rintro e w7 ⟨rfl, hb7⟩
    rw [HX.out.1]
    have K7 := Lib.hid (below_step K6.out.1 hb7)
    clear hb7
    go_wp2_with fail
    go_ret
    exact ⟨rfl, K7.out⟩
theorem walk (A : Option Addr) (c : Nat) (z : List Int) (w : World) (h1 : z.length ≤ c) (h2 : Reads w w.heap.size 1 A z.length (cellsB z)) (h3 : ∀ b ∈ z, 0 ≤ b ∧ b ≤ 255) (h4 : c ≤ maxLen) :
    Calls Try.prog 5 #[.slice A z.length c] w fun e w2 => e = .returned (.bool true) ∧ Below w.heap.size w w2 := by
  by_cases hn : z.length ≤ 1048576
  · exact walk_short A c z w (Bytes.mk_ h1 h2 h3 h4) hn
  · have e0 : decide ((1048576 : Int) < (z.length : Int)) = true := decide_eq_true (by omega)
    go_enter Try.func5, Try.ntmps5
    go_wp2_with fail
    go_ret
    exact ⟨rfl, Below.refl _ _⟩

set_option linter.unusedVariables false
set_option maxRecDepth 100000 in
theorem lifted (os : Os) (started : os.Started) (H : Type) (enc : TypeId × Value → H) :
    ReturnsInHanded {} Try.checked os 5 .any (Rows.fnRowsOrderSpec.pre6 enc Try.prog Try.f5 Rows.fnRowsOrderRow.domain false) (Rows.fnRowsOrderSpec.post enc Try.prog Try.f5 false true false false) := by
  refine returnsInHanded_of_change (C := Try.checked) lawOwn started (by kernel_rfl) Try.func5
    (ChangeSpec.witness6 (enc := enc) (C := Try.checked) false ⟨#[], #[.slice none 0 0], []⟩ 8 (by kernel_rfl) (by kernel_rfl) (by kernel_rfl) (by kernel_rfl)) ?_
  intro W base args ds gs before hval0 hW hcnd _
  have hval : ∀ (j : Nat) t v, Try.f5.params[j]? = some t → args[j]? = some v → Value.okWide Try.prog W .any base t v := hval0
  have hW' := hW
  obtain ⟨p, q, hA0, hV, rfl, hfz, hnd⟩ := hW
  have hA : DataW.TrodAll enc Try.prog W 0 (fun _ => true) true Try.f5.params.toList args.toList ds p := hA0
  rw [Try.params5] at hA hval
  obtain ⟨v0, vs0, d0, ds0, p0, q0, hargs, rfl, rfl, h0, r0⟩ := trodAll_cons hA
  obtain ⟨rfl, rfl, rfl⟩ := trodAll_nil r0
  obtain rfl : args = #[v0] := by cases args; simp_all
  obtain ⟨rfl, rfl⟩ := trodVars_none hV
  have k0 := h0
  have lt0 : ∀ x ∈ p0, x.block < W.heap.size := by obtain ⟨m, hm⟩ := k0; exact DataW.trod_lt m _ _ _ hm
  obtain ⟨a0, len0, cap0, rfl⟩ := okWide_slice Try.underlying22 (hval 0 22 v0 rfl rfl)
  obtain ⟨z0, hl0, hc0, hr0, hb0, hm0⟩ : ∃ z : List Int, len0 = z.length ∧ len0 ≤ cap0 ∧ Reads W W.heap.size 1 a0 len0 (cellsB z) ∧ (∀ b ∈ z, 0 ≤ b ∧ b ≤ 255) ∧ cap0 ≤ maxLen := by
    obtain ⟨fuel, hf⟩ := h0
    exact open_bytes Try.underlying22 Try.underlying5 (by kernel_rfl) (by simpa [Value.cells] using hf)
  subst hl0
  clear hA0 hval0
  refine (walk a0 cap0 z0 W hc0 hr0 hb0 hm0).mono fun e W' ⟨he, bel⟩ => ?_
  subst he
  exact ⟨_, rfl, _, _, _, [], _, [], hW', trodAll_mk1 (shut_bool Try.underlying4 _), (trodAll_cons_mk (Below.trod lawLaid (by kernel_rfl) (of_decide_eq_true (by kernel_rfl)) k0 bel lt0) trodAll_mk0), rfl, bel.frame _, fun h => by cases h⟩

theorem proved : Rows.FnRowsOrderSaid :=
  OpenClaim.holds_of_wide 5 Try.f5 rfl rfl rfl rfl rfl rfl rfl ⟨rfl, rfl, rfl, rfl, rfl⟩ rfl rfl rfl rfl rfl (by kernel_rfl) Try.func5 (by kernel_rfl)
    (of_decide_eq_true (by kernel_rfl)) (by unfold Func.isWrapper; rw [if_neg (of_decide_eq_false (by kernel_rfl))]; exact ⟨rfl, rfl⟩)
    (fun os started H enc _ => lifted os started H enc)
#print axioms proved
end Go.Proofs.Ytapmeooffmonmaa.lawRowsOrder
