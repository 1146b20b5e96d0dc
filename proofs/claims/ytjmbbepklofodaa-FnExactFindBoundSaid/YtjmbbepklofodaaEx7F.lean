/-
  For every number and every list of years, the program's bound of finds is answered as the model's, and the program leaves its argument as it was. No condition.
-/
import Derived.Test.YtjmbbepklofodaaOpen
import Derived.Test.YtjmbbepklofodaaInts
import Derived.Test.YtjmbbepklofodaaIb
namespace Go.Proofs.Ytjmbbepklofodaa.exFindBound
open Go.ChangeShapes Go.WideShapes Go.ChangeAt Go.RowKit

set_option maxHeartbeats 2000000 in
set_option maxRecDepth 100000 in
theorem walk (id : Int) (A : Option Addr) (cap : Nat) (Y : List Int) (w : World) (hr : Reads w w.heap.size 1 A Y.length (cellsI Y)) (hm : Y.length ≤ maxLen) :
    Calls Try.prog 12 #[.int .i64 id, .slice A Y.length cap] w fun e w2 => e = .returned (.bool true) ∧ Below w.heap.size w w2 := by
  unfold maxLen at hm
  by_cases hn : Y.length ≤ 1048576
  · have e0 : decide ((1048576 : Int) < (Y.length : Int)) = false := by simp; omega
    have hq := eqLI_self Y
    obtain ⟨x, hx⟩ : ∃ x, x = findB id Y := ⟨_, rfl⟩
    obtain ⟨ok, hok⟩ : ∃ ok, ok = findOkB id Y := ⟨_, rfl⟩
    have hxx := eqC_self x
    have e3 : (ok != ok) = false := by simp
    have H := Lib.hid (And.intro hx hok)
    clear hx hok
    go_enter Try.func12, Try.ntmps12
    go_wp2_with fail
    refine (toIS_any _ _ Y _ hr (by omega)).mono ?_
    rintro e w2 ⟨g2, rfl, hb2, ho2⟩
    go_wp2_with fail
    refine (sFindBound_any _ _ Y id _ (own_reads ho2) (by omega)).mono ?_
    rintro e w3 ⟨rfl, hb3⟩
    rw [← H.out.1, ← H.out.2]
    have k3 := below_step hb2 hb3
    have a3 : Aft 29 w3 x (w3.alloc (.cells #[.int .i64 x.id, .int .i64 x.kind, .int .i64 x.area] 29)) := Below.refl _ _
    have k3a := below_step k3 a3.below
    go_wp2_with fail
    refine (toIS_any _ _ Y _ (hr.step k3a) (by omega)).mono ?_
    rintro e w4 ⟨g4, rfl, hb4, ho4⟩
    have a4 := a3.step hb4
    go_wp2_with fail
    refine (iFindBound_any _ _ Y id _ (own_reads ho4) (by omega)).mono ?_
    rintro e w5 ⟨rfl, hb5⟩
    rw [← H.out.1, ← H.out.2]
    have a5 := a4.step hb5
    have a6 : Aft 29 w5 x (w5.alloc (.cells #[.int .i64 x.id, .int .i64 x.kind, .int .i64 x.area] 29)) := Below.refl _ _
    obtain ⟨s0, s1, s2⟩ := (a5.step a6.below).cells
    obtain ⟨t0, t1, t2⟩ := a6.cells
    have hs := a5.sz
    have HK := Lib.hid (And.intro k3 (And.intro (a5.step a6.below) (And.intro ho4 (below_step hb5 a6.below))))
    clear a3 a4 a5 a6 ho4 hb4 hb5 k3a k3
    go_wp2_with fail
    refine (eqBound_any x.id x.kind x.area x.id x.kind x.area _).mono ?_
    rintro e w7 ⟨rfl, hb7⟩
    rw [show eqC ⟨x.id, x.kind, x.area⟩ ⟨x.id, x.kind, x.area⟩ = true from hxx]
    have k7 := below_step (below_step HK.out.1 HK.out.2.1.below) hb7
    have r7 := (own_reads HK.out.2.2.1).step (below_step HK.out.2.2.2 hb7)
    go_wp2_with fail
    refine (toIS_any _ _ Y _ (hr.step k7) (by omega)).mono ?_
    rintro e w8 ⟨g8, rfl, hb8, ho8⟩
    have k8 := below_step k7 hb8
    go_wp2_with fail
    refine (eqIS_any _ _ _ _ Y Y _ (r7.step hb8) (own_reads ho8) (by omega)).mono ?_
    rintro e w9 ⟨rfl, hb9⟩
    have k9 := below_step k8 hb9
    go_wp2_with fail
    go_ret
    exact ⟨rfl, k9⟩
  · have e0 : decide ((1048576 : Int) < (Y.length : Int)) = true := by simp; omega
    go_enter Try.func12, Try.ntmps12
    go_wp2_with fail
    go_ret
    exact ⟨rfl, Below.refl _ _⟩

set_option linter.unusedVariables false
set_option maxRecDepth 100000 in
theorem lifted (os : Os) (started : os.Started) (H : Type) (enc : TypeId × Value → H) :
    ReturnsInHanded {} Try.checked os 12 .any (Rows.fnExactFindBoundSpec.pre6 enc Try.prog Try.f12 Rows.fnExactFindBoundRow.domain false) (Rows.fnExactFindBoundSpec.post enc Try.prog Try.f12 false true false false) := by
  refine returnsInHanded_of_change (C := Try.checked) lawOwn started (by kernel_rfl) Try.func12
    (ChangeSpec.witness6 (enc := enc) (C := Try.checked) false ⟨#[], #[.int .i64 0, .slice none 0 0], []⟩ 8 (by kernel_rfl) (by kernel_rfl) (by kernel_rfl) (by kernel_rfl)) ?_
  intro W base args ds gs before hval0 hW hcnd _
  have hval : ∀ (j : Nat) t v, Try.f12.params[j]? = some t → args[j]? = some v → Value.okWide Try.prog W .any base t v := hval0
  have hW' := hW
  obtain ⟨p, q, hA0, hV, rfl, hfz, hnd⟩ := hW
  have hA : DataW.TrodAll enc Try.prog W 0 (fun _ => true) true Try.f12.params.toList args.toList ds p := hA0
  rw [Try.params12] at hA hval
  obtain ⟨v0, vs0, d0, ds0, p0, q0, hargs, rfl, rfl, h0, r0⟩ := trodAll_cons hA
  obtain ⟨v1, vs1, d1, ds1, p1, q1, rfl, rfl, rfl, h1, r1⟩ := trodAll_cons r0
  obtain ⟨rfl, rfl, rfl⟩ := trodAll_nil r1
  obtain rfl : args = #[v0, v1] := by cases args; simp_all
  obtain ⟨rfl, rfl⟩ := trodVars_none hV
  obtain ⟨x0, rfl, rfl, rfl, w0⟩ := open_int Try.underlying3 (hval 0 3 v0 rfl rfl) h0
  have k1 := h1
  have lt1 : ∀ x ∈ p1, x.block < W.heap.size := by obtain ⟨m, hm⟩ := k1; exact DataW.trod_lt m _ _ _ hm
  obtain ⟨a1, len1, cap1, rfl⟩ := okWide_slice Try.underlying39 (hval 1 39 v1 rfl rfl)
  obtain ⟨l1, hl1, hr1, hm1⟩ : ∃ l : List Int, len1 = l.length ∧ Reads W W.heap.size 1 a1 len1 (cellsI l) ∧ len1 ≤ maxLen := by
    obtain ⟨fuel, hf⟩ := h1
    exact open_ints Try.underlying39 Try.underlying3 (by kernel_rfl) (by simpa [Value.cells] using hf)
  subst hl1
  clear hA0 hval0
  refine (walk x0 a1 cap1 l1 W hr1 hm1).mono fun e W' ⟨he, bel⟩ => ?_
  subst he
  exact ⟨_, rfl, _, _, _, [], _, [], hW', trodAll_mk1 (shut_bool Try.underlying4 _), (trodAll_cons_mk (shut_int Try.underlying3 w0) (trodAll_cons_mk (Below.trod lawLaid (by kernel_rfl) (of_decide_eq_true (by kernel_rfl)) k1 bel lt1) trodAll_mk0)), rfl, bel.frame _, fun h => by cases h⟩

theorem proved : Rows.FnExactFindBoundSaid :=
  OpenClaim.holds_of_wide 12 Try.f12 rfl rfl rfl rfl rfl rfl rfl ⟨rfl, rfl, rfl, rfl, rfl⟩ rfl rfl rfl rfl rfl (by kernel_rfl) Try.func12 (by kernel_rfl)
    (of_decide_eq_true (by kernel_rfl)) (by unfold Func.isWrapper; rw [if_neg (of_decide_eq_false (by kernel_rfl))]; exact ⟨rfl, rfl⟩)
    (fun os started H enc _ => lifted os started H enc)
#print axioms proved
end Go.Proofs.Ytjmbbepklofodaa.exFindBound
