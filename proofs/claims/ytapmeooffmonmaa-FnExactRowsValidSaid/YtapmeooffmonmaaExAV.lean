/-
  For all rows, RowsValid answers as the model answers, and the program leaves the rows as they were. No condition.
-/
import Derived.Test.YtapmeooffmonmaaOb
import Derived.Test.YtapmeooffmonmaaSe8
import Derived.Test.YtapmeooffmonmaaBt
import Derived.Test.YtapmeooffmonmaaSe2
import Derived.Test.YtapmeooffmonmaaIsa
namespace Go.Proofs.Ytapmeooffmonmaa.exRowsValid
open Go.ChangeShapes Go.WideShapes Go.ChangeAt Go.RowKit

set_option maxHeartbeats 8000000 in
set_option maxRecDepth 100000 in
theorem walk (D : Option Addr) (cd : Nat) (T : List (List Bool)) (w : World) (hd : Nest encB w w.heap.size D T.length T) (hm4 : T.length ≤ maxLen) (hb4 : ∀ r ∈ T, r.length ≤ maxLen) :
    Calls Try.prog 11 #[.slice D T.length cd] w fun e w2 => e = .returned (.bool true) ∧ Below w.heap.size w w2 := by
  have hsz := szBT_any D cd 1048576 T w hd hm4 hb4 (by omega)
  rw [show ((1048576 : Nat) : Int) = 1048576 from rfl] at hsz
  have HB := Lib.hid (And.intro hsz hd)
  clear hsz hd hm4 hb4
  go_enter Try.func11, Try.ntmps11
  go_wp2_with fail
  refine HB.out.1.mono ?_
  rintro e w2 ⟨x, rfl, rfl, hx⟩
  by_cases hx0 : x < 0
  · have e0 : decide (x < 0) = true := decide_eq_true hx0
    clear hx0 hx
    go_wp2_with fail
    go_ret
    exact ⟨rfl, Below.refl _ _⟩
  · have e0 : decide (x < 0) = false := decide_eq_false hx0
    obtain ⟨hl, hs⟩ := hx (by omega)
    have hr : ∀ r ∈ T, r.length ≤ 2000000 := fun r h => by have := sumL_row h; omega
    have HR := Lib.hid hr
    clear hx0 hx hr
    obtain ⟨ok, hok⟩ : ∃ ok, ok = okS T := ⟨_, rfl⟩
    have HOK := Lib.hid hok
    have eb : (ok != ok) = false := by simp
    clear hok
    go_wp2_with fail
    refine (toBT_any _ _ T _ HB.out.2 (by omega) HR.out).mono ?_
    rintro e w2 ⟨v2, vs2, rfl, hb2, ho2⟩
    obtain ⟨A2, c2, hv2, _, hn2⟩ := ho2.nest
    subst hv2
    have K2 := Lib.hid (And.intro hb2 (And.intro (HB.out.2.step hb2) hn2))
    clear hb2 ho2 hn2
    go_wp2_with fail
    refine (sRowsV_any _ _ T _ K2.out.2.2 (by omega)).mono ?_
    rintro e w3 ⟨rfl, rfl⟩
    rw [← HOK.out]
    go_wp2_with fail
    refine (toBT_any _ _ T _ K2.out.2.1 (by omega) HR.out).mono ?_
    rintro e w4 ⟨v4, vs4, rfl, hb4, ho4⟩
    obtain ⟨A4, c4, hv4, _, hn4⟩ := ho4.nest
    subst hv4
    have K4 := Lib.hid (And.intro (below_step K2.out.1 hb4) (And.intro (K2.out.2.1.step hb4) hn4))
    clear hb4 ho4 hn4
    go_wp2_with fail
    refine (iRowsV_any _ _ T _ K4.out.2.2 (by omega) HR.out).mono ?_
    rintro e w5 ⟨rfl, hb5⟩
    rw [← HOK.out]
    have K5 := Lib.hid (And.intro (below_step K4.out.1 hb5) (And.intro (K4.out.2.1.step hb5) (K4.out.2.2.step hb5)))
    clear hb5
    go_wp2_with fail
    refine (toBT_any _ _ T _ K5.out.2.1 (by omega) HR.out).mono ?_
    rintro e w6 ⟨v6, vs6, rfl, hb6, ho6⟩
    obtain ⟨A6, c6, hv6, _, hn6⟩ := ho6.nest
    subst hv6
    have K6 := Lib.hid (And.intro (below_step K5.out.1 hb6) (And.intro (K5.out.2.2.step hb6) hn6))
    clear hb6 ho6 hn6
    go_wp2_with fail
    refine (eqBT_any _ _ _ _ T T _ K6.out.2.1 K6.out.2.2 (by omega) (fun r h => by have := HR.out r h; omega)).mono ?_
    rintro e w7 ⟨rfl, hb7⟩
    have K7 := Lib.hid (below_step K6.out.1 hb7)
    have et : decide (T = T) = true := decide_eq_true rfl
    clear hb7
    go_wp2_with fail
    go_ret
    exact ⟨rfl, K7.out⟩

set_option linter.unusedVariables false
set_option maxRecDepth 100000 in
theorem lifted (os : Os) (started : os.Started) (H : Type) (enc : TypeId × Value → H) :
    ReturnsInHanded {} Try.checked os 11 .any (Rows.fnExactRowsValidSpec.pre6 enc Try.prog Try.f11 Rows.fnExactRowsValidRow.domain false) (Rows.fnExactRowsValidSpec.post enc Try.prog Try.f11 false true false false) := by
  refine returnsInHanded_of_change (C := Try.checked) lawOwn started (by kernel_rfl) Try.func11
    (ChangeSpec.witness6 (enc := enc) (C := Try.checked) false ⟨#[], #[.slice none 0 0], []⟩ 8 (by kernel_rfl) (by kernel_rfl) (by kernel_rfl) (by kernel_rfl)) ?_
  intro W base args ds gs before hval0 hW hcnd _
  have hval : ∀ (j : Nat) t v, Try.f11.params[j]? = some t → args[j]? = some v → Value.okWide Try.prog W .any base t v := hval0
  have hW' := hW
  obtain ⟨p, q, hA0, hV, rfl, hfz, hnd⟩ := hW
  have hA : DataW.TrodAll enc Try.prog W 0 (fun _ => true) true Try.f11.params.toList args.toList ds p := hA0
  rw [Try.params11] at hA hval
  obtain ⟨v0, vs0, d0, ds0, p0, q0, hargs, rfl, rfl, h0, r0⟩ := trodAll_cons hA
  obtain ⟨rfl, rfl, rfl⟩ := trodAll_nil r0
  obtain rfl : args = #[v0] := by cases args; simp_all
  obtain ⟨rfl, rfl⟩ := trodVars_none hV
  have k0 := h0
  have lt0 : ∀ x ∈ p0, x.block < W.heap.size := by obtain ⟨m, hm⟩ := k0; exact DataW.trod_lt m _ _ _ hm
  obtain ⟨a0, len0, cap0, rfl⟩ := okWide_slice Try.underlying23 (hval 0 23 v0 rfl rfl)
  obtain ⟨l0, hl0, hr0, hm0, hb0⟩ : ∃ l : List (List Bool), len0 = l.length ∧ Nest encB W W.heap.size a0 len0 l ∧ len0 ≤ maxLen ∧ ∀ r ∈ l, r.length ≤ maxLen := by
    obtain ⟨fuel, hf⟩ := h0
    exact open_rows Try.underlying23 Try.underlying26 Try.underlying4 (by kernel_rfl) (by kernel_rfl) (by simpa [Value.cells] using hf)
  subst hl0
  clear hA0 hval0
  refine (walk a0 cap0 l0 W hr0 hm0 hb0).mono fun e W' ⟨he, bel⟩ => ?_
  subst he
  exact ⟨_, rfl, _, _, _, [], _, [], hW', trodAll_mk1 (shut_bool Try.underlying4 _), (trodAll_cons_mk (Below.trod lawLaid (by kernel_rfl) (of_decide_eq_true (by kernel_rfl)) k0 bel lt0) trodAll_mk0), rfl, bel.frame _, fun h => by cases h⟩

theorem proved : Rows.FnExactRowsValidSaid :=
  OpenClaim.holds_of_wide 11 Try.f11 rfl rfl rfl rfl rfl rfl rfl ⟨rfl, rfl, rfl, rfl, rfl⟩ rfl rfl rfl rfl rfl (by kernel_rfl) Try.func11 (by kernel_rfl)
    (of_decide_eq_true (by kernel_rfl)) (by unfold Func.isWrapper; rw [if_neg (of_decide_eq_false (by kernel_rfl))]; exact ⟨rfl, rfl⟩)
    (fun os started H enc _ => lifted os started H enc)
#print axioms proved
end Go.Proofs.Ytapmeooffmonmaa.exRowsValid
