/-
  For two rows, how alike they are is answered as the model answers, and the program leaves the rows as they were. No condition.
-/
import Derived.Test.YtapmeooffmonmaaOb
import Derived.Test.YtapmeooffmonmaaSe8
import Derived.Test.YtapmeooffmonmaaBt
import Derived.Test.YtapmeooffmonmaaSe4
import Derived.Test.YtapmeooffmonmaaIsc
namespace Go.Proofs.Ytapmeooffmonmaa.exRowsAlike
open Go.ChangeShapes Go.WideShapes Go.ChangeAt Go.RowKit

set_option maxHeartbeats 8000000 in
set_option maxRecDepth 100000 in
theorem walk (D : Option Addr) (cd : Nat) (l : List Bool) (E : Option Addr) (ce : Nat) (m : List Bool) (w : World) (hd : Reads w w.heap.size 1 D l.length (l.map encB)) (_ : l.length ≤ maxLen) (he : Reads w w.heap.size 1 E m.length (m.map encB)) (_ : m.length ≤ maxLen) :
    Calls Try.prog 14 #[.slice D l.length cd, .slice E m.length ce] w fun e w2 => e = .returned (.bool true) ∧ Below w.heap.size w w2 := by
  have HB := Lib.hid (And.intro hd he)
  clear hd he
  by_cases hl : l.length ≤ 1048576
  · by_cases hm : m.length ≤ 1048576
    · have e1 : decide ((1048576 : Int) < (l.length : Int)) = false := decide_eq_false (by omega)
      have e2 : decide ((1048576 : Int) < (m.length : Int)) = false := decide_eq_false (by omega)
      obtain ⟨ok, hok⟩ : ∃ ok, ok = alikeS l m := ⟨_, rfl⟩
      have HOK := Lib.hid hok
      have eb : (ok != ok) = false := by simp
      clear hok
      go_enter Try.func14, Try.ntmps14
      go_wp2_with fail
      refine (toBS_any _ _ l _ HB.out.1 (by omega)).mono ?_
      rintro e w2 ⟨g2, rfl, hb2, ho2⟩
      have K2 := Lib.hid (And.intro hb2 (And.intro (HB.out.2.step hb2) (own_reads ho2)))
      clear hb2 ho2
      go_wp2_with fail
      refine (toBS_any _ _ m _ K2.out.2.1 (by omega)).mono ?_
      rintro e w3 ⟨g3, rfl, hb3, ho3⟩
      have K3 := Lib.hid (And.intro (below_step K2.out.1 hb3) (And.intro (K2.out.2.2.step hb3) (own_reads ho3)))
      clear hb3 ho3
      go_wp2_with fail
      refine (sAlike_any _ _ _ _ l m _ K3.out.2.1 K3.out.2.2 (by omega) (by omega)).mono ?_
      rintro e w4 ⟨rfl, hb4⟩
      rw [← HOK.out]
      have K4 := Lib.hid (below_step K3.out.1 hb4)
      clear hb4
      go_wp2_with fail
      refine (toBS_any _ _ l _ (HB.out.1.step K4.out) (by omega)).mono ?_
      rintro e w5 ⟨g5, rfl, hb5, ho5⟩
      have K5 := Lib.hid (And.intro (below_step K4.out hb5) (own_reads ho5))
      clear hb5 ho5
      go_wp2_with fail
      refine (toBS_any _ _ m _ (HB.out.2.step K5.out.1) (by omega)).mono ?_
      rintro e w6 ⟨g6, rfl, hb6, ho6⟩
      have K6 := Lib.hid (And.intro (below_step K5.out.1 hb6) (And.intro (K5.out.2.step hb6) (own_reads ho6)))
      clear hb6 ho6
      go_wp2_with fail
      refine (iAlike_any _ _ _ _ l m _ K6.out.2.1 K6.out.2.2 (by omega) (by omega)).mono ?_
      rintro e w7 ⟨rfl, hb7⟩
      rw [← HOK.out]
      have K7 := Lib.hid (And.intro (below_step K6.out.1 hb7) (And.intro (K6.out.2.1.step hb7) (K6.out.2.2.step hb7)))
      clear hb7
      go_wp2_with fail
      refine (toBS_any _ _ l _ (HB.out.1.step K7.out.1) (by omega)).mono ?_
      rintro e w8 ⟨g8, rfl, hb8, ho8⟩
      have K8 := Lib.hid (And.intro (below_step K7.out.1 hb8) (And.intro (K7.out.2.1.step hb8) (And.intro (K7.out.2.2.step hb8) (own_reads ho8))))
      clear hb8 ho8
      go_wp2_with fail
      refine (eqBS_any_to _ _ _ _ l l true _ K8.out.2.1 K8.out.2.2.2 (by omega) (by simp)).mono ?_
      rintro e w9 ⟨rfl, hb9⟩
      have K9 := Lib.hid (And.intro (below_step K8.out.1 hb9) (K8.out.2.2.1.step hb9))
      clear hb9
      go_wp2_with fail
      refine (toBS_any _ _ m _ (HB.out.2.step K9.out.1) (by omega)).mono ?_
      rintro e w10 ⟨g10, rfl, hb10, ho10⟩
      have K10 := Lib.hid (And.intro (below_step K9.out.1 hb10) (And.intro (K9.out.2.step hb10) (own_reads ho10)))
      clear hb10 ho10
      go_wp2_with fail
      refine (eqBS_any_to _ _ _ _ m m true _ K10.out.2.1 K10.out.2.2 (by omega) (by simp)).mono ?_
      rintro e w11 ⟨rfl, hb11⟩
      have K11 := Lib.hid (below_step K10.out.1 hb11)
      clear hb11
      go_wp2_with fail
      go_ret
      exact ⟨rfl, K11.out⟩
    · have e1 : decide ((1048576 : Int) < (l.length : Int)) = false := decide_eq_false (by omega)
      have e2 : decide ((1048576 : Int) < (m.length : Int)) = true := decide_eq_true (by omega)
      go_enter Try.func14, Try.ntmps14
      go_wp2_with fail
      go_ret
      exact ⟨rfl, Below.refl _ _⟩
  · have e1 : decide ((1048576 : Int) < (l.length : Int)) = true := decide_eq_true (by omega)
    go_enter Try.func14, Try.ntmps14
    go_wp2_with fail
    go_ret
    exact ⟨rfl, Below.refl _ _⟩

set_option linter.unusedVariables false
set_option maxRecDepth 100000 in
theorem lifted (os : Os) (started : os.Started) (H : Type) (enc : TypeId × Value → H) :
    ReturnsInHanded {} Try.checked os 14 .any (Rows.fnExactRowsAlikeSpec.pre6 enc Try.prog Try.f14 Rows.fnExactRowsAlikeRow.domain false) (Rows.fnExactRowsAlikeSpec.post enc Try.prog Try.f14 false true false false) := by
  refine returnsInHanded_of_change (C := Try.checked) lawOwn started (by kernel_rfl) Try.func14
    (ChangeSpec.witness6 (enc := enc) (C := Try.checked) false ⟨#[], #[.slice none 0 0, .slice none 0 0], []⟩ 8 (by kernel_rfl) (by kernel_rfl) (by kernel_rfl) (by kernel_rfl)) ?_
  intro W base args ds gs before hval0 hW hcnd _
  have hval : ∀ (j : Nat) t v, Try.f14.params[j]? = some t → args[j]? = some v → Value.okWide Try.prog W .any base t v := hval0
  have hW' := hW
  obtain ⟨p, q, hA0, hV, rfl, hfz, hnd⟩ := hW
  have hA : DataW.TrodAll enc Try.prog W 0 (fun _ => true) true Try.f14.params.toList args.toList ds p := hA0
  rw [Try.params14] at hA hval
  obtain ⟨v0, vs0, d0, ds0, p0, q0, hargs, rfl, rfl, h0, r0⟩ := trodAll_cons hA
  obtain ⟨v1, vs1, d1, ds1, p1, q1, rfl, rfl, rfl, h1, r1⟩ := trodAll_cons r0
  obtain ⟨rfl, rfl, rfl⟩ := trodAll_nil r1
  obtain rfl : args = #[v0, v1] := by cases args; simp_all
  obtain ⟨rfl, rfl⟩ := trodVars_none hV
  have k0 := h0
  have lt0 : ∀ x ∈ p0, x.block < W.heap.size := by obtain ⟨m, hm⟩ := k0; exact DataW.trod_lt m _ _ _ hm
  obtain ⟨a0, len0, cap0, rfl⟩ := okWide_slice Try.underlying26 (hval 0 26 v0 rfl rfl)
  obtain ⟨l0, hl0, hr0, hm0⟩ : ∃ l : List Bool, len0 = l.length ∧ Reads W W.heap.size 1 a0 len0 (l.map encB) ∧ len0 ≤ maxLen := by
    obtain ⟨fuel, hf⟩ := h0
    exact open_row Try.underlying26 Try.underlying4 (by kernel_rfl) (by simpa [Value.cells] using hf)
  subst hl0
  have k1 := h1
  have lt1 : ∀ x ∈ p1, x.block < W.heap.size := by obtain ⟨m, hm⟩ := k1; exact DataW.trod_lt m _ _ _ hm
  obtain ⟨a1, len1, cap1, rfl⟩ := okWide_slice Try.underlying26 (hval 1 26 v1 rfl rfl)
  obtain ⟨l1, hl1, hr1, hm1⟩ : ∃ l : List Bool, len1 = l.length ∧ Reads W W.heap.size 1 a1 len1 (l.map encB) ∧ len1 ≤ maxLen := by
    obtain ⟨fuel, hf⟩ := h1
    exact open_row Try.underlying26 Try.underlying4 (by kernel_rfl) (by simpa [Value.cells] using hf)
  subst hl1
  clear hA0 hval0
  refine (walk a0 cap0 l0 a1 cap1 l1 W hr0 hm0 hr1 hm1).mono fun e W' ⟨he, bel⟩ => ?_
  subst he
  exact ⟨_, rfl, _, _, _, [], _, [], hW', trodAll_mk1 (shut_bool Try.underlying4 _), (trodAll_cons_mk (Below.trod lawLaid (by kernel_rfl) (of_decide_eq_true (by kernel_rfl)) k0 bel lt0) (trodAll_cons_mk (Below.trod lawLaid (by kernel_rfl) (of_decide_eq_true (by kernel_rfl)) k1 bel lt1) trodAll_mk0)), rfl, bel.frame _, fun h => by cases h⟩

theorem proved : Rows.FnExactRowsAlikeSaid :=
  OpenClaim.holds_of_wide 14 Try.f14 rfl rfl rfl rfl rfl rfl rfl ⟨rfl, rfl, rfl, rfl, rfl⟩ rfl rfl rfl rfl rfl (by kernel_rfl) Try.func14 (by kernel_rfl)
    (of_decide_eq_true (by kernel_rfl)) (by unfold Func.isWrapper; rw [if_neg (of_decide_eq_false (by kernel_rfl))]; exact ⟨rfl, rfl⟩)
    (fun os started H enc _ => lifted os started H enc)
#print axioms proved
end Go.Proofs.Ytapmeooffmonmaa.exRowsAlike
