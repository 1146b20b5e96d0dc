/-
  For all rows and orders, the rows taken in an order are answered as the model answers, in memory of their own, and the program leaves its arguments as they were. No condition.
-/
import Derived.Test.YtapmeooffmonmaaOb
import Derived.Test.YtapmeooffmonmaaSe8
import Derived.Test.YtapmeooffmonmaaBt
import Derived.Test.YtapmeooffmonmaaInts
import Derived.Test.YtapmeooffmonmaaMi
import Derived.Test.YtapmeooffmonmaaSe4
import Derived.Test.YtapmeooffmonmaaSe9
import Derived.Test.YtapmeooffmonmaaIse
namespace Go.Proofs.Ytapmeooffmonmaa.exRowsTake
open Go.ChangeShapes Go.WideShapes Go.ChangeAt Go.RowKit

set_option maxHeartbeats 8000000 in
set_option maxRecDepth 100000 in
theorem walk (D : Option Addr) (cd : Nat) (T : List (List Bool)) (E : Option Addr) (ce : Nat) (o : List Int) (w : World) (hd : Nest encB w w.heap.size D T.length T) (hm4 : T.length ≤ maxLen) (hb4 : ∀ r ∈ T, r.length ≤ maxLen) (he : Reads w w.heap.size 1 E o.length (cellsI o)) (_ : o.length ≤ maxLen) :
    Calls Try.prog 15 #[.slice D T.length cd, .slice E o.length ce] w fun e w2 => e = .returned (.bool true) ∧ Below w.heap.size w w2 := by
  have hsz := szBT_any D cd 1048576 T w hd hm4 hb4 (by omega)
  rw [show ((1048576 : Nat) : Int) = 1048576 from rfl] at hsz
  have HB := Lib.hid (And.intro hsz (And.intro hd he))
  clear hsz hd hm4 hb4 he
  by_cases hol : o.length ≤ 1048576
  · have e1 : decide ((1048576 : Int) < (o.length : Int)) = false := decide_eq_false (by omega)
    go_enter Try.func15, Try.ntmps15
    go_wp2_with fail
    refine HB.out.1.mono ?_
    rintro e w2 ⟨x, rfl, rfl, hx⟩
    by_cases hx0 : x < 0
    · have e0 : decide (x < 0) = true := decide_eq_true hx0
      clear hx0 hx
      go_wp2_with fail
      go_ret
      exact ⟨rfl, Below.refl _ _⟩
    · have e0 : decide (x < 0) = false := decide_eq_false hx0
      obtain ⟨hl, hs⟩ := hx (by omega)
      have hr : ∀ r ∈ T, r.length ≤ 2000000 := fun r h => by have := sumL_row h; omega
      have HR := Lib.hid hr
      clear hx0 hx hr
      obtain ⟨G, hG0⟩ : ∃ G, G = takeG T o := ⟨_, rfl⟩
      obtain ⟨ok, hok⟩ : ∃ ok, ok = takeOk T o := ⟨_, rfl⟩
      have hG5 : G.length ≤ 5 ∧ ∀ r ∈ G, r.length = 5 := by rw [hG0]; exact takeG_small T o
      have hGl := hG5.1
      have hGs : sumL G G.length ≤ 5000 := Nat.le_trans (sumL_le (fun r h => by have := hG5.2 r h; omega) G.length) (by omega)
      have hGr : ∀ r ∈ G, r.length ≤ 1000000000 := fun r h => by have := hG5.2 r h; omega
      have HG := Lib.hid (And.intro hG0 (And.intro hok hGr))
      clear hG0 hok hG5 hGr
      have eb : (ok != ok) = false := by simp
      have et : decide (T = T) = true := decide_eq_true rfl
      have eg : decide (G = G) = true := decide_eq_true rfl
      have q1 := eqLI_self o
      have em : decide ((1 : Int) + (sumL T T.length : Int) + (o.length : Int) < 0) = false := by simp; omega
      have en : decide ((1 : Int) + (sumL G G.length : Int) < 0) = false := by simp; omega
      go_wp2_with fail
      refine (toBT_any _ _ T _ HB.out.2.1 (by omega) HR.out).mono ?_
      rintro e w2 ⟨v2, vs2, rfl, hb2, ho2⟩
      obtain ⟨A2, c2, hv2, _, hn2⟩ := ho2.nest
      subst hv2
      have K2 := Lib.hid (And.intro hb2 hn2)
      clear hb2 hn2 ho2
      go_wp2_with fail
      refine (toIS_any _ _ o _ (HB.out.2.2.step K2.out.1) (by omega)).mono ?_
      rintro e w3 ⟨g3, rfl, hb3, ho3⟩
      have hO := sRowsTake_any A2 (some ⟨g3, 0, none⟩) c2 o.length T o w3 (K2.out.2.step hb3) (own_reads ho3) (by omega) (by omega)
      rw [← HG.out.1, ← HG.out.2.1] at hO
      have K3 := Lib.hid (And.intro (below_step K2.out.1 hb3) hO)
      clear hb3 ho3 hO
      go_wp2_with fail
      refine K3.out.2.mono ?_
      rintro e w4 ⟨v4, vs4, rfl, hb4, ho4⟩
      obtain ⟨A4, c4, hv4, _, hn4⟩ := ho4.nest
      subst hv4
      have k4 := below_step K3.out.1 hb4
      have K4 := Lib.hid (And.intro k4 (And.intro hn4 (And.intro (HB.out.2.1.step k4) (HB.out.2.2.step k4))))
      clear hb4 ho4 hn4 k4
      go_wp2_with fail
      refine (toBT_any _ _ T _ K4.out.2.2.1 (by omega) HR.out).mono ?_
      rintro e w5 ⟨v5, vs5, rfl, hb5, ho5⟩
      obtain ⟨A5, c5, hv5, _, hn5⟩ := ho5.nest
      subst hv5
      have K5 := Lib.hid (And.intro hb5 (And.intro ho5 hn5))
      clear hb5 ho5 hn5
      go_wp2_with fail
      refine (toIS_any _ _ o _ (K4.out.2.2.2.step K5.out.1) (by omega)).mono ?_
      rintro e w6 ⟨g6, rfl, hb6, ho6⟩
      have hI := iRowsTake_any A5 (some ⟨g6, 0, none⟩) c5 o.length T o w6 (K5.out.2.2.step hb6) (own_reads ho6) (by omega) HR.out (by omega)
      rw [← HG.out.1, ← HG.out.2.1] at hI
      have K6 := Lib.hid (And.intro hb6 (And.intro ho6 hI))
      clear hb6 ho6 hI
      go_wp2_with fail
      refine K6.out.2.2.mono ?_
      rintro e w7 ⟨v7, vs7, rfl, hb7, ho7⟩
      obtain ⟨A7, c7, hv7, _, hn7⟩ := ho7.nest
      subst hv7
      have b7 := below_step K5.out.1 (below_step K6.out.1 hb7)
      have K7 := Lib.hid (And.intro b7 (And.intro ho7 (And.intro hn7 hb7)))
      clear b7 hb7 ho7 hn7
      go_wp2_with fail
      refine (eqBT_any _ _ _ _ G G _ K7.out.2.2.1 (K4.out.2.1.step K7.out.1) (by omega) HG.out.2.2).mono ?_
      rintro e w8 ⟨rfl, hb8⟩
      have K8 := Lib.hid (And.intro hb8 (below_step K4.out.1 (below_step K7.out.1 hb8)))
      clear hb8
      go_wp2_with fail
      refine (toBT_any _ _ T _ (HB.out.2.1.step K8.out.2) (by omega) HR.out).mono ?_
      rintro e w9 ⟨v9, vs9, rfl, hb9, ho9⟩
      obtain ⟨A9, c9, hv9, _, hn9⟩ := ho9.nest
      subst hv9
      have K9 := Lib.hid (And.intro hb9 hn9)
      clear hb9 hn9 ho9
      go_wp2_with fail
      refine (eqBT_any _ _ _ _ T T _ (K5.out.2.2.step (below_step K6.out.1 (below_step K7.out.2.2.2 (below_step K8.out.1 K9.out.1)))) K9.out.2 (by omega) (fun r h => by have := HR.out r h; omega)).mono ?_
      rintro e w10 ⟨rfl, hb10⟩
      have b710 := below_step K8.out.1 (below_step K9.out.1 hb10)
      have K10 := Lib.hid (And.intro b710 (below_step K4.out.1 (below_step K7.out.1 b710)))
      clear hb10 b710
      go_wp2_with fail
      refine (toIS_any _ _ o _ (HB.out.2.2.step K10.out.2) (by omega)).mono ?_
      rintro e w11 ⟨g11, rfl, hb11, ho11⟩
      have K11 := Lib.hid (And.intro (below_step K10.out.1 hb11) (own_reads ho11))
      clear hb11 ho11
      go_wp2_with fail
      refine (eqIS_any _ _ _ _ o o _ ((own_reads K6.out.2.1).step (below_step K7.out.2.2.2 K11.out.1)) K11.out.2 (by omega)).mono ?_
      rintro e w12 ⟨rfl, hb12⟩
      have b712 := below_step K11.out.1 hb12
      have b612 := below_step K7.out.2.2.2 b712
      have o5 := K5.out.2.1.below (below_step K6.out.1 b612)
      have o6 := own_below K6.out.2.1 b612
      have o7 := K7.out.2.1.below b712
      have b412 := below_step K7.out.1 b712
      have hs4 := b412.size
      have hs6 := b612.size
      have K12 := Lib.hid (And.intro o5 (And.intro o6 (And.intro o7 b412)))
      clear hb12 b712 b612 o5 o6 o7 b412
      go_wp2_with fail
      refine (markBW_any _ vs5 _ T 1 _ K12.out.1 hs4 (by omega) (by omega) (by omega) (by omega)).mono ?_
      rintro e w13 ⟨rfl, hb13, kp13, _⟩
      have hs13 := hb13.size
      have o6 := kp13 _ _ _ _ _ _ K12.out.2.1 (fun g hg => K5.out.2.1.old g (K6.out.2.1.lt g hg).1)
      have o7 := K12.out.2.2.1.kept kp13 (fun g hg => K5.out.2.1.old g (Nat.le_trans K6.out.1.size hg))
      have K13 := Lib.hid (And.intro o6 (And.intro o7 (K12.out.2.2.2.trans hb13)))
      clear kp13 o6 o7 hb13
      go_wp2_with fail
      refine (markIAt_any _ _ o _ _ K13.out.1 (by omega) (by omega) (by omega)).mono ?_
      rintro e w14 ⟨rfl, hg14⟩
      have hs14 := hg14.size
      have o7 := K13.out.2.1.other K13.out.1 (fun g hg e => by have := (K6.out.2.1.lt g e).2; omega) hg14
      have b414 := below_own K13.out.1 hg14 K13.out.2.2 K5.out.1.size
      obtain ⟨A14, c14, hv14, _, hn14⟩ := o7.nest
      injection hv14 with f1 f2 f3
      subst f1
      clear f2 f3
      have K14 := Lib.hid (And.intro o7 (And.intro hn14 b414))
      clear hg14 o7 b414 hn14
      go_wp2_with fail
      refine (eqBT_any _ _ _ _ G G _ K14.out.2.1 (K4.out.2.1.step K14.out.2.2) (by omega) HG.out.2.2).mono ?_
      rintro e w15 ⟨rfl, hb15⟩
      have o7 := K14.out.1.below hb15
      have b415 := below_step K14.out.2.2 hb15
      have hs15 := hb15.size
      have hs5 : w6.heap.size ≤ w15.heap.size := by omega
      have K15 := Lib.hid (And.intro o7 b415)
      clear hb15 o7 b415
      go_wp2_with fail
      refine (markBW_any _ vs7 _ G 1 _ K15.out.1 hs5 (by omega) (by omega) (by omega) (by omega)).mono ?_
      rintro e w16 ⟨rfl, hb16, _, oM⟩
      have b416 := K15.out.2.trans (hb16.mono (Nat.le_trans K5.out.1.size K6.out.1.size))
      obtain ⟨A16, c16, hv16, _, hn16⟩ := oM.nest
      injection hv16 with f1 f2 f3
      subst f1
      clear f2 f3
      rw [mkTab_len] at hn16
      have K16 := Lib.hid (And.intro b416 hn16)
      clear hb16 oM b416 hn16
      go_wp2_with fail
      refine (heldBW_any _ _ G 1 _ K16.out.2 (by omega) (by omega) (by omega) (by omega)).mono ?_
      rintro e w17 ⟨rfl, rfl⟩
      go_wp2_with fail
      refine (toBT_any _ _ T _ (HB.out.2.1.step (below_step K4.out.1 K16.out.1)) (by omega) HR.out).mono ?_
      rintro e w18 ⟨v18, vs18, rfl, hb18, ho18⟩
      obtain ⟨A18, c18, hv18, _, hn18⟩ := ho18.nest
      subst hv18
      have K18 := Lib.hid (And.intro hb18 hn18)
      clear hb18 hn18 ho18
      go_wp2_with fail
      refine (toIS_any _ _ o _ (HB.out.2.2.step (below_step K4.out.1 (below_step K16.out.1 K18.out.1))) (by omega)).mono ?_
      rintro e w19 ⟨g19, rfl, hb19, ho19⟩
      have hI := iRowsTake_any A18 (some ⟨g19, 0, none⟩) c18 o.length T o w19 (K18.out.2.step hb19) (own_reads ho19) (by omega) HR.out (by omega)
      rw [← HG.out.1, ← HG.out.2.1] at hI
      have K19 := Lib.hid (And.intro (below_step K18.out.1 hb19) hI)
      clear hb19 ho19 hI
      go_wp2_with fail
      refine K19.out.2.mono ?_
      rintro e w20 ⟨v20, vs20, rfl, hb20, ho20⟩
      obtain ⟨A20, c20, hv20, _, hn20⟩ := ho20.nest
      subst hv20
      have K20 := Lib.hid (And.intro (below_step K19.out.1 hb20) hn20)
      clear hb20 hn20 ho20
      go_wp2_with fail
      refine (eqBT_any _ _ _ _ G G _ K20.out.2 (K4.out.2.1.step (below_step K16.out.1 K20.out.1)) (by omega) HG.out.2.2).mono ?_
      rintro e w21 ⟨rfl, hb21⟩
      have K21 := Lib.hid (below_step K20.out.1 hb21)
      clear hb21
      go_wp2_with fail
      refine (heldBW_any _ _ G 1 _ (K16.out.2.step K21.out) (by omega) (by omega) (by omega) (by omega)).mono ?_
      rintro e w22 ⟨rfl, rfl⟩
      go_wp2_with fail
      go_ret
      exact ⟨rfl, below_step K4.out.1 (below_step K16.out.1 K21.out)⟩
  · have e1 : decide ((1048576 : Int) < (o.length : Int)) = true := decide_eq_true (by omega)
    go_enter Try.func15, Try.ntmps15
    go_wp2_with fail
    go_ret
    exact ⟨rfl, Below.refl _ _⟩

set_option linter.unusedVariables false
set_option maxRecDepth 100000 in
theorem lifted (os : Os) (started : os.Started) (H : Type) (enc : TypeId × Value → H) :
    ReturnsInHanded {} Try.checked os 15 .any (Rows.fnExactRowsTakeSpec.pre6 enc Try.prog Try.f15 Rows.fnExactRowsTakeRow.domain false) (Rows.fnExactRowsTakeSpec.post enc Try.prog Try.f15 false true false false) := by
  refine returnsInHanded_of_change (C := Try.checked) lawOwn started (by kernel_rfl) Try.func15
    (ChangeSpec.witness6 (enc := enc) (C := Try.checked) false ⟨#[], #[.slice none 0 0, .slice none 0 0], []⟩ 8 (by kernel_rfl) (by kernel_rfl) (by kernel_rfl) (by kernel_rfl)) ?_
  intro W base args ds gs before hval0 hW hcnd _
  have hval : ∀ (j : Nat) t v, Try.f15.params[j]? = some t → args[j]? = some v → Value.okWide Try.prog W .any base t v := hval0
  have hW' := hW
  obtain ⟨p, q, hA0, hV, rfl, hfz, hnd⟩ := hW
  have hA : DataW.TrodAll enc Try.prog W 0 (fun _ => true) true Try.f15.params.toList args.toList ds p := hA0
  rw [Try.params15] at hA hval
  obtain ⟨v0, vs0, d0, ds0, p0, q0, hargs, rfl, rfl, h0, r0⟩ := trodAll_cons hA
  obtain ⟨v1, vs1, d1, ds1, p1, q1, rfl, rfl, rfl, h1, r1⟩ := trodAll_cons r0
  obtain ⟨rfl, rfl, rfl⟩ := trodAll_nil r1
  obtain rfl : args = #[v0, v1] := by cases args; simp_all
  obtain ⟨rfl, rfl⟩ := trodVars_none hV
  have k0 := h0
  have lt0 : ∀ x ∈ p0, x.block < W.heap.size := by obtain ⟨m, hm⟩ := k0; exact DataW.trod_lt m _ _ _ hm
  obtain ⟨a0, len0, cap0, rfl⟩ := okWide_slice Try.underlying23 (hval 0 23 v0 rfl rfl)
  obtain ⟨l0, hl0, hr0, hm0, hb0⟩ : ∃ l : List (List Bool), len0 = l.length ∧ Nest encB W W.heap.size a0 len0 l ∧ len0 ≤ maxLen ∧ ∀ r ∈ l, r.length ≤ maxLen := by
    obtain ⟨fuel, hf⟩ := h0
    exact open_rows Try.underlying23 Try.underlying26 Try.underlying4 (by kernel_rfl) (by kernel_rfl) (by simpa [Value.cells] using hf)
  subst hl0
  have k1 := h1
  have lt1 : ∀ x ∈ p1, x.block < W.heap.size := by obtain ⟨m, hm⟩ := k1; exact DataW.trod_lt m _ _ _ hm
  obtain ⟨a1, len1, cap1, rfl⟩ := okWide_slice Try.underlying28 (hval 1 28 v1 rfl rfl)
  obtain ⟨l1, hl1, hr1, hm1⟩ : ∃ l : List Int, len1 = l.length ∧ Reads W W.heap.size 1 a1 len1 (cellsI l) ∧ len1 ≤ maxLen := by
    obtain ⟨fuel, hf⟩ := h1
    exact open_ints Try.underlying28 Try.underlying3 (by kernel_rfl) (by simpa [Value.cells] using hf)
  subst hl1
  clear hA0 hval0
  refine (walk a0 cap0 l0 a1 cap1 l1 W hr0 hm0 hb0 hr1 hm1).mono fun e W' ⟨he, bel⟩ => ?_
  subst he
  exact ⟨_, rfl, _, _, _, [], _, [], hW', trodAll_mk1 (shut_bool Try.underlying4 _), (trodAll_cons_mk (Below.trod lawLaid (by kernel_rfl) (of_decide_eq_true (by kernel_rfl)) k0 bel lt0) (trodAll_cons_mk (Below.trod lawLaid (by kernel_rfl) (of_decide_eq_true (by kernel_rfl)) k1 bel lt1) trodAll_mk0)), rfl, bel.frame _, fun h => by cases h⟩

theorem proved : Rows.FnExactRowsTakeSaid :=
  OpenClaim.holds_of_wide 15 Try.f15 rfl rfl rfl rfl rfl rfl rfl ⟨rfl, rfl, rfl, rfl, rfl⟩ rfl rfl rfl rfl rfl (by kernel_rfl) Try.func15 (by kernel_rfl)
    (of_decide_eq_true (by kernel_rfl)) (by unfold Func.isWrapper; rw [if_neg (of_decide_eq_false (by kernel_rfl))]; exact ⟨rfl, rfl⟩)
    (fun os started H enc _ => lifted os started H enc)
#print axioms proved
end Go.Proofs.Ytapmeooffmonmaa.exRowsTake
