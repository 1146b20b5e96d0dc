/-
  For all rows, the first order in which they are serial is answered as the model answers, in memory of its own, and the program leaves the rows as they were. No condition.
-/
import Derived.Test.YtapmeooffmonmaaOb
import Derived.Test.YtapmeooffmonmaaSe8
import Derived.Test.YtapmeooffmonmaaBt
import Derived.Test.YtapmeooffmonmaaInts
import Derived.Test.YtapmeooffmonmaaSe3
import Derived.Test.YtapmeooffmonmaaIsd
namespace Go.Proofs.Ytapmeooffmonmaa.exRowsOrder
open Go.ChangeShapes Go.WideShapes Go.ChangeAt Go.RowKit

set_option maxHeartbeats 8000000 in
set_option maxRecDepth 100000 in
theorem walk (D : Option Addr) (cd : Nat) (T : List (List Bool)) (w : World) (hd : Nest encB w w.heap.size D T.length T) (hm4 : T.length ≤ maxLen) (hb4 : ∀ r ∈ T, r.length ≤ maxLen) :
    Calls Try.prog 13 #[.slice D T.length cd] w fun e w2 => e = .returned (.bool true) ∧ Below w.heap.size w w2 := by
  have hsz := szBT_any D cd 1048576 T w hd hm4 hb4 (by omega)
  rw [show ((1048576 : Nat) : Int) = 1048576 from rfl] at hsz
  have HB := Lib.hid (And.intro hsz hd)
  clear hsz hd hm4 hb4
  go_enter Try.func13, Try.ntmps13
  go_wp2_with fail
  refine HB.out.1.mono ?_
  rintro e w2 ⟨x, rfl, rfl, hx⟩
  by_cases hx0 : x < 0
  · have e0 : decide (x < 0) = true := decide_eq_true hx0
    clear hx0 hx
    go_wp2_with fail
    go_ret
    exact ⟨rfl, Below.refl _ _⟩
  · have e0 : decide (x < 0) = false := decide_eq_false hx0
    obtain ⟨hl, hs⟩ := hx (by omega)
    have hr : ∀ r ∈ T, r.length ≤ 2000000 := fun r h => by have := sumL_row h; omega
    have HR := Lib.hid hr
    clear hx0 hx hr
    obtain ⟨G, hG0⟩ : ∃ G, G = ordSG T := ⟨_, rfl⟩
    have hGl : G.length ≤ 1048576 := by rw [hG0]; exact Nat.le_trans (ordSG_len T) hl
    have q3 := eqLI_self G
    obtain ⟨ok, hok⟩ : ∃ ok, ok = ordSOk T := ⟨_, rfl⟩
    have HG := Lib.hid (And.intro hG0 hok)
    clear hG0 hok
    have eb : (ok != ok) = false := by simp
    have em : decide ((1 : Int) + (sumL T T.length : Int) < 0) = false := by simp; omega
    have en : decide ((1 : Int) + (G.length : Int) < 0) = false := by simp; omega
    go_wp2_with fail
    refine (toBT_any _ _ T _ HB.out.2 (by omega) HR.out).mono ?_
    rintro e w2 ⟨v2, vs2, rfl, hb2, ho2⟩
    obtain ⟨A2, c2, hv2, _, hn2⟩ := ho2.nest
    subst hv2
    have hO := sRowsOrd_any A2 c2 T w2 hn2 (by omega)
    rw [← HG.out.1, ← HG.out.2] at hO
    have HO := Lib.hid hO
    clear hO ho2 hn2
    go_wp2_with fail
    refine HO.out.mono ?_
    rintro e w4 ⟨A4, c4, rfl, hb4, hr4, _⟩
    have k4 := below_step hb2 hb4
    have K4 := Lib.hid (And.intro k4 (And.intro hr4 (HB.out.2.step k4)))
    clear hb2 hb4 hr4 k4
    go_wp2_with fail
    refine (toBT_any _ _ T _ K4.out.2.2 (by omega) HR.out).mono ?_
    rintro e w5 ⟨v5, vs5, rfl, hb5, ho5⟩
    obtain ⟨A5, c5, hv5, _, hn5⟩ := ho5.nest
    subst hv5
    have K5 := Lib.hid (And.intro hb5 (And.intro ho5 hn5))
    clear hb5 ho5 hn5
    go_wp2_with fail
    have hI := iRowsOrd_any A5 c5 T w5 K5.out.2.2 (by omega) HR.out
    rw [← HG.out.1, ← HG.out.2] at hI
    refine hI.mono ?_
    clear hI
    rintro e w7 ⟨v7, rfl, hb7, ho7⟩
    obtain ⟨A7, c7, hv7, _, _⟩ := own_slice ho7
    subst hv7
    have b7 := below_step K5.out.1 hb7
    have K7 := Lib.hid (And.intro b7 (And.intro ho7 hb7))
    clear b7 hb7 ho7
    go_wp2_with fail
    refine (eqIS_any _ _ _ _ G G _ (own_reads K7.out.2.1) (K4.out.2.1.step K7.out.1) (by omega)).mono ?_
    rintro e w8 ⟨rfl, hb8⟩
    have K8 := Lib.hid (And.intro hb8 (below_step K4.out.1 (below_step K7.out.1 hb8)))
    clear hb8
    go_wp2_with fail
    refine (toBT_any _ _ T _ (HB.out.2.step K8.out.2) (by omega) HR.out).mono ?_
    rintro e w9 ⟨v9, vs9, rfl, hb9, ho9⟩
    obtain ⟨A9, c9, hv9, _, hn9⟩ := ho9.nest
    subst hv9
    have K9 := Lib.hid (And.intro hb9 hn9)
    clear hb9 hn9 ho9
    go_wp2_with fail
    refine (eqBT_any _ _ _ _ T T _ (K5.out.2.2.step (below_step K7.out.2.2 (below_step K8.out.1 K9.out.1))) K9.out.2 (by omega) (fun r h => by have := HR.out r h; omega)).mono ?_
    rintro e w10 ⟨rfl, hb10⟩
    have et : decide (T = T) = true := decide_eq_true rfl
    have b710 := below_step K8.out.1 (below_step K9.out.1 hb10)
    have o7 := own_below K7.out.2.1 b710
    have o5 := K5.out.2.1.below (below_step K7.out.2.2 b710)
    have b410 := below_step K7.out.1 b710
    have hs4 := b410.size
    have K10 := Lib.hid (And.intro o7 (And.intro o5 b410))
    clear hb10 b710 o7 o5 b410
    go_wp2_with fail
    refine (markBW_any _ vs5 _ T 1 _ K10.out.2.1 hs4 (by omega) (by omega) (by omega) (by omega)).mono ?_
    rintro e w11 ⟨rfl, hb11, kp11, _⟩
    have o7 := kp11 _ _ _ _ _ _ K10.out.1 (fun g hg u hu => by
      obtain ⟨i, hi⟩ := List.mem_iff_getElem?.1 hu
      exact (K5.out.2.1.fresh K7.out.2.1 (Nat.le_refl _) g hg).2 i u hi)
    have b411 := K10.out.2.2.trans hb11
    have K11 := Lib.hid (And.intro o7 b411)
    clear kp11 o7 b411 hb11
    go_wp2_with fail
    refine (eqIS_any _ _ _ _ G G _ (own_reads K11.out.1) (K4.out.2.1.step K11.out.2) (by omega)).mono ?_
    rintro e w12 ⟨rfl, hb12⟩
    have o7 := own_below K11.out.1 hb12
    have K12 := Lib.hid (And.intro o7 (below_step K11.out.2 hb12))
    clear o7 hb12
    go_wp2_with fail
    refine (markI_any _ _ G _ K12.out.1 (by omega)).mono ?_
    rintro e w13 ⟨rfl, hg13, hoM⟩
    have b413 := below_own K12.out.1 hg13 K12.out.2 K5.out.1.size
    have K13 := Lib.hid (And.intro b413 hoM)
    clear b413 hoM hg13
    go_wp2_with fail
    refine (heldI_any _ _ G.length _ (own_reads K13.out.2) (by omega)).mono ?_
    rintro e w14 ⟨rfl, rfl⟩
    go_wp2_with fail
    refine (toBT_any _ _ T _ (HB.out.2.step (below_step K4.out.1 K13.out.1)) (by omega) HR.out).mono ?_
    rintro e w15 ⟨v15, vs15, rfl, hb15, ho15⟩
    obtain ⟨A15, c15, hv15, _, hn15⟩ := ho15.nest
    subst hv15
    have K15 := Lib.hid (And.intro hb15 hn15)
    clear hb15 hn15 ho15
    go_wp2_with fail
    have hI := iRowsOrd_any A15 c15 T w15 K15.out.2 (by omega) HR.out
    rw [← HG.out.1, ← HG.out.2] at hI
    refine hI.mono ?_
    clear hI
    rintro e w16 ⟨v16, rfl, hb16, ho16⟩
    obtain ⟨A16, c16, hv16, _, hr16⟩ := own_slice ho16
    subst hv16
    have K16 := Lib.hid (And.intro (below_step K15.out.1 hb16) hr16)
    clear hb16 ho16 hr16
    go_wp2_with fail
    refine (eqIS_any _ _ _ _ G G _ K16.out.2 (K4.out.2.1.step (below_step K13.out.1 K16.out.1)) (by omega)).mono ?_
    rintro e w17 ⟨rfl, hb17⟩
    have b17 := below_step K16.out.1 hb17
    have K17 := Lib.hid b17
    clear hb17 b17
    go_wp2_with fail
    refine (heldI_any _ _ G.length _ ((own_reads K13.out.2).step K17.out) (by omega)).mono ?_
    rintro e w18 ⟨rfl, rfl⟩
    go_wp2_with fail
    go_ret
    exact ⟨rfl, below_step K4.out.1 (below_step K13.out.1 K17.out)⟩

set_option linter.unusedVariables false
set_option maxRecDepth 100000 in
theorem lifted (os : Os) (started : os.Started) (H : Type) (enc : TypeId × Value → H) :
    ReturnsInHanded {} Try.checked os 13 .any (Rows.fnExactRowsOrderSpec.pre6 enc Try.prog Try.f13 Rows.fnExactRowsOrderRow.domain false) (Rows.fnExactRowsOrderSpec.post enc Try.prog Try.f13 false true false false) := by
  refine returnsInHanded_of_change (C := Try.checked) lawOwn started (by kernel_rfl) Try.func13
    (ChangeSpec.witness6 (enc := enc) (C := Try.checked) false ⟨#[], #[.slice none 0 0], []⟩ 8 (by kernel_rfl) (by kernel_rfl) (by kernel_rfl) (by kernel_rfl)) ?_
  intro W base args ds gs before hval0 hW hcnd _
  have hval : ∀ (j : Nat) t v, Try.f13.params[j]? = some t → args[j]? = some v → Value.okWide Try.prog W .any base t v := hval0
  have hW' := hW
  obtain ⟨p, q, hA0, hV, rfl, hfz, hnd⟩ := hW
  have hA : DataW.TrodAll enc Try.prog W 0 (fun _ => true) true Try.f13.params.toList args.toList ds p := hA0
  rw [Try.params13] at hA hval
  obtain ⟨v0, vs0, d0, ds0, p0, q0, hargs, rfl, rfl, h0, r0⟩ := trodAll_cons hA
  obtain ⟨rfl, rfl, rfl⟩ := trodAll_nil r0
  obtain rfl : args = #[v0] := by cases args; simp_all
  obtain ⟨rfl, rfl⟩ := trodVars_none hV
  have k0 := h0
  have lt0 : ∀ x ∈ p0, x.block < W.heap.size := by obtain ⟨m, hm⟩ := k0; exact DataW.trod_lt m _ _ _ hm
  obtain ⟨a0, len0, cap0, rfl⟩ := okWide_slice Try.underlying23 (hval 0 23 v0 rfl rfl)
  obtain ⟨l0, hl0, hr0, hm0, hb0⟩ : ∃ l : List (List Bool), len0 = l.length ∧ Nest encB W W.heap.size a0 len0 l ∧ len0 ≤ maxLen ∧ ∀ r ∈ l, r.length ≤ maxLen := by
    obtain ⟨fuel, hf⟩ := h0
    exact open_rows Try.underlying23 Try.underlying26 Try.underlying4 (by kernel_rfl) (by kernel_rfl) (by simpa [Value.cells] using hf)
  subst hl0
  clear hA0 hval0
  refine (walk a0 cap0 l0 W hr0 hm0 hb0).mono fun e W' ⟨he, bel⟩ => ?_
  subst he
  exact ⟨_, rfl, _, _, _, [], _, [], hW', trodAll_mk1 (shut_bool Try.underlying4 _), (trodAll_cons_mk (Below.trod lawLaid (by kernel_rfl) (of_decide_eq_true (by kernel_rfl)) k0 bel lt0) trodAll_mk0), rfl, bel.frame _, fun h => by cases h⟩

theorem proved : Rows.FnExactRowsOrderSaid :=
  OpenClaim.holds_of_wide 13 Try.f13 rfl rfl rfl rfl rfl rfl rfl ⟨rfl, rfl, rfl, rfl, rfl⟩ rfl rfl rfl rfl rfl (by kernel_rfl) Try.func13 (by kernel_rfl)
    (of_decide_eq_true (by kernel_rfl)) (by unfold Func.isWrapper; rw [if_neg (of_decide_eq_false (by kernel_rfl))]; exact ⟨rfl, rfl⟩)
    (fun os started H enc _ => lifted os started H enc)
#print axioms proved
end Go.Proofs.Ytapmeooffmonmaa.exRowsOrder
