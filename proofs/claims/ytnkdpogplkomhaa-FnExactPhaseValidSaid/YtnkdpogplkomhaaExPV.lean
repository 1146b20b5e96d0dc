/-
  For all numbers, relations and weights, PhaseValid answers as the model answers, and the program leaves its arguments as they were. No condition.
-/
import Derived.Test.YtnkdpogplkomhaaEnt
import Derived.Test.YtnkdpogplkomhaaLif
import Derived.Test.YtnkdpogplkomhaaMak
import Derived.Test.YtnkdpogplkomhaaOi
import Derived.Test.YtnkdpogplkomhaaInts
import Derived.Test.YtnkdpogplkomhaaMk
import Derived.Test.YtnkdpogplkomhaaSi8
import Derived.Test.YtnkdpogplkomhaaBti
import Derived.Test.YtnkdpogplkomhaaPv
import Derived.Test.YtnkdpogplkomhaaIpm
namespace Go.Proofs.Ytnkdpogplkomhaa.exPhaseValid
open Go.ChangeShapes Go.WideShapes Go.ChangeAt Go.RowKit

set_option maxHeartbeats 8000000 in
set_option maxRecDepth 100000 in
theorem walk (A : Option Addr) (ca : Nat) (ids : List Int) (B : Option Addr) (cb : Nat) (l : List Ctx) (D : Option Addr) (cd : Nat) (T : List (List Int)) (w : World) (ha : Reads w w.heap.size 1 A ids.length (cellsI ids)) (_ : ids.length ≤ maxLen) (hb : Reads w w.heap.size 3 B l.length (cellsC l)) (hm2 : l.length ≤ maxLen)
    (hd : Nest (Value.int .i64) w w.heap.size D T.length T) (hm4 : T.length ≤ maxLen) (hb4 : ∀ r ∈ T, r.length ≤ maxLen) :
    Calls Try.prog 9 #[.slice A ids.length ca, .slice B l.length cb, .slice D T.length cd] w fun e w2 => e = .returned (.bool true) ∧ Below w.heap.size w w2 := by
  by_cases hn : ids.length ≤ 1048576
  · have e0 : decide ((1048576 : Int) < (ids.length : Int)) = false := by simp; omega
    by_cases hn2 : l.length ≤ 1048576
    · have e1 : decide ((1048576 : Int) - (l.length : Int) < 0) = false := by simp; omega
      have hsz := szIT_any D cd (1048576 - l.length) T w hd hm4 hb4 (by omega)
      rw [show ((1048576 - l.length : Nat) : Int) = 1048576 - (l.length : Int) by omega] at hsz
      have HB := Lib.hid (And.intro hsz hd)
      clear hsz hd hm4 hb4
      have q1 := eqLI_self ids
      have q2 := eqLC_self l
      go_enter Try.func9, Try.ntmps9
      go_wp2_with (go_at_call 29; go_must (refine (szRel_any _ _ _ _ hn2).mono ?_); rintro e w2 ⟨rfl, rfl⟩)
      refine HB.out.1.mono ?_
      rintro e w2 ⟨x, rfl, rfl, hx⟩
      by_cases hx0 : x < 0
      · have e2 : decide (x < 0) = true := decide_eq_true hx0
        clear hx0 hx
        go_wp2_with fail
        go_ret
        exact ⟨rfl, Below.refl _ _⟩
      · have e2 : decide (x < 0) = false := decide_eq_false hx0
        obtain ⟨hl, hs⟩ := hx (by omega)
        have hr : ∀ r ∈ T, r.length ≤ 2000000 := fun r h => by have := sumLI_row h; omega
        have HR := Lib.hid hr
        clear hx0 hx hr
        obtain ⟨ok, hok⟩ : ∃ ok, ok = phOk ids l T := ⟨_, rfl⟩
        have HOK := Lib.hid hok
        have eb : (ok != ok) = false := by simp
        clear hok
        go_wp2_with fail
        refine (toIS_any _ _ ids _ ha (by omega)).mono ?_
        rintro e w2 ⟨g2, rfl, hb2, ho2⟩
        have k2 := hb2
        go_wp2_with fail
        refine (toSRel_any _ _ l _ (hb.step k2) (by omega)).mono ?_
        rintro e w3 ⟨g3, rfl, hb3, ho3⟩
        have k3 := below_step k2 hb3
        go_wp2_with fail
        refine (toIT_any _ _ T _ (HB.out.2.step k3) (by omega) HR.out).mono ?_
        rintro e w4 ⟨v4, vs4, rfl, hb4, ho4⟩
        obtain ⟨A4, c4, hv4, _, hn4⟩ := ho4.nest
        subst hv4
        have k4 := below_step k3 hb4
        go_wp2_with fail
        refine (sPhValid_any _ _ _ _ _ _ ids l T _ ((own_reads ho2).step (below_step hb3 hb4)) ((own_reads ho3).step hb4) hn4 (by omega) (by omega) (by omega) (fun r h => by have := HR.out r h; omega)).mono ?_
        rintro e w6 ⟨rfl, hb6⟩
        have k6 := below_step k4 hb6
        rw [← HOK.out]
        clear ho2 ho3 ho4 hn4 hb2 hb3 hb4 hb6 k2 k3 k4
        go_wp2_with fail
        refine (toIS_any _ _ ids _ (ha.step k6) (by omega)).mono ?_
        rintro e w7 ⟨g7, rfl, hb7, ho7⟩
        have k7 := below_step k6 hb7
        go_wp2_with fail
        refine (toSRel_any _ _ l _ (hb.step k7) (by omega)).mono ?_
        rintro e w8 ⟨g8, rfl, hb8, ho8⟩
        have k8 := below_step k7 hb8
        go_wp2_with fail
        refine (toIT_any _ _ T _ (HB.out.2.step k8) (by omega) HR.out).mono ?_
        rintro e w9 ⟨v9, vs9, rfl, hb9, ho9⟩
        obtain ⟨A9, c9, hv9, _, hn9⟩ := ho9.nest
        subst hv9
        have k9 := below_step k8 hb9
        go_wp2_with fail
        refine (iPhValid_any _ _ _ _ _ _ ids l T _ ((own_reads ho7).step (below_step hb8 hb9)) ((own_reads ho8).step hb9) hn9 (by omega) (by omega) (by omega) (fun r h => by have := HR.out r h; omega)).mono ?_
        rintro e w11 ⟨rfl, hb11⟩
        have k11 := below_step k9 hb11
        rw [← HOK.out]
        go_wp2_with fail
        refine (toIS_any _ _ ids _ (ha.step k11) (by omega)).mono ?_
        rintro e w12 ⟨g12, rfl, hb12, ho12⟩
        have k12 := below_step k11 hb12
        go_wp2_with fail
        refine (eqIS_any _ _ _ _ ids ids _ ((own_reads ho7).step (below_step (below_step (below_step hb8 hb9) hb11) hb12)) (own_reads ho12) (by omega)).mono ?_
        rintro e w13 ⟨rfl, hb13⟩
        have k13 := below_step k12 hb13
        go_wp2_with fail
        refine (toSRel_any _ _ l _ (hb.step k13) (by omega)).mono ?_
        rintro e w14 ⟨g14, rfl, hb14, ho14⟩
        have k14 := below_step k13 hb14
        go_wp2_with fail
        refine (eqSRel_any _ _ _ _ l l _ ((own_reads ho8).step (below_step (below_step (below_step (below_step hb9 hb11) hb12) hb13) hb14)) (own_reads ho14) (by omega)).mono ?_
        rintro e w15 ⟨rfl, hb15⟩
        have k15 := below_step k14 hb15
        go_wp2_with fail
        refine (toIT_any _ _ T _ (HB.out.2.step k15) (by omega) HR.out).mono ?_
        rintro e w16 ⟨v16, vs16, rfl, hb16, ho16⟩
        obtain ⟨A16, c16, hv16, _, hn16⟩ := ho16.nest
        subst hv16
        have k16 := below_step k15 hb16
        go_wp2_with fail
        refine (eqIT_any _ _ _ _ T T _ (hn9.step (below_step (below_step (below_step (below_step (below_step hb11 hb12) hb13) hb14) hb15) hb16)) hn16 (by omega) (fun r h => by have := HR.out r h; omega)).mono ?_
        rintro e w17 ⟨rfl, hb17⟩
        have k17 := below_step k16 hb17
        have et : decide (T = T) = true := decide_eq_true rfl
        go_wp2_with fail
        go_ret
        exact ⟨rfl, k17⟩
    · go_enter Try.func9, Try.ntmps9
      go_wp2_with (go_at_call 29; go_must (refine (szRel_big _ _ _ _ (by omega) hm2).mono ?_); rintro e w2 ⟨rfl, rfl⟩)
      go_ret
      exact ⟨rfl, Below.refl _ _⟩
  · have e0 : decide ((1048576 : Int) < (ids.length : Int)) = true := by simp; omega
    go_enter Try.func9, Try.ntmps9
    go_wp2_with fail
    go_ret
    exact ⟨rfl, Below.refl _ _⟩

set_option linter.unusedVariables false
set_option maxRecDepth 100000 in
theorem lifted (os : Os) (started : os.Started) (H : Type) (enc : TypeId × Value → H) :
    ReturnsInHanded {} Try.checked os 9 .any (Rows.fnExactPhaseValidSpec.pre6 enc Try.prog Try.f9 Rows.fnExactPhaseValidRow.domain false) (Rows.fnExactPhaseValidSpec.post enc Try.prog Try.f9 false true false false) := by
  refine returnsInHanded_of_change (C := Try.checked) lawOwn started (by kernel_rfl) Try.func9
    (ChangeSpec.witness6 (enc := enc) (C := Try.checked) false ⟨#[], #[.slice none 0 0, .slice none 0 0, .slice none 0 0], []⟩ 8 (by kernel_rfl) (by kernel_rfl) (by kernel_rfl) (by kernel_rfl)) ?_
  intro W base args ds gs before hval0 hW hcnd _
  have hval : ∀ (j : Nat) t v, Try.f9.params[j]? = some t → args[j]? = some v → Value.okWide Try.prog W .any base t v := hval0
  have hW' := hW
  obtain ⟨p, q, hA0, hV, rfl, hfz, hnd⟩ := hW
  have hA : DataW.TrodAll enc Try.prog W 0 (fun _ => true) true Try.f9.params.toList args.toList ds p := hA0
  rw [Try.params9] at hA hval
  obtain ⟨v0, vs0, d0, ds0, p0, q0, hargs, rfl, rfl, h0, r0⟩ := trodAll_cons hA
  obtain ⟨v1, vs1, d1, ds1, p1, q1, rfl, rfl, rfl, h1, r1⟩ := trodAll_cons r0
  obtain ⟨v2, vs2, d2, ds2, p2, q2, rfl, rfl, rfl, h2, r2⟩ := trodAll_cons r1
  obtain ⟨rfl, rfl, rfl⟩ := trodAll_nil r2
  obtain rfl : args = #[v0, v1, v2] := by cases args; simp_all
  obtain ⟨rfl, rfl⟩ := trodVars_none hV
  have k0 := h0
  have lt0 : ∀ x ∈ p0, x.block < W.heap.size := by obtain ⟨m, hm⟩ := k0; exact DataW.trod_lt m _ _ _ hm
  obtain ⟨a0, len0, cap0, rfl⟩ := okWide_slice Try.underlying23 (hval 0 23 v0 rfl rfl)
  obtain ⟨l0, hl0, hr0, hm0⟩ : ∃ l : List Int, len0 = l.length ∧ Reads W W.heap.size 1 a0 len0 (cellsI l) ∧ len0 ≤ maxLen := by
    obtain ⟨fuel, hf⟩ := h0
    exact open_ints Try.underlying23 Try.underlying3 (by kernel_rfl) (by simpa [Value.cells] using hf)
  subst hl0
  have k1 := h1
  have lt1 : ∀ x ∈ p1, x.block < W.heap.size := by obtain ⟨m, hm⟩ := k1; exact DataW.trod_lt m _ _ _ hm
  obtain ⟨a1, len1, cap1, rfl⟩ := okWide_slice Try.underlying53 (hval 1 53 v1 rfl rfl)
  obtain ⟨l1, hl1, hr1, hm1⟩ : ∃ l : List Ctx, len1 = l.length ∧ Reads W W.heap.size 3 a1 len1 (cellsC l) ∧ len1 ≤ maxLen := by
    obtain ⟨fuel, hf⟩ := h1
    exact open_ctxs Try.underlying53 Try.underlying113 (by kernel_rfl) (by kernel_rfl) rfl rfl rfl Try.underlying3 (by simpa [Value.cells] using hf)
  subst hl1
  have k2 := h2
  have lt2 : ∀ x ∈ p2, x.block < W.heap.size := by obtain ⟨m, hm⟩ := k2; exact DataW.trod_lt m _ _ _ hm
  obtain ⟨a2, len2, cap2, rfl⟩ := okWide_slice Try.underlying47 (hval 2 47 v2 rfl rfl)
  obtain ⟨l2, hl2, hr2, hm2, hb2⟩ : ∃ l : List (List Int), len2 = l.length ∧ Nest (Value.int .i64) W W.heap.size a2 len2 l ∧ len2 ≤ maxLen ∧ ∀ r ∈ l, r.length ≤ maxLen := by
    obtain ⟨fuel, hf⟩ := h2
    exact open_introws Try.underlying47 Try.underlying23 Try.underlying3 (by kernel_rfl) (by kernel_rfl) (by simpa [Value.cells] using hf)
  subst hl2
  clear hA0 hval0
  refine (walk a0 cap0 l0 a1 cap1 l1 a2 cap2 l2 W hr0 hm0 hr1 hm1 hr2 hm2 hb2).mono fun e W' ⟨he, bel⟩ => ?_
  subst he
  exact ⟨_, rfl, _, _, _, [], _, [], hW', trodAll_mk1 (shut_bool Try.underlying4 _), (trodAll_cons_mk (Below.trod lawLaid (by kernel_rfl) (of_decide_eq_true (by kernel_rfl)) k0 bel lt0) (trodAll_cons_mk (Below.trod lawLaid (by kernel_rfl) (of_decide_eq_true (by kernel_rfl)) k1 bel lt1) (trodAll_cons_mk (Below.trod lawLaid (by kernel_rfl) (of_decide_eq_true (by kernel_rfl)) k2 bel lt2) trodAll_mk0))), rfl, bel.frame _, fun h => by cases h⟩

theorem closed : joinedFacts Try.checked.prog 9 Try.f9 Rows.fnExactPhaseValidSpec Rows.fnExactPhaseValidRow = true := by
  unfold joinedFacts
  repeat (refine and_t ?_ (by first | (with_reducible exact ent) | (with_reducible refine lif_c ?_; kernel_rfl) | (with_reducible refine mak_c ?_; kernel_rfl) | kernel_rfl))
  kernel_rfl
theorem proved : Rows.FnExactPhaseValidSaid :=
  OpenClaim.holds_of_wide 9 Try.f9 rfl rfl rfl rfl rfl rfl rfl ⟨rfl, rfl, rfl, rfl, rfl⟩ rfl rfl rfl rfl rfl (by kernel_rfl) Try.func9 closed
    (of_decide_eq_true (by kernel_rfl)) (by unfold Func.isWrapper; rw [if_neg (of_decide_eq_false (by kernel_rfl))]; exact ⟨rfl, rfl⟩)
    (fun os started H enc _ => lifted os started H enc)
#print axioms proved
end Go.Proofs.Ytnkdpogplkomhaa.exPhaseValid
