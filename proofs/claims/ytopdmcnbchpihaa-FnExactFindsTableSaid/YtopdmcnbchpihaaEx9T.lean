/-
  For every list of numbers and of finds, the program's table is answered as the model's, in memory of its own, and leaves its arguments as they were. No condition.
-/
import Derived.Test.YtopdmcnbchpihaaEnt
import Derived.Test.YtopdmcnbchpihaaLif
import Derived.Test.YtopdmcnbchpihaaMak
import Derived.Test.YtopdmcnbchpihaaOpen
import Derived.Test.YtopdmcnbchpihaaFnt
import Derived.Test.YtopdmcnbchpihaaIft
import Derived.Test.YtopdmcnbchpihaaInts
import Derived.Test.YtopdmcnbchpihaaMk
import Derived.Test.YtopdmcnbchpihaaMkF
import Derived.Test.YtopdmcnbchpihaaMbi
import Derived.Test.YtopdmcnbchpihaaBti
namespace Go.Proofs.Ytopdmcnbchpihaa.exFindsTable
open Go.ChangeShapes Go.WideShapes Go.ChangeAt Go.RowKit

theorem row_low {w w2 : World} {base e size n : Nat} {v : Value} {xs : List Value} {k : Option Nat} (h : w.ownsRow base e size v n xs) (hg : w.grownBy w2 k) (hk : ∀ g, k = some g → g < base) : w2.ownsRow base e size v n xs := by
  refine h.kept hg ?_
  cases hv : v.ownBlock with
  | none => exact .inl rfl
  | some g =>
    refine .inr fun e => ?_
    have h1 := hk g e.symm
    have h2 := (h.lt g hv).1
    omega
theorem tab_low {α : Type} {enc : α → Value} {w w2 : World} {base : Nat} {e1 e2 : TypeId} {v : Value} {vs : List Value} {L : List (List α)} {k : Option Nat} (h : OwnV enc w base e1 e2 v vs L) (hg : w.grownBy w2 k) (hk : ∀ g, k = some g → g < base) : OwnV enc w2 base e1 e2 v vs L :=
  ⟨h.len, row_low h.out hg hk, fun i r hr => by obtain ⟨u, hu, ho⟩ := h.row i r hr; exact ⟨u, hu, row_low ho hg hk⟩, h.far, h.apart⟩
theorem eqIT_self (A B : Option Addr) (ca cb : Nat) (L : List (List Int)) (w : World) (ha : Nest (Value.int .i64) w w.heap.size A L.length L) (hb : Nest (Value.int .i64) w w.heap.size B L.length L) (hl : L.length ≤ 1000000000) (hr : ∀ r ∈ L, r.length ≤ 1000000000) :
    Calls Try.prog 48 #[.slice A L.length ca, .slice B L.length cb] w fun e w2 => e = .returned (.bool true) ∧ Below w.heap.size w w2 :=
  (eqIT_any A B ca cb L L w ha hb hl hr).mono fun _ _ ⟨h1, h2⟩ => ⟨by rw [h1, decide_eq_true rfl], h2⟩
theorem tab_small (ids : List Int) (l : List Ctx) : (tabG ids l).length ≤ 1000 ∧ ∀ r ∈ tabG ids l, r.length ≤ 1000 := by
  unfold tabG
  split
  · rename_i h
    have hn : ids.length ≤ 12 := validO_len (tabOk_parts h).1
    refine ⟨by rw [tableF_len]; omega, fun r hr => ?_⟩
    obtain ⟨a, _, rfl⟩ := List.mem_map.1 hr
    rw [rowF_len]
    omega
  · simp
set_option maxHeartbeats 4000000 in
set_option maxRecDepth 100000 in
theorem walk (A : Option Addr) (ca : Nat) (ids : List Int) (B : Option Addr) (cb : Nat) (l : List Ctx) (w : World) (ha : Reads w w.heap.size 1 A ids.length (cellsI ids)) (hm : ids.length ≤ maxLen) (hb : Reads w w.heap.size 3 B l.length (cellsC l)) (hm2 : l.length ≤ maxLen) :
    Calls Try.prog 13 #[.slice A ids.length ca, .slice B l.length cb] w fun e w2 => e = .returned (.bool true) ∧ Below w.heap.size w w2 := by
  unfold maxLen at hm hm2
  by_cases hn : ids.length ≤ 1048576
  · have e0 : decide ((1048576 : Int) < (ids.length : Int)) = false := by simp; omega
    by_cases hn2 : l.length ≤ 1048576
    · have e1 : decide ((1048576 : Int) - (l.length : Int) < 0) = false := by simp; omega
      have q1 := eqLI_self ids
      have q2 := eqLC_self l
      obtain ⟨T, hT⟩ : ∃ T, T = tabG ids l := ⟨_, rfl⟩
      obtain ⟨hTl, hTr⟩ := tab_small ids l
      rw [← hT] at hTl hTr
      obtain ⟨S, hS⟩ : ∃ S, S = sumLI T T.length := ⟨_, rfl⟩
      have en : decide ((1 : Int) + (S : Int) < 0) = false := by simp; omega
      have HT := Lib.hid (And.intro hT (And.intro hS hTr))
      clear hT hS hTr
      obtain ⟨ok, hok⟩ : ∃ ok, ok = tabOk ids l := ⟨_, rfl⟩
      have HOK := Lib.hid hok
      clear hok
      have eb : (ok != ok) = false := by simp
      have em : decide ((1 : Int) + (ids.length : Int) + 3 * (l.length : Int) < 0) = false := by simp; omega
      go_enter Try.func13, Try.ntmps13
      go_wp2_with (first
        | (go_at_call 40; go_must (refine (szFind_any _ _ _ _ hn2).mono ?_); rintro e w2 ⟨rfl, rfl⟩))
      refine (toIS_any _ _ ids _ ha (by omega)).mono ?_
      rintro e w2 ⟨g2, rfl, hb2, ho2⟩
      go_wp2_with fail
      refine (toSFind_any _ _ l _ (hb.step hb2) (by omega)).mono ?_
      rintro e w3 ⟨g3, rfl, hb3, ho3⟩
      have k3 := below_step hb2 hb3
      go_wp2_with fail
      refine (sTable_any _ _ _ _ ids l _ ((own_reads ho2).step hb3) (own_reads ho3) (by omega) (by omega)).mono ?_
      rintro e w4 ⟨v4, vs4, rfl, hb4, ho4⟩
      rw [← HT.out.1] at ho4
      rw [← HOK.out]
      have k4 := below_step k3 hb4
      obtain ⟨A4, c4, rfl, _, hr4⟩ := ho4.nest
      have H4 := Lib.hid ho4
      clear ho4
      go_wp2_with fail
      refine (toIS_any _ _ ids _ (ha.step k4) (by omega)).mono ?_
      rintro e w5 ⟨g5, rfl, hb5, ho5⟩
      have k5 := below_step k4 hb5
      go_wp2_with fail
      refine (toSFind_any _ _ l _ (hb.step k5) (by omega)).mono ?_
      rintro e w6 ⟨g6, rfl, hb6, ho6⟩
      have k6 := below_step k5 hb6
      go_wp2_with fail
      refine (iTable_any _ _ _ _ ids l _ ((own_reads ho5).step hb6) (own_reads ho6) (by omega) (by omega)).mono ?_
      rintro e w7 ⟨v7, vs7, rfl, hb7, ho7⟩
      rw [← HT.out.1] at ho7
      rw [← HOK.out]
      have k7 := below_step k6 hb7
      obtain ⟨A7, c7, hv7, _, hr7⟩ := ho7.nest
      subst hv7
      have H7 := Lib.hid ho7
      clear ho7
      have b47 := below_step (below_step hb5 hb6) hb7
      have b57 := below_step hb6 hb7
      go_wp2_with fail
      refine (eqIT_self _ _ _ _ T _ hr7 (hr4.step b47) (by omega) (fun r hr => by have := HT.out.2.2 r hr; omega)).mono ?_
      rintro e w8 ⟨rfl, hb8⟩
      have k8 := below_step k7 hb8
      clear hr7 hr4
      go_wp2_with fail
      refine (toIS_any _ _ ids _ (ha.step k8) (by omega)).mono ?_
      rintro e w9 ⟨g9, rfl, hb9, ho9⟩
      have k9 := below_step k8 hb9
      have b59 := below_step (below_step b57 hb8) hb9
      go_wp2_with fail
      refine (eqIS_any _ _ _ _ ids ids _ ((own_reads ho5).step b59) (own_reads ho9) (by omega)).mono ?_
      rintro e w10 ⟨rfl, hb10⟩
      have k10 := below_step k9 hb10
      go_wp2_with fail
      refine (toSFind_any _ _ l _ (hb.step k10) (by omega)).mono ?_
      rintro e w11 ⟨g11, rfl, hb11, ho11⟩
      have k11 := below_step k10 hb11
      have b711 := below_step (below_step (below_step hb8 hb9) hb10) hb11
      have b611 := below_step hb7 b711
      go_wp2_with fail
      refine (eqSFind_any _ _ _ _ l l _ ((own_reads ho6).step b611) (own_reads ho11) (by omega)).mono ?_
      rintro e w12 ⟨rfl, hb12⟩
      have k12 := below_step k11 hb12
      have b712 := below_step b711 hb12
      have b612 := below_step b611 hb12
      have o6 := own_below ho6 b612
      have o5 := own_below ho5 (below_step hb6 b612)
      have b412 := below_step (below_step hb5 hb6) (below_step hb7 b712)
      go_wp2_with fail
      refine (markI_any _ _ ids _ o5 (by omega)).mono ?_
      rintro e w13 ⟨rfl, hg13, _⟩
      have k13 := below_own o5 hg13 k12 k4.size
      have b413 : Below w4.heap.size w4 w13 := b412.grown hg13 b412.size fun g hg => (ho5.lt g hg).1
      have p7 := tab_low (H7.out.below b712) hg13 fun g hg => Nat.lt_of_lt_of_le (ho5.lt g hg).2 hb6.size
      have p6 := own_other o6 o5 (own_far2 ho5 o6 (Nat.le_refl _)) hg13
      have H7b := Lib.hid p7
      clear p7
      go_wp2_with fail
      refine (markFindAt_any _ _ l _ _ p6 (by omega) (by omega) (by omega)).mono ?_
      rintro e w14 ⟨rfl, hg14⟩
      have k14 := below_own p6 hg14 k13 k5.size
      have b414 : Below w4.heap.size w4 w14 := b413.grown hg14 b413.size fun g hg => Nat.le_trans hb5.size (ho6.lt g hg).1
      have p7 := tab_low H7b.out hg14 fun g hg => (ho6.lt g hg).2
      have p4 := H4.out.below b414
      obtain ⟨A7b, c7b, hv7, _, hr7⟩ := p7.nest
      obtain ⟨A4b, c4b, hv4, _, hr4⟩ := p4.nest
      injection hv7 with f1 f3 f4
      injection hv4 with f2 f5 f6
      clear f3 f4 f5 f6
      subst f1 f2
      have H7c := Lib.hid p7
      have H4c := Lib.hid hr4
      clear p7 p4 hr4 H7b
      go_wp2_with fail
      refine (eqIT_self _ _ _ _ T _ hr7 H4c.out (by omega) (fun r hr => by have := HT.out.2.2 r hr; omega)).mono ?_
      rintro e w15 ⟨rfl, hb15⟩
      have k15 := below_step k14 hb15
      have b415 := below_step b414 hb15
      have hs15 := k15.size
      have hb615 : w6.heap.size ≤ w15.heap.size := Nat.le_trans b612.size (Nat.le_trans hg13.size (Nat.le_trans hg14.size hb15.size))
      clear hr7
      go_wp2_with fail
      refine (markIT_any _ _ _ T 1 _ (H7c.out.below hb15) hb615 hTl HT.out.2.2 (by omega) (by omega)).mono ?_
      rintro e w16 ⟨rfl, hb16, ho16⟩
      rw [← HT.out.2.1]
      have k16 : Below w.heap.size w w16 := k15.trans (hb16.mono k6.size)
      have b416 : Below w4.heap.size w4 w16 := b415.trans (hb16.mono (Nat.le_trans hb5.size hb6.size))
      obtain ⟨A16, c16, hv16, _, hr16⟩ := ho16.nest
      injection hv16 with f1 f3 f4
      clear f3 f4
      subst f1
      rw [mkTabI_len] at hr16
      have H16 := Lib.hid hr16
      clear ho16 hr16 H7c
      go_wp2_with fail
      refine (heldIT_any _ _ T 1 _ H16.out hTl HT.out.2.2 (by omega) (by omega)).mono ?_
      rintro e w17 ⟨rfl, rfl⟩
      rw [← HT.out.2.1]
      go_wp2_with fail
      refine (toIS_any _ _ ids _ (ha.step k16) (by omega)).mono ?_
      rintro e w18 ⟨g18, rfl, hb18, ho18⟩
      have k18 := below_step k16 hb18
      go_wp2_with fail
      refine (toSFind_any _ _ l _ (hb.step k18) (by omega)).mono ?_
      rintro e w19 ⟨g19, rfl, hb19, ho19⟩
      have k19 := below_step k18 hb19
      go_wp2_with fail
      refine (iTable_any _ _ _ _ ids l _ ((own_reads ho18).step hb19) (own_reads ho19) (by omega) (by omega)).mono ?_
      rintro e w20 ⟨v20, vs20, rfl, hb20, ho20⟩
      rw [← HT.out.1] at ho20
      rw [← HOK.out]
      have k20 := below_step k19 hb20
      obtain ⟨A20, c20, rfl, _, hr20⟩ := ho20.nest
      have b20 := below_step (below_step hb18 hb19) hb20
      have p4 := H4.out.below (below_step b416 b20)
      obtain ⟨A4c, c4c, hv4, _, hr4⟩ := p4.nest
      injection hv4 with f2 f5 f6
      clear f5 f6
      subst f2
      clear p4 ho20
      go_wp2_with fail
      refine (eqIT_self _ _ _ _ T _ hr20 hr4 (by omega) (fun r hr => by have := HT.out.2.2 r hr; omega)).mono ?_
      rintro e w21 ⟨rfl, hb21⟩
      have k21 := below_step k20 hb21
      clear hr20 hr4
      go_wp2_with fail
      refine (heldIT_any _ _ T 1 _ (H16.out.step (below_step b20 hb21)) hTl HT.out.2.2 (by omega) (by omega)).mono ?_
      rintro e w22 ⟨rfl, rfl⟩
      rw [← HT.out.2.1]
      go_wp2_with fail
      go_ret
      exact ⟨rfl, k21⟩
    · go_enter Try.func13, Try.ntmps13
      go_wp2_with (first
        | (go_at_call 40; go_must (refine (szFind_big _ _ _ _ (by omega) hm2).mono ?_); rintro e w2 ⟨rfl, rfl⟩))
      go_ret
      exact ⟨rfl, Below.refl _ _⟩
  · have e0 : decide ((1048576 : Int) < (ids.length : Int)) = true := by simp; omega
    go_enter Try.func13, Try.ntmps13
    go_wp2_with fail
    go_ret
    exact ⟨rfl, Below.refl _ _⟩

set_option linter.unusedVariables false
set_option maxRecDepth 100000 in
theorem lifted (os : Os) (started : os.Started) (H : Type) (enc : TypeId × Value → H) :
    ReturnsInHanded {} Try.checked os 13 .any (Rows.fnExactFindsTableSpec.pre6 enc Try.prog Try.f13 Rows.fnExactFindsTableRow.domain false) (Rows.fnExactFindsTableSpec.post enc Try.prog Try.f13 false true false false) := by
  refine returnsInHanded_of_change (C := Try.checked) lawOwn started (by kernel_rfl) Try.func13
    (ChangeSpec.witness6 (enc := enc) (C := Try.checked) false ⟨#[], #[.slice none 0 0, .slice none 0 0], []⟩ 8 (by kernel_rfl) (by kernel_rfl) (by kernel_rfl) (by kernel_rfl)) ?_
  intro W base args ds gs before hval0 hW hcnd _
  have hval : ∀ (j : Nat) t v, Try.f13.params[j]? = some t → args[j]? = some v → Value.okWide Try.prog W .any base t v := hval0
  have hW' := hW
  obtain ⟨p, q, hA0, hV, rfl, hfz, hnd⟩ := hW
  have hA : DataW.TrodAll enc Try.prog W 0 (fun _ => true) true Try.f13.params.toList args.toList ds p := hA0
  rw [Try.params13] at hA hval
  obtain ⟨v0, vs0, d0, ds0, p0, q0, hargs, rfl, rfl, h0, r0⟩ := trodAll_cons hA
  obtain ⟨v1, vs1, d1, ds1, p1, q1, rfl, rfl, rfl, h1, r1⟩ := trodAll_cons r0
  obtain ⟨rfl, rfl, rfl⟩ := trodAll_nil r1
  obtain rfl : args = #[v0, v1] := by cases args; simp_all
  obtain ⟨rfl, rfl⟩ := trodVars_none hV
  have k0 := h0
  have lt0 : ∀ x ∈ p0, x.block < W.heap.size := by obtain ⟨m, hm⟩ := k0; exact DataW.trod_lt m _ _ _ hm
  obtain ⟨a0, len0, cap0, rfl⟩ := okWide_slice Try.underlying29 (hval 0 29 v0 rfl rfl)
  obtain ⟨l0, hl0, hr0, hm0⟩ : ∃ l : List Int, len0 = l.length ∧ Reads W W.heap.size 1 a0 len0 (cellsI l) ∧ len0 ≤ maxLen := by
    obtain ⟨fuel, hf⟩ := h0
    exact open_ints Try.underlying29 Try.underlying3 (by kernel_rfl) (by simpa [Value.cells] using hf)
  subst hl0
  have k1 := h1
  have lt1 : ∀ x ∈ p1, x.block < W.heap.size := by obtain ⟨m, hm⟩ := k1; exact DataW.trod_lt m _ _ _ hm
  obtain ⟨a1, len1, cap1, rfl⟩ := okWide_slice Try.underlying62 (hval 1 62 v1 rfl rfl)
  obtain ⟨l1, hl1, hr1, hm1⟩ : ∃ l : List Ctx, len1 = l.length ∧ Reads W W.heap.size 3 a1 len1 (cellsC l) ∧ len1 ≤ maxLen := by
    obtain ⟨fuel, hf⟩ := h1
    exact open_ctxs Try.underlying62 Try.underlying140 (by kernel_rfl) (by kernel_rfl) rfl rfl rfl Try.underlying3 (by simpa [Value.cells] using hf)
  subst hl1
  clear hA0 hval0
  refine (walk a0 cap0 l0 a1 cap1 l1 W hr0 hm0 hr1 hm1).mono fun e W' ⟨he, bel⟩ => ?_
  subst he
  exact ⟨_, rfl, _, _, _, [], _, [], hW', trodAll_mk1 (shut_bool Try.underlying4 _), (trodAll_cons_mk (Below.trod lawLaid (by kernel_rfl) (of_decide_eq_true (by kernel_rfl)) k0 bel lt0) (trodAll_cons_mk (Below.trod lawLaid (by kernel_rfl) (of_decide_eq_true (by kernel_rfl)) k1 bel lt1) trodAll_mk0)), rfl, bel.frame _, fun h => by cases h⟩

theorem closed : joinedFacts Try.checked.prog 13 Try.f13 Rows.fnExactFindsTableSpec Rows.fnExactFindsTableRow = true := by
  unfold joinedFacts
  repeat (refine and_t ?_ (by first | (with_reducible exact ent) | (with_reducible refine lif_c ?_; kernel_rfl) | (with_reducible refine mak_c ?_; kernel_rfl) | kernel_rfl))
  kernel_rfl
theorem proved : Rows.FnExactFindsTableSaid :=
  OpenClaim.holds_of_wide 13 Try.f13 rfl rfl rfl rfl rfl rfl rfl ⟨rfl, rfl, rfl, rfl, rfl⟩ rfl rfl rfl rfl rfl (by kernel_rfl) Try.func13 closed
    (of_decide_eq_true (by kernel_rfl)) (by unfold Func.isWrapper; rw [if_neg (of_decide_eq_false (by kernel_rfl))]; exact ⟨rfl, rfl⟩)
    (fun os started H enc _ => lifted os started H enc)
#print axioms proved
end Go.Proofs.Ytopdmcnbchpihaa.exFindsTable
