/-
  Whatever bytes are given: of contexts and relations drawn from the first ones, the program counts as many orders as the model; and of two contexts that are alone in their groups and not above each other, those where the one is dug first and those where the other is are all. No condition.
-/
import Derived.Test.YtmcnjmflmpfjlaaEnt
import Derived.Test.YtmcnjmflmpfjlaaLif
import Derived.Test.YtmcnjmflmpfjlaaMak
import Derived.Test.YtmcnjmflmpfjlaaDk
import Derived.Test.YtmcnjmflmpfjlaaIc
import Derived.Test.YtmcnjmflmpfjlaaDq
import Derived.Test.YtmcnjmflmpfjlaaDt
import Derived.Test.YtmcnjmflmpfjlaaGx
import Derived.Test.YtmcnjmflmpfjlaaP6
import Derived.Test.YtmcnjmflmpfjlaaV5
import Derived.Test.YtmcnjmflmpfjlaaOpen
import Derived.Deep.RegionHeld3
namespace Go.Proofs.Ytmcnjmflmpfjlaa.lawDigCountPair
open Go.ChangeShapes Go.WideShapes Go.ChangeAt Go.RowKit

theorem place_mod (y n : Nat) (h : 2 ≤ n) : ∃ k : Nat, k < n ∧ (y : Int) % (n : Int) = (k : Int) := ⟨y % n, Nat.mod_lt _ (by omega), rfl⟩
theorem above_up {ids : List Int} {l : List Ctx} {a b : Int} (h : okG ids l = true) (ha : a ∈ ids) (hb : b ∈ ids) : aboveG ids l a b = upG ids l a b := by simp [aboveG, h, ha, hb]

set_option maxHeartbeats 2000000 in
set_option maxRecDepth 100000 in
theorem walk_short (A : Option Addr) (c : Nat) (z : List Int) (B : Option Addr) (cb : Nat) (y : List Int) (w : World) (h : Bytes w A c z) (_ : Bytes w B cb y) (hn : z.length ≤ 1048576) (hy : y.length ≤ 1048576) :
    Calls Try.prog 11 #[.slice A z.length c, .slice B y.length cb] w fun e w2 => e = .returned (.bool true) ∧ Below w.heap.size w w2 := by
  have e0 : decide ((1048576 : Int) < (z.length : Int)) = false := decide_eq_false (by omega)
  have e1 : decide ((1048576 : Int) < (y.length : Int)) = false := decide_eq_false (by omega)
  go_enter Try.func11, Try.ntmps11
  go_wp2_with fail
  refine (dDigCnt_any A c z _ h).mono ?_
  rintro e w2 ⟨v1, v2, ids, l, rfl, ho1, ho2, hl1, hl2, hb2⟩
  obtain ⟨A1, c1, hv1, hcap1, hr1⟩ := own_slice ho1
  obtain ⟨A2, c2, hv2, hcap2, hr2⟩ := own_slice ho2
  subst hv1 hv2
  have HR := Lib.hid (And.intro hb2 (And.intro hr1 hr2))
  clear ho1 ho2 hb2 h hr1 hr2
  obtain ⟨n, hnc⟩ : ∃ n : Int, n = cntG ids l := ⟨_, rfl⟩
  have HC := Lib.hid hnc
  have eo : (n != n) = false := by simp
  have eo2 : (n == n) = true := by simp
  clear hnc
  go_wp2_with fail
  refine (iDigCount_any _ _ _ _ ids l _ HR.out.2.1 HR.out.2.2 (by omega) (by omega)).mono ?_
  rintro e w3 ⟨rfl, hb3⟩
  rw [← HC.out]
  have H3 := Lib.hid hb3
  clear hb3
  go_wp2_with fail
  refine (sDigCount_any _ _ _ _ ids l _ (HR.out.2.1.step H3.out) (HR.out.2.2.step H3.out) (by omega) (by omega)).mono ?_
  rintro e w4 ⟨rfl, hb4⟩
  rw [← HC.out]
  have k4 := below_step H3.out hb4
  have R := Lib.hid (And.intro (HR.out.2.1.step k4) (And.intro (HR.out.2.2.step k4) (below_step HR.out.1 k4)))
  clear hb4 k4
  by_cases h0 : n < 0
  · have e2 : decide (n < 0) = true := decide_eq_true h0
    clear h0
    go_wp2_with fail
    go_ret
    exact ⟨rfl, R.out.2.2⟩
  by_cases hl0 : ids.length < 2
  · have e2 : decide (n < 0) = false := decide_eq_false h0
    have e3 : decide ((ids.length : Int) < 2) = true := decide_eq_true (by omega)
    clear h0
    go_wp2_with fail
    go_ret
    exact ⟨rfl, R.out.2.2⟩
  have e2 : decide (n < 0) = false := decide_eq_false h0
  have e3 : decide ((ids.length : Int) < 2) = false := decide_eq_false (by omega)
  rw [HC.out] at h0
  obtain ⟨i, hi, hie⟩ := place_mod y.length ids.length (by omega)
  obtain ⟨j, hj, hje⟩ := place_mod (y.length / 7) ids.length (by omega)
  have hy7 : ((y.length / 7 : Nat) : Int) = (y.length : Int) / 7 := by omega
  rw [hy7] at hje
  have hii : (i : Int) < (ids.length : Int) := by omega
  have hji : (j : Int) < (ids.length : Int) := by omega
  obtain ⟨a, ha⟩ : ∃ a, ids[i]? = some a := ⟨_, List.getElem?_eq_getElem hi⟩
  obtain ⟨b, hb⟩ : ∃ b, ids[j]? = some b := ⟨_, List.getElem?_eq_getElem hj⟩
  obtain ⟨bx, off, hA1, hbb, hc⟩ := R.out.1.ints (by omega)
  subst hA1
  have g1 := hc i _ ha
  have g2 := hc j _ hb
  have hain := List.mem_of_getElem? ha
  have hbin := List.mem_of_getElem? hb
  have HM := Lib.hid (And.intro h0 (And.intro hain hbin))
  clear hc ha hb hain hbin h0 hy7
  by_cases hab : a = b
  · have e4 : (a == b) = true := by rw [beq_iff_eq]; exact hab
    clear hab
    go_wp2_with fail
    go_ret
    exact ⟨rfl, R.out.2.2⟩
  have e4 : (a == b) = false := by rw [beq_eq_false_iff_ne]; exact hab
  have HN := Lib.hid hab
  clear hab
  obtain ⟨t1, ht1⟩ : ∃ t, t = aboveG ids l a b := ⟨_, rfl⟩
  obtain ⟨t2, ht2⟩ : ∃ t, t = aboveG ids l b a := ⟨_, rfl⟩
  have HT1 := Lib.hid ht1
  have HT2 := Lib.hid ht2
  clear ht1 ht2
  go_wp2_with fail
  refine (iAbove_any _ _ _ _ ids l a b _ R.out.1 R.out.2.1 (by omega) (by omega)).mono ?_
  rintro e w5 ⟨rfl, hb5⟩
  rw [← HT1.out]
  have R5 := Lib.hid (And.intro (R.out.1.step hb5) (And.intro (R.out.2.1.step hb5) (below_step R.out.2.2 hb5)))
  clear hb5 R
  cases t1
  case true =>
    go_wp2_with fail
    go_ret
    exact ⟨rfl, R5.out.2.2⟩
  go_wp2_with fail
  refine (iAbove_any _ _ _ _ ids l b a _ R5.out.1 R5.out.2.1 (by omega) (by omega)).mono ?_
  rintro e w6 ⟨rfl, hb6⟩
  rw [← HT2.out]
  have R6 := Lib.hid (And.intro (R5.out.1.step hb6) (And.intro (R5.out.2.1.step hb6) (below_step R5.out.2.2 hb6)))
  clear hb6 R5
  cases t2
  case true =>
    go_wp2_with fail
    go_ret
    exact ⟨rfl, R6.out.2.2⟩
  obtain ⟨M, hM⟩ : ∃ M, M = membersG ids l a := ⟨_, rfl⟩
  obtain ⟨Mb, hMb⟩ : ∃ M, M = membersG ids l b := ⟨_, rfl⟩
  have hMl : M.length ≤ ids.length := by rw [hM]; exact membersG_len ids l a
  have hMbl : Mb.length ≤ ids.length := by rw [hMb]; exact membersG_len ids l b
  have HMM := Lib.hid (And.intro hM hMb)
  clear hM hMb
  go_wp2_with fail
  refine (iMembers_any _ _ _ _ ids l a _ R6.out.1 R6.out.2.1 (by omega) (by omega)).mono ?_
  rintro e w7 ⟨v7, rfl, hb7, ho7⟩
  rw [← HMM.out.1] at ho7
  obtain ⟨A7, c7, hv7, _, hr7⟩ := own_slice ho7
  subst hv7
  have R7 := Lib.hid (And.intro (R6.out.1.step hb7) (And.intro (R6.out.2.1.step hb7) (And.intro (below_step R6.out.2.2 hb7) hr7)))
  clear hb7 ho7 hr7 R6
  obtain ⟨X, hX⟩ : ∃ X, X = addR l ⟨a, b, 1⟩ := ⟨_, rfl⟩
  obtain ⟨p, hp⟩ : ∃ p, p = addOkR l ⟨a, b, 1⟩ := ⟨_, rfl⟩
  obtain ⟨Y, hY⟩ : ∃ Y, Y = addR l ⟨b, a, 1⟩ := ⟨_, rfl⟩
  obtain ⟨q, hq⟩ : ∃ q, q = addOkR l ⟨b, a, 1⟩ := ⟨_, rfl⟩
  have HX := Lib.hid (And.intro hX hp)
  have HY := Lib.hid (And.intro hY hq)
  clear hX hp hY hq
  go_wp2_with fail
  have hx7 := iAddR_any A2 c2 l ⟨a, b, 1⟩ w7 R7.out.2.1 (by omega) hcap2
  rw [← HX.out.1, ← HX.out.2] at hx7
  refine hx7.mono ?_
  rintro e w8 ⟨v8, rfl, hb8, ho8⟩
  obtain ⟨A8, c8, hv8, _, hr8⟩ := own_slice ho8
  subst hv8
  have R8 := Lib.hid (And.intro (R7.out.1.step hb8) (And.intro (R7.out.2.1.step hb8) (And.intro (below_step R7.out.2.2.1 hb8) (And.intro (R7.out.2.2.2.step hb8) hr8))))
  clear hx7 hb8 ho8 hr8 R7
  go_wp2_with fail
  have hx8 := iAddR_any A2 c2 l ⟨b, a, 1⟩ w8 R8.out.2.1 (by omega) hcap2
  rw [← HY.out.1, ← HY.out.2] at hx8
  refine hx8.mono ?_
  rintro e w9 ⟨v9, rfl, hb9, ho9⟩
  obtain ⟨A9, c9, hv9, _, hr9⟩ := own_slice ho9
  subst hv9
  have R9 := Lib.hid (And.intro (R8.out.1.step hb9) (And.intro (R8.out.2.1.step hb9) (And.intro (below_step R8.out.2.2.1 hb9) (And.intro (R8.out.2.2.2.1.step hb9) (And.intro (R8.out.2.2.2.2.step hb9) hr9)))))
  clear hx8 hb9 ho9 hr9 R8
  obtain ⟨t3, ht3⟩ : ∃ t, t = decide (b ∈ M) := ⟨_, rfl⟩
  have HT3 := Lib.hid ht3
  clear ht3
  go_wp2_with fail
  refine (hasInt_any _ _ M b _ R9.out.2.2.2.1 (by omega)).mono ?_
  rintro e w10 ⟨rfl, rfl⟩
  rw [← HT3.out]
  cases t3
  case true =>
    go_wp2_with fail
    go_ret
    exact ⟨rfl, R9.out.2.2.1⟩
  by_cases hm1 : M.length > 1
  · have e5 : decide ((M.length : Int) > 1) = true := decide_eq_true (by omega)
    clear hm1
    go_wp2_with fail
    go_ret
    exact ⟨rfl, R9.out.2.2.1⟩
  have e5 : decide ((M.length : Int) > 1) = false := decide_eq_false (by omega)
  go_wp2_with fail
  refine (iMembers_any _ _ _ _ ids l b _ R9.out.1 R9.out.2.1 (by omega) (by omega)).mono ?_
  rintro e w11 ⟨v11, rfl, hb11, ho11⟩
  rw [← HMM.out.2] at ho11
  obtain ⟨A11, c11, hv11, _, _⟩ := own_slice ho11
  subst hv11
  have R11 := Lib.hid (And.intro (R9.out.1.step hb11) (And.intro (below_step R9.out.2.2.1 hb11) (And.intro (R9.out.2.2.2.2.1.step hb11) (R9.out.2.2.2.2.2.step hb11))))
  clear hb11 ho11 R9
  by_cases hm2 : Mb.length > 1
  · have e6 : decide ((Mb.length : Int) > 1) = true := decide_eq_true (by omega)
    clear hm2
    go_wp2_with fail
    go_ret
    exact ⟨rfl, R11.out.2.1⟩
  have e6 : decide ((Mb.length : Int) > 1) = false := decide_eq_false (by omega)
  cases p
  case false =>
    go_wp2_with fail
    go_ret
    exact ⟨rfl, R11.out.2.1⟩
  cases q
  case false =>
    go_wp2_with fail
    go_ret
    exact ⟨rfl, R11.out.2.1⟩
  obtain ⟨n1, hn1⟩ : ∃ n : Int, n = cntG ids X := ⟨_, rfl⟩
  obtain ⟨n2, hn2⟩ : ∃ n : Int, n = cntG ids Y := ⟨_, rfl⟩
  have hXl : X.length ≤ 30 := by rw [HX.out.1]; exact (addR_len HX.out.2.symm).2
  have hYl : Y.length ≤ 30 := by rw [HY.out.1]; exact (addR_len HY.out.2.symm).2
  have hsum : n1 + n2 = n ∧ 0 ≤ n1 ∧ 0 ≤ n2 ∧ n ≤ 720 := by
    obtain ⟨hcn0, hain, hbin⟩ := HM.out
    have hcn : ¬ cntG ids l < 0 := by omega
    obtain ⟨ho, h6, _⟩ := cnt_ok hcn
    have hok := ordOk_ok ho
    have hu1 := HT1.out
    have hu2 := HT2.out
    rw [above_up hok hain hbin] at hu1
    rw [above_up hok hbin hain] at hu2
    have hal := alone_of hok hain (by rw [← HMM.out.1]; omega)
    have hbl := alone_of hok hbin (by rw [← HMM.out.2]; omega)
    have hp := pair_count hcn hain hbin HX.out.2.symm HY.out.2.symm hal hbl HN.out hu1.symm hu2.symm
    have hf := fact_le h6
    have hr := (cnt_range hcn).2
    rw [← HX.out.1, ← HY.out.1, ← hn1, ← hn2, ← HC.out] at hp
    rw [← HC.out] at hr
    omega
  have Hn := Lib.hid (And.intro hn1 hn2)
  clear hn1 hn2
  have e7 : IntKind.i64.wrap (n1 + n2) = n := by rw [hsum.1]; exact IntWalk.i64_in _ (by omega)
  go_wp2_with fail
  refine (iDigCount_any _ _ _ _ ids X _ R11.out.1 R11.out.2.2.1 (by omega) (by omega)).mono ?_
  rintro e w12 ⟨rfl, hb12⟩
  rw [← Hn.out.1]
  have R12 := Lib.hid (And.intro (R11.out.1.step hb12) (And.intro (below_step R11.out.2.1 hb12) (R11.out.2.2.2.step hb12)))
  clear hb12 R11
  go_wp2_with fail
  refine (iDigCount_any _ _ _ _ ids Y _ R12.out.1 R12.out.2.2 (by omega) (by omega)).mono ?_
  rintro e w13 ⟨rfl, hb13⟩
  rw [← Hn.out.2]
  have R13 := Lib.hid (below_step R12.out.2.1 hb13)
  clear hb13 R12
  go_wp2_with fail
  go_ret
  exact ⟨rfl, R13.out⟩

theorem walk (A : Option Addr) (c : Nat) (z : List Int) (B : Option Addr) (cb : Nat) (y : List Int) (w : World) (h1 : z.length ≤ c) (h2 : Reads w w.heap.size 1 A z.length (cellsB z)) (h3 : ∀ b ∈ z, 0 ≤ b ∧ b ≤ 255) (h4 : c ≤ maxLen) (k1 : y.length ≤ cb) (k2 : Reads w w.heap.size 1 B y.length (cellsB y)) (k3 : ∀ b ∈ y, 0 ≤ b ∧ b ≤ 255) (k4 : cb ≤ maxLen) :
    Calls Try.prog 11 #[.slice A z.length c, .slice B y.length cb] w fun e w2 => e = .returned (.bool true) ∧ Below w.heap.size w w2 := by
  by_cases hn : z.length ≤ 1048576
  · by_cases hy : y.length ≤ 1048576
    · exact walk_short A c z B cb y w (Bytes.mk_ h1 h2 h3 h4) (Bytes.mk_ k1 k2 k3 k4) hn hy
    · have e0 : decide ((1048576 : Int) < (z.length : Int)) = false := decide_eq_false (by omega)
      have e1 : decide ((1048576 : Int) < (y.length : Int)) = true := decide_eq_true (by omega)
      go_enter Try.func11, Try.ntmps11
      go_wp2_with fail
      go_ret
      exact ⟨rfl, Below.refl _ _⟩
  · have e0 : decide ((1048576 : Int) < (z.length : Int)) = true := decide_eq_true (by omega)
    go_enter Try.func11, Try.ntmps11
    go_wp2_with fail
    go_ret
    exact ⟨rfl, Below.refl _ _⟩

set_option linter.unusedVariables false
set_option maxRecDepth 100000 in
theorem lifted (os : Os) (started : os.Started) (H : Type) (enc : TypeId × Value → H) :
    ReturnsInHanded {} Try.checked os 11 .any (Rows.fnDigCountPairSpec.pre6 enc Try.prog Try.f11 Rows.fnDigCountPairRow.domain false) (Rows.fnDigCountPairSpec.post enc Try.prog Try.f11 false true false false) := by
  refine returnsInHanded_of_change (C := Try.checked) lawOwn started (by kernel_rfl) Try.func11
    (ChangeSpec.witness6 (enc := enc) (C := Try.checked) false ⟨#[], #[.slice none 0 0, .slice none 0 0], []⟩ 8 (by kernel_rfl) (by kernel_rfl) (by kernel_rfl) (by kernel_rfl)) ?_
  intro W base args ds gs before hval0 hW hcnd _
  have hval : ∀ (j : Nat) t v, Try.f11.params[j]? = some t → args[j]? = some v → Value.okWide Try.prog W .any base t v := hval0
  have hW' := hW
  obtain ⟨p, q, hA0, hV, rfl, hfz, hnd⟩ := hW
  have hA : DataW.TrodAll enc Try.prog W 0 (fun _ => true) true Try.f11.params.toList args.toList ds p := hA0
  rw [Try.params11] at hA hval
  obtain ⟨v0, vs0, d0, ds0, p0, q0, hargs, rfl, rfl, h0, r0⟩ := trodAll_cons hA
  obtain ⟨v1, vs1, d1, ds1, p1, q1, rfl, rfl, rfl, h1, r1⟩ := trodAll_cons r0
  obtain ⟨rfl, rfl, rfl⟩ := trodAll_nil r1
  obtain rfl : args = #[v0, v1] := by cases args; simp_all
  obtain ⟨rfl, rfl⟩ := trodVars_none hV
  have k0 := h0
  have lt0 : ∀ x ∈ p0, x.block < W.heap.size := by obtain ⟨m, hm⟩ := k0; exact DataW.trod_lt m _ _ _ hm
  obtain ⟨a0, len0, cap0, rfl⟩ := okWide_slice Try.underlying22 (hval 0 22 v0 rfl rfl)
  obtain ⟨z0, hl0, hc0, hr0, hb0, hm0⟩ : ∃ z : List Int, len0 = z.length ∧ len0 ≤ cap0 ∧ Reads W W.heap.size 1 a0 len0 (cellsB z) ∧ (∀ b ∈ z, 0 ≤ b ∧ b ≤ 255) ∧ cap0 ≤ maxLen := by
    obtain ⟨fuel, hf⟩ := h0
    exact open_bytes Try.underlying22 Try.underlying5 (by kernel_rfl) (by simpa [Value.cells] using hf)
  subst hl0
  have k1 := h1
  have lt1 : ∀ x ∈ p1, x.block < W.heap.size := by obtain ⟨m, hm⟩ := k1; exact DataW.trod_lt m _ _ _ hm
  obtain ⟨a1, len1, cap1, rfl⟩ := okWide_slice Try.underlying22 (hval 1 22 v1 rfl rfl)
  obtain ⟨z1, hl1, hc1, hr1, hb1, hm1⟩ : ∃ z : List Int, len1 = z.length ∧ len1 ≤ cap1 ∧ Reads W W.heap.size 1 a1 len1 (cellsB z) ∧ (∀ b ∈ z, 0 ≤ b ∧ b ≤ 255) ∧ cap1 ≤ maxLen := by
    obtain ⟨fuel, hf⟩ := h1
    exact open_bytes Try.underlying22 Try.underlying5 (by kernel_rfl) (by simpa [Value.cells] using hf)
  subst hl1
  clear hA0 hval0
  refine (walk a0 cap0 z0 a1 cap1 z1 W hc0 hr0 hb0 hm0 hc1 hr1 hb1 hm1).mono fun e W' ⟨he, bel⟩ => ?_
  subst he
  exact ⟨_, rfl, _, _, _, [], _, [], hW', trodAll_mk1 (shut_bool Try.underlying4 _), (trodAll_cons_mk (Below.trod lawLaid (by kernel_rfl) (of_decide_eq_true (by kernel_rfl)) k0 bel lt0) (trodAll_cons_mk (Below.trod lawLaid (by kernel_rfl) (of_decide_eq_true (by kernel_rfl)) k1 bel lt1) trodAll_mk0)), rfl, bel.frame _, fun h => by cases h⟩

theorem closed : joinedFacts Try.checked.prog 11 Try.f11 Rows.fnDigCountPairSpec Rows.fnDigCountPairRow = true := by
  unfold joinedFacts
  repeat (refine and_t ?_ (by first | (with_reducible exact ent) | (with_reducible refine lif_c ?_; kernel_rfl) | (with_reducible refine mak_c ?_; kernel_rfl) | kernel_rfl))
  kernel_rfl
theorem proved : Rows.FnDigCountPairSaid :=
  OpenClaim.holds_of_wide 11 Try.f11 rfl rfl rfl rfl rfl rfl rfl ⟨rfl, rfl, rfl, rfl, rfl⟩ rfl rfl rfl rfl rfl (by kernel_rfl) Try.func11 closed
    (of_decide_eq_true (by kernel_rfl)) (by unfold Func.isWrapper; rw [if_neg (of_decide_eq_false (by kernel_rfl))]; exact ⟨rfl, rfl⟩)
    (fun os started H enc _ => lifted os started H enc)
#print axioms proved
end Go.Proofs.Ytmcnjmflmpfjlaa.lawDigCountPair
