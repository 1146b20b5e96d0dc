/-
  Whatever bytes are given: of contexts and relations drawn from them, the program's least relations are the model's, and without any one of them the order or the groups are others. No condition.
-/
import Derived.Test.YtjkjnicgbfpjiaaEnt
import Derived.Test.YtjkjnicgbfpjiaaLif
import Derived.Test.YtjkjnicgbfpjiaaMak
import Derived.Test.YtjkjnicgbfpjiaaDm
import Derived.Test.YtjkjnicgbfpjiaaIi
import Derived.Test.YtjkjnicgbfpjiaaNo
import Derived.Test.YtjkjnicgbfpjiaaJs
import Derived.Test.YtjkjnicgbfpjiaaOpen
import Derived.Deep.RegionHeld3
namespace Go.Proofs.Ytjkjnicgbfpjiaa.lawMatrixLeast
open Go.ChangeShapes Go.WideShapes Go.ChangeAt Go.RowKit

set_option maxHeartbeats 2000000 in
set_option maxRecDepth 100000 in
theorem walk_short (A : Option Addr) (c : Nat) (z : List Int) (B : Option Addr) (cb : Nat) (y : List Int) (w : World) (h : Bytes w A c z) (_ : Bytes w B cb y) (hn : z.length ≤ 1048576) (hy : y.length ≤ 1048576) :
    Calls Try.prog 4 #[.slice A z.length c, .slice B y.length cb] w fun e w2 => e = .returned (.bool true) ∧ Below w.heap.size w w2 := by
  obtain ⟨i0, hi0, hz0, hz1, hz2⟩ := info_parts infoRel
  have e0 : decide ((1048576 : Int) < (z.length : Int)) = false := decide_eq_false (by omega)
  have e1 : decide ((1048576 : Int) < (y.length : Int)) = false := decide_eq_false (by omega)
  go_enter Try.func4, Try.ntmps4
  go_wp2_with fail
  refine (dMatOf_any A c z _ h).mono ?_
  rintro e w2 ⟨v1, v2, ids, l, rfl, ho1, ho2, hl1, hl2, hb2⟩
  obtain ⟨A1, c1, hv1, hcap1, hr1⟩ := own_slice ho1
  obtain ⟨A2, c2, hv2, hcap2, hr2⟩ := own_slice ho2
  subst hv1 hv2
  have HR := Lib.hid (And.intro hb2 (And.intro hr1 hr2))
  clear ho1 ho2 hb2 h hr1 hr2
  obtain ⟨M, hM⟩ : ∃ M, M = matS ids l := ⟨_, rfl⟩
  obtain ⟨o, ho⟩ : ∃ o, o = ordOkG ids l := ⟨_, rfl⟩
  have hMl : M.length ≤ 31 := by rw [hM]; exact Nat.le_trans (matS_len ids l) (by omega)
  have q2 := eqLC_self M
  have eb : (o != o) = false := by simp
  have ec : (o == o) = true := by simp
  have HC := Lib.hid (And.intro hM ho)
  clear hM ho
  go_wp2_with fail
  refine (iMatrixOf_any _ _ _ _ ids l _ HR.out.2.1 HR.out.2.2 (by omega) (by omega)).mono ?_
  rintro e w3 ⟨v3, rfl, hb3, ho3⟩
  rw [← HC.out.1] at ho3
  rw [← HC.out.2]
  obtain ⟨A3, c3, hv3, hcap3, hr3⟩ := own_slice ho3
  subst hv3
  have H3 := Lib.hid (And.intro hb3 hr3)
  clear hb3 ho3 hr3
  go_wp2_with fail
  refine (sMatrixOf_any _ _ _ _ ids l _ (HR.out.2.1.step H3.out.1) (HR.out.2.2.step H3.out.1) (by omega) (by omega)).mono ?_
  rintro e w4 ⟨v4, rfl, hb4, ho4⟩
  rw [← HC.out.1] at ho4
  rw [← HC.out.2]
  obtain ⟨A4, c4, hv4, hcap4, hr4⟩ := own_slice ho4
  subst hv4
  have H4 := Lib.hid (And.intro hb4 hr4)
  clear hb4 ho4 hr4
  go_wp2_with fail
  refine (sameRel_any _ _ _ _ M M _ (H3.out.2.step H4.out.1) H4.out.2 (by omega)).mono ?_
  rintro e w5 ⟨rfl, hb5⟩
  have k5 := below_step H4.out.1 hb5
  have k25 := below_step H3.out.1 k5
  have R := Lib.hid (And.intro (HR.out.2.1.step k25) (And.intro (HR.out.2.2.step k25) (And.intro (H3.out.2.step k5) (below_step HR.out.1 k25))))
  have R4 := Lib.hid (H4.out.2.step hb5)
  clear hb5 k5 k25
  cases o
  · clear eb ec
    go_wp2_with fail
    refine (sameRel_any _ _ _ _ M M _ R.out.2.2.1 R4.out (by omega)).mono ?_
    rintro e w6 ⟨rfl, hb6⟩
    go_wp2_with fail
    go_ret
    exact ⟨rfl, below_step R.out.2.2.2 hb6⟩
  · rcases Nat.eq_zero_or_pos M.length with h0 | hpos
    · have e9 : ((M.length : Int) == 0) = true := by simp [h0]
      clear h0 eb
      go_wp2_with fail
      refine (sameRel_any _ _ _ _ M M _ R.out.2.2.1 R4.out (by omega)).mono ?_
      rintro e w6 ⟨rfl, hb6⟩
      go_wp2_with fail
      go_ret
      exact ⟨rfl, below_step R.out.2.2.2 hb6⟩
    · have e9 : ((M.length : Int) == 0) = false := by rw [beq_eq_false_iff_ne]; omega
      have hpi : (0 : Int) < (M.length : Int) := by omega
      have hkl : y.length % M.length < M.length := Nat.mod_lt _ hpos
      have ho : ordOkG ids l = true := HC.out.2.symm
      have hMe : M = matG ids l := by rw [HC.out.1, matS_ok ho]
      have HML := Lib.hid (And.intro ho hMe)
      clear eb ec ho hMe
      go_wp2_with fail
      obtain ⟨k, hke⟩ : ∃ k : Nat, k = y.length % M.length := ⟨_, rfl⟩
      have hki : (y.length : Int) % (M.length : Int) = (k : Int) := by rw [hke]; rfl
      rw [hki]
      rw [← hke] at hkl
      obtain ⟨b, off, hA, hbb, _⟩ := R.out.2.2.1.ctx hpos
      subst hA
      have hk0 : (0 : Int) ≤ (k : Int) := by omega
      have hk1 : (0 : Int) ≤ (k : Int) + 1 := by omega
      have hk2 : ((k : Int) + 1).toNat = k + 1 := by omega
      have hkw : IntKind.i64.wrap ((k : Int) + 1) = (k : Int) + 1 := IntWalk.i64_in _ (by omega)
      have hkc : (k : Int) ≤ (c3 : Int) := by omega
      have hkc2 : (k : Int) + 1 ≤ (c3 : Int) := by omega
      have hkl2 : (k : Int) ≤ (M.length : Int) := by omega
      have hkl3 : (k : Int) + 1 ≤ (M.length : Int) := by omega
      have hne : ¬ c3 = k := by omega
      clear hke hki
      obtain ⟨xs, hxs⟩ : ∃ xs, xs = M.take k ++ M.drop (k + 1) := ⟨_, rfl⟩
      have hxl : xs.length ≤ 31 := by rw [hxs, List.length_append, List.length_take, List.length_drop]; omega
      have hxsame : sameG ids l xs = false := by
        rw [hxs, HML.out.2]
        exact mat_least HML.out.1 (r := M[k]) (by rw [← HML.out.2]; exact List.getElem?_eq_getElem hkl)
      have Hxs := Lib.hid (And.intro hxs hxsame)
      clear hxs hxsame
      by_cases hcc : c3 = k + 1
      · have HT : Hid (0 < M.length - (k + 1) → (some ⟨b, off, none⟩ : Option Addr) = (some ⟨b, off, none⟩ : Option Addr).map (·.add ((k + 1) * 3))) := by
          show 0 < M.length - (k + 1) → _
          intro h0
          omega
        have hcc2 : (c3 = k + 1) = True := eq_true hcc
        clear hcc
        go_wp2_with fail
        have hO : ((w5.drewN 1).alloc (.cells #[] 48)).ownsRow w5.heap.size 48 3 (.slice (some ⟨w5.heap.size, 0, none⟩) 0 0) 0 [] := own_empty (w := w5.drewN 1) (Nat.le_refl _) rfl
        have hB : Below w5.heap.size w5 ((w5.drewN 1).alloc (.cells #[] 48)) := (below_draws (Below.refl _ _) 1).alloc (Nat.le_refl _) _
        have hR : Reads ((w5.drewN 1).alloc (.cells #[] 48)) w5.heap.size 3 (some ⟨b, off, none⟩) M.length (cellsC M) := (R.out.2.2.1).below hB
        have w5X := Lib.hid (And.intro hO (And.intro hB hR))
        clear hO hB hR
        go_region_held3 (fun _ => True) (trivial)
          (first
            | (refine step_append_want ((w5.drewN 1).alloc (.cells #[] 48)) (by rfl) (.tmp 69) (.tmp 72) _ (by rfl) w5.heap.size 48 i0 _ 3 24 Try.underlying24 hi0 hz0 hz1 hz2 rfl (by omega) (.slice (some ⟨w5.heap.size, 0, none⟩) 0 0) 0 [] (by rfl) w5X.out.1 _ _ k _ (cellsC (M.take k)) (by rfl) (w5X.out.2.2.headC (by omega)) (cellsC_one _) (by simp only [maxLen]; omega) (by omega) (by simp [World.drewN]) ?_
               intro vx wx ox wxg wxt
               have bx : Below w5.heap.size w5 wx := w5X.out.2.1.grown wxg (by simp) (fun j hj => by simp [Value.ownBlock] at hj; omega))
            | (refine step_append_want wx (by rfl) (.tmp 73) (.tmp 77) _ (by rfl) w5.heap.size 48 i0 _ 3 24 Try.underlying24 hi0 hz0 hz1 hz2 rfl (by omega) vx (0 + k) ([] ++ cellsC (M.take k)) (by rfl) ox _ _ (M.length - (k + 1)) _ (cellsC (M.drop (k + 1))) (by rfl) (((R.out.2.2.1).below bx).tailC (by omega) HT.out) (cellsC_one _) (by simp only [maxLen]; omega) (by omega) bx.size ?_
               intro vy wy oy wyg wyt
               have by7 : Below w5.heap.size w5 wy := bx.trans (app_below0 ox (Nat.le_refl _) bx.size wyg)
               rw [List.nil_append, ← cellsC_append, ← Hxs.out.1, show 0 + k + (M.length - (k + 1)) = xs.length from by rw [Hxs.out.1, List.length_append, List.length_take, List.length_drop]; omega] at oy
               obtain ⟨A7, c7, hv7, _, _⟩ := own_slice oy
               subst hv7
               have R7 := Lib.hid (And.intro by7 oy)
               clear oy))
        have hst := iSame_any A1 A2 A7 c1 c2 c7 ids l xs wy (R.out.1.step R7.out.1) (R.out.2.1.step R7.out.1) (own_reads R7.out.2) (by omega) (by omega) (by omega)
        rw [Hxs.out.2] at hst
        have HST := Lib.hid hst
        clear hst
        go_wp2_with fail
        refine HST.out.mono ?_
        rintro e w8 ⟨rfl, hb8⟩
        go_wp2_with fail
        go_ret
        exact ⟨rfl, below_step R.out.2.2.2 (below_step R7.out.1 hb8)⟩
      · have HT : Hid (0 < M.length - (k + 1) → (some ⟨b, off + (k + 1) * 3, none⟩ : Option Addr) = (some ⟨b, off, none⟩ : Option Addr).map (·.add ((k + 1) * 3))) := by
          show 0 < M.length - (k + 1) → _
          intro _
          simp only [Option.map, Addr.add]
          rw [if_neg (by omega)]
        go_wp2_with fail
        have hO : ((w5.drewN 1).alloc (.cells #[] 48)).ownsRow w5.heap.size 48 3 (.slice (some ⟨w5.heap.size, 0, none⟩) 0 0) 0 [] := own_empty (w := w5.drewN 1) (Nat.le_refl _) rfl
        have hB : Below w5.heap.size w5 ((w5.drewN 1).alloc (.cells #[] 48)) := (below_draws (Below.refl _ _) 1).alloc (Nat.le_refl _) _
        have hR : Reads ((w5.drewN 1).alloc (.cells #[] 48)) w5.heap.size 3 (some ⟨b, off, none⟩) M.length (cellsC M) := (R.out.2.2.1).below hB
        have w5X := Lib.hid (And.intro hO (And.intro hB hR))
        clear hO hB hR
        go_region_held3 (fun _ => True) (trivial)
          (first
            | (refine step_append_want ((w5.drewN 1).alloc (.cells #[] 48)) (by rfl) (.tmp 69) (.tmp 72) _ (by rfl) w5.heap.size 48 i0 _ 3 24 Try.underlying24 hi0 hz0 hz1 hz2 rfl (by omega) (.slice (some ⟨w5.heap.size, 0, none⟩) 0 0) 0 [] (by rfl) w5X.out.1 _ _ k _ (cellsC (M.take k)) (by rfl) (w5X.out.2.2.headC (by omega)) (cellsC_one _) (by simp only [maxLen]; omega) (by omega) (by simp [World.drewN]) ?_
               intro vx wx ox wxg wxt
               have bx : Below w5.heap.size w5 wx := w5X.out.2.1.grown wxg (by simp) (fun j hj => by simp [Value.ownBlock] at hj; omega))
            | (refine step_append_want wx (by rfl) (.tmp 73) (.tmp 77) _ (by rfl) w5.heap.size 48 i0 _ 3 24 Try.underlying24 hi0 hz0 hz1 hz2 rfl (by omega) vx (0 + k) ([] ++ cellsC (M.take k)) (by rfl) ox _ _ (M.length - (k + 1)) _ (cellsC (M.drop (k + 1))) (by rfl) (((R.out.2.2.1).below bx).tailC (by omega) HT.out) (cellsC_one _) (by simp only [maxLen]; omega) (by omega) bx.size ?_
               intro vy wy oy wyg wyt
               have by7 : Below w5.heap.size w5 wy := bx.trans (app_below0 ox (Nat.le_refl _) bx.size wyg)
               rw [List.nil_append, ← cellsC_append, ← Hxs.out.1, show 0 + k + (M.length - (k + 1)) = xs.length from by rw [Hxs.out.1, List.length_append, List.length_take, List.length_drop]; omega] at oy
               obtain ⟨A7, c7, hv7, _, _⟩ := own_slice oy
               subst hv7
               have R7 := Lib.hid (And.intro by7 oy)
               clear oy))
        have hst := iSame_any A1 A2 A7 c1 c2 c7 ids l xs wy (R.out.1.step R7.out.1) (R.out.2.1.step R7.out.1) (own_reads R7.out.2) (by omega) (by omega) (by omega)
        rw [Hxs.out.2] at hst
        have HST := Lib.hid hst
        clear hst
        go_wp2_with fail
        refine HST.out.mono ?_
        rintro e w8 ⟨rfl, hb8⟩
        go_wp2_with fail
        go_ret
        exact ⟨rfl, below_step R.out.2.2.2 (below_step R7.out.1 hb8)⟩

theorem walk (A : Option Addr) (c : Nat) (z : List Int) (B : Option Addr) (cb : Nat) (y : List Int) (w : World) (h1 : z.length ≤ c) (h2 : Reads w w.heap.size 1 A z.length (cellsB z)) (h3 : ∀ b ∈ z, 0 ≤ b ∧ b ≤ 255) (h4 : c ≤ maxLen) (k1 : y.length ≤ cb) (k2 : Reads w w.heap.size 1 B y.length (cellsB y)) (k3 : ∀ b ∈ y, 0 ≤ b ∧ b ≤ 255) (k4 : cb ≤ maxLen) :
    Calls Try.prog 4 #[.slice A z.length c, .slice B y.length cb] w fun e w2 => e = .returned (.bool true) ∧ Below w.heap.size w w2 := by
  by_cases hn : z.length ≤ 1048576
  · by_cases hy : y.length ≤ 1048576
    · exact walk_short A c z B cb y w (Bytes.mk_ h1 h2 h3 h4) (Bytes.mk_ k1 k2 k3 k4) hn hy
    · have e0 : decide ((1048576 : Int) < (z.length : Int)) = false := decide_eq_false (by omega)
      have e1 : decide ((1048576 : Int) < (y.length : Int)) = true := decide_eq_true (by omega)
      go_enter Try.func4, Try.ntmps4
      go_wp2_with fail
      go_ret
      exact ⟨rfl, Below.refl _ _⟩
  · have e0 : decide ((1048576 : Int) < (z.length : Int)) = true := decide_eq_true (by omega)
    go_enter Try.func4, Try.ntmps4
    go_wp2_with fail
    go_ret
    exact ⟨rfl, Below.refl _ _⟩

set_option linter.unusedVariables false
set_option maxRecDepth 100000 in
theorem lifted (os : Os) (started : os.Started) (H : Type) (enc : TypeId × Value → H) :
    ReturnsInHanded {} Try.checked os 4 .any (Rows.fnMatrixLeastSpec.pre6 enc Try.prog Try.f4 Rows.fnMatrixLeastRow.domain false) (Rows.fnMatrixLeastSpec.post enc Try.prog Try.f4 false true false false) := by
  refine returnsInHanded_of_change (C := Try.checked) lawOwn started (by kernel_rfl) Try.func4
    (ChangeSpec.witness6 (enc := enc) (C := Try.checked) false ⟨#[], #[.slice none 0 0, .slice none 0 0], []⟩ 8 (by kernel_rfl) (by kernel_rfl) (by kernel_rfl) (by kernel_rfl)) ?_
  intro W base args ds gs before hval0 hW hcnd _
  have hval : ∀ (j : Nat) t v, Try.f4.params[j]? = some t → args[j]? = some v → Value.okWide Try.prog W .any base t v := hval0
  have hW' := hW
  obtain ⟨p, q, hA0, hV, rfl, hfz, hnd⟩ := hW
  have hA : DataW.TrodAll enc Try.prog W 0 (fun _ => true) true Try.f4.params.toList args.toList ds p := hA0
  rw [Try.params4] at hA hval
  obtain ⟨v0, vs0, d0, ds0, p0, q0, hargs, rfl, rfl, h0, r0⟩ := trodAll_cons hA
  obtain ⟨v1, vs1, d1, ds1, p1, q1, rfl, rfl, rfl, h1, r1⟩ := trodAll_cons r0
  obtain ⟨rfl, rfl, rfl⟩ := trodAll_nil r1
  obtain rfl : args = #[v0, v1] := by cases args; simp_all
  obtain ⟨rfl, rfl⟩ := trodVars_none hV
  have k0 := h0
  have lt0 : ∀ x ∈ p0, x.block < W.heap.size := by obtain ⟨m, hm⟩ := k0; exact DataW.trod_lt m _ _ _ hm
  obtain ⟨a0, len0, cap0, rfl⟩ := okWide_slice Try.underlying22 (hval 0 22 v0 rfl rfl)
  obtain ⟨z0, hl0, hc0, hr0, hb0, hm0⟩ : ∃ z : List Int, len0 = z.length ∧ len0 ≤ cap0 ∧ Reads W W.heap.size 1 a0 len0 (cellsB z) ∧ (∀ b ∈ z, 0 ≤ b ∧ b ≤ 255) ∧ cap0 ≤ maxLen := by
    obtain ⟨fuel, hf⟩ := h0
    exact open_bytes Try.underlying22 Try.underlying5 (by kernel_rfl) (by simpa [Value.cells] using hf)
  subst hl0
  have k1 := h1
  have lt1 : ∀ x ∈ p1, x.block < W.heap.size := by obtain ⟨m, hm⟩ := k1; exact DataW.trod_lt m _ _ _ hm
  obtain ⟨a1, len1, cap1, rfl⟩ := okWide_slice Try.underlying22 (hval 1 22 v1 rfl rfl)
  obtain ⟨z1, hl1, hc1, hr1, hb1, hm1⟩ : ∃ z : List Int, len1 = z.length ∧ len1 ≤ cap1 ∧ Reads W W.heap.size 1 a1 len1 (cellsB z) ∧ (∀ b ∈ z, 0 ≤ b ∧ b ≤ 255) ∧ cap1 ≤ maxLen := by
    obtain ⟨fuel, hf⟩ := h1
    exact open_bytes Try.underlying22 Try.underlying5 (by kernel_rfl) (by simpa [Value.cells] using hf)
  subst hl1
  clear hA0 hval0
  refine (walk a0 cap0 z0 a1 cap1 z1 W hc0 hr0 hb0 hm0 hc1 hr1 hb1 hm1).mono fun e W' ⟨he, bel⟩ => ?_
  subst he
  exact ⟨_, rfl, _, _, _, [], _, [], hW', trodAll_mk1 (shut_bool Try.underlying4 _), (trodAll_cons_mk (Below.trod lawLaid (by kernel_rfl) (of_decide_eq_true (by kernel_rfl)) k0 bel lt0) (trodAll_cons_mk (Below.trod lawLaid (by kernel_rfl) (of_decide_eq_true (by kernel_rfl)) k1 bel lt1) trodAll_mk0)), rfl, bel.frame _, fun h => by cases h⟩

theorem closed : joinedFacts Try.checked.prog 4 Try.f4 Rows.fnMatrixLeastSpec Rows.fnMatrixLeastRow = true := by
  unfold joinedFacts
  repeat (refine and_t ?_ (by first | (with_reducible exact ent) | (with_reducible refine lif_c ?_; kernel_rfl) | (with_reducible refine mak_c ?_; kernel_rfl) | kernel_rfl))
  kernel_rfl
theorem proved : Rows.FnMatrixLeastSaid :=
  OpenClaim.holds_of_wide 4 Try.f4 rfl rfl rfl rfl rfl rfl rfl ⟨rfl, rfl, rfl, rfl, rfl⟩ rfl rfl rfl rfl rfl (by kernel_rfl) Try.func4 closed
    (of_decide_eq_true (by kernel_rfl)) (by unfold Func.isWrapper; rw [if_neg (of_decide_eq_false (by kernel_rfl))]; exact ⟨rfl, rfl⟩)
    (fun os started H enc _ => lifted os started H enc)
#print axioms proved
end Go.Proofs.Ytjkjnicgbfpjiaa.lawMatrixLeast
