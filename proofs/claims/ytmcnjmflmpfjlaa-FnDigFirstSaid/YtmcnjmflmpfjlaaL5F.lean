/-
  Whatever bytes are given: of contexts and relations drawn from the first ones, the program's order of digging is the model's; of two neighbours of it with the greater number first, the exchange is not valid. No condition.
-/
import Derived.Test.YtmcnjmflmpfjlaaEnt
import Derived.Test.YtmcnjmflmpfjlaaLif
import Derived.Test.YtmcnjmflmpfjlaaMak
import Derived.Test.YtmcnjmflmpfjlaaDz
import Derived.Test.YtmcnjmflmpfjlaaIo
import Derived.Test.YtmcnjmflmpfjlaaOm
import Derived.Test.YtmcnjmflmpfjlaaIv
import Derived.Test.YtmcnjmflmpfjlaaDq
import Derived.Test.YtmcnjmflmpfjlaaMm
import Derived.Test.YtmcnjmflmpfjlaaLw
import Derived.Deep.RegionHeld3
namespace Go.Proofs.Ytmcnjmflmpfjlaa.lawDigFirst
open Go.ChangeShapes Go.WideShapes Go.ChangeAt Go.RowKit

set_option maxHeartbeats 2000000 in
set_option maxRecDepth 100000 in
theorem walk_short (A : Option Addr) (c : Nat) (z : List Int) (B : Option Addr) (cb : Nat) (y : List Int) (w : World) (h : Bytes w A c z) (_ : Bytes w B cb y) (hn : z.length ≤ 1048576) (hy : y.length ≤ 1048576) :
    Calls Try.prog 8 #[.slice A z.length c, .slice B y.length cb] w fun e w2 => e = .returned (.bool true) ∧ Below w.heap.size w w2 := by
  have e0 : decide ((1048576 : Int) < (z.length : Int)) = false := decide_eq_false (by omega)
  have e1 : decide ((1048576 : Int) < (y.length : Int)) = false := decide_eq_false (by omega)
  go_enter Try.func8, Try.ntmps8
  go_wp2_with fail
  refine (dDigOrd_any A c z _ h).mono ?_
  rintro e w2 ⟨v1, v2, ids, l, rfl, ho1, ho2, hl1, hl2, hb2⟩
  obtain ⟨A1, c1, hv1, hcap1, hr1⟩ := own_slice ho1
  obtain ⟨A2, c2, hv2, hcap2, hr2⟩ := own_slice ho2
  subst hv1 hv2
  have HR := Lib.hid (And.intro hb2 (And.intro hr1 hr2))
  clear ho1 ho2 hb2 h hr1 hr2
  obtain ⟨C, hC⟩ : ∃ C, C = digG ids l := ⟨_, rfl⟩
  obtain ⟨o, ho⟩ : ∃ o, o = ordOkG ids l := ⟨_, rfl⟩
  have hCl : C.length ≤ ids.length := by rw [hC]; exact digG_len ids l
  have q := eqLI_self C
  have eo : (o != o) = false := by simp
  have eo2 : (o == o) = true := by simp
  have HC := Lib.hid (And.intro hC ho)
  clear hC ho
  go_wp2_with fail
  refine (iDigOrder_any _ _ _ _ ids l _ HR.out.2.1 HR.out.2.2 (by omega) (by omega)).mono ?_
  rintro e w3 ⟨v3, rfl, hb3, ho3⟩
  rw [← HC.out.1] at ho3
  rw [← HC.out.2]
  obtain ⟨A3, c3, hv3, hcap3, hr3⟩ := own_slice ho3
  subst hv3
  have H3 := Lib.hid (And.intro hb3 hr3)
  clear hb3 ho3 hr3
  go_wp2_with fail
  refine (sDigOrder_any _ _ _ _ ids l _ (HR.out.2.1.step H3.out.1) (HR.out.2.2.step H3.out.1) (by omega) (by omega)).mono ?_
  rintro e w4 ⟨v4, rfl, hb4, ho4⟩
  rw [← HC.out.1] at ho4
  rw [← HC.out.2]
  obtain ⟨A4, c4, hv4, hcap4, hr4⟩ := own_slice ho4
  subst hv4
  have H4 := Lib.hid (And.intro hb4 hr4)
  clear hb4 ho4 hr4
  cases o
  · skip
    go_wp2_with fail
    refine (sameInts_any _ _ _ _ C C _ (H3.out.2.step H4.out.1) H4.out.2 (by omega)).mono ?_
    rintro e w5 ⟨rfl, hb5⟩
    have k5 := below_step H4.out.1 hb5
    have k25 := below_step H3.out.1 k5
    have R := Lib.hid (And.intro (HR.out.2.1.step k25) (And.intro (HR.out.2.2.step k25) (And.intro (H3.out.2.step k5) (below_step HR.out.1 k25))))
    have R4 := Lib.hid (H4.out.2.step hb5)
    clear hb5 k5 k25
    go_wp2_with fail
    refine (sameInts_any _ _ _ _ C C _ R.out.2.2.1 R4.out (by omega)).mono ?_
    rintro e w6 ⟨rfl, hb6⟩
    go_wp2_with fail
    go_ret
    exact ⟨rfl, below_step R.out.2.2.2 hb6⟩
  · by_cases h2 : C.length < 2
    · have e2 : decide ((C.length : Int) < 2) = true := decide_eq_true (by omega)
      clear h2
      go_wp2_with fail
      refine (sameInts_any _ _ _ _ C C _ (H3.out.2.step H4.out.1) H4.out.2 (by omega)).mono ?_
      rintro e w5 ⟨rfl, hb5⟩
      have k5 := below_step H4.out.1 hb5
      have k25 := below_step H3.out.1 k5
      have R := Lib.hid (And.intro (HR.out.2.1.step k25) (And.intro (HR.out.2.2.step k25) (And.intro (H3.out.2.step k5) (below_step HR.out.1 k25))))
      have R4 := Lib.hid (H4.out.2.step hb5)
      clear hb5 k5 k25
      go_wp2_with fail
      refine (sameInts_any _ _ _ _ C C _ R.out.2.2.1 R4.out (by omega)).mono ?_
      rintro e w6 ⟨rfl, hb6⟩
      go_wp2_with fail
      go_ret
      exact ⟨rfl, below_step R.out.2.2.2 hb6⟩
    · have e2 : decide ((C.length : Int) < 2) = false := decide_eq_false (by omega)
      obtain ⟨i0, hi0, hz0, hz1, hz2⟩ := info_parts infoInt
      obtain ⟨m, hm⟩ : ∃ m, m = C.length - 1 := ⟨_, rfl⟩
      have hmi : (C.length : Int) - 1 = (m : Int) := by omega
      have hm0 : 0 < m := by omega
      have hm0i : (0 : Int) < (m : Int) := by omega
      have hkl : y.length % m < m := Nat.mod_lt _ hm0
      obtain ⟨k, hke⟩ : ∃ k : Nat, k = y.length % m := ⟨_, rfl⟩
      have hki : (y.length : Int) % (m : Int) = (k : Int) := by rw [hke]; rfl
      rw [← hke] at hkl
      have hk1 : k + 1 < C.length := by omega
      have hkc : (k : Int) < (C.length : Int) := by omega
      have hkc1 : (k : Int) + 1 < (C.length : Int) := by omega
      obtain ⟨a, ha⟩ : ∃ a, C[k]? = some a := ⟨_, List.getElem?_eq_getElem (by omega)⟩
      obtain ⟨b, hb⟩ : ∃ b, C[k + 1]? = some b := ⟨_, List.getElem?_eq_getElem hk1⟩
      have HD := Lib.hid (And.intro ha hb)
      clear hke hm h2 ha hb
      go_wp2_with fail
      refine (sameInts_any _ _ _ _ C C _ (H3.out.2.step H4.out.1) H4.out.2 (by omega)).mono ?_
      rintro e w5 ⟨rfl, hb5⟩
      have k5 := below_step H4.out.1 hb5
      have k25 := below_step H3.out.1 k5
      have R := Lib.hid (And.intro (HR.out.2.1.step k25) (And.intro (HR.out.2.2.step k25) (And.intro (H3.out.2.step k5) (below_step HR.out.1 k25))))
      have R4 := Lib.hid (H4.out.2.step hb5)
      clear hb5 k5 k25
      obtain ⟨b3, o3, hA3, hbb3, hc3⟩ := R.out.2.2.1.ints (by omega)
      subst hA3
      have f1 := hc3 k _ HD.out.1
      have f2 := hc3 (k + 1) _ HD.out.2
      clear hc3
      by_cases hab : a < b
      · have e3 : decide (a < b) = true := decide_eq_true hab
        clear hab
        go_wp2_with fail
        go_quiet (fail)
        go_wp2_with fail
        go_ret
        exact ⟨rfl, below_step R.out.2.2.2 (below_draws (Below.refl _ _) _)⟩
      · have e3 : decide (a < b) = false := decide_eq_false hab
        have hno : digOkG ids l ((C.set k b).set (k + 1) a) = false := by
          have h1 := digG_first (k := k) HC.out.2.symm (x := a) (y := b) (by rw [← HC.out.1]; exact HD.out.1) (by rw [← HC.out.1]; exact HD.out.2) hab
          rw [← HC.out.1] at h1
          exact h1
        obtain ⟨X, hX⟩ : ∃ X, X = (C.set k b).set (k + 1) a := ⟨_, rfl⟩
        rw [← hX] at hno
        have hXl : X.length = C.length := by rw [hX]; simp
        have HN := Lib.hid (And.intro hno (And.intro hX hXl))
        clear hab hno hX hXl
        go_wp2_with fail
        go_quiet (fail)
        have hoe : ((w5.drewN nq).alloc (.cells #[] 3)).ownsRow w5.heap.size 3 1 (.slice (some ⟨w5.heap.size, 0, none⟩) 0 0) 0 [] := own_empty (w := w5.drewN nq) (Nat.le_refl _) rfl
        have hbe : Below w5.heap.size w5 ((w5.drewN nq).alloc (.cells #[] 3)) := (below_draws (Below.refl _ _) nq).alloc (Nat.le_refl _) _
        have HX := Lib.hid (And.intro hoe (And.intro hbe (R.out.2.2.1.step hbe)))
        clear hoe hbe
        go_wp2_with (at_builtin
                     go_must (refine wpList_append_reads _ rfl (.tmp 80) (.tmp 81) _ rfl w5.heap.size 3 i0 _ 1 8 Try.underlying23 hi0 hz0 hz1 hz2 rfl (by omega) _ 0 [] rfl HX.out.1 _ _ C.length _ (cellsI C) rfl HX.out.2.2 (cellsI_one _) (by simp only [maxLen]; omega) (by omega) (by simp [World.drewN]) ?_)
                     intro v8 w8 hown8 hg8 hat8
                     rw [Nat.zero_add, List.nil_append] at hown8
                     obtain ⟨g8, c8, hv8, hg80, hg8l⟩ := hown8.form (by omega)
                     subst hv8
                     have b8 : Below w5.heap.size w5 w8 := below_grown HX.out.1 hg8 HX.out.2.1 (Nat.le_refl _)
                     obtain ⟨x1, x2⟩ := own_cellI hown8 HD.out.1
                     obtain ⟨x3, x4⟩ := own_cellI hown8 HD.out.2
                     have h9 := own_storeI (own_storeI hown8 k b) (k + 1) a
                     have x5 : (w8.setCell ⟨g8, k, none⟩ (.int .i64 b)).frozen? ⟨g8, k + 1, none⟩ = false := (own_storeI hown8 k b).frozenAt (k + 1)
                     have hne8 : ¬ b3 = g8 := by omega
                     have f8a := (below_cell b8 b3 (o3 + k) hbb3).trans f1
                     have f8b := (below_cell b8 b3 (o3 + (k + 1)) hbb3).trans f2
                     have f9a := (World.cell?_of_block (w := w8) (a := ⟨b3, o3 + k, none⟩) (Below.heap_setCell w8 ⟨g8, k, none⟩ (.int .i64 b) b3 (by simpa using hne8))).trans f8a
                     have b9 : Below w5.heap.size w5 ((w8.setCell ⟨g8, k, none⟩ (.int .i64 b)).setCell ⟨g8, k + 1, none⟩ (.int .i64 a)) := (b8.setCell (by simpa using hg80) _).setCell (by simpa using hg80) _
                     have H9 := Lib.hid (And.intro b9 h9)
                     clear hown8 hg8 hat8 h9 b9 b8)
        obtain ⟨b9, h9⟩ := H9.out
        rw [← HN.out.2.1, ← HN.out.2.2] at h9
        have hdv := iDigValid_any _ _ _ c1 c2 c8 ids l X _ (R.out.1.step b9) (R.out.2.1.step b9) (own_reads h9) (by omega) (by omega)
        rw [HN.out.1, HN.out.2.2] at hdv
        refine hdv.mono ?_
        rintro e w10 ⟨rfl, hb10⟩
        go_wp2_with fail
        go_ret
        exact ⟨rfl, below_step R.out.2.2.2 (below_step b9 hb10)⟩

theorem walk (A : Option Addr) (c : Nat) (z : List Int) (B : Option Addr) (cb : Nat) (y : List Int) (w : World) (h1 : z.length ≤ c) (h2 : Reads w w.heap.size 1 A z.length (cellsB z)) (h3 : ∀ b ∈ z, 0 ≤ b ∧ b ≤ 255) (h4 : c ≤ maxLen) (k1 : y.length ≤ cb) (k2 : Reads w w.heap.size 1 B y.length (cellsB y)) (k3 : ∀ b ∈ y, 0 ≤ b ∧ b ≤ 255) (k4 : cb ≤ maxLen) :
    Calls Try.prog 8 #[.slice A z.length c, .slice B y.length cb] w fun e w2 => e = .returned (.bool true) ∧ Below w.heap.size w w2 := by
  by_cases hn : z.length ≤ 1048576
  · by_cases hy : y.length ≤ 1048576
    · exact walk_short A c z B cb y w (Bytes.mk_ h1 h2 h3 h4) (Bytes.mk_ k1 k2 k3 k4) hn hy
    · have e0 : decide ((1048576 : Int) < (z.length : Int)) = false := decide_eq_false (by omega)
      have e1 : decide ((1048576 : Int) < (y.length : Int)) = true := decide_eq_true (by omega)
      go_enter Try.func8, Try.ntmps8
      go_wp2_with fail
      go_ret
      exact ⟨rfl, Below.refl _ _⟩
  · have e0 : decide ((1048576 : Int) < (z.length : Int)) = true := decide_eq_true (by omega)
    go_enter Try.func8, Try.ntmps8
    go_wp2_with fail
    go_ret
    exact ⟨rfl, Below.refl _ _⟩

set_option linter.unusedVariables false
set_option maxRecDepth 100000 in
theorem lifted (os : Os) (started : os.Started) (H : Type) (enc : TypeId × Value → H) :
    ReturnsInHanded {} Try.checked os 8 .any (Rows.fnDigFirstSpec.pre6 enc Try.prog Try.f8 Rows.fnDigFirstRow.domain false) (Rows.fnDigFirstSpec.post enc Try.prog Try.f8 false true false false) := by
  refine returnsInHanded_of_change (C := Try.checked) lawOwn started (by kernel_rfl) Try.func8
    (ChangeSpec.witness6 (enc := enc) (C := Try.checked) false ⟨#[], #[.slice none 0 0, .slice none 0 0], []⟩ 8 (by kernel_rfl) (by kernel_rfl) (by kernel_rfl) (by kernel_rfl)) ?_
  intro W base args ds gs before hval0 hW hcnd _
  have hval : ∀ (j : Nat) t v, Try.f8.params[j]? = some t → args[j]? = some v → Value.okWide Try.prog W .any base t v := hval0
  have hW' := hW
  obtain ⟨p, q, hA0, hV, rfl, hfz, hnd⟩ := hW
  have hA : DataW.TrodAll enc Try.prog W 0 (fun _ => true) true Try.f8.params.toList args.toList ds p := hA0
  rw [Try.params8] at hA hval
  obtain ⟨v0, vs0, d0, ds0, p0, q0, hargs, rfl, rfl, h0, r0⟩ := trodAll_cons hA
  obtain ⟨v1, vs1, d1, ds1, p1, q1, rfl, rfl, rfl, h1, r1⟩ := trodAll_cons r0
  obtain ⟨rfl, rfl, rfl⟩ := trodAll_nil r1
  obtain rfl : args = #[v0, v1] := by cases args; simp_all
  obtain ⟨rfl, rfl⟩ := trodVars_none hV
  have k0 := h0
  have lt0 : ∀ x ∈ p0, x.block < W.heap.size := by obtain ⟨m, hm⟩ := k0; exact DataW.trod_lt m _ _ _ hm
  obtain ⟨a0, len0, cap0, rfl⟩ := okWide_slice Try.underlying22 (hval 0 22 v0 rfl rfl)
  obtain ⟨z0, hl0, hc0, hr0, hb0, hm0⟩ : ∃ z : List Int, len0 = z.length ∧ len0 ≤ cap0 ∧ Reads W W.heap.size 1 a0 len0 (cellsB z) ∧ (∀ b ∈ z, 0 ≤ b ∧ b ≤ 255) ∧ cap0 ≤ maxLen := by
    obtain ⟨fuel, hf⟩ := h0
    exact open_bytes Try.underlying22 Try.underlying5 (by kernel_rfl) (by simpa [Value.cells] using hf)
  subst hl0
  have k1 := h1
  have lt1 : ∀ x ∈ p1, x.block < W.heap.size := by obtain ⟨m, hm⟩ := k1; exact DataW.trod_lt m _ _ _ hm
  obtain ⟨a1, len1, cap1, rfl⟩ := okWide_slice Try.underlying22 (hval 1 22 v1 rfl rfl)
  obtain ⟨z1, hl1, hc1, hr1, hb1, hm1⟩ : ∃ z : List Int, len1 = z.length ∧ len1 ≤ cap1 ∧ Reads W W.heap.size 1 a1 len1 (cellsB z) ∧ (∀ b ∈ z, 0 ≤ b ∧ b ≤ 255) ∧ cap1 ≤ maxLen := by
    obtain ⟨fuel, hf⟩ := h1
    exact open_bytes Try.underlying22 Try.underlying5 (by kernel_rfl) (by simpa [Value.cells] using hf)
  subst hl1
  clear hA0 hval0
  refine (walk a0 cap0 z0 a1 cap1 z1 W hc0 hr0 hb0 hm0 hc1 hr1 hb1 hm1).mono fun e W' ⟨he, bel⟩ => ?_
  subst he
  exact ⟨_, rfl, _, _, _, [], _, [], hW', trodAll_mk1 (shut_bool Try.underlying4 _), (trodAll_cons_mk (Below.trod lawLaid (by kernel_rfl) (of_decide_eq_true (by kernel_rfl)) k0 bel lt0) (trodAll_cons_mk (Below.trod lawLaid (by kernel_rfl) (of_decide_eq_true (by kernel_rfl)) k1 bel lt1) trodAll_mk0)), rfl, bel.frame _, fun h => by cases h⟩

theorem closed : joinedFacts Try.checked.prog 8 Try.f8 Rows.fnDigFirstSpec Rows.fnDigFirstRow = true := by
  unfold joinedFacts
  repeat (refine and_t ?_ (by first | (with_reducible exact ent) | (with_reducible refine lif_c ?_; kernel_rfl) | (with_reducible refine mak_c ?_; kernel_rfl) | kernel_rfl))
  kernel_rfl
theorem proved : Rows.FnDigFirstSaid :=
  OpenClaim.holds_of_wide 8 Try.f8 rfl rfl rfl rfl rfl rfl rfl ⟨rfl, rfl, rfl, rfl, rfl⟩ rfl rfl rfl rfl rfl (by kernel_rfl) Try.func8 closed
    (of_decide_eq_true (by kernel_rfl)) (by unfold Func.isWrapper; rw [if_neg (of_decide_eq_false (by kernel_rfl))]; exact ⟨rfl, rfl⟩)
    (fun os started H enc _ => lifted os started H enc)
#print axioms proved
end Go.Proofs.Ytmcnjmflmpfjlaa.lawDigFirst
