/-
  Whatever bytes are given: of contexts, relations, bounds and finds drawn from them, the bound of a find that is too late leaves no dates; the program's late finds are the model's. No condition.
-/
import Derived.Test.YtopdmcnbchpihaaEnt
import Derived.Test.YtopdmcnbchpihaaLif
import Derived.Test.YtopdmcnbchpihaaMak
import Derived.Test.YtopdmcnbchpihaaFdb
import Derived.Test.YtopdmcnbchpihaaFnc
import Derived.Test.YtopdmcnbchpihaaIfl
import Derived.Test.YtopdmcnbchpihaaIb1
import Derived.Test.YtopdmcnbchpihaaIh
import Derived.Test.YtopdmcnbchpihaaTriBound
import Derived.Test.YtopdmcnbchpihaaLm
import Derived.Test.YtopdmcnbchpihaaInts
import Derived.Test.YtopdmcnbchpihaaOpen
import Derived.Deep.RegionHeld3
namespace Go.Proofs.Ytopdmcnbchpihaa.lawFindsLateBound
open Go.ChangeShapes Go.WideShapes Go.ChangeAt Go.RowKit

theorem late_at {ids : List Int} {l bs L : List Ctx} {k : Nat} {x : Int} (hx : (lateG ids l bs L)[k]? = some x) : validF L = true ∧ ∃ (i : Nat) (f : Ctx), x = i ∧ i < L.length ∧ L[i]? = some f ∧ isLate ids l bs f = true := by
  cases h : lateOk ids l bs L
  · rw [lateG_no h] at hx
    cases hx
  · rw [lateG_ok h] at hx
    have h2 : validF L = true := by
      simp only [lateOk, Bool.and_eq_true] at h
      exact h.2
    exact ⟨h2, idxF_mem.1 (List.mem_of_getElem? hx)⟩
theorem findB_one {id y : Int} (h1 : 1 ≤ id ∧ id ≤ 99) (h2 : 0 ≤ y ∧ y ≤ 999) : findOkB id [y] = true ∧ findB id [y] = ⟨id, y, 999⟩ := by
  have hok : findOkB id [y] = true := by
    simp only [findOkB, inR, Bool.and_eq_true, decide_eq_true_eq, List.all_eq_true]
    refine ⟨fun z hz => ?_, h1⟩
    rw [List.mem_singleton.1 hz]
    exact h2
  refine ⟨hok, ?_⟩
  unfold findB
  rw [if_pos hok, lastY_iff h2.1 (fun z hz => by rw [List.mem_singleton.1 hz]; exact Int.le_refl _) List.mem_cons_self]
set_option maxHeartbeats 8000000 in
set_option maxRecDepth 100000 in
theorem walk_short (A : Option Addr) (c : Nat) (z : List Int) (B : Option Addr) (cb : Nat) (y : List Int) (w : World) (h : Bytes w A c z) (_ : Bytes w B cb y) (hn : z.length ≤ 1048576) (hy : y.length ≤ 1048576) :
    Calls Try.prog 8 #[.slice A z.length c, .slice B y.length cb] w fun e w2 => e = .returned (.bool true) ∧ Below w.heap.size w w2 := by
  have e0 : decide ((1048576 : Int) < (z.length : Int)) = false := decide_eq_false (by omega)
  have e1 : decide ((1048576 : Int) < (y.length : Int)) = false := decide_eq_false (by omega)
  go_enter Try.func8, Try.ntmps8
  go_wp2_with fail
  refine (dLateFd_any A c z _ h).mono ?_
  rintro e w2 ⟨v1, v2, v3, v4, ids, l, bs, L, rfl, ⟨ho1, ho2, ho3, hl1, hl2, hl3, hb2⟩, ho4, hl4⟩
  obtain ⟨A1, c1, hv1, hcap1, hr1⟩ := own_slice ho1
  obtain ⟨A2, c2, hv2, hcap2, hr2⟩ := own_slice ho2
  obtain ⟨A3, c3, hv3, hcap3, hr3⟩ := own_slice ho3
  obtain ⟨A4, c4, hv4, hcap4, hr4⟩ := own_slice ho4
  subst hv1 hv2 hv3 hv4
  have HR := Lib.hid (And.intro hb2 (And.intro hr1 (And.intro hr2 (And.intro hr3 hr4))))
  clear ho1 ho2 ho3 ho4 hb2 h hr1 hr2 hr3 hr4
  obtain ⟨M, hM⟩ : ∃ M, M = lateG ids l bs L := ⟨_, rfl⟩
  have hML : M.length ≤ L.length := by rw [hM]; exact lateG_len ids l bs L
  have q2 := eqLI_self M
  have HC := Lib.hid hM
  clear hM
  go_wp2_with fail
  refine (iFindsLate_any _ _ _ _ _ _ _ _ ids l bs L _ HR.out.2.1 HR.out.2.2.1 HR.out.2.2.2.1 HR.out.2.2.2.2 (by omega) (by omega) (by omega) (by omega)).mono ?_
  rintro e w3 ⟨v5, rfl, hb3, ho5⟩
  rw [← HC.out] at ho5
  obtain ⟨A5, c5, hv5, hcap5, hr5⟩ := own_slice ho5
  subst hv5
  have H3 := Lib.hid (And.intro hb3 hr5)
  clear hb3 ho5 hr5
  go_wp2_with fail
  refine (sFindsLate_any _ _ _ _ _ _ _ _ ids l bs L _ (HR.out.2.1.step H3.out.1) (HR.out.2.2.1.step H3.out.1) (HR.out.2.2.2.1.step H3.out.1) (HR.out.2.2.2.2.step H3.out.1) (by omega) (by omega) (by omega) (by omega)).mono ?_
  rintro e w4 ⟨v6, rfl, hb4, ho6⟩
  rw [← HC.out] at ho6
  obtain ⟨A6, c6, hv6, hcap6, hr6⟩ := own_slice ho6
  subst hv6
  have H4 := Lib.hid (And.intro hb4 hr6)
  clear hb4 ho6 hr6
  go_wp2_with fail
  refine (sameInts_any _ _ _ _ M M _ (H3.out.2.step H4.out.1) H4.out.2 (by omega)).mono ?_
  rintro e w5 ⟨rfl, hb5⟩
  have k5 := below_step H4.out.1 hb5
  have k25 := below_step H3.out.1 k5
  have R := Lib.hid (And.intro (HR.out.2.1.step k25) (And.intro (HR.out.2.2.1.step k25) (And.intro (HR.out.2.2.2.1.step k25) (And.intro (HR.out.2.2.2.2.step k25) (And.intro (H3.out.2.step k5) (And.intro (H4.out.2.step hb5) (below_step HR.out.1 k25)))))))
  clear hb5 k5 k25
  rcases Nat.eq_zero_or_pos M.length with h0 | hpos
  · have e2 : ((M.length : Int) == 0) = true := by simp [h0]
    clear h0
    go_wp2_with fail
    refine (sameInts_any _ _ _ _ M M _ R.out.2.2.2.2.1 R.out.2.2.2.2.2.1 (by omega)).mono ?_
    rintro e w6 ⟨rfl, hb6⟩
    go_wp2_with fail
    go_ret
    exact ⟨rfl, below_step R.out.2.2.2.2.2.2 hb6⟩
  · have e2 : ((M.length : Int) == 0) = false := by rw [beq_eq_false_iff_ne]; omega
    by_cases h12 : bs.length = 12
    · have e3 : ((bs.length : Int) == 12) = true := by rw [beq_iff_eq]; omega
      clear h12
      go_wp2_with fail
      refine (sameInts_any _ _ _ _ M M _ R.out.2.2.2.2.1 R.out.2.2.2.2.2.1 (by omega)).mono ?_
      rintro e w6 ⟨rfl, hb6⟩
      go_wp2_with fail
      go_ret
      exact ⟨rfl, below_step R.out.2.2.2.2.2.2 hb6⟩
    · have e3 : ((bs.length : Int) == 12) = false := by rw [beq_eq_false_iff_ne]; omega
      have hpi : (0 : Int) < (M.length : Int) := by omega
      obtain ⟨k, hke⟩ : ∃ k : Nat, k = y.length % M.length := ⟨_, rfl⟩
      have hki : (y.length : Int) % (M.length : Int) = (k : Int) := by rw [hke]; rfl
      have hkl : k < M.length := by rw [hke]; exact Nat.mod_lt _ hpos
      obtain ⟨x, hx⟩ : ∃ x, M[k]? = some x := ⟨_, List.getElem?_eq_getElem hkl⟩
      obtain ⟨hvL, i, f, rfl, hiL, hf, hlf⟩ := late_at (by rw [← HC.out]; exact hx)
      obtain ⟨bM, oM, hAM, hbM, hcM⟩ := R.out.2.2.2.2.1.ints hpos
      subst hAM
      have d1 := hcM k _ hx
      obtain ⟨bL, oL, hAL, hbL, hcL⟩ := R.out.2.2.2.1.ctx (by omega)
      subst hAL
      obtain ⟨g1, g2, g3⟩ := hcL i f hf
      obtain ⟨p1, p2, p3⟩ := okF_parts ((validF_ok hvL).1 f (List.mem_of_getElem? hf))
      obtain ⟨q1, q2'⟩ := findB_one p1 p3
      have hnone := late_none hlf
      have hkM : (k : Int) < (M.length : Int) := by omega
      have hkn : (0 : Int) ≤ (k : Int) := by omega
      have hiLi : (i : Int) < (L.length : Int) := by omega
      have hin0 : (0 : Int) ≤ (i : Int) := by omega
      obtain ⟨W6, hW6⟩ : ∃ W6, W6 = (w5.alloc (.cells #[.int .i64 f.id, .int .i64 f.kind, .int .i64 f.area] 31)).alloc (.cells #[.int .i64 f.area] 3) := ⟨_, rfl⟩
      have b6 : Below w5.heap.size w5 W6 := by rw [hW6]; exact ((Below.refl w5.heap.size w5).alloc (Nat.le_refl _) _).alloc (by simp) _
      have r6 : Reads W6 W6.heap.size 1 (some ⟨w5.heap.size + 1, 0, none⟩) 1 (cellsI [f.area]) := by
        rw [hW6]
        have := reads_int (w := w5.alloc (.cells #[.int .i64 f.id, .int .i64 f.kind, .int .i64 f.area] 31)) (n := f.area) (t := 3) (B := ((w5.alloc (.cells #[.int .i64 f.id, .int .i64 f.kind, .int .i64 f.area] 31)).alloc (.cells #[.int .i64 f.area] 3)).heap.size) (by simp)
        simpa using this
      have hF : Calls Try.prog 20 #[.int .i64 f.id, .slice (some ⟨w5.heap.size + 1, 0, none⟩) 1 1] W6 (BoundOk W6 (findB f.id [f.area]) (findOkB f.id [f.area])) := iFindBound_any _ 1 [f.area] f.id W6 r6 (by simp)
      rw [q1, q2'] at hF
      obtain ⟨i0, hi0, hz0, hz1, hz2⟩ := info_parts infoBound
      obtain ⟨b, hb⟩ : ∃ b : Ctx, b = ⟨f.id, f.area, 999⟩ := ⟨_, rfl⟩
      obtain ⟨xs, hxs⟩ : ∃ xs, xs = bs ++ [b] := ⟨_, rfl⟩
      have hno : okD ids l xs = false := by rw [hxs, hb]; exact hnone
      have hxl : xs.length = bs.length + 1 := by rw [hxs]; simp
      have hxb : xs.length ≤ 100000 := by omega
      have HXL := Lib.hid hxl
      have HXS := Lib.hid (And.intro hxs (And.intro hno hb))
      have HF6 := Lib.hid (And.intro b6 hF)
      have HW6 := Lib.hid hW6
      clear hx hvL hf hlf hcM hcL p1 p2 p3 q1 q2' hnone r6 hF hxs hno hxl hke hb b6
      go_wp2_with (go_at_call 20; rw [← hW6]; go_must (refine HF6.out.2.mono ?_); rintro e w8 ⟨rfl, k8⟩)
      clear hW6
      obtain ⟨W9, hW9⟩ : ∃ W9, W9 = w8.alloc (.cells #[.int .i64 f.id, .int .i64 f.area, .int .i64 999] 33) := ⟨_, rfl⟩
      have b9 : Below w8.heap.size w8 W9 := by rw [hW9]; exact (Below.refl w8.heap.size w8).alloc (Nat.le_refl _) _
      have hbb : w8.heap.size < W9.heap.size := by rw [hW9]; simp
      have hbx : W9.heap[w8.heap.size]? = some (.cells #[.int .i64 b.id, .int .i64 b.kind, .int .i64 b.area] 33 (0, 0)) := by rw [hW9, HXS.out.2.2]; exact heap_alloc_new _ _
      have f1 := cell_of_row _ _ 0 _ _ _ hbx
      have f2 := cell_of_row _ _ 1 _ _ _ hbx
      have f3 := cell_of_row _ _ 2 _ _ _ hbx
      dsimp at f1 f2 f3
      have b59 := below_step HF6.out.1 (below_step k8 b9)
      have R9 := Lib.hid (And.intro (R.out.1.step b59) (And.intro (R.out.2.1.step b59) (And.intro (R.out.2.2.1.step b59) (below_step R.out.2.2.2.2.2.2 b59))))
      rw [← hW9]
      clear hbx hW9 b9 b59 k8 d1 g1 g2 g3
      have aA : Below W9.heap.size W9 ((W9.drewN 1).alloc (.cells #[] 33)) := (below_draws (Below.refl _ _) 1).alloc (Nat.le_refl _) _
      have aB : Below W9.heap.size W9 (((W9.drewN 1).alloc (.cells #[] 33)).alloc (.cells #[.int .i64 b.id, .int .i64 b.kind, .int .i64 b.area] 33)) := aA.alloc aA.size _
      have aC : Below W9.heap.size W9 (((W9.drewN 1).alloc (.cells #[.int .i64 b.id, .int .i64 b.kind, .int .i64 b.area] 33)).alloc (.cells #[] 33)) := ((below_draws (Below.refl _ _) 1).alloc (Nat.le_refl _) (.cells #[.int .i64 b.id, .int .i64 b.kind, .int .i64 b.area] 33)).alloc (by simp) _
      have oA : ((W9.drewN 1).alloc (.cells #[] 33)).ownsRow W9.heap.size 33 3 (.slice (some ⟨W9.heap.size, 0, none⟩) 0 0) 0 [] := own_empty (w := (W9.drewN 1)) (Nat.le_refl _) rfl
      have oB : (((W9.drewN 1).alloc (.cells #[] 33)).alloc (.cells #[.int .i64 b.id, .int .i64 b.kind, .int .i64 b.area] 33)).ownsRow W9.heap.size 33 3 (.slice (some ⟨W9.heap.size, 0, none⟩) 0 0) 0 [] := oA.alloc _
      have oC : (((W9.drewN 1).alloc (.cells #[.int .i64 b.id, .int .i64 b.kind, .int .i64 b.area] 33)).alloc (.cells #[] 33)).ownsRow W9.heap.size 33 3 (.slice (some ⟨W9.heap.size + 1, 0, none⟩) 0 0) 0 [] := own_empty (by simp) (by simp)
      have rA := (R9.out.2.2.1).below aA
      have rB := (R9.out.2.2.1).below aB
      have rC := (R9.out.2.2.1).below aC
      have nB : (((W9.drewN 1).alloc (.cells #[] 33)).alloc (.cells #[.int .i64 b.id, .int .i64 b.kind, .int .i64 b.area] 33)).heap[W9.heap.size + 1]? = some (.cells #[.int .i64 b.id, .int .i64 b.kind, .int .i64 b.area] 33 (0, 0)) := by
        have := heap_alloc_new ((W9.drewN 1).alloc (.cells #[] 33)) (.cells #[.int .i64 b.id, .int .i64 b.kind, .int .i64 b.area] 33)
        simpa using this
      have nC : (((W9.drewN 1).alloc (.cells #[.int .i64 b.id, .int .i64 b.kind, .int .i64 b.area] 33)).alloc (.cells #[] 33)).heap[W9.heap.size]? = some (.cells #[.int .i64 b.id, .int .i64 b.kind, .int .i64 b.area] 33 (0, 0)) := (Below.heap_alloc _ _ _ (by simp)).trans (heap_alloc_new (W9.drewN 1) (.cells #[.int .i64 b.id, .int .i64 b.kind, .int .i64 b.area] 33))
      have XA := Lib.hid (And.intro aA (And.intro oA (And.intro rA True.intro)))
      have XB := Lib.hid (And.intro aB (And.intro oB (And.intro rB nB)))
      have XC := Lib.hid (And.intro aC (And.intro oC (And.intro rC nC)))
      have HF0 := Lib.hid (And.intro hbb (And.intro f1 (And.intro f2 f3)))
      clear aA aB aC oA oB oC rA rB rC nB nC
      go_region_held3 (fun w' => w'.cell? ⟨w8.heap.size, 0, none⟩ = some (.int .i64 b.id) ∧ w'.cell? ⟨w8.heap.size, 1, none⟩ = some (.int .i64 b.kind) ∧ w'.cell? ⟨w8.heap.size, 2, none⟩ = some (.int .i64 b.area))
        (first
          | assumption
          | exact ⟨f1, f2, f3⟩
          | exact ⟨s0, s1, s2⟩
          | (refine ⟨?_, ?_, ?_⟩ <;> (first
              | assumption
              | (rw [World.cell?_alloc_lt _ _ _ (by first | omega | (simp; omega))]; first | assumption | (go_simp; done))
              | (go_simp; done))))
        (first
          | (refine step_append_want ((W9.drewN 1).alloc (.cells #[] 33)) (by rfl) (.tmp 81) (.tmp 82) _ (by rfl) W9.heap.size 33 i0 _ 3 24 Try.underlying25 hi0 hz0 hz1 hz2 rfl (by omega) (.slice (some ⟨W9.heap.size, 0, none⟩) 0 0) 0 [] (by rfl) XA.out.2.1 _ _ bs.length _ (cellsC bs) (by rfl) XA.out.2.2.1 (cellsC_one _) (by simp only [maxLen]; omega) (by omega) XA.out.1.size ?_
             intro v6 w6 o6 g6 t6
             have b6 : Below W9.heap.size W9 w6 := XA.out.1.grown g6 XA.out.1.size (fun j hj => by simp [Value.ownBlock] at hj; omega)
             skip
             have s0 := (below_cell b6 _ _ HF0.out.1).trans HF0.out.2.1
             have s1 := (below_cell b6 _ _ HF0.out.1).trans HF0.out.2.2.1
             have s2 := (below_cell b6 _ _ HF0.out.1).trans HF0.out.2.2.2
             have z6 := b6.size)
          | (refine step_append_want (((W9.drewN 1).alloc (.cells #[] 33)).alloc (.cells #[.int .i64 b.id, .int .i64 b.kind, .int .i64 b.area] 33)) (by rfl) (.tmp 81) (.tmp 82) _ (by rfl) W9.heap.size 33 i0 _ 3 24 Try.underlying25 hi0 hz0 hz1 hz2 rfl (by omega) (.slice (some ⟨W9.heap.size, 0, none⟩) 0 0) 0 [] (by rfl) XB.out.2.1 _ _ bs.length _ (cellsC bs) (by rfl) XB.out.2.2.1 (cellsC_one _) (by simp only [maxLen]; omega) (by omega) XB.out.1.size ?_
             intro v6 w6 o6 g6 t6
             have b6 : Below W9.heap.size W9 w6 := XB.out.1.grown g6 XB.out.1.size (fun j hj => by simp [Value.ownBlock] at hj; omega)
             have hN := reads_new XB.out.2.2.2 g6 (by simp [Value.ownBlock])
             have s0 := (below_cell b6 _ _ HF0.out.1).trans HF0.out.2.1
             have s1 := (below_cell b6 _ _ HF0.out.1).trans HF0.out.2.2.1
             have s2 := (below_cell b6 _ _ HF0.out.1).trans HF0.out.2.2.2
             have z6 := b6.size)
          | (refine step_append_want (((W9.drewN 1).alloc (.cells #[.int .i64 b.id, .int .i64 b.kind, .int .i64 b.area] 33)).alloc (.cells #[] 33)) (by rfl) (.tmp 81) (.tmp 82) _ (by rfl) W9.heap.size 33 i0 _ 3 24 Try.underlying25 hi0 hz0 hz1 hz2 rfl (by omega) (.slice (some ⟨W9.heap.size + 1, 0, none⟩) 0 0) 0 [] (by rfl) XC.out.2.1 _ _ bs.length _ (cellsC bs) (by rfl) XC.out.2.2.1 (cellsC_one _) (by simp only [maxLen]; omega) (by omega) XC.out.1.size ?_
             intro v6 w6 o6 g6 t6
             have b6 : Below W9.heap.size W9 w6 := XC.out.1.grown g6 XC.out.1.size (fun j hj => by simp [Value.ownBlock] at hj; omega)
             have hN := reads_new XC.out.2.2.2 g6 (by simp [Value.ownBlock])
             have s0 := (below_cell b6 _ _ HF0.out.1).trans HF0.out.2.1
             have s1 := (below_cell b6 _ _ HF0.out.1).trans HF0.out.2.2.1
             have s2 := (below_cell b6 _ _ HF0.out.1).trans HF0.out.2.2.2
             have z6 := b6.size)
          | (refine step_append_want (w6.alloc (.cells #[.int .i64 b.id, .int .i64 b.kind, .int .i64 b.area] 33)) (by rfl) (.tmp 83) (.tmp 85) _ (by rfl) W9.heap.size 33 i0 _ 3 24 Try.underlying25 hi0 hz0 hz1 hz2 rfl (by omega) v6 (0 + bs.length) ([] ++ cellsC bs) (by rfl) (o6.alloc _) _ _ 1 _ (cellsC [b]) (by rfl) (reads_one (B := w6.heap.size + 1) (by omega)) (cellsC_one _) (by simp only [maxLen]; omega) (by omega) (by simp; omega) ?_
             intro v7 w7 o7 g7 t7
             have b7 : Below W9.heap.size W9 w7 := (b6.alloc z6 _).trans (app_below0 (o6.alloc _) (Nat.le_refl _) (by simp; omega) g7)
             rw [List.nil_append, ← cellsC_append, ← HXS.out.1, show 0 + bs.length + 1 = xs.length from by have := HXL.out; omega] at o7
             obtain ⟨A7, c7, hv7, _, hr7⟩ := own_slice o7
             subst hv7
             have H7 := Lib.hid (And.intro b7 hr7)
             have s0 := (below_cell b7 _ _ HF0.out.1).trans HF0.out.2.1
             have s1 := (below_cell b7 _ _ HF0.out.1).trans HF0.out.2.2.1
             have s2 := (below_cell b7 _ _ HF0.out.1).trans HF0.out.2.2.2
             clear o7 b7 hr7)
          | (refine step_append_want w6 (by rfl) (.tmp 83) (.tmp 85) _ (by rfl) W9.heap.size 33 i0 _ 3 24 Try.underlying25 hi0 hz0 hz1 hz2 rfl (by omega) v6 (0 + bs.length) ([] ++ cellsC bs) (by rfl) o6 _ _ 1 _ (cellsC [b]) (by rfl) hN (cellsC_one _) (by simp only [maxLen]; omega) (by omega) z6 ?_
             intro v7 w7 o7 g7 t7
             have b7 : Below W9.heap.size W9 w7 := b6.trans (app_below0 o6 (Nat.le_refl _) z6 g7)
             rw [List.nil_append, ← cellsC_append, ← HXS.out.1, show 0 + bs.length + 1 = xs.length from by have := HXL.out; omega] at o7
             obtain ⟨A7, c7, hv7, _, hr7⟩ := own_slice o7
             subst hv7
             have H7 := Lib.hid (And.intro b7 hr7)
             have s0 := (below_cell b7 _ _ HF0.out.1).trans HF0.out.2.1
             have s1 := (below_cell b7 _ _ HF0.out.1).trans HF0.out.2.2.1
             have s2 := (below_cell b7 _ _ HF0.out.1).trans HF0.out.2.2.2
             clear o7 b7 hr7)
          | (go_simp
             go_at_call 30
             refine (iDatesOf_any _ _ _ _ _ _ ids l xs _ (R9.out.1.step H7.out.1) (R9.out.2.1.step H7.out.1) H7.out.2 (by omega) (by omega) (by omega)).mono ?_
             rw [HXS.out.2.1]
             rintro e w10 ⟨v10, rfl, hb10, ho10⟩
             have H10 := Lib.hid (below_step H7.out.1 hb10)
             have s0 := (below_cell (below_step H7.out.1 hb10) _ _ HF0.out.1).trans HF0.out.2.1
             have s1 := (below_cell (below_step H7.out.1 hb10) _ _ HF0.out.1).trans HF0.out.2.2.1
             have s2 := (below_cell (below_step H7.out.1 hb10) _ _ HF0.out.1).trans HF0.out.2.2.2
             clear hb10 ho10))
      all_goals
        go_wp2_with fail
        go_ret
        exact ⟨rfl, below_step R9.out.2.2.2 H10.out⟩

theorem walk (A : Option Addr) (c : Nat) (z : List Int) (B : Option Addr) (cb : Nat) (y : List Int) (w : World) (h1 : z.length ≤ c) (h2 : Reads w w.heap.size 1 A z.length (cellsB z)) (h3 : ∀ b ∈ z, 0 ≤ b ∧ b ≤ 255) (h4 : c ≤ maxLen) (k1 : y.length ≤ cb) (k2 : Reads w w.heap.size 1 B y.length (cellsB y)) (k3 : ∀ b ∈ y, 0 ≤ b ∧ b ≤ 255) (k4 : cb ≤ maxLen) :
    Calls Try.prog 8 #[.slice A z.length c, .slice B y.length cb] w fun e w2 => e = .returned (.bool true) ∧ Below w.heap.size w w2 := by
  by_cases hn : z.length ≤ 1048576
  · by_cases hy : y.length ≤ 1048576
    · exact walk_short A c z B cb y w (Bytes.mk_ h1 h2 h3 h4) (Bytes.mk_ k1 k2 k3 k4) hn hy
    · have e0 : decide ((1048576 : Int) < (z.length : Int)) = false := decide_eq_false (by omega)
      have e1 : decide ((1048576 : Int) < (y.length : Int)) = true := decide_eq_true (by omega)
      go_enter Try.func8, Try.ntmps8
      go_wp2_with fail
      go_ret
      exact ⟨rfl, Below.refl _ _⟩
  · have e0 : decide ((1048576 : Int) < (z.length : Int)) = true := decide_eq_true (by omega)
    go_enter Try.func8, Try.ntmps8
    go_wp2_with fail
    go_ret
    exact ⟨rfl, Below.refl _ _⟩

set_option linter.unusedVariables false
set_option maxRecDepth 100000 in
theorem lifted (os : Os) (started : os.Started) (H : Type) (enc : TypeId × Value → H) :
    ReturnsInHanded {} Try.checked os 8 .any (Rows.fnFindsLateBoundSpec.pre6 enc Try.prog Try.f8 Rows.fnFindsLateBoundRow.domain false) (Rows.fnFindsLateBoundSpec.post enc Try.prog Try.f8 false true false false) := by
  refine returnsInHanded_of_change (C := Try.checked) lawOwn started (by kernel_rfl) Try.func8
    (ChangeSpec.witness6 (enc := enc) (C := Try.checked) false ⟨#[], #[.slice none 0 0, .slice none 0 0], []⟩ 8 (by kernel_rfl) (by kernel_rfl) (by kernel_rfl) (by kernel_rfl)) ?_
  intro W base args ds gs before hval0 hW hcnd _
  have hval : ∀ (j : Nat) t v, Try.f8.params[j]? = some t → args[j]? = some v → Value.okWide Try.prog W .any base t v := hval0
  have hW' := hW
  obtain ⟨p, q, hA0, hV, rfl, hfz, hnd⟩ := hW
  have hA : DataW.TrodAll enc Try.prog W 0 (fun _ => true) true Try.f8.params.toList args.toList ds p := hA0
  rw [Try.params8] at hA hval
  obtain ⟨v0, vs0, d0, ds0, p0, q0, hargs, rfl, rfl, h0, r0⟩ := trodAll_cons hA
  obtain ⟨v1, vs1, d1, ds1, p1, q1, rfl, rfl, rfl, h1, r1⟩ := trodAll_cons r0
  obtain ⟨rfl, rfl, rfl⟩ := trodAll_nil r1
  obtain rfl : args = #[v0, v1] := by cases args; simp_all
  obtain ⟨rfl, rfl⟩ := trodVars_none hV
  have k0 := h0
  have lt0 : ∀ x ∈ p0, x.block < W.heap.size := by obtain ⟨m, hm⟩ := k0; exact DataW.trod_lt m _ _ _ hm
  obtain ⟨a0, len0, cap0, rfl⟩ := okWide_slice Try.underlying22 (hval 0 22 v0 rfl rfl)
  obtain ⟨z0, hl0, hc0, hr0, hb0, hm0⟩ : ∃ z : List Int, len0 = z.length ∧ len0 ≤ cap0 ∧ Reads W W.heap.size 1 a0 len0 (cellsB z) ∧ (∀ b ∈ z, 0 ≤ b ∧ b ≤ 255) ∧ cap0 ≤ maxLen := by
    obtain ⟨fuel, hf⟩ := h0
    exact open_bytes Try.underlying22 Try.underlying5 (by kernel_rfl) (by simpa [Value.cells] using hf)
  subst hl0
  have k1 := h1
  have lt1 : ∀ x ∈ p1, x.block < W.heap.size := by obtain ⟨m, hm⟩ := k1; exact DataW.trod_lt m _ _ _ hm
  obtain ⟨a1, len1, cap1, rfl⟩ := okWide_slice Try.underlying22 (hval 1 22 v1 rfl rfl)
  obtain ⟨z1, hl1, hc1, hr1, hb1, hm1⟩ : ∃ z : List Int, len1 = z.length ∧ len1 ≤ cap1 ∧ Reads W W.heap.size 1 a1 len1 (cellsB z) ∧ (∀ b ∈ z, 0 ≤ b ∧ b ≤ 255) ∧ cap1 ≤ maxLen := by
    obtain ⟨fuel, hf⟩ := h1
    exact open_bytes Try.underlying22 Try.underlying5 (by kernel_rfl) (by simpa [Value.cells] using hf)
  subst hl1
  clear hA0 hval0
  refine (walk a0 cap0 z0 a1 cap1 z1 W hc0 hr0 hb0 hm0 hc1 hr1 hb1 hm1).mono fun e W' ⟨he, bel⟩ => ?_
  subst he
  exact ⟨_, rfl, _, _, _, [], _, [], hW', trodAll_mk1 (shut_bool Try.underlying4 _), (trodAll_cons_mk (Below.trod lawLaid (by kernel_rfl) (of_decide_eq_true (by kernel_rfl)) k0 bel lt0) (trodAll_cons_mk (Below.trod lawLaid (by kernel_rfl) (of_decide_eq_true (by kernel_rfl)) k1 bel lt1) trodAll_mk0)), rfl, bel.frame _, fun h => by cases h⟩

theorem closed : joinedFacts Try.checked.prog 8 Try.f8 Rows.fnFindsLateBoundSpec Rows.fnFindsLateBoundRow = true := by
  unfold joinedFacts
  repeat (refine and_t ?_ (by first | (with_reducible exact ent) | (with_reducible refine lif_c ?_; kernel_rfl) | (with_reducible refine mak_c ?_; kernel_rfl) | kernel_rfl))
  kernel_rfl
theorem proved : Rows.FnFindsLateBoundSaid :=
  OpenClaim.holds_of_wide 8 Try.f8 rfl rfl rfl rfl rfl rfl rfl ⟨rfl, rfl, rfl, rfl, rfl⟩ rfl rfl rfl rfl rfl (by kernel_rfl) Try.func8 closed
    (of_decide_eq_true (by kernel_rfl)) (by unfold Func.isWrapper; rw [if_neg (of_decide_eq_false (by kernel_rfl))]; exact ⟨rfl, rfl⟩)
    (fun os started H enc _ => lifted os started H enc)
#print axioms proved
end Go.Proofs.Ytopdmcnbchpihaa.lawFindsLateBound
