/- The laws draw a relation. -/
import Derived.Test.YtpkmnigkcefnpaaDoorDr
import Derived.Test.YtpkmnigkcefnpaaDoorC2
namespace Go.Proofs.YtpkmnigkcefnpaaDoor
open Go.RowKit

set_option maxHeartbeats 4000000 in
set_option maxRecDepth 100000 in
theorem drawR_any (g c p : Nat) (A : Option Addr) (z : List Int) (n : Int) (w : World) (h : Rd w g A z c p) (hp : p ≤ 900000) (hn1 : 1 ≤ n) (hn2 : n ≤ 50) :
    Calls Tryd.prog 58 #[.pointer (some ⟨g, 0, none⟩), .int .i64 n] w fun e w2 => ∃ x : Ctx, e = .returned (.agg #[.int .i64 x.id, .int .i64 x.kind, .int .i64 x.area]) ∧ Drawn w g A z c p 7 w2 := by
  have hlt := h.lt
  have hn0 : ¬ w.heap.size = g := by omega
  go_enter Tryd.func58, Tryd.ntmps58
  go_wp2_with fail
  refine (pick_any g c p A z _ _ (h.step ((Below.refl _ _).alloc (Nat.le_refl _) _)) (by omega) (by omega)).mono ?_
  rintro e w2 ⟨r2, rfl, a2, b2, _, hr2, hg2⟩
  have b2 := b2 (by omega)
  go_wp2_with fail
  refine (pick_any g c _ A z _ _ hr2 (by omega) (by omega)).mono ?_
  rintro e w3 ⟨r3, rfl, a3, b3, _, hr3, hg3⟩
  have b3 := b3 (by omega)
  have g3 : w.grownBy w3 (some g) := ((World.grownBy_alloc w _ _).trans hg2).trans hg3
  have hs3 : w.heap.size < w3.heap.size := by
    have e2 := hg2.size
    have e3 := hg3.size
    simp at e2
    omega
  have hn4 : ¬ w3.heap.size = g := by omega
  have hn04 : ¬ w.heap.size = w3.heap.size := by omega
  have hn40 : ¬ w3.heap.size = w.heap.size := by omega
  rcases Int.lt_trichotomy r2 r3 with hab | rfl | hab
  · have e0 : ((1 + r2) == (1 + r3)) = false := by rw [beq_eq_false_iff_ne]; omega
    have e1 : min (1 + r2) (1 + r3) = 1 + r2 := by omega
    have e2 : max (1 + r2) (1 + r3) = 1 + r3 := by omega
    go_wp2_with fail
    have m03 := row_keep hg3 (row_keep hg2 (heap_alloc_new w (.cells #[.int .i64 0, .int .i64 0, .int .i64 0] 30)) hn0) hn0
    refine (pick_any g c _ A z _ _ (hr3.step ((Below.refl _ _).alloc (Nat.le_refl _) _)) (by omega) (by omega)).mono ?_
    rintro e w5 ⟨r5, rfl, a5, b5, _, hr5, hg5⟩
    have b5 := b5 (by omega)
    have M05 := Lib.hid (row_keep hg5 (row_alloc m03) hn0)
    have M45 := Lib.hid (row_keep hg5 (heap_alloc_new _ _) hn4)
    have G5 := Lib.hid ((grown_alloc g3 _).trans hg5)
    have hs5 : w3.heap.size < w5.heap.size := (Array.getElem?_eq_some_iff.1 M45.out).1
    clear hg5 hg3 hg2 m03 g3 hr2 hr3
    have hc5 : (r5 = 0 ∨ r5 = 1 ∨ r5 = 2) ∨ r5 = 3 ∨ r5 = 4 ∨ 5 ≤ r5 := by omega
    rcases hc5 with hc5 | rfl | rfl | hc5
    · rcases hc5 with rfl | rfl | rfl
      · skip
        have z0 : w5.cell? ⟨w.heap.size, 0, none⟩ = some (.int .i64 0) := cell_of_row _ _ 0 _ _ _ M05.out
        have z1 : w5.cell? ⟨w.heap.size, 1, none⟩ = some (.int .i64 0) := cell_of_row _ _ 1 _ _ _ M05.out
        have z2 : w5.cell? ⟨w.heap.size, 2, none⟩ = some (.int .i64 0) := cell_of_row _ _ 2 _ _ _ M05.out
        have f0 := frozen_of_row _ _ 0 _ _ M05.out
        have f1 := frozen_of_row _ _ 1 _ _ M05.out
        have f2 := frozen_of_row _ _ 2 _ _ M05.out
        have y0 : w5.cell? ⟨w3.heap.size, 0, none⟩ = some (.int .i64 (1 + r2)) := cell_of_row _ _ 0 _ _ _ M45.out
        have y1 : w5.cell? ⟨w3.heap.size, 1, none⟩ = some (.int .i64 (1 + r3)) := cell_of_row _ _ 1 _ _ _ M45.out
        have y2 : w5.cell? ⟨w3.heap.size, 2, none⟩ = some (.int .i64 1) := cell_of_row _ _ 2 _ _ _ M45.out
        have x0 := frozen_of_row _ _ 0 _ _ M45.out
        have x1 := frozen_of_row _ _ 1 _ _ M45.out
        have x2 := frozen_of_row _ _ 2 _ _ M45.out
        go_wp2_with fail
        refine bodyPost_ret (v := .agg #[.int .i64 (1 + r2), .int .i64 (1 + r3), .int .i64 2]) (by simp [results, Tryd.results58, go_sem, *]) rfl ⟨⟨(1 + r2), (1 + r3), 2⟩, rfl, ⟨⟨_, by omega, ((((((((hr5).set (by simp; omega) _)).set (by simp; omega) _)).set (by simp; omega) _)).set (by simp; omega) _)⟩, (grown_new (grown_new (grown_new (grown_new G5.out (by simp; omega) _) (by simp) _) (by simp) _) (by simp) _)⟩⟩
      · skip
        have z0 : w5.cell? ⟨w.heap.size, 0, none⟩ = some (.int .i64 0) := cell_of_row _ _ 0 _ _ _ M05.out
        have z1 : w5.cell? ⟨w.heap.size, 1, none⟩ = some (.int .i64 0) := cell_of_row _ _ 1 _ _ _ M05.out
        have z2 : w5.cell? ⟨w.heap.size, 2, none⟩ = some (.int .i64 0) := cell_of_row _ _ 2 _ _ _ M05.out
        have f0 := frozen_of_row _ _ 0 _ _ M05.out
        have f1 := frozen_of_row _ _ 1 _ _ M05.out
        have f2 := frozen_of_row _ _ 2 _ _ M05.out
        have y0 : w5.cell? ⟨w3.heap.size, 0, none⟩ = some (.int .i64 (1 + r2)) := cell_of_row _ _ 0 _ _ _ M45.out
        have y1 : w5.cell? ⟨w3.heap.size, 1, none⟩ = some (.int .i64 (1 + r3)) := cell_of_row _ _ 1 _ _ _ M45.out
        have y2 : w5.cell? ⟨w3.heap.size, 2, none⟩ = some (.int .i64 1) := cell_of_row _ _ 2 _ _ _ M45.out
        have x0 := frozen_of_row _ _ 0 _ _ M45.out
        have x1 := frozen_of_row _ _ 1 _ _ M45.out
        have x2 := frozen_of_row _ _ 2 _ _ M45.out
        go_wp2_with fail
        refine bodyPost_ret (v := .agg #[.int .i64 (1 + r2), .int .i64 (1 + r3), .int .i64 2]) (by simp [results, Tryd.results58, go_sem, *]) rfl ⟨⟨(1 + r2), (1 + r3), 2⟩, rfl, ⟨⟨_, by omega, ((((((((hr5).set (by simp; omega) _)).set (by simp; omega) _)).set (by simp; omega) _)).set (by simp; omega) _)⟩, (grown_new (grown_new (grown_new (grown_new G5.out (by simp; omega) _) (by simp) _) (by simp) _) (by simp) _)⟩⟩
      · skip
        have z0 : w5.cell? ⟨w.heap.size, 0, none⟩ = some (.int .i64 0) := cell_of_row _ _ 0 _ _ _ M05.out
        have z1 : w5.cell? ⟨w.heap.size, 1, none⟩ = some (.int .i64 0) := cell_of_row _ _ 1 _ _ _ M05.out
        have z2 : w5.cell? ⟨w.heap.size, 2, none⟩ = some (.int .i64 0) := cell_of_row _ _ 2 _ _ _ M05.out
        have f0 := frozen_of_row _ _ 0 _ _ M05.out
        have f1 := frozen_of_row _ _ 1 _ _ M05.out
        have f2 := frozen_of_row _ _ 2 _ _ M05.out
        have y0 : w5.cell? ⟨w3.heap.size, 0, none⟩ = some (.int .i64 (1 + r2)) := cell_of_row _ _ 0 _ _ _ M45.out
        have y1 : w5.cell? ⟨w3.heap.size, 1, none⟩ = some (.int .i64 (1 + r3)) := cell_of_row _ _ 1 _ _ _ M45.out
        have y2 : w5.cell? ⟨w3.heap.size, 2, none⟩ = some (.int .i64 1) := cell_of_row _ _ 2 _ _ _ M45.out
        have x0 := frozen_of_row _ _ 0 _ _ M45.out
        have x1 := frozen_of_row _ _ 1 _ _ M45.out
        have x2 := frozen_of_row _ _ 2 _ _ M45.out
        go_wp2_with fail
        refine bodyPost_ret (v := .agg #[.int .i64 (1 + r2), .int .i64 (1 + r3), .int .i64 2]) (by simp [results, Tryd.results58, go_sem, *]) rfl ⟨⟨(1 + r2), (1 + r3), 2⟩, rfl, ⟨⟨_, by omega, ((((((((hr5).set (by simp; omega) _)).set (by simp; omega) _)).set (by simp; omega) _)).set (by simp; omega) _)⟩, (grown_new (grown_new (grown_new (grown_new G5.out (by simp; omega) _) (by simp) _) (by simp) _) (by simp) _)⟩⟩
    · skip
      have z0 : w5.cell? ⟨w.heap.size, 0, none⟩ = some (.int .i64 0) := cell_of_row _ _ 0 _ _ _ M05.out
      have z1 : w5.cell? ⟨w.heap.size, 1, none⟩ = some (.int .i64 0) := cell_of_row _ _ 1 _ _ _ M05.out
      have z2 : w5.cell? ⟨w.heap.size, 2, none⟩ = some (.int .i64 0) := cell_of_row _ _ 2 _ _ _ M05.out
      have f0 := frozen_of_row _ _ 0 _ _ M05.out
      have f1 := frozen_of_row _ _ 1 _ _ M05.out
      have f2 := frozen_of_row _ _ 2 _ _ M05.out
      have y0 : w5.cell? ⟨w3.heap.size, 0, none⟩ = some (.int .i64 (1 + r2)) := cell_of_row _ _ 0 _ _ _ M45.out
      have y1 : w5.cell? ⟨w3.heap.size, 1, none⟩ = some (.int .i64 (1 + r3)) := cell_of_row _ _ 1 _ _ _ M45.out
      have y2 : w5.cell? ⟨w3.heap.size, 2, none⟩ = some (.int .i64 1) := cell_of_row _ _ 2 _ _ _ M45.out
      have x0 := frozen_of_row _ _ 0 _ _ M45.out
      have x1 := frozen_of_row _ _ 1 _ _ M45.out
      have x2 := frozen_of_row _ _ 2 _ _ M45.out
      go_wp2_with fail
      refine bodyPost_ret (v := .agg #[.int .i64 (1 + r3), .int .i64 (1 + r2), .int .i64 1]) (by simp [results, Tryd.results58, go_sem, *]) rfl ⟨⟨(1 + r3), (1 + r2), 1⟩, rfl, ⟨⟨_, by omega, ((((((hr5).set (by simp; omega) _)).set (by simp; omega) _)).set (by simp; omega) _)⟩, (grown_new (grown_new (grown_new G5.out (by simp) _) (by simp) _) (by simp) _)⟩⟩
    · skip
      go_wp2_with fail
      refine (pick_any g c _ A z _ _ hr5 (by omega) (by omega)).mono ?_
      rintro e w6 ⟨r6, rfl, a6, b6, _, hr6, hg6⟩
      have b6 := b6 (by omega)
      have M06 := Lib.hid (row_keep hg6 M05.out hn0)
      have M46 := Lib.hid (row_keep hg6 M45.out hn4)
      have G6 := Lib.hid (G5.out.trans hg6)
      have hs6 : w3.heap.size < w6.heap.size := (Array.getElem?_eq_some_iff.1 M46.out).1
      clear hg6
      by_cases c6 : r6 = 0
      · have e6 : (r6 == 0) = true := by simp [c6]
        clear c6
        go_wp2_with fail
        refine (pick_any g c _ A z _ _ hr6 (by omega) (by omega)).mono ?_
        rintro e w7 ⟨r7, rfl, a7, b7, _, hr7, hg7⟩
        have b7 := b7 (by omega)
        have M07 := Lib.hid (row_keep hg7 M06.out hn0)
        have M47 := Lib.hid (row_keep hg7 M46.out hn4)
        have G7 := Lib.hid (G6.out.trans hg7)
        have hs7 : w3.heap.size < w7.heap.size := (Array.getElem?_eq_some_iff.1 M47.out).1
        clear hg7
        go_wp2_with fail
        refine (pick_any g c _ A z _ _ hr7 (by omega) (by omega)).mono ?_
        rintro e w8 ⟨r8, rfl, a8, b8, _, hr8, hg8⟩
        have b8 := b8 (by omega)
        have M08 := Lib.hid (row_keep hg8 M07.out hn0)
        have M48 := Lib.hid (row_keep hg8 M47.out hn4)
        have G8 := Lib.hid (G7.out.trans hg8)
        have hs8 : w3.heap.size < w8.heap.size := (Array.getElem?_eq_some_iff.1 M48.out).1
        clear hg8
        go_wp2_with fail
        refine (pick_any g c _ A z _ _ hr8 (by omega) (by omega)).mono ?_
        rintro e w9 ⟨r9, rfl, a9, b9, _, hr9, hg9⟩
        have b9 := b9 (by omega)
        have M09 := Lib.hid (row_keep hg9 M08.out hn0)
        have M49 := Lib.hid (row_keep hg9 M48.out hn4)
        have G9 := Lib.hid (G8.out.trans hg9)
        have hs9 : w3.heap.size < w9.heap.size := (Array.getElem?_eq_some_iff.1 M49.out).1
        clear hg9
        have z0 : w9.cell? ⟨w.heap.size, 0, none⟩ = some (.int .i64 0) := cell_of_row _ _ 0 _ _ _ M09.out
        have z1 : w9.cell? ⟨w.heap.size, 1, none⟩ = some (.int .i64 0) := cell_of_row _ _ 1 _ _ _ M09.out
        have z2 : w9.cell? ⟨w.heap.size, 2, none⟩ = some (.int .i64 0) := cell_of_row _ _ 2 _ _ _ M09.out
        have f0 := frozen_of_row _ _ 0 _ _ M09.out
        have f1 := frozen_of_row _ _ 1 _ _ M09.out
        have f2 := frozen_of_row _ _ 2 _ _ M09.out
        have y0 : w9.cell? ⟨w3.heap.size, 0, none⟩ = some (.int .i64 (1 + r2)) := cell_of_row _ _ 0 _ _ _ M49.out
        have y1 : w9.cell? ⟨w3.heap.size, 1, none⟩ = some (.int .i64 (1 + r3)) := cell_of_row _ _ 1 _ _ _ M49.out
        have y2 : w9.cell? ⟨w3.heap.size, 2, none⟩ = some (.int .i64 1) := cell_of_row _ _ 2 _ _ _ M49.out
        have x0 := frozen_of_row _ _ 0 _ _ M49.out
        have x1 := frozen_of_row _ _ 1 _ _ M49.out
        have x2 := frozen_of_row _ _ 2 _ _ M49.out
        go_wp2_with fail
        refine bodyPost_ret (v := .agg #[.int .i64 (r7 * 33), .int .i64 (r8 * 50), .int .i64 r9]) (by simp [results, Tryd.results58, go_sem, *]) rfl ⟨⟨(r7 * 33), (r8 * 50), r9⟩, rfl, ⟨⟨_, by omega, ((((((hr9).set (by simp; omega) _)).set (by simp; omega) _)).set (by simp; omega) _)⟩, (grown_new (grown_new (grown_new G9.out (by simp) _) (by simp) _) (by simp) _)⟩⟩
      · have e6 : (r6 == 0) = false := by simp [c6]
        clear c6
        have z0 : w6.cell? ⟨w.heap.size, 0, none⟩ = some (.int .i64 0) := cell_of_row _ _ 0 _ _ _ M06.out
        have z1 : w6.cell? ⟨w.heap.size, 1, none⟩ = some (.int .i64 0) := cell_of_row _ _ 1 _ _ _ M06.out
        have z2 : w6.cell? ⟨w.heap.size, 2, none⟩ = some (.int .i64 0) := cell_of_row _ _ 2 _ _ _ M06.out
        have f0 := frozen_of_row _ _ 0 _ _ M06.out
        have f1 := frozen_of_row _ _ 1 _ _ M06.out
        have f2 := frozen_of_row _ _ 2 _ _ M06.out
        have y0 : w6.cell? ⟨w3.heap.size, 0, none⟩ = some (.int .i64 (1 + r2)) := cell_of_row _ _ 0 _ _ _ M46.out
        have y1 : w6.cell? ⟨w3.heap.size, 1, none⟩ = some (.int .i64 (1 + r3)) := cell_of_row _ _ 1 _ _ _ M46.out
        have y2 : w6.cell? ⟨w3.heap.size, 2, none⟩ = some (.int .i64 1) := cell_of_row _ _ 2 _ _ _ M46.out
        have x0 := frozen_of_row _ _ 0 _ _ M46.out
        have x1 := frozen_of_row _ _ 1 _ _ M46.out
        have x2 := frozen_of_row _ _ 2 _ _ M46.out
        go_wp2_with fail
        refine bodyPost_ret (v := .agg #[.int .i64 (1 + r2), .int .i64 (1 + r3), .int .i64 1]) (by simp [results, Tryd.results58, go_sem, *]) rfl ⟨⟨(1 + r2), (1 + r3), 1⟩, rfl, ⟨⟨_, by omega, ((((((hr6).set (by simp; omega) _)).set (by simp; omega) _)).set (by simp; omega) _)⟩, (grown_new (grown_new (grown_new G6.out (by simp) _) (by simp) _) (by simp) _)⟩⟩
    · skip
      have q0 : (r5 == 0) = false := by simp; omega
      have q1 : (r5 == 1) = false := by simp; omega
      have q2 : (r5 == 2) = false := by simp; omega
      have q3 : (r5 == 3) = false := by simp; omega
      have q4 : (r5 == 4) = false := by simp; omega
      have z0 : w5.cell? ⟨w.heap.size, 0, none⟩ = some (.int .i64 0) := cell_of_row _ _ 0 _ _ _ M05.out
      have z1 : w5.cell? ⟨w.heap.size, 1, none⟩ = some (.int .i64 0) := cell_of_row _ _ 1 _ _ _ M05.out
      have z2 : w5.cell? ⟨w.heap.size, 2, none⟩ = some (.int .i64 0) := cell_of_row _ _ 2 _ _ _ M05.out
      have f0 := frozen_of_row _ _ 0 _ _ M05.out
      have f1 := frozen_of_row _ _ 1 _ _ M05.out
      have f2 := frozen_of_row _ _ 2 _ _ M05.out
      have y0 : w5.cell? ⟨w3.heap.size, 0, none⟩ = some (.int .i64 (1 + r2)) := cell_of_row _ _ 0 _ _ _ M45.out
      have y1 : w5.cell? ⟨w3.heap.size, 1, none⟩ = some (.int .i64 (1 + r3)) := cell_of_row _ _ 1 _ _ _ M45.out
      have y2 : w5.cell? ⟨w3.heap.size, 2, none⟩ = some (.int .i64 1) := cell_of_row _ _ 2 _ _ _ M45.out
      have x0 := frozen_of_row _ _ 0 _ _ M45.out
      have x1 := frozen_of_row _ _ 1 _ _ M45.out
      have x2 := frozen_of_row _ _ 2 _ _ M45.out
      go_wp2_with fail
      refine bodyPost_ret (v := .agg #[.int .i64 (1 + r2), .int .i64 (1 + r3), .int .i64 1]) (by simp [results, Tryd.results58, go_sem, *]) rfl ⟨⟨(1 + r2), (1 + r3), 1⟩, rfl, ⟨⟨_, by omega, ((((((hr5).set (by simp; omega) _)).set (by simp; omega) _)).set (by simp; omega) _)⟩, (grown_new (grown_new (grown_new G5.out (by simp) _) (by simp) _) (by simp) _)⟩⟩
  · skip
    go_wp2_with fail
    have m03 := row_keep hg3 (row_keep hg2 (heap_alloc_new w (.cells #[.int .i64 0, .int .i64 0, .int .i64 0] 30)) hn0) hn0
    refine (pick_any g c _ A z _ _ (hr3.step ((Below.refl _ _).alloc (Nat.le_refl _) _)) (by omega) (by omega)).mono ?_
    rintro e w5 ⟨r5, rfl, a5, b5, _, hr5, hg5⟩
    have b5 := b5 (by omega)
    have M05 := Lib.hid (row_keep hg5 (row_alloc m03) hn0)
    have M45 := Lib.hid (row_keep hg5 (heap_alloc_new _ _) hn4)
    have G5 := Lib.hid ((grown_alloc g3 _).trans hg5)
    have hs5 : w3.heap.size < w5.heap.size := (Array.getElem?_eq_some_iff.1 M45.out).1
    clear hg5 hg3 hg2 m03 g3 hr2 hr3
    have hc5 : (r5 = 0 ∨ r5 = 1 ∨ r5 = 2) ∨ r5 = 3 ∨ r5 = 4 ∨ 5 ≤ r5 := by omega
    rcases hc5 with hc5 | rfl | rfl | hc5
    · rcases hc5 with rfl | rfl | rfl
      · skip
        have z0 : w5.cell? ⟨w.heap.size, 0, none⟩ = some (.int .i64 0) := cell_of_row _ _ 0 _ _ _ M05.out
        have z1 : w5.cell? ⟨w.heap.size, 1, none⟩ = some (.int .i64 0) := cell_of_row _ _ 1 _ _ _ M05.out
        have z2 : w5.cell? ⟨w.heap.size, 2, none⟩ = some (.int .i64 0) := cell_of_row _ _ 2 _ _ _ M05.out
        have f0 := frozen_of_row _ _ 0 _ _ M05.out
        have f1 := frozen_of_row _ _ 1 _ _ M05.out
        have f2 := frozen_of_row _ _ 2 _ _ M05.out
        have y0 : w5.cell? ⟨w3.heap.size, 0, none⟩ = some (.int .i64 (1 + r2)) := cell_of_row _ _ 0 _ _ _ M45.out
        have y1 : w5.cell? ⟨w3.heap.size, 1, none⟩ = some (.int .i64 (1 + r2 + 1)) := cell_of_row _ _ 1 _ _ _ M45.out
        have y2 : w5.cell? ⟨w3.heap.size, 2, none⟩ = some (.int .i64 1) := cell_of_row _ _ 2 _ _ _ M45.out
        have x0 := frozen_of_row _ _ 0 _ _ M45.out
        have x1 := frozen_of_row _ _ 1 _ _ M45.out
        have x2 := frozen_of_row _ _ 2 _ _ M45.out
        go_wp2_with fail
        refine bodyPost_ret (v := .agg #[.int .i64 (1 + r2), .int .i64 (1 + r2 + 1), .int .i64 2]) (by simp [results, Tryd.results58, go_sem, *]) rfl ⟨⟨(1 + r2), (1 + r2 + 1), 2⟩, rfl, ⟨⟨_, by omega, ((((((((hr5).set (by simp; omega) _)).set (by simp; omega) _)).set (by simp; omega) _)).set (by simp; omega) _)⟩, (grown_new (grown_new (grown_new (grown_new G5.out (by simp; omega) _) (by simp) _) (by simp) _) (by simp) _)⟩⟩
      · skip
        have z0 : w5.cell? ⟨w.heap.size, 0, none⟩ = some (.int .i64 0) := cell_of_row _ _ 0 _ _ _ M05.out
        have z1 : w5.cell? ⟨w.heap.size, 1, none⟩ = some (.int .i64 0) := cell_of_row _ _ 1 _ _ _ M05.out
        have z2 : w5.cell? ⟨w.heap.size, 2, none⟩ = some (.int .i64 0) := cell_of_row _ _ 2 _ _ _ M05.out
        have f0 := frozen_of_row _ _ 0 _ _ M05.out
        have f1 := frozen_of_row _ _ 1 _ _ M05.out
        have f2 := frozen_of_row _ _ 2 _ _ M05.out
        have y0 : w5.cell? ⟨w3.heap.size, 0, none⟩ = some (.int .i64 (1 + r2)) := cell_of_row _ _ 0 _ _ _ M45.out
        have y1 : w5.cell? ⟨w3.heap.size, 1, none⟩ = some (.int .i64 (1 + r2 + 1)) := cell_of_row _ _ 1 _ _ _ M45.out
        have y2 : w5.cell? ⟨w3.heap.size, 2, none⟩ = some (.int .i64 1) := cell_of_row _ _ 2 _ _ _ M45.out
        have x0 := frozen_of_row _ _ 0 _ _ M45.out
        have x1 := frozen_of_row _ _ 1 _ _ M45.out
        have x2 := frozen_of_row _ _ 2 _ _ M45.out
        go_wp2_with fail
        refine bodyPost_ret (v := .agg #[.int .i64 (1 + r2), .int .i64 (1 + r2 + 1), .int .i64 2]) (by simp [results, Tryd.results58, go_sem, *]) rfl ⟨⟨(1 + r2), (1 + r2 + 1), 2⟩, rfl, ⟨⟨_, by omega, ((((((((hr5).set (by simp; omega) _)).set (by simp; omega) _)).set (by simp; omega) _)).set (by simp; omega) _)⟩, (grown_new (grown_new (grown_new (grown_new G5.out (by simp; omega) _) (by simp) _) (by simp) _) (by simp) _)⟩⟩
      · skip
        have z0 : w5.cell? ⟨w.heap.size, 0, none⟩ = some (.int .i64 0) := cell_of_row _ _ 0 _ _ _ M05.out
        have z1 : w5.cell? ⟨w.heap.size, 1, none⟩ = some (.int .i64 0) := cell_of_row _ _ 1 _ _ _ M05.out
        have z2 : w5.cell? ⟨w.heap.size, 2, none⟩ = some (.int .i64 0) := cell_of_row _ _ 2 _ _ _ M05.out
        have f0 := frozen_of_row _ _ 0 _ _ M05.out
        have f1 := frozen_of_row _ _ 1 _ _ M05.out
        have f2 := frozen_of_row _ _ 2 _ _ M05.out
        have y0 : w5.cell? ⟨w3.heap.size, 0, none⟩ = some (.int .i64 (1 + r2)) := cell_of_row _ _ 0 _ _ _ M45.out
        have y1 : w5.cell? ⟨w3.heap.size, 1, none⟩ = some (.int .i64 (1 + r2 + 1)) := cell_of_row _ _ 1 _ _ _ M45.out
        have y2 : w5.cell? ⟨w3.heap.size, 2, none⟩ = some (.int .i64 1) := cell_of_row _ _ 2 _ _ _ M45.out
        have x0 := frozen_of_row _ _ 0 _ _ M45.out
        have x1 := frozen_of_row _ _ 1 _ _ M45.out
        have x2 := frozen_of_row _ _ 2 _ _ M45.out
        go_wp2_with fail
        refine bodyPost_ret (v := .agg #[.int .i64 (1 + r2), .int .i64 (1 + r2 + 1), .int .i64 2]) (by simp [results, Tryd.results58, go_sem, *]) rfl ⟨⟨(1 + r2), (1 + r2 + 1), 2⟩, rfl, ⟨⟨_, by omega, ((((((((hr5).set (by simp; omega) _)).set (by simp; omega) _)).set (by simp; omega) _)).set (by simp; omega) _)⟩, (grown_new (grown_new (grown_new (grown_new G5.out (by simp; omega) _) (by simp) _) (by simp) _) (by simp) _)⟩⟩
    · skip
      have z0 : w5.cell? ⟨w.heap.size, 0, none⟩ = some (.int .i64 0) := cell_of_row _ _ 0 _ _ _ M05.out
      have z1 : w5.cell? ⟨w.heap.size, 1, none⟩ = some (.int .i64 0) := cell_of_row _ _ 1 _ _ _ M05.out
      have z2 : w5.cell? ⟨w.heap.size, 2, none⟩ = some (.int .i64 0) := cell_of_row _ _ 2 _ _ _ M05.out
      have f0 := frozen_of_row _ _ 0 _ _ M05.out
      have f1 := frozen_of_row _ _ 1 _ _ M05.out
      have f2 := frozen_of_row _ _ 2 _ _ M05.out
      have y0 : w5.cell? ⟨w3.heap.size, 0, none⟩ = some (.int .i64 (1 + r2)) := cell_of_row _ _ 0 _ _ _ M45.out
      have y1 : w5.cell? ⟨w3.heap.size, 1, none⟩ = some (.int .i64 (1 + r2 + 1)) := cell_of_row _ _ 1 _ _ _ M45.out
      have y2 : w5.cell? ⟨w3.heap.size, 2, none⟩ = some (.int .i64 1) := cell_of_row _ _ 2 _ _ _ M45.out
      have x0 := frozen_of_row _ _ 0 _ _ M45.out
      have x1 := frozen_of_row _ _ 1 _ _ M45.out
      have x2 := frozen_of_row _ _ 2 _ _ M45.out
      go_wp2_with fail
      refine bodyPost_ret (v := .agg #[.int .i64 (1 + r2 + 1), .int .i64 (1 + r2), .int .i64 1]) (by simp [results, Tryd.results58, go_sem, *]) rfl ⟨⟨(1 + r2 + 1), (1 + r2), 1⟩, rfl, ⟨⟨_, by omega, ((((((hr5).set (by simp; omega) _)).set (by simp; omega) _)).set (by simp; omega) _)⟩, (grown_new (grown_new (grown_new G5.out (by simp) _) (by simp) _) (by simp) _)⟩⟩
    · skip
      go_wp2_with fail
      refine (pick_any g c _ A z _ _ hr5 (by omega) (by omega)).mono ?_
      rintro e w6 ⟨r6, rfl, a6, b6, _, hr6, hg6⟩
      have b6 := b6 (by omega)
      have M06 := Lib.hid (row_keep hg6 M05.out hn0)
      have M46 := Lib.hid (row_keep hg6 M45.out hn4)
      have G6 := Lib.hid (G5.out.trans hg6)
      have hs6 : w3.heap.size < w6.heap.size := (Array.getElem?_eq_some_iff.1 M46.out).1
      clear hg6
      by_cases c6 : r6 = 0
      · have e6 : (r6 == 0) = true := by simp [c6]
        clear c6
        go_wp2_with fail
        refine (pick_any g c _ A z _ _ hr6 (by omega) (by omega)).mono ?_
        rintro e w7 ⟨r7, rfl, a7, b7, _, hr7, hg7⟩
        have b7 := b7 (by omega)
        have M07 := Lib.hid (row_keep hg7 M06.out hn0)
        have M47 := Lib.hid (row_keep hg7 M46.out hn4)
        have G7 := Lib.hid (G6.out.trans hg7)
        have hs7 : w3.heap.size < w7.heap.size := (Array.getElem?_eq_some_iff.1 M47.out).1
        clear hg7
        go_wp2_with fail
        refine (pick_any g c _ A z _ _ hr7 (by omega) (by omega)).mono ?_
        rintro e w8 ⟨r8, rfl, a8, b8, _, hr8, hg8⟩
        have b8 := b8 (by omega)
        have M08 := Lib.hid (row_keep hg8 M07.out hn0)
        have M48 := Lib.hid (row_keep hg8 M47.out hn4)
        have G8 := Lib.hid (G7.out.trans hg8)
        have hs8 : w3.heap.size < w8.heap.size := (Array.getElem?_eq_some_iff.1 M48.out).1
        clear hg8
        go_wp2_with fail
        refine (pick_any g c _ A z _ _ hr8 (by omega) (by omega)).mono ?_
        rintro e w9 ⟨r9, rfl, a9, b9, _, hr9, hg9⟩
        have b9 := b9 (by omega)
        have M09 := Lib.hid (row_keep hg9 M08.out hn0)
        have M49 := Lib.hid (row_keep hg9 M48.out hn4)
        have G9 := Lib.hid (G8.out.trans hg9)
        have hs9 : w3.heap.size < w9.heap.size := (Array.getElem?_eq_some_iff.1 M49.out).1
        clear hg9
        have z0 : w9.cell? ⟨w.heap.size, 0, none⟩ = some (.int .i64 0) := cell_of_row _ _ 0 _ _ _ M09.out
        have z1 : w9.cell? ⟨w.heap.size, 1, none⟩ = some (.int .i64 0) := cell_of_row _ _ 1 _ _ _ M09.out
        have z2 : w9.cell? ⟨w.heap.size, 2, none⟩ = some (.int .i64 0) := cell_of_row _ _ 2 _ _ _ M09.out
        have f0 := frozen_of_row _ _ 0 _ _ M09.out
        have f1 := frozen_of_row _ _ 1 _ _ M09.out
        have f2 := frozen_of_row _ _ 2 _ _ M09.out
        have y0 : w9.cell? ⟨w3.heap.size, 0, none⟩ = some (.int .i64 (1 + r2)) := cell_of_row _ _ 0 _ _ _ M49.out
        have y1 : w9.cell? ⟨w3.heap.size, 1, none⟩ = some (.int .i64 (1 + r2 + 1)) := cell_of_row _ _ 1 _ _ _ M49.out
        have y2 : w9.cell? ⟨w3.heap.size, 2, none⟩ = some (.int .i64 1) := cell_of_row _ _ 2 _ _ _ M49.out
        have x0 := frozen_of_row _ _ 0 _ _ M49.out
        have x1 := frozen_of_row _ _ 1 _ _ M49.out
        have x2 := frozen_of_row _ _ 2 _ _ M49.out
        go_wp2_with fail
        refine bodyPost_ret (v := .agg #[.int .i64 (r7 * 33), .int .i64 (r8 * 50), .int .i64 r9]) (by simp [results, Tryd.results58, go_sem, *]) rfl ⟨⟨(r7 * 33), (r8 * 50), r9⟩, rfl, ⟨⟨_, by omega, ((((((hr9).set (by simp; omega) _)).set (by simp; omega) _)).set (by simp; omega) _)⟩, (grown_new (grown_new (grown_new G9.out (by simp) _) (by simp) _) (by simp) _)⟩⟩
      · have e6 : (r6 == 0) = false := by simp [c6]
        clear c6
        have z0 : w6.cell? ⟨w.heap.size, 0, none⟩ = some (.int .i64 0) := cell_of_row _ _ 0 _ _ _ M06.out
        have z1 : w6.cell? ⟨w.heap.size, 1, none⟩ = some (.int .i64 0) := cell_of_row _ _ 1 _ _ _ M06.out
        have z2 : w6.cell? ⟨w.heap.size, 2, none⟩ = some (.int .i64 0) := cell_of_row _ _ 2 _ _ _ M06.out
        have f0 := frozen_of_row _ _ 0 _ _ M06.out
        have f1 := frozen_of_row _ _ 1 _ _ M06.out
        have f2 := frozen_of_row _ _ 2 _ _ M06.out
        have y0 : w6.cell? ⟨w3.heap.size, 0, none⟩ = some (.int .i64 (1 + r2)) := cell_of_row _ _ 0 _ _ _ M46.out
        have y1 : w6.cell? ⟨w3.heap.size, 1, none⟩ = some (.int .i64 (1 + r2 + 1)) := cell_of_row _ _ 1 _ _ _ M46.out
        have y2 : w6.cell? ⟨w3.heap.size, 2, none⟩ = some (.int .i64 1) := cell_of_row _ _ 2 _ _ _ M46.out
        have x0 := frozen_of_row _ _ 0 _ _ M46.out
        have x1 := frozen_of_row _ _ 1 _ _ M46.out
        have x2 := frozen_of_row _ _ 2 _ _ M46.out
        go_wp2_with fail
        refine bodyPost_ret (v := .agg #[.int .i64 (1 + r2), .int .i64 (1 + r2 + 1), .int .i64 1]) (by simp [results, Tryd.results58, go_sem, *]) rfl ⟨⟨(1 + r2), (1 + r2 + 1), 1⟩, rfl, ⟨⟨_, by omega, ((((((hr6).set (by simp; omega) _)).set (by simp; omega) _)).set (by simp; omega) _)⟩, (grown_new (grown_new (grown_new G6.out (by simp) _) (by simp) _) (by simp) _)⟩⟩
    · skip
      have q0 : (r5 == 0) = false := by simp; omega
      have q1 : (r5 == 1) = false := by simp; omega
      have q2 : (r5 == 2) = false := by simp; omega
      have q3 : (r5 == 3) = false := by simp; omega
      have q4 : (r5 == 4) = false := by simp; omega
      have z0 : w5.cell? ⟨w.heap.size, 0, none⟩ = some (.int .i64 0) := cell_of_row _ _ 0 _ _ _ M05.out
      have z1 : w5.cell? ⟨w.heap.size, 1, none⟩ = some (.int .i64 0) := cell_of_row _ _ 1 _ _ _ M05.out
      have z2 : w5.cell? ⟨w.heap.size, 2, none⟩ = some (.int .i64 0) := cell_of_row _ _ 2 _ _ _ M05.out
      have f0 := frozen_of_row _ _ 0 _ _ M05.out
      have f1 := frozen_of_row _ _ 1 _ _ M05.out
      have f2 := frozen_of_row _ _ 2 _ _ M05.out
      have y0 : w5.cell? ⟨w3.heap.size, 0, none⟩ = some (.int .i64 (1 + r2)) := cell_of_row _ _ 0 _ _ _ M45.out
      have y1 : w5.cell? ⟨w3.heap.size, 1, none⟩ = some (.int .i64 (1 + r2 + 1)) := cell_of_row _ _ 1 _ _ _ M45.out
      have y2 : w5.cell? ⟨w3.heap.size, 2, none⟩ = some (.int .i64 1) := cell_of_row _ _ 2 _ _ _ M45.out
      have x0 := frozen_of_row _ _ 0 _ _ M45.out
      have x1 := frozen_of_row _ _ 1 _ _ M45.out
      have x2 := frozen_of_row _ _ 2 _ _ M45.out
      go_wp2_with fail
      refine bodyPost_ret (v := .agg #[.int .i64 (1 + r2), .int .i64 (1 + r2 + 1), .int .i64 1]) (by simp [results, Tryd.results58, go_sem, *]) rfl ⟨⟨(1 + r2), (1 + r2 + 1), 1⟩, rfl, ⟨⟨_, by omega, ((((((hr5).set (by simp; omega) _)).set (by simp; omega) _)).set (by simp; omega) _)⟩, (grown_new (grown_new (grown_new G5.out (by simp) _) (by simp) _) (by simp) _)⟩⟩
  · have e0 : ((1 + r2) == (1 + r3)) = false := by rw [beq_eq_false_iff_ne]; omega
    have e1 : min (1 + r2) (1 + r3) = 1 + r3 := by omega
    have e2 : max (1 + r2) (1 + r3) = 1 + r2 := by omega
    go_wp2_with fail
    have m03 := row_keep hg3 (row_keep hg2 (heap_alloc_new w (.cells #[.int .i64 0, .int .i64 0, .int .i64 0] 30)) hn0) hn0
    refine (pick_any g c _ A z _ _ (hr3.step ((Below.refl _ _).alloc (Nat.le_refl _) _)) (by omega) (by omega)).mono ?_
    rintro e w5 ⟨r5, rfl, a5, b5, _, hr5, hg5⟩
    have b5 := b5 (by omega)
    have M05 := Lib.hid (row_keep hg5 (row_alloc m03) hn0)
    have M45 := Lib.hid (row_keep hg5 (heap_alloc_new _ _) hn4)
    have G5 := Lib.hid ((grown_alloc g3 _).trans hg5)
    have hs5 : w3.heap.size < w5.heap.size := (Array.getElem?_eq_some_iff.1 M45.out).1
    clear hg5 hg3 hg2 m03 g3 hr2 hr3
    have hc5 : (r5 = 0 ∨ r5 = 1 ∨ r5 = 2) ∨ r5 = 3 ∨ r5 = 4 ∨ 5 ≤ r5 := by omega
    rcases hc5 with hc5 | rfl | rfl | hc5
    · rcases hc5 with rfl | rfl | rfl
      · skip
        have z0 : w5.cell? ⟨w.heap.size, 0, none⟩ = some (.int .i64 0) := cell_of_row _ _ 0 _ _ _ M05.out
        have z1 : w5.cell? ⟨w.heap.size, 1, none⟩ = some (.int .i64 0) := cell_of_row _ _ 1 _ _ _ M05.out
        have z2 : w5.cell? ⟨w.heap.size, 2, none⟩ = some (.int .i64 0) := cell_of_row _ _ 2 _ _ _ M05.out
        have f0 := frozen_of_row _ _ 0 _ _ M05.out
        have f1 := frozen_of_row _ _ 1 _ _ M05.out
        have f2 := frozen_of_row _ _ 2 _ _ M05.out
        have y0 : w5.cell? ⟨w3.heap.size, 0, none⟩ = some (.int .i64 (1 + r3)) := cell_of_row _ _ 0 _ _ _ M45.out
        have y1 : w5.cell? ⟨w3.heap.size, 1, none⟩ = some (.int .i64 (1 + r2)) := cell_of_row _ _ 1 _ _ _ M45.out
        have y2 : w5.cell? ⟨w3.heap.size, 2, none⟩ = some (.int .i64 1) := cell_of_row _ _ 2 _ _ _ M45.out
        have x0 := frozen_of_row _ _ 0 _ _ M45.out
        have x1 := frozen_of_row _ _ 1 _ _ M45.out
        have x2 := frozen_of_row _ _ 2 _ _ M45.out
        go_wp2_with fail
        refine bodyPost_ret (v := .agg #[.int .i64 (1 + r3), .int .i64 (1 + r2), .int .i64 2]) (by simp [results, Tryd.results58, go_sem, *]) rfl ⟨⟨(1 + r3), (1 + r2), 2⟩, rfl, ⟨⟨_, by omega, ((((((((hr5).set (by simp; omega) _)).set (by simp; omega) _)).set (by simp; omega) _)).set (by simp; omega) _)⟩, (grown_new (grown_new (grown_new (grown_new G5.out (by simp; omega) _) (by simp) _) (by simp) _) (by simp) _)⟩⟩
      · skip
        have z0 : w5.cell? ⟨w.heap.size, 0, none⟩ = some (.int .i64 0) := cell_of_row _ _ 0 _ _ _ M05.out
        have z1 : w5.cell? ⟨w.heap.size, 1, none⟩ = some (.int .i64 0) := cell_of_row _ _ 1 _ _ _ M05.out
        have z2 : w5.cell? ⟨w.heap.size, 2, none⟩ = some (.int .i64 0) := cell_of_row _ _ 2 _ _ _ M05.out
        have f0 := frozen_of_row _ _ 0 _ _ M05.out
        have f1 := frozen_of_row _ _ 1 _ _ M05.out
        have f2 := frozen_of_row _ _ 2 _ _ M05.out
        have y0 : w5.cell? ⟨w3.heap.size, 0, none⟩ = some (.int .i64 (1 + r3)) := cell_of_row _ _ 0 _ _ _ M45.out
        have y1 : w5.cell? ⟨w3.heap.size, 1, none⟩ = some (.int .i64 (1 + r2)) := cell_of_row _ _ 1 _ _ _ M45.out
        have y2 : w5.cell? ⟨w3.heap.size, 2, none⟩ = some (.int .i64 1) := cell_of_row _ _ 2 _ _ _ M45.out
        have x0 := frozen_of_row _ _ 0 _ _ M45.out
        have x1 := frozen_of_row _ _ 1 _ _ M45.out
        have x2 := frozen_of_row _ _ 2 _ _ M45.out
        go_wp2_with fail
        refine bodyPost_ret (v := .agg #[.int .i64 (1 + r3), .int .i64 (1 + r2), .int .i64 2]) (by simp [results, Tryd.results58, go_sem, *]) rfl ⟨⟨(1 + r3), (1 + r2), 2⟩, rfl, ⟨⟨_, by omega, ((((((((hr5).set (by simp; omega) _)).set (by simp; omega) _)).set (by simp; omega) _)).set (by simp; omega) _)⟩, (grown_new (grown_new (grown_new (grown_new G5.out (by simp; omega) _) (by simp) _) (by simp) _) (by simp) _)⟩⟩
      · skip
        have z0 : w5.cell? ⟨w.heap.size, 0, none⟩ = some (.int .i64 0) := cell_of_row _ _ 0 _ _ _ M05.out
        have z1 : w5.cell? ⟨w.heap.size, 1, none⟩ = some (.int .i64 0) := cell_of_row _ _ 1 _ _ _ M05.out
        have z2 : w5.cell? ⟨w.heap.size, 2, none⟩ = some (.int .i64 0) := cell_of_row _ _ 2 _ _ _ M05.out
        have f0 := frozen_of_row _ _ 0 _ _ M05.out
        have f1 := frozen_of_row _ _ 1 _ _ M05.out
        have f2 := frozen_of_row _ _ 2 _ _ M05.out
        have y0 : w5.cell? ⟨w3.heap.size, 0, none⟩ = some (.int .i64 (1 + r3)) := cell_of_row _ _ 0 _ _ _ M45.out
        have y1 : w5.cell? ⟨w3.heap.size, 1, none⟩ = some (.int .i64 (1 + r2)) := cell_of_row _ _ 1 _ _ _ M45.out
        have y2 : w5.cell? ⟨w3.heap.size, 2, none⟩ = some (.int .i64 1) := cell_of_row _ _ 2 _ _ _ M45.out
        have x0 := frozen_of_row _ _ 0 _ _ M45.out
        have x1 := frozen_of_row _ _ 1 _ _ M45.out
        have x2 := frozen_of_row _ _ 2 _ _ M45.out
        go_wp2_with fail
        refine bodyPost_ret (v := .agg #[.int .i64 (1 + r3), .int .i64 (1 + r2), .int .i64 2]) (by simp [results, Tryd.results58, go_sem, *]) rfl ⟨⟨(1 + r3), (1 + r2), 2⟩, rfl, ⟨⟨_, by omega, ((((((((hr5).set (by simp; omega) _)).set (by simp; omega) _)).set (by simp; omega) _)).set (by simp; omega) _)⟩, (grown_new (grown_new (grown_new (grown_new G5.out (by simp; omega) _) (by simp) _) (by simp) _) (by simp) _)⟩⟩
    · skip
      have z0 : w5.cell? ⟨w.heap.size, 0, none⟩ = some (.int .i64 0) := cell_of_row _ _ 0 _ _ _ M05.out
      have z1 : w5.cell? ⟨w.heap.size, 1, none⟩ = some (.int .i64 0) := cell_of_row _ _ 1 _ _ _ M05.out
      have z2 : w5.cell? ⟨w.heap.size, 2, none⟩ = some (.int .i64 0) := cell_of_row _ _ 2 _ _ _ M05.out
      have f0 := frozen_of_row _ _ 0 _ _ M05.out
      have f1 := frozen_of_row _ _ 1 _ _ M05.out
      have f2 := frozen_of_row _ _ 2 _ _ M05.out
      have y0 : w5.cell? ⟨w3.heap.size, 0, none⟩ = some (.int .i64 (1 + r3)) := cell_of_row _ _ 0 _ _ _ M45.out
      have y1 : w5.cell? ⟨w3.heap.size, 1, none⟩ = some (.int .i64 (1 + r2)) := cell_of_row _ _ 1 _ _ _ M45.out
      have y2 : w5.cell? ⟨w3.heap.size, 2, none⟩ = some (.int .i64 1) := cell_of_row _ _ 2 _ _ _ M45.out
      have x0 := frozen_of_row _ _ 0 _ _ M45.out
      have x1 := frozen_of_row _ _ 1 _ _ M45.out
      have x2 := frozen_of_row _ _ 2 _ _ M45.out
      go_wp2_with fail
      refine bodyPost_ret (v := .agg #[.int .i64 (1 + r2), .int .i64 (1 + r3), .int .i64 1]) (by simp [results, Tryd.results58, go_sem, *]) rfl ⟨⟨(1 + r2), (1 + r3), 1⟩, rfl, ⟨⟨_, by omega, ((((((hr5).set (by simp; omega) _)).set (by simp; omega) _)).set (by simp; omega) _)⟩, (grown_new (grown_new (grown_new G5.out (by simp) _) (by simp) _) (by simp) _)⟩⟩
    · skip
      go_wp2_with fail
      refine (pick_any g c _ A z _ _ hr5 (by omega) (by omega)).mono ?_
      rintro e w6 ⟨r6, rfl, a6, b6, _, hr6, hg6⟩
      have b6 := b6 (by omega)
      have M06 := Lib.hid (row_keep hg6 M05.out hn0)
      have M46 := Lib.hid (row_keep hg6 M45.out hn4)
      have G6 := Lib.hid (G5.out.trans hg6)
      have hs6 : w3.heap.size < w6.heap.size := (Array.getElem?_eq_some_iff.1 M46.out).1
      clear hg6
      by_cases c6 : r6 = 0
      · have e6 : (r6 == 0) = true := by simp [c6]
        clear c6
        go_wp2_with fail
        refine (pick_any g c _ A z _ _ hr6 (by omega) (by omega)).mono ?_
        rintro e w7 ⟨r7, rfl, a7, b7, _, hr7, hg7⟩
        have b7 := b7 (by omega)
        have M07 := Lib.hid (row_keep hg7 M06.out hn0)
        have M47 := Lib.hid (row_keep hg7 M46.out hn4)
        have G7 := Lib.hid (G6.out.trans hg7)
        have hs7 : w3.heap.size < w7.heap.size := (Array.getElem?_eq_some_iff.1 M47.out).1
        clear hg7
        go_wp2_with fail
        refine (pick_any g c _ A z _ _ hr7 (by omega) (by omega)).mono ?_
        rintro e w8 ⟨r8, rfl, a8, b8, _, hr8, hg8⟩
        have b8 := b8 (by omega)
        have M08 := Lib.hid (row_keep hg8 M07.out hn0)
        have M48 := Lib.hid (row_keep hg8 M47.out hn4)
        have G8 := Lib.hid (G7.out.trans hg8)
        have hs8 : w3.heap.size < w8.heap.size := (Array.getElem?_eq_some_iff.1 M48.out).1
        clear hg8
        go_wp2_with fail
        refine (pick_any g c _ A z _ _ hr8 (by omega) (by omega)).mono ?_
        rintro e w9 ⟨r9, rfl, a9, b9, _, hr9, hg9⟩
        have b9 := b9 (by omega)
        have M09 := Lib.hid (row_keep hg9 M08.out hn0)
        have M49 := Lib.hid (row_keep hg9 M48.out hn4)
        have G9 := Lib.hid (G8.out.trans hg9)
        have hs9 : w3.heap.size < w9.heap.size := (Array.getElem?_eq_some_iff.1 M49.out).1
        clear hg9
        have z0 : w9.cell? ⟨w.heap.size, 0, none⟩ = some (.int .i64 0) := cell_of_row _ _ 0 _ _ _ M09.out
        have z1 : w9.cell? ⟨w.heap.size, 1, none⟩ = some (.int .i64 0) := cell_of_row _ _ 1 _ _ _ M09.out
        have z2 : w9.cell? ⟨w.heap.size, 2, none⟩ = some (.int .i64 0) := cell_of_row _ _ 2 _ _ _ M09.out
        have f0 := frozen_of_row _ _ 0 _ _ M09.out
        have f1 := frozen_of_row _ _ 1 _ _ M09.out
        have f2 := frozen_of_row _ _ 2 _ _ M09.out
        have y0 : w9.cell? ⟨w3.heap.size, 0, none⟩ = some (.int .i64 (1 + r3)) := cell_of_row _ _ 0 _ _ _ M49.out
        have y1 : w9.cell? ⟨w3.heap.size, 1, none⟩ = some (.int .i64 (1 + r2)) := cell_of_row _ _ 1 _ _ _ M49.out
        have y2 : w9.cell? ⟨w3.heap.size, 2, none⟩ = some (.int .i64 1) := cell_of_row _ _ 2 _ _ _ M49.out
        have x0 := frozen_of_row _ _ 0 _ _ M49.out
        have x1 := frozen_of_row _ _ 1 _ _ M49.out
        have x2 := frozen_of_row _ _ 2 _ _ M49.out
        go_wp2_with fail
        refine bodyPost_ret (v := .agg #[.int .i64 (r7 * 33), .int .i64 (r8 * 50), .int .i64 r9]) (by simp [results, Tryd.results58, go_sem, *]) rfl ⟨⟨(r7 * 33), (r8 * 50), r9⟩, rfl, ⟨⟨_, by omega, ((((((hr9).set (by simp; omega) _)).set (by simp; omega) _)).set (by simp; omega) _)⟩, (grown_new (grown_new (grown_new G9.out (by simp) _) (by simp) _) (by simp) _)⟩⟩
      · have e6 : (r6 == 0) = false := by simp [c6]
        clear c6
        have z0 : w6.cell? ⟨w.heap.size, 0, none⟩ = some (.int .i64 0) := cell_of_row _ _ 0 _ _ _ M06.out
        have z1 : w6.cell? ⟨w.heap.size, 1, none⟩ = some (.int .i64 0) := cell_of_row _ _ 1 _ _ _ M06.out
        have z2 : w6.cell? ⟨w.heap.size, 2, none⟩ = some (.int .i64 0) := cell_of_row _ _ 2 _ _ _ M06.out
        have f0 := frozen_of_row _ _ 0 _ _ M06.out
        have f1 := frozen_of_row _ _ 1 _ _ M06.out
        have f2 := frozen_of_row _ _ 2 _ _ M06.out
        have y0 : w6.cell? ⟨w3.heap.size, 0, none⟩ = some (.int .i64 (1 + r3)) := cell_of_row _ _ 0 _ _ _ M46.out
        have y1 : w6.cell? ⟨w3.heap.size, 1, none⟩ = some (.int .i64 (1 + r2)) := cell_of_row _ _ 1 _ _ _ M46.out
        have y2 : w6.cell? ⟨w3.heap.size, 2, none⟩ = some (.int .i64 1) := cell_of_row _ _ 2 _ _ _ M46.out
        have x0 := frozen_of_row _ _ 0 _ _ M46.out
        have x1 := frozen_of_row _ _ 1 _ _ M46.out
        have x2 := frozen_of_row _ _ 2 _ _ M46.out
        go_wp2_with fail
        refine bodyPost_ret (v := .agg #[.int .i64 (1 + r3), .int .i64 (1 + r2), .int .i64 1]) (by simp [results, Tryd.results58, go_sem, *]) rfl ⟨⟨(1 + r3), (1 + r2), 1⟩, rfl, ⟨⟨_, by omega, ((((((hr6).set (by simp; omega) _)).set (by simp; omega) _)).set (by simp; omega) _)⟩, (grown_new (grown_new (grown_new G6.out (by simp) _) (by simp) _) (by simp) _)⟩⟩
    · skip
      have q0 : (r5 == 0) = false := by simp; omega
      have q1 : (r5 == 1) = false := by simp; omega
      have q2 : (r5 == 2) = false := by simp; omega
      have q3 : (r5 == 3) = false := by simp; omega
      have q4 : (r5 == 4) = false := by simp; omega
      have z0 : w5.cell? ⟨w.heap.size, 0, none⟩ = some (.int .i64 0) := cell_of_row _ _ 0 _ _ _ M05.out
      have z1 : w5.cell? ⟨w.heap.size, 1, none⟩ = some (.int .i64 0) := cell_of_row _ _ 1 _ _ _ M05.out
      have z2 : w5.cell? ⟨w.heap.size, 2, none⟩ = some (.int .i64 0) := cell_of_row _ _ 2 _ _ _ M05.out
      have f0 := frozen_of_row _ _ 0 _ _ M05.out
      have f1 := frozen_of_row _ _ 1 _ _ M05.out
      have f2 := frozen_of_row _ _ 2 _ _ M05.out
      have y0 : w5.cell? ⟨w3.heap.size, 0, none⟩ = some (.int .i64 (1 + r3)) := cell_of_row _ _ 0 _ _ _ M45.out
      have y1 : w5.cell? ⟨w3.heap.size, 1, none⟩ = some (.int .i64 (1 + r2)) := cell_of_row _ _ 1 _ _ _ M45.out
      have y2 : w5.cell? ⟨w3.heap.size, 2, none⟩ = some (.int .i64 1) := cell_of_row _ _ 2 _ _ _ M45.out
      have x0 := frozen_of_row _ _ 0 _ _ M45.out
      have x1 := frozen_of_row _ _ 1 _ _ M45.out
      have x2 := frozen_of_row _ _ 2 _ _ M45.out
      go_wp2_with fail
      refine bodyPost_ret (v := .agg #[.int .i64 (1 + r3), .int .i64 (1 + r2), .int .i64 1]) (by simp [results, Tryd.results58, go_sem, *]) rfl ⟨⟨(1 + r3), (1 + r2), 1⟩, rfl, ⟨⟨_, by omega, ((((((hr5).set (by simp; omega) _)).set (by simp; omega) _)).set (by simp; omega) _)⟩, (grown_new (grown_new (grown_new G5.out (by simp) _) (by simp) _) (by simp) _)⟩⟩
end Go.Proofs.YtpkmnigkcefnpaaDoor
