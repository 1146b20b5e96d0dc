/- The laws draw a bound. (written by gen_yd.py) -/
import Derived.Test.YtjmbbepklofodaaDr
import Derived.Test.YtjmbbepklofodaaYb
namespace Go.Proofs.Ytjmbbepklofodaa
open Go.RowKit

set_option maxHeartbeats 8000000 in
set_option maxRecDepth 100000 in
theorem drawB_any (g c p : Nat) (A : Option Addr) (z : List Int) (n : Int) (w : World) (h : Rd w g A z c p) (hp : p ≤ 900000) (hn1 : 1 ≤ n) (hn2 : n ≤ 50) :
    Calls Try.prog 44 #[.pointer (some ⟨g, 0, none⟩), .int .i64 n] w fun e w2 => ∃ x : Ctx, e = .returned (.agg #[.int .i64 x.id, .int .i64 x.kind, .int .i64 x.area]) ∧ Drawn w g A z c p 7 w2 := by
  have hlt := h.lt
  have hn0 : ¬ w.heap.size = g := by omega
  go_enter Try.func44, Try.ntmps44
  go_wp2_with fail
  refine (pick_any g c p A z _ _ (h.step ((Below.refl _ _).alloc (Nat.le_refl _) _)) (by omega) (by omega)).mono ?_
  rintro e w2 ⟨r2, rfl, a2, b2, _, hr2, hg2⟩
  have b2 := b2 (by omega)
  go_wp2_with fail
  refine (pick_any g c _ A z _ _ hr2 (by omega) (by omega)).mono ?_
  rintro e w3 ⟨r3, rfl, a3, b3, _, hr3, hg3⟩
  have b3 := b3 (by omega)
  go_wp2_with fail
  refine (pick_any g c _ A z _ _ hr3 (by omega) (by omega)).mono ?_
  rintro e w4 ⟨r4, rfl, a4, b4, _, hr4, hg4⟩
  have b4 := b4 (by omega)
  have g4 : w.grownBy w4 (some g) := (((World.grownBy_alloc w _ _).trans hg2).trans hg3).trans hg4
  have m04 := row_keep hg4 (row_keep hg3 (row_keep hg2 (heap_alloc_new w (.cells #[.int .i64 0, .int .i64 0, .int .i64 0] 29)) hn0) hn0) hn0
  have hs4 : w.heap.size < w4.heap.size := (Array.getElem?_eq_some_iff.1 m04).1
  have hn4 : ¬ w4.heap.size = g := by omega
  have hn04 : ¬ w.heap.size = w4.heap.size := by omega
  have hn40 : ¬ w4.heap.size = w.heap.size := by omega
  have M04 := Lib.hid m04
  have G4 := Lib.hid g4
  clear m04 g4 hg2 hg3 hg4 hr2 hr3 h
  by_cases h9 : 999 < r2 * 10 + r4 * 10
  · go_wp2_with fail
    refine (pick_any g c _ A z _ _ (hr4.step ((Below.refl _ _).alloc (Nat.le_refl _) _)) (by omega) (by omega)).mono ?_
    rintro e w5 ⟨r5, rfl, a5, b5, _, hr5, hg5⟩
    have b5 := b5 (by omega)
    have M05 := Lib.hid (row_keep hg5 (row_alloc M04.out) hn0)
    have M45 := Lib.hid (row_keep hg5 (heap_alloc_new w4 (.cells #[.int .i64 (1 + r3), .int .i64 (r2 * 10), .int .i64 999] 29)) hn4)
    have G5 := Lib.hid ((grown_alloc G4.out _).trans hg5)
    have hs5 : w4.heap.size < w5.heap.size := (Array.getElem?_eq_some_iff.1 M45.out).1
    clear hg5 hr4
    have hc5 : (r5 = 0 ∨ r5 = 1 ∨ r5 = 2 ∨ r5 = 3) ∨ (r5 = 4 ∨ r5 = 5 ∨ r5 = 6 ∨ r5 = 7) ∨ 8 ≤ r5 := by omega
    rcases hc5 with (rfl | rfl | rfl | rfl) | (rfl | rfl | rfl | rfl) | hc5
    · skip
      have z0 : w5.cell? ⟨w.heap.size, 0, none⟩ = some (.int .i64 0) := cell_of_row _ _ 0 _ _ _ M05.out
      have f0 := frozen_of_row _ _ 0 _ _ M05.out
      have z1 : w5.cell? ⟨w.heap.size, 1, none⟩ = some (.int .i64 0) := cell_of_row _ _ 1 _ _ _ M05.out
      have f1 := frozen_of_row _ _ 1 _ _ M05.out
      have z2 : w5.cell? ⟨w.heap.size, 2, none⟩ = some (.int .i64 0) := cell_of_row _ _ 2 _ _ _ M05.out
      have f2 := frozen_of_row _ _ 2 _ _ M05.out
      have y0 : w5.cell? ⟨w4.heap.size, 0, none⟩ = some (.int .i64 (1 + r3)) := cell_of_row _ _ 0 _ _ _ M45.out
      have x0 := frozen_of_row _ _ 0 _ _ M45.out
      have y1 : w5.cell? ⟨w4.heap.size, 1, none⟩ = some (.int .i64 (r2 * 10)) := cell_of_row _ _ 1 _ _ _ M45.out
      have x1 := frozen_of_row _ _ 1 _ _ M45.out
      have y2 : w5.cell? ⟨w4.heap.size, 2, none⟩ = some (.int .i64 999) := cell_of_row _ _ 2 _ _ _ M45.out
      have x2 := frozen_of_row _ _ 2 _ _ M45.out
      go_wp2_with fail
      refine bodyPost_ret (v := .agg #[.int .i64 (1 + r3), .int .i64 (r2 * 10), .int .i64 (r2 * 10 - 1)]) (by simp [results, Try.results44, go_sem, *]) rfl ⟨⟨(1 + r3), (r2 * 10), (r2 * 10 - 1)⟩, rfl, ⟨⟨p + 1 + 1 + 1 + 1, by omega, ?_⟩, ?_⟩⟩
      · repeat (first | exact hr5 | refine Rd.set ?_ (by simp; try omega) _)
      · repeat (first | exact G5.out | refine grown_new ?_ (by simp; try omega) _)
    · skip
      go_wp2_with fail
      refine (pick_any g c _ A z _ _ (hr5.step ((Below.refl _ _).alloc (Nat.le_refl _) _)) (by omega) (by omega)).mono ?_
      rintro e w6 ⟨r6, rfl, a6, b6, _, hr6, hg6⟩
      have b6 := b6 (by omega)
      have hn5 : ¬ w5.heap.size = g := by omega
      have M06 := Lib.hid (row_keep hg6 (row_alloc M05.out) hn0)
      have M46 := Lib.hid (row_keep hg6 (row_alloc M45.out) hn4)
      have A6 := Lib.hid (row_keep hg6 (heap_alloc_new w5 (.cells #[.int .i64 0, .int .i64 99, .int .i64 100] 3)) hn5)
      have G6 := Lib.hid ((grown_alloc G5.out _).trans hg6)
      have hs6 : w5.heap.size < w6.heap.size := (Array.getElem?_eq_some_iff.1 A6.out).1
      clear hg6 hr5
      have hc6 : r6 = 0 ∨ r6 = 1 ∨ r6 = 2 := by omega
      rcases hc6 with rfl | rfl | rfl
      · skip
        have d0 : w6.cell? ⟨w5.heap.size, 0, none⟩ = some (.int .i64 0) := cell_of_row _ _ 0 _ _ _ A6.out
        have z0 : w6.cell? ⟨w.heap.size, 0, none⟩ = some (.int .i64 0) := cell_of_row _ _ 0 _ _ _ M06.out
        have f0 := frozen_of_row _ _ 0 _ _ M06.out
        have z1 : w6.cell? ⟨w.heap.size, 1, none⟩ = some (.int .i64 0) := cell_of_row _ _ 1 _ _ _ M06.out
        have f1 := frozen_of_row _ _ 1 _ _ M06.out
        have z2 : w6.cell? ⟨w.heap.size, 2, none⟩ = some (.int .i64 0) := cell_of_row _ _ 2 _ _ _ M06.out
        have f2 := frozen_of_row _ _ 2 _ _ M06.out
        have y0 : w6.cell? ⟨w4.heap.size, 0, none⟩ = some (.int .i64 (1 + r3)) := cell_of_row _ _ 0 _ _ _ M46.out
        have x0 := frozen_of_row _ _ 0 _ _ M46.out
        have y1 : w6.cell? ⟨w4.heap.size, 1, none⟩ = some (.int .i64 (r2 * 10)) := cell_of_row _ _ 1 _ _ _ M46.out
        have x1 := frozen_of_row _ _ 1 _ _ M46.out
        have y2 : w6.cell? ⟨w4.heap.size, 2, none⟩ = some (.int .i64 999) := cell_of_row _ _ 2 _ _ _ M46.out
        have x2 := frozen_of_row _ _ 2 _ _ M46.out
        go_wp2_with fail
        refine bodyPost_ret (v := .agg #[.int .i64 0, .int .i64 (r2 * 10), .int .i64 999]) (by simp [results, Try.results44, go_sem, *]) rfl ⟨⟨0, (r2 * 10), 999⟩, rfl, ⟨⟨p + 1 + 1 + 1 + 1 + 1, by omega, ?_⟩, ?_⟩⟩
        · repeat (first | exact hr6 | refine Rd.set ?_ (by simp; try omega) _)
        · repeat (first | exact G6.out | refine grown_new ?_ (by simp; try omega) _)
      · skip
        have d1 : w6.cell? ⟨w5.heap.size, 1, none⟩ = some (.int .i64 99) := cell_of_row _ _ 1 _ _ _ A6.out
        have z0 : w6.cell? ⟨w.heap.size, 0, none⟩ = some (.int .i64 0) := cell_of_row _ _ 0 _ _ _ M06.out
        have f0 := frozen_of_row _ _ 0 _ _ M06.out
        have z1 : w6.cell? ⟨w.heap.size, 1, none⟩ = some (.int .i64 0) := cell_of_row _ _ 1 _ _ _ M06.out
        have f1 := frozen_of_row _ _ 1 _ _ M06.out
        have z2 : w6.cell? ⟨w.heap.size, 2, none⟩ = some (.int .i64 0) := cell_of_row _ _ 2 _ _ _ M06.out
        have f2 := frozen_of_row _ _ 2 _ _ M06.out
        have y0 : w6.cell? ⟨w4.heap.size, 0, none⟩ = some (.int .i64 (1 + r3)) := cell_of_row _ _ 0 _ _ _ M46.out
        have x0 := frozen_of_row _ _ 0 _ _ M46.out
        have y1 : w6.cell? ⟨w4.heap.size, 1, none⟩ = some (.int .i64 (r2 * 10)) := cell_of_row _ _ 1 _ _ _ M46.out
        have x1 := frozen_of_row _ _ 1 _ _ M46.out
        have y2 : w6.cell? ⟨w4.heap.size, 2, none⟩ = some (.int .i64 999) := cell_of_row _ _ 2 _ _ _ M46.out
        have x2 := frozen_of_row _ _ 2 _ _ M46.out
        go_wp2_with fail
        refine bodyPost_ret (v := .agg #[.int .i64 99, .int .i64 (r2 * 10), .int .i64 999]) (by simp [results, Try.results44, go_sem, *]) rfl ⟨⟨99, (r2 * 10), 999⟩, rfl, ⟨⟨p + 1 + 1 + 1 + 1 + 1, by omega, ?_⟩, ?_⟩⟩
        · repeat (first | exact hr6 | refine Rd.set ?_ (by simp; try omega) _)
        · repeat (first | exact G6.out | refine grown_new ?_ (by simp; try omega) _)
      · skip
        have d2 : w6.cell? ⟨w5.heap.size, 2, none⟩ = some (.int .i64 100) := cell_of_row _ _ 2 _ _ _ A6.out
        have z0 : w6.cell? ⟨w.heap.size, 0, none⟩ = some (.int .i64 0) := cell_of_row _ _ 0 _ _ _ M06.out
        have f0 := frozen_of_row _ _ 0 _ _ M06.out
        have z1 : w6.cell? ⟨w.heap.size, 1, none⟩ = some (.int .i64 0) := cell_of_row _ _ 1 _ _ _ M06.out
        have f1 := frozen_of_row _ _ 1 _ _ M06.out
        have z2 : w6.cell? ⟨w.heap.size, 2, none⟩ = some (.int .i64 0) := cell_of_row _ _ 2 _ _ _ M06.out
        have f2 := frozen_of_row _ _ 2 _ _ M06.out
        have y0 : w6.cell? ⟨w4.heap.size, 0, none⟩ = some (.int .i64 (1 + r3)) := cell_of_row _ _ 0 _ _ _ M46.out
        have x0 := frozen_of_row _ _ 0 _ _ M46.out
        have y1 : w6.cell? ⟨w4.heap.size, 1, none⟩ = some (.int .i64 (r2 * 10)) := cell_of_row _ _ 1 _ _ _ M46.out
        have x1 := frozen_of_row _ _ 1 _ _ M46.out
        have y2 : w6.cell? ⟨w4.heap.size, 2, none⟩ = some (.int .i64 999) := cell_of_row _ _ 2 _ _ _ M46.out
        have x2 := frozen_of_row _ _ 2 _ _ M46.out
        go_wp2_with fail
        refine bodyPost_ret (v := .agg #[.int .i64 100, .int .i64 (r2 * 10), .int .i64 999]) (by simp [results, Try.results44, go_sem, *]) rfl ⟨⟨100, (r2 * 10), 999⟩, rfl, ⟨⟨p + 1 + 1 + 1 + 1 + 1, by omega, ?_⟩, ?_⟩⟩
        · repeat (first | exact hr6 | refine Rd.set ?_ (by simp; try omega) _)
        · repeat (first | exact G6.out | refine grown_new ?_ (by simp; try omega) _)
    · skip
      go_wp2_with fail
      refine (pick_any g c _ A z _ _ (hr5.step ((Below.refl _ _).alloc (Nat.le_refl _) _)) (by omega) (by omega)).mono ?_
      rintro e w6 ⟨r6, rfl, a6, b6, _, hr6, hg6⟩
      have b6 := b6 (by omega)
      have hn5 : ¬ w5.heap.size = g := by omega
      have M06 := Lib.hid (row_keep hg6 (row_alloc M05.out) hn0)
      have M46 := Lib.hid (row_keep hg6 (row_alloc M45.out) hn4)
      have A6 := Lib.hid (row_keep hg6 (heap_alloc_new w5 (.cells #[.int .i64 (-1), .int .i64 0] 3)) hn5)
      have G6 := Lib.hid ((grown_alloc G5.out _).trans hg6)
      have hs6 : w5.heap.size < w6.heap.size := (Array.getElem?_eq_some_iff.1 A6.out).1
      clear hg6 hr5
      have hc6 : r6 = 0 ∨ r6 = 1 := by omega
      rcases hc6 with rfl | rfl
      · skip
        have d0 : w6.cell? ⟨w5.heap.size, 0, none⟩ = some (.int .i64 (-1)) := cell_of_row _ _ 0 _ _ _ A6.out
        have z0 : w6.cell? ⟨w.heap.size, 0, none⟩ = some (.int .i64 0) := cell_of_row _ _ 0 _ _ _ M06.out
        have f0 := frozen_of_row _ _ 0 _ _ M06.out
        have z1 : w6.cell? ⟨w.heap.size, 1, none⟩ = some (.int .i64 0) := cell_of_row _ _ 1 _ _ _ M06.out
        have f1 := frozen_of_row _ _ 1 _ _ M06.out
        have z2 : w6.cell? ⟨w.heap.size, 2, none⟩ = some (.int .i64 0) := cell_of_row _ _ 2 _ _ _ M06.out
        have f2 := frozen_of_row _ _ 2 _ _ M06.out
        have y0 : w6.cell? ⟨w4.heap.size, 0, none⟩ = some (.int .i64 (1 + r3)) := cell_of_row _ _ 0 _ _ _ M46.out
        have x0 := frozen_of_row _ _ 0 _ _ M46.out
        have y1 : w6.cell? ⟨w4.heap.size, 1, none⟩ = some (.int .i64 (r2 * 10)) := cell_of_row _ _ 1 _ _ _ M46.out
        have x1 := frozen_of_row _ _ 1 _ _ M46.out
        have y2 : w6.cell? ⟨w4.heap.size, 2, none⟩ = some (.int .i64 999) := cell_of_row _ _ 2 _ _ _ M46.out
        have x2 := frozen_of_row _ _ 2 _ _ M46.out
        go_wp2_with fail
        refine bodyPost_ret (v := .agg #[.int .i64 (1 + r3), .int .i64 (-1), .int .i64 999]) (by simp [results, Try.results44, go_sem, *]) rfl ⟨⟨(1 + r3), (-1), 999⟩, rfl, ⟨⟨p + 1 + 1 + 1 + 1 + 1, by omega, ?_⟩, ?_⟩⟩
        · repeat (first | exact hr6 | refine Rd.set ?_ (by simp; try omega) _)
        · repeat (first | exact G6.out | refine grown_new ?_ (by simp; try omega) _)
      · skip
        have d1 : w6.cell? ⟨w5.heap.size, 1, none⟩ = some (.int .i64 0) := cell_of_row _ _ 1 _ _ _ A6.out
        have z0 : w6.cell? ⟨w.heap.size, 0, none⟩ = some (.int .i64 0) := cell_of_row _ _ 0 _ _ _ M06.out
        have f0 := frozen_of_row _ _ 0 _ _ M06.out
        have z1 : w6.cell? ⟨w.heap.size, 1, none⟩ = some (.int .i64 0) := cell_of_row _ _ 1 _ _ _ M06.out
        have f1 := frozen_of_row _ _ 1 _ _ M06.out
        have z2 : w6.cell? ⟨w.heap.size, 2, none⟩ = some (.int .i64 0) := cell_of_row _ _ 2 _ _ _ M06.out
        have f2 := frozen_of_row _ _ 2 _ _ M06.out
        have y0 : w6.cell? ⟨w4.heap.size, 0, none⟩ = some (.int .i64 (1 + r3)) := cell_of_row _ _ 0 _ _ _ M46.out
        have x0 := frozen_of_row _ _ 0 _ _ M46.out
        have y1 : w6.cell? ⟨w4.heap.size, 1, none⟩ = some (.int .i64 (r2 * 10)) := cell_of_row _ _ 1 _ _ _ M46.out
        have x1 := frozen_of_row _ _ 1 _ _ M46.out
        have y2 : w6.cell? ⟨w4.heap.size, 2, none⟩ = some (.int .i64 999) := cell_of_row _ _ 2 _ _ _ M46.out
        have x2 := frozen_of_row _ _ 2 _ _ M46.out
        go_wp2_with fail
        refine bodyPost_ret (v := .agg #[.int .i64 (1 + r3), .int .i64 0, .int .i64 999]) (by simp [results, Try.results44, go_sem, *]) rfl ⟨⟨(1 + r3), 0, 999⟩, rfl, ⟨⟨p + 1 + 1 + 1 + 1 + 1, by omega, ?_⟩, ?_⟩⟩
        · repeat (first | exact hr6 | refine Rd.set ?_ (by simp; try omega) _)
        · repeat (first | exact G6.out | refine grown_new ?_ (by simp; try omega) _)
    · skip
      go_wp2_with fail
      refine (pick_any g c _ A z _ _ (hr5.step ((Below.refl _ _).alloc (Nat.le_refl _) _)) (by omega) (by omega)).mono ?_
      rintro e w6 ⟨r6, rfl, a6, b6, _, hr6, hg6⟩
      have b6 := b6 (by omega)
      have hn5 : ¬ w5.heap.size = g := by omega
      have M06 := Lib.hid (row_keep hg6 (row_alloc M05.out) hn0)
      have M46 := Lib.hid (row_keep hg6 (row_alloc M45.out) hn4)
      have A6 := Lib.hid (row_keep hg6 (heap_alloc_new w5 (.cells #[.int .i64 999, .int .i64 1000] 3)) hn5)
      have G6 := Lib.hid ((grown_alloc G5.out _).trans hg6)
      have hs6 : w5.heap.size < w6.heap.size := (Array.getElem?_eq_some_iff.1 A6.out).1
      clear hg6 hr5
      have hc6 : r6 = 0 ∨ r6 = 1 := by omega
      rcases hc6 with rfl | rfl
      · skip
        have d0 : w6.cell? ⟨w5.heap.size, 0, none⟩ = some (.int .i64 999) := cell_of_row _ _ 0 _ _ _ A6.out
        have z0 : w6.cell? ⟨w.heap.size, 0, none⟩ = some (.int .i64 0) := cell_of_row _ _ 0 _ _ _ M06.out
        have f0 := frozen_of_row _ _ 0 _ _ M06.out
        have z1 : w6.cell? ⟨w.heap.size, 1, none⟩ = some (.int .i64 0) := cell_of_row _ _ 1 _ _ _ M06.out
        have f1 := frozen_of_row _ _ 1 _ _ M06.out
        have z2 : w6.cell? ⟨w.heap.size, 2, none⟩ = some (.int .i64 0) := cell_of_row _ _ 2 _ _ _ M06.out
        have f2 := frozen_of_row _ _ 2 _ _ M06.out
        have y0 : w6.cell? ⟨w4.heap.size, 0, none⟩ = some (.int .i64 (1 + r3)) := cell_of_row _ _ 0 _ _ _ M46.out
        have x0 := frozen_of_row _ _ 0 _ _ M46.out
        have y1 : w6.cell? ⟨w4.heap.size, 1, none⟩ = some (.int .i64 (r2 * 10)) := cell_of_row _ _ 1 _ _ _ M46.out
        have x1 := frozen_of_row _ _ 1 _ _ M46.out
        have y2 : w6.cell? ⟨w4.heap.size, 2, none⟩ = some (.int .i64 999) := cell_of_row _ _ 2 _ _ _ M46.out
        have x2 := frozen_of_row _ _ 2 _ _ M46.out
        go_wp2_with fail
        refine bodyPost_ret (v := .agg #[.int .i64 (1 + r3), .int .i64 (r2 * 10), .int .i64 999]) (by simp [results, Try.results44, go_sem, *]) rfl ⟨⟨(1 + r3), (r2 * 10), 999⟩, rfl, ⟨⟨p + 1 + 1 + 1 + 1 + 1, by omega, ?_⟩, ?_⟩⟩
        · repeat (first | exact hr6 | refine Rd.set ?_ (by simp; try omega) _)
        · repeat (first | exact G6.out | refine grown_new ?_ (by simp; try omega) _)
      · skip
        have d1 : w6.cell? ⟨w5.heap.size, 1, none⟩ = some (.int .i64 1000) := cell_of_row _ _ 1 _ _ _ A6.out
        have z0 : w6.cell? ⟨w.heap.size, 0, none⟩ = some (.int .i64 0) := cell_of_row _ _ 0 _ _ _ M06.out
        have f0 := frozen_of_row _ _ 0 _ _ M06.out
        have z1 : w6.cell? ⟨w.heap.size, 1, none⟩ = some (.int .i64 0) := cell_of_row _ _ 1 _ _ _ M06.out
        have f1 := frozen_of_row _ _ 1 _ _ M06.out
        have z2 : w6.cell? ⟨w.heap.size, 2, none⟩ = some (.int .i64 0) := cell_of_row _ _ 2 _ _ _ M06.out
        have f2 := frozen_of_row _ _ 2 _ _ M06.out
        have y0 : w6.cell? ⟨w4.heap.size, 0, none⟩ = some (.int .i64 (1 + r3)) := cell_of_row _ _ 0 _ _ _ M46.out
        have x0 := frozen_of_row _ _ 0 _ _ M46.out
        have y1 : w6.cell? ⟨w4.heap.size, 1, none⟩ = some (.int .i64 (r2 * 10)) := cell_of_row _ _ 1 _ _ _ M46.out
        have x1 := frozen_of_row _ _ 1 _ _ M46.out
        have y2 : w6.cell? ⟨w4.heap.size, 2, none⟩ = some (.int .i64 999) := cell_of_row _ _ 2 _ _ _ M46.out
        have x2 := frozen_of_row _ _ 2 _ _ M46.out
        go_wp2_with fail
        refine bodyPost_ret (v := .agg #[.int .i64 (1 + r3), .int .i64 (r2 * 10), .int .i64 1000]) (by simp [results, Try.results44, go_sem, *]) rfl ⟨⟨(1 + r3), (r2 * 10), 1000⟩, rfl, ⟨⟨p + 1 + 1 + 1 + 1 + 1, by omega, ?_⟩, ?_⟩⟩
        · repeat (first | exact hr6 | refine Rd.set ?_ (by simp; try omega) _)
        · repeat (first | exact G6.out | refine grown_new ?_ (by simp; try omega) _)
    · skip
      have z0 : w5.cell? ⟨w.heap.size, 0, none⟩ = some (.int .i64 0) := cell_of_row _ _ 0 _ _ _ M05.out
      have f0 := frozen_of_row _ _ 0 _ _ M05.out
      have z1 : w5.cell? ⟨w.heap.size, 1, none⟩ = some (.int .i64 0) := cell_of_row _ _ 1 _ _ _ M05.out
      have f1 := frozen_of_row _ _ 1 _ _ M05.out
      have z2 : w5.cell? ⟨w.heap.size, 2, none⟩ = some (.int .i64 0) := cell_of_row _ _ 2 _ _ _ M05.out
      have f2 := frozen_of_row _ _ 2 _ _ M05.out
      have y0 : w5.cell? ⟨w4.heap.size, 0, none⟩ = some (.int .i64 (1 + r3)) := cell_of_row _ _ 0 _ _ _ M45.out
      have x0 := frozen_of_row _ _ 0 _ _ M45.out
      have y1 : w5.cell? ⟨w4.heap.size, 1, none⟩ = some (.int .i64 (r2 * 10)) := cell_of_row _ _ 1 _ _ _ M45.out
      have x1 := frozen_of_row _ _ 1 _ _ M45.out
      have y2 : w5.cell? ⟨w4.heap.size, 2, none⟩ = some (.int .i64 999) := cell_of_row _ _ 2 _ _ _ M45.out
      have x2 := frozen_of_row _ _ 2 _ _ M45.out
      go_wp2_with fail
      refine bodyPost_ret (v := .agg #[.int .i64 (1 + r3), .int .i64 0, .int .i64 999]) (by simp [results, Try.results44, go_sem, *]) rfl ⟨⟨(1 + r3), 0, 999⟩, rfl, ⟨⟨p + 1 + 1 + 1 + 1, by omega, ?_⟩, ?_⟩⟩
      · repeat (first | exact hr5 | refine Rd.set ?_ (by simp; try omega) _)
      · repeat (first | exact G5.out | refine grown_new ?_ (by simp; try omega) _)
    · skip
      have z0 : w5.cell? ⟨w.heap.size, 0, none⟩ = some (.int .i64 0) := cell_of_row _ _ 0 _ _ _ M05.out
      have f0 := frozen_of_row _ _ 0 _ _ M05.out
      have z1 : w5.cell? ⟨w.heap.size, 1, none⟩ = some (.int .i64 0) := cell_of_row _ _ 1 _ _ _ M05.out
      have f1 := frozen_of_row _ _ 1 _ _ M05.out
      have z2 : w5.cell? ⟨w.heap.size, 2, none⟩ = some (.int .i64 0) := cell_of_row _ _ 2 _ _ _ M05.out
      have f2 := frozen_of_row _ _ 2 _ _ M05.out
      have y0 : w5.cell? ⟨w4.heap.size, 0, none⟩ = some (.int .i64 (1 + r3)) := cell_of_row _ _ 0 _ _ _ M45.out
      have x0 := frozen_of_row _ _ 0 _ _ M45.out
      have y1 : w5.cell? ⟨w4.heap.size, 1, none⟩ = some (.int .i64 (r2 * 10)) := cell_of_row _ _ 1 _ _ _ M45.out
      have x1 := frozen_of_row _ _ 1 _ _ M45.out
      have y2 : w5.cell? ⟨w4.heap.size, 2, none⟩ = some (.int .i64 999) := cell_of_row _ _ 2 _ _ _ M45.out
      have x2 := frozen_of_row _ _ 2 _ _ M45.out
      go_wp2_with fail
      refine bodyPost_ret (v := .agg #[.int .i64 (1 + r3), .int .i64 0, .int .i64 999]) (by simp [results, Try.results44, go_sem, *]) rfl ⟨⟨(1 + r3), 0, 999⟩, rfl, ⟨⟨p + 1 + 1 + 1 + 1, by omega, ?_⟩, ?_⟩⟩
      · repeat (first | exact hr5 | refine Rd.set ?_ (by simp; try omega) _)
      · repeat (first | exact G5.out | refine grown_new ?_ (by simp; try omega) _)
    · skip
      have z0 : w5.cell? ⟨w.heap.size, 0, none⟩ = some (.int .i64 0) := cell_of_row _ _ 0 _ _ _ M05.out
      have f0 := frozen_of_row _ _ 0 _ _ M05.out
      have z1 : w5.cell? ⟨w.heap.size, 1, none⟩ = some (.int .i64 0) := cell_of_row _ _ 1 _ _ _ M05.out
      have f1 := frozen_of_row _ _ 1 _ _ M05.out
      have z2 : w5.cell? ⟨w.heap.size, 2, none⟩ = some (.int .i64 0) := cell_of_row _ _ 2 _ _ _ M05.out
      have f2 := frozen_of_row _ _ 2 _ _ M05.out
      have y0 : w5.cell? ⟨w4.heap.size, 0, none⟩ = some (.int .i64 (1 + r3)) := cell_of_row _ _ 0 _ _ _ M45.out
      have x0 := frozen_of_row _ _ 0 _ _ M45.out
      have y1 : w5.cell? ⟨w4.heap.size, 1, none⟩ = some (.int .i64 (r2 * 10)) := cell_of_row _ _ 1 _ _ _ M45.out
      have x1 := frozen_of_row _ _ 1 _ _ M45.out
      have y2 : w5.cell? ⟨w4.heap.size, 2, none⟩ = some (.int .i64 999) := cell_of_row _ _ 2 _ _ _ M45.out
      have x2 := frozen_of_row _ _ 2 _ _ M45.out
      go_wp2_with fail
      refine bodyPost_ret (v := .agg #[.int .i64 (1 + r3), .int .i64 (r2 * 10), .int .i64 999]) (by simp [results, Try.results44, go_sem, *]) rfl ⟨⟨(1 + r3), (r2 * 10), 999⟩, rfl, ⟨⟨p + 1 + 1 + 1 + 1, by omega, ?_⟩, ?_⟩⟩
      · repeat (first | exact hr5 | refine Rd.set ?_ (by simp; try omega) _)
      · repeat (first | exact G5.out | refine grown_new ?_ (by simp; try omega) _)
    · skip
      have z0 : w5.cell? ⟨w.heap.size, 0, none⟩ = some (.int .i64 0) := cell_of_row _ _ 0 _ _ _ M05.out
      have f0 := frozen_of_row _ _ 0 _ _ M05.out
      have z1 : w5.cell? ⟨w.heap.size, 1, none⟩ = some (.int .i64 0) := cell_of_row _ _ 1 _ _ _ M05.out
      have f1 := frozen_of_row _ _ 1 _ _ M05.out
      have z2 : w5.cell? ⟨w.heap.size, 2, none⟩ = some (.int .i64 0) := cell_of_row _ _ 2 _ _ _ M05.out
      have f2 := frozen_of_row _ _ 2 _ _ M05.out
      have y0 : w5.cell? ⟨w4.heap.size, 0, none⟩ = some (.int .i64 (1 + r3)) := cell_of_row _ _ 0 _ _ _ M45.out
      have x0 := frozen_of_row _ _ 0 _ _ M45.out
      have y1 : w5.cell? ⟨w4.heap.size, 1, none⟩ = some (.int .i64 (r2 * 10)) := cell_of_row _ _ 1 _ _ _ M45.out
      have x1 := frozen_of_row _ _ 1 _ _ M45.out
      have y2 : w5.cell? ⟨w4.heap.size, 2, none⟩ = some (.int .i64 999) := cell_of_row _ _ 2 _ _ _ M45.out
      have x2 := frozen_of_row _ _ 2 _ _ M45.out
      go_wp2_with fail
      refine bodyPost_ret (v := .agg #[.int .i64 (1 + r3), .int .i64 (r2 * 10), .int .i64 999]) (by simp [results, Try.results44, go_sem, *]) rfl ⟨⟨(1 + r3), (r2 * 10), 999⟩, rfl, ⟨⟨p + 1 + 1 + 1 + 1, by omega, ?_⟩, ?_⟩⟩
      · repeat (first | exact hr5 | refine Rd.set ?_ (by simp; try omega) _)
      · repeat (first | exact G5.out | refine grown_new ?_ (by simp; try omega) _)
    · skip
      have z0 : w5.cell? ⟨w.heap.size, 0, none⟩ = some (.int .i64 0) := cell_of_row _ _ 0 _ _ _ M05.out
      have f0 := frozen_of_row _ _ 0 _ _ M05.out
      have z1 : w5.cell? ⟨w.heap.size, 1, none⟩ = some (.int .i64 0) := cell_of_row _ _ 1 _ _ _ M05.out
      have f1 := frozen_of_row _ _ 1 _ _ M05.out
      have z2 : w5.cell? ⟨w.heap.size, 2, none⟩ = some (.int .i64 0) := cell_of_row _ _ 2 _ _ _ M05.out
      have f2 := frozen_of_row _ _ 2 _ _ M05.out
      have y0 : w5.cell? ⟨w4.heap.size, 0, none⟩ = some (.int .i64 (1 + r3)) := cell_of_row _ _ 0 _ _ _ M45.out
      have x0 := frozen_of_row _ _ 0 _ _ M45.out
      have y1 : w5.cell? ⟨w4.heap.size, 1, none⟩ = some (.int .i64 (r2 * 10)) := cell_of_row _ _ 1 _ _ _ M45.out
      have x1 := frozen_of_row _ _ 1 _ _ M45.out
      have y2 : w5.cell? ⟨w4.heap.size, 2, none⟩ = some (.int .i64 999) := cell_of_row _ _ 2 _ _ _ M45.out
      have x2 := frozen_of_row _ _ 2 _ _ M45.out
      go_wp2_with fail
      refine bodyPost_ret (v := .agg #[.int .i64 (1 + r3), .int .i64 (r2 * 10), .int .i64 999]) (by simp [results, Try.results44, go_sem, *]) rfl ⟨⟨(1 + r3), (r2 * 10), 999⟩, rfl, ⟨⟨p + 1 + 1 + 1 + 1, by omega, ?_⟩, ?_⟩⟩
      · repeat (first | exact hr5 | refine Rd.set ?_ (by simp; try omega) _)
      · repeat (first | exact G5.out | refine grown_new ?_ (by simp; try omega) _)
  · go_wp2_with fail
    refine (pick_any g c _ A z _ _ (hr4.step ((Below.refl _ _).alloc (Nat.le_refl _) _)) (by omega) (by omega)).mono ?_
    rintro e w5 ⟨r5, rfl, a5, b5, _, hr5, hg5⟩
    have b5 := b5 (by omega)
    have M05 := Lib.hid (row_keep hg5 (row_alloc M04.out) hn0)
    have M45 := Lib.hid (row_keep hg5 (heap_alloc_new w4 (.cells #[.int .i64 (1 + r3), .int .i64 (r2 * 10), .int .i64 (r2 * 10 + r4 * 10)] 29)) hn4)
    have G5 := Lib.hid ((grown_alloc G4.out _).trans hg5)
    have hs5 : w4.heap.size < w5.heap.size := (Array.getElem?_eq_some_iff.1 M45.out).1
    clear hg5 hr4
    have hc5 : (r5 = 0 ∨ r5 = 1 ∨ r5 = 2 ∨ r5 = 3) ∨ (r5 = 4 ∨ r5 = 5 ∨ r5 = 6 ∨ r5 = 7) ∨ 8 ≤ r5 := by omega
    rcases hc5 with (rfl | rfl | rfl | rfl) | (rfl | rfl | rfl | rfl) | hc5
    · skip
      have z0 : w5.cell? ⟨w.heap.size, 0, none⟩ = some (.int .i64 0) := cell_of_row _ _ 0 _ _ _ M05.out
      have f0 := frozen_of_row _ _ 0 _ _ M05.out
      have z1 : w5.cell? ⟨w.heap.size, 1, none⟩ = some (.int .i64 0) := cell_of_row _ _ 1 _ _ _ M05.out
      have f1 := frozen_of_row _ _ 1 _ _ M05.out
      have z2 : w5.cell? ⟨w.heap.size, 2, none⟩ = some (.int .i64 0) := cell_of_row _ _ 2 _ _ _ M05.out
      have f2 := frozen_of_row _ _ 2 _ _ M05.out
      have y0 : w5.cell? ⟨w4.heap.size, 0, none⟩ = some (.int .i64 (1 + r3)) := cell_of_row _ _ 0 _ _ _ M45.out
      have x0 := frozen_of_row _ _ 0 _ _ M45.out
      have y1 : w5.cell? ⟨w4.heap.size, 1, none⟩ = some (.int .i64 (r2 * 10)) := cell_of_row _ _ 1 _ _ _ M45.out
      have x1 := frozen_of_row _ _ 1 _ _ M45.out
      have y2 : w5.cell? ⟨w4.heap.size, 2, none⟩ = some (.int .i64 (r2 * 10 + r4 * 10)) := cell_of_row _ _ 2 _ _ _ M45.out
      have x2 := frozen_of_row _ _ 2 _ _ M45.out
      go_wp2_with fail
      refine bodyPost_ret (v := .agg #[.int .i64 (1 + r3), .int .i64 (r2 * 10), .int .i64 (r2 * 10 - 1)]) (by simp [results, Try.results44, go_sem, *]) rfl ⟨⟨(1 + r3), (r2 * 10), (r2 * 10 - 1)⟩, rfl, ⟨⟨p + 1 + 1 + 1 + 1, by omega, ?_⟩, ?_⟩⟩
      · repeat (first | exact hr5 | refine Rd.set ?_ (by simp; try omega) _)
      · repeat (first | exact G5.out | refine grown_new ?_ (by simp; try omega) _)
    · skip
      go_wp2_with fail
      refine (pick_any g c _ A z _ _ (hr5.step ((Below.refl _ _).alloc (Nat.le_refl _) _)) (by omega) (by omega)).mono ?_
      rintro e w6 ⟨r6, rfl, a6, b6, _, hr6, hg6⟩
      have b6 := b6 (by omega)
      have hn5 : ¬ w5.heap.size = g := by omega
      have M06 := Lib.hid (row_keep hg6 (row_alloc M05.out) hn0)
      have M46 := Lib.hid (row_keep hg6 (row_alloc M45.out) hn4)
      have A6 := Lib.hid (row_keep hg6 (heap_alloc_new w5 (.cells #[.int .i64 0, .int .i64 99, .int .i64 100] 3)) hn5)
      have G6 := Lib.hid ((grown_alloc G5.out _).trans hg6)
      have hs6 : w5.heap.size < w6.heap.size := (Array.getElem?_eq_some_iff.1 A6.out).1
      clear hg6 hr5
      have hc6 : r6 = 0 ∨ r6 = 1 ∨ r6 = 2 := by omega
      rcases hc6 with rfl | rfl | rfl
      · skip
        have d0 : w6.cell? ⟨w5.heap.size, 0, none⟩ = some (.int .i64 0) := cell_of_row _ _ 0 _ _ _ A6.out
        have z0 : w6.cell? ⟨w.heap.size, 0, none⟩ = some (.int .i64 0) := cell_of_row _ _ 0 _ _ _ M06.out
        have f0 := frozen_of_row _ _ 0 _ _ M06.out
        have z1 : w6.cell? ⟨w.heap.size, 1, none⟩ = some (.int .i64 0) := cell_of_row _ _ 1 _ _ _ M06.out
        have f1 := frozen_of_row _ _ 1 _ _ M06.out
        have z2 : w6.cell? ⟨w.heap.size, 2, none⟩ = some (.int .i64 0) := cell_of_row _ _ 2 _ _ _ M06.out
        have f2 := frozen_of_row _ _ 2 _ _ M06.out
        have y0 : w6.cell? ⟨w4.heap.size, 0, none⟩ = some (.int .i64 (1 + r3)) := cell_of_row _ _ 0 _ _ _ M46.out
        have x0 := frozen_of_row _ _ 0 _ _ M46.out
        have y1 : w6.cell? ⟨w4.heap.size, 1, none⟩ = some (.int .i64 (r2 * 10)) := cell_of_row _ _ 1 _ _ _ M46.out
        have x1 := frozen_of_row _ _ 1 _ _ M46.out
        have y2 : w6.cell? ⟨w4.heap.size, 2, none⟩ = some (.int .i64 (r2 * 10 + r4 * 10)) := cell_of_row _ _ 2 _ _ _ M46.out
        have x2 := frozen_of_row _ _ 2 _ _ M46.out
        go_wp2_with fail
        refine bodyPost_ret (v := .agg #[.int .i64 0, .int .i64 (r2 * 10), .int .i64 (r2 * 10 + r4 * 10)]) (by simp [results, Try.results44, go_sem, *]) rfl ⟨⟨0, (r2 * 10), (r2 * 10 + r4 * 10)⟩, rfl, ⟨⟨p + 1 + 1 + 1 + 1 + 1, by omega, ?_⟩, ?_⟩⟩
        · repeat (first | exact hr6 | refine Rd.set ?_ (by simp; try omega) _)
        · repeat (first | exact G6.out | refine grown_new ?_ (by simp; try omega) _)
      · skip
        have d1 : w6.cell? ⟨w5.heap.size, 1, none⟩ = some (.int .i64 99) := cell_of_row _ _ 1 _ _ _ A6.out
        have z0 : w6.cell? ⟨w.heap.size, 0, none⟩ = some (.int .i64 0) := cell_of_row _ _ 0 _ _ _ M06.out
        have f0 := frozen_of_row _ _ 0 _ _ M06.out
        have z1 : w6.cell? ⟨w.heap.size, 1, none⟩ = some (.int .i64 0) := cell_of_row _ _ 1 _ _ _ M06.out
        have f1 := frozen_of_row _ _ 1 _ _ M06.out
        have z2 : w6.cell? ⟨w.heap.size, 2, none⟩ = some (.int .i64 0) := cell_of_row _ _ 2 _ _ _ M06.out
        have f2 := frozen_of_row _ _ 2 _ _ M06.out
        have y0 : w6.cell? ⟨w4.heap.size, 0, none⟩ = some (.int .i64 (1 + r3)) := cell_of_row _ _ 0 _ _ _ M46.out
        have x0 := frozen_of_row _ _ 0 _ _ M46.out
        have y1 : w6.cell? ⟨w4.heap.size, 1, none⟩ = some (.int .i64 (r2 * 10)) := cell_of_row _ _ 1 _ _ _ M46.out
        have x1 := frozen_of_row _ _ 1 _ _ M46.out
        have y2 : w6.cell? ⟨w4.heap.size, 2, none⟩ = some (.int .i64 (r2 * 10 + r4 * 10)) := cell_of_row _ _ 2 _ _ _ M46.out
        have x2 := frozen_of_row _ _ 2 _ _ M46.out
        go_wp2_with fail
        refine bodyPost_ret (v := .agg #[.int .i64 99, .int .i64 (r2 * 10), .int .i64 (r2 * 10 + r4 * 10)]) (by simp [results, Try.results44, go_sem, *]) rfl ⟨⟨99, (r2 * 10), (r2 * 10 + r4 * 10)⟩, rfl, ⟨⟨p + 1 + 1 + 1 + 1 + 1, by omega, ?_⟩, ?_⟩⟩
        · repeat (first | exact hr6 | refine Rd.set ?_ (by simp; try omega) _)
        · repeat (first | exact G6.out | refine grown_new ?_ (by simp; try omega) _)
      · skip
        have d2 : w6.cell? ⟨w5.heap.size, 2, none⟩ = some (.int .i64 100) := cell_of_row _ _ 2 _ _ _ A6.out
        have z0 : w6.cell? ⟨w.heap.size, 0, none⟩ = some (.int .i64 0) := cell_of_row _ _ 0 _ _ _ M06.out
        have f0 := frozen_of_row _ _ 0 _ _ M06.out
        have z1 : w6.cell? ⟨w.heap.size, 1, none⟩ = some (.int .i64 0) := cell_of_row _ _ 1 _ _ _ M06.out
        have f1 := frozen_of_row _ _ 1 _ _ M06.out
        have z2 : w6.cell? ⟨w.heap.size, 2, none⟩ = some (.int .i64 0) := cell_of_row _ _ 2 _ _ _ M06.out
        have f2 := frozen_of_row _ _ 2 _ _ M06.out
        have y0 : w6.cell? ⟨w4.heap.size, 0, none⟩ = some (.int .i64 (1 + r3)) := cell_of_row _ _ 0 _ _ _ M46.out
        have x0 := frozen_of_row _ _ 0 _ _ M46.out
        have y1 : w6.cell? ⟨w4.heap.size, 1, none⟩ = some (.int .i64 (r2 * 10)) := cell_of_row _ _ 1 _ _ _ M46.out
        have x1 := frozen_of_row _ _ 1 _ _ M46.out
        have y2 : w6.cell? ⟨w4.heap.size, 2, none⟩ = some (.int .i64 (r2 * 10 + r4 * 10)) := cell_of_row _ _ 2 _ _ _ M46.out
        have x2 := frozen_of_row _ _ 2 _ _ M46.out
        go_wp2_with fail
        refine bodyPost_ret (v := .agg #[.int .i64 100, .int .i64 (r2 * 10), .int .i64 (r2 * 10 + r4 * 10)]) (by simp [results, Try.results44, go_sem, *]) rfl ⟨⟨100, (r2 * 10), (r2 * 10 + r4 * 10)⟩, rfl, ⟨⟨p + 1 + 1 + 1 + 1 + 1, by omega, ?_⟩, ?_⟩⟩
        · repeat (first | exact hr6 | refine Rd.set ?_ (by simp; try omega) _)
        · repeat (first | exact G6.out | refine grown_new ?_ (by simp; try omega) _)
    · skip
      go_wp2_with fail
      refine (pick_any g c _ A z _ _ (hr5.step ((Below.refl _ _).alloc (Nat.le_refl _) _)) (by omega) (by omega)).mono ?_
      rintro e w6 ⟨r6, rfl, a6, b6, _, hr6, hg6⟩
      have b6 := b6 (by omega)
      have hn5 : ¬ w5.heap.size = g := by omega
      have M06 := Lib.hid (row_keep hg6 (row_alloc M05.out) hn0)
      have M46 := Lib.hid (row_keep hg6 (row_alloc M45.out) hn4)
      have A6 := Lib.hid (row_keep hg6 (heap_alloc_new w5 (.cells #[.int .i64 (-1), .int .i64 0] 3)) hn5)
      have G6 := Lib.hid ((grown_alloc G5.out _).trans hg6)
      have hs6 : w5.heap.size < w6.heap.size := (Array.getElem?_eq_some_iff.1 A6.out).1
      clear hg6 hr5
      have hc6 : r6 = 0 ∨ r6 = 1 := by omega
      rcases hc6 with rfl | rfl
      · skip
        have d0 : w6.cell? ⟨w5.heap.size, 0, none⟩ = some (.int .i64 (-1)) := cell_of_row _ _ 0 _ _ _ A6.out
        have z0 : w6.cell? ⟨w.heap.size, 0, none⟩ = some (.int .i64 0) := cell_of_row _ _ 0 _ _ _ M06.out
        have f0 := frozen_of_row _ _ 0 _ _ M06.out
        have z1 : w6.cell? ⟨w.heap.size, 1, none⟩ = some (.int .i64 0) := cell_of_row _ _ 1 _ _ _ M06.out
        have f1 := frozen_of_row _ _ 1 _ _ M06.out
        have z2 : w6.cell? ⟨w.heap.size, 2, none⟩ = some (.int .i64 0) := cell_of_row _ _ 2 _ _ _ M06.out
        have f2 := frozen_of_row _ _ 2 _ _ M06.out
        have y0 : w6.cell? ⟨w4.heap.size, 0, none⟩ = some (.int .i64 (1 + r3)) := cell_of_row _ _ 0 _ _ _ M46.out
        have x0 := frozen_of_row _ _ 0 _ _ M46.out
        have y1 : w6.cell? ⟨w4.heap.size, 1, none⟩ = some (.int .i64 (r2 * 10)) := cell_of_row _ _ 1 _ _ _ M46.out
        have x1 := frozen_of_row _ _ 1 _ _ M46.out
        have y2 : w6.cell? ⟨w4.heap.size, 2, none⟩ = some (.int .i64 (r2 * 10 + r4 * 10)) := cell_of_row _ _ 2 _ _ _ M46.out
        have x2 := frozen_of_row _ _ 2 _ _ M46.out
        go_wp2_with fail
        refine bodyPost_ret (v := .agg #[.int .i64 (1 + r3), .int .i64 (-1), .int .i64 (r2 * 10 + r4 * 10)]) (by simp [results, Try.results44, go_sem, *]) rfl ⟨⟨(1 + r3), (-1), (r2 * 10 + r4 * 10)⟩, rfl, ⟨⟨p + 1 + 1 + 1 + 1 + 1, by omega, ?_⟩, ?_⟩⟩
        · repeat (first | exact hr6 | refine Rd.set ?_ (by simp; try omega) _)
        · repeat (first | exact G6.out | refine grown_new ?_ (by simp; try omega) _)
      · skip
        have d1 : w6.cell? ⟨w5.heap.size, 1, none⟩ = some (.int .i64 0) := cell_of_row _ _ 1 _ _ _ A6.out
        have z0 : w6.cell? ⟨w.heap.size, 0, none⟩ = some (.int .i64 0) := cell_of_row _ _ 0 _ _ _ M06.out
        have f0 := frozen_of_row _ _ 0 _ _ M06.out
        have z1 : w6.cell? ⟨w.heap.size, 1, none⟩ = some (.int .i64 0) := cell_of_row _ _ 1 _ _ _ M06.out
        have f1 := frozen_of_row _ _ 1 _ _ M06.out
        have z2 : w6.cell? ⟨w.heap.size, 2, none⟩ = some (.int .i64 0) := cell_of_row _ _ 2 _ _ _ M06.out
        have f2 := frozen_of_row _ _ 2 _ _ M06.out
        have y0 : w6.cell? ⟨w4.heap.size, 0, none⟩ = some (.int .i64 (1 + r3)) := cell_of_row _ _ 0 _ _ _ M46.out
        have x0 := frozen_of_row _ _ 0 _ _ M46.out
        have y1 : w6.cell? ⟨w4.heap.size, 1, none⟩ = some (.int .i64 (r2 * 10)) := cell_of_row _ _ 1 _ _ _ M46.out
        have x1 := frozen_of_row _ _ 1 _ _ M46.out
        have y2 : w6.cell? ⟨w4.heap.size, 2, none⟩ = some (.int .i64 (r2 * 10 + r4 * 10)) := cell_of_row _ _ 2 _ _ _ M46.out
        have x2 := frozen_of_row _ _ 2 _ _ M46.out
        go_wp2_with fail
        refine bodyPost_ret (v := .agg #[.int .i64 (1 + r3), .int .i64 0, .int .i64 (r2 * 10 + r4 * 10)]) (by simp [results, Try.results44, go_sem, *]) rfl ⟨⟨(1 + r3), 0, (r2 * 10 + r4 * 10)⟩, rfl, ⟨⟨p + 1 + 1 + 1 + 1 + 1, by omega, ?_⟩, ?_⟩⟩
        · repeat (first | exact hr6 | refine Rd.set ?_ (by simp; try omega) _)
        · repeat (first | exact G6.out | refine grown_new ?_ (by simp; try omega) _)
    · skip
      go_wp2_with fail
      refine (pick_any g c _ A z _ _ (hr5.step ((Below.refl _ _).alloc (Nat.le_refl _) _)) (by omega) (by omega)).mono ?_
      rintro e w6 ⟨r6, rfl, a6, b6, _, hr6, hg6⟩
      have b6 := b6 (by omega)
      have hn5 : ¬ w5.heap.size = g := by omega
      have M06 := Lib.hid (row_keep hg6 (row_alloc M05.out) hn0)
      have M46 := Lib.hid (row_keep hg6 (row_alloc M45.out) hn4)
      have A6 := Lib.hid (row_keep hg6 (heap_alloc_new w5 (.cells #[.int .i64 999, .int .i64 1000] 3)) hn5)
      have G6 := Lib.hid ((grown_alloc G5.out _).trans hg6)
      have hs6 : w5.heap.size < w6.heap.size := (Array.getElem?_eq_some_iff.1 A6.out).1
      clear hg6 hr5
      have hc6 : r6 = 0 ∨ r6 = 1 := by omega
      rcases hc6 with rfl | rfl
      · skip
        have d0 : w6.cell? ⟨w5.heap.size, 0, none⟩ = some (.int .i64 999) := cell_of_row _ _ 0 _ _ _ A6.out
        have z0 : w6.cell? ⟨w.heap.size, 0, none⟩ = some (.int .i64 0) := cell_of_row _ _ 0 _ _ _ M06.out
        have f0 := frozen_of_row _ _ 0 _ _ M06.out
        have z1 : w6.cell? ⟨w.heap.size, 1, none⟩ = some (.int .i64 0) := cell_of_row _ _ 1 _ _ _ M06.out
        have f1 := frozen_of_row _ _ 1 _ _ M06.out
        have z2 : w6.cell? ⟨w.heap.size, 2, none⟩ = some (.int .i64 0) := cell_of_row _ _ 2 _ _ _ M06.out
        have f2 := frozen_of_row _ _ 2 _ _ M06.out
        have y0 : w6.cell? ⟨w4.heap.size, 0, none⟩ = some (.int .i64 (1 + r3)) := cell_of_row _ _ 0 _ _ _ M46.out
        have x0 := frozen_of_row _ _ 0 _ _ M46.out
        have y1 : w6.cell? ⟨w4.heap.size, 1, none⟩ = some (.int .i64 (r2 * 10)) := cell_of_row _ _ 1 _ _ _ M46.out
        have x1 := frozen_of_row _ _ 1 _ _ M46.out
        have y2 : w6.cell? ⟨w4.heap.size, 2, none⟩ = some (.int .i64 (r2 * 10 + r4 * 10)) := cell_of_row _ _ 2 _ _ _ M46.out
        have x2 := frozen_of_row _ _ 2 _ _ M46.out
        go_wp2_with fail
        refine bodyPost_ret (v := .agg #[.int .i64 (1 + r3), .int .i64 (r2 * 10), .int .i64 999]) (by simp [results, Try.results44, go_sem, *]) rfl ⟨⟨(1 + r3), (r2 * 10), 999⟩, rfl, ⟨⟨p + 1 + 1 + 1 + 1 + 1, by omega, ?_⟩, ?_⟩⟩
        · repeat (first | exact hr6 | refine Rd.set ?_ (by simp; try omega) _)
        · repeat (first | exact G6.out | refine grown_new ?_ (by simp; try omega) _)
      · skip
        have d1 : w6.cell? ⟨w5.heap.size, 1, none⟩ = some (.int .i64 1000) := cell_of_row _ _ 1 _ _ _ A6.out
        have z0 : w6.cell? ⟨w.heap.size, 0, none⟩ = some (.int .i64 0) := cell_of_row _ _ 0 _ _ _ M06.out
        have f0 := frozen_of_row _ _ 0 _ _ M06.out
        have z1 : w6.cell? ⟨w.heap.size, 1, none⟩ = some (.int .i64 0) := cell_of_row _ _ 1 _ _ _ M06.out
        have f1 := frozen_of_row _ _ 1 _ _ M06.out
        have z2 : w6.cell? ⟨w.heap.size, 2, none⟩ = some (.int .i64 0) := cell_of_row _ _ 2 _ _ _ M06.out
        have f2 := frozen_of_row _ _ 2 _ _ M06.out
        have y0 : w6.cell? ⟨w4.heap.size, 0, none⟩ = some (.int .i64 (1 + r3)) := cell_of_row _ _ 0 _ _ _ M46.out
        have x0 := frozen_of_row _ _ 0 _ _ M46.out
        have y1 : w6.cell? ⟨w4.heap.size, 1, none⟩ = some (.int .i64 (r2 * 10)) := cell_of_row _ _ 1 _ _ _ M46.out
        have x1 := frozen_of_row _ _ 1 _ _ M46.out
        have y2 : w6.cell? ⟨w4.heap.size, 2, none⟩ = some (.int .i64 (r2 * 10 + r4 * 10)) := cell_of_row _ _ 2 _ _ _ M46.out
        have x2 := frozen_of_row _ _ 2 _ _ M46.out
        go_wp2_with fail
        refine bodyPost_ret (v := .agg #[.int .i64 (1 + r3), .int .i64 (r2 * 10), .int .i64 1000]) (by simp [results, Try.results44, go_sem, *]) rfl ⟨⟨(1 + r3), (r2 * 10), 1000⟩, rfl, ⟨⟨p + 1 + 1 + 1 + 1 + 1, by omega, ?_⟩, ?_⟩⟩
        · repeat (first | exact hr6 | refine Rd.set ?_ (by simp; try omega) _)
        · repeat (first | exact G6.out | refine grown_new ?_ (by simp; try omega) _)
    · skip
      have z0 : w5.cell? ⟨w.heap.size, 0, none⟩ = some (.int .i64 0) := cell_of_row _ _ 0 _ _ _ M05.out
      have f0 := frozen_of_row _ _ 0 _ _ M05.out
      have z1 : w5.cell? ⟨w.heap.size, 1, none⟩ = some (.int .i64 0) := cell_of_row _ _ 1 _ _ _ M05.out
      have f1 := frozen_of_row _ _ 1 _ _ M05.out
      have z2 : w5.cell? ⟨w.heap.size, 2, none⟩ = some (.int .i64 0) := cell_of_row _ _ 2 _ _ _ M05.out
      have f2 := frozen_of_row _ _ 2 _ _ M05.out
      have y0 : w5.cell? ⟨w4.heap.size, 0, none⟩ = some (.int .i64 (1 + r3)) := cell_of_row _ _ 0 _ _ _ M45.out
      have x0 := frozen_of_row _ _ 0 _ _ M45.out
      have y1 : w5.cell? ⟨w4.heap.size, 1, none⟩ = some (.int .i64 (r2 * 10)) := cell_of_row _ _ 1 _ _ _ M45.out
      have x1 := frozen_of_row _ _ 1 _ _ M45.out
      have y2 : w5.cell? ⟨w4.heap.size, 2, none⟩ = some (.int .i64 (r2 * 10 + r4 * 10)) := cell_of_row _ _ 2 _ _ _ M45.out
      have x2 := frozen_of_row _ _ 2 _ _ M45.out
      go_wp2_with fail
      refine bodyPost_ret (v := .agg #[.int .i64 (1 + r3), .int .i64 0, .int .i64 (r2 * 10 + r4 * 10)]) (by simp [results, Try.results44, go_sem, *]) rfl ⟨⟨(1 + r3), 0, (r2 * 10 + r4 * 10)⟩, rfl, ⟨⟨p + 1 + 1 + 1 + 1, by omega, ?_⟩, ?_⟩⟩
      · repeat (first | exact hr5 | refine Rd.set ?_ (by simp; try omega) _)
      · repeat (first | exact G5.out | refine grown_new ?_ (by simp; try omega) _)
    · skip
      have z0 : w5.cell? ⟨w.heap.size, 0, none⟩ = some (.int .i64 0) := cell_of_row _ _ 0 _ _ _ M05.out
      have f0 := frozen_of_row _ _ 0 _ _ M05.out
      have z1 : w5.cell? ⟨w.heap.size, 1, none⟩ = some (.int .i64 0) := cell_of_row _ _ 1 _ _ _ M05.out
      have f1 := frozen_of_row _ _ 1 _ _ M05.out
      have z2 : w5.cell? ⟨w.heap.size, 2, none⟩ = some (.int .i64 0) := cell_of_row _ _ 2 _ _ _ M05.out
      have f2 := frozen_of_row _ _ 2 _ _ M05.out
      have y0 : w5.cell? ⟨w4.heap.size, 0, none⟩ = some (.int .i64 (1 + r3)) := cell_of_row _ _ 0 _ _ _ M45.out
      have x0 := frozen_of_row _ _ 0 _ _ M45.out
      have y1 : w5.cell? ⟨w4.heap.size, 1, none⟩ = some (.int .i64 (r2 * 10)) := cell_of_row _ _ 1 _ _ _ M45.out
      have x1 := frozen_of_row _ _ 1 _ _ M45.out
      have y2 : w5.cell? ⟨w4.heap.size, 2, none⟩ = some (.int .i64 (r2 * 10 + r4 * 10)) := cell_of_row _ _ 2 _ _ _ M45.out
      have x2 := frozen_of_row _ _ 2 _ _ M45.out
      go_wp2_with fail
      refine bodyPost_ret (v := .agg #[.int .i64 (1 + r3), .int .i64 0, .int .i64 (r2 * 10 + r4 * 10)]) (by simp [results, Try.results44, go_sem, *]) rfl ⟨⟨(1 + r3), 0, (r2 * 10 + r4 * 10)⟩, rfl, ⟨⟨p + 1 + 1 + 1 + 1, by omega, ?_⟩, ?_⟩⟩
      · repeat (first | exact hr5 | refine Rd.set ?_ (by simp; try omega) _)
      · repeat (first | exact G5.out | refine grown_new ?_ (by simp; try omega) _)
    · skip
      have z0 : w5.cell? ⟨w.heap.size, 0, none⟩ = some (.int .i64 0) := cell_of_row _ _ 0 _ _ _ M05.out
      have f0 := frozen_of_row _ _ 0 _ _ M05.out
      have z1 : w5.cell? ⟨w.heap.size, 1, none⟩ = some (.int .i64 0) := cell_of_row _ _ 1 _ _ _ M05.out
      have f1 := frozen_of_row _ _ 1 _ _ M05.out
      have z2 : w5.cell? ⟨w.heap.size, 2, none⟩ = some (.int .i64 0) := cell_of_row _ _ 2 _ _ _ M05.out
      have f2 := frozen_of_row _ _ 2 _ _ M05.out
      have y0 : w5.cell? ⟨w4.heap.size, 0, none⟩ = some (.int .i64 (1 + r3)) := cell_of_row _ _ 0 _ _ _ M45.out
      have x0 := frozen_of_row _ _ 0 _ _ M45.out
      have y1 : w5.cell? ⟨w4.heap.size, 1, none⟩ = some (.int .i64 (r2 * 10)) := cell_of_row _ _ 1 _ _ _ M45.out
      have x1 := frozen_of_row _ _ 1 _ _ M45.out
      have y2 : w5.cell? ⟨w4.heap.size, 2, none⟩ = some (.int .i64 (r2 * 10 + r4 * 10)) := cell_of_row _ _ 2 _ _ _ M45.out
      have x2 := frozen_of_row _ _ 2 _ _ M45.out
      go_wp2_with fail
      refine bodyPost_ret (v := .agg #[.int .i64 (1 + r3), .int .i64 (r2 * 10), .int .i64 999]) (by simp [results, Try.results44, go_sem, *]) rfl ⟨⟨(1 + r3), (r2 * 10), 999⟩, rfl, ⟨⟨p + 1 + 1 + 1 + 1, by omega, ?_⟩, ?_⟩⟩
      · repeat (first | exact hr5 | refine Rd.set ?_ (by simp; try omega) _)
      · repeat (first | exact G5.out | refine grown_new ?_ (by simp; try omega) _)
    · skip
      have z0 : w5.cell? ⟨w.heap.size, 0, none⟩ = some (.int .i64 0) := cell_of_row _ _ 0 _ _ _ M05.out
      have f0 := frozen_of_row _ _ 0 _ _ M05.out
      have z1 : w5.cell? ⟨w.heap.size, 1, none⟩ = some (.int .i64 0) := cell_of_row _ _ 1 _ _ _ M05.out
      have f1 := frozen_of_row _ _ 1 _ _ M05.out
      have z2 : w5.cell? ⟨w.heap.size, 2, none⟩ = some (.int .i64 0) := cell_of_row _ _ 2 _ _ _ M05.out
      have f2 := frozen_of_row _ _ 2 _ _ M05.out
      have y0 : w5.cell? ⟨w4.heap.size, 0, none⟩ = some (.int .i64 (1 + r3)) := cell_of_row _ _ 0 _ _ _ M45.out
      have x0 := frozen_of_row _ _ 0 _ _ M45.out
      have y1 : w5.cell? ⟨w4.heap.size, 1, none⟩ = some (.int .i64 (r2 * 10)) := cell_of_row _ _ 1 _ _ _ M45.out
      have x1 := frozen_of_row _ _ 1 _ _ M45.out
      have y2 : w5.cell? ⟨w4.heap.size, 2, none⟩ = some (.int .i64 (r2 * 10 + r4 * 10)) := cell_of_row _ _ 2 _ _ _ M45.out
      have x2 := frozen_of_row _ _ 2 _ _ M45.out
      go_wp2_with fail
      refine bodyPost_ret (v := .agg #[.int .i64 (1 + r3), .int .i64 (r2 * 10), .int .i64 999]) (by simp [results, Try.results44, go_sem, *]) rfl ⟨⟨(1 + r3), (r2 * 10), 999⟩, rfl, ⟨⟨p + 1 + 1 + 1 + 1, by omega, ?_⟩, ?_⟩⟩
      · repeat (first | exact hr5 | refine Rd.set ?_ (by simp; try omega) _)
      · repeat (first | exact G5.out | refine grown_new ?_ (by simp; try omega) _)
    · skip
      have z0 : w5.cell? ⟨w.heap.size, 0, none⟩ = some (.int .i64 0) := cell_of_row _ _ 0 _ _ _ M05.out
      have f0 := frozen_of_row _ _ 0 _ _ M05.out
      have z1 : w5.cell? ⟨w.heap.size, 1, none⟩ = some (.int .i64 0) := cell_of_row _ _ 1 _ _ _ M05.out
      have f1 := frozen_of_row _ _ 1 _ _ M05.out
      have z2 : w5.cell? ⟨w.heap.size, 2, none⟩ = some (.int .i64 0) := cell_of_row _ _ 2 _ _ _ M05.out
      have f2 := frozen_of_row _ _ 2 _ _ M05.out
      have y0 : w5.cell? ⟨w4.heap.size, 0, none⟩ = some (.int .i64 (1 + r3)) := cell_of_row _ _ 0 _ _ _ M45.out
      have x0 := frozen_of_row _ _ 0 _ _ M45.out
      have y1 : w5.cell? ⟨w4.heap.size, 1, none⟩ = some (.int .i64 (r2 * 10)) := cell_of_row _ _ 1 _ _ _ M45.out
      have x1 := frozen_of_row _ _ 1 _ _ M45.out
      have y2 : w5.cell? ⟨w4.heap.size, 2, none⟩ = some (.int .i64 (r2 * 10 + r4 * 10)) := cell_of_row _ _ 2 _ _ _ M45.out
      have x2 := frozen_of_row _ _ 2 _ _ M45.out
      go_wp2_with fail
      refine bodyPost_ret (v := .agg #[.int .i64 (1 + r3), .int .i64 (r2 * 10), .int .i64 (r2 * 10 + r4 * 10)]) (by simp [results, Try.results44, go_sem, *]) rfl ⟨⟨(1 + r3), (r2 * 10), (r2 * 10 + r4 * 10)⟩, rfl, ⟨⟨p + 1 + 1 + 1 + 1, by omega, ?_⟩, ?_⟩⟩
      · repeat (first | exact hr5 | refine Rd.set ?_ (by simp; try omega) _)
      · repeat (first | exact G5.out | refine grown_new ?_ (by simp; try omega) _)
end Go.Proofs.Ytjmbbepklofodaa
