/- Texts that lie together in one: Yd, Ye, Kh, Ki. -/
import Derived.Test.YtnkdpogplkomhaaDz
import Derived.Test.YtnkdpogplkomhaaYy
import Derived.Test.YtnkdpogplkomhaaKk
import Derived.Deep.RegionLaw
/- The laws draw a bound. (written by gen_yd.py) -/
namespace Go.Proofs.Ytnkdpogplkomhaa
open Go.RowKit

set_option maxHeartbeats 8000000 in
set_option maxRecDepth 100000 in
theorem drawB_any (g c p : Nat) (A : Option Addr) (z : List Int) (n : Int) (w : World) (h : Rd w g A z c p) (hp : p ≤ 900000) (hn1 : 1 ≤ n) (hn2 : n ≤ 50) :
    Calls Try.prog 96 #[.pointer (some ⟨g, 0, none⟩), .int .i64 n] w fun e w2 => ∃ x : Ctx, e = .returned (.agg #[.int .i64 x.id, .int .i64 x.kind, .int .i64 x.area]) ∧ Drawn w g A z c p 7 w2 := by
  have hlt := h.lt
  have hn0 : ¬ w.heap.size = g := by omega
  go_enter Try.func96, Try.ntmps96
  go_wp2_with fail
  refine (pick_any g c p A z _ _ (h.step ((Below.refl _ _).alloc (Nat.le_refl _) _)) (by omega) (by omega)).mono ?_
  rintro e w2 ⟨r2, rfl, a2, b2, _, hr2, hg2⟩
  have b2 := b2 (by omega)
  go_wp2_with fail
  refine (pick_any g c _ A z _ _ hr2 (by omega) (by omega)).mono ?_
  rintro e w3 ⟨r3, rfl, a3, b3, _, hr3, hg3⟩
  have b3 := b3 (by omega)
  go_wp2_with fail
  refine (pick_any g c _ A z _ _ hr3 (by omega) (by omega)).mono ?_
  rintro e w4 ⟨r4, rfl, a4, b4, _, hr4, hg4⟩
  have b4 := b4 (by omega)
  have g4 : w.grownBy w4 (some g) := (((World.grownBy_alloc w _ _).trans hg2).trans hg3).trans hg4
  have m04 := row_keep hg4 (row_keep hg3 (row_keep hg2 (heap_alloc_new w (.cells #[.int .i64 0, .int .i64 0, .int .i64 0] 44)) hn0) hn0) hn0
  have hs4 : w.heap.size < w4.heap.size := (Array.getElem?_eq_some_iff.1 m04).1
  have hn4 : ¬ w4.heap.size = g := by omega
  have hn04 : ¬ w.heap.size = w4.heap.size := by omega
  have hn40 : ¬ w4.heap.size = w.heap.size := by omega
  have M04 := Lib.hid m04
  have G4 := Lib.hid g4
  clear m04 g4 hg2 hg3 hg4 hr2 hr3 h
  by_cases h9 : 999 < r2 * 10 + r4 * 10
  · go_wp2_with fail
    refine (pick_any g c _ A z _ _ (hr4.step ((Below.refl _ _).alloc (Nat.le_refl _) _)) (by omega) (by omega)).mono ?_
    rintro e w5 ⟨r5, rfl, a5, b5, _, hr5, hg5⟩
    have b5 := b5 (by omega)
    have M05 := Lib.hid (row_keep hg5 (row_alloc M04.out) hn0)
    have M45 := Lib.hid (row_keep hg5 (heap_alloc_new w4 (.cells #[.int .i64 (1 + r3), .int .i64 (r2 * 10), .int .i64 999] 44)) hn4)
    have G5 := Lib.hid ((grown_alloc G4.out _).trans hg5)
    have hs5 : w4.heap.size < w5.heap.size := (Array.getElem?_eq_some_iff.1 M45.out).1
    clear hg5 hr4
    have hc5 : (r5 = 0 ∨ r5 = 1 ∨ r5 = 2 ∨ r5 = 3) ∨ (r5 = 4 ∨ r5 = 5 ∨ r5 = 6 ∨ r5 = 7) ∨ 8 ≤ r5 := by omega
    rcases hc5 with (rfl | rfl | rfl | rfl) | (rfl | rfl | rfl | rfl) | hc5
    · skip
      have z0 : w5.cell? ⟨w.heap.size, 0, none⟩ = some (.int .i64 0) := cell_of_row _ _ 0 _ _ _ M05.out
      have f0 := frozen_of_row _ _ 0 _ _ M05.out
      have z1 : w5.cell? ⟨w.heap.size, 1, none⟩ = some (.int .i64 0) := cell_of_row _ _ 1 _ _ _ M05.out
      have f1 := frozen_of_row _ _ 1 _ _ M05.out
      have z2 : w5.cell? ⟨w.heap.size, 2, none⟩ = some (.int .i64 0) := cell_of_row _ _ 2 _ _ _ M05.out
      have f2 := frozen_of_row _ _ 2 _ _ M05.out
      have y0 : w5.cell? ⟨w4.heap.size, 0, none⟩ = some (.int .i64 (1 + r3)) := cell_of_row _ _ 0 _ _ _ M45.out
      have x0 := frozen_of_row _ _ 0 _ _ M45.out
      have y1 : w5.cell? ⟨w4.heap.size, 1, none⟩ = some (.int .i64 (r2 * 10)) := cell_of_row _ _ 1 _ _ _ M45.out
      have x1 := frozen_of_row _ _ 1 _ _ M45.out
      have y2 : w5.cell? ⟨w4.heap.size, 2, none⟩ = some (.int .i64 999) := cell_of_row _ _ 2 _ _ _ M45.out
      have x2 := frozen_of_row _ _ 2 _ _ M45.out
      go_wp2_with fail
      refine bodyPost_ret (v := .agg #[.int .i64 (1 + r3), .int .i64 (r2 * 10), .int .i64 (r2 * 10 - 1)]) (by simp [results, Try.results96, go_sem, *]) rfl ⟨⟨(1 + r3), (r2 * 10), (r2 * 10 - 1)⟩, rfl, ⟨⟨p + 1 + 1 + 1 + 1, by omega, ?_⟩, ?_⟩⟩
      · repeat (first | exact hr5 | refine Rd.set ?_ (by simp; try omega) _)
      · repeat (first | exact G5.out | refine grown_new ?_ (by simp; try omega) _)
    · skip
      go_wp2_with fail
      refine (pick_any g c _ A z _ _ (hr5.step ((Below.refl _ _).alloc (Nat.le_refl _) _)) (by omega) (by omega)).mono ?_
      rintro e w6 ⟨r6, rfl, a6, b6, _, hr6, hg6⟩
      have b6 := b6 (by omega)
      have hn5 : ¬ w5.heap.size = g := by omega
      have M06 := Lib.hid (row_keep hg6 (row_alloc M05.out) hn0)
      have M46 := Lib.hid (row_keep hg6 (row_alloc M45.out) hn4)
      have A6 := Lib.hid (row_keep hg6 (heap_alloc_new w5 (.cells #[.int .i64 0, .int .i64 99, .int .i64 100] 3)) hn5)
      have G6 := Lib.hid ((grown_alloc G5.out _).trans hg6)
      have hs6 : w5.heap.size < w6.heap.size := (Array.getElem?_eq_some_iff.1 A6.out).1
      clear hg6 hr5
      have hc6 : r6 = 0 ∨ r6 = 1 ∨ r6 = 2 := by omega
      rcases hc6 with rfl | rfl | rfl
      · skip
        have d0 : w6.cell? ⟨w5.heap.size, 0, none⟩ = some (.int .i64 0) := cell_of_row _ _ 0 _ _ _ A6.out
        have z0 : w6.cell? ⟨w.heap.size, 0, none⟩ = some (.int .i64 0) := cell_of_row _ _ 0 _ _ _ M06.out
        have f0 := frozen_of_row _ _ 0 _ _ M06.out
        have z1 : w6.cell? ⟨w.heap.size, 1, none⟩ = some (.int .i64 0) := cell_of_row _ _ 1 _ _ _ M06.out
        have f1 := frozen_of_row _ _ 1 _ _ M06.out
        have z2 : w6.cell? ⟨w.heap.size, 2, none⟩ = some (.int .i64 0) := cell_of_row _ _ 2 _ _ _ M06.out
        have f2 := frozen_of_row _ _ 2 _ _ M06.out
        have y0 : w6.cell? ⟨w4.heap.size, 0, none⟩ = some (.int .i64 (1 + r3)) := cell_of_row _ _ 0 _ _ _ M46.out
        have x0 := frozen_of_row _ _ 0 _ _ M46.out
        have y1 : w6.cell? ⟨w4.heap.size, 1, none⟩ = some (.int .i64 (r2 * 10)) := cell_of_row _ _ 1 _ _ _ M46.out
        have x1 := frozen_of_row _ _ 1 _ _ M46.out
        have y2 : w6.cell? ⟨w4.heap.size, 2, none⟩ = some (.int .i64 999) := cell_of_row _ _ 2 _ _ _ M46.out
        have x2 := frozen_of_row _ _ 2 _ _ M46.out
        go_wp2_with fail
        refine bodyPost_ret (v := .agg #[.int .i64 0, .int .i64 (r2 * 10), .int .i64 999]) (by simp [results, Try.results96, go_sem, *]) rfl ⟨⟨0, (r2 * 10), 999⟩, rfl, ⟨⟨p + 1 + 1 + 1 + 1 + 1, by omega, ?_⟩, ?_⟩⟩
        · repeat (first | exact hr6 | refine Rd.set ?_ (by simp; try omega) _)
        · repeat (first | exact G6.out | refine grown_new ?_ (by simp; try omega) _)
      · skip
        have d1 : w6.cell? ⟨w5.heap.size, 1, none⟩ = some (.int .i64 99) := cell_of_row _ _ 1 _ _ _ A6.out
        have z0 : w6.cell? ⟨w.heap.size, 0, none⟩ = some (.int .i64 0) := cell_of_row _ _ 0 _ _ _ M06.out
        have f0 := frozen_of_row _ _ 0 _ _ M06.out
        have z1 : w6.cell? ⟨w.heap.size, 1, none⟩ = some (.int .i64 0) := cell_of_row _ _ 1 _ _ _ M06.out
        have f1 := frozen_of_row _ _ 1 _ _ M06.out
        have z2 : w6.cell? ⟨w.heap.size, 2, none⟩ = some (.int .i64 0) := cell_of_row _ _ 2 _ _ _ M06.out
        have f2 := frozen_of_row _ _ 2 _ _ M06.out
        have y0 : w6.cell? ⟨w4.heap.size, 0, none⟩ = some (.int .i64 (1 + r3)) := cell_of_row _ _ 0 _ _ _ M46.out
        have x0 := frozen_of_row _ _ 0 _ _ M46.out
        have y1 : w6.cell? ⟨w4.heap.size, 1, none⟩ = some (.int .i64 (r2 * 10)) := cell_of_row _ _ 1 _ _ _ M46.out
        have x1 := frozen_of_row _ _ 1 _ _ M46.out
        have y2 : w6.cell? ⟨w4.heap.size, 2, none⟩ = some (.int .i64 999) := cell_of_row _ _ 2 _ _ _ M46.out
        have x2 := frozen_of_row _ _ 2 _ _ M46.out
        go_wp2_with fail
        refine bodyPost_ret (v := .agg #[.int .i64 99, .int .i64 (r2 * 10), .int .i64 999]) (by simp [results, Try.results96, go_sem, *]) rfl ⟨⟨99, (r2 * 10), 999⟩, rfl, ⟨⟨p + 1 + 1 + 1 + 1 + 1, by omega, ?_⟩, ?_⟩⟩
        · repeat (first | exact hr6 | refine Rd.set ?_ (by simp; try omega) _)
        · repeat (first | exact G6.out | refine grown_new ?_ (by simp; try omega) _)
      · skip
        have d2 : w6.cell? ⟨w5.heap.size, 2, none⟩ = some (.int .i64 100) := cell_of_row _ _ 2 _ _ _ A6.out
        have z0 : w6.cell? ⟨w.heap.size, 0, none⟩ = some (.int .i64 0) := cell_of_row _ _ 0 _ _ _ M06.out
        have f0 := frozen_of_row _ _ 0 _ _ M06.out
        have z1 : w6.cell? ⟨w.heap.size, 1, none⟩ = some (.int .i64 0) := cell_of_row _ _ 1 _ _ _ M06.out
        have f1 := frozen_of_row _ _ 1 _ _ M06.out
        have z2 : w6.cell? ⟨w.heap.size, 2, none⟩ = some (.int .i64 0) := cell_of_row _ _ 2 _ _ _ M06.out
        have f2 := frozen_of_row _ _ 2 _ _ M06.out
        have y0 : w6.cell? ⟨w4.heap.size, 0, none⟩ = some (.int .i64 (1 + r3)) := cell_of_row _ _ 0 _ _ _ M46.out
        have x0 := frozen_of_row _ _ 0 _ _ M46.out
        have y1 : w6.cell? ⟨w4.heap.size, 1, none⟩ = some (.int .i64 (r2 * 10)) := cell_of_row _ _ 1 _ _ _ M46.out
        have x1 := frozen_of_row _ _ 1 _ _ M46.out
        have y2 : w6.cell? ⟨w4.heap.size, 2, none⟩ = some (.int .i64 999) := cell_of_row _ _ 2 _ _ _ M46.out
        have x2 := frozen_of_row _ _ 2 _ _ M46.out
        go_wp2_with fail
        refine bodyPost_ret (v := .agg #[.int .i64 100, .int .i64 (r2 * 10), .int .i64 999]) (by simp [results, Try.results96, go_sem, *]) rfl ⟨⟨100, (r2 * 10), 999⟩, rfl, ⟨⟨p + 1 + 1 + 1 + 1 + 1, by omega, ?_⟩, ?_⟩⟩
        · repeat (first | exact hr6 | refine Rd.set ?_ (by simp; try omega) _)
        · repeat (first | exact G6.out | refine grown_new ?_ (by simp; try omega) _)
    · skip
      go_wp2_with fail
      refine (pick_any g c _ A z _ _ (hr5.step ((Below.refl _ _).alloc (Nat.le_refl _) _)) (by omega) (by omega)).mono ?_
      rintro e w6 ⟨r6, rfl, a6, b6, _, hr6, hg6⟩
      have b6 := b6 (by omega)
      have hn5 : ¬ w5.heap.size = g := by omega
      have M06 := Lib.hid (row_keep hg6 (row_alloc M05.out) hn0)
      have M46 := Lib.hid (row_keep hg6 (row_alloc M45.out) hn4)
      have A6 := Lib.hid (row_keep hg6 (heap_alloc_new w5 (.cells #[.int .i64 (-1), .int .i64 0] 3)) hn5)
      have G6 := Lib.hid ((grown_alloc G5.out _).trans hg6)
      have hs6 : w5.heap.size < w6.heap.size := (Array.getElem?_eq_some_iff.1 A6.out).1
      clear hg6 hr5
      have hc6 : r6 = 0 ∨ r6 = 1 := by omega
      rcases hc6 with rfl | rfl
      · skip
        have d0 : w6.cell? ⟨w5.heap.size, 0, none⟩ = some (.int .i64 (-1)) := cell_of_row _ _ 0 _ _ _ A6.out
        have z0 : w6.cell? ⟨w.heap.size, 0, none⟩ = some (.int .i64 0) := cell_of_row _ _ 0 _ _ _ M06.out
        have f0 := frozen_of_row _ _ 0 _ _ M06.out
        have z1 : w6.cell? ⟨w.heap.size, 1, none⟩ = some (.int .i64 0) := cell_of_row _ _ 1 _ _ _ M06.out
        have f1 := frozen_of_row _ _ 1 _ _ M06.out
        have z2 : w6.cell? ⟨w.heap.size, 2, none⟩ = some (.int .i64 0) := cell_of_row _ _ 2 _ _ _ M06.out
        have f2 := frozen_of_row _ _ 2 _ _ M06.out
        have y0 : w6.cell? ⟨w4.heap.size, 0, none⟩ = some (.int .i64 (1 + r3)) := cell_of_row _ _ 0 _ _ _ M46.out
        have x0 := frozen_of_row _ _ 0 _ _ M46.out
        have y1 : w6.cell? ⟨w4.heap.size, 1, none⟩ = some (.int .i64 (r2 * 10)) := cell_of_row _ _ 1 _ _ _ M46.out
        have x1 := frozen_of_row _ _ 1 _ _ M46.out
        have y2 : w6.cell? ⟨w4.heap.size, 2, none⟩ = some (.int .i64 999) := cell_of_row _ _ 2 _ _ _ M46.out
        have x2 := frozen_of_row _ _ 2 _ _ M46.out
        go_wp2_with fail
        refine bodyPost_ret (v := .agg #[.int .i64 (1 + r3), .int .i64 (-1), .int .i64 999]) (by simp [results, Try.results96, go_sem, *]) rfl ⟨⟨(1 + r3), (-1), 999⟩, rfl, ⟨⟨p + 1 + 1 + 1 + 1 + 1, by omega, ?_⟩, ?_⟩⟩
        · repeat (first | exact hr6 | refine Rd.set ?_ (by simp; try omega) _)
        · repeat (first | exact G6.out | refine grown_new ?_ (by simp; try omega) _)
      · skip
        have d1 : w6.cell? ⟨w5.heap.size, 1, none⟩ = some (.int .i64 0) := cell_of_row _ _ 1 _ _ _ A6.out
        have z0 : w6.cell? ⟨w.heap.size, 0, none⟩ = some (.int .i64 0) := cell_of_row _ _ 0 _ _ _ M06.out
        have f0 := frozen_of_row _ _ 0 _ _ M06.out
        have z1 : w6.cell? ⟨w.heap.size, 1, none⟩ = some (.int .i64 0) := cell_of_row _ _ 1 _ _ _ M06.out
        have f1 := frozen_of_row _ _ 1 _ _ M06.out
        have z2 : w6.cell? ⟨w.heap.size, 2, none⟩ = some (.int .i64 0) := cell_of_row _ _ 2 _ _ _ M06.out
        have f2 := frozen_of_row _ _ 2 _ _ M06.out
        have y0 : w6.cell? ⟨w4.heap.size, 0, none⟩ = some (.int .i64 (1 + r3)) := cell_of_row _ _ 0 _ _ _ M46.out
        have x0 := frozen_of_row _ _ 0 _ _ M46.out
        have y1 : w6.cell? ⟨w4.heap.size, 1, none⟩ = some (.int .i64 (r2 * 10)) := cell_of_row _ _ 1 _ _ _ M46.out
        have x1 := frozen_of_row _ _ 1 _ _ M46.out
        have y2 : w6.cell? ⟨w4.heap.size, 2, none⟩ = some (.int .i64 999) := cell_of_row _ _ 2 _ _ _ M46.out
        have x2 := frozen_of_row _ _ 2 _ _ M46.out
        go_wp2_with fail
        refine bodyPost_ret (v := .agg #[.int .i64 (1 + r3), .int .i64 0, .int .i64 999]) (by simp [results, Try.results96, go_sem, *]) rfl ⟨⟨(1 + r3), 0, 999⟩, rfl, ⟨⟨p + 1 + 1 + 1 + 1 + 1, by omega, ?_⟩, ?_⟩⟩
        · repeat (first | exact hr6 | refine Rd.set ?_ (by simp; try omega) _)
        · repeat (first | exact G6.out | refine grown_new ?_ (by simp; try omega) _)
    · skip
      go_wp2_with fail
      refine (pick_any g c _ A z _ _ (hr5.step ((Below.refl _ _).alloc (Nat.le_refl _) _)) (by omega) (by omega)).mono ?_
      rintro e w6 ⟨r6, rfl, a6, b6, _, hr6, hg6⟩
      have b6 := b6 (by omega)
      have hn5 : ¬ w5.heap.size = g := by omega
      have M06 := Lib.hid (row_keep hg6 (row_alloc M05.out) hn0)
      have M46 := Lib.hid (row_keep hg6 (row_alloc M45.out) hn4)
      have A6 := Lib.hid (row_keep hg6 (heap_alloc_new w5 (.cells #[.int .i64 999, .int .i64 1000] 3)) hn5)
      have G6 := Lib.hid ((grown_alloc G5.out _).trans hg6)
      have hs6 : w5.heap.size < w6.heap.size := (Array.getElem?_eq_some_iff.1 A6.out).1
      clear hg6 hr5
      have hc6 : r6 = 0 ∨ r6 = 1 := by omega
      rcases hc6 with rfl | rfl
      · skip
        have d0 : w6.cell? ⟨w5.heap.size, 0, none⟩ = some (.int .i64 999) := cell_of_row _ _ 0 _ _ _ A6.out
        have z0 : w6.cell? ⟨w.heap.size, 0, none⟩ = some (.int .i64 0) := cell_of_row _ _ 0 _ _ _ M06.out
        have f0 := frozen_of_row _ _ 0 _ _ M06.out
        have z1 : w6.cell? ⟨w.heap.size, 1, none⟩ = some (.int .i64 0) := cell_of_row _ _ 1 _ _ _ M06.out
        have f1 := frozen_of_row _ _ 1 _ _ M06.out
        have z2 : w6.cell? ⟨w.heap.size, 2, none⟩ = some (.int .i64 0) := cell_of_row _ _ 2 _ _ _ M06.out
        have f2 := frozen_of_row _ _ 2 _ _ M06.out
        have y0 : w6.cell? ⟨w4.heap.size, 0, none⟩ = some (.int .i64 (1 + r3)) := cell_of_row _ _ 0 _ _ _ M46.out
        have x0 := frozen_of_row _ _ 0 _ _ M46.out
        have y1 : w6.cell? ⟨w4.heap.size, 1, none⟩ = some (.int .i64 (r2 * 10)) := cell_of_row _ _ 1 _ _ _ M46.out
        have x1 := frozen_of_row _ _ 1 _ _ M46.out
        have y2 : w6.cell? ⟨w4.heap.size, 2, none⟩ = some (.int .i64 999) := cell_of_row _ _ 2 _ _ _ M46.out
        have x2 := frozen_of_row _ _ 2 _ _ M46.out
        go_wp2_with fail
        refine bodyPost_ret (v := .agg #[.int .i64 (1 + r3), .int .i64 (r2 * 10), .int .i64 999]) (by simp [results, Try.results96, go_sem, *]) rfl ⟨⟨(1 + r3), (r2 * 10), 999⟩, rfl, ⟨⟨p + 1 + 1 + 1 + 1 + 1, by omega, ?_⟩, ?_⟩⟩
        · repeat (first | exact hr6 | refine Rd.set ?_ (by simp; try omega) _)
        · repeat (first | exact G6.out | refine grown_new ?_ (by simp; try omega) _)
      · skip
        have d1 : w6.cell? ⟨w5.heap.size, 1, none⟩ = some (.int .i64 1000) := cell_of_row _ _ 1 _ _ _ A6.out
        have z0 : w6.cell? ⟨w.heap.size, 0, none⟩ = some (.int .i64 0) := cell_of_row _ _ 0 _ _ _ M06.out
        have f0 := frozen_of_row _ _ 0 _ _ M06.out
        have z1 : w6.cell? ⟨w.heap.size, 1, none⟩ = some (.int .i64 0) := cell_of_row _ _ 1 _ _ _ M06.out
        have f1 := frozen_of_row _ _ 1 _ _ M06.out
        have z2 : w6.cell? ⟨w.heap.size, 2, none⟩ = some (.int .i64 0) := cell_of_row _ _ 2 _ _ _ M06.out
        have f2 := frozen_of_row _ _ 2 _ _ M06.out
        have y0 : w6.cell? ⟨w4.heap.size, 0, none⟩ = some (.int .i64 (1 + r3)) := cell_of_row _ _ 0 _ _ _ M46.out
        have x0 := frozen_of_row _ _ 0 _ _ M46.out
        have y1 : w6.cell? ⟨w4.heap.size, 1, none⟩ = some (.int .i64 (r2 * 10)) := cell_of_row _ _ 1 _ _ _ M46.out
        have x1 := frozen_of_row _ _ 1 _ _ M46.out
        have y2 : w6.cell? ⟨w4.heap.size, 2, none⟩ = some (.int .i64 999) := cell_of_row _ _ 2 _ _ _ M46.out
        have x2 := frozen_of_row _ _ 2 _ _ M46.out
        go_wp2_with fail
        refine bodyPost_ret (v := .agg #[.int .i64 (1 + r3), .int .i64 (r2 * 10), .int .i64 1000]) (by simp [results, Try.results96, go_sem, *]) rfl ⟨⟨(1 + r3), (r2 * 10), 1000⟩, rfl, ⟨⟨p + 1 + 1 + 1 + 1 + 1, by omega, ?_⟩, ?_⟩⟩
        · repeat (first | exact hr6 | refine Rd.set ?_ (by simp; try omega) _)
        · repeat (first | exact G6.out | refine grown_new ?_ (by simp; try omega) _)
    · skip
      have z0 : w5.cell? ⟨w.heap.size, 0, none⟩ = some (.int .i64 0) := cell_of_row _ _ 0 _ _ _ M05.out
      have f0 := frozen_of_row _ _ 0 _ _ M05.out
      have z1 : w5.cell? ⟨w.heap.size, 1, none⟩ = some (.int .i64 0) := cell_of_row _ _ 1 _ _ _ M05.out
      have f1 := frozen_of_row _ _ 1 _ _ M05.out
      have z2 : w5.cell? ⟨w.heap.size, 2, none⟩ = some (.int .i64 0) := cell_of_row _ _ 2 _ _ _ M05.out
      have f2 := frozen_of_row _ _ 2 _ _ M05.out
      have y0 : w5.cell? ⟨w4.heap.size, 0, none⟩ = some (.int .i64 (1 + r3)) := cell_of_row _ _ 0 _ _ _ M45.out
      have x0 := frozen_of_row _ _ 0 _ _ M45.out
      have y1 : w5.cell? ⟨w4.heap.size, 1, none⟩ = some (.int .i64 (r2 * 10)) := cell_of_row _ _ 1 _ _ _ M45.out
      have x1 := frozen_of_row _ _ 1 _ _ M45.out
      have y2 : w5.cell? ⟨w4.heap.size, 2, none⟩ = some (.int .i64 999) := cell_of_row _ _ 2 _ _ _ M45.out
      have x2 := frozen_of_row _ _ 2 _ _ M45.out
      go_wp2_with fail
      refine bodyPost_ret (v := .agg #[.int .i64 (1 + r3), .int .i64 0, .int .i64 999]) (by simp [results, Try.results96, go_sem, *]) rfl ⟨⟨(1 + r3), 0, 999⟩, rfl, ⟨⟨p + 1 + 1 + 1 + 1, by omega, ?_⟩, ?_⟩⟩
      · repeat (first | exact hr5 | refine Rd.set ?_ (by simp; try omega) _)
      · repeat (first | exact G5.out | refine grown_new ?_ (by simp; try omega) _)
    · skip
      have z0 : w5.cell? ⟨w.heap.size, 0, none⟩ = some (.int .i64 0) := cell_of_row _ _ 0 _ _ _ M05.out
      have f0 := frozen_of_row _ _ 0 _ _ M05.out
      have z1 : w5.cell? ⟨w.heap.size, 1, none⟩ = some (.int .i64 0) := cell_of_row _ _ 1 _ _ _ M05.out
      have f1 := frozen_of_row _ _ 1 _ _ M05.out
      have z2 : w5.cell? ⟨w.heap.size, 2, none⟩ = some (.int .i64 0) := cell_of_row _ _ 2 _ _ _ M05.out
      have f2 := frozen_of_row _ _ 2 _ _ M05.out
      have y0 : w5.cell? ⟨w4.heap.size, 0, none⟩ = some (.int .i64 (1 + r3)) := cell_of_row _ _ 0 _ _ _ M45.out
      have x0 := frozen_of_row _ _ 0 _ _ M45.out
      have y1 : w5.cell? ⟨w4.heap.size, 1, none⟩ = some (.int .i64 (r2 * 10)) := cell_of_row _ _ 1 _ _ _ M45.out
      have x1 := frozen_of_row _ _ 1 _ _ M45.out
      have y2 : w5.cell? ⟨w4.heap.size, 2, none⟩ = some (.int .i64 999) := cell_of_row _ _ 2 _ _ _ M45.out
      have x2 := frozen_of_row _ _ 2 _ _ M45.out
      go_wp2_with fail
      refine bodyPost_ret (v := .agg #[.int .i64 (1 + r3), .int .i64 0, .int .i64 999]) (by simp [results, Try.results96, go_sem, *]) rfl ⟨⟨(1 + r3), 0, 999⟩, rfl, ⟨⟨p + 1 + 1 + 1 + 1, by omega, ?_⟩, ?_⟩⟩
      · repeat (first | exact hr5 | refine Rd.set ?_ (by simp; try omega) _)
      · repeat (first | exact G5.out | refine grown_new ?_ (by simp; try omega) _)
    · skip
      have z0 : w5.cell? ⟨w.heap.size, 0, none⟩ = some (.int .i64 0) := cell_of_row _ _ 0 _ _ _ M05.out
      have f0 := frozen_of_row _ _ 0 _ _ M05.out
      have z1 : w5.cell? ⟨w.heap.size, 1, none⟩ = some (.int .i64 0) := cell_of_row _ _ 1 _ _ _ M05.out
      have f1 := frozen_of_row _ _ 1 _ _ M05.out
      have z2 : w5.cell? ⟨w.heap.size, 2, none⟩ = some (.int .i64 0) := cell_of_row _ _ 2 _ _ _ M05.out
      have f2 := frozen_of_row _ _ 2 _ _ M05.out
      have y0 : w5.cell? ⟨w4.heap.size, 0, none⟩ = some (.int .i64 (1 + r3)) := cell_of_row _ _ 0 _ _ _ M45.out
      have x0 := frozen_of_row _ _ 0 _ _ M45.out
      have y1 : w5.cell? ⟨w4.heap.size, 1, none⟩ = some (.int .i64 (r2 * 10)) := cell_of_row _ _ 1 _ _ _ M45.out
      have x1 := frozen_of_row _ _ 1 _ _ M45.out
      have y2 : w5.cell? ⟨w4.heap.size, 2, none⟩ = some (.int .i64 999) := cell_of_row _ _ 2 _ _ _ M45.out
      have x2 := frozen_of_row _ _ 2 _ _ M45.out
      go_wp2_with fail
      refine bodyPost_ret (v := .agg #[.int .i64 (1 + r3), .int .i64 (r2 * 10), .int .i64 999]) (by simp [results, Try.results96, go_sem, *]) rfl ⟨⟨(1 + r3), (r2 * 10), 999⟩, rfl, ⟨⟨p + 1 + 1 + 1 + 1, by omega, ?_⟩, ?_⟩⟩
      · repeat (first | exact hr5 | refine Rd.set ?_ (by simp; try omega) _)
      · repeat (first | exact G5.out | refine grown_new ?_ (by simp; try omega) _)
    · skip
      have z0 : w5.cell? ⟨w.heap.size, 0, none⟩ = some (.int .i64 0) := cell_of_row _ _ 0 _ _ _ M05.out
      have f0 := frozen_of_row _ _ 0 _ _ M05.out
      have z1 : w5.cell? ⟨w.heap.size, 1, none⟩ = some (.int .i64 0) := cell_of_row _ _ 1 _ _ _ M05.out
      have f1 := frozen_of_row _ _ 1 _ _ M05.out
      have z2 : w5.cell? ⟨w.heap.size, 2, none⟩ = some (.int .i64 0) := cell_of_row _ _ 2 _ _ _ M05.out
      have f2 := frozen_of_row _ _ 2 _ _ M05.out
      have y0 : w5.cell? ⟨w4.heap.size, 0, none⟩ = some (.int .i64 (1 + r3)) := cell_of_row _ _ 0 _ _ _ M45.out
      have x0 := frozen_of_row _ _ 0 _ _ M45.out
      have y1 : w5.cell? ⟨w4.heap.size, 1, none⟩ = some (.int .i64 (r2 * 10)) := cell_of_row _ _ 1 _ _ _ M45.out
      have x1 := frozen_of_row _ _ 1 _ _ M45.out
      have y2 : w5.cell? ⟨w4.heap.size, 2, none⟩ = some (.int .i64 999) := cell_of_row _ _ 2 _ _ _ M45.out
      have x2 := frozen_of_row _ _ 2 _ _ M45.out
      go_wp2_with fail
      refine bodyPost_ret (v := .agg #[.int .i64 (1 + r3), .int .i64 (r2 * 10), .int .i64 999]) (by simp [results, Try.results96, go_sem, *]) rfl ⟨⟨(1 + r3), (r2 * 10), 999⟩, rfl, ⟨⟨p + 1 + 1 + 1 + 1, by omega, ?_⟩, ?_⟩⟩
      · repeat (first | exact hr5 | refine Rd.set ?_ (by simp; try omega) _)
      · repeat (first | exact G5.out | refine grown_new ?_ (by simp; try omega) _)
    · skip
      have z0 : w5.cell? ⟨w.heap.size, 0, none⟩ = some (.int .i64 0) := cell_of_row _ _ 0 _ _ _ M05.out
      have f0 := frozen_of_row _ _ 0 _ _ M05.out
      have z1 : w5.cell? ⟨w.heap.size, 1, none⟩ = some (.int .i64 0) := cell_of_row _ _ 1 _ _ _ M05.out
      have f1 := frozen_of_row _ _ 1 _ _ M05.out
      have z2 : w5.cell? ⟨w.heap.size, 2, none⟩ = some (.int .i64 0) := cell_of_row _ _ 2 _ _ _ M05.out
      have f2 := frozen_of_row _ _ 2 _ _ M05.out
      have y0 : w5.cell? ⟨w4.heap.size, 0, none⟩ = some (.int .i64 (1 + r3)) := cell_of_row _ _ 0 _ _ _ M45.out
      have x0 := frozen_of_row _ _ 0 _ _ M45.out
      have y1 : w5.cell? ⟨w4.heap.size, 1, none⟩ = some (.int .i64 (r2 * 10)) := cell_of_row _ _ 1 _ _ _ M45.out
      have x1 := frozen_of_row _ _ 1 _ _ M45.out
      have y2 : w5.cell? ⟨w4.heap.size, 2, none⟩ = some (.int .i64 999) := cell_of_row _ _ 2 _ _ _ M45.out
      have x2 := frozen_of_row _ _ 2 _ _ M45.out
      go_wp2_with fail
      refine bodyPost_ret (v := .agg #[.int .i64 (1 + r3), .int .i64 (r2 * 10), .int .i64 999]) (by simp [results, Try.results96, go_sem, *]) rfl ⟨⟨(1 + r3), (r2 * 10), 999⟩, rfl, ⟨⟨p + 1 + 1 + 1 + 1, by omega, ?_⟩, ?_⟩⟩
      · repeat (first | exact hr5 | refine Rd.set ?_ (by simp; try omega) _)
      · repeat (first | exact G5.out | refine grown_new ?_ (by simp; try omega) _)
  · go_wp2_with fail
    refine (pick_any g c _ A z _ _ (hr4.step ((Below.refl _ _).alloc (Nat.le_refl _) _)) (by omega) (by omega)).mono ?_
    rintro e w5 ⟨r5, rfl, a5, b5, _, hr5, hg5⟩
    have b5 := b5 (by omega)
    have M05 := Lib.hid (row_keep hg5 (row_alloc M04.out) hn0)
    have M45 := Lib.hid (row_keep hg5 (heap_alloc_new w4 (.cells #[.int .i64 (1 + r3), .int .i64 (r2 * 10), .int .i64 (r2 * 10 + r4 * 10)] 44)) hn4)
    have G5 := Lib.hid ((grown_alloc G4.out _).trans hg5)
    have hs5 : w4.heap.size < w5.heap.size := (Array.getElem?_eq_some_iff.1 M45.out).1
    clear hg5 hr4
    have hc5 : (r5 = 0 ∨ r5 = 1 ∨ r5 = 2 ∨ r5 = 3) ∨ (r5 = 4 ∨ r5 = 5 ∨ r5 = 6 ∨ r5 = 7) ∨ 8 ≤ r5 := by omega
    rcases hc5 with (rfl | rfl | rfl | rfl) | (rfl | rfl | rfl | rfl) | hc5
    · skip
      have z0 : w5.cell? ⟨w.heap.size, 0, none⟩ = some (.int .i64 0) := cell_of_row _ _ 0 _ _ _ M05.out
      have f0 := frozen_of_row _ _ 0 _ _ M05.out
      have z1 : w5.cell? ⟨w.heap.size, 1, none⟩ = some (.int .i64 0) := cell_of_row _ _ 1 _ _ _ M05.out
      have f1 := frozen_of_row _ _ 1 _ _ M05.out
      have z2 : w5.cell? ⟨w.heap.size, 2, none⟩ = some (.int .i64 0) := cell_of_row _ _ 2 _ _ _ M05.out
      have f2 := frozen_of_row _ _ 2 _ _ M05.out
      have y0 : w5.cell? ⟨w4.heap.size, 0, none⟩ = some (.int .i64 (1 + r3)) := cell_of_row _ _ 0 _ _ _ M45.out
      have x0 := frozen_of_row _ _ 0 _ _ M45.out
      have y1 : w5.cell? ⟨w4.heap.size, 1, none⟩ = some (.int .i64 (r2 * 10)) := cell_of_row _ _ 1 _ _ _ M45.out
      have x1 := frozen_of_row _ _ 1 _ _ M45.out
      have y2 : w5.cell? ⟨w4.heap.size, 2, none⟩ = some (.int .i64 (r2 * 10 + r4 * 10)) := cell_of_row _ _ 2 _ _ _ M45.out
      have x2 := frozen_of_row _ _ 2 _ _ M45.out
      go_wp2_with fail
      refine bodyPost_ret (v := .agg #[.int .i64 (1 + r3), .int .i64 (r2 * 10), .int .i64 (r2 * 10 - 1)]) (by simp [results, Try.results96, go_sem, *]) rfl ⟨⟨(1 + r3), (r2 * 10), (r2 * 10 - 1)⟩, rfl, ⟨⟨p + 1 + 1 + 1 + 1, by omega, ?_⟩, ?_⟩⟩
      · repeat (first | exact hr5 | refine Rd.set ?_ (by simp; try omega) _)
      · repeat (first | exact G5.out | refine grown_new ?_ (by simp; try omega) _)
    · skip
      go_wp2_with fail
      refine (pick_any g c _ A z _ _ (hr5.step ((Below.refl _ _).alloc (Nat.le_refl _) _)) (by omega) (by omega)).mono ?_
      rintro e w6 ⟨r6, rfl, a6, b6, _, hr6, hg6⟩
      have b6 := b6 (by omega)
      have hn5 : ¬ w5.heap.size = g := by omega
      have M06 := Lib.hid (row_keep hg6 (row_alloc M05.out) hn0)
      have M46 := Lib.hid (row_keep hg6 (row_alloc M45.out) hn4)
      have A6 := Lib.hid (row_keep hg6 (heap_alloc_new w5 (.cells #[.int .i64 0, .int .i64 99, .int .i64 100] 3)) hn5)
      have G6 := Lib.hid ((grown_alloc G5.out _).trans hg6)
      have hs6 : w5.heap.size < w6.heap.size := (Array.getElem?_eq_some_iff.1 A6.out).1
      clear hg6 hr5
      have hc6 : r6 = 0 ∨ r6 = 1 ∨ r6 = 2 := by omega
      rcases hc6 with rfl | rfl | rfl
      · skip
        have d0 : w6.cell? ⟨w5.heap.size, 0, none⟩ = some (.int .i64 0) := cell_of_row _ _ 0 _ _ _ A6.out
        have z0 : w6.cell? ⟨w.heap.size, 0, none⟩ = some (.int .i64 0) := cell_of_row _ _ 0 _ _ _ M06.out
        have f0 := frozen_of_row _ _ 0 _ _ M06.out
        have z1 : w6.cell? ⟨w.heap.size, 1, none⟩ = some (.int .i64 0) := cell_of_row _ _ 1 _ _ _ M06.out
        have f1 := frozen_of_row _ _ 1 _ _ M06.out
        have z2 : w6.cell? ⟨w.heap.size, 2, none⟩ = some (.int .i64 0) := cell_of_row _ _ 2 _ _ _ M06.out
        have f2 := frozen_of_row _ _ 2 _ _ M06.out
        have y0 : w6.cell? ⟨w4.heap.size, 0, none⟩ = some (.int .i64 (1 + r3)) := cell_of_row _ _ 0 _ _ _ M46.out
        have x0 := frozen_of_row _ _ 0 _ _ M46.out
        have y1 : w6.cell? ⟨w4.heap.size, 1, none⟩ = some (.int .i64 (r2 * 10)) := cell_of_row _ _ 1 _ _ _ M46.out
        have x1 := frozen_of_row _ _ 1 _ _ M46.out
        have y2 : w6.cell? ⟨w4.heap.size, 2, none⟩ = some (.int .i64 (r2 * 10 + r4 * 10)) := cell_of_row _ _ 2 _ _ _ M46.out
        have x2 := frozen_of_row _ _ 2 _ _ M46.out
        go_wp2_with fail
        refine bodyPost_ret (v := .agg #[.int .i64 0, .int .i64 (r2 * 10), .int .i64 (r2 * 10 + r4 * 10)]) (by simp [results, Try.results96, go_sem, *]) rfl ⟨⟨0, (r2 * 10), (r2 * 10 + r4 * 10)⟩, rfl, ⟨⟨p + 1 + 1 + 1 + 1 + 1, by omega, ?_⟩, ?_⟩⟩
        · repeat (first | exact hr6 | refine Rd.set ?_ (by simp; try omega) _)
        · repeat (first | exact G6.out | refine grown_new ?_ (by simp; try omega) _)
      · skip
        have d1 : w6.cell? ⟨w5.heap.size, 1, none⟩ = some (.int .i64 99) := cell_of_row _ _ 1 _ _ _ A6.out
        have z0 : w6.cell? ⟨w.heap.size, 0, none⟩ = some (.int .i64 0) := cell_of_row _ _ 0 _ _ _ M06.out
        have f0 := frozen_of_row _ _ 0 _ _ M06.out
        have z1 : w6.cell? ⟨w.heap.size, 1, none⟩ = some (.int .i64 0) := cell_of_row _ _ 1 _ _ _ M06.out
        have f1 := frozen_of_row _ _ 1 _ _ M06.out
        have z2 : w6.cell? ⟨w.heap.size, 2, none⟩ = some (.int .i64 0) := cell_of_row _ _ 2 _ _ _ M06.out
        have f2 := frozen_of_row _ _ 2 _ _ M06.out
        have y0 : w6.cell? ⟨w4.heap.size, 0, none⟩ = some (.int .i64 (1 + r3)) := cell_of_row _ _ 0 _ _ _ M46.out
        have x0 := frozen_of_row _ _ 0 _ _ M46.out
        have y1 : w6.cell? ⟨w4.heap.size, 1, none⟩ = some (.int .i64 (r2 * 10)) := cell_of_row _ _ 1 _ _ _ M46.out
        have x1 := frozen_of_row _ _ 1 _ _ M46.out
        have y2 : w6.cell? ⟨w4.heap.size, 2, none⟩ = some (.int .i64 (r2 * 10 + r4 * 10)) := cell_of_row _ _ 2 _ _ _ M46.out
        have x2 := frozen_of_row _ _ 2 _ _ M46.out
        go_wp2_with fail
        refine bodyPost_ret (v := .agg #[.int .i64 99, .int .i64 (r2 * 10), .int .i64 (r2 * 10 + r4 * 10)]) (by simp [results, Try.results96, go_sem, *]) rfl ⟨⟨99, (r2 * 10), (r2 * 10 + r4 * 10)⟩, rfl, ⟨⟨p + 1 + 1 + 1 + 1 + 1, by omega, ?_⟩, ?_⟩⟩
        · repeat (first | exact hr6 | refine Rd.set ?_ (by simp; try omega) _)
        · repeat (first | exact G6.out | refine grown_new ?_ (by simp; try omega) _)
      · skip
        have d2 : w6.cell? ⟨w5.heap.size, 2, none⟩ = some (.int .i64 100) := cell_of_row _ _ 2 _ _ _ A6.out
        have z0 : w6.cell? ⟨w.heap.size, 0, none⟩ = some (.int .i64 0) := cell_of_row _ _ 0 _ _ _ M06.out
        have f0 := frozen_of_row _ _ 0 _ _ M06.out
        have z1 : w6.cell? ⟨w.heap.size, 1, none⟩ = some (.int .i64 0) := cell_of_row _ _ 1 _ _ _ M06.out
        have f1 := frozen_of_row _ _ 1 _ _ M06.out
        have z2 : w6.cell? ⟨w.heap.size, 2, none⟩ = some (.int .i64 0) := cell_of_row _ _ 2 _ _ _ M06.out
        have f2 := frozen_of_row _ _ 2 _ _ M06.out
        have y0 : w6.cell? ⟨w4.heap.size, 0, none⟩ = some (.int .i64 (1 + r3)) := cell_of_row _ _ 0 _ _ _ M46.out
        have x0 := frozen_of_row _ _ 0 _ _ M46.out
        have y1 : w6.cell? ⟨w4.heap.size, 1, none⟩ = some (.int .i64 (r2 * 10)) := cell_of_row _ _ 1 _ _ _ M46.out
        have x1 := frozen_of_row _ _ 1 _ _ M46.out
        have y2 : w6.cell? ⟨w4.heap.size, 2, none⟩ = some (.int .i64 (r2 * 10 + r4 * 10)) := cell_of_row _ _ 2 _ _ _ M46.out
        have x2 := frozen_of_row _ _ 2 _ _ M46.out
        go_wp2_with fail
        refine bodyPost_ret (v := .agg #[.int .i64 100, .int .i64 (r2 * 10), .int .i64 (r2 * 10 + r4 * 10)]) (by simp [results, Try.results96, go_sem, *]) rfl ⟨⟨100, (r2 * 10), (r2 * 10 + r4 * 10)⟩, rfl, ⟨⟨p + 1 + 1 + 1 + 1 + 1, by omega, ?_⟩, ?_⟩⟩
        · repeat (first | exact hr6 | refine Rd.set ?_ (by simp; try omega) _)
        · repeat (first | exact G6.out | refine grown_new ?_ (by simp; try omega) _)
    · skip
      go_wp2_with fail
      refine (pick_any g c _ A z _ _ (hr5.step ((Below.refl _ _).alloc (Nat.le_refl _) _)) (by omega) (by omega)).mono ?_
      rintro e w6 ⟨r6, rfl, a6, b6, _, hr6, hg6⟩
      have b6 := b6 (by omega)
      have hn5 : ¬ w5.heap.size = g := by omega
      have M06 := Lib.hid (row_keep hg6 (row_alloc M05.out) hn0)
      have M46 := Lib.hid (row_keep hg6 (row_alloc M45.out) hn4)
      have A6 := Lib.hid (row_keep hg6 (heap_alloc_new w5 (.cells #[.int .i64 (-1), .int .i64 0] 3)) hn5)
      have G6 := Lib.hid ((grown_alloc G5.out _).trans hg6)
      have hs6 : w5.heap.size < w6.heap.size := (Array.getElem?_eq_some_iff.1 A6.out).1
      clear hg6 hr5
      have hc6 : r6 = 0 ∨ r6 = 1 := by omega
      rcases hc6 with rfl | rfl
      · skip
        have d0 : w6.cell? ⟨w5.heap.size, 0, none⟩ = some (.int .i64 (-1)) := cell_of_row _ _ 0 _ _ _ A6.out
        have z0 : w6.cell? ⟨w.heap.size, 0, none⟩ = some (.int .i64 0) := cell_of_row _ _ 0 _ _ _ M06.out
        have f0 := frozen_of_row _ _ 0 _ _ M06.out
        have z1 : w6.cell? ⟨w.heap.size, 1, none⟩ = some (.int .i64 0) := cell_of_row _ _ 1 _ _ _ M06.out
        have f1 := frozen_of_row _ _ 1 _ _ M06.out
        have z2 : w6.cell? ⟨w.heap.size, 2, none⟩ = some (.int .i64 0) := cell_of_row _ _ 2 _ _ _ M06.out
        have f2 := frozen_of_row _ _ 2 _ _ M06.out
        have y0 : w6.cell? ⟨w4.heap.size, 0, none⟩ = some (.int .i64 (1 + r3)) := cell_of_row _ _ 0 _ _ _ M46.out
        have x0 := frozen_of_row _ _ 0 _ _ M46.out
        have y1 : w6.cell? ⟨w4.heap.size, 1, none⟩ = some (.int .i64 (r2 * 10)) := cell_of_row _ _ 1 _ _ _ M46.out
        have x1 := frozen_of_row _ _ 1 _ _ M46.out
        have y2 : w6.cell? ⟨w4.heap.size, 2, none⟩ = some (.int .i64 (r2 * 10 + r4 * 10)) := cell_of_row _ _ 2 _ _ _ M46.out
        have x2 := frozen_of_row _ _ 2 _ _ M46.out
        go_wp2_with fail
        refine bodyPost_ret (v := .agg #[.int .i64 (1 + r3), .int .i64 (-1), .int .i64 (r2 * 10 + r4 * 10)]) (by simp [results, Try.results96, go_sem, *]) rfl ⟨⟨(1 + r3), (-1), (r2 * 10 + r4 * 10)⟩, rfl, ⟨⟨p + 1 + 1 + 1 + 1 + 1, by omega, ?_⟩, ?_⟩⟩
        · repeat (first | exact hr6 | refine Rd.set ?_ (by simp; try omega) _)
        · repeat (first | exact G6.out | refine grown_new ?_ (by simp; try omega) _)
      · skip
        have d1 : w6.cell? ⟨w5.heap.size, 1, none⟩ = some (.int .i64 0) := cell_of_row _ _ 1 _ _ _ A6.out
        have z0 : w6.cell? ⟨w.heap.size, 0, none⟩ = some (.int .i64 0) := cell_of_row _ _ 0 _ _ _ M06.out
        have f0 := frozen_of_row _ _ 0 _ _ M06.out
        have z1 : w6.cell? ⟨w.heap.size, 1, none⟩ = some (.int .i64 0) := cell_of_row _ _ 1 _ _ _ M06.out
        have f1 := frozen_of_row _ _ 1 _ _ M06.out
        have z2 : w6.cell? ⟨w.heap.size, 2, none⟩ = some (.int .i64 0) := cell_of_row _ _ 2 _ _ _ M06.out
        have f2 := frozen_of_row _ _ 2 _ _ M06.out
        have y0 : w6.cell? ⟨w4.heap.size, 0, none⟩ = some (.int .i64 (1 + r3)) := cell_of_row _ _ 0 _ _ _ M46.out
        have x0 := frozen_of_row _ _ 0 _ _ M46.out
        have y1 : w6.cell? ⟨w4.heap.size, 1, none⟩ = some (.int .i64 (r2 * 10)) := cell_of_row _ _ 1 _ _ _ M46.out
        have x1 := frozen_of_row _ _ 1 _ _ M46.out
        have y2 : w6.cell? ⟨w4.heap.size, 2, none⟩ = some (.int .i64 (r2 * 10 + r4 * 10)) := cell_of_row _ _ 2 _ _ _ M46.out
        have x2 := frozen_of_row _ _ 2 _ _ M46.out
        go_wp2_with fail
        refine bodyPost_ret (v := .agg #[.int .i64 (1 + r3), .int .i64 0, .int .i64 (r2 * 10 + r4 * 10)]) (by simp [results, Try.results96, go_sem, *]) rfl ⟨⟨(1 + r3), 0, (r2 * 10 + r4 * 10)⟩, rfl, ⟨⟨p + 1 + 1 + 1 + 1 + 1, by omega, ?_⟩, ?_⟩⟩
        · repeat (first | exact hr6 | refine Rd.set ?_ (by simp; try omega) _)
        · repeat (first | exact G6.out | refine grown_new ?_ (by simp; try omega) _)
    · skip
      go_wp2_with fail
      refine (pick_any g c _ A z _ _ (hr5.step ((Below.refl _ _).alloc (Nat.le_refl _) _)) (by omega) (by omega)).mono ?_
      rintro e w6 ⟨r6, rfl, a6, b6, _, hr6, hg6⟩
      have b6 := b6 (by omega)
      have hn5 : ¬ w5.heap.size = g := by omega
      have M06 := Lib.hid (row_keep hg6 (row_alloc M05.out) hn0)
      have M46 := Lib.hid (row_keep hg6 (row_alloc M45.out) hn4)
      have A6 := Lib.hid (row_keep hg6 (heap_alloc_new w5 (.cells #[.int .i64 999, .int .i64 1000] 3)) hn5)
      have G6 := Lib.hid ((grown_alloc G5.out _).trans hg6)
      have hs6 : w5.heap.size < w6.heap.size := (Array.getElem?_eq_some_iff.1 A6.out).1
      clear hg6 hr5
      have hc6 : r6 = 0 ∨ r6 = 1 := by omega
      rcases hc6 with rfl | rfl
      · skip
        have d0 : w6.cell? ⟨w5.heap.size, 0, none⟩ = some (.int .i64 999) := cell_of_row _ _ 0 _ _ _ A6.out
        have z0 : w6.cell? ⟨w.heap.size, 0, none⟩ = some (.int .i64 0) := cell_of_row _ _ 0 _ _ _ M06.out
        have f0 := frozen_of_row _ _ 0 _ _ M06.out
        have z1 : w6.cell? ⟨w.heap.size, 1, none⟩ = some (.int .i64 0) := cell_of_row _ _ 1 _ _ _ M06.out
        have f1 := frozen_of_row _ _ 1 _ _ M06.out
        have z2 : w6.cell? ⟨w.heap.size, 2, none⟩ = some (.int .i64 0) := cell_of_row _ _ 2 _ _ _ M06.out
        have f2 := frozen_of_row _ _ 2 _ _ M06.out
        have y0 : w6.cell? ⟨w4.heap.size, 0, none⟩ = some (.int .i64 (1 + r3)) := cell_of_row _ _ 0 _ _ _ M46.out
        have x0 := frozen_of_row _ _ 0 _ _ M46.out
        have y1 : w6.cell? ⟨w4.heap.size, 1, none⟩ = some (.int .i64 (r2 * 10)) := cell_of_row _ _ 1 _ _ _ M46.out
        have x1 := frozen_of_row _ _ 1 _ _ M46.out
        have y2 : w6.cell? ⟨w4.heap.size, 2, none⟩ = some (.int .i64 (r2 * 10 + r4 * 10)) := cell_of_row _ _ 2 _ _ _ M46.out
        have x2 := frozen_of_row _ _ 2 _ _ M46.out
        go_wp2_with fail
        refine bodyPost_ret (v := .agg #[.int .i64 (1 + r3), .int .i64 (r2 * 10), .int .i64 999]) (by simp [results, Try.results96, go_sem, *]) rfl ⟨⟨(1 + r3), (r2 * 10), 999⟩, rfl, ⟨⟨p + 1 + 1 + 1 + 1 + 1, by omega, ?_⟩, ?_⟩⟩
        · repeat (first | exact hr6 | refine Rd.set ?_ (by simp; try omega) _)
        · repeat (first | exact G6.out | refine grown_new ?_ (by simp; try omega) _)
      · skip
        have d1 : w6.cell? ⟨w5.heap.size, 1, none⟩ = some (.int .i64 1000) := cell_of_row _ _ 1 _ _ _ A6.out
        have z0 : w6.cell? ⟨w.heap.size, 0, none⟩ = some (.int .i64 0) := cell_of_row _ _ 0 _ _ _ M06.out
        have f0 := frozen_of_row _ _ 0 _ _ M06.out
        have z1 : w6.cell? ⟨w.heap.size, 1, none⟩ = some (.int .i64 0) := cell_of_row _ _ 1 _ _ _ M06.out
        have f1 := frozen_of_row _ _ 1 _ _ M06.out
        have z2 : w6.cell? ⟨w.heap.size, 2, none⟩ = some (.int .i64 0) := cell_of_row _ _ 2 _ _ _ M06.out
        have f2 := frozen_of_row _ _ 2 _ _ M06.out
        have y0 : w6.cell? ⟨w4.heap.size, 0, none⟩ = some (.int .i64 (1 + r3)) := cell_of_row _ _ 0 _ _ _ M46.out
        have x0 := frozen_of_row _ _ 0 _ _ M46.out
        have y1 : w6.cell? ⟨w4.heap.size, 1, none⟩ = some (.int .i64 (r2 * 10)) := cell_of_row _ _ 1 _ _ _ M46.out
        have x1 := frozen_of_row _ _ 1 _ _ M46.out
        have y2 : w6.cell? ⟨w4.heap.size, 2, none⟩ = some (.int .i64 (r2 * 10 + r4 * 10)) := cell_of_row _ _ 2 _ _ _ M46.out
        have x2 := frozen_of_row _ _ 2 _ _ M46.out
        go_wp2_with fail
        refine bodyPost_ret (v := .agg #[.int .i64 (1 + r3), .int .i64 (r2 * 10), .int .i64 1000]) (by simp [results, Try.results96, go_sem, *]) rfl ⟨⟨(1 + r3), (r2 * 10), 1000⟩, rfl, ⟨⟨p + 1 + 1 + 1 + 1 + 1, by omega, ?_⟩, ?_⟩⟩
        · repeat (first | exact hr6 | refine Rd.set ?_ (by simp; try omega) _)
        · repeat (first | exact G6.out | refine grown_new ?_ (by simp; try omega) _)
    · skip
      have z0 : w5.cell? ⟨w.heap.size, 0, none⟩ = some (.int .i64 0) := cell_of_row _ _ 0 _ _ _ M05.out
      have f0 := frozen_of_row _ _ 0 _ _ M05.out
      have z1 : w5.cell? ⟨w.heap.size, 1, none⟩ = some (.int .i64 0) := cell_of_row _ _ 1 _ _ _ M05.out
      have f1 := frozen_of_row _ _ 1 _ _ M05.out
      have z2 : w5.cell? ⟨w.heap.size, 2, none⟩ = some (.int .i64 0) := cell_of_row _ _ 2 _ _ _ M05.out
      have f2 := frozen_of_row _ _ 2 _ _ M05.out
      have y0 : w5.cell? ⟨w4.heap.size, 0, none⟩ = some (.int .i64 (1 + r3)) := cell_of_row _ _ 0 _ _ _ M45.out
      have x0 := frozen_of_row _ _ 0 _ _ M45.out
      have y1 : w5.cell? ⟨w4.heap.size, 1, none⟩ = some (.int .i64 (r2 * 10)) := cell_of_row _ _ 1 _ _ _ M45.out
      have x1 := frozen_of_row _ _ 1 _ _ M45.out
      have y2 : w5.cell? ⟨w4.heap.size, 2, none⟩ = some (.int .i64 (r2 * 10 + r4 * 10)) := cell_of_row _ _ 2 _ _ _ M45.out
      have x2 := frozen_of_row _ _ 2 _ _ M45.out
      go_wp2_with fail
      refine bodyPost_ret (v := .agg #[.int .i64 (1 + r3), .int .i64 0, .int .i64 (r2 * 10 + r4 * 10)]) (by simp [results, Try.results96, go_sem, *]) rfl ⟨⟨(1 + r3), 0, (r2 * 10 + r4 * 10)⟩, rfl, ⟨⟨p + 1 + 1 + 1 + 1, by omega, ?_⟩, ?_⟩⟩
      · repeat (first | exact hr5 | refine Rd.set ?_ (by simp; try omega) _)
      · repeat (first | exact G5.out | refine grown_new ?_ (by simp; try omega) _)
    · skip
      have z0 : w5.cell? ⟨w.heap.size, 0, none⟩ = some (.int .i64 0) := cell_of_row _ _ 0 _ _ _ M05.out
      have f0 := frozen_of_row _ _ 0 _ _ M05.out
      have z1 : w5.cell? ⟨w.heap.size, 1, none⟩ = some (.int .i64 0) := cell_of_row _ _ 1 _ _ _ M05.out
      have f1 := frozen_of_row _ _ 1 _ _ M05.out
      have z2 : w5.cell? ⟨w.heap.size, 2, none⟩ = some (.int .i64 0) := cell_of_row _ _ 2 _ _ _ M05.out
      have f2 := frozen_of_row _ _ 2 _ _ M05.out
      have y0 : w5.cell? ⟨w4.heap.size, 0, none⟩ = some (.int .i64 (1 + r3)) := cell_of_row _ _ 0 _ _ _ M45.out
      have x0 := frozen_of_row _ _ 0 _ _ M45.out
      have y1 : w5.cell? ⟨w4.heap.size, 1, none⟩ = some (.int .i64 (r2 * 10)) := cell_of_row _ _ 1 _ _ _ M45.out
      have x1 := frozen_of_row _ _ 1 _ _ M45.out
      have y2 : w5.cell? ⟨w4.heap.size, 2, none⟩ = some (.int .i64 (r2 * 10 + r4 * 10)) := cell_of_row _ _ 2 _ _ _ M45.out
      have x2 := frozen_of_row _ _ 2 _ _ M45.out
      go_wp2_with fail
      refine bodyPost_ret (v := .agg #[.int .i64 (1 + r3), .int .i64 0, .int .i64 (r2 * 10 + r4 * 10)]) (by simp [results, Try.results96, go_sem, *]) rfl ⟨⟨(1 + r3), 0, (r2 * 10 + r4 * 10)⟩, rfl, ⟨⟨p + 1 + 1 + 1 + 1, by omega, ?_⟩, ?_⟩⟩
      · repeat (first | exact hr5 | refine Rd.set ?_ (by simp; try omega) _)
      · repeat (first | exact G5.out | refine grown_new ?_ (by simp; try omega) _)
    · skip
      have z0 : w5.cell? ⟨w.heap.size, 0, none⟩ = some (.int .i64 0) := cell_of_row _ _ 0 _ _ _ M05.out
      have f0 := frozen_of_row _ _ 0 _ _ M05.out
      have z1 : w5.cell? ⟨w.heap.size, 1, none⟩ = some (.int .i64 0) := cell_of_row _ _ 1 _ _ _ M05.out
      have f1 := frozen_of_row _ _ 1 _ _ M05.out
      have z2 : w5.cell? ⟨w.heap.size, 2, none⟩ = some (.int .i64 0) := cell_of_row _ _ 2 _ _ _ M05.out
      have f2 := frozen_of_row _ _ 2 _ _ M05.out
      have y0 : w5.cell? ⟨w4.heap.size, 0, none⟩ = some (.int .i64 (1 + r3)) := cell_of_row _ _ 0 _ _ _ M45.out
      have x0 := frozen_of_row _ _ 0 _ _ M45.out
      have y1 : w5.cell? ⟨w4.heap.size, 1, none⟩ = some (.int .i64 (r2 * 10)) := cell_of_row _ _ 1 _ _ _ M45.out
      have x1 := frozen_of_row _ _ 1 _ _ M45.out
      have y2 : w5.cell? ⟨w4.heap.size, 2, none⟩ = some (.int .i64 (r2 * 10 + r4 * 10)) := cell_of_row _ _ 2 _ _ _ M45.out
      have x2 := frozen_of_row _ _ 2 _ _ M45.out
      go_wp2_with fail
      refine bodyPost_ret (v := .agg #[.int .i64 (1 + r3), .int .i64 (r2 * 10), .int .i64 999]) (by simp [results, Try.results96, go_sem, *]) rfl ⟨⟨(1 + r3), (r2 * 10), 999⟩, rfl, ⟨⟨p + 1 + 1 + 1 + 1, by omega, ?_⟩, ?_⟩⟩
      · repeat (first | exact hr5 | refine Rd.set ?_ (by simp; try omega) _)
      · repeat (first | exact G5.out | refine grown_new ?_ (by simp; try omega) _)
    · skip
      have z0 : w5.cell? ⟨w.heap.size, 0, none⟩ = some (.int .i64 0) := cell_of_row _ _ 0 _ _ _ M05.out
      have f0 := frozen_of_row _ _ 0 _ _ M05.out
      have z1 : w5.cell? ⟨w.heap.size, 1, none⟩ = some (.int .i64 0) := cell_of_row _ _ 1 _ _ _ M05.out
      have f1 := frozen_of_row _ _ 1 _ _ M05.out
      have z2 : w5.cell? ⟨w.heap.size, 2, none⟩ = some (.int .i64 0) := cell_of_row _ _ 2 _ _ _ M05.out
      have f2 := frozen_of_row _ _ 2 _ _ M05.out
      have y0 : w5.cell? ⟨w4.heap.size, 0, none⟩ = some (.int .i64 (1 + r3)) := cell_of_row _ _ 0 _ _ _ M45.out
      have x0 := frozen_of_row _ _ 0 _ _ M45.out
      have y1 : w5.cell? ⟨w4.heap.size, 1, none⟩ = some (.int .i64 (r2 * 10)) := cell_of_row _ _ 1 _ _ _ M45.out
      have x1 := frozen_of_row _ _ 1 _ _ M45.out
      have y2 : w5.cell? ⟨w4.heap.size, 2, none⟩ = some (.int .i64 (r2 * 10 + r4 * 10)) := cell_of_row _ _ 2 _ _ _ M45.out
      have x2 := frozen_of_row _ _ 2 _ _ M45.out
      go_wp2_with fail
      refine bodyPost_ret (v := .agg #[.int .i64 (1 + r3), .int .i64 (r2 * 10), .int .i64 999]) (by simp [results, Try.results96, go_sem, *]) rfl ⟨⟨(1 + r3), (r2 * 10), 999⟩, rfl, ⟨⟨p + 1 + 1 + 1 + 1, by omega, ?_⟩, ?_⟩⟩
      · repeat (first | exact hr5 | refine Rd.set ?_ (by simp; try omega) _)
      · repeat (first | exact G5.out | refine grown_new ?_ (by simp; try omega) _)
    · skip
      have z0 : w5.cell? ⟨w.heap.size, 0, none⟩ = some (.int .i64 0) := cell_of_row _ _ 0 _ _ _ M05.out
      have f0 := frozen_of_row _ _ 0 _ _ M05.out
      have z1 : w5.cell? ⟨w.heap.size, 1, none⟩ = some (.int .i64 0) := cell_of_row _ _ 1 _ _ _ M05.out
      have f1 := frozen_of_row _ _ 1 _ _ M05.out
      have z2 : w5.cell? ⟨w.heap.size, 2, none⟩ = some (.int .i64 0) := cell_of_row _ _ 2 _ _ _ M05.out
      have f2 := frozen_of_row _ _ 2 _ _ M05.out
      have y0 : w5.cell? ⟨w4.heap.size, 0, none⟩ = some (.int .i64 (1 + r3)) := cell_of_row _ _ 0 _ _ _ M45.out
      have x0 := frozen_of_row _ _ 0 _ _ M45.out
      have y1 : w5.cell? ⟨w4.heap.size, 1, none⟩ = some (.int .i64 (r2 * 10)) := cell_of_row _ _ 1 _ _ _ M45.out
      have x1 := frozen_of_row _ _ 1 _ _ M45.out
      have y2 : w5.cell? ⟨w4.heap.size, 2, none⟩ = some (.int .i64 (r2 * 10 + r4 * 10)) := cell_of_row _ _ 2 _ _ _ M45.out
      have x2 := frozen_of_row _ _ 2 _ _ M45.out
      go_wp2_with fail
      refine bodyPost_ret (v := .agg #[.int .i64 (1 + r3), .int .i64 (r2 * 10), .int .i64 (r2 * 10 + r4 * 10)]) (by simp [results, Try.results96, go_sem, *]) rfl ⟨⟨(1 + r3), (r2 * 10), (r2 * 10 + r4 * 10)⟩, rfl, ⟨⟨p + 1 + 1 + 1 + 1, by omega, ?_⟩, ?_⟩⟩
      · repeat (first | exact hr5 | refine Rd.set ?_ (by simp; try omega) _)
      · repeat (first | exact G5.out | refine grown_new ?_ (by simp; try omega) _)
end Go.Proofs.Ytnkdpogplkomhaa

/- The laws draw a list of bounds. (written by gen_ye.py) -/
namespace Go.Proofs.Ytnkdpogplkomhaa
open Go.RowKit

def DrawBsPost (w : World) (g c p : Nat) (A : Option Addr) (z : List Int) (e : Ending) (w2 : World) : Prop :=
  ∃ (v : Value) (l : List Ctx), e = .returned v ∧ w2.ownsRow w.heap.size 44 3 v l.length (cellsC l) ∧ l.length ≤ 13 ∧ Drawn w g A z c p 170 w2
theorem addB_room {L : List Ctx} {b : Ctx} (h : addOkB L b = true) : (addB L b).length ≤ 12 := (validB_ok (addB_valid h).1).2

set_option maxHeartbeats 9000000 in
set_option maxRecDepth 100000 in
theorem drawBs_any (g c p : Nat) (A : Option Addr) (z : List Int) (n : Int) (w : World) (h : Rd w g A z c p) (hp : p ≤ 800000) (hn1 : 1 ≤ n) (hn2 : n ≤ 50) :
    Calls Try.prog 74 #[.pointer (some ⟨g, 0, none⟩), .int .i64 n] w (DrawBsPost w g c p A z) := by
  obtain ⟨i0, hi0, hz0, hz1, hz2⟩ := info_parts infoBound
  have hlt := h.lt
  have h1 := h.step ((Below.refl _ _).alloc (Nat.le_refl _) (.cells #[] 44))
  have ho1 : (w.alloc (.cells #[] 44)).ownsRow w.heap.size 44 3 (.slice (some ⟨w.heap.size, 0, none⟩) 0 0) 0 [] := own_empty (Nat.le_refl _) rfl
  have hg1 := World.grownBy_alloc w (.cells #[] 44) (some g)
  go_enter Try.func74, Try.ntmps74
  go_wp2_with fail
  refine (pick_any g c p A z _ _ h1 (by omega) (by omega)).mono ?_
  rintro e w2 ⟨r2, rfl, a2, b2, _, hr2, hg2⟩
  have b2 := b2 (by omega)
  have ho2 := own_drawn (w0 := w) ho1 hg2 hlt
  have hg12 := hg1.trans hg2
  go_wp2_with fail
  refine (pick_any g c _ A z _ _ hr2 (by omega) (by omega)).mono ?_
  rintro e w3 ⟨r3, rfl, a3, b3, _, hr3, hg3⟩
  have ho3 := own_drawn (w0 := w) ho2 hg3 hlt
  have hg13 := hg12.trans hg3
  have K3 := Lib.hid (And.intro ho3 (And.intro hr3 hg13))
  clear h1 ho1 hg1 hr2 hg2 ho2 hg12 hr3 hg3 ho3 hg13 b3
  by_cases c3 : r3 = 0
  · have e3 : (r3 == 0) = true := by simp [c3]
    clear c3
    go_wp2_with fail
    go_loopw [5, 7] (fun v i wr => ∃ (k : Nat) (l : List Ctx) (p2 : Nat), (k : Int) ≤ 20 ∧ i = .int .i64 k ∧ l.length ≤ 12 ∧ wr.ownsRow w.heap.size 44 3 v l.length (cellsC l) ∧ p2 ≤ p + 2 + 7 * k ∧ Rd wr g A z c p2 ∧ w.grownBy wr (some g)) (fun _ i _ => (20 - intOf i).toNat)
    case atStart => exact ⟨0, [], p + 1 + 1, by omega, rfl, by simp, K3.out.1, by omega, K3.out.2.1, K3.out.2.2⟩
    case round =>
      obtain ⟨k, l, p2, hk, rfl, hl, hown, hp2, hrd, hgr⟩ := hrel
      clear K3
      obtain ⟨Al, cl, hv, hcap, hrl⟩ := own_slice hown
      subst hv
      by_cases hkN : (k : Int) < 20
      · have G := Lib.hid hgr
        have hgs := hgr.size
        clear hgr
        go_wp2_with fail
        refine (drawB_any g c p2 A z n _ hrd (by omega) hn1 hn2).mono ?_
        rintro e w4 ⟨x, rfl, ⟨p4, hp4, hr4⟩, hg4⟩
        have ho4 := own_drawn (w0 := w) hown hg4 hlt
        have g4 := (G.out).trans hg4
        go_wp2_with fail
        refine (sBoundsAdd_any _ _ l x _ (own_reads ho4) (by omega) hcap).mono ?_
        rintro e w5 ⟨v5, rfl, hb5, ho5⟩
        have hr5 := hr4.step hb5
        have G5 : Hid (w.grownBy w5 (some g)) := by exact g4.trans (grown_of_below hb5 _)
        have H5 := Lib.hid (And.intro ho4 (And.intro hb5 ho5))
        have G4 := Lib.hid g4
        clear g4 hg4 ho4 ho5 hb5 hown hrl
        cases hok : addOkB l x
        · go_wp2_with fail
          go_roundw
          case rel => exact ⟨k + 1, l, p4, by omega, by go_num, hl, own_below H5.out.1 H5.out.2.1, by omega, hr5, G5.out⟩
          case measure => simp [intOf]; omega
        · have hlen := addB_room hok
          go_wp2_with fail
          go_roundw
          case rel => exact ⟨k + 1, addB l x, p4, by omega, by go_num, hlen, own_less H5.out.2.2 (by have := G4.out.size; omega), by omega, hr5, G5.out⟩
          case measure => simp [intOf]; omega
      · have G := Lib.hid hgr
        have hgs := hgr.size
        clear hgr
        go_wp2_with fail
        refine (pick_any g c _ A z _ _ hrd (by omega) (by omega)).mono ?_
        rintro e w6 ⟨r6, rfl, a6, b6, _, hr6, hg6⟩
        have ho6 := own_drawn (w0 := w) hown hg6 hlt
        have G6 : Hid (w.grownBy w6 (some g)) := by exact (G.out).trans hg6
        have O6 := Lib.hid ho6
        clear hown hrl hg6 ho6
        by_cases c6 : r6 = 0
        · have e6 : (r6 == 0) = true := by simp [c6]
          clear c6
          go_wp2_with fail
          refine (drawB_any g c _ A z n _ hr6 (by omega) hn1 hn2).mono ?_
          rintro e w7 ⟨x, rfl, ⟨p7, hp7, hr7⟩, hg7⟩
          have ho7 := own_drawn (w0 := w) O6.out hg7 hlt
          have G7 : Hid (w.grownBy w7 (some g)) := by exact (G6.out).trans hg7
          have hs7 := G7.out.size
          have R7 := Lib.hid hr7
          clear hg7 hr7 hr6 hrd
          go_wp2_with (at_builtin
                       go_must (refine wpList_append_reads _ rfl (.tmp 34) (.tmp 38) _ rfl w.heap.size 44 i0 _ 3 24 Try.underlying25 hi0 hz0 hz1 hz2 rfl (by omega) (.slice Al l.length cl) l.length _ rfl (ho7.alloc _) (w7.heap.size + 1) _ 1 1 (cellsC [x]) rfl (reads_one (by omega)) (cellsC_one _) (by simp only [maxLen]; omega) (by omega) (by simp; omega) ?_)
                       intro v8 w8 hown8 hg8 hat8)
          go_ret
          refine ⟨v8, l ++ [x], rfl, ?_, by simp; omega, ⟨⟨_, by omega, (R7.out.step ((Below.refl _ _).alloc (Nat.le_refl _) _)).grownRow (ho7.alloc _) hlt hg8⟩, grown_row (grown_alloc G7.out _) (ho7.alloc _) (Nat.le_refl _) hg8⟩⟩
          rw [List.length_append, cellsC_append]
          exact hown8
        · have e6 : (r6 == 0) = false := by simp [c6]
          clear c6
          go_wp2_with fail
          go_ret
          exact ⟨_, l, rfl, O6.out, by omega, ⟨⟨_, by omega, hr6⟩, G6.out⟩⟩
  · have e3 : (r3 == 0) = false := by simp [c3]
    clear c3
    go_wp2_with fail
    go_loopw [5, 7] (fun v i wr => ∃ (k : Nat) (l : List Ctx) (p2 : Nat), (k : Int) ≤ r2 ∧ i = .int .i64 k ∧ l.length ≤ 12 ∧ wr.ownsRow w.heap.size 44 3 v l.length (cellsC l) ∧ p2 ≤ p + 2 + 7 * k ∧ Rd wr g A z c p2 ∧ w.grownBy wr (some g)) (fun _ i _ => (r2 - intOf i).toNat)
    case atStart => exact ⟨0, [], p + 1 + 1, by omega, rfl, by simp, K3.out.1, by omega, K3.out.2.1, K3.out.2.2⟩
    case round =>
      obtain ⟨k, l, p2, hk, rfl, hl, hown, hp2, hrd, hgr⟩ := hrel
      clear K3
      obtain ⟨Al, cl, hv, hcap, hrl⟩ := own_slice hown
      subst hv
      by_cases hkN : (k : Int) < r2
      · have G := Lib.hid hgr
        have hgs := hgr.size
        clear hgr
        go_wp2_with fail
        refine (drawB_any g c p2 A z n _ hrd (by omega) hn1 hn2).mono ?_
        rintro e w4 ⟨x, rfl, ⟨p4, hp4, hr4⟩, hg4⟩
        have ho4 := own_drawn (w0 := w) hown hg4 hlt
        have g4 := (G.out).trans hg4
        go_wp2_with fail
        refine (sBoundsAdd_any _ _ l x _ (own_reads ho4) (by omega) hcap).mono ?_
        rintro e w5 ⟨v5, rfl, hb5, ho5⟩
        have hr5 := hr4.step hb5
        have G5 : Hid (w.grownBy w5 (some g)) := by exact g4.trans (grown_of_below hb5 _)
        have H5 := Lib.hid (And.intro ho4 (And.intro hb5 ho5))
        have G4 := Lib.hid g4
        clear g4 hg4 ho4 ho5 hb5 hown hrl
        cases hok : addOkB l x
        · go_wp2_with fail
          go_roundw
          case rel => exact ⟨k + 1, l, p4, by omega, by go_num, hl, own_below H5.out.1 H5.out.2.1, by omega, hr5, G5.out⟩
          case measure => simp [intOf]; omega
        · have hlen := addB_room hok
          go_wp2_with fail
          go_roundw
          case rel => exact ⟨k + 1, addB l x, p4, by omega, by go_num, hlen, own_less H5.out.2.2 (by have := G4.out.size; omega), by omega, hr5, G5.out⟩
          case measure => simp [intOf]; omega
      · have G := Lib.hid hgr
        have hgs := hgr.size
        clear hgr
        go_wp2_with fail
        refine (pick_any g c _ A z _ _ hrd (by omega) (by omega)).mono ?_
        rintro e w6 ⟨r6, rfl, a6, b6, _, hr6, hg6⟩
        have ho6 := own_drawn (w0 := w) hown hg6 hlt
        have G6 : Hid (w.grownBy w6 (some g)) := by exact (G.out).trans hg6
        have O6 := Lib.hid ho6
        clear hown hrl hg6 ho6
        by_cases c6 : r6 = 0
        · have e6 : (r6 == 0) = true := by simp [c6]
          clear c6
          go_wp2_with fail
          refine (drawB_any g c _ A z n _ hr6 (by omega) hn1 hn2).mono ?_
          rintro e w7 ⟨x, rfl, ⟨p7, hp7, hr7⟩, hg7⟩
          have ho7 := own_drawn (w0 := w) O6.out hg7 hlt
          have G7 : Hid (w.grownBy w7 (some g)) := by exact (G6.out).trans hg7
          have hs7 := G7.out.size
          have R7 := Lib.hid hr7
          clear hg7 hr7 hr6 hrd
          go_wp2_with (at_builtin
                       go_must (refine wpList_append_reads _ rfl (.tmp 34) (.tmp 38) _ rfl w.heap.size 44 i0 _ 3 24 Try.underlying25 hi0 hz0 hz1 hz2 rfl (by omega) (.slice Al l.length cl) l.length _ rfl (ho7.alloc _) (w7.heap.size + 1) _ 1 1 (cellsC [x]) rfl (reads_one (by omega)) (cellsC_one _) (by simp only [maxLen]; omega) (by omega) (by simp; omega) ?_)
                       intro v8 w8 hown8 hg8 hat8)
          go_ret
          refine ⟨v8, l ++ [x], rfl, ?_, by simp; omega, ⟨⟨_, by omega, (R7.out.step ((Below.refl _ _).alloc (Nat.le_refl _) _)).grownRow (ho7.alloc _) hlt hg8⟩, grown_row (grown_alloc G7.out _) (ho7.alloc _) (Nat.le_refl _) hg8⟩⟩
          rw [List.length_append, cellsC_append]
          exact hown8
        · have e6 : (r6 == 0) = false := by simp [c6]
          clear c6
          go_wp2_with fail
          go_ret
          exact ⟨_, l, rfl, O6.out, by omega, ⟨⟨_, by omega, hr6⟩, G6.out⟩⟩
end Go.Proofs.Ytnkdpogplkomhaa

/- The laws draw contexts, relations and bounds that often have dates. (written by gen_kh.py) -/
namespace Go.Proofs.Ytnkdpogplkomhaa
open Go.RowKit

def DatesPost (w : World) (g c p : Nat) (A : Option Addr) (z : List Int) (e : Ending) (w2 : World) : Prop :=
  ∃ (v1 v2 v3 : Value) (ids : List Int) (l bs : List Ctx), e = .returned (.tuple #[v1, v2, v3]) ∧ w2.ownsRow w.heap.size 3 1 v1 ids.length (cellsI ids) ∧ w2.ownsRow w.heap.size 111 3 v2 l.length (cellsC l) ∧ w2.ownsRow w.heap.size 44 3 v3 bs.length (cellsC bs) ∧
    ids.length ≤ 13 ∧ l.length ≤ 31 ∧ bs.length ≤ 13 ∧ Drawn w g A z c p 930 w2
set_option maxHeartbeats 8000000 in
set_option maxRecDepth 100000 in
theorem drawDates_any (g c p : Nat) (A : Option Addr) (z : List Int) (w : World) (h : Rd w g A z c p) (hp : p ≤ 90000) :
    Calls Try.prog 41 #[.pointer (some ⟨g, 0, none⟩)] w (DatesPost w g c p A z) := by
  obtain ⟨i0, hi0, hz0, hz1, hz2⟩ := info_parts infoBound
  have hlt := h.lt
  go_enter Try.func41, Try.ntmps41
  go_wp2_with fail
  refine (drawGood_any g c p A z _ h (by omega)).mono ?_
  rintro e w2 ⟨v1, v2, ids, l, rfl, ho1, ho2, hl1, hl2, ⟨p3, hp3, hr3⟩, hg3⟩
  have hs2 := hg3.size
  obtain ⟨A1, c1, rfl, _, _⟩ := own_slice ho1
  obtain ⟨A2, c2, rfl, _, _⟩ := own_slice ho2
  have hb3 : Below w2.heap.size w2 (w2.alloc (.cells #[] 44)) := (Below.refl _ _).alloc (Nat.le_refl _) _
  have O3 := Lib.hid (And.intro (own_below ho1 hb3) (And.intro (own_below ho2 hb3) (And.intro (grown_alloc hg3 (.cells #[] 44)) (own_lit (w := w2) (base := w.heap.size) (e := 44) hs2 rfl))))
  have hr4 := hr3.step hb3
  clear ho1 ho2 hg3 hb3 hr3
  go_wp2_with fail
  refine (drawBs_any g c p3 A z 8 _ hr4 (by omega) (by omega) (by omega)).mono ?_
  rintro e w4 ⟨v3, bs, rfl, ho3, hl3, ⟨p4, hp4, hr4b⟩, hg4⟩
  obtain ⟨A3, c3, rfl, _, _⟩ := own_slice ho3
  have hsz3 := O3.out.2.2.1.size
  have O4 := Lib.hid (And.intro (own_drawn (w0 := w) O3.out.1 hg4 hlt) (And.intro (own_drawn (w0 := w) O3.out.2.1 hg4 hlt) (And.intro (own_drawn (w0 := w) O3.out.2.2.2 hg4 hlt) (And.intro (O3.out.2.2.1.trans hg4) (own_less ho3 hsz3)))))
  clear ho3 hg4 hr4
  go_wp2_with fail
  refine (pick_any g c p4 A z _ _ hr4b (by omega) (by omega)).mono ?_
  rintro e w5 ⟨r5, rfl, a5, b5, _, hr5, hg5⟩
  have O5 := Lib.hid (And.intro (own_drawn (w0 := w) O4.out.1 hg5 hlt) (And.intro (own_drawn (w0 := w) O4.out.2.1 hg5 hlt) (And.intro (own_drawn (w0 := w) O4.out.2.2.1 hg5 hlt) (And.intro (O4.out.2.2.2.1.trans hg5) (own_drawn (w0 := w) O4.out.2.2.2.2 hg5 hlt)))))
  have hs5 := O5.out.2.2.2.1.size
  obtain ⟨keep, hkeep⟩ : ∃ x, (r5 == 0) = x := ⟨_, rfl⟩
  have K5 := Lib.hid (And.intro hr5 (And.intro hp3 hp4))
  clear hr5 hg5 O3 O4 hr4b a5 b5 h
  go_wp2_with fail
  go_loopw [7, 10] (fun v i wr => ∃ (k : Nat) (l2 : List Ctx) (p5 : Nat), k ≤ bs.length ∧ i = .int .i64 k ∧ l2.length ≤ k ∧ p5 ≤ p4 + 1 + k ∧ wr.ownsRow w.heap.size 44 3 v l2.length (cellsC l2) ∧ wr.ownsRow w.heap.size 3 1 (.slice A1 ids.length c1) ids.length (cellsI ids) ∧
    wr.ownsRow w.heap.size 111 3 (.slice A2 l.length c2) l.length (cellsC l) ∧ wr.ownsRow w.heap.size 44 3 (.slice A3 bs.length c3) bs.length (cellsC bs) ∧ Rd wr g A z c p5 ∧ w.grownBy wr (some g)) (fun _ i _ => bs.length - (intOf i).toNat)
  case atStart => exact ⟨0, [], p4 + 1, by omega, rfl, by simp, by omega, O5.out.2.2.1, O5.out.1, O5.out.2.1, O5.out.2.2.2.2, K5.out.1, O5.out.2.2.2.1⟩
  case round =>
    obtain ⟨k, l2, p5, hk, rfl, hl2', hp5, hown, hoi, hor, hol, hrd, hgr⟩ := hrel
    have hsz := hgr.size
    obtain ⟨Av, cv, rfl, _, hrv⟩ := own_slice hown
    by_cases hkl : k < bs.length
    · obtain ⟨b, off, hA2, hbb, hc⟩ := (own_reads hol).ctx (by omega)
      subst hA2
      obtain ⟨r, hr0⟩ : ∃ r, bs[k]? = some r := ⟨_, List.getElem?_eq_getElem hkl⟩
      obtain ⟨c1', c2', c3'⟩ := hc k _ hr0
      have hkli : (k : Int) < (bs.length : Int) := by omega
      have hbD := below_draws (Below.refl wr.heap.size wr) 1
      have bA : Below wr.heap.size wr ((wr.drewN 1).alloc (.cells #[] 44)) := hbD.alloc hbD.size _
      have bD : Below wr.heap.size wr ((wr.drewN 1).alloc (.cells #[.int .i64 r.id, .int .i64 r.kind, .int .i64 r.area] 44)) := hbD.alloc hbD.size _
      have bB : Below wr.heap.size wr (((wr.drewN 1).alloc (.cells #[] 44)).alloc (.cells #[.int .i64 r.id, .int .i64 r.kind, .int .i64 r.area] 44)) := bA.alloc bA.size _
      have bC : Below wr.heap.size wr (((wr.drewN 1).alloc (.cells #[.int .i64 r.id, .int .i64 r.kind, .int .i64 r.area] 44)).alloc (.cells #[] 44)) := bD.alloc bD.size _
      have oA : ((wr.drewN 1).alloc (.cells #[] 44)).ownsRow wr.heap.size 44 3 (.slice (some ⟨wr.heap.size, 0, none⟩) 0 0) 0 [] := own_empty hbD.size rfl
      have oB : (((wr.drewN 1).alloc (.cells #[] 44)).alloc (.cells #[.int .i64 r.id, .int .i64 r.kind, .int .i64 r.area] 44)).ownsRow wr.heap.size 44 3 (.slice (some ⟨wr.heap.size, 0, none⟩) 0 0) 0 [] := oA.alloc _
      have oC : (((wr.drewN 1).alloc (.cells #[.int .i64 r.id, .int .i64 r.kind, .int .i64 r.area] 44)).alloc (.cells #[] 44)).ownsRow wr.heap.size 44 3 (.slice (some ⟨wr.heap.size + 1, 0, none⟩) 0 0) 0 [] := own_empty bD.size (by simp [World.drewN])
      have nB : (((wr.drewN 1).alloc (.cells #[] 44)).alloc (.cells #[.int .i64 r.id, .int .i64 r.kind, .int .i64 r.area] 44)).heap[wr.heap.size + 1]? = some (.cells #[.int .i64 r.id, .int .i64 r.kind, .int .i64 r.area] 44 (0, 0)) := by
        have := heap_alloc_new ((wr.drewN 1).alloc (.cells #[] 44)) (.cells #[.int .i64 r.id, .int .i64 r.kind, .int .i64 r.area] 44)
        simpa using this
      have nC : (((wr.drewN 1).alloc (.cells #[.int .i64 r.id, .int .i64 r.kind, .int .i64 r.area] 44)).alloc (.cells #[] 44)).heap[wr.heap.size]? = some (.cells #[.int .i64 r.id, .int .i64 r.kind, .int .i64 r.area] 44 (0, 0)) := (Below.heap_alloc _ _ _ (by simp)).trans (heap_alloc_new (wr.drewN 1) (.cells #[.int .i64 r.id, .int .i64 r.kind, .int .i64 r.area] 44))
      have XA := Lib.hid (And.intro bA (And.intro oA (hrv.step bA)))
      have XB := Lib.hid (And.intro bB (And.intro oB (And.intro (hrv.step bB) nB)))
      have XC := Lib.hid (And.intro bC (And.intro oC (And.intro (hrv.step bC) nC)))
      have cells : ∀ W : World, Below wr.heap.size wr W → W.cell? ⟨b, off + k * 3, none⟩ = some (.int .i64 r.id) ∧ W.cell? ⟨b, off + k * 3 + 1, none⟩ = some (.int .i64 r.kind) ∧ W.cell? ⟨b, off + k * 3 + 2, none⟩ = some (.int .i64 r.area) := fun W hW =>
        ⟨(hW.cell hbb).trans c1', (hW.cell hbb).trans c2', (hW.cell hbb).trans c3'⟩
      have HS := Lib.hid (And.intro (cells _ bA) (And.intro (cells _ bD) (And.intro (cells _ bB) (cells _ bC))))
      have HC := Lib.hid cells
      have HI := Lib.hid (And.intro hown (And.intro hoi (And.intro hor (And.intro hol (And.intro hrd hgr)))))
      have HK := Lib.hid hr0
      clear bA bB bC bD oA oB oC nB nC hrv hown hoi hor hol hrd hgr cells hr0 hc hbD
      go_wp2_with fail
      go_region_held3 (fun w' => w'.cell? ⟨b, off + k * 3, none⟩ = some (.int .i64 r.id) ∧ w'.cell? ⟨b, off + k * 3 + 1, none⟩ = some (.int .i64 r.kind) ∧ w'.cell? ⟨b, off + k * 3 + 2, none⟩ = some (.int .i64 r.area))
        (first
          | assumption
          | exact ⟨c1', c2', c3'⟩
          | exact h8
          | exact h9
          | exact HS.out.1
          | exact HS.out.2.1
          | exact HS.out.2.2.1
          | exact HS.out.2.2.2
          | exact HC.out _ b8a)
        (first
          | (refine step_append_want ((wr.drewN 1).alloc (.cells #[] 44)) (by rfl) (.tmp 31) (.tmp 32) _ (by rfl) wr.heap.size 44 i0 _ 3 24 Try.underlying25 hi0 hz0 hz1 hz2 rfl (by omega) (.slice (some ⟨wr.heap.size, 0, none⟩) 0 0) 0 [] (by rfl) XA.out.2.1 _ _ l2.length _ (cellsC l2) (by rfl) XA.out.2.2 (cellsC_one _) (by simp only [maxLen]; omega) (by omega) XA.out.1.size ?_
             intro v8 w8 hown8 hg8 hat8
             have b8 := below_grown XA.out.2.1 hg8 XA.out.1 (Nat.le_refl _)
             have b8a : Below wr.heap.size wr (w8.alloc (.cells #[.int .i64 r.id, .int .i64 r.kind, .int .i64 r.area] 44)) := b8.alloc b8.size _
             have h8 := HC.out _ b8)
          | (refine step_append_want (((wr.drewN 1).alloc (.cells #[] 44)).alloc (.cells #[.int .i64 r.id, .int .i64 r.kind, .int .i64 r.area] 44)) (by rfl) (.tmp 31) (.tmp 32) _ (by rfl) wr.heap.size 44 i0 _ 3 24 Try.underlying25 hi0 hz0 hz1 hz2 rfl (by omega) (.slice (some ⟨wr.heap.size, 0, none⟩) 0 0) 0 [] (by rfl) XB.out.2.1 _ _ l2.length _ (cellsC l2) (by rfl) XB.out.2.2.1 (cellsC_one _) (by simp only [maxLen]; omega) (by omega) XB.out.1.size ?_
             intro v8 w8 hown8 hg8 hat8
             have b8 := below_grown XB.out.2.1 hg8 XB.out.1 (Nat.le_refl _)
             have hN := reads_new XB.out.2.2.2 hg8 (by simp [Value.ownBlock])
             have h8 := HC.out _ b8)
          | (refine step_append_want (((wr.drewN 1).alloc (.cells #[.int .i64 r.id, .int .i64 r.kind, .int .i64 r.area] 44)).alloc (.cells #[] 44)) (by rfl) (.tmp 31) (.tmp 32) _ (by rfl) wr.heap.size 44 i0 _ 3 24 Try.underlying25 hi0 hz0 hz1 hz2 rfl (by omega) (.slice (some ⟨wr.heap.size + 1, 0, none⟩) 0 0) 0 [] (by rfl) XC.out.2.1 _ _ l2.length _ (cellsC l2) (by rfl) XC.out.2.2.1 (cellsC_one _) (by simp only [maxLen]; omega) (by omega) XC.out.1.size ?_
             intro v8 w8 hown8 hg8 hat8
             have b8 := below_grown XC.out.2.1 hg8 XC.out.1 (Nat.le_refl _)
             have hN := reads_new XC.out.2.2.2 hg8 (by simp [Value.ownBlock])
             have h8 := HC.out _ b8)
          | (refine step_append_want (w8.alloc (.cells #[.int .i64 r.id, .int .i64 r.kind, .int .i64 r.area] 44)) (by rfl) (.tmp 33) (.tmp 38) _ (by rfl) wr.heap.size 44 i0 _ 3 24 Try.underlying25 hi0 hz0 hz1 hz2 rfl (by omega) v8 (0 + l2.length) ([] ++ cellsC l2) (by rfl) (hown8.alloc _) _ _ 1 _ (cellsC [r]) (by rfl) (reads_one (B := w8.heap.size + 1) (by omega)) (cellsC_one _) (by simp only [maxLen]; omega) (by omega) b8a.size ?_
             intro v9 w9 hown9 hg9 hat9
             have b9 := below_grown (hown8.alloc _) hg9 b8a (Nat.le_refl _)
             have h9 := HC.out _ b9)
          | (refine step_append_want w8 (by rfl) (.tmp 33) (.tmp 38) _ (by rfl) wr.heap.size 44 i0 _ 3 24 Try.underlying25 hi0 hz0 hz1 hz2 rfl (by omega) v8 (0 + l2.length) ([] ++ cellsC l2) (by rfl) hown8 _ _ 1 _ (cellsC [r]) (by rfl) hN (cellsC_one _) (by simp only [maxLen]; omega) (by omega) b8.size ?_
             intro v9 w9 hown9 hg9 hat9
             have b9 := below_grown hown8 hg9 b8 (Nat.le_refl _)
             have h9 := HC.out _ b9))
      all_goals
        obtain ⟨L, hL⟩ : ∃ L, L = l2 ++ [r] := ⟨_, rfl⟩
        have ho9 : w9.ownsRow wr.heap.size 44 3 v9 L.length (cellsC L) := by
          rw [hL, cellsC_append, List.length_append]
          simpa using hown9
        have hLl : L.length ≤ k + 1 := by rw [hL]; simp; omega
        obtain ⟨A9, c9, rfl, _, hr9⟩ := own_slice ho9
        have fin : ∀ W : World, Below w9.heap.size w9 W → (W.ownsRow w.heap.size 44 3 (.slice Av l2.length cv) l2.length (cellsC l2) ∧ W.ownsRow w.heap.size 44 3 (.slice A9 L.length c9) L.length (cellsC L) ∧ W.ownsRow w.heap.size 3 1 (.slice A1 ids.length c1) ids.length (cellsI ids) ∧ W.ownsRow w.heap.size 111 3 (.slice A2 l.length c2) l.length (cellsC l) ∧ W.ownsRow w.heap.size 44 3 (.slice (some ⟨b, off, none⟩) bs.length c3) bs.length (cellsC bs)) ∧ Rd W g A z c p5 ∧ w.grownBy W (some g) := fun W hW =>
          ⟨⟨own_below HI.out.1 (below_step b9 hW), own_less (own_below ho9 hW) hsz, own_below HI.out.2.1 (below_step b9 hW), own_below HI.out.2.2.1 (below_step b9 hW), own_below HI.out.2.2.2.1 (below_step b9 hW)⟩, HI.out.2.2.2.2.1.step (below_step b9 hW), HI.out.2.2.2.2.2.trans (grown_of_below (below_step b9 hW) _)⟩
        have hd9 := sDatesOf_any A1 A2 A9 c1 c2 c9 ids l L w9 (own_reads (own_below HI.out.2.1 b9)) (own_reads (own_below HI.out.2.2.1 b9)) hr9 (by omega) (by omega) (by omega)
        obtain ⟨ok, hok⟩ : ∃ x, okD ids l L = x := ⟨_, rfl⟩
        rw [hok] at hd9
        have hpl := fun (W : World) (hW : Below w9.heap.size w9 W) => sPlace_any A1 c1 ids r.id W (own_reads (own_below (own_below HI.out.2.1 b9) hW)) (by omega)
        have hcR := HC.out
        have HF := Lib.hid (And.intro fin (And.intro hd9 (And.intro hpl (And.intro hcR b9))))
        have hin := findI_le ids r.id
        obtain ⟨fi, hfi⟩ : ∃ x, findI ids r.id = x := ⟨_, rfl⟩
        rw [hfi] at hin HF
        obtain ⟨inn, hinn⟩ : ∃ x, decide (r.id ∈ ids) = x := ⟨_, rfl⟩
        rw [hinn] at hin
        clear hL fin hd9 hok hown9 ho9 hr9 hown8 b9 h9 h8 c1' c2' c3' hpl hcR hfi hinn
        have take : ∀ W : World, Below w9.heap.size w9 W → ∃ (k2 : Nat) (l3 : List Ctx) (p6 : Nat), k2 ≤ bs.length ∧ Value.int .i64 ((k : Int) + 1) = .int .i64 k2 ∧ l3.length ≤ k2 ∧ p6 ≤ p4 + 1 + k2 ∧ W.ownsRow w.heap.size 44 3 (.slice A9 L.length c9) l3.length (cellsC l3) ∧ W.ownsRow w.heap.size 3 1 (.slice A1 ids.length c1) ids.length (cellsI ids) ∧
            W.ownsRow w.heap.size 111 3 (.slice A2 l.length c2) l.length (cellsC l) ∧ W.ownsRow w.heap.size 44 3 (.slice (some ⟨b, off, none⟩) bs.length c3) bs.length (cellsC bs) ∧ Rd W g A z c p6 ∧ w.grownBy W (some g) := fun W hW => by
          obtain ⟨⟨f1, f2, f3, f4, f5⟩, f6, f7⟩ := HF.out.1 W hW
          exact ⟨k + 1, L, p5, by omega, by go_num, hLl, by omega, f2, f3, f4, f5, f6, f7⟩
        have more : ∀ W W2 : World, Below w9.heap.size w9 W → W.grownBy W2 (some g) → (W2.ownsRow w.heap.size 44 3 (.slice Av l2.length cv) l2.length (cellsC l2) ∧ W2.ownsRow w.heap.size 44 3 (.slice A9 L.length c9) L.length (cellsC L) ∧ W2.ownsRow w.heap.size 3 1 (.slice A1 ids.length c1) ids.length (cellsI ids) ∧ W2.ownsRow w.heap.size 111 3 (.slice A2 l.length c2) l.length (cellsC l) ∧ W2.ownsRow w.heap.size 44 3 (.slice (some ⟨b, off, none⟩) bs.length c3) bs.length (cellsC bs)) ∧ w.grownBy W2 (some g) := fun W W2 hW hg => by
          obtain ⟨⟨f1, f2, f3, f4, f5⟩, f6, f7⟩ := HF.out.1 W hW
          exact ⟨⟨own_drawn (w0 := w) f1 hg hlt, own_drawn (w0 := w) f2 hg hlt, own_drawn (w0 := w) f3 hg hlt, own_drawn (w0 := w) f4 hg hlt, own_drawn (w0 := w) f5 hg hlt⟩, f7.trans hg⟩
        have HT := Lib.hid (And.intro take more)
        clear take more
        cases ok
        · cases keep
          · go_wp2_with (first
              | (go_at_call 15; go_must (refine HF.out.2.1.mono ?_); rintro e wa ⟨va, rfl, ba, oa⟩; have HA := Lib.hid ba; have hca := HF.out.2.2.2.1 wa (below_step HF.out.2.2.2.2 ba); obtain ⟨g1, g2, g3⟩ := hca)
              | (go_at_call 42; fail))
            refine (pick_any g c p5 A z _ _ (HF.out.1 _ HA.out).2.1 (by omega) (by omega)).mono ?_
            rintro e wc ⟨r6, rfl, a6, b6, _, hr6, hg6⟩
            have HP := Lib.hid (And.intro hr6 hg6)
            clear hr6 hg6
            have HQ := Lib.hid (HT.out.2 _ _ HA.out HP.out.2)
            have hrq := HP.out.1
            by_cases h6 : r6 = 0
            · have e6 : (r6 == 0) = true := by simp [h6]
              clear h6
              go_wp2_with fail
              go_roundw
              case rel => exact ⟨k + 1, L, p5 + 1, by omega, by go_num, hLl, by omega, HQ.out.1.2.1, HQ.out.1.2.2.1, HQ.out.1.2.2.2.1, HQ.out.1.2.2.2.2, hrq, HQ.out.2⟩
              case measure => simp [intOf]; omega
            · have e6 : (r6 == 0) = false := by simp [h6]
              clear h6
              go_wp2_with fail
              go_roundw
              case rel => exact ⟨k + 1, l2, p5 + 1, by omega, by go_num, by omega, by omega, HQ.out.1.1, HQ.out.1.2.2.1, HQ.out.1.2.2.2.1, HQ.out.1.2.2.2.2, hrq, HQ.out.2⟩
              case measure => simp [intOf]; omega
          · cases inn
            · go_wp2_with (first
                | (go_at_call 15; go_must (refine HF.out.2.1.mono ?_); rintro e wa ⟨va, rfl, ba, oa⟩; have HA := Lib.hid ba; have hca := HF.out.2.2.2.1 wa (below_step HF.out.2.2.2.2 ba); obtain ⟨g1, g2, g3⟩ := hca)
                | (go_at_call 75; go_must (refine (HF.out.2.2.1 _ HA.out).mono ?_); rintro e wb ⟨rfl, rfl⟩)
                | (go_at_call 42; fail))
              refine (pick_any g c p5 A z _ _ (HF.out.1 _ HA.out).2.1 (by omega) (by omega)).mono ?_
              rintro e wc ⟨r6, rfl, a6, b6, _, hr6, hg6⟩
              have HP := Lib.hid (And.intro hr6 hg6)
              clear hr6 hg6
              have HQ := Lib.hid (HT.out.2 _ _ HA.out HP.out.2)
              have hrq := HP.out.1
              by_cases h6 : r6 = 0
              · have e6 : (r6 == 0) = true := by simp [h6]
                clear h6
                go_wp2_with fail
                go_roundw
                case rel => exact ⟨k + 1, L, p5 + 1, by omega, by go_num, hLl, by omega, HQ.out.1.2.1, HQ.out.1.2.2.1, HQ.out.1.2.2.2.1, HQ.out.1.2.2.2.2, hrq, HQ.out.2⟩
                case measure => simp [intOf]; omega
              · have e6 : (r6 == 0) = false := by simp [h6]
                clear h6
                go_wp2_with fail
                go_roundw
                case rel => exact ⟨k + 1, l2, p5 + 1, by omega, by go_num, by omega, by omega, HQ.out.1.1, HQ.out.1.2.2.1, HQ.out.1.2.2.2.1, HQ.out.1.2.2.2.2, hrq, HQ.out.2⟩
                case measure => simp [intOf]; omega
            · go_wp2_with (first
                | (go_at_call 15; go_must (refine HF.out.2.1.mono ?_); rintro e wa ⟨va, rfl, ba, oa⟩; have HA := Lib.hid ba; have hca := HF.out.2.2.2.1 wa (below_step HF.out.2.2.2.2 ba); obtain ⟨g1, g2, g3⟩ := hca)
                | (go_at_call 75; go_must (refine (HF.out.2.2.1 _ HA.out).mono ?_); rintro e wb ⟨rfl, rfl⟩))
              go_roundw
              case rel => exact HT.out.1 _ HA.out
              case measure => simp [intOf]; omega
        · go_wp2_with (go_at_call 15; go_must (refine HF.out.2.1.mono ?_); rintro e wa ⟨va, rfl, ba, oa⟩; have HA := Lib.hid ba; have hca := HF.out.2.2.2.1 wa (below_step HF.out.2.2.2.2 ba); obtain ⟨g1, g2, g3⟩ := hca)
          go_roundw
          case rel => exact HT.out.1 _ HA.out
          case measure => simp [intOf]; omega
    · have HI := Lib.hid (And.intro hown (And.intro hoi (And.intro hor (And.intro hrd hgr))))
      clear hown hoi hor hol hrd hgr hrv
      go_wp2_with fail
      go_ret3
      exact ⟨_, _, _, ids, l, l2, rfl, HI.out.2.1, HI.out.2.2.1, HI.out.1, hl1, hl2, by omega, ⟨p5, by have := K5.out.2; omega, HI.out.2.2.2.1⟩, HI.out.2.2.2.2⟩
end Go.Proofs.Ytnkdpogplkomhaa

/- The laws' draws of their inputs on dates. -/
namespace Go.Proofs.Ytnkdpogplkomhaa
open Go.RowKit

def DrewD (w : World) (v1 v2 v3 : Value) (ids : List Int) (l bs : List Ctx) (w2 : World) : Prop :=
  w2.ownsRow w.heap.size 3 1 v1 ids.length (cellsI ids) ∧ w2.ownsRow w.heap.size 111 3 v2 l.length (cellsC l) ∧ w2.ownsRow w.heap.size 44 3 v3 bs.length (cellsC bs) ∧ ids.length ≤ 13 ∧ l.length ≤ 31 ∧ bs.length ≤ 16 ∧ Below w.heap.size w w2
theorem dDates_any (A : Option Addr) (c : Nat) (z : List Int) (w : World) (h : Bytes w A c z) :
    Calls Try.prog 14 #[.slice A z.length c] w fun e w2 => ∃ v1 v2 v3 ids l bs, e = .returned (.tuple #[v1, v2, v3]) ∧ DrewD w v1 v2 v3 ids l bs w2 := by
  go_enter Try.func14, Try.ntmps14
  go_wp2_with fail
  refine (open_any A c z _ h.reads h.byte h.cap h.room).mono ?_
  rintro e w2 ⟨g, c2, A2, z2, rfl, hg, hb2, hr2⟩
  go_wp2_with fail
  refine (drawDates_any g c2 0 A2 z2 _ hr2 (by omega)).mono ?_
  rintro e w3 ⟨v1, v2, v3, ids, l, bs, rfl, ho1, ho2, ho3, hl1, hl2, hl3, hd3⟩
  go_wp2_with fail
  go_ret3
  exact ⟨v1, v2, v3, ids, l, bs, rfl, own_less ho1 hb2.size, own_less ho2 hb2.size, own_less ho3 hb2.size, hl1, hl2, by omega, grown_below hd3.grown hb2 hg⟩
theorem dEarl_any (A : Option Addr) (c : Nat) (z : List Int) (w : World) (h : Bytes w A c z) :
    Calls Try.prog 21 #[.slice A z.length c] w fun e w2 => ∃ v1 v2 v3 ids l bs, e = .returned (.tuple #[v1, v2, v3]) ∧ DrewD w v1 v2 v3 ids l bs w2 := by
  go_enter Try.func21, Try.ntmps21
  go_wp2_with fail
  refine (open_any A c z _ h.reads h.byte h.cap h.room).mono ?_
  rintro e w2 ⟨g, c2, A2, z2, rfl, hg, hb2, hr2⟩
  go_wp2_with fail
  refine (drawDates_any g c2 0 A2 z2 _ hr2 (by omega)).mono ?_
  rintro e w3 ⟨v1, v2, v3, ids, l, bs, rfl, ho1, ho2, ho3, hl1, hl2, hl3, hd3⟩
  go_wp2_with fail
  go_ret3
  exact ⟨v1, v2, v3, ids, l, bs, rfl, own_less ho1 hb2.size, own_less ho2 hb2.size, own_less ho3 hb2.size, hl1, hl2, by omega, grown_below hd3.grown hb2 hg⟩
set_option maxHeartbeats 4000000 in
set_option maxRecDepth 100000 in
theorem dFit_any (A : Option Addr) (c : Nat) (z : List Int) (w : World) (h : Bytes w A c z) :
    Calls Try.prog 10 #[.slice A z.length c] w fun e w2 => ∃ v1 v2 v3 v4 ids l bs Y, e = .returned (.tuple #[v1, v2, v3, v4]) ∧ DrewD w v1 v2 v3 ids l bs w2 ∧ w2.ownsRow w.heap.size 3 1 v4 Y.length (cellsI Y) ∧ Y.length ≤ 13 := by
  obtain ⟨i0, hi0, hz0, hz1, hz2⟩ := info_parts infoInt
  go_enter Try.func10, Try.ntmps10
  go_wp2_with fail
  refine (open_any A c z _ h.reads h.byte h.cap h.room).mono ?_
  rintro e w2 ⟨g, c2, A2, z2, rfl, hg, hb2, hr2⟩
  have hlt := hr2.lt
  have hs2 := hb2.size
  have B2 := Lib.hid (And.intro hb2 hg)
  clear hb2 hg h
  go_wp2_with fail
  refine (drawDates_any g c2 0 A2 z2 _ hr2 (by omega)).mono ?_
  rintro e w3 ⟨v1, v2, v3, ids, l, bs, rfl, ho1, ho2, ho3, hl1, hl2, hl3, ⟨p3, hp3, hr3⟩, hg3⟩
  obtain ⟨A3, c3, rfl, _, hx1⟩ := own_slice ho1
  obtain ⟨A4, c4, rfl, _, hx2⟩ := own_slice ho2
  obtain ⟨A5, c5, rfl, _, hx3⟩ := own_slice ho3
  have hs3 := hg3.size
  have hea := sEarliest_any A3 A4 A5 c3 c4 c5 ids l bs w3 hx1 hx2 hx3 (by omega) (by omega) (by omega)
  have hfl := firstD_len ids l bs
  obtain ⟨F, hF⟩ : ∃ F, F = firstD ids l bs := ⟨_, rfl⟩
  obtain ⟨ok, hok⟩ : ∃ ok, ok = okD ids l bs := ⟨_, rfl⟩
  rw [← hF] at hea hfl
  rw [← hok] at hea
  have g3lt := hr3.lt
  have B30 := Lib.hid (And.intro (fun k hk => (ho1.lt k hk).2 : ∀ k, (Value.slice A3 ids.length c3).ownBlock = some k → k < w3.heap.size) (And.intro (fun k hk => (ho2.lt k hk).2 : ∀ k, (Value.slice A4 l.length c4).ownBlock = some k → k < w3.heap.size) (fun k hk => (ho3.lt k hk).2 : ∀ k, (Value.slice A5 bs.length c5).ownBlock = some k → k < w3.heap.size)))
  have K3 := Lib.hid (And.intro ho1 (And.intro ho2 (And.intro ho3 (And.intro hg3 hr3))))
  clear ho1 ho2 ho3 hg3 hr3 hr2 hx1 hx2 hx3 hF hok
  go_wp2_with fail
  refine hea.mono ?_
  rintro e w4 ⟨v5, rfl, k4, o4⟩
  obtain ⟨A6, c6, rfl, _, _⟩ := own_slice o4
  have hs4 := k4.size
  -- the three lists and the reader, in whatever later world
  have K4 := Lib.hid (And.intro (own_below K3.out.1 k4) (And.intro (own_below K3.out.2.1 k4) (And.intro (own_below K3.out.2.2.1 k4) (And.intro (K3.out.2.2.2.1.trans (grown_of_below k4 _)) (And.intro (K3.out.2.2.2.2.step k4) o4)))))
  clear k4 o4 hea K3
  -- the way out from a list of years
  have last : ∀ (W : World) (v6 : Value) (Y : List Int), W.ownsRow w2.heap.size 3 1 (.slice A3 ids.length c3) ids.length (cellsI ids) → W.ownsRow w2.heap.size 111 3 (.slice A4 l.length c4) l.length (cellsC l) → W.ownsRow w2.heap.size 44 3 (.slice A5 bs.length c5) bs.length (cellsC bs) →
      w2.grownBy W (some g) → W.ownsRow w2.heap.size 3 1 v6 Y.length (cellsI Y) → Y.length ≤ 13 →
      ∃ v1 v2 v3 v4 ids2 l2 bs2 Y2, Ending.returned (.tuple #[.slice A3 ids.length c3, .slice A4 l.length c4, .slice A5 bs.length c5, v6]) = .returned (.tuple #[v1, v2, v3, v4]) ∧ DrewD w v1 v2 v3 ids2 l2 bs2 W ∧ W.ownsRow w.heap.size 3 1 v4 Y2.length (cellsI Y2) ∧ Y2.length ≤ 13 := fun W v6 Y f1 f2 f3 f4 f5 f6 =>
    ⟨_, _, _, _, ids, l, bs, Y, rfl, ⟨own_less f1 hs2, own_less f2 hs2, own_less f3 hs2, hl1, hl2, by omega, grown_below f4 B2.out.1 B2.out.2⟩, own_less f5 hs2, f6⟩
  have HL := Lib.hid last
  clear last
  -- gen_ki
  have hlt1 : ∀ k, (Value.slice A3 ids.length c3).ownBlock = some k → k < w3.heap.size := B30.out.1
  have hlt2 : ∀ k, (Value.slice A4 l.length c4).ownBlock = some k → k < w3.heap.size := B30.out.2.1
  have hlt3 : ∀ k, (Value.slice A5 bs.length c5).ownBlock = some k → k < w3.heap.size := B30.out.2.2
  have B3 := Lib.hid (And.intro hlt1 (And.intro hlt2 hlt3))
  clear hlt1 hlt2 hlt3 B30
  cases ok
  · have hbE : Below w4.heap.size w4 (w4.alloc (.cells #[] 3)) := (Below.refl _ _).alloc (Nat.le_refl _) _
    have hsE : w3.heap.size ≤ w4.heap.size := hs4
    have KE := Lib.hid (And.intro (own_below K4.out.1 hbE) (And.intro (own_below K4.out.2.1 hbE) (And.intro (own_below K4.out.2.2.1 hbE) (And.intro (K4.out.2.2.2.1.trans (grown_of_below hbE _)) (And.intro (K4.out.2.2.2.2.1.step hbE) (And.intro (Nat.le_trans hsE hbE.size) (own_empty (e := 3) (size := 1) hsE rfl)))))))
    clear hbE
    go_wp2_with fail
    go_loopw [10, 12] (fun v i wr => ∃ (k : Nat) (Y : List Int) (p6 : Nat), k ≤ ids.length ∧ i = .int .i64 k ∧ Y.length = k ∧ p6 ≤ 940 + k ∧ wr.ownsRow w2.heap.size 3 1 (.slice A3 ids.length c3) ids.length (cellsI ids) ∧ wr.ownsRow w2.heap.size 111 3 (.slice A4 l.length c4) l.length (cellsC l) ∧
        wr.ownsRow w2.heap.size 44 3 (.slice A5 bs.length c5) bs.length (cellsC bs) ∧ w2.grownBy wr (some g) ∧ Rd wr g A2 z2 c2 p6 ∧ w3.heap.size ≤ wr.heap.size ∧ wr.ownsRow w3.heap.size 3 1 v Y.length (cellsI Y)) (fun _ i _ => ids.length - (intOf i).toNat)
    case atStart => exact ⟨0, [], _, by omega, rfl, rfl, by omega, KE.out.1, KE.out.2.1, KE.out.2.2.1, KE.out.2.2.2.1, KE.out.2.2.2.2.1, KE.out.2.2.2.2.2.1, KE.out.2.2.2.2.2.2⟩
    case round =>
      obtain ⟨k, Y, p6, hk, rfl, hYl, hp6, n1, n2, n3, n4, n5, n7, n6⟩ := hrel
      obtain ⟨AY, cY, rfl, _, _⟩ := own_slice n6
      have KL := Lib.hid (And.intro n1 (And.intro n2 (And.intro n3 (And.intro n4 (And.intro n5 n6)))))
      have HYL := Lib.hid hYl
      have hY13 : Y.length ≤ 13 := by omega
      have hYk : k = Y.length := hYl.symm
      clear n1 n2 n3 n4 n5 n6 hYl
      by_cases hki : k < ids.length
      · have hkii : (k : Int) < (ids.length : Int) := by omega
        clear hYk
        go_wp2_with fail
        refine (pick_any g c2 _ A2 z2 _ _ KL.out.2.2.2.2.1 (by omega) (by omega)).mono ?_
        rintro e w8 ⟨r8, rfl, a8, b8, _, hr8, hg8⟩
        have b8 := b8 (by omega)
        have K8 := Lib.hid (And.intro (own_drawn (w0 := w2) KL.out.1 hg8 hlt) (And.intro (own_drawn (w0 := w2) KL.out.2.1 hg8 hlt) (And.intro (own_drawn (w0 := w2) KL.out.2.2.1 hg8 hlt) (And.intro (KL.out.2.2.2.1.trans hg8) (And.intro hr8 (own_drawn (w0 := w3) KL.out.2.2.2.2.2 hg8 g3lt))))))
        have hs8 : w3.heap.size ≤ w8.heap.size := Nat.le_trans n7 hg8.size
        clear hr8 hg8
        go_wp2_with (at_builtin
                     go_must (refine wpList_append_reads _ rfl (.tmp 43) (.tmp 47) _ rfl w3.heap.size 3 i0 _ 1 8 Try.underlying23 hi0 hz0 hz1 hz2 rfl (by omega) (.slice AY Y.length cY) Y.length _ rfl (K8.out.2.2.2.2.2.alloc _) (w8.heap.size + 1) _ 1 1 (cellsI [r8 * 10]) rfl (reads_int (by omega)) (cellsI_one _) (by simp only [maxLen]; omega) (by omega) (by simp; omega) ?_)
                     intro v9 w9 hown9 hg9 hat9
                     have hb9 : Below w8.heap.size w8 w9 ∨ True := .inr trivial)
        have hbA : Below w8.heap.size w8 (w8.alloc (.cells #[.int .i64 (r8 * 10)] 3)) := (Below.refl _ _).alloc (Nat.le_refl _) _
        have far : ∀ (v : Value), (∀ q, v.ownBlock = some q → q < w3.heap.size) → ∀ q, v.ownBlock = some q → (Value.slice AY Y.length cY).ownBlock ≠ some q := fun v hv q hq e => by
          have h1 := hv q hq
          have h2 := (K8.out.2.2.2.2.2.lt q e).1
          omega
        have m1 := own_other (own_below K8.out.1 hbA) (own_below K8.out.2.2.2.2.2 hbA) (far _ B3.out.1) hg9
        have m2 := own_other (own_below K8.out.2.1 hbA) (own_below K8.out.2.2.2.2.2 hbA) (far _ B3.out.2.1) hg9
        have m3 := own_other (own_below K8.out.2.2.1 hbA) (own_below K8.out.2.2.2.2.2 hbA) (far _ B3.out.2.2) hg9
        have m4 := grown_row (grown_alloc K8.out.2.2.2.1 (.cells #[.int .i64 (r8 * 10)] 3)) (own_below K8.out.2.2.2.2.2 hbA) hs3 hg9
        have m5 := (K8.out.2.2.2.2.1.step hbA).grownRow (own_below K8.out.2.2.2.2.2 hbA) g3lt hg9
        have m7 : w3.heap.size ≤ w9.heap.size := Nat.le_trans (Nat.le_trans hs8 hbA.size) hg9.size
        have KM := Lib.hid (And.intro m1 (And.intro m2 (And.intro m3 (And.intro m4 (And.intro m5 (And.intro m7 hown9))))))
        clear m1 m2 m3 m4 m5 m7 hown9 hg9 hat9 hb9 hbA far
        go_roundw
        case rel =>
          refine ⟨k + 1, Y ++ [r8 * 10], p6 + 1, by omega, by go_num, by have := HYL.out; simp; omega, by omega, KM.out.1, KM.out.2.1, KM.out.2.2.1, KM.out.2.2.2.1, KM.out.2.2.2.2.1, KM.out.2.2.2.2.2.1, ?_⟩
          rw [List.length_append, show cellsI (Y ++ [r8 * 10]) = cellsI Y ++ cellsI [r8 * 10] from by simp [cellsI]]
          exact KM.out.2.2.2.2.2.2
        case measure => simp [intOf]; omega
      · have hkk : k = ids.length := by omega
        clear hYk HYL
        have HKK := Lib.hid hkk
        clear hkk
        by_cases h0 : Y.length = 0
        · have e0 : decide ((0 : Int) < (Y.length : Int)) = false := decide_eq_false (by omega)
          have e00 : decide (0 < Y.length) = false := decide_eq_false (by omega)
          clear h0
          go_wp2_with fail
          refine bodyPost_ret (v := .tuple #[.slice A3 ids.length c3, .slice A4 l.length c4, .slice A5 bs.length c5, .slice AY Y.length cY]) (by simp [results, Try.results10, go_sem, *]) rfl ?_
          exact HL.out _ _ Y KL.out.1 KL.out.2.1 KL.out.2.2.1 KL.out.2.2.2.1 (own_less KL.out.2.2.2.2.2 hs3) (by omega)
        · have e0 : decide ((0 : Int) < (Y.length : Int)) = true := decide_eq_true (by omega)
          have e00 : decide (0 < Y.length) = true := decide_eq_true (by omega)
          have hpos : 0 < Y.length := by omega
          clear h0
          go_wp2_with fail
          refine (pick_any g c2 _ A2 z2 _ _ KL.out.2.2.2.2.1 (by omega) (by omega)).mono ?_
          rintro e w7 ⟨r7, rfl, a7, b7, _, hr7, hg7⟩
          have K7 := Lib.hid (And.intro (own_drawn (w0 := w2) KL.out.1 hg7 hlt) (And.intro (own_drawn (w0 := w2) KL.out.2.1 hg7 hlt) (And.intro (own_drawn (w0 := w2) KL.out.2.2.1 hg7 hlt) (And.intro (KL.out.2.2.2.1.trans hg7) (And.intro hr7 (own_drawn (w0 := w3) KL.out.2.2.2.2.2 hg7 g3lt))))))
          clear hr7 hg7
          by_cases h7 : r7 = 0
          · have e7 : (r7 == 0) = true := by simp [h7]
            clear h7
            go_wp2_with fail
            refine (pick_any g c2 _ A2 z2 _ _ K7.out.2.2.2.2.1 (by omega) (by omega)).mono ?_
            rintro e w8 ⟨r8, rfl, a8, b8, _, hr8, hg8⟩
            have b8 := b8 (by omega)
            have K8 := Lib.hid (And.intro (own_drawn (w0 := w2) K7.out.1 hg8 hlt) (And.intro (own_drawn (w0 := w2) K7.out.2.1 hg8 hlt) (And.intro (own_drawn (w0 := w2) K7.out.2.2.1 hg8 hlt) (And.intro (K7.out.2.2.2.1.trans hg8) (And.intro hr8 (own_drawn (w0 := w3) K7.out.2.2.2.2.2 hg8 g3lt))))))
            clear hr8 hg8
            obtain ⟨j, rfl⟩ := Int.eq_ofNat_of_zero_le a8
            have hj : j < Y.length := by omega
            have hji : (j : Int) < (Y.length : Int) := by omega
            obtain ⟨gm, cm, hvm, hgm1, hgm2⟩ := K8.out.2.2.2.2.2.form (by omega)
            injection hvm with q1 q2 q3
            subst q1 q3
            clear q2
            obtain ⟨y, hy⟩ : ∃ y, Y[j]? = some y := ⟨_, List.getElem?_eq_getElem hj⟩
            have f8 := (own_cellI K8.out.2.2.2.2.2 hy).1
            have hbD := below_draws (Below.refl w8.heap.size w8) 1
            have KD := Lib.hid (And.intro (own_below K8.out.1 hbD) (And.intro (own_below K8.out.2.1 hbD) (And.intro (own_below K8.out.2.2.1 hbD) (And.intro (K8.out.2.2.2.1.trans (grown_of_below hbD _)) (And.intro (K8.out.2.2.2.2.1.step hbD) (own_below K8.out.2.2.2.2.2 hbD))))))
            have HY := Lib.hid hy
            clear hy hbD
            go_wp2_with fail
            go_region_law
              (first
                | (go_simp
                   go_at_call 42
                   go_must (refine (pick_any g c2 _ A2 z2 _ _ KD.out.2.2.2.2.1 (by omega) (by omega)).mono ?_)
                   rintro e w9 ⟨r9, rfl, a9, b9, _, hr9, hg9⟩
                   have b9 := b9 (by omega)
                   have K9 := Lib.hid (And.intro (own_drawn (w0 := w2) KD.out.1 hg9 hlt) (And.intro (own_drawn (w0 := w2) KD.out.2.1 hg9 hlt) (And.intro (own_drawn (w0 := w2) KD.out.2.2.1 hg9 hlt) (And.intro (KD.out.2.2.2.1.trans hg9) (And.intro hr9 (own_drawn (w0 := w3) KD.out.2.2.2.2.2 hg9 g3lt))))))
                   have f9 := (own_cellI K9.out.2.2.2.2.2 HY.out).1
                   have z9 := (own_cellI K9.out.2.2.2.2.2 HY.out).2
                   clear hr9 hg9))
            all_goals
              have fin9 : ∀ X : Int, ∃ v1 v2 v3 v4 ids2 l2 bs2 Y2, Ending.returned (.tuple #[.slice A3 ids.length c3, .slice A4 l.length c4, .slice A5 bs.length c5, .slice (some ⟨gm, 0, none⟩) Y.length cY]) = .returned (.tuple #[v1, v2, v3, v4]) ∧ DrewD w v1 v2 v3 ids2 l2 bs2 (w9.setCell ⟨gm, j, none⟩ (.int .i64 X)) ∧ (w9.setCell ⟨gm, j, none⟩ (.int .i64 X)).ownsRow w.heap.size 3 1 v4 Y2.length (cellsI Y2) ∧ Y2.length ≤ 13 := fun X =>
                HL.out _ _ (Y.set j X) (ownsRow_setCell_other K9.out.1 (fun e => by have := B3.out.1 _ e; simp at this; omega) _) (ownsRow_setCell_other K9.out.2.1 (fun e => by have := B3.out.2.1 _ e; simp at this; omega) _) (ownsRow_setCell_other K9.out.2.2.1 (fun e => by have := B3.out.2.2 _ e; simp at this; omega) _)
                  (grown_new K9.out.2.2.2.1 (by simp; omega) _) (by rw [List.length_set]; exact own_less (own_storeI K9.out.2.2.2.2.2 j X) hs3) (by rw [List.length_set]; omega)
              have HFN := Lib.hid fin9
              clear fin9
              go_wp2_with fail
              refine bodyPost_ret (v := .tuple #[.slice A3 ids.length c3, .slice A4 l.length c4, .slice A5 bs.length c5, .slice (some ⟨gm, 0, none⟩) Y.length cY]) (by simp [results, Try.results10, go_sem, *]) rfl ?_
              exact HFN.out _
          · have e7 : (r7 == 0) = false := by simp [h7]
            clear h7
            go_wp2_with fail
            refine bodyPost_ret (v := .tuple #[.slice A3 ids.length c3, .slice A4 l.length c4, .slice A5 bs.length c5, .slice AY Y.length cY]) (by simp [results, Try.results10, go_sem, *]) rfl ?_
            exact HL.out _ _ Y K7.out.1 K7.out.2.1 K7.out.2.2.1 K7.out.2.2.2.1 (own_less K7.out.2.2.2.2.2 hs3) (by omega)
  · have hF13 : F.length ≤ 13 := by omega
    go_wp2_with fail
    refine (pick_any g c2 _ A2 z2 _ _ K4.out.2.2.2.2.1 (by omega) (by omega)).mono ?_
    rintro e w6 ⟨r6, rfl, a6, b6, _, hr6, hg6⟩
    have hs6 : w3.heap.size ≤ w6.heap.size := Nat.le_trans hs4 hg6.size
    have K6 := Lib.hid (And.intro (own_drawn (w0 := w2) K4.out.1 hg6 hlt) (And.intro (own_drawn (w0 := w2) K4.out.2.1 hg6 hlt) (And.intro (own_drawn (w0 := w2) K4.out.2.2.1 hg6 hlt) (And.intro (K4.out.2.2.2.1.trans hg6) (And.intro hr6 (own_drawn (w0 := w3) K4.out.2.2.2.2.2 hg6 g3lt))))))
    clear hr6 hg6
    by_cases h6 : r6 = 0
    · have e6 : (r6 == 0) = true := by simp [h6]
      clear h6
      have hbE : Below w6.heap.size w6 (w6.alloc (.cells #[] 3)) := (Below.refl _ _).alloc (Nat.le_refl _) _
      have hsE : w3.heap.size ≤ w6.heap.size := hs6
      have KE := Lib.hid (And.intro (own_below K6.out.1 hbE) (And.intro (own_below K6.out.2.1 hbE) (And.intro (own_below K6.out.2.2.1 hbE) (And.intro (K6.out.2.2.2.1.trans (grown_of_below hbE _)) (And.intro (K6.out.2.2.2.2.1.step hbE) (And.intro (Nat.le_trans hsE hbE.size) (own_empty (e := 3) (size := 1) hsE rfl)))))))
      clear hbE
      go_wp2_with fail

      go_loopw [10, 12] (fun v i wr => ∃ (k : Nat) (Y : List Int) (p6 : Nat), k ≤ ids.length ∧ i = .int .i64 k ∧ Y.length = k ∧ p6 ≤ 940 + k ∧ wr.ownsRow w2.heap.size 3 1 (.slice A3 ids.length c3) ids.length (cellsI ids) ∧ wr.ownsRow w2.heap.size 111 3 (.slice A4 l.length c4) l.length (cellsC l) ∧
          wr.ownsRow w2.heap.size 44 3 (.slice A5 bs.length c5) bs.length (cellsC bs) ∧ w2.grownBy wr (some g) ∧ Rd wr g A2 z2 c2 p6 ∧ w3.heap.size ≤ wr.heap.size ∧ wr.ownsRow w3.heap.size 3 1 v Y.length (cellsI Y)) (fun _ i _ => ids.length - (intOf i).toNat)
      case atStart => exact ⟨0, [], _, by omega, rfl, rfl, by omega, KE.out.1, KE.out.2.1, KE.out.2.2.1, KE.out.2.2.2.1, KE.out.2.2.2.2.1, KE.out.2.2.2.2.2.1, KE.out.2.2.2.2.2.2⟩
      case round =>
        obtain ⟨k, Y, p6, hk, rfl, hYl, hp6, n1, n2, n3, n4, n5, n7, n6⟩ := hrel
        obtain ⟨AY, cY, rfl, _, _⟩ := own_slice n6
        have KL := Lib.hid (And.intro n1 (And.intro n2 (And.intro n3 (And.intro n4 (And.intro n5 n6)))))
        have HYL := Lib.hid hYl
        have hY13 : Y.length ≤ 13 := by omega
        have hYk : k = Y.length := hYl.symm
        clear n1 n2 n3 n4 n5 n6 hYl
        by_cases hki : k < ids.length
        · have hkii : (k : Int) < (ids.length : Int) := by omega
          clear hYk
          go_wp2_with fail
          refine (pick_any g c2 _ A2 z2 _ _ KL.out.2.2.2.2.1 (by omega) (by omega)).mono ?_
          rintro e w8 ⟨r8, rfl, a8, b8, _, hr8, hg8⟩
          have b8 := b8 (by omega)
          have K8 := Lib.hid (And.intro (own_drawn (w0 := w2) KL.out.1 hg8 hlt) (And.intro (own_drawn (w0 := w2) KL.out.2.1 hg8 hlt) (And.intro (own_drawn (w0 := w2) KL.out.2.2.1 hg8 hlt) (And.intro (KL.out.2.2.2.1.trans hg8) (And.intro hr8 (own_drawn (w0 := w3) KL.out.2.2.2.2.2 hg8 g3lt))))))
          have hs8 : w3.heap.size ≤ w8.heap.size := Nat.le_trans n7 hg8.size
          clear hr8 hg8
          go_wp2_with (at_builtin
                       go_must (refine wpList_append_reads _ rfl (.tmp 43) (.tmp 47) _ rfl w3.heap.size 3 i0 _ 1 8 Try.underlying23 hi0 hz0 hz1 hz2 rfl (by omega) (.slice AY Y.length cY) Y.length _ rfl (K8.out.2.2.2.2.2.alloc _) (w8.heap.size + 1) _ 1 1 (cellsI [r8 * 10]) rfl (reads_int (by omega)) (cellsI_one _) (by simp only [maxLen]; omega) (by omega) (by simp; omega) ?_)
                       intro v9 w9 hown9 hg9 hat9
                       have hb9 : Below w8.heap.size w8 w9 ∨ True := .inr trivial)
          have hbA : Below w8.heap.size w8 (w8.alloc (.cells #[.int .i64 (r8 * 10)] 3)) := (Below.refl _ _).alloc (Nat.le_refl _) _
          have far : ∀ (v : Value), (∀ q, v.ownBlock = some q → q < w3.heap.size) → ∀ q, v.ownBlock = some q → (Value.slice AY Y.length cY).ownBlock ≠ some q := fun v hv q hq e => by
            have h1 := hv q hq
            have h2 := (K8.out.2.2.2.2.2.lt q e).1
            omega
          have m1 := own_other (own_below K8.out.1 hbA) (own_below K8.out.2.2.2.2.2 hbA) (far _ B3.out.1) hg9
          have m2 := own_other (own_below K8.out.2.1 hbA) (own_below K8.out.2.2.2.2.2 hbA) (far _ B3.out.2.1) hg9
          have m3 := own_other (own_below K8.out.2.2.1 hbA) (own_below K8.out.2.2.2.2.2 hbA) (far _ B3.out.2.2) hg9
          have m4 := grown_row (grown_alloc K8.out.2.2.2.1 (.cells #[.int .i64 (r8 * 10)] 3)) (own_below K8.out.2.2.2.2.2 hbA) hs3 hg9
          have m5 := (K8.out.2.2.2.2.1.step hbA).grownRow (own_below K8.out.2.2.2.2.2 hbA) g3lt hg9
          have m7 : w3.heap.size ≤ w9.heap.size := Nat.le_trans (Nat.le_trans hs8 hbA.size) hg9.size
          have KM := Lib.hid (And.intro m1 (And.intro m2 (And.intro m3 (And.intro m4 (And.intro m5 (And.intro m7 hown9))))))
          clear m1 m2 m3 m4 m5 m7 hown9 hg9 hat9 hb9 hbA far
          go_roundw
          case rel =>
            refine ⟨k + 1, Y ++ [r8 * 10], p6 + 1, by omega, by go_num, by have := HYL.out; simp; omega, by omega, KM.out.1, KM.out.2.1, KM.out.2.2.1, KM.out.2.2.2.1, KM.out.2.2.2.2.1, KM.out.2.2.2.2.2.1, ?_⟩
            rw [List.length_append, show cellsI (Y ++ [r8 * 10]) = cellsI Y ++ cellsI [r8 * 10] from by simp [cellsI]]
            exact KM.out.2.2.2.2.2.2
          case measure => simp [intOf]; omega
        · have hkk : k = ids.length := by omega
          clear hYk HYL
          have HKK := Lib.hid hkk
          clear hkk
          by_cases h0 : Y.length = 0
          · have e0 : decide ((0 : Int) < (Y.length : Int)) = false := decide_eq_false (by omega)
            have e00 : decide (0 < Y.length) = false := decide_eq_false (by omega)
            clear h0
            go_wp2_with fail
            refine bodyPost_ret (v := .tuple #[.slice A3 ids.length c3, .slice A4 l.length c4, .slice A5 bs.length c5, .slice AY Y.length cY]) (by simp [results, Try.results10, go_sem, *]) rfl ?_
            exact HL.out _ _ Y KL.out.1 KL.out.2.1 KL.out.2.2.1 KL.out.2.2.2.1 (own_less KL.out.2.2.2.2.2 hs3) (by omega)
          · have e0 : decide ((0 : Int) < (Y.length : Int)) = true := decide_eq_true (by omega)
            have e00 : decide (0 < Y.length) = true := decide_eq_true (by omega)
            have hpos : 0 < Y.length := by omega
            clear h0
            go_wp2_with fail
            refine (pick_any g c2 _ A2 z2 _ _ KL.out.2.2.2.2.1 (by omega) (by omega)).mono ?_
            rintro e w7 ⟨r7, rfl, a7, b7, _, hr7, hg7⟩
            have K7 := Lib.hid (And.intro (own_drawn (w0 := w2) KL.out.1 hg7 hlt) (And.intro (own_drawn (w0 := w2) KL.out.2.1 hg7 hlt) (And.intro (own_drawn (w0 := w2) KL.out.2.2.1 hg7 hlt) (And.intro (KL.out.2.2.2.1.trans hg7) (And.intro hr7 (own_drawn (w0 := w3) KL.out.2.2.2.2.2 hg7 g3lt))))))
            clear hr7 hg7
            by_cases h7 : r7 = 0
            · have e7 : (r7 == 0) = true := by simp [h7]
              clear h7
              go_wp2_with fail
              refine (pick_any g c2 _ A2 z2 _ _ K7.out.2.2.2.2.1 (by omega) (by omega)).mono ?_
              rintro e w8 ⟨r8, rfl, a8, b8, _, hr8, hg8⟩
              have b8 := b8 (by omega)
              have K8 := Lib.hid (And.intro (own_drawn (w0 := w2) K7.out.1 hg8 hlt) (And.intro (own_drawn (w0 := w2) K7.out.2.1 hg8 hlt) (And.intro (own_drawn (w0 := w2) K7.out.2.2.1 hg8 hlt) (And.intro (K7.out.2.2.2.1.trans hg8) (And.intro hr8 (own_drawn (w0 := w3) K7.out.2.2.2.2.2 hg8 g3lt))))))
              clear hr8 hg8
              obtain ⟨j, rfl⟩ := Int.eq_ofNat_of_zero_le a8
              have hj : j < Y.length := by omega
              have hji : (j : Int) < (Y.length : Int) := by omega
              obtain ⟨gm, cm, hvm, hgm1, hgm2⟩ := K8.out.2.2.2.2.2.form (by omega)
              injection hvm with q1 q2 q3
              subst q1 q3
              clear q2
              obtain ⟨y, hy⟩ : ∃ y, Y[j]? = some y := ⟨_, List.getElem?_eq_getElem hj⟩
              have f8 := (own_cellI K8.out.2.2.2.2.2 hy).1
              have hbD := below_draws (Below.refl w8.heap.size w8) 1
              have KD := Lib.hid (And.intro (own_below K8.out.1 hbD) (And.intro (own_below K8.out.2.1 hbD) (And.intro (own_below K8.out.2.2.1 hbD) (And.intro (K8.out.2.2.2.1.trans (grown_of_below hbD _)) (And.intro (K8.out.2.2.2.2.1.step hbD) (own_below K8.out.2.2.2.2.2 hbD))))))
              have HY := Lib.hid hy
              clear hy hbD
              go_wp2_with fail
              go_region_law
                (first
                  | (go_simp
                     go_at_call 42
                     go_must (refine (pick_any g c2 _ A2 z2 _ _ KD.out.2.2.2.2.1 (by omega) (by omega)).mono ?_)
                     rintro e w9 ⟨r9, rfl, a9, b9, _, hr9, hg9⟩
                     have b9 := b9 (by omega)
                     have K9 := Lib.hid (And.intro (own_drawn (w0 := w2) KD.out.1 hg9 hlt) (And.intro (own_drawn (w0 := w2) KD.out.2.1 hg9 hlt) (And.intro (own_drawn (w0 := w2) KD.out.2.2.1 hg9 hlt) (And.intro (KD.out.2.2.2.1.trans hg9) (And.intro hr9 (own_drawn (w0 := w3) KD.out.2.2.2.2.2 hg9 g3lt))))))
                     have f9 := (own_cellI K9.out.2.2.2.2.2 HY.out).1
                     have z9 := (own_cellI K9.out.2.2.2.2.2 HY.out).2
                     clear hr9 hg9))
              all_goals
                have fin9 : ∀ X : Int, ∃ v1 v2 v3 v4 ids2 l2 bs2 Y2, Ending.returned (.tuple #[.slice A3 ids.length c3, .slice A4 l.length c4, .slice A5 bs.length c5, .slice (some ⟨gm, 0, none⟩) Y.length cY]) = .returned (.tuple #[v1, v2, v3, v4]) ∧ DrewD w v1 v2 v3 ids2 l2 bs2 (w9.setCell ⟨gm, j, none⟩ (.int .i64 X)) ∧ (w9.setCell ⟨gm, j, none⟩ (.int .i64 X)).ownsRow w.heap.size 3 1 v4 Y2.length (cellsI Y2) ∧ Y2.length ≤ 13 := fun X =>
                  HL.out _ _ (Y.set j X) (ownsRow_setCell_other K9.out.1 (fun e => by have := B3.out.1 _ e; simp at this; omega) _) (ownsRow_setCell_other K9.out.2.1 (fun e => by have := B3.out.2.1 _ e; simp at this; omega) _) (ownsRow_setCell_other K9.out.2.2.1 (fun e => by have := B3.out.2.2 _ e; simp at this; omega) _)
                    (grown_new K9.out.2.2.2.1 (by simp; omega) _) (by rw [List.length_set]; exact own_less (own_storeI K9.out.2.2.2.2.2 j X) hs3) (by rw [List.length_set]; omega)
                have HFN := Lib.hid fin9
                clear fin9
                go_wp2_with fail
                refine bodyPost_ret (v := .tuple #[.slice A3 ids.length c3, .slice A4 l.length c4, .slice A5 bs.length c5, .slice (some ⟨gm, 0, none⟩) Y.length cY]) (by simp [results, Try.results10, go_sem, *]) rfl ?_
                exact HFN.out _
            · have e7 : (r7 == 0) = false := by simp [h7]
              clear h7
              go_wp2_with fail
              refine bodyPost_ret (v := .tuple #[.slice A3 ids.length c3, .slice A4 l.length c4, .slice A5 bs.length c5, .slice AY Y.length cY]) (by simp [results, Try.results10, go_sem, *]) rfl ?_
              exact HL.out _ _ Y K7.out.1 K7.out.2.1 K7.out.2.2.1 K7.out.2.2.2.1 (own_less K7.out.2.2.2.2.2 hs3) (by omega)
    · have e6 : (r6 == 0) = false := by simp [h6]
      clear h6
      by_cases h0 : F.length = 0
      · have e0 : decide ((0 : Int) < (F.length : Int)) = false := decide_eq_false (by omega)
        have e00 : decide (0 < F.length) = false := decide_eq_false (by omega)
        clear h0
        go_wp2_with fail
        refine bodyPost_ret (v := .tuple #[.slice A3 ids.length c3, .slice A4 l.length c4, .slice A5 bs.length c5, .slice A6 F.length c6]) (by simp [results, Try.results10, go_sem, *]) rfl ?_
        exact HL.out _ _ F K6.out.1 K6.out.2.1 K6.out.2.2.1 K6.out.2.2.2.1 (own_less K6.out.2.2.2.2.2 hs3) (by omega)
      · have e0 : decide ((0 : Int) < (F.length : Int)) = true := decide_eq_true (by omega)
        have e00 : decide (0 < F.length) = true := decide_eq_true (by omega)
        have hpos : 0 < F.length := by omega
        clear h0
        go_wp2_with fail
        refine (pick_any g c2 _ A2 z2 _ _ K6.out.2.2.2.2.1 (by omega) (by omega)).mono ?_
        rintro e w7 ⟨r7, rfl, a7, b7, _, hr7, hg7⟩
        have K7 := Lib.hid (And.intro (own_drawn (w0 := w2) K6.out.1 hg7 hlt) (And.intro (own_drawn (w0 := w2) K6.out.2.1 hg7 hlt) (And.intro (own_drawn (w0 := w2) K6.out.2.2.1 hg7 hlt) (And.intro (K6.out.2.2.2.1.trans hg7) (And.intro hr7 (own_drawn (w0 := w3) K6.out.2.2.2.2.2 hg7 g3lt))))))
        clear hr7 hg7
        by_cases h7 : r7 = 0
        · have e7 : (r7 == 0) = true := by simp [h7]
          clear h7
          go_wp2_with fail
          refine (pick_any g c2 _ A2 z2 _ _ K7.out.2.2.2.2.1 (by omega) (by omega)).mono ?_
          rintro e w8 ⟨r8, rfl, a8, b8, _, hr8, hg8⟩
          have b8 := b8 (by omega)
          have K8 := Lib.hid (And.intro (own_drawn (w0 := w2) K7.out.1 hg8 hlt) (And.intro (own_drawn (w0 := w2) K7.out.2.1 hg8 hlt) (And.intro (own_drawn (w0 := w2) K7.out.2.2.1 hg8 hlt) (And.intro (K7.out.2.2.2.1.trans hg8) (And.intro hr8 (own_drawn (w0 := w3) K7.out.2.2.2.2.2 hg8 g3lt))))))
          clear hr8 hg8
          obtain ⟨j, rfl⟩ := Int.eq_ofNat_of_zero_le a8
          have hj : j < F.length := by omega
          have hji : (j : Int) < (F.length : Int) := by omega
          obtain ⟨gm, cm, hvm, hgm1, hgm2⟩ := K8.out.2.2.2.2.2.form (by omega)
          injection hvm with q1 q2 q3
          subst q1 q3
          clear q2
          obtain ⟨y, hy⟩ : ∃ y, F[j]? = some y := ⟨_, List.getElem?_eq_getElem hj⟩
          have f8 := (own_cellI K8.out.2.2.2.2.2 hy).1
          have hbD := below_draws (Below.refl w8.heap.size w8) 1
          have KD := Lib.hid (And.intro (own_below K8.out.1 hbD) (And.intro (own_below K8.out.2.1 hbD) (And.intro (own_below K8.out.2.2.1 hbD) (And.intro (K8.out.2.2.2.1.trans (grown_of_below hbD _)) (And.intro (K8.out.2.2.2.2.1.step hbD) (own_below K8.out.2.2.2.2.2 hbD))))))
          have HY := Lib.hid hy
          clear hy hbD
          go_wp2_with fail
          go_region_law
            (first
              | (go_simp
                 go_at_call 42
                 go_must (refine (pick_any g c2 _ A2 z2 _ _ KD.out.2.2.2.2.1 (by omega) (by omega)).mono ?_)
                 rintro e w9 ⟨r9, rfl, a9, b9, _, hr9, hg9⟩
                 have b9 := b9 (by omega)
                 have K9 := Lib.hid (And.intro (own_drawn (w0 := w2) KD.out.1 hg9 hlt) (And.intro (own_drawn (w0 := w2) KD.out.2.1 hg9 hlt) (And.intro (own_drawn (w0 := w2) KD.out.2.2.1 hg9 hlt) (And.intro (KD.out.2.2.2.1.trans hg9) (And.intro hr9 (own_drawn (w0 := w3) KD.out.2.2.2.2.2 hg9 g3lt))))))
                 have f9 := (own_cellI K9.out.2.2.2.2.2 HY.out).1
                 have z9 := (own_cellI K9.out.2.2.2.2.2 HY.out).2
                 clear hr9 hg9))
          all_goals
            have fin9 : ∀ X : Int, ∃ v1 v2 v3 v4 ids2 l2 bs2 Y2, Ending.returned (.tuple #[.slice A3 ids.length c3, .slice A4 l.length c4, .slice A5 bs.length c5, .slice (some ⟨gm, 0, none⟩) F.length c6]) = .returned (.tuple #[v1, v2, v3, v4]) ∧ DrewD w v1 v2 v3 ids2 l2 bs2 (w9.setCell ⟨gm, j, none⟩ (.int .i64 X)) ∧ (w9.setCell ⟨gm, j, none⟩ (.int .i64 X)).ownsRow w.heap.size 3 1 v4 Y2.length (cellsI Y2) ∧ Y2.length ≤ 13 := fun X =>
              HL.out _ _ (F.set j X) (ownsRow_setCell_other K9.out.1 (fun e => by have := B3.out.1 _ e; simp at this; omega) _) (ownsRow_setCell_other K9.out.2.1 (fun e => by have := B3.out.2.1 _ e; simp at this; omega) _) (ownsRow_setCell_other K9.out.2.2.1 (fun e => by have := B3.out.2.2 _ e; simp at this; omega) _)
                (grown_new K9.out.2.2.2.1 (by simp; omega) _) (by rw [List.length_set]; exact own_less (own_storeI K9.out.2.2.2.2.2 j X) hs3) (by rw [List.length_set]; omega)
            have HFN := Lib.hid fin9
            clear fin9
            go_wp2_with fail
            refine bodyPost_ret (v := .tuple #[.slice A3 ids.length c3, .slice A4 l.length c4, .slice A5 bs.length c5, .slice (some ⟨gm, 0, none⟩) F.length c6]) (by simp [results, Try.results10, go_sem, *]) rfl ?_
            exact HFN.out _
        · have e7 : (r7 == 0) = false := by simp [h7]
          clear h7
          go_wp2_with fail
          refine bodyPost_ret (v := .tuple #[.slice A3 ids.length c3, .slice A4 l.length c4, .slice A5 bs.length c5, .slice A6 F.length c6]) (by simp [results, Try.results10, go_sem, *]) rfl ?_
          exact HL.out _ _ F K7.out.1 K7.out.2.1 K7.out.2.2.1 K7.out.2.2.2.1 (own_less K7.out.2.2.2.2.2 hs3) (by omega)
theorem reads_twoC {w : World} {a b : Ctx} {t : TypeId} {B : Nat} (hB : w.heap.size < B) : Reads (w.alloc (.cells #[.int .i64 a.id, .int .i64 a.kind, .int .i64 a.area, .int .i64 b.id, .int .i64 b.kind, .int .i64 b.area] t)) B 3 (some ⟨w.heap.size, 0, none⟩) 2 (cellsC [a, b]) := by
  refine ⟨by rw [length_cellsC]; rfl, fun _ => ⟨_, 0, rfl, hB, fun j u hu => ?_⟩⟩
  rw [cell_of_row _ _ _ _ _ _ (heap_alloc_new _ _)]
  simpa [cellsC, cells3] using hu
end Go.Proofs.Ytnkdpogplkomhaa
