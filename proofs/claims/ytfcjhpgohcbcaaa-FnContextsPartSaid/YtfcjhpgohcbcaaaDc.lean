/- The laws draw a context, contexts, and a further one or a number. -/
import Derived.Test.YtfcjhpgohcbcaaaDr
namespace Go.Proofs.Ytfcjhpgohcbcaaa
open Go.RowKit

theorem grown_cells {w w2 : World} {g : Nat} (h : w.grownBy w2 (some g)) : (∀ b o, b < w.heap.size → ¬ b = g → w2.cell? ⟨b, o, none⟩ = w.cell? ⟨b, o, none⟩) ∧ (∀ b o, b < w.heap.size → ¬ b = g → w2.frozen? ⟨b, o, none⟩ = w.frozen? ⟨b, o, none⟩) :=
  ⟨fun b o hb hne => World.cell?_of_block (w := w) (a := ⟨b, o, none⟩) (h.block b hb (fun e => hne (by injection e))), fun b o hb hne => World.frozen?_of_block (w := w) (a := ⟨b, o, none⟩) (h.block b hb (fun e => hne (by injection e)))⟩
theorem grown_new {a w : World} {row : Option Nat} (h : a.grownBy w row) {p : Addr} (hp : a.heap.size ≤ p.block) (u : Value) : a.grownBy (w.setCell p u) row :=
  ⟨h.os, h.tape, h.output, by simpa [World.setCell] using h.size, fun i hi hne => (Below.heap_setCell w p u i (by omega)).trans (h.block i hi hne)⟩
theorem grown_alloc {a w : World} {row : Option Nat} (h : a.grownBy w row) (o : Obj) : a.grownBy (w.alloc o) row := h.trans (World.grownBy_alloc w o row)
theorem grown_of_below {a w : World} (h : Below a.heap.size a w) (row : Option Nat) : a.grownBy w row := ⟨h.os, h.tape, h.output, h.size, fun i hi _ => h.block i hi⟩
theorem grown_below {w0 a w : World} {g : Nat} (h : a.grownBy w (some g)) (hb : Below w0.heap.size w0 a) (hg : w0.heap.size ≤ g) : Below w0.heap.size w0 w := hb.grown h hb.size (fun k hk => by injection hk with hk; omega)
theorem row_keep {W W2 : World} {g b : Nat} {o : Obj} (hg : W.grownBy W2 (some g)) (h : W.heap[b]? = some o) (hne : ¬ b = g) : W2.heap[b]? = some o :=
  (hg.block b (Array.getElem?_eq_some_iff.1 h).1 (fun e => hne (by injection e))).trans h
theorem row_alloc {W : World} {b : Nat} {o o2 : Obj} (h : W.heap[b]? = some o) : (W.alloc o2).heap[b]? = some o := (Below.heap_alloc W o2 b (Array.getElem?_eq_some_iff.1 h).1).trans h
theorem Rd.set {w : World} {g c p : Nat} {A : Option Addr} {z : List Int} (h : Rd w g A z c p) {q : Addr} (hq : g < q.block) (u : Value) : Rd (w.setCell q u) g A z c p :=
  ⟨(heap_setCell_other w q g u (by omega)).trans h.blk, h.reads.keep fun b o hlt => World.cell?_of_block (w := w) (a := ⟨b, o, none⟩) (heap_setCell_other w q b u (by omega)), h.byte, h.short⟩
/-- Some steps of the reader, from w to w2. -/
structure Drawn (w : World) (g : Nat) (A : Option Addr) (z : List Int) (c p n : Nat) (w2 : World) : Prop where
  rd : ∃ p2, p2 ≤ p + n ∧ Rd w2 g A z c p2
  grown : w.grownBy w2 (some g)

set_option maxHeartbeats 4000000 in
theorem drawC_any (g c p : Nat) (A : Option Addr) (z : List Int) (w : World) (h : Rd w g A z c p) (hp : p ≤ 900000) :
    Calls Try.prog 40 #[.pointer (some ⟨g, 0, none⟩)] w fun e w2 => ∃ x : Ctx, e = .returned (.agg #[.int .i64 x.id, .int .i64 x.kind, .int .i64 x.area]) ∧ Drawn w g A z c p 6 w2 := by
  have hlt := h.lt
  have hn0 : ¬ w.heap.size = g := by omega
  have h1 := h.step ((Below.refl _ _).alloc (Nat.le_refl _) (.cells #[.int .i64 0, .int .i64 0, .int .i64 0] 25))
  go_enter Try.func40, Try.ntmps40
  go_wp2_with fail
  refine (pick_any g c p A z _ _ h1 (by omega) (by omega)).mono ?_
  rintro e w2 ⟨r2, rfl, a2, b2, _, hr2, hg2⟩
  have b2 := b2 (by omega)
  go_wp2_with fail
  refine (pick_any g c _ A z _ _ hr2 (by omega) (by omega)).mono ?_
  rintro e w3 ⟨r3, rfl, a3, b3, _, hr3, hg3⟩
  have b3 := b3 (by omega)
  go_wp2_with fail
  refine (pick_any g c _ A z _ _ hr3 (by omega) (by omega)).mono ?_
  rintro e w4 ⟨r4, rfl, a4, b4, _, hr4, hg4⟩
  have b4 := b4 (by omega)
  have g4 : w.grownBy w4 (some g) := (((World.grownBy_alloc w _ _).trans hg2).trans hg3).trans hg4
  have hs4 : w.heap.size < w4.heap.size := by
    have e2 := hg2.size
    have e3 := hg3.size
    have e4 := hg4.size
    simp at e2
    omega
  go_wp2_with fail
  have hn4 : ¬ w4.heap.size = g := by omega
  have hn04 : ¬ w.heap.size = w4.heap.size := by omega
  have hn40 : ¬ w4.heap.size = w.heap.size := by omega
  have m0 := row_keep hg4 (row_keep hg3 (row_keep hg2 (heap_alloc_new w (.cells #[.int .i64 0, .int .i64 0, .int .i64 0] 25)) hn0) hn0) hn0
  refine (pick_any g c _ A z _ _ (hr4.step ((Below.refl _ _).alloc (Nat.le_refl _) _)) (by omega) (by omega)).mono ?_
  rintro e w5 ⟨r5, rfl, a5, b5, _, hr5, hg5⟩
  have m05 := row_keep hg5 (row_alloc m0) hn0
  have m45 := row_keep hg5 (heap_alloc_new _ _) hn4
  have g5 : w.grownBy w5 (some g) := (grown_alloc g4 _).trans hg5
  have M05 := Lib.hid m05
  have M45 := Lib.hid m45
  have G5 := Lib.hid g5
  clear m0 m05 m45 hg2 hg3 hg4 hg5 g4 hr2 hr3 hr4 g5
  by_cases c0 : r5 = 0
  · have e0 : (r5 == 0) = true := by simp [c0]
    clear c0
    go_wp2_with fail
    refine (pick_any g c _ A z _ _ (hr5.step ((Below.refl _ _).alloc (Nat.le_refl _) _)) (by omega) (by omega)).mono ?_
    rintro e w6 ⟨r6, rfl, a6, b6, _, hr6, hg6⟩
    have b6 := b6 (by omega)
    have m06 := row_keep hg6 (row_alloc M05.out) hn0
    have m46 := row_keep hg6 (row_alloc M45.out) hn4
    have hs5 : w4.heap.size < w5.heap.size := (Array.getElem?_eq_some_iff.1 M45.out).1
    have m56 := row_keep hg6 (heap_alloc_new _ _) (by omega)
    have hg56 := grown_alloc G5.out (.cells #[.int .i64 0, .int .i64 (-1), .int .i64 99, .int .i64 100] 3)
    have G6 := Lib.hid (hg56.trans hg6)
    have hi6 : r6 = 0 ∨ r6 = 1 ∨ r6 = 2 ∨ r6 = 3 := by omega
    have z0 : w6.cell? ⟨w.heap.size, 0, none⟩ = some (.int .i64 0) := cell_of_row _ _ 0 _ _ _ m06
    have z1 : w6.cell? ⟨w.heap.size, 1, none⟩ = some (.int .i64 0) := cell_of_row _ _ 1 _ _ _ m06
    have z2 : w6.cell? ⟨w.heap.size, 2, none⟩ = some (.int .i64 0) := cell_of_row _ _ 2 _ _ _ m06
    have f0 := frozen_of_row _ _ 0 _ _ m06
    have f1 := frozen_of_row _ _ 1 _ _ m06
    have f2 := frozen_of_row _ _ 2 _ _ m06
    have y0 : w6.cell? ⟨w4.heap.size, 0, none⟩ = some (.int .i64 (1 + r2)) := cell_of_row _ _ 0 _ _ _ m46
    have y1 : w6.cell? ⟨w4.heap.size, 1, none⟩ = some (.int .i64 (1 + r3)) := cell_of_row _ _ 1 _ _ _ m46
    have y2 : w6.cell? ⟨w4.heap.size, 2, none⟩ = some (.int .i64 (1 + r4)) := cell_of_row _ _ 2 _ _ _ m46
    have x0 := frozen_of_row _ _ 0 _ _ m46
    have x1 := frozen_of_row _ _ 1 _ _ m46
    have x2 := frozen_of_row _ _ 2 _ _ m46
    have t0 : w6.cell? ⟨w5.heap.size, 0, none⟩ = some (.int .i64 0) := cell_of_row _ _ 0 _ _ _ m56
    have t1 : w6.cell? ⟨w5.heap.size, 1, none⟩ = some (.int .i64 (-1)) := cell_of_row _ _ 1 _ _ _ m56
    have t2 : w6.cell? ⟨w5.heap.size, 2, none⟩ = some (.int .i64 99) := cell_of_row _ _ 2 _ _ _ m56
    have t3 : w6.cell? ⟨w5.heap.size, 3, none⟩ = some (.int .i64 100) := cell_of_row _ _ 3 _ _ _ m56
    clear m06 m46 m56 hg6 hg56 b6 a6
    rcases hi6 with rfl | rfl | rfl | rfl
    · go_wp2_with fail
      refine bodyPost_ret (v := .agg #[.int .i64 0, .int .i64 (1 + r3), .int .i64 (1 + r4)]) (by simp [results, Try.results40, go_sem, *]) rfl ⟨⟨0, (1 + r3), (1 + r4)⟩, rfl, ⟨⟨_, by omega, ((((hr6.set (by simp; omega) _).set (by simp; omega) _).set (by simp; omega) _).set (by simp; omega) _)⟩, (grown_new (grown_new (grown_new (grown_new G6.out (by simp; omega) _) (by simp) _) (by simp) _) (by simp) _)⟩⟩
    · go_wp2_with fail
      refine bodyPost_ret (v := .agg #[.int .i64 (-1), .int .i64 (1 + r3), .int .i64 (1 + r4)]) (by simp [results, Try.results40, go_sem, *]) rfl ⟨⟨(-1), (1 + r3), (1 + r4)⟩, rfl, ⟨⟨_, by omega, ((((hr6.set (by simp; omega) _).set (by simp; omega) _).set (by simp; omega) _).set (by simp; omega) _)⟩, (grown_new (grown_new (grown_new (grown_new G6.out (by simp; omega) _) (by simp) _) (by simp) _) (by simp) _)⟩⟩
    · go_wp2_with fail
      refine bodyPost_ret (v := .agg #[.int .i64 99, .int .i64 (1 + r3), .int .i64 (1 + r4)]) (by simp [results, Try.results40, go_sem, *]) rfl ⟨⟨99, (1 + r3), (1 + r4)⟩, rfl, ⟨⟨_, by omega, ((((hr6.set (by simp; omega) _).set (by simp; omega) _).set (by simp; omega) _).set (by simp; omega) _)⟩, (grown_new (grown_new (grown_new (grown_new G6.out (by simp; omega) _) (by simp) _) (by simp) _) (by simp) _)⟩⟩
    · go_wp2_with fail
      refine bodyPost_ret (v := .agg #[.int .i64 100, .int .i64 (1 + r3), .int .i64 (1 + r4)]) (by simp [results, Try.results40, go_sem, *]) rfl ⟨⟨100, (1 + r3), (1 + r4)⟩, rfl, ⟨⟨_, by omega, ((((hr6.set (by simp; omega) _).set (by simp; omega) _).set (by simp; omega) _).set (by simp; omega) _)⟩, (grown_new (grown_new (grown_new (grown_new G6.out (by simp; omega) _) (by simp) _) (by simp) _) (by simp) _)⟩⟩
  · have e0 : (r5 == 0) = false := by simp [c0]
    clear c0
    by_cases c1 : r5 = 1
    · have e1 : (r5 == 1) = true := by simp [c1]
      clear c1
      go_wp2_with fail
      refine (pick_any g c _ A z _ _ hr5 (by omega) (by omega)).mono ?_
      rintro e w6 ⟨r6, rfl, a6, b6, _, hr6, hg6⟩
      have b6 := b6 (by omega)
      have m06 := row_keep hg6 M05.out hn0
      have m46 := row_keep hg6 M45.out hn4
      have G6 := Lib.hid (G5.out.trans hg6)
      have z0 : w6.cell? ⟨w.heap.size, 0, none⟩ = some (.int .i64 0) := cell_of_row _ _ 0 _ _ _ m06
      have z1 : w6.cell? ⟨w.heap.size, 1, none⟩ = some (.int .i64 0) := cell_of_row _ _ 1 _ _ _ m06
      have z2 : w6.cell? ⟨w.heap.size, 2, none⟩ = some (.int .i64 0) := cell_of_row _ _ 2 _ _ _ m06
      have f0 := frozen_of_row _ _ 0 _ _ m06
      have f1 := frozen_of_row _ _ 1 _ _ m06
      have f2 := frozen_of_row _ _ 2 _ _ m06
      have y0 : w6.cell? ⟨w4.heap.size, 0, none⟩ = some (.int .i64 (1 + r2)) := cell_of_row _ _ 0 _ _ _ m46
      have y1 : w6.cell? ⟨w4.heap.size, 1, none⟩ = some (.int .i64 (1 + r3)) := cell_of_row _ _ 1 _ _ _ m46
      have y2 : w6.cell? ⟨w4.heap.size, 2, none⟩ = some (.int .i64 (1 + r4)) := cell_of_row _ _ 2 _ _ _ m46
      have x0 := frozen_of_row _ _ 0 _ _ m46
      have x1 := frozen_of_row _ _ 1 _ _ m46
      have x2 := frozen_of_row _ _ 2 _ _ m46
      clear m06 m46 hg6
      go_wp2_with fail
      refine bodyPost_ret (v := .agg #[.int .i64 (1 + r2), .int .i64 (r6 * 5), .int .i64 (1 + r4)]) (by simp [results, Try.results40, go_sem, *]) rfl ⟨⟨(1 + r2), (r6 * 5), (1 + r4)⟩, rfl, ⟨⟨_, by omega, ((((hr6.set (by simp; omega) _).set (by simp; omega) _).set (by simp; omega) _).set (by simp; omega) _)⟩, (grown_new (grown_new (grown_new (grown_new G6.out (by simp; omega) _) (by simp) _) (by simp) _) (by simp) _)⟩⟩
    · have e1 : (r5 == 1) = false := by simp [c1]
      clear c1
      by_cases c2 : r5 = 2
      · have e2 : (r5 == 2) = true := by simp [c2]
        clear c2
        go_wp2_with fail
        refine (pick_any g c _ A z _ _ hr5 (by omega) (by omega)).mono ?_
        rintro e w6 ⟨r6, rfl, a6, b6, _, hr6, hg6⟩
        have b6 := b6 (by omega)
        have m06 := row_keep hg6 M05.out hn0
        have m46 := row_keep hg6 M45.out hn4
        have G6 := Lib.hid (G5.out.trans hg6)
        have z0 : w6.cell? ⟨w.heap.size, 0, none⟩ = some (.int .i64 0) := cell_of_row _ _ 0 _ _ _ m06
        have z1 : w6.cell? ⟨w.heap.size, 1, none⟩ = some (.int .i64 0) := cell_of_row _ _ 1 _ _ _ m06
        have z2 : w6.cell? ⟨w.heap.size, 2, none⟩ = some (.int .i64 0) := cell_of_row _ _ 2 _ _ _ m06
        have f0 := frozen_of_row _ _ 0 _ _ m06
        have f1 := frozen_of_row _ _ 1 _ _ m06
        have f2 := frozen_of_row _ _ 2 _ _ m06
        have y0 : w6.cell? ⟨w4.heap.size, 0, none⟩ = some (.int .i64 (1 + r2)) := cell_of_row _ _ 0 _ _ _ m46
        have y1 : w6.cell? ⟨w4.heap.size, 1, none⟩ = some (.int .i64 (1 + r3)) := cell_of_row _ _ 1 _ _ _ m46
        have y2 : w6.cell? ⟨w4.heap.size, 2, none⟩ = some (.int .i64 (1 + r4)) := cell_of_row _ _ 2 _ _ _ m46
        have x0 := frozen_of_row _ _ 0 _ _ m46
        have x1 := frozen_of_row _ _ 1 _ _ m46
        have x2 := frozen_of_row _ _ 2 _ _ m46
        clear m06 m46 hg6
        go_wp2_with fail
        refine bodyPost_ret (v := .agg #[.int .i64 (1 + r2), .int .i64 (1 + r3), .int .i64 (r6 * 5)]) (by simp [results, Try.results40, go_sem, *]) rfl ⟨⟨(1 + r2), (1 + r3), (r6 * 5)⟩, rfl, ⟨⟨_, by omega, ((((hr6.set (by simp; omega) _).set (by simp; omega) _).set (by simp; omega) _).set (by simp; omega) _)⟩, (grown_new (grown_new (grown_new (grown_new G6.out (by simp; omega) _) (by simp) _) (by simp) _) (by simp) _)⟩⟩
      · have e2 : (r5 == 2) = false := by simp [c2]
        clear c2
        have z0 : w5.cell? ⟨w.heap.size, 0, none⟩ = some (.int .i64 0) := cell_of_row _ _ 0 _ _ _ M05.out
        have z1 : w5.cell? ⟨w.heap.size, 1, none⟩ = some (.int .i64 0) := cell_of_row _ _ 1 _ _ _ M05.out
        have z2 : w5.cell? ⟨w.heap.size, 2, none⟩ = some (.int .i64 0) := cell_of_row _ _ 2 _ _ _ M05.out
        have f0 := frozen_of_row _ _ 0 _ _ M05.out
        have f1 := frozen_of_row _ _ 1 _ _ M05.out
        have f2 := frozen_of_row _ _ 2 _ _ M05.out
        have y0 : w5.cell? ⟨w4.heap.size, 0, none⟩ = some (.int .i64 (1 + r2)) := cell_of_row _ _ 0 _ _ _ M45.out
        have y1 : w5.cell? ⟨w4.heap.size, 1, none⟩ = some (.int .i64 (1 + r3)) := cell_of_row _ _ 1 _ _ _ M45.out
        have y2 : w5.cell? ⟨w4.heap.size, 2, none⟩ = some (.int .i64 (1 + r4)) := cell_of_row _ _ 2 _ _ _ M45.out
        have x0 := frozen_of_row _ _ 0 _ _ M45.out
        have x1 := frozen_of_row _ _ 1 _ _ M45.out
        have x2 := frozen_of_row _ _ 2 _ _ M45.out
        go_wp2_with fail
        refine bodyPost_ret (v := .agg #[.int .i64 (1 + r2), .int .i64 (1 + r3), .int .i64 (1 + r4)]) (by simp [results, Try.results40, go_sem, *]) rfl ⟨⟨(1 + r2), (1 + r3), (1 + r4)⟩, rfl, ⟨⟨_, by omega, (((hr5.set (by simp; omega) _).set (by simp; omega) _).set (by simp; omega) _)⟩, (grown_new (grown_new (grown_new G5.out (by simp) _) (by simp) _) (by simp) _)⟩⟩
end Go.Proofs.Ytfcjhpgohcbcaaa
