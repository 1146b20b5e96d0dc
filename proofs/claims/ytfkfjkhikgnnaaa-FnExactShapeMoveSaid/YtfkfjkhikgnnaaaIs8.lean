/- The program's box of a list. -/
import Derived.Test.YtfkfjkhikgnnaaaIs7
namespace Go.Proofs.Ytfkfjkhikgnnaaa
open Go.RowKit

theorem boxS_ret {W : World} {g g2 : Nat} {a b c d t : Value} {tmps : Array Value} (h : W.heap[g]? = some (.cells #[a, b] 27 (0, 0))) (h' : W.heap[g2]? = some (.cells #[c, d] 27 (0, 0))) (h2 : tmps.getD 2 undef = .pointer (some ⟨g, 0, none⟩)) (h3 : tmps.getD 3 undef = .pointer (some ⟨g2, 0, none⟩)) (h4 : tmps.getD 4 undef = t) :
    (results Try.f23 tmps).run Try.prog W = .ok (.tuple #[.agg #[a, b], .agg #[c, d], t]) W := by
  rw [results_cct rfl, h2, h3, h4]
  have hl := run_loadVar_row (P := Try.prog) W g 27 27 #[a, b] (0, 0) _ h Try.underlying27 rfl (by kernel_rfl)
  have hl' := run_loadVar_row (P := Try.prog) W g2 27 27 #[c, d] (0, 0) _ h' Try.underlying27 rfl (by kernel_rfl)
  simp [asAddr, Result.andThen, hl, hl']
set_option maxHeartbeats 8000000 in
set_option maxRecDepth 100000 in
theorem iShBox_any (A : Option Addr) (cap : Nat) (L : List Sp) (w : World) (hr : Reads w w.heap.size 2 A L.length (cellsS L)) (hl : L.length ≤ 1000000000) :
    Calls Try.prog 23 #[.slice A L.length cap] w fun e w2 => e = .returned (.tuple #[.agg #[.int .i64 (boxA L).lo, .int .i64 (boxA L).hi], .agg #[.int .i64 (boxB L).lo, .int .i64 (boxB L).hi], .bool (okSh L)]) ∧ Below w.heap.size w w2 := by
  obtain ⟨W0, hW0⟩ : ∃ W0, W0 = (w.alloc (.cells #[.int .i64 0, .int .i64 0] 27)).alloc (.cells #[.int .i64 0, .int .i64 0] 27) := ⟨_, rfl⟩
  have b0 : Below w.heap.size w W0 := by rw [hW0]; exact ((Below.refl _ _).alloc (Nat.le_refl _) _).alloc (by simp) _
  have s0 : W0.heap.size = w.heap.size + 2 := by rw [hW0]; simp
  have g0 : W0.heap[w.heap.size]? = some (.cells #[.int .i64 0, .int .i64 0] 27 (0, 0)) := by
    rw [hW0]
    exact (Below.heap_alloc _ _ _ (by simp)).trans (heap_alloc_new _ _)
  have g1 : W0.heap[w.heap.size + 1]? = some (.cells #[.int .i64 0, .int .i64 0] 27 (0, 0)) := by
    rw [hW0]
    exact heap_alloc2_new _ _ _
  have hV := iShapeOf_any A cap L W0 (hr.step b0) hl
  unfold ShapeR at hV
  have rows : ∀ W : World, Below W0.heap.size W0 W → W.heap[w.heap.size]? = some (.cells #[.int .i64 0, .int .i64 0] 27 (0, 0)) ∧ W.heap[w.heap.size + 1]? = some (.cells #[.int .i64 0, .int .i64 0] 27 (0, 0)) :=
    fun W hW => ⟨(hW.block _ (by omega)).trans g0, (hW.block _ (by omega)).trans g1⟩
  cases h1 : okSh L
  · rw [h1] at hV
    have eA : boxA L = ⟨0, 0⟩ := by simp [boxA, h1]
    have eB : boxB L = ⟨0, 0⟩ := by simp [boxB, h1]
    have H := Lib.hid (And.intro hV (And.intro b0 (And.intro rows (And.intro eA eB))))
    clear hV b0 g0 g1 h1 hr eA eB rows
    go_enter Try.func23, Try.ntmps23
    go_wp2_with (first
      | (go_at_call 47; rw [← hW0]; go_must (refine H.out.1.mono ?_); rintro e w2 ⟨c, q, rfl, k2, ⟨n, hz⟩, hok⟩
         have kv := below_var (o := .cells #[.int .i64 0, .int .i64 0, .int .i64 0, .int .i64 0, .int .i64 0, .int .i64 0, .int .i64 0, .int .i64 0, .int .i64 0, .int .i64 0, .int .i64 0, .int .i64 0, .int .i64 0, .int .i64 0, .int .i64 0, .int .i64 0, .int .i64 0] 57) (c := c) k2
         obtain ⟨z1, z2⟩ := H.out.2.2.1 _ kv
         have x0 := cell_of_row _ _ 0 _ _ _ z1
         have x1 := cell_of_row _ _ 1 _ _ _ z1
         have x2 := frozen_of_row _ _ 0 _ _ z1
         have x3 := frozen_of_row _ _ 1 _ _ z1
         have y0 := cell_of_row _ _ 0 _ _ _ z2
         have y1 := cell_of_row _ _ 1 _ _ _ z2
         have y2 := frozen_of_row _ _ 0 _ _ z2
         have y3 := frozen_of_row _ _ 1 _ _ z2
         have K2 := Lib.hid (And.intro kv (And.intro z1 (And.intro z2 hz)))
         clear k2 kv z1 z2 hz hok)
      | (refine wpList_store_all rfl 57 _ _ rfl w2.heap.size 57 #[.int .i64 0, .int .i64 0, .int .i64 0, .int .i64 0, .int .i64 0, .int .i64 0, .int .i64 0, .int .i64 0, .int .i64 0, .int .i64 0, .int .i64 0, .int .i64 0, .int .i64 0, .int .i64 0, .int .i64 0, .int .i64 0, .int .i64 0] c rfl rfl (heap_alloc_new _ _) K2.out.2.2.2.info K2.out.2.2.2.sz.symm K2.out.2.2.2.one ?_))
    have e1 := (far2 (.int .i64 0) (.int .i64 0) (show w.heap.size ≠ w.heap.size + 1 by omega)).trans (cells2_at (.int .i64 0) (.int .i64 0) K2.out.2.1)
    have e2 := cells2_at (.int .i64 0) (.int .i64 0) ((far2 (.int .i64 0) (.int .i64 0) (show w.heap.size + 1 ≠ w.heap.size by omega)).trans K2.out.2.2.1)
    (try simp only [Exit.inBlock, Exit.then]); refine bodyPost_ret (boxS_ret e1 e2 rfl rfl rfl) rfl ?_
    refine ⟨?_, below_set2 (below_set2 (below_step H.out.2.1 K2.out.1) (Nat.le_refl _) _ _) (by omega) _ _⟩
    rw [H.out.2.2.2.1, H.out.2.2.2.2]
    rfl
  · rw [h1] at hV
    have eA : boxA L = boxLo L := by simp [boxA, h1]
    have eB : boxB L = boxHi L := by simp [boxB, h1]
    have H := Lib.hid (And.intro hV (And.intro b0 (And.intro rows (And.intro eA (And.intro eB h1)))))
    clear hV b0 g0 g1 h1 hr eA eB rows
    go_enter Try.func23, Try.ntmps23
    go_wp2_with (first
      | (go_at_call 47; rw [← hW0]; go_must (refine H.out.1.mono ?_); rintro e w2 ⟨c, q, rfl, k2, ⟨n, hz⟩, hok⟩
         have kv := below_var (o := .cells #[.int .i64 0, .int .i64 0, .int .i64 0, .int .i64 0, .int .i64 0, .int .i64 0, .int .i64 0, .int .i64 0, .int .i64 0, .int .i64 0, .int .i64 0, .int .i64 0, .int .i64 0, .int .i64 0, .int .i64 0, .int .i64 0, .int .i64 0] 57) (c := c) k2
         have K2 := Lib.hid (And.intro kv (And.intro (hok rfl) hz))
         clear k2 kv hz hok)
      | (refine wpList_store_all rfl 57 _ _ rfl w2.heap.size 57 #[.int .i64 0, .int .i64 0, .int .i64 0, .int .i64 0, .int .i64 0, .int .i64 0, .int .i64 0, .int .i64 0, .int .i64 0, .int .i64 0, .int .i64 0, .int .i64 0, .int .i64 0, .int .i64 0, .int .i64 0, .int .i64 0, .int .i64 0] c rfl rfl (heap_alloc_new _ _) K2.out.2.2.info K2.out.2.2.sz.symm K2.out.2.2.one ?_)
      | (refine wpList_load_row rfl 57 _ rfl w2.heap.size rfl 57 c _ _ (var_at _ _ _ _) Try.underlying57 rfl K2.out.2.2.info ?_)
      | (go_at_call 50; go_must (refine (iBox_any K2.out.2.1.1 K2.out.2.1.2 H.out.2.2.2.2.2 rfl _).mono ?_); rintro e w4 ⟨rfl, k4⟩
         have K4 := Lib.hid (And.intro (below_step H.out.2.1 (below_step K2.out.1 k4)) (H.out.2.2.1 _ (below_step K2.out.1 k4)))
         clear k4))
    obtain ⟨W5, hW5⟩ : ∃ W5, W5 = (w4.alloc (.cells #[.int .i64 (boxLo L).lo, .int .i64 (boxLo L).hi] 27)).alloc (.cells #[.int .i64 (boxHi L).lo, .int .i64 (boxHi L).hi] 27) := ⟨_, rfl⟩
    have b5 : Below w4.heap.size w4 W5 := by rw [hW5]; exact ((Below.refl _ _).alloc (Nat.le_refl _) _).alloc (by simp) _
    have u0 : W5.heap[w4.heap.size]? = some (.cells #[.int .i64 (boxLo L).lo, .int .i64 (boxLo L).hi] 27 (0, 0)) := by
      rw [hW5]
      exact heap_alloc2_old _ _ _
    have u1 : W5.heap[w4.heap.size + 1]? = some (.cells #[.int .i64 (boxHi L).lo, .int .i64 (boxHi L).hi] 27 (0, 0)) := by
      rw [hW5]
      exact heap_alloc2_new _ _ _
    rw [← hW5]
    clear hW5
    have l1 := (Array.getElem?_eq_some_iff.1 K4.out.2.1).1
    have l2 := (Array.getElem?_eq_some_iff.1 K4.out.2.2).1
    have z1 := (b5.block _ l1).trans K4.out.2.1
    have z2 := (b5.block _ l2).trans K4.out.2.2
    have f0 := cell_of_row _ _ 0 _ _ _ u0
    have f1 := cell_of_row _ _ 1 _ _ _ u0
    have f2 := cell_of_row _ _ 0 _ _ _ u1
    have f3 := cell_of_row _ _ 1 _ _ _ u1
    have x0 := cell_of_row _ _ 0 _ _ _ z1
    have x1 := cell_of_row _ _ 1 _ _ _ z1
    have x2 := frozen_of_row _ _ 0 _ _ z1
    have x3 := frozen_of_row _ _ 1 _ _ z1
    have y0 := cell_of_row _ _ 0 _ _ _ z2
    have y1 := cell_of_row _ _ 1 _ _ _ z2
    have y2 := frozen_of_row _ _ 0 _ _ z2
    have y3 := frozen_of_row _ _ 1 _ _ z2
    have K5 := Lib.hid (And.intro (below_step K4.out.1 b5) (And.intro z1 z2))
    clear b5 u0 u1 z1 z2
    go_region
    go_wp2_with fail
    have e1 := (far2 (.int .i64 (boxHi L).lo) (.int .i64 (boxHi L).hi) (show w.heap.size ≠ w.heap.size + 1 by omega)).trans (cells2_at (.int .i64 (boxLo L).lo) (.int .i64 (boxLo L).hi) K5.out.2.1)
    have e2 := cells2_at (.int .i64 (boxHi L).lo) (.int .i64 (boxHi L).hi) ((far2 (.int .i64 (boxLo L).lo) (.int .i64 (boxLo L).hi) (show w.heap.size + 1 ≠ w.heap.size by omega)).trans K5.out.2.2)
    (try simp only [Exit.inBlock, Exit.then]); refine bodyPost_ret (boxS_ret e1 e2 rfl rfl rfl) rfl ?_
    refine ⟨?_, below_draws (below_set2 (below_set2 K5.out.1 (Nat.le_refl _) _ _) (by omega) _ _) 1⟩
    rw [H.out.2.2.2.1, H.out.2.2.2.2.1]
    rfl
end Go.Proofs.Ytfkfjkhikgnnaaa
