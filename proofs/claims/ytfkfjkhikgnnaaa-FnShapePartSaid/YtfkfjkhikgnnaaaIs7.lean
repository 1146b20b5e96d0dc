/- The program's shapes: what chapter 22's functions return. -/
import Derived.Test.YtfkfjkhikgnnaaaIs6
namespace Go.Proofs.Ytfkfjkhikgnnaaa
open Go.RowKit

theorem below_var {w w2 : World} {o : Obj} {c : Array Value} (k2 : Below w.heap.size w w2) : Below w.heap.size w ((w2.alloc o).setRow w2.heap.size c) := below_row (k2.alloc k2.size _) k2.size _
theorem var_at (w2 : World) (t : Nat) (o c : Array Value) : ((w2.alloc (.cells o t)).setRow w2.heap.size c).heap[w2.heap.size]? = some (.cells c t (0, 0)) := setRow_heap _ _ _ _ _ _ (heap_alloc_new _ _)
/-- A row that is read whole, under a guard that holds. -/
theorem wpList_load_want {P : Program} {ops : Array Oper} {rest : List Oper} {op : Oper} {a : Act} {w : World} {Q : Exit → Act → World → Prop} (hw : Region.wanted op (yielded ops a.tmps) = true) (ty : TypeId) (x : Operand) (ho : op.op = .load ty x)
    (g : Nat) (cs : Array Value) (hx : a.eval x = .pointer (some ⟨g, 0, none⟩)) (hl : (loadVar ty ⟨g, 0, none⟩).run P w = .ok (.agg cs) w)
    (h : wpList P ops Q rest (a.put op.dst (.agg cs)) w) : wpList P ops Q (op :: rest) a w := by
  unfold wpList
  rw [if_pos hw]
  unfold Oper.wp execOp
  simp only [ho, hx, Instr.loadAt, Instr.sureAddr, Sem.run_bind, Sem.run_pure, Result.andThen_ok, hl]
  exact .inl h
set_option maxHeartbeats 4000000 in
set_option maxRecDepth 100000 in
theorem iShValid_any (A : Option Addr) (cap : Nat) (L : List Sp) (w : World) (hr : Reads w w.heap.size 2 A L.length (cellsS L)) (hl : L.length ≤ 1000000000) :
    Calls Try.prog 26 #[.slice A L.length cap] w fun e w2 => e = .returned (.bool (okSh L)) ∧ Below w.heap.size w w2 := by
  have hV := iShapeOf_any A cap L w hr hl
  go_enter Try.func26, Try.ntmps26
  go_wp2_with (first
    | (go_at_call 47; go_must (refine hV.mono ?_); rintro e w2 ⟨c, q, rfl, k2, ⟨n, hz⟩, hok⟩)
    | (refine wpList_store_all rfl 57 _ _ rfl w2.heap.size 57 #[.int .i64 0, .int .i64 0, .int .i64 0, .int .i64 0, .int .i64 0, .int .i64 0, .int .i64 0, .int .i64 0, .int .i64 0, .int .i64 0, .int .i64 0, .int .i64 0, .int .i64 0, .int .i64 0, .int .i64 0, .int .i64 0, .int .i64 0] c rfl rfl (heap_alloc_new _ _) hz.info hz.sz.symm hz.one ?_))
  go_ret
  exact ⟨ret_bool rfl, below_var k2⟩
set_option maxHeartbeats 4000000 in
set_option maxRecDepth 100000 in
theorem iShArea_any (A : Option Addr) (cap : Nat) (L : List Sp) (w : World) (hr : Reads w w.heap.size 2 A L.length (cellsS L)) (hl : L.length ≤ 1000000000) :
    Calls Try.prog 20 #[.slice A L.length cap] w fun e w2 => e = .returned (.int .i64 (areaS L)) ∧ Below w.heap.size w w2 := by
  have hV := iShapeOf_any A cap L w hr hl
  unfold ShapeR at hV
  cases h1 : okSh L
  · rw [h1] at hV
    have H := Lib.hid (And.intro hV (by simp [areaS, h1] : areaS L = -1))
    clear hV h1 hr
    go_enter Try.func20, Try.ntmps20
    go_wp2_with (first
      | (go_at_call 47; go_must (refine H.out.1.mono ?_); rintro e w2 ⟨c, q, rfl, k2, ⟨n, hz⟩, hok⟩)
      | (refine wpList_store_all rfl 57 _ _ rfl w2.heap.size 57 #[.int .i64 0, .int .i64 0, .int .i64 0, .int .i64 0, .int .i64 0, .int .i64 0, .int .i64 0, .int .i64 0, .int .i64 0, .int .i64 0, .int .i64 0, .int .i64 0, .int .i64 0, .int .i64 0, .int .i64 0, .int .i64 0, .int .i64 0] c rfl rfl (heap_alloc_new _ _) hz.info hz.sz.symm hz.one ?_))
    go_ret
    exact ⟨ret_int H.out.2.symm, below_var k2⟩
  · rw [h1] at hV
    have H := Lib.hid (And.intro hV h1)
    clear hV h1 hr
    go_enter Try.func20, Try.ntmps20
    go_wp2_with (first
      | (go_at_call 47; go_must (refine H.out.1.mono ?_); rintro e w2 ⟨c, q, rfl, k2, ⟨n, hz⟩, hok⟩
         have K2 := Lib.hid (And.intro hz (And.intro (hok rfl) (below_var (o := .cells #[.int .i64 0, .int .i64 0, .int .i64 0, .int .i64 0, .int .i64 0, .int .i64 0, .int .i64 0, .int .i64 0, .int .i64 0, .int .i64 0, .int .i64 0, .int .i64 0, .int .i64 0, .int .i64 0, .int .i64 0, .int .i64 0, .int .i64 0] 57) (c := c) k2)))
         clear hz hok k2)
      | (refine wpList_store_all rfl 57 _ _ rfl w2.heap.size 57 #[.int .i64 0, .int .i64 0, .int .i64 0, .int .i64 0, .int .i64 0, .int .i64 0, .int .i64 0, .int .i64 0, .int .i64 0, .int .i64 0, .int .i64 0, .int .i64 0, .int .i64 0, .int .i64 0, .int .i64 0, .int .i64 0, .int .i64 0] c rfl rfl (heap_alloc_new _ _) K2.out.1.info K2.out.1.sz.symm K2.out.1.one ?_)
      | (refine wpList_load_row rfl 57 _ rfl w2.heap.size rfl 57 c _ _ (var_at _ _ _ _) Try.underlying57 rfl K2.out.1.info ?_)
      | (go_at_call 48; go_must (refine (iArea_any K2.out.2.1.1 K2.out.2.1.2 H.out.2 rfl _).mono ?_); rintro e w4 ⟨rfl, k4⟩))
    go_ret
    exact ⟨ret_int rfl, below_step K2.out.2.2 k4⟩
set_option maxHeartbeats 4000000 in
set_option maxRecDepth 100000 in
theorem iShCount_any (A : Option Addr) (cap : Nat) (L : List Sp) (w : World) (hr : Reads w w.heap.size 2 A L.length (cellsS L)) (hl : L.length ≤ 1000000000) :
    Calls Try.prog 35 #[.slice A L.length cap] w fun e w2 => e = .returned (.int .i64 (countS L)) ∧ Below w.heap.size w w2 := by
  have hV := iShapeOf_any A cap L w hr hl
  unfold ShapeR at hV
  cases h1 : okSh L
  · rw [h1] at hV
    have H := Lib.hid (And.intro hV (by simp [countS, h1] : countS L = -1))
    clear hV h1 hr
    go_enter Try.func35, Try.ntmps35
    go_wp2_with (first
      | (go_at_call 47; go_must (refine H.out.1.mono ?_); rintro e w2 ⟨c, q, rfl, k2, ⟨n, hz⟩, hok⟩)
      | (refine wpList_store_all rfl 57 _ _ rfl w2.heap.size 57 #[.int .i64 0, .int .i64 0, .int .i64 0, .int .i64 0, .int .i64 0, .int .i64 0, .int .i64 0, .int .i64 0, .int .i64 0, .int .i64 0, .int .i64 0, .int .i64 0, .int .i64 0, .int .i64 0, .int .i64 0, .int .i64 0, .int .i64 0] c rfl rfl (heap_alloc_new _ _) hz.info hz.sz.symm hz.one ?_))
    go_ret
    exact ⟨ret_int H.out.2.symm, below_var k2⟩
  · rw [h1] at hV
    have H := Lib.hid (And.intro hV h1)
    clear hV h1 hr
    go_enter Try.func35, Try.ntmps35
    go_wp2_with (first
      | (go_at_call 47; go_must (refine H.out.1.mono ?_); rintro e w2 ⟨c, q, rfl, k2, ⟨n, hz⟩, hok⟩
         have K2 := Lib.hid (And.intro hz (And.intro (hok rfl) (below_var (o := .cells #[.int .i64 0, .int .i64 0, .int .i64 0, .int .i64 0, .int .i64 0, .int .i64 0, .int .i64 0, .int .i64 0, .int .i64 0, .int .i64 0, .int .i64 0, .int .i64 0, .int .i64 0, .int .i64 0, .int .i64 0, .int .i64 0, .int .i64 0] 57) (c := c) k2)))
         clear hz hok k2)
      | (refine wpList_store_all rfl 57 _ _ rfl w2.heap.size 57 #[.int .i64 0, .int .i64 0, .int .i64 0, .int .i64 0, .int .i64 0, .int .i64 0, .int .i64 0, .int .i64 0, .int .i64 0, .int .i64 0, .int .i64 0, .int .i64 0, .int .i64 0, .int .i64 0, .int .i64 0, .int .i64 0, .int .i64 0] c rfl rfl (heap_alloc_new _ _) K2.out.1.info K2.out.1.sz.symm K2.out.1.one ?_)
      | (refine wpList_load_row rfl 57 _ rfl w2.heap.size rfl 57 c _ _ (var_at _ _ _ _) Try.underlying57 rfl K2.out.1.info ?_)
      | (go_at_call 60; go_must (refine (iPoints_any K2.out.2.1.1 K2.out.2.1.2 H.out.2 rfl _).mono ?_); rintro e w4 ⟨rfl, k4⟩))
    go_ret
    exact ⟨ret_int rfl, below_step K2.out.2.2 k4⟩
set_option maxHeartbeats 4000000 in
set_option maxRecDepth 100000 in
theorem iShHas_any (A : Option Addr) (cap : Nat) (L : List Sp) (p : Sp) (w : World) (hr : Reads w w.heap.size 2 A L.length (cellsS L)) (hl : L.length ≤ 1000000000) :
    Calls Try.prog 28 #[.slice A L.length cap, .agg #[.int .i64 p.lo, .int .i64 p.hi]] w fun e w2 => e = .returned (.bool (hasS L p)) ∧ Below w.heap.size w w2 := by
  obtain ⟨W1, hW1⟩ : ∃ W1, W1 = w.alloc (.cells #[.int .i64 p.lo, .int .i64 p.hi] 27) := ⟨_, rfl⟩
  have b1 : Below w.heap.size w W1 := by rw [hW1]; exact (Below.refl _ _).alloc (Nat.le_refl _) _
  have s1 : w.heap.size < W1.heap.size := by rw [hW1]; simp
  have g1 : W1.heap[w.heap.size]? = some (.cells #[.int .i64 p.lo, .int .i64 p.hi] 27 (0, 0)) := by rw [hW1]; exact heap_alloc_new _ _
  have f1 := cell_of_row _ _ 0 _ _ _ g1
  have f2 := cell_of_row _ _ 1 _ _ _ g1
  have hV := iShapeOf_any A cap L W1 (hr.step b1) hl
  unfold ShapeR at hV
  have cell : ∀ (W : World) (o : Nat), Below W1.heap.size W1 W → W.cell? ⟨w.heap.size, o, none⟩ = W1.cell? ⟨w.heap.size, o, none⟩ := fun W o hW => below_cell hW w.heap.size o s1
  cases h1 : okSh L
  · rw [h1] at hV
    have H := Lib.hid (And.intro hV (And.intro b1 (by simp [hasS, h1] : hasS L p = false)))
    clear hV h1 hr b1 g1 f1 f2 cell
    go_enter Try.func28, Try.ntmps28
    go_wp2_with (first
      | (go_at_call 47; rw [← hW1]; go_must (refine H.out.1.mono ?_); rintro e w2 ⟨c, q, rfl, k2, ⟨n, hz⟩, hok⟩)
      | (refine wpList_store_all rfl 57 _ _ rfl w2.heap.size 57 #[.int .i64 0, .int .i64 0, .int .i64 0, .int .i64 0, .int .i64 0, .int .i64 0, .int .i64 0, .int .i64 0, .int .i64 0, .int .i64 0, .int .i64 0, .int .i64 0, .int .i64 0, .int .i64 0, .int .i64 0, .int .i64 0, .int .i64 0] c rfl rfl (heap_alloc_new _ _) hz.info hz.sz.symm hz.one ?_))
    go_ret
    exact ⟨ret_bool H.out.2.2.symm, below_step H.out.2.1 (below_var k2)⟩
  · rw [h1] at hV
    cases h2 : inP p
    · have hP := iPoint_any p
      rw [h2] at hP
      have H := Lib.hid (And.intro hV (And.intro b1 (And.intro (by simp [hasS, h2] : hasS L p = false) (And.intro hP (And.intro cell (And.intro f1 f2))))))
      clear hV h1 hr b1 g1 f1 f2 cell h2 hP
      go_enter Try.func28, Try.ntmps28
      go_wp2_with (first
        | (go_at_call 47; rw [← hW1]; go_must (refine H.out.1.mono ?_); rintro e w2 ⟨c, q, rfl, k2, ⟨n, hz⟩, hok⟩
           have kv := below_var (o := .cells #[.int .i64 0, .int .i64 0, .int .i64 0, .int .i64 0, .int .i64 0, .int .i64 0, .int .i64 0, .int .i64 0, .int .i64 0, .int .i64 0, .int .i64 0, .int .i64 0, .int .i64 0, .int .i64 0, .int .i64 0, .int .i64 0, .int .i64 0] 57) (c := c) k2
           have d1 := (H.out.2.2.2.2.1 _ 0 kv).trans H.out.2.2.2.2.2.1
           have d2 := (H.out.2.2.2.2.1 _ 1 kv).trans H.out.2.2.2.2.2.2
           have K2 := Lib.hid (And.intro hz kv)
           clear hz hok k2 kv)
        | (refine wpList_store_all rfl 57 _ _ rfl w2.heap.size 57 #[.int .i64 0, .int .i64 0, .int .i64 0, .int .i64 0, .int .i64 0, .int .i64 0, .int .i64 0, .int .i64 0, .int .i64 0, .int .i64 0, .int .i64 0, .int .i64 0, .int .i64 0, .int .i64 0, .int .i64 0, .int .i64 0, .int .i64 0] c rfl rfl (heap_alloc_new _ _) K2.out.1.info K2.out.1.sz.symm K2.out.1.one ?_)
        | (go_at_call 53; go_must (refine (H.out.2.2.2.1 _).mono ?_); rintro e w3 ⟨rfl, k3⟩))
      go_ret
      exact ⟨ret_bool H.out.2.2.1.symm, below_step H.out.2.1 (below_step K2.out.2 k3)⟩
    · have hP := iPoint_any p
      rw [h2] at hP
      have H := Lib.hid (And.intro hV (And.intro b1 (And.intro (by simp [hasS, h1, h2] : hasS L p = hasB L.length (ptG L) p) (And.intro hP (And.intro cell (And.intro f1 (And.intro f2 (And.intro h1 (inP_sm h2)))))))))
      clear hV h1 hr b1 g1 f1 f2 cell h2 hP
      go_enter Try.func28, Try.ntmps28
      go_wp2_with (first
        | (go_at_call 47; rw [← hW1]; go_must (refine H.out.1.mono ?_); rintro e w2 ⟨c, q, rfl, k2, ⟨n, hz⟩, hok⟩
           have kv := below_var (o := .cells #[.int .i64 0, .int .i64 0, .int .i64 0, .int .i64 0, .int .i64 0, .int .i64 0, .int .i64 0, .int .i64 0, .int .i64 0, .int .i64 0, .int .i64 0, .int .i64 0, .int .i64 0, .int .i64 0, .int .i64 0, .int .i64 0, .int .i64 0] 57) (c := c) k2
           have d1 := (H.out.2.2.2.2.1 _ 0 kv).trans H.out.2.2.2.2.2.1
           have d2 := (H.out.2.2.2.2.1 _ 1 kv).trans H.out.2.2.2.2.2.2.1
           have K2 := Lib.hid (And.intro hz (And.intro kv (hok rfl)))
           clear hz hok k2 kv)
        | (refine wpList_store_all rfl 57 _ _ rfl w2.heap.size 57 #[.int .i64 0, .int .i64 0, .int .i64 0, .int .i64 0, .int .i64 0, .int .i64 0, .int .i64 0, .int .i64 0, .int .i64 0, .int .i64 0, .int .i64 0, .int .i64 0, .int .i64 0, .int .i64 0, .int .i64 0, .int .i64 0, .int .i64 0] c rfl rfl (heap_alloc_new _ _) K2.out.1.info K2.out.1.sz.symm K2.out.1.one ?_)
        | (go_at_call 53; go_must (refine (H.out.2.2.2.1 _).mono ?_); rintro e w3 ⟨rfl, k3⟩
           have kw := below_step K2.out.2.1 k3
           have d3 := (H.out.2.2.2.2.1 _ 0 kw).trans H.out.2.2.2.2.2.1
           have d4 := (H.out.2.2.2.2.1 _ 1 kw).trans H.out.2.2.2.2.2.2.1
           have r3 := (k3.block _ (Array.getElem?_eq_some_iff.1 (var_at w2 57 #[.int .i64 0, .int .i64 0, .int .i64 0, .int .i64 0, .int .i64 0, .int .i64 0, .int .i64 0, .int .i64 0, .int .i64 0, .int .i64 0, .int .i64 0, .int .i64 0, .int .i64 0, .int .i64 0, .int .i64 0, .int .i64 0, .int .i64 0] c)).1).trans (var_at w2 57 #[.int .i64 0, .int .i64 0, .int .i64 0, .int .i64 0, .int .i64 0, .int .i64 0, .int .i64 0, .int .i64 0, .int .i64 0, .int .i64 0, .int .i64 0, .int .i64 0, .int .i64 0, .int .i64 0, .int .i64 0, .int .i64 0, .int .i64 0] c)
           have K3 := Lib.hid (And.intro kw r3)
           clear k3 kw r3)
        | (refine wpList_load_want (by rfl) 57 _ (by rfl) w2.heap.size c (by rfl) (var_row K2.out.1 K3.out.2) ?_)
        | (go_at_call 54; go_must (refine (iHas_any K2.out.2.2.1 K2.out.2.2.2 H.out.2.2.2.2.2.2.2.1 rfl H.out.2.2.2.2.2.2.2.2 _).mono ?_); rintro e w4 ⟨rfl, k4⟩))
      go_ret
      exact ⟨ret_bool H.out.2.2.1.symm, below_step H.out.2.1 (below_step K3.out.1 k4)⟩
end Go.Proofs.Ytfkfjkhikgnnaaa
