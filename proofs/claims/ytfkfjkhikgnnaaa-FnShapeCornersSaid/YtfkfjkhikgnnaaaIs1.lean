/- The program's shapes as values: turns, the next corner, the turn at a side. -/
import Derived.Test.YtfkfjkhikgnnaaaSh3
import Derived.Test.YtfkfjkhikgnnaaaGe5
namespace Go.Proofs.Ytfkfjkhikgnnaaa
open Go.RowKit

/-- The cells of a shape: eight points, then its number of corners. -/
structure ShC (c : Array Value) (q : Nat → Sp) (n : Nat) : Prop where
  sz : c.size = 17
  pt : ∀ k, k < 8 → c[k * 2]? = some (.int .i64 (q k).lo) ∧ c[k * 2 + 1]? = some (.int .i64 (q k).hi)
  ct : c[16]? = some (.int .i64 (n : Int))
/-- The points of a list lie in front. -/
def Fits (q : Nat → Sp) (L : List Sp) : Prop := ∀ k, k < L.length → q k = ptG L k
theorem ShC.info {c : Array Value} {q : Nat → Sp} {n : Nat} (h : ShC c q n) : (Try.prog.info? 57).map (·.size) = some c.size := by
  rw [h.sz]
  kernel_rfl
section
variable {c : Array Value} {q : Nat → Sp} {n g t : Nat} {W : World}
theorem ShC.cells (h : ShC c q n) (hg : W.heap[g]? = some (.cells c t (0, 0))) (k : Nat) (hk : k < 8) : W.cell? ⟨g, k * 2, none⟩ = some (.int .i64 (q k).lo) ∧ W.cell? ⟨g, k * 2 + 1, none⟩ = some (.int .i64 (q k).hi) :=
  ⟨(cell_of_row _ _ _ _ _ _ hg).trans (h.pt k hk).1, (cell_of_row _ _ _ _ _ _ hg).trans (h.pt k hk).2⟩
theorem ShC.count (h : ShC c q n) (hg : W.heap[g]? = some (.cells c t (0, 0))) : W.cell? ⟨g, 16, none⟩ = some (.int .i64 (n : Int)) := (cell_of_row _ _ _ _ _ _ hg).trans h.ct
end
/-- A row that is read whole, where only memory is made. -/
theorem quiet_load_row {P : Program} {C : World → Prop} {K : Act → Prop} {o : Oper} {a : Act} (ty : TypeId) (x : Operand) (g t : Nat) (cs : Array Value) (d : TypeDesc) (ho : o.op = .load ty x) (hx : a.eval x = .pointer (some ⟨g, 0, none⟩))
    (hC : ∀ w, C w → w.heap[g]? = some (.cells cs t (0, 0))) (hu : P.underlying ty = some d) (hd : (match d with | .struct _ | .array _ _ => true | _ => false) = true) (hi : (P.info? ty).map (·.size) = some cs.size)
    (h : K (a.put o.dst (.agg cs))) : o.quiet P a C K := by
  refine ⟨.agg cs, fun w hw => ?_, h⟩
  unfold Oper.quietAt execOp
  simp only [ho, hx, Instr.loadAt, Instr.sureAddr, Sem.run_bind, Sem.run_pure, Result.andThen_ok, run_loadVar_row w g t ty cs (0, 0) d (hC w hw) hu hd hi]
  exact ⟨rfl, rfl⟩
theorem ext_row {B : Nat} {w : World} {b t : Nat} {c : Array Value} (hb : b < B) (hg : w.heap[b]? = some (.cells c t (0, 0))) (w2 : World) (h : ∃ x : Ext B w, w2 = x.val) : w2.heap[b]? = some (.cells c t (0, 0)) := by
  obtain ⟨x, rfl⟩ := h
  exact (x.below.block b hb).trans hg
theorem iTurn_any (a b c : Sp) (w : World) :
    Calls Try.prog 67 #[.agg #[.int .i64 a.lo, .int .i64 a.hi], .agg #[.int .i64 b.lo, .int .i64 b.hi], .agg #[.int .i64 c.lo, .int .i64 c.hi]] w fun e w2 => e = .returned (.int .i64 (turnW a b c)) ∧ Below w.heap.size w w2 := by
  have hb := (((Below.refl w.heap.size w).alloc (Nat.le_refl _) (.cells #[.int .i64 a.lo, .int .i64 a.hi] 27)).alloc (by simp) (.cells #[.int .i64 b.lo, .int .i64 b.hi] 27)).alloc (by simp; omega) (.cells #[.int .i64 c.lo, .int .i64 c.hi] 27)
  have HB := Lib.hid hb
  clear hb
  go_enter Try.func67, Try.ntmps67
  go_wp2_with fail
  go_ret
  exact ⟨ret_int rfl, HB.out⟩
theorem iTurnG_any {a b c : Sp} (ha : smP a) (hb : smP b) (hc : smP c) (w : World) :
    Calls Try.prog 67 #[.agg #[.int .i64 a.lo, .int .i64 a.hi], .agg #[.int .i64 b.lo, .int .i64 b.hi], .agg #[.int .i64 c.lo, .int .i64 c.hi]] w fun e w2 => e = .returned (.int .i64 (turnG a b c)) ∧ Below w.heap.size w w2 := by
  rw [← turnW_sm ha hb hc]
  exact iTurn_any a b c w
theorem iNext_any {c : Array Value} {q : Nat → Sp} {n : Nat} (h : ShC c q n) (i : Nat) (hi : i < n) (hn : n ≤ 8) (w : World) :
    Calls Try.prog 66 #[.agg c, .int .i64 (i : Int)] w fun e w2 => e = .returned (.int .i64 (((i + 1) % n : Nat) : Int)) ∧ Below w.heap.size w w2 := by
  have hb := (Below.refl w.heap.size w).alloc (Nat.le_refl _) (.cells c 57)
  have f1 := h.ct
  have hnz : ((n : Int) == 0) = false := by rw [beq_eq_false_iff_ne]; omega
  obtain ⟨r, hr⟩ : ∃ r, r = (i + 1) % n := ⟨_, rfl⟩
  have hrm : ((i : Int) + 1) % (n : Int) = (r : Int) := by rw [hr]; rfl
  rw [← hr]
  have H := Lib.hid hb
  clear hb h hr
  go_enter Try.func66, Try.ntmps66
  go_wp2_with fail
  go_ret
  exact ⟨ret_int hrm, H.out⟩
set_option maxHeartbeats 4000000 in
set_option maxRecDepth 100000 in
theorem iTurnAt_any {c : Array Value} {q : Nat → Sp} {n : Nat} (h : ShC c q n) (hn : n ≤ 8) (i r : Nat) (hi : i < n) (hr : r = (i + 1) % n) (p : Sp) (w : World) :
    Calls Try.prog 64 #[.agg c, .int .i64 (i : Int), .agg #[.int .i64 p.lo, .int .i64 p.hi]] w fun e w2 => e = .returned (.int .i64 (turnW (q i) (q r) p)) ∧ Below w.heap.size w w2 := by
  obtain ⟨W1, hW1⟩ : ∃ W1, W1 = (w.alloc (.cells c 57)).alloc (.cells #[.int .i64 p.lo, .int .i64 p.hi] 27) := ⟨_, rfl⟩
  have b1 : Below w.heap.size w W1 := by rw [hW1]; exact ((Below.refl _ _).alloc (Nat.le_refl _) _).alloc (by simp) _
  have s1 : W1.heap.size = w.heap.size + 2 := by rw [hW1]; simp
  have g0 : W1.heap[w.heap.size]? = some (.cells c 57 (0, 0)) := by
    rw [hW1]
    exact (Below.heap_alloc _ _ _ (by simp)).trans (heap_alloc_new _ _)
  have g1 : W1.heap[w.heap.size + 1]? = some (.cells #[.int .i64 p.lo, .int .i64 p.hi] 27 (0, 0)) := by
    rw [hW1]
    exact heap_alloc2_new _ _ _
  have hrl : r < n := by rw [hr]; exact Nat.mod_lt _ (by omega)
  obtain ⟨N, hN⟩ : ∃ N, N = w.heap.size := ⟨_, rfl⟩
  have hx0 := ext_cell (w := W1) (show N < W1.heap.size by omega)
  have hx1 := ext_cell (w := W1) (show N + 1 < W1.heap.size by omega)
  rw [← hN] at g0 g1
  obtain ⟨d1, d2⟩ := h.cells g0 i (by omega)
  obtain ⟨d3, d4⟩ := h.cells g0 r (by omega)
  have d5 := cell_of_row _ _ 0 _ _ _ g1
  have d6 := cell_of_row _ _ 1 _ _ _ g1
  have hrow := ext_row (show N < W1.heap.size by omega) g0
  have hT := fun W => iTurn_any (q i) (q r) p W
  have hX := fun W => iNext_any h i hi hn W
  rw [← hr] at hX
  have hi8 : (i : Int) < 8 := by omega
  have hr8 : (r : Int) < 8 := by omega
  have H := Lib.hid (And.intro hT (And.intro hX (And.intro b1 (And.intro hrow h.info))))
  clear hT hX b1 hr hrl g0 g1 s1 hrow h
  go_enter Try.func64, Try.ntmps64
  go_wp2_with fail
  rw [← hW1, ← hN]
  clear hW1 hN
  refine wp_region_ext W1.heap.size (by kernel_rfl) (by kernel_rfl) ?_
  repeat (first
    | (go_big_quiet_want
       refine quiet_load_row 57 _ N 57 c _ rfl rfl H.out.2.2.2.1 Try.underlying57 rfl H.out.2.2.2.2 ?_
       simp [go_sem]
       go_big_quiet_on)
    | go_big_quiet_step (first
      | (go_at_call 66; exact calls_ext (Nat.le_refl _) (H.out.2.1 _))
      | (go_at_call 67; exact calls_ext (Nat.le_refl _) (H.out.1 _))))
  refine wpQuiet_nil ?_
  rintro _ ⟨x9, rfl⟩
  have HY := Lib.hid (below_step H.out.2.2.1 x9.below)
  clear hx0 hx1 d1 d2 d3 d4 d5 d6
  go_wp2_with fail
  go_ret
  exact ⟨ret_int rfl, HY.out⟩
end Go.Proofs.Ytfkfjkhikgnnaaa
