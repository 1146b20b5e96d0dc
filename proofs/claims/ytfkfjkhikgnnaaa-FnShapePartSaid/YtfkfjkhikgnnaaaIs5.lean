/- The program's valid points, and shapes of lists. -/
import Derived.Test.YtfkfjkhikgnnaaaIs4
import Derived.Test.YtfkfjkhikgnnaaaQt
namespace Go.Proofs.Ytfkfjkhikgnnaaa
open Go.RowKit

theorem iInP_any (n lo hi : Int) (w : World) :
    Calls Try.prog 57 #[.int .i64 n, .int .i64 lo, .int .i64 hi] w fun e w2 => e = .returned (.bool (inR n lo hi)) ∧ w = w2 := by
  go_enter Try.func57, Try.ntmps57
  go_wp2
  all_goals (go_ret; refine ⟨?_, rfl⟩; simp [inR]; try omega)
theorem iPoint_any (p : Sp) (w : World) :
    Calls Try.prog 53 #[.agg #[.int .i64 p.lo, .int .i64 p.hi]] w fun e w2 => e = .returned (.bool (inP p)) ∧ Below w.heap.size w w2 := by
  have hb := (Below.refl w.heap.size w).alloc (Nat.le_refl _) (.cells #[.int .i64 p.lo, .int .i64 p.hi] 27)
  have hi : inP p = (inR p.lo 0 99 && inR p.hi 0 99) := rfl
  cases q1 : inR p.lo 0 99
  · rw [q1] at hi
    have H := Lib.hid (And.intro hi hb)
    clear hi hb
    go_enter Try.func53, Try.ntmps53
    go_wp2_with (go_at_call 57; go_must (refine (iInP_any _ _ _ _).mono ?_); rintro e w2 ⟨rfl, rfl⟩)
    go_ret
    exact ⟨ret_bool (by rw [H.out.1]; rfl), H.out.2⟩
  · rw [q1] at hi
    have H := Lib.hid (And.intro hi hb)
    clear hi hb
    go_enter Try.func53, Try.ntmps53
    go_wp2_with (go_at_call 57; go_must (refine (iInP_any _ _ _ _).mono ?_); rintro e w2 ⟨rfl, rfl⟩)
    go_ret
    exact ⟨ret_bool (by rw [H.out.1]; simp), H.out.2⟩
/-- A row that is stored whole, where an operation may be left out. -/
theorem step_store_row {P : Program} {ops : Array Oper} {op : Oper} {a : Act} {w : World} {K : Act → World → Prop} {Q : Exit → Act → World → Prop} {E : Prop} (hw : Region.wanted op (yielded ops a.tmps) = true) (ty : TypeId) (x y : Operand) (ho : op.op = .store ty x y)
    (g t : Nat) (old cells : Array Value) (hx : a.eval x = .pointer (some ⟨g, 0, none⟩)) (hy : a.eval y = .agg cells)
    (hg : w.heap[g]? = some (.cells old t (0, 0))) (hi : (P.info? ty).map (·.size) = some cells.size) (hs : old.size = cells.size) (h1 : cells.all (·.oneCell') = true)
    (h : K (a.put op.dst undef) (w.setRow g cells)) : if Region.wanted op (yielded ops a.tmps) = true then op.wp P a w K Q else E := by
  rw [if_pos hw]
  unfold Oper.wp execOp
  simp only [ho, hx, hy, Instr.storeAt, Instr.sureAddr, Sem.run_bind, Sem.run_pure, Result.andThen_ok, run_storeVar_row w g t ty old cells hg hi hs h1]
  exact h
theorem load_row {W : World} {g t : Nat} {c : Array Value} {q : Nat → Sp} {n : Nat} (h : ShC c q n) (hg : W.heap[g]? = some (.cells c t (0, 0))) : (Instr.loadAt 57 (.pointer (some ⟨g, 0, none⟩))).run Try.prog W = .ok (.agg c) W := by
  simp only [Instr.loadAt, Instr.sureAddr, Sem.run_bind, Sem.run_pure, Result.andThen_ok, run_loadVar_row W g t 57 c (0, 0) _ hg Try.underlying57 rfl h.info]
/-- What shapeOf returns. -/
def ShapeR (L : List Sp) (w : World) (e : Ending) (w2 : World) : Prop :=
  ∃ c q, e = .returned (.tuple #[.agg c, .bool (okSh L)]) ∧ Below w.heap.size w w2 ∧ (∃ n, ShC c q n) ∧ (okSh L = true → ShC c q L.length ∧ Fits q L)
theorem zero_sh : ShC #[.int .i64 0, .int .i64 0, .int .i64 0, .int .i64 0, .int .i64 0, .int .i64 0, .int .i64 0, .int .i64 0, .int .i64 0, .int .i64 0, .int .i64 0, .int .i64 0, .int .i64 0, .int .i64 0, .int .i64 0, .int .i64 0, .int .i64 0] (fun _ => ⟨0, 0⟩) 0 := ⟨rfl, fun k hk => by
  match k, hk with
  | 0, _ => exact ⟨rfl, rfl⟩
  | 1, _ => exact ⟨rfl, rfl⟩
  | 2, _ => exact ⟨rfl, rfl⟩
  | 3, _ => exact ⟨rfl, rfl⟩
  | 4, _ => exact ⟨rfl, rfl⟩
  | 5, _ => exact ⟨rfl, rfl⟩
  | 6, _ => exact ⟨rfl, rfl⟩
  | 7, _ => exact ⟨rfl, rfl⟩, rfl⟩
theorem num_sh (n : Nat) : ShC #[.int .i64 0, .int .i64 0, .int .i64 0, .int .i64 0, .int .i64 0, .int .i64 0, .int .i64 0, .int .i64 0, .int .i64 0, .int .i64 0, .int .i64 0, .int .i64 0, .int .i64 0, .int .i64 0, .int .i64 0, .int .i64 0, .int .i64 (n : Int)] (fun _ => ⟨0, 0⟩) n := ⟨rfl, fun k hk => by
  match k, hk with
  | 0, _ => exact ⟨rfl, rfl⟩
  | 1, _ => exact ⟨rfl, rfl⟩
  | 2, _ => exact ⟨rfl, rfl⟩
  | 3, _ => exact ⟨rfl, rfl⟩
  | 4, _ => exact ⟨rfl, rfl⟩
  | 5, _ => exact ⟨rfl, rfl⟩
  | 6, _ => exact ⟨rfl, rfl⟩
  | 7, _ => exact ⟨rfl, rfl⟩, rfl⟩
theorem shapeR_no {L : List Sp} {w w2 : World} (h : okSh L = false) (hb : Below w.heap.size w w2) : ShapeR L w (.returned (.tuple #[.agg #[.int .i64 0, .int .i64 0, .int .i64 0, .int .i64 0, .int .i64 0, .int .i64 0, .int .i64 0, .int .i64 0, .int .i64 0, .int .i64 0, .int .i64 0, .int .i64 0, .int .i64 0, .int .i64 0, .int .i64 0, .int .i64 0, .int .i64 0], .bool false])) w2 :=
  ⟨#[.int .i64 0, .int .i64 0, .int .i64 0, .int .i64 0, .int .i64 0, .int .i64 0, .int .i64 0, .int .i64 0, .int .i64 0, .int .i64 0, .int .i64 0, .int .i64 0, .int .i64 0, .int .i64 0, .int .i64 0, .int .i64 0, .int .i64 0], fun _ => ⟨0, 0⟩, by rw [h], hb, ⟨0, zero_sh⟩, fun e => by rw [h] at e; cases e⟩
theorem results_ct {fn : Func} {p r : Tmp} {ty : TypeId} (h : fn.results = #[.cell p ty, .tmp r]) (tmps : Array Value) (w : World) (g : Nat) (x v : Value)
    (hp : tmps.getD p undef = .pointer (some ⟨g, 0, none⟩)) (hr : tmps.getD r undef = v) (hg : (loadVar ty ⟨g, 0, none⟩).run Try.prog w = .ok x w) :
    (results fn tmps).run Try.prog w = .ok (.tuple #[x, v]) w := by
  have hp' : tmps[p]?.getD undef = .pointer (some ⟨g, 0, none⟩) := by simpa using hp
  have hr' : tmps[r]?.getD undef = v := by simpa using hr
  simp [results, h, hp', hr', asAddr, hg]
theorem var_row {W : World} {g t : Nat} {c : Array Value} {q : Nat → Sp} {n : Nat} (h : ShC c q n) (hg : W.heap[g]? = some (.cells c t (0, 0))) : (loadVar 57 ⟨g, 0, none⟩).run Try.prog W = .ok (.agg c) W :=
  run_loadVar_row W g t 57 c (0, 0) _ hg Try.underlying57 rfl h.info
theorem fits_none (q : Nat → Sp) : ∀ j, j < 0 → q j = zeroS := fun _ h => absurd h (by omega)
set_option maxHeartbeats 8000000 in
set_option maxRecDepth 100000 in
theorem iShapeOf_any (A : Option Addr) (cap : Nat) (L : List Sp) (w : World) (hr : Reads w w.heap.size 2 A L.length (cellsS L)) (hl : L.length ≤ 1000000000) :
    Calls Try.prog 47 #[.slice A L.length cap] w (ShapeR L w) := by
  have hI := fun W => iInP_any (L.length : Int) 3 8 W
  obtain ⟨W0, hW0⟩ : ∃ W0, W0 = w.alloc (.cells #[.int .i64 0, .int .i64 0, .int .i64 0, .int .i64 0, .int .i64 0, .int .i64 0, .int .i64 0, .int .i64 0, .int .i64 0, .int .i64 0, .int .i64 0, .int .i64 0, .int .i64 0, .int .i64 0, .int .i64 0, .int .i64 0, .int .i64 0] 57) := ⟨_, rfl⟩
  have b0 : Below w.heap.size w W0 := by rw [hW0]; exact (Below.refl _ _).alloc (Nat.le_refl _) _
  have g0 : (w.alloc (.cells #[.int .i64 0, .int .i64 0, .int .i64 0, .int .i64 0, .int .i64 0, .int .i64 0, .int .i64 0, .int .i64 0, .int .i64 0, .int .i64 0, .int .i64 0, .int .i64 0, .int .i64 0, .int .i64 0, .int .i64 0, .int .i64 0, .int .i64 0] 57)).heap[w.heap.size]? = some (.cells #[.int .i64 0, .int .i64 0, .int .i64 0, .int .i64 0, .int .i64 0, .int .i64 0, .int .i64 0, .int .i64 0, .int .i64 0, .int .i64 0, .int .i64 0, .int .i64 0, .int .i64 0, .int .i64 0, .int .i64 0, .int .i64 0, .int .i64 0] 57 (0, 0)) := heap_alloc_new _ _
  cases q1 : inR (L.length : Int) 3 8
  · rw [q1] at hI
    have H := Lib.hid (And.intro hI (And.intro (okSh_len q1) (And.intro b0 g0)))
    rw [hW0] at H
    clear hI q1 hr b0 g0 hW0
    go_enter Try.func47, Try.ntmps47
    go_wp2_with (first
      | (refine wpList_store_all rfl 57 _ _ rfl w.heap.size 57 #[.int .i64 0, .int .i64 0, .int .i64 0, .int .i64 0, .int .i64 0, .int .i64 0, .int .i64 0, .int .i64 0, .int .i64 0, .int .i64 0, .int .i64 0, .int .i64 0, .int .i64 0, .int .i64 0, .int .i64 0, .int .i64 0, .int .i64 0] #[.int .i64 0, .int .i64 0, .int .i64 0, .int .i64 0, .int .i64 0, .int .i64 0, .int .i64 0, .int .i64 0, .int .i64 0, .int .i64 0, .int .i64 0, .int .i64 0, .int .i64 0, .int .i64 0, .int .i64 0, .int .i64 0, .int .i64 0] rfl rfl H.out.2.2.2 zero_sh.info rfl zero_sh.one ?_)
      | (go_at_call 57; go_must (refine (H.out.1 _).mono ?_); rintro e w2 ⟨rfl, rfl⟩))
    have e1 := setRow_heap _ w.heap.size _ #[.int .i64 0, .int .i64 0, .int .i64 0, .int .i64 0, .int .i64 0, .int .i64 0, .int .i64 0, .int .i64 0, .int .i64 0, .int .i64 0, .int .i64 0, .int .i64 0, .int .i64 0, .int .i64 0, .int .i64 0, .int .i64 0, .int .i64 0] _ _ H.out.2.2.2
    (try simp only [Exit.inBlock, Exit.then]); refine bodyPost_ret (results_ct rfl _ _ w.heap.size _ (.bool false) rfl rfl (var_row zero_sh e1)) rfl ?_
    exact shapeR_no H.out.2.1 (below_row H.out.2.2.1 (Nat.le_refl _) _)
  · rw [q1] at hI
    have hn : 3 ≤ L.length ∧ L.length ≤ 8 := by
      simp only [inR, Bool.and_eq_true, decide_eq_true_eq] at q1
      omega
    obtain ⟨n3, n8⟩ := hn
    obtain ⟨W1, hW1⟩ : ∃ W1, W1 = W0.alloc (.cells #[.int .i64 0, .int .i64 0, .int .i64 0, .int .i64 0, .int .i64 0, .int .i64 0, .int .i64 0, .int .i64 0, .int .i64 0, .int .i64 0, .int .i64 0, .int .i64 0, .int .i64 0, .int .i64 0, .int .i64 0, .int .i64 0, .int .i64 (L.length : Int)] 57) := ⟨_, rfl⟩
    rw [hW0] at hW1 b0
    have b1 : Below w.heap.size w W1 := by rw [hW1]; exact b0.alloc b0.size _
    have s1 : W1.heap.size = w.heap.size + 2 := by rw [hW1]; simp
    have y0 : W1.heap[w.heap.size]? = some (.cells #[.int .i64 0, .int .i64 0, .int .i64 0, .int .i64 0, .int .i64 0, .int .i64 0, .int .i64 0, .int .i64 0, .int .i64 0, .int .i64 0, .int .i64 0, .int .i64 0, .int .i64 0, .int .i64 0, .int .i64 0, .int .i64 0, .int .i64 0] 57 (0, 0)) := by
      rw [hW1]
      exact (Below.heap_alloc _ _ _ (by simp)).trans g0
    have y1 : W1.heap[w.heap.size + 1]? = some (.cells #[.int .i64 0, .int .i64 0, .int .i64 0, .int .i64 0, .int .i64 0, .int .i64 0, .int .i64 0, .int .i64 0, .int .i64 0, .int .i64 0, .int .i64 0, .int .i64 0, .int .i64 0, .int .i64 0, .int .i64 0, .int .i64 0, .int .i64 (L.length : Int)] 57 (0, 0)) := by
      rw [hW1]
      exact heap_alloc2_new _ _ _
    have H := Lib.hid (And.intro hI (And.intro q1 (And.intro hr (And.intro b1 (And.intro y0 y1)))))
    clear hI q1 hr b0 b1 g0 y0 y1 hW0
    go_enter Try.func47, Try.ntmps47
    go_wp2_with (go_at_call 57; go_must (refine (H.out.1 _).mono ?_); rintro e w2 ⟨rfl, rfl⟩)
    rw [← hW1]
    clear hW1
    go_loopw [17] (fun i wr => ∃ k c q, k ≤ L.length ∧ i = .int .i64 (k : Int) ∧ Below w.heap.size w wr ∧ wr.heap[w.heap.size]? = some (.cells #[.int .i64 0, .int .i64 0, .int .i64 0, .int .i64 0, .int .i64 0, .int .i64 0, .int .i64 0, .int .i64 0, .int .i64 0, .int .i64 0, .int .i64 0, .int .i64 0, .int .i64 0, .int .i64 0, .int .i64 0, .int .i64 0, .int .i64 0] 57 (0, 0)) ∧ wr.heap[w.heap.size + 1]? = some (.cells c 57 (0, 0)) ∧ ShC c q L.length ∧ ∀ j, j < k → q j = ptG L j ∧ inP (ptG L j) = true) (fun i _ => L.length - (intOf i).toNat)
    case atStart => exact ⟨0, _, _, Nat.zero_le _, rfl, H.out.2.2.2.1, H.out.2.2.2.2.1, H.out.2.2.2.2.2, num_sh _, fun j hj => absurd hj (by omega)⟩
    case round =>
      obtain ⟨k, c, q, hk, rfl, hbl, r0, r1, hs, hd⟩ := hrel
      have hwz := hbl.size
      have hlt1 := (Array.getElem?_eq_some_iff.1 r1).1
      by_cases hlt : k < L.length
      · have hki : (k : Int) < (L.length : Int) := by omega
        have hk8 : (k : Int) < 8 := by omega
        obtain ⟨b, off, hA, hbb, hc⟩ := (H.out.2.2.1.step hbl).corner (by omega)
        subst hA
        obtain ⟨d1, d2⟩ := hc k hlt
        obtain ⟨p, hp⟩ : ∃ p, p = ptG L k := ⟨_, rfl⟩
        rw [← hp] at d1 d2
        obtain ⟨W2, hW2⟩ : ∃ W2, W2 = wr.alloc (.cells #[.int .i64 p.lo, .int .i64 p.hi] 27) := ⟨_, rfl⟩
        have b2 : Below wr.heap.size wr W2 := by rw [hW2]; exact (Below.refl _ _).alloc (Nat.le_refl _) _
        have s2 : wr.heap.size < W2.heap.size := by rw [hW2]; simp
        have p2 : W2.heap[wr.heap.size]? = some (.cells #[.int .i64 p.lo, .int .i64 p.hi] 27 (0, 0)) := by rw [hW2]; exact heap_alloc_new _ _
        have hP := iPoint_any p W2
        rw [hW2] at hP
        have HR := Lib.hid (And.intro (b2.block _ (show w.heap.size < wr.heap.size by omega) |>.trans r0) (And.intro (b2.block _ hlt1 |>.trans r1) (And.intro p2 (And.intro hbl (And.intro b2 (And.intro hs (And.intro hd hW2)))))))
        cases q2 : inP p
        · rw [q2] at hP
          have HX := Lib.hid (And.intro hP (okSh_point (by rw [← hp]; exact q2)))
          clear hP q2 hbl r0 r1 hs hd hc hp p2 b2 hW2
          go_wp2_with (first
            | (refine wpList_store_all rfl 57 _ _ rfl w.heap.size 57 #[.int .i64 0, .int .i64 0, .int .i64 0, .int .i64 0, .int .i64 0, .int .i64 0, .int .i64 0, .int .i64 0, .int .i64 0, .int .i64 0, .int .i64 0, .int .i64 0, .int .i64 0, .int .i64 0, .int .i64 0, .int .i64 0, .int .i64 0] #[.int .i64 0, .int .i64 0, .int .i64 0, .int .i64 0, .int .i64 0, .int .i64 0, .int .i64 0, .int .i64 0, .int .i64 0, .int .i64 0, .int .i64 0, .int .i64 0, .int .i64 0, .int .i64 0, .int .i64 0, .int .i64 0, .int .i64 0] rfl rfl K3.out.1 zero_sh.info rfl zero_sh.one ?_)
            | (go_at_call 53; go_must (refine HX.out.1.mono ?_); rintro e w3 ⟨rfl, k3⟩
               rw [← HR.out.2.2.2.2.2.2.2] at k3
               have K3 := Lib.hid (And.intro ((k3.block _ (by omega)).trans HR.out.1) k3)
               clear k3))
          have e1 := setRow_heap _ w.heap.size _ #[.int .i64 0, .int .i64 0, .int .i64 0, .int .i64 0, .int .i64 0, .int .i64 0, .int .i64 0, .int .i64 0, .int .i64 0, .int .i64 0, .int .i64 0, .int .i64 0, .int .i64 0, .int .i64 0, .int .i64 0, .int .i64 0, .int .i64 0] _ _ K3.out.1
          (try simp only [Exit.inBlock, Exit.then]); refine bodyPost_ret (results_ct rfl _ _ w.heap.size _ (.bool false) rfl rfl (var_row zero_sh e1)) rfl ?_
          exact shapeR_no HX.out.2 (below_row (below_step HR.out.2.2.2.1 (below_step HR.out.2.2.2.2.1 K3.out.2)) (Nat.le_refl _) _)
        · rw [q2] at hP
          have HX := Lib.hid (And.intro hP (And.intro hp q2))
          clear hP q2 hbl r0 r1 hs hd hc hp p2 b2 hW2
          go_wp2_with (go_at_call 53; go_must (refine HX.out.1.mono ?_); rintro e w3 ⟨rfl, k3⟩
                       rw [← HR.out.2.2.2.2.2.2.2] at k3
                       have f1 := cell_of_row _ _ 0 _ _ _ ((k3.block _ s2).trans HR.out.2.2.1)
                       have f2 := cell_of_row _ _ 1 _ _ _ ((k3.block _ s2).trans HR.out.2.2.1)
                       have z1 := (k3.block _ (show w.heap.size + 1 < W2.heap.size by omega)).trans HR.out.2.1
                       obtain ⟨x1, x2⟩ := HR.out.2.2.2.2.2.1.cells z1 k (by omega)
                       have v1 := frozen_of_row _ _ (k * 2) _ _ z1
                       have v2 := frozen_of_row _ _ (k * 2 + 1) _ _ z1
                       have K3 := Lib.hid (And.intro ((k3.block _ (show w.heap.size < W2.heap.size by omega)).trans HR.out.1) (And.intro z1 k3))
                       clear k3 z1)
          go_roundw
          case rel =>
            refine ⟨k + 1, _, _, by omega, by go_num, ((below_step HR.out.2.2.2.1 (below_step HR.out.2.2.2.2.1 K3.out.2.2)).setCell (p := ⟨w.heap.size + 1, k * 2, none⟩) (by show w.heap.size ≤ w.heap.size + 1; omega) _).setCell (p := ⟨w.heap.size + 1, k * 2 + 1, none⟩) (by show w.heap.size ≤ w.heap.size + 1; omega) _,
              (heap_setCell_other _ _ _ _ (by show w.heap.size ≠ w.heap.size + 1; omega)).trans ((heap_setCell_other _ _ _ _ (by show w.heap.size ≠ w.heap.size + 1; omega)).trans K3.out.1),
              heap_setCell_same _ _ (k * 2 + 1) _ _ _ (heap_setCell_same _ _ (k * 2) _ _ _ K3.out.2.1), HR.out.2.2.2.2.2.1.set2 (show k < 8 by omega) _ _, fun j hj => ?_⟩
            by_cases hjk : j = k
            · subst hjk
              rw [if_pos rfl, ← HX.out.2.1]
              exact ⟨rfl, HX.out.2.2⟩
            · rw [if_neg hjk]
              exact HR.out.2.2.2.2.2.2.1 j (by omega)
          case measure => simp [intOf]; omega
      · have hdn : decide ((k : Int) < (L.length : Int)) = false := decide_eq_false (by omega)
        have hkl : k = L.length := by omega
        have hfit : Fits q L := fun j hj => (hd j (by omega)).1
        have hB := bent_ok hfit H.out.2.1 (fun j hj => (hd j (by omega)).2)
        have hT := fun W => iBent_any hs n8 W
        rw [hB] at hT
        obtain ⟨ok, hok⟩ : ∃ ok, ok = okSh L := ⟨_, rfl⟩
        rw [← hok] at hT
        have HX := Lib.hid (And.intro hT (And.intro hbl (And.intro r0 (And.intro hs (And.intro hfit (And.intro hok (ext_row hlt1 r1)))))))
        clear hT hbl r0 r1 hs hd hkl hB hfit hok
        go_wp2_with fail
        refine region_quiet_tail wr.heap.size 3 (by kernel_rfl) (by kernel_rfl) ?_
        simp only [List.take_succ_cons, List.take_zero, List.drop_succ_cons, List.drop_zero]
        repeat (first
          | (go_big_quiet_want
             refine quiet_load_row 57 _ (w.heap.size + 1) 57 c _ rfl rfl HX.out.2.2.2.2.2.2 Try.underlying57 rfl HX.out.2.2.2.1.info ?_
             simp [go_sem]
             go_big_quiet_on)
          | go_big_quiet_step ((go_at_call 63; exact calls_ext (Nat.le_refl _) (HX.out.1 _))))
        refine wpQuiet_nil ?_
        rintro _ ⟨x9, rfl⟩
        have Z9 := (x9.below.block _ (show w.heap.size < wr.heap.size by omega)).trans HX.out.2.2.1
        have K9 := Lib.hid (And.intro (below_step HX.out.2.1 x9.below) Z9)
        clear Z9
        go_wp2_with (refine wpList_store_all rfl 57 _ _ rfl w.heap.size 57 #[.int .i64 0, .int .i64 0, .int .i64 0, .int .i64 0, .int .i64 0, .int .i64 0, .int .i64 0, .int .i64 0, .int .i64 0, .int .i64 0, .int .i64 0, .int .i64 0, .int .i64 0, .int .i64 0, .int .i64 0, .int .i64 0, .int .i64 0] c rfl rfl K9.out.2 HX.out.2.2.2.1.info HX.out.2.2.2.1.sz.symm HX.out.2.2.2.1.one ?_)
        have e1 := setRow_heap _ w.heap.size _ c _ _ K9.out.2
        (try simp only [Exit.inBlock, Exit.then]); refine bodyPost_ret (results_ct rfl _ _ w.heap.size _ (.bool ok) rfl rfl (var_row HX.out.2.2.2.1 e1)) rfl ?_
        exact ⟨c, q, by rw [HX.out.2.2.2.2.2.1], below_row K9.out.1 (Nat.le_refl _) _, ⟨_, HX.out.2.2.2.1⟩, fun _ => ⟨HX.out.2.2.2.1, HX.out.2.2.2.2.1⟩⟩
end Go.Proofs.Ytfkfjkhikgnnaaa
