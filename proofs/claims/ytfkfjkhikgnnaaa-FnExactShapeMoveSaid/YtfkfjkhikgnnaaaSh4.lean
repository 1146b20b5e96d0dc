/- The model's box of a shape. -/
import Derived.Test.YtfkfjkhikgnnaaaSh3
import Derived.StillTailTactics
namespace Go.Proofs.Ytfkfjkhikgnnaaa
open Go.RowKit

theorem region_tail_g {P : Program} {id : Nat} {Q : Exit → Act → World → Prop} {a : Act} {w : World} {l : List Oper} (n : Nat) (hm : P.follows .mixedOrders = true) (hB : Region.lexTailB .any l.toArray n = true)
    (h : ∀ W : World, (∀ p, W.cell? p = w.cell? p) → W.heap.size = w.heap.size → Below w.heap.size w W → wpStill P l.toArray W (fun a' => wpList P l.toArray Q (l.drop n) a' W) (l.take n) a) : (Code.region id l.toArray true).wp P Q a w :=
  wp_region_still_tail n hm hB (h (w.drewN 1) (fun _ => rfl) rfl (below_draws (Below.refl _ _) 1))
theorem results_cct {fn : Func} {p q r : Tmp} {ty tq : TypeId} (h : fn.results = #[.cell p ty, .cell q tq, .tmp r]) (tmps : Array Value) (P : Program) (w : World) :
    (results fn tmps).run P w = ((asAddr (tmps.getD p undef)).run P w).andThen fun a w₁ => ((loadVar ty a).run P w₁).andThen fun x w₂ => ((asAddr (tmps.getD q undef)).run P w₂).andThen fun b w₃ => ((loadVar tq b).run P w₃).andThen fun y w₄ => .ok (.tuple #[x, y, tmps.getD r undef]) w₄ := by
  simp only [results, h]
  simp [Sem.run_bind, Result.andThen]

theorem box_ret {W : World} {g g2 : Nat} {a b c d t : Value} {tmps : Array Value} (h : W.heap[g]? = some (.cells #[a, b] 27 (0, 0))) (h' : W.heap[g2]? = some (.cells #[c, d] 27 (0, 0))) (h2 : tmps.getD 2 undef = .pointer (some ⟨g, 0, none⟩)) (h3 : tmps.getD 3 undef = .pointer (some ⟨g2, 0, none⟩)) (h4 : tmps.getD 4 undef = t) :
    (results Try.f24 tmps).run Try.prog W = .ok (.tuple #[.agg #[a, b], .agg #[c, d], t]) W := by
  rw [results_cct rfl, h2, h3, h4]
  have hl := run_loadVar_row (P := Try.prog) W g 27 27 #[a, b] (0, 0) _ h Try.underlying27 rfl (by kernel_rfl)
  have hl' := run_loadVar_row (P := Try.prog) W g2 27 27 #[c, d] (0, 0) _ h' Try.underlying27 rfl (by kernel_rfl)
  simp [asAddr, Result.andThen, hl, hl']
theorem cell_far {W : World} {b o : Nat} {q : Addr} (u : Value) (h : b ≠ q.block) : (W.setCell q u).cell? ⟨b, o, none⟩ = W.cell? ⟨b, o, none⟩ := World.cell?_setCell_far W q _ u (fun e => h e.symm)
theorem cells2_at {W : World} {g : Nat} {x y : Value} {t : TypeId} (a b : Value) (h : W.heap[g]? = some (.cells #[x, y] t (0, 0))) :
    ((W.setCell ⟨g, 0, none⟩ a).setCell ⟨g, 1, none⟩ b).heap[g]? = some (.cells #[a, b] t (0, 0)) := by
  have h1 := heap_setCell_same _ g 0 _ _ a h
  have h2 := heap_setCell_same _ g 1 _ _ b h1
  rw [h2]
  rfl
/-- The four variables of the box in memory. -/
structure BoxM (N M : Nat) (a b c d : Int) (W : World) : Prop where
  r1 : W.heap[N]? = some (.cells #[.int .i64 0, .int .i64 0] 27 (0, 0))
  r2 : W.heap[N + 1]? = some (.cells #[.int .i64 0, .int .i64 0] 27 (0, 0))
  lo : W.heap[M]? = some (.cells #[.int .i64 a, .int .i64 b] 27 (0, 0))
  hi : W.heap[M + 1]? = some (.cells #[.int .i64 c, .int .i64 d] 27 (0, 0))
  sz : W.heap.size = M + 2
  ap : N + 1 < M
section
variable {N M : Nat} {a b c d : Int} {W W2 : World}
theorem BoxM.draw (h : BoxM N M a b c d W) (hb : Below W.heap.size W W2) (hs : W2.heap.size = W.heap.size) : BoxM N M a b c d W2 := by
  have := h.sz
  have := h.ap
  exact ⟨(hb.block _ (by omega)).trans h.r1, (hb.block _ (by omega)).trans h.r2, (hb.block _ (by omega)).trans h.lo, (hb.block _ (by omega)).trans h.hi, by omega, h.ap⟩
theorem BoxM.s1 (h : BoxM N M a b c d W) (x : Int) : BoxM N M x b c d (W.setCell ⟨M, 0, none⟩ (.int .i64 x)) := by
  have := h.ap
  exact ⟨(heap_setCell_other _ _ _ _ (by show N ≠ M; omega)).trans h.r1, (heap_setCell_other _ _ _ _ (by show N + 1 ≠ M; omega)).trans h.r2, heap_setCell_same _ M 0 _ _ _ h.lo, (heap_setCell_other _ _ _ _ (by show M + 1 ≠ M; omega)).trans h.hi, by simpa [World.setCell] using h.sz, h.ap⟩
theorem BoxM.s2 (h : BoxM N M a b c d W) (x : Int) : BoxM N M a x c d (W.setCell ⟨M, 1, none⟩ (.int .i64 x)) := by
  have := h.ap
  exact ⟨(heap_setCell_other _ _ _ _ (by show N ≠ M; omega)).trans h.r1, (heap_setCell_other _ _ _ _ (by show N + 1 ≠ M; omega)).trans h.r2, heap_setCell_same _ M 1 _ _ _ h.lo, (heap_setCell_other _ _ _ _ (by show M + 1 ≠ M; omega)).trans h.hi, by simpa [World.setCell] using h.sz, h.ap⟩
theorem BoxM.s3 (h : BoxM N M a b c d W) (x : Int) : BoxM N M a b x d (W.setCell ⟨M + 1, 0, none⟩ (.int .i64 x)) := by
  have := h.ap
  exact ⟨(heap_setCell_other _ _ _ _ (by show N ≠ M + 1; omega)).trans h.r1, (heap_setCell_other _ _ _ _ (by show N + 1 ≠ M + 1; omega)).trans h.r2, (heap_setCell_other _ _ _ _ (by show M ≠ M + 1; omega)).trans h.lo, heap_setCell_same _ (M + 1) 0 _ _ _ h.hi, by simpa [World.setCell] using h.sz, h.ap⟩
theorem BoxM.s4 (h : BoxM N M a b c d W) (x : Int) : BoxM N M a b c x (W.setCell ⟨M + 1, 1, none⟩ (.int .i64 x)) := by
  have := h.ap
  exact ⟨(heap_setCell_other _ _ _ _ (by show N ≠ M + 1; omega)).trans h.r1, (heap_setCell_other _ _ _ _ (by show N + 1 ≠ M + 1; omega)).trans h.r2, (heap_setCell_other _ _ _ _ (by show M ≠ M + 1; omega)).trans h.lo, heap_setCell_same _ (M + 1) 1 _ _ _ h.hi, by simpa [World.setCell] using h.sz, h.ap⟩
end
set_option maxHeartbeats 8000000 in
set_option maxRecDepth 100000 in
theorem sShBox_any (A : Option Addr) (cap : Nat) (L : List Sp) (w : World) (hr : Reads w w.heap.size 2 A L.length (cellsS L)) (hl : L.length ≤ 1000000000) :
    Calls Try.prog 24 #[.slice A L.length cap] w fun e w2 => e = .returned (.tuple #[.agg #[.int .i64 (boxA L).lo, .int .i64 (boxA L).hi], .agg #[.int .i64 (boxB L).lo, .int .i64 (boxB L).hi], .bool (okSh L)]) ∧ Below w.heap.size w w2 := by
  obtain ⟨W0, hW0⟩ : ∃ W0, W0 = (w.alloc (.cells #[.int .i64 0, .int .i64 0] 27)).alloc (.cells #[.int .i64 0, .int .i64 0] 27) := ⟨_, rfl⟩
  have b0 : Below w.heap.size w W0 := by rw [hW0]; exact ((Below.refl _ _).alloc (Nat.le_refl _) _).alloc (by simp) _
  have s0 : W0.heap.size = w.heap.size + 2 := by rw [hW0]; simp
  have g0 : W0.heap[w.heap.size]? = some (.cells #[.int .i64 0, .int .i64 0] 27 (0, 0)) := by
    rw [hW0]
    exact (Below.heap_alloc _ _ _ (by simp)).trans (heap_alloc_new _ _)
  have g1 : W0.heap[w.heap.size + 1]? = some (.cells #[.int .i64 0, .int .i64 0] 27 (0, 0)) := by
    have := heap_alloc_new (w.alloc (.cells #[.int .i64 0, .int .i64 0] 27)) (.cells #[.int .i64 0, .int .i64 0] 27)
    rw [hW0]
    simpa using this
  have hV := sShValid_any A cap L W0 (hr.step b0) hl
  cases h1 : okSh L
  · rw [h1] at hV
    have eA : boxA L = ⟨0, 0⟩ := by simp [boxA, h1]
    have eB : boxB L = ⟨0, 0⟩ := by simp [boxB, h1]
    have H := Lib.hid (And.intro hV (And.intro b0 (And.intro g0 (And.intro g1 (And.intro eA eB)))))
    clear hV b0 g0 g1 h1 hr eA eB
    go_enter Try.func24, Try.ntmps24
    go_wp2_with (go_at_call 27; rw [← hW0]; go_must (refine H.out.1.mono ?_); rintro e w2 ⟨rfl, k2⟩
                 have z1 := (k2.block _ (show w.heap.size < W0.heap.size by omega)).trans H.out.2.2.1
                 have z2 := (k2.block _ (show w.heap.size + 1 < W0.heap.size by omega)).trans H.out.2.2.2.1
                 have x0 := cell_of_row _ _ 0 _ _ _ z1
                 have x1 := cell_of_row _ _ 1 _ _ _ z1
                 have x2 := frozen_of_row _ _ 0 _ _ z1
                 have x3 := frozen_of_row _ _ 1 _ _ z1
                 have y0 := cell_of_row _ _ 0 _ _ _ z2
                 have y1 := cell_of_row _ _ 1 _ _ _ z2
                 have y2 := frozen_of_row _ _ 0 _ _ z2
                 have y3 := frozen_of_row _ _ 1 _ _ z2
                 have K2 := Lib.hid (And.intro k2 (And.intro z1 z2))
                 clear k2 z1 z2)
    have e1 := (Below.heap_setCell _ ⟨w.heap.size + 1, 1, none⟩ (.int .i64 0) w.heap.size (by show w.heap.size ≠ w.heap.size + 1; omega)).trans ((Below.heap_setCell _ ⟨w.heap.size + 1, 0, none⟩ (.int .i64 0) w.heap.size (by show w.heap.size ≠ w.heap.size + 1; omega)).trans (cells2_at (.int .i64 0) (.int .i64 0) K2.out.2.1))
    have e2 := cells2_at (W := (w2.setCell ⟨w.heap.size, 0, none⟩ (.int .i64 0)).setCell ⟨w.heap.size, 1, none⟩ (.int .i64 0)) (.int .i64 0) (.int .i64 0) ((Below.heap_setCell _ _ _ _ (by show w.heap.size + 1 ≠ w.heap.size; omega)).trans ((Below.heap_setCell _ _ _ _ (by show w.heap.size + 1 ≠ w.heap.size; omega)).trans K2.out.2.2))
    (try simp only [Exit.inBlock, Exit.then]); refine bodyPost_ret (box_ret e1 e2 rfl rfl rfl) rfl ?_
    refine ⟨?_, ((((below_step H.out.2.1 K2.out.1).setCell (Nat.le_refl _) _).setCell (Nat.le_refl _) _).setCell (by show w.heap.size ≤ w.heap.size + 1; omega) _).setCell (by show w.heap.size ≤ w.heap.size + 1; omega) _⟩
    rw [H.out.2.2.2.2.1, H.out.2.2.2.2.2]
    rfl
  · rw [h1] at hV
    obtain ⟨hc, n8, _⟩ := okSh_parts h1
    have n3 := hc.three
    have h0l : 0 < L.length := by omega
    have eA : boxA L = boxLo L := by simp [boxA, h1]
    have eB : boxB L = boxHi L := by simp [boxB, h1]
    have H := Lib.hid (And.intro hV (And.intro b0 (And.intro g0 (And.intro g1 (And.intro eA (And.intro eB (And.intro hr h1)))))))
    clear hV b0 g0 g1 h1 hr eA eB hc
    go_enter Try.func24, Try.ntmps24
    go_wp2_with (go_at_call 27; rw [← hW0]; go_must (refine H.out.1.mono ?_); rintro e w2 ⟨rfl, k2⟩
                 obtain ⟨b, off, hA, hbb, hcc⟩ := (H.out.2.2.2.2.2.2.1.below (below_step H.out.2.1 k2)).corner h0l
                 subst hA
                 obtain ⟨x0, x1⟩ := hcc 0 h0l
                 rw [Nat.zero_mul, Nat.add_zero] at x0 x1
                 have hs2 := k2.size
                 have hbw : b < w2.heap.size := by omega
                 have K2 := Lib.hid k2
                 clear k2 hcc)
    obtain ⟨M, hM⟩ : ∃ M, M = w2.heap.size := ⟨_, rfl⟩
    obtain ⟨W3, hW3⟩ : ∃ W3, W3 = (w2.alloc (.cells #[.int .i64 (ptG L 0).lo, .int .i64 (ptG L 0).hi] 27)).alloc (.cells #[.int .i64 (ptG L 0).lo, .int .i64 (ptG L 0).hi] 27) := ⟨_, rfl⟩
    have b3 : Below w2.heap.size w2 W3 := by rw [hW3]; exact ((Below.refl _ _).alloc (Nat.le_refl _) _).alloc (by simp) _
    have bx : BoxM w.heap.size M (mnG (fun i => (ptG L i).lo) 0) (mnG (fun i => (ptG L i).hi) 0) (mxG (fun i => (ptG L i).lo) 0) (mxG (fun i => (ptG L i).hi) 0) W3 := by
      refine ⟨(b3.block _ (by omega)).trans ((K2.out.block _ (by omega)).trans H.out.2.2.1), (b3.block _ (by omega)).trans ((K2.out.block _ (by omega)).trans H.out.2.2.2.1), ?_, ?_, by rw [hW3, hM]; simp, by omega⟩
      · rw [hM, hW3]
        exact (Below.heap_alloc _ _ _ (by simp)).trans (heap_alloc_new _ _)
      · have := heap_alloc_new (w2.alloc (.cells #[.int .i64 (ptG L 0).lo, .int .i64 (ptG L 0).hi] 27)) (.cells #[.int .i64 (ptG L 0).lo, .int .i64 (ptG L 0).hi] 27)
        rw [show (w2.alloc (.cells #[.int .i64 (ptG L 0).lo, .int .i64 (ptG L 0).hi] 27)).heap.size = w2.heap.size + 1 from by simp] at this
        rw [hM, hW3]
        exact this
    have K3 := Lib.hid (And.intro (below_step (below_step H.out.2.1 K2.out) b3) bx)
    rw [← hW3, ← hM]
    clear b3 bx hW3 x0 x1
    have HM := Lib.hid hM
    clear hM
    go_loopw [7] (fun i wr => ∃ k : Nat, k ≤ L.length ∧ i = .int .i64 k ∧ Below w.heap.size w wr ∧ BoxM w.heap.size M (mnG (fun i => (ptG L i).lo) k) (mnG (fun i => (ptG L i).hi) k) (mxG (fun i => (ptG L i).lo) k) (mxG (fun i => (ptG L i).hi) k) wr) (fun i _ => L.length - (intOf i).toNat)
    case atStart => exact ⟨0, Nat.zero_le _, rfl, K3.out.1, K3.out.2⟩
    case round =>
      obtain ⟨k, hk, rfl, hbl, hbx⟩ := hrel
      by_cases hlt : k < L.length
      · have hki : (k : Int) < (L.length : Int) := by omega
        have eq1 : mnG (fun i => (ptG L i).lo) (k + 1) = min (mnG (fun i => (ptG L i).lo) k) (ptG L k).lo := rfl
        have eq2 : mnG (fun i => (ptG L i).hi) (k + 1) = min (mnG (fun i => (ptG L i).hi) k) (ptG L k).hi := rfl
        have eq3 : mxG (fun i => (ptG L i).lo) (k + 1) = max (mxG (fun i => (ptG L i).lo) k) (ptG L k).lo := rfl
        have eq4 : mxG (fun i => (ptG L i).hi) (k + 1) = max (mxG (fun i => (ptG L i).hi) k) (ptG L k).hi := rfl
        obtain ⟨a, ha⟩ : ∃ a, a = mnG (fun i => (ptG L i).lo) k := ⟨_, rfl⟩
        obtain ⟨b', hb'⟩ : ∃ a, a = mnG (fun i => (ptG L i).hi) k := ⟨_, rfl⟩
        obtain ⟨c, hc⟩ : ∃ a, a = mxG (fun i => (ptG L i).lo) k := ⟨_, rfl⟩
        obtain ⟨d, hd⟩ : ∃ a, a = mxG (fun i => (ptG L i).hi) k := ⟨_, rfl⟩
        rw [← ha, ← hb', ← hc, ← hd] at hbx
        rw [← ha] at eq1
        rw [← hb'] at eq2
        rw [← hc] at eq3
        rw [← hd] at eq4
        obtain ⟨b2, off2, hA2, hbb2, hcc⟩ := (H.out.2.2.2.2.2.2.1.below hbl).corner h0l
        injection hA2 with hA2
        injection hA2 with q1 q2 q3
        subst q1 q2
        clear q3
        obtain ⟨d1, d2⟩ := hcc k hlt
        obtain ⟨p, hp⟩ : ∃ p, p = ptG L k := ⟨_, rfl⟩
        rw [← hp] at d1 d2 eq1 eq2 eq3 eq4
        obtain ⟨a2, ha2⟩ : ∃ x, x = mnG (fun i => (ptG L i).lo) (k + 1) := ⟨_, rfl⟩
        obtain ⟨b2, hb2⟩ : ∃ x, x = mnG (fun i => (ptG L i).hi) (k + 1) := ⟨_, rfl⟩
        obtain ⟨c2, hc2⟩ : ∃ x, x = mxG (fun i => (ptG L i).lo) (k + 1) := ⟨_, rfl⟩
        obtain ⟨e2, he2⟩ : ∃ x, x = mxG (fun i => (ptG L i).hi) (k + 1) := ⟨_, rfl⟩
        have m1 : (if p.lo < a then p.lo else a) = a2 := by rw [ha2, eq1]; split <;> omega
        have m2 : (if p.hi < b' then p.hi else b') = b2 := by rw [hb2, eq2]; split <;> omega
        have m3 : (if c < p.lo then p.lo else c) = c2 := by rw [hc2, eq3]; split <;> omega
        have m4 : (if d < p.hi then p.hi else d) = e2 := by rw [he2, eq4]; split <;> omega
        have hwz := hbl.size
        have hMz := hbx.sz
        have hap := hbx.ap
        have HE := Lib.hid (And.intro ha2 (And.intro hb2 (And.intro hc2 he2)))
        have B1 := Lib.hid (And.intro hbl hbx)
        clear hbl hbx eq1 eq2 eq3 eq4 ha hb' hc hd hp hcc ha2 hb2 hc2 he2
        have f0 := cell_of_row _ _ 0 _ _ _ B1.out.2.lo
        have v0 := frozen_of_row _ _ 0 _ _ B1.out.2.lo
        go_wp2_with fail
        refine region_tail_g 9 (by kernel_rfl) (by kernel_rfl) ?_
        intro W hW hz hbw
        simp only [List.take_succ_cons, List.take_zero, List.drop_succ_cons, List.drop_zero]
        repeat still_step
        refine wpStill_nil ?_
        have C1 := Lib.hid (And.intro (B1.out.1.trans (hbw.mono B1.out.1.size)) (B1.out.2.draw hbw hz))
        have d1 := (hW _).trans d1
        have d2 := (hW _).trans d2
        clear hW hz hbw f0 v0
        have f0 := cell_of_row _ _ 0 _ _ _ C1.out.2.lo
        have v0 := frozen_of_row _ _ 0 _ _ C1.out.2.lo
        go_wp2_with fail
        clear f0 v0
        obtain ⟨X1, hX1⟩ : ∃ X, X = W.setCell ⟨M, 0, none⟩ (.int .i64 a2) := ⟨_, rfl⟩
        have B2 := Lib.hid (show Below w.heap.size w X1 ∧ BoxM w.heap.size M a2 b' c d X1 from by rw [hX1]; exact ⟨C1.out.1.setCell (by show w.heap.size ≤ M; omega) _, C1.out.2.s1 _⟩)
        have hfar1 : ∀ o, X1.cell? ⟨b, o, none⟩ = W.cell? ⟨b, o, none⟩ := fun o => by rw [hX1]; exact cell_far _ (by show b ≠ M; omega)
        rw [← hX1]
        have d1 := (hfar1 _).trans d1
        have d2 := (hfar1 _).trans d2
        clear hX1 hfar1
        have f0 := cell_of_row _ _ 1 _ _ _ B2.out.2.lo
        have v0 := frozen_of_row _ _ 1 _ _ B2.out.2.lo
        refine region_tail_g 9 (by kernel_rfl) (by kernel_rfl) ?_
        intro W hW hz hbw
        simp only [List.take_succ_cons, List.take_zero, List.drop_succ_cons, List.drop_zero]
        repeat still_step
        refine wpStill_nil ?_
        have C2 := Lib.hid (And.intro (B2.out.1.trans (hbw.mono B2.out.1.size)) (B2.out.2.draw hbw hz))
        have d1 := (hW _).trans d1
        have d2 := (hW _).trans d2
        clear hW hz hbw f0 v0
        have f0 := cell_of_row _ _ 1 _ _ _ C2.out.2.lo
        have v0 := frozen_of_row _ _ 1 _ _ C2.out.2.lo
        go_wp2_with fail
        clear f0 v0
        obtain ⟨X2, hX2⟩ : ∃ X, X = W.setCell ⟨M, 1, none⟩ (.int .i64 b2) := ⟨_, rfl⟩
        have B3 := Lib.hid (show Below w.heap.size w X2 ∧ BoxM w.heap.size M a2 b2 c d X2 from by rw [hX2]; exact ⟨C2.out.1.setCell (by show w.heap.size ≤ M; omega) _, C2.out.2.s2 _⟩)
        have hfar2 : ∀ o, X2.cell? ⟨b, o, none⟩ = W.cell? ⟨b, o, none⟩ := fun o => by rw [hX2]; exact cell_far _ (by show b ≠ M; omega)
        rw [← hX2]
        have d1 := (hfar2 _).trans d1
        have d2 := (hfar2 _).trans d2
        clear hX2 hfar2
        have f0 := cell_of_row _ _ 0 _ _ _ B3.out.2.hi
        have v0 := frozen_of_row _ _ 0 _ _ B3.out.2.hi
        refine region_tail_g 9 (by kernel_rfl) (by kernel_rfl) ?_
        intro W hW hz hbw
        simp only [List.take_succ_cons, List.take_zero, List.drop_succ_cons, List.drop_zero]
        repeat still_step
        refine wpStill_nil ?_
        have C3 := Lib.hid (And.intro (B3.out.1.trans (hbw.mono B3.out.1.size)) (B3.out.2.draw hbw hz))
        have d1 := (hW _).trans d1
        have d2 := (hW _).trans d2
        clear hW hz hbw f0 v0
        have f0 := cell_of_row _ _ 0 _ _ _ C3.out.2.hi
        have v0 := frozen_of_row _ _ 0 _ _ C3.out.2.hi
        go_wp2_with fail
        clear f0 v0
        obtain ⟨X3, hX3⟩ : ∃ X, X = W.setCell ⟨M + 1, 0, none⟩ (.int .i64 c2) := ⟨_, rfl⟩
        have B4 := Lib.hid (show Below w.heap.size w X3 ∧ BoxM w.heap.size M a2 b2 c2 d X3 from by rw [hX3]; exact ⟨C3.out.1.setCell (by show w.heap.size ≤ M + 1; omega) _, C3.out.2.s3 _⟩)
        have hfar3 : ∀ o, X3.cell? ⟨b, o, none⟩ = W.cell? ⟨b, o, none⟩ := fun o => by rw [hX3]; exact cell_far _ (by show b ≠ M + 1; omega)
        rw [← hX3]
        have d1 := (hfar3 _).trans d1
        have d2 := (hfar3 _).trans d2
        clear hX3 hfar3
        have f0 := cell_of_row _ _ 1 _ _ _ B4.out.2.hi
        have v0 := frozen_of_row _ _ 1 _ _ B4.out.2.hi
        refine region_tail_g 9 (by kernel_rfl) (by kernel_rfl) ?_
        intro W hW hz hbw
        simp only [List.take_succ_cons, List.take_zero, List.drop_succ_cons, List.drop_zero]
        repeat still_step
        refine wpStill_nil ?_
        have C4 := Lib.hid (And.intro (B4.out.1.trans (hbw.mono B4.out.1.size)) (B4.out.2.draw hbw hz))
        have d1 := (hW _).trans d1
        have d2 := (hW _).trans d2
        clear hW hz hbw f0 v0
        have f0 := cell_of_row _ _ 1 _ _ _ C4.out.2.hi
        have v0 := frozen_of_row _ _ 1 _ _ C4.out.2.hi
        go_wp2_with fail
        clear f0 v0
        obtain ⟨X4, hX4⟩ : ∃ X, X = W.setCell ⟨M + 1, 1, none⟩ (.int .i64 e2) := ⟨_, rfl⟩
        have B5 := Lib.hid (show Below w.heap.size w X4 ∧ BoxM w.heap.size M a2 b2 c2 e2 X4 from by rw [hX4]; exact ⟨C4.out.1.setCell (by show w.heap.size ≤ M + 1; omega) _, C4.out.2.s4 _⟩)
        have hfar4 : ∀ o, X4.cell? ⟨b, o, none⟩ = W.cell? ⟨b, o, none⟩ := fun o => by rw [hX4]; exact cell_far _ (by show b ≠ M + 1; omega)
        rw [← hX4]
        have d1 := (hfar4 _).trans d1
        have d2 := (hfar4 _).trans d2
        clear hX4 hfar4
        go_roundw
        case rel => exact ⟨k + 1, by omega, by go_num, B5.out.1, by rw [← HE.out.1, ← HE.out.2.1, ← HE.out.2.2.1, ← HE.out.2.2.2]; exact B5.out.2⟩
        case measure => simp [intOf]; omega
      · obtain rfl : k = L.length := by omega
        have hdn : decide ((L.length : Int) < (L.length : Int)) = false := decide_eq_false (by omega)
        have f0 := cell_of_row _ _ 0 _ _ _ hbx.lo
        have f1 := cell_of_row _ _ 1 _ _ _ hbx.lo
        have f2 := cell_of_row _ _ 0 _ _ _ hbx.hi
        have f3 := cell_of_row _ _ 1 _ _ _ hbx.hi
        have HX := Lib.hid (And.intro hbl hbx)
        clear hbl hbx
        go_wp2_with fail
        have x0 := cell_of_row _ _ 0 _ _ _ HX.out.2.r1
        have x1 := cell_of_row _ _ 1 _ _ _ HX.out.2.r1
        have x2 := frozen_of_row _ _ 0 _ _ HX.out.2.r1
        have x3 := frozen_of_row _ _ 1 _ _ HX.out.2.r1
        have y0 := cell_of_row _ _ 0 _ _ _ HX.out.2.r2
        have y1 := cell_of_row _ _ 1 _ _ _ HX.out.2.r2
        have y2 := frozen_of_row _ _ 0 _ _ HX.out.2.r2
        have y3 := frozen_of_row _ _ 1 _ _ HX.out.2.r2
        have hap := HX.out.2.ap
        go_region
        go_wp2_with fail
        have e1 := (Below.heap_setCell _ ⟨w.heap.size + 1, 1, none⟩ (.int .i64 (mxG (fun i => (ptG L i).hi) L.length)) w.heap.size (by show w.heap.size ≠ w.heap.size + 1; omega)).trans ((Below.heap_setCell _ ⟨w.heap.size + 1, 0, none⟩ (.int .i64 (mxG (fun i => (ptG L i).lo) L.length)) w.heap.size (by show w.heap.size ≠ w.heap.size + 1; omega)).trans (cells2_at (.int .i64 (mnG (fun i => (ptG L i).lo) L.length)) (.int .i64 (mnG (fun i => (ptG L i).hi) L.length)) HX.out.2.r1))
        have e2 := cells2_at (W := (wr.setCell ⟨w.heap.size, 0, none⟩ (.int .i64 (mnG (fun i => (ptG L i).lo) L.length))).setCell ⟨w.heap.size, 1, none⟩ (.int .i64 (mnG (fun i => (ptG L i).hi) L.length))) (.int .i64 (mxG (fun i => (ptG L i).lo) L.length)) (.int .i64 (mxG (fun i => (ptG L i).hi) L.length)) ((Below.heap_setCell _ _ _ _ (by show w.heap.size + 1 ≠ w.heap.size; omega)).trans ((Below.heap_setCell _ _ _ _ (by show w.heap.size + 1 ≠ w.heap.size; omega)).trans HX.out.2.r2))
        (try simp only [Exit.inBlock, Exit.then]); refine bodyPost_ret (box_ret e1 e2 rfl rfl rfl) rfl ?_
        refine ⟨?_, below_draws ((((HX.out.1.setCell (p := ⟨w.heap.size, 0, none⟩) (Nat.le_refl _) _).setCell (p := ⟨w.heap.size, 1, none⟩) (Nat.le_refl _) _).setCell (p := ⟨w.heap.size + 1, 0, none⟩) (by show w.heap.size ≤ w.heap.size + 1; omega) _).setCell (p := ⟨w.heap.size + 1, 1, none⟩) (by show w.heap.size ≤ w.heap.size + 1; omega) _) 1⟩
        rw [H.out.2.2.2.2.1, H.out.2.2.2.2.2.1]
        rfl
end Go.Proofs.Ytfkfjkhikgnnaaa
