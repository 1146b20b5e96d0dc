/- The program's box of a shape. -/
import Derived.Test.YtfkfjkhikgnnaaaIs2
import Derived.Test.YtfkfjkhikgnnaaaSh4
namespace Go.Proofs.Ytfkfjkhikgnnaaa
open Go.RowKit

theorem sh_slice {n : Nat} (hn : n ≤ 8) (g : Nat) (W : World) : (Instr.sliceAt 55 (.pointer (some ⟨g, 0, none⟩)) none (some (.int .i64 (n : Int))) none).run Try.prog W = .ok (.slice (some ⟨g, 0, none⟩) n 8) W := by
  have e1 : Try.prog.arrayLen 55 = 8 := by kernel_rfl
  have e2 : Try.prog.elem 55 = 27 := by kernel_rfl
  have h := run_sliceAt_array_h (P := Try.prog) W 55 ⟨g, 0, none⟩ Try.underlying55 .i64 (n : Int) (by omega) (by rw [e1]; omega)
  rw [h, e1, e2]
  simp [go_sem]
theorem results_cc {fn : Func} {p q : Tmp} {ty tq : TypeId} (h : fn.results = #[.cell p ty, .cell q tq]) (tmps : Array Value) (P : Program) (w : World) :
    (results fn tmps).run P w = ((asAddr (tmps.getD p undef)).run P w).andThen fun a w₁ => ((loadVar ty a).run P w₁).andThen fun x w₂ => ((asAddr (tmps.getD q undef)).run P w₂).andThen fun b w₃ => ((loadVar tq b).run P w₃).andThen fun y w₄ => .ok (.tuple #[x, y]) w₄ := by
  simp only [results, h]
  simp [Sem.run_bind, Result.andThen]
theorem boxI_ret {W : World} {g g2 : Nat} {a b c d : Value} {tmps : Array Value} (h : W.heap[g]? = some (.cells #[a, b] 27 (0, 0))) (h' : W.heap[g2]? = some (.cells #[c, d] 27 (0, 0))) (h2 : tmps.getD 2 undef = .pointer (some ⟨g, 0, none⟩)) (h3 : tmps.getD 3 undef = .pointer (some ⟨g2, 0, none⟩)) :
    (results Try.f50 tmps).run Try.prog W = .ok (.tuple #[.agg #[a, b], .agg #[c, d]]) W := by
  rw [results_cc rfl, h2, h3]
  have hl := run_loadVar_row (P := Try.prog) W g 27 27 #[a, b] (0, 0) _ h Try.underlying27 rfl (by kernel_rfl)
  have hl' := run_loadVar_row (P := Try.prog) W g2 27 27 #[c, d] (0, 0) _ h' Try.underlying27 rfl (by kernel_rfl)
  simp [asAddr, Result.andThen, hl, hl']
/-- The variables of the box in memory. -/
structure BoxI (N A B : Nat) (k : Array Value) (a b c d : Int) (W : World) : Prop where
  rw : W.heap[N]? = some (.cells k 57 (0, 0))
  r1 : W.heap[N + 1]? = some (.cells #[.int .i64 0, .int .i64 0] 27 (0, 0))
  r2 : W.heap[N + 2]? = some (.cells #[.int .i64 0, .int .i64 0] 27 (0, 0))
  lo : W.heap[A]? = some (.cells #[.int .i64 a, .int .i64 b] 27 (0, 0))
  hi : W.heap[B]? = some (.cells #[.int .i64 c, .int .i64 d] 27 (0, 0))
  sz : A < W.heap.size ∧ B < W.heap.size
  ap : N + 2 < A ∧ N + 2 < B ∧ A ≠ B
section
variable {N A B : Nat} {k : Array Value} {a b c d : Int} {W W2 : World}
theorem BoxI.below (h : BoxI N A B k a b c d W) (hb : Below W.heap.size W W2) : BoxI N A B k a b c d W2 := by
  have := h.sz
  have := h.ap
  have := hb.size
  exact ⟨(hb.block _ (by omega)).trans h.rw, (hb.block _ (by omega)).trans h.r1, (hb.block _ (by omega)).trans h.r2, (hb.block _ (by omega)).trans h.lo, (hb.block _ (by omega)).trans h.hi, by omega, h.ap⟩
theorem far2 {g g2 : Nat} (u v : Value) (h : g ≠ g2) : ((W.setCell ⟨g2, 0, none⟩ u).setCell ⟨g2, 1, none⟩ v).heap[g]? = W.heap[g]? :=
  (heap_setCell_other _ _ _ _ (by show g ≠ g2; exact h)).trans (heap_setCell_other _ _ _ _ (by show g ≠ g2; exact h))
theorem BoxI.setLo (h : BoxI N A B k a b c d W) (x y : Int) : BoxI N A B k x y c d ((W.setCell ⟨A, 0, none⟩ (.int .i64 x)).setCell ⟨A, 1, none⟩ (.int .i64 y)) := by
  have := h.ap
  exact ⟨(far2 _ _ (by omega)).trans h.rw, (far2 _ _ (by omega)).trans h.r1, (far2 _ _ (by omega)).trans h.r2, cells2_at _ _ h.lo, (far2 _ _ (by omega)).trans h.hi, by simpa [World.setCell] using h.sz, h.ap⟩
theorem BoxI.setHi (h : BoxI N A B k a b c d W) (x y : Int) : BoxI N A B k a b x y ((W.setCell ⟨B, 0, none⟩ (.int .i64 x)).setCell ⟨B, 1, none⟩ (.int .i64 y)) := by
  have := h.ap
  exact ⟨(far2 _ _ (by omega)).trans h.rw, (far2 _ _ (by omega)).trans h.r1, (far2 _ _ (by omega)).trans h.r2, (far2 _ _ (by omega)).trans h.lo, cells2_at _ _ h.hi, by simpa [World.setCell] using h.sz, h.ap⟩
end
theorem below_set2 {w0 W : World} {g : Nat} (h : Below w0.heap.size w0 W) (hg : w0.heap.size ≤ g) (u v : Value) : Below w0.heap.size w0 ((W.setCell ⟨g, 0, none⟩ u).setCell ⟨g, 1, none⟩ v) :=
  (h.setCell (p := ⟨g, 0, none⟩) hg u).setCell (p := ⟨g, 1, none⟩) hg v
set_option maxHeartbeats 8000000 in
set_option maxRecDepth 100000 in
theorem iBox_any {c : Array Value} {q : Nat → Sp} {L : List Sp} {n : Nat} (h : ShC c q n) (hf : Fits q L) (hok : okSh L = true) (hn : n = L.length) (w : World) :
    Calls Try.prog 50 #[.agg c] w fun e w2 => e = .returned (.tuple #[.agg #[.int .i64 (boxLo L).lo, .int .i64 (boxLo L).hi], .agg #[.int .i64 (boxHi L).lo, .int .i64 (boxHi L).hi]]) ∧ Below w.heap.size w w2 := by
  have hn8 : n ≤ 8 := by rw [hn]; exact (okSh_parts hok).2.1
  have hn3 : 3 ≤ n := by rw [hn]; exact (okSh_parts hok).1.three
  obtain ⟨W1, hW1⟩ : ∃ W1, W1 = ((w.alloc (.cells c 57)).alloc (.cells #[.int .i64 0, .int .i64 0] 27)).alloc (.cells #[.int .i64 0, .int .i64 0] 27) := ⟨_, rfl⟩
  have b1 : Below w.heap.size w W1 := by rw [hW1]; exact (((Below.refl _ _).alloc (Nat.le_refl _) _).alloc (by simp) _).alloc (by simp; omega) _
  have s1 : W1.heap.size = w.heap.size + 3 := by rw [hW1]; simp
  have g0 : W1.heap[w.heap.size]? = some (.cells c 57 (0, 0)) := by
    rw [hW1]
    exact (Below.heap_alloc _ _ _ (by simp; omega)).trans ((Below.heap_alloc _ _ _ (by simp)).trans (heap_alloc_new _ _))
  have g1 : W1.heap[w.heap.size + 1]? = some (.cells #[.int .i64 0, .int .i64 0] 27 (0, 0)) := by
    rw [hW1]
    exact (Below.heap_alloc _ _ _ (by simp)).trans (heap_alloc2_new _ _ _)
  have g2 : W1.heap[w.heap.size + 2]? = some (.cells #[.int .i64 0, .int .i64 0] 27 (0, 0)) := by
    have := heap_alloc2_new (w.alloc (.cells c 57)) (.cells #[.int .i64 0, .int .i64 0] 27) (.cells #[.int .i64 0, .int .i64 0] 27)
    rw [show (w.alloc (.cells c 57)).heap.size + 1 = w.heap.size + 2 from by simp] at this
    rw [hW1]
    exact this
  obtain ⟨d1, d2⟩ := h.cells g0 0 (by omega)
  rw [hf 0 (by omega), Nat.zero_mul] at d1 d2
  have H := Lib.hid (And.intro b1 (And.intro g0 (And.intro g1 g2)))
  have HS := Lib.hid (And.intro h (And.intro hf (And.intro hok hn)))
  clear b1 g0 g1 g2 h hf hok hn
  go_enter Try.func50, Try.ntmps50
  go_wp2_with fail
  rw [← hW1]
  clear hW1
  go_region
  have hap : w.heap.size + 2 < w.heap.size + 3 ∧ w.heap.size + 2 < w.heap.size + 3 + 1 ∧ w.heap.size + 3 ≠ w.heap.size + 3 + 1 := by omega
  rotate_left
  have hap : w.heap.size + 2 < w.heap.size + 3 + 1 ∧ w.heap.size + 2 < w.heap.size + 3 ∧ w.heap.size + 3 + 1 ≠ w.heap.size + 3 := by omega
  all_goals
    obtain ⟨W3, hW3⟩ : ∃ W3, W3 = ((W1.alloc (.cells #[.int .i64 (ptG L 0).lo, .int .i64 (ptG L 0).hi] 27)).alloc (.cells #[.int .i64 (ptG L 0).lo, .int .i64 (ptG L 0).hi] 27)).drew := ⟨_, rfl⟩
    have b3 : Below W1.heap.size W1 W3 := by rw [hW3]; exact below_draws (((Below.refl _ _).alloc (Nat.le_refl _) _).alloc (by simp) _) 1
    have s3 : W3.heap.size = w.heap.size + 5 := by rw [hW3]; simp [heap_drew]; omega
    have y1 : W3.heap[w.heap.size + 3]? = some (.cells #[.int .i64 (ptG L 0).lo, .int .i64 (ptG L 0).hi] 27 (0, 0)) := by
      rw [hW3, heap_drew, ← s1]
      exact heap_alloc2_old _ _ _
    have y2 : W3.heap[w.heap.size + 3 + 1]? = some (.cells #[.int .i64 (ptG L 0).lo, .int .i64 (ptG L 0).hi] 27 (0, 0)) := by
      rw [hW3, heap_drew, ← s1]
      exact heap_alloc2_new _ _ _
    rw [← hW3]
    clear hW3
  have bx : BoxI w.heap.size (w.heap.size + 3 + 1) (w.heap.size + 3) c (ptG L 0).lo (ptG L 0).hi (ptG L 0).lo (ptG L 0).hi W3 := ⟨(b3.block _ (by omega)).trans H.out.2.1, (b3.block _ (by omega)).trans H.out.2.2.1, (b3.block _ (by omega)).trans H.out.2.2.2, y2, y1, by omega, hap⟩
  obtain ⟨A, hB⟩ : ∃ A, A = w.heap.size + 3 + 1 := ⟨_, rfl⟩
  obtain ⟨B, hA⟩ : ∃ B, B = w.heap.size + 3 := ⟨_, rfl⟩
  rw [← hB, ← hA] at bx
  rw [← hB, ← hA]
  clear hA hB y1 y2
  rotate_left
  have bx : BoxI w.heap.size (w.heap.size + 3) (w.heap.size + 3 + 1) c (ptG L 0).lo (ptG L 0).hi (ptG L 0).lo (ptG L 0).hi W3 := ⟨(b3.block _ (by omega)).trans H.out.2.1, (b3.block _ (by omega)).trans H.out.2.2.1, (b3.block _ (by omega)).trans H.out.2.2.2, y1, y2, by omega, hap⟩
  obtain ⟨B, hB⟩ : ∃ B, B = w.heap.size + 3 + 1 := ⟨_, rfl⟩
  obtain ⟨A, hA⟩ : ∃ A, A = w.heap.size + 3 := ⟨_, rfl⟩
  rw [← hB, ← hA] at bx
  rw [← hB, ← hA]
  clear hA hB y1 y2
  all_goals
    clear hap d1 d2
    have z16 := HS.out.1.count bx.rw
    have K3 := Lib.hid (And.intro (below_step H.out.1 b3) bx)
    clear b3 bx s3
    have hsl := fun W => sh_slice (n := n) hn8 w.heap.size W
    go_wp2_with fail
    clear z16
    go_loopw [19] (fun i wr => ∃ k : Nat, k ≤ n ∧ i = .int .i64 k ∧ Below w.heap.size w wr ∧ BoxI w.heap.size A B c (mnG (fun i => (ptG L i).lo) k) (mnG (fun i => (ptG L i).hi) k) (mxG (fun i => (ptG L i).lo) k) (mxG (fun i => (ptG L i).hi) k) wr) (fun i _ => n - (intOf i).toNat)
    case atStart => exact ⟨0, Nat.zero_le _, rfl, K3.out.1, K3.out.2⟩
    case round =>
      obtain ⟨k, hk, rfl, hbl, hbx⟩ := hrel
      by_cases hlt : k < n
      · have hki : (k : Int) < (n : Int) := by omega
        have eq1 : mnG (fun i => (ptG L i).lo) (k + 1) = min (mnG (fun i => (ptG L i).lo) k) (ptG L k).lo := rfl
        have eq2 : mnG (fun i => (ptG L i).hi) (k + 1) = min (mnG (fun i => (ptG L i).hi) k) (ptG L k).hi := rfl
        have eq3 : mxG (fun i => (ptG L i).lo) (k + 1) = max (mxG (fun i => (ptG L i).lo) k) (ptG L k).lo := rfl
        have eq4 : mxG (fun i => (ptG L i).hi) (k + 1) = max (mxG (fun i => (ptG L i).hi) k) (ptG L k).hi := rfl
        obtain ⟨a, ha⟩ : ∃ a, a = mnG (fun i => (ptG L i).lo) k := ⟨_, rfl⟩
        obtain ⟨b', hb'⟩ : ∃ a, a = mnG (fun i => (ptG L i).hi) k := ⟨_, rfl⟩
        obtain ⟨c', hc⟩ : ∃ a, a = mxG (fun i => (ptG L i).lo) k := ⟨_, rfl⟩
        obtain ⟨d, hd⟩ : ∃ a, a = mxG (fun i => (ptG L i).hi) k := ⟨_, rfl⟩
        rw [← ha, ← hb', ← hc, ← hd] at hbx
        rw [← ha] at eq1
        rw [← hb'] at eq2
        rw [← hc] at eq3
        rw [← hd] at eq4
        obtain ⟨d1, d2⟩ := HS.out.1.cells hbx.rw k (by omega)
        rw [HS.out.2.1 k (by have := HS.out.2.2.2; omega)] at d1 d2
        obtain ⟨p, hp⟩ : ∃ p, p = ptG L k := ⟨_, rfl⟩
        rw [← hp] at d1 d2 eq1 eq2 eq3 eq4
        obtain ⟨a2, ha2⟩ : ∃ x, x = mnG (fun i => (ptG L i).lo) (k + 1) := ⟨_, rfl⟩
        obtain ⟨b2, hb2⟩ : ∃ x, x = mnG (fun i => (ptG L i).hi) (k + 1) := ⟨_, rfl⟩
        obtain ⟨c2, hc2⟩ : ∃ x, x = mxG (fun i => (ptG L i).lo) (k + 1) := ⟨_, rfl⟩
        obtain ⟨e2, he2⟩ : ∃ x, x = mxG (fun i => (ptG L i).hi) (k + 1) := ⟨_, rfl⟩
        have m1 : (if p.lo < a then p.lo else a) = a2 := by rw [ha2, eq1]; split <;> omega
        have m2 : (if p.hi < b' then p.hi else b') = b2 := by rw [hb2, eq2]; split <;> omega
        have m3 : (if c' < p.lo then p.lo else c') = c2 := by rw [hc2, eq3]; split <;> omega
        have m4 : (if d < p.hi then p.hi else d) = e2 := by rw [he2, eq4]; split <;> omega
        obtain ⟨szA, szB⟩ := hbx.sz
        obtain ⟨ap1, ap2, ap3⟩ := hbx.ap
        have f0 := cell_of_row _ _ 0 _ _ _ hbx.lo
        have f1 := cell_of_row _ _ 1 _ _ _ hbx.lo
        have f2 := cell_of_row _ _ 0 _ _ _ hbx.hi
        have f3 := cell_of_row _ _ 1 _ _ _ hbx.hi
        have v0 := frozen_of_row _ _ 0 _ _ hbx.lo
        have v1 := frozen_of_row _ _ 1 _ _ hbx.lo
        have v2 := frozen_of_row _ _ 0 _ _ hbx.hi
        have v3 := frozen_of_row _ _ 1 _ _ hbx.hi
        have hwz := hbl.size
        have bx2 := ((hbx.setLo a2 b2).setHi c2 e2).below ((Below.refl _ _).alloc (Nat.le_refl _) (.cells #[.int .i64 p.lo, .int .i64 p.hi] 27))
        have bl1 := below_set2 (below_set2 hbl (show w.heap.size ≤ A by omega) (.int .i64 a2) (.int .i64 b2)) (show w.heap.size ≤ B by omega) (.int .i64 c2) (.int .i64 e2)
        have bl2 := bl1.alloc bl1.size (.cells #[.int .i64 p.lo, .int .i64 p.hi] 27)
        have HE := Lib.hid (And.intro ha2 (And.intro hb2 (And.intro hc2 (And.intro he2 (And.intro bx2 bl2)))))
        clear hbl hbx eq1 eq2 eq3 eq4 ha hb' hc hd hp ha2 hb2 hc2 he2 bx2 bl1 bl2
        go_wp2_with fail
        go_roundw
        case rel => exact ⟨k + 1, by omega, by go_num, HE.out.2.2.2.2.2, by rw [← HE.out.1, ← HE.out.2.1, ← HE.out.2.2.1, ← HE.out.2.2.2.1]; exact HE.out.2.2.2.2.1⟩
        case measure => simp [intOf]; omega
      · obtain rfl : k = n := by omega
        have hdn : decide ((k : Int) < (k : Int)) = false := decide_eq_false (by omega)
        have f0 := cell_of_row _ _ 0 _ _ _ hbx.lo
        have f1 := cell_of_row _ _ 1 _ _ _ hbx.lo
        have f2 := cell_of_row _ _ 0 _ _ _ hbx.hi
        have f3 := cell_of_row _ _ 1 _ _ _ hbx.hi
        have x0 := cell_of_row _ _ 0 _ _ _ hbx.r1
        have x1 := cell_of_row _ _ 1 _ _ _ hbx.r1
        have x2 := frozen_of_row _ _ 0 _ _ hbx.r1
        have x3 := frozen_of_row _ _ 1 _ _ hbx.r1
        have y0 := cell_of_row _ _ 0 _ _ _ hbx.r2
        have y1 := cell_of_row _ _ 1 _ _ _ hbx.r2
        have y2 := frozen_of_row _ _ 0 _ _ hbx.r2
        have y3 := frozen_of_row _ _ 1 _ _ hbx.r2
        obtain ⟨ap1, ap2, ap3⟩ := hbx.ap
        have HX := Lib.hid (And.intro hbl hbx)
        clear hbl hbx
        go_wp2_with fail
        go_region
        go_wp2_with fail
        have e1 := (far2 (W := (wr.setCell ⟨w.heap.size + 1, 0, none⟩ (.int .i64 (mnG (fun i => (ptG L i).lo) k))).setCell ⟨w.heap.size + 1, 1, none⟩ (.int .i64 (mnG (fun i => (ptG L i).hi) k))) (.int .i64 (mxG (fun i => (ptG L i).lo) k)) (.int .i64 (mxG (fun i => (ptG L i).hi) k)) (show w.heap.size + 1 ≠ w.heap.size + 1 + 1 by omega)).trans (cells2_at (.int .i64 (mnG (fun i => (ptG L i).lo) k)) (.int .i64 (mnG (fun i => (ptG L i).hi) k)) HX.out.2.r1)
        have e2 := cells2_at (W := (wr.setCell ⟨w.heap.size + 1, 0, none⟩ (.int .i64 (mnG (fun i => (ptG L i).lo) k))).setCell ⟨w.heap.size + 1, 1, none⟩ (.int .i64 (mnG (fun i => (ptG L i).hi) k))) (.int .i64 (mxG (fun i => (ptG L i).lo) k)) (.int .i64 (mxG (fun i => (ptG L i).hi) k)) ((far2 (.int .i64 (mnG (fun i => (ptG L i).lo) k)) (.int .i64 (mnG (fun i => (ptG L i).hi) k)) (show w.heap.size + 1 + 1 ≠ w.heap.size + 1 by omega)).trans HX.out.2.r2)
        (try simp only [Exit.inBlock, Exit.then]); refine bodyPost_ret (boxI_ret e1 e2 rfl rfl) rfl ?_
        refine ⟨?_, below_draws (below_set2 (below_set2 HX.out.1 (by omega) _ _) (by omega) _ _) 1⟩
        have := HS.out.2.2.2
        subst this
        rfl
end Go.Proofs.Ytfkfjkhikgnnaaa
