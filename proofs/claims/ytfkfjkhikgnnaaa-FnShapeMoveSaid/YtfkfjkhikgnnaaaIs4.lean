/- The program's count of points, moved shapes, lists of corners. -/
import Derived.Test.YtfkfjkhikgnnaaaIs3
import Derived.Test.YtfkfjkhikgnnaaaSh5
namespace Go.Proofs.Ytfkfjkhikgnnaaa
open Go.RowKit

theorem ShC.set2 {c : Array Value} {q : Nat → Sp} {n k : Nat} (h : ShC c q n) (hk : k < 8) (x y : Int) : ShC ((c.setIfInBounds (k * 2) (.int .i64 x)).setIfInBounds (k * 2 + 1) (.int .i64 y)) (fun j => if j = k then ⟨x, y⟩ else q j) n := by
  have hz := h.sz
  refine ⟨by simp [h.sz], fun j hj => ?_, ?_⟩
  · have h1 := h.pt j hj
    simp only [Array.getElem?_setIfInBounds, Array.size_setIfInBounds, hz]
    by_cases e : j = k
    · subst e
      simp
      omega
    · have a1 : ¬ k * 2 + 1 = j * 2 := by omega
      have a2 : ¬ k * 2 = j * 2 := by omega
      have a3 : ¬ k * 2 + 1 = j * 2 + 1 := by omega
      have a4 : ¬ k * 2 = j * 2 + 1 := by omega
      simp only [a1, a2, a3, a4, e, if_false]
      exact h1
  · rw [Array.getElem?_setIfInBounds, if_neg (by omega), Array.getElem?_setIfInBounds, if_neg (by omega)]
    exact h.ct
theorem ShC.one {c : Array Value} {q : Nat → Sp} {n : Nat} (h : ShC c q n) : c.all (·.oneCell') = true := by
  refine Array.all_eq_true.2 fun i hi => ?_
  have hz := h.sz
  by_cases e : i = 16
  · have := h.ct
    subst e
    rw [Array.getElem?_eq_getElem hi] at this
    injection this with this
    rw [this]
    rfl
  · have h1 := h.pt (i / 2) (by omega)
    by_cases e2 : i % 2 = 0
    · have := h1.1
      rw [show i / 2 * 2 = i from by omega, Array.getElem?_eq_getElem hi] at this
      injection this with this
      rw [this]
      rfl
    · have := h1.2
      rw [show i / 2 * 2 + 1 = i from by omega, Array.getElem?_eq_getElem hi] at this
      injection this with this
      rw [this]
      rfl
theorem wpList_store_all {P : Program} {ops : Array Oper} {rest : List Oper} {op : Oper} {a : Act} {w : World} {Q : Exit → Act → World → Prop} (hgd : op.guard = none) (ty : TypeId) (x y : Operand) (ho : op.op = .store ty x y)
    (g t : Nat) (old cells : Array Value) (hx : a.eval x = .pointer (some ⟨g, 0, none⟩)) (hy : a.eval y = .agg cells)
    (hg : w.heap[g]? = some (.cells old t (0, 0))) (hi : (P.info? ty).map (·.size) = some cells.size) (hs : old.size = cells.size) (h1 : cells.all (·.oneCell') = true)
    (h : wpList P ops Q rest (a.put op.dst undef) (w.setRow g cells)) : wpList P ops Q (op :: rest) a w :=
  wpList_plain hgd fun _ hK => by
    unfold Oper.wp execOp
    simp only [ho, hx, hy, Instr.storeAt, Instr.sureAddr, Sem.run_bind, Sem.run_pure, Result.andThen_ok, run_storeVar_row w g t ty old cells hg hi hs h1]
    exact hK _ _ h
theorem below_row {w0 w : World} {g : Nat} (hb : Below w0.heap.size w0 w) (hg : w0.heap.size ≤ g) (cs : Array Value) : Below w0.heap.size w0 (w.setRow g cs) :=
  hb.trans ⟨rfl, rfl, rfl, by simp [World.setRow], fun k hk => setRow_other w g k cs (by omega)⟩
theorem reads_sh {W : World} {c : Array Value} {q : Nat → Sp} {n g t B : Nat} {L : List Sp} (h : ShC c q n) (hf : Fits q L) (hn : n = L.length) (n8 : n ≤ 8) (hg : W.heap[g]? = some (.cells c t (0, 0))) (hB : g < B) : Reads W B 2 (some ⟨g, 0, none⟩) n (cellsS L) := by
  refine ⟨by rw [length_cellsS, hn], fun _ => ⟨g, 0, rfl, hB, fun j u hu => ?_⟩⟩
  have hj := (List.getElem?_eq_some_iff.1 hu).1
  rw [length_cellsS] at hj
  have hk : j / 2 < L.length := by omega
  have h1 := cellsS_at L (j / 2) _ (ptG_get hk)
  have h2 := h.cells hg (j / 2) (by omega)
  rw [hf _ hk] at h2
  rw [Nat.zero_add]
  by_cases e : j % 2 = 0
  · rw [show j / 2 * 2 = j from by omega] at h1 h2
    rw [h1.1] at hu
    injection hu with hu
    rw [← hu]
    exact h2.1
  · rw [show j / 2 * 2 + 1 = j from by omega] at h1 h2
    rw [h1.2] at hu
    injection hu with hu
    rw [← hu]
    exact h2.2
set_option maxHeartbeats 1600000 in
set_option maxRecDepth 100000 in
theorem cloneP_any (ad : Addr) (cap : Nat) (L : List Sp) (w : World) (hr : Reads w w.heap.size 2 (some ad) L.length (cellsS L)) (hl : L.length ≤ 1000000000) :
    Calls Try.prog 65 #[.slice (some ad) L.length cap] w fun e w2 => ∃ v, e = .returned v ∧ Below w.heap.size w w2 ∧ w2.ownsRow w.heap.size 27 2 v L.length (cellsS L) := by
  obtain ⟨i0, hi0, hz0, hz1, hz2⟩ := info_parts infoPoint
  have qT : ∀ (W : World) (a : Option Addr) (n c n' c' : Nat), (binOp .eql 23 (.slice a n c) (.slice none n' c')).run Try.prog W = .ok (.bool a.isNone) W := fun W a n c n' c' => Lib.run_eql_slice_nil W _ _ a n c n' c' Try.underlying23
  have hE : (w.alloc (.cells #[] 27)).ownsRow w.heap.size 27 2 (.slice (some ⟨w.heap.size, 0, none⟩) 0 0) 0 [] := own_empty (Nat.le_refl _) rfl
  have b1 : Below w.heap.size w (w.alloc (.cells #[] 27)) := (Below.refl _ _).alloc (Nat.le_refl _) _
  have H := Lib.hid (And.intro hr (And.intro hE b1))
  clear hr hE b1
  go_enter Try.func65, Try.ntmps65
  go_wp2_with (at_builtin
               go_must (refine wpList_append_reads _ rfl (.tmp 5) (.tmp 6) _ rfl w.heap.size 27 i0 _ 2 16 Try.underlying23 hi0 hz0 hz1 hz2 rfl (by omega) (.slice (some ⟨w.heap.size, 0, none⟩) 0 0) 0 [] rfl H.out.2.1 w.heap.size (some ad) L.length cap (cellsS L) rfl (H.out.1.below H.out.2.2) (cellsS_one _) (by simp only [maxLen]; omega) (by omega) (by simp) ?_)
               intro v5 w5 hown5 hg5 hat5)
  go_ret
  rw [List.nil_append, Nat.zero_add] at hown5
  exact ⟨_, rfl, H.out.2.2.grown hg5 (by simp) (fun j hj => by simp [Value.ownBlock] at hj; omega), hown5⟩
set_option maxHeartbeats 1600000 in
set_option maxRecDepth 100000 in
theorem iList_any {c : Array Value} {q : Nat → Sp} {n : Nat} {L : List Sp} (h : ShC c q n) (hf : Fits q L) (hn : n = L.length) (n8 : n ≤ 8) (w : World) :
    Calls Try.prog 59 #[.agg c] w fun e w2 => ∃ v, e = .returned v ∧ Below w.heap.size w w2 ∧ w2.ownsRow w.heap.size 27 2 v L.length (cellsS L) := by
  obtain ⟨W1, hW1⟩ : ∃ W1, W1 = w.alloc (.cells c 57) := ⟨_, rfl⟩
  have b1 : Below w.heap.size w W1 := by rw [hW1]; exact (Below.refl _ _).alloc (Nat.le_refl _) _
  have s1 : w.heap.size < W1.heap.size := by rw [hW1]; simp
  have g0 : W1.heap[w.heap.size]? = some (.cells c 57 (0, 0)) := by rw [hW1]; exact heap_alloc_new _ _
  have hC := cloneP_any ⟨w.heap.size, 0, none⟩ 8 L W1 (by rw [← hn]; exact reads_sh h hf hn n8 g0 s1) (by omega)
  rw [← hn] at hC
  have hct := h.ct
  have hsl := fun W => sh_slice n8 w.heap.size W
  rw [hW1] at hC
  have H := Lib.hid (And.intro hC (And.intro b1 (And.intro hn hW1)))
  clear hC b1 s1 g0 h hf hn hW1
  go_enter Try.func59, Try.ntmps59
  go_wp2_with (go_at_call 65; go_must (refine H.out.1.mono ?_); rintro e w2 ⟨v, rfl, k2, o2⟩)
  go_ret
  rw [← H.out.2.2.2] at k2 o2
  rw [← H.out.2.2.1]
  exact ⟨_, rfl, below_step H.out.2.1 k2, own_less o2 H.out.2.1.size⟩
/-- What the moved shape is. -/
def MovQ (q q' : Nat → Sp) (n : Nat) (x y : Int) : Prop := ∀ k, k < n → q' k = ⟨(q k).lo + x, (q k).hi + y⟩
set_option maxHeartbeats 4000000 in
set_option maxRecDepth 100000 in
theorem iMoved_any {c : Array Value} {q : Nat → Sp} {n : Nat} (h : ShC c q n) (n8 : n ≤ 8) (hp : ∀ k, k < n → inP (q k) = true) {x y : Int} (hx : inR x (-99) 99 = true) (hy : inR y (-99) 99 = true) (w : World) :
    Calls Try.prog 58 #[.agg c, .int .i64 x, .int .i64 y] w fun e w2 => ∃ c' q', e = .returned (.agg c') ∧ Below w.heap.size w w2 ∧ ShC c' q' n ∧ MovQ q q' n x y := by
  simp only [inR, Bool.and_eq_true, decide_eq_true_eq] at hx hy
  obtain ⟨x1, x2⟩ := hx
  obtain ⟨y1, y2⟩ := hy
  obtain ⟨W1, hW1⟩ : ∃ W1, W1 = (w.alloc (.cells c 57)).alloc (.cells #[.int .i64 0, .int .i64 0, .int .i64 0, .int .i64 0, .int .i64 0, .int .i64 0, .int .i64 0, .int .i64 0, .int .i64 0, .int .i64 0, .int .i64 0, .int .i64 0, .int .i64 0, .int .i64 0, .int .i64 0, .int .i64 0, .int .i64 0] 57) := ⟨_, rfl⟩
  have b1 : Below w.heap.size w W1 := by rw [hW1]; exact ((Below.refl _ _).alloc (Nat.le_refl _) _).alloc (by simp) _
  have g0 : W1.heap[w.heap.size]? = some (.cells c 57 (0, 0)) := by
    rw [hW1]
    exact (Below.heap_alloc _ _ _ (by simp)).trans (heap_alloc_new _ _)
  have g1 : W1.heap[w.heap.size + 1]? = some (.cells #[.int .i64 0, .int .i64 0, .int .i64 0, .int .i64 0, .int .i64 0, .int .i64 0, .int .i64 0, .int .i64 0, .int .i64 0, .int .i64 0, .int .i64 0, .int .i64 0, .int .i64 0, .int .i64 0, .int .i64 0, .int .i64 0, .int .i64 0] 57 (0, 0)) := by
    rw [hW1]
    exact heap_alloc2_new _ _ _
  have hct := h.ct
  have H := Lib.hid (And.intro b1 (And.intro g0 (And.intro g1 hp)))
  have HS := Lib.hid h
  clear b1 g0 g1 hp h
  go_enter Try.func58, Try.ntmps58
  go_wp2_with fail
  rw [← hW1]
  clear hW1 hct
  go_loopw [10] (fun i wr => ∃ k c' q', k ≤ n ∧ i = .int .i64 (k : Int) ∧ Below w.heap.size w wr ∧ wr.heap[w.heap.size]? = some (.cells c' 57 (0, 0)) ∧ wr.heap[w.heap.size + 1]? = some (.cells #[.int .i64 0, .int .i64 0, .int .i64 0, .int .i64 0, .int .i64 0, .int .i64 0, .int .i64 0, .int .i64 0, .int .i64 0, .int .i64 0, .int .i64 0, .int .i64 0, .int .i64 0, .int .i64 0, .int .i64 0, .int .i64 0, .int .i64 0] 57 (0, 0)) ∧ ShC c' q' n ∧ (∀ j, j < k → q' j = ⟨(q j).lo + x, (q j).hi + y⟩) ∧ ∀ j, k ≤ j → q' j = q j) (fun i _ => n - (intOf i).toNat)
  case atStart => exact ⟨0, c, q, Nat.zero_le _, rfl, H.out.1, H.out.2.1, H.out.2.2.1, HS.out, fun j hj => absurd hj (by omega), fun j _ => rfl⟩
  case round =>
    obtain ⟨k, c', q', hk, rfl, hbl, r0, r1, hs, hd, hu⟩ := hrel
    by_cases hlt : k < n
    · have hki : (k : Int) < (n : Int) := by omega
      have hk8 : (k : Int) < 8 := by omega
      obtain ⟨d1, d2⟩ := hs.cells r0 k (by omega)
      rw [hu k (Nat.le_refl _)] at d1 d2
      have hin := inP_iff.1 (H.out.2.2.2 k hlt)
      obtain ⟨a, ha⟩ : ∃ a, a = q k := ⟨_, rfl⟩
      rw [← ha] at d1 d2 hin
      obtain ⟨⟨i1, i2⟩, i3, i4⟩ := hin
      have v1 := frozen_of_row _ _ (k * 2) _ _ r0
      have v2 := frozen_of_row _ _ (k * 2 + 1) _ _ r0
      have hs2 := hs.set2 (show k < 8 by omega) (a.lo + x) (a.hi + y)
      have r2 := heap_setCell_same _ _ (k * 2 + 1) _ _ (.int .i64 (a.hi + y)) (heap_setCell_same _ _ (k * 2) _ _ (.int .i64 (a.lo + x)) r0)
      have r3 : ((wr.setCell ⟨w.heap.size, k * 2, none⟩ (.int .i64 (a.lo + x))).setCell ⟨w.heap.size, k * 2 + 1, none⟩ (.int .i64 (a.hi + y))).heap[w.heap.size + 1]? = some (.cells #[.int .i64 0, .int .i64 0, .int .i64 0, .int .i64 0, .int .i64 0, .int .i64 0, .int .i64 0, .int .i64 0, .int .i64 0, .int .i64 0, .int .i64 0, .int .i64 0, .int .i64 0, .int .i64 0, .int .i64 0, .int .i64 0, .int .i64 0] 57 (0, 0)) :=
        (heap_setCell_other _ _ _ _ (by show w.heap.size + 1 ≠ w.heap.size; omega)).trans ((heap_setCell_other _ _ _ _ (by show w.heap.size + 1 ≠ w.heap.size; omega)).trans r1)
      have bl2 := (hbl.setCell (p := ⟨w.heap.size, k * 2, none⟩) (Nat.le_refl _) (.int .i64 (a.lo + x))).setCell (p := ⟨w.heap.size, k * 2 + 1, none⟩) (Nat.le_refl _) (.int .i64 (a.hi + y))
      have HX := Lib.hid (And.intro bl2 (And.intro r2 (And.intro r3 (And.intro hs2 (And.intro hd (And.intro hu ha))))))
      clear hbl r0 r1 hs hd hu ha hs2 r2 r3 bl2
      go_wp2_with fail
      go_roundw
      case rel =>
        refine ⟨k + 1, _, _, by omega, by go_num, HX.out.1, HX.out.2.1, HX.out.2.2.1, HX.out.2.2.2.1, fun j hj => ?_, fun j hj => ?_⟩
        · by_cases hjk : j = k
          · subst hjk
            rw [if_pos rfl, HX.out.2.2.2.2.2.2]
          · rw [if_neg hjk]
            exact HX.out.2.2.2.2.1 j (by omega)
        · rw [if_neg (by omega)]
          exact HX.out.2.2.2.2.2.1 j (by omega)
      case measure => simp [intOf]; omega
    · obtain rfl : k = n := by omega
      have hdn : decide ((k : Int) < (k : Int)) = false := decide_eq_false (by omega)
      have HX := Lib.hid (And.intro hbl (And.intro r0 (And.intro r1 (And.intro hs hd))))
      clear hbl r0 r1 hs hd hu
      go_wp2_with (first
        | (refine wpList_load_row rfl 57 _ rfl w.heap.size rfl 57 c' _ _ HX.out.2.1 Try.underlying57 rfl HX.out.2.2.2.1.info ?_)
        | (refine wpList_store_all rfl 57 _ _ rfl (w.heap.size + 1) 57 #[.int .i64 0, .int .i64 0, .int .i64 0, .int .i64 0, .int .i64 0, .int .i64 0, .int .i64 0, .int .i64 0, .int .i64 0, .int .i64 0, .int .i64 0, .int .i64 0, .int .i64 0, .int .i64 0, .int .i64 0, .int .i64 0, .int .i64 0] c' rfl rfl HX.out.2.2.1 HX.out.2.2.2.1.info HX.out.2.2.2.1.sz.symm HX.out.2.2.2.1.one ?_))
      have e1 := setRow_heap wr (w.heap.size + 1) _ c' _ _ HX.out.2.2.1
      (try simp only [Exit.inBlock, Exit.then]); refine bodyPost_ret (results_cell_row rfl _ _ (w.heap.size + 1) 57 c' (0, 0) _ rfl e1 Try.underlying57 rfl HX.out.2.2.2.1.info) rfl ?_
      exact ⟨c', q', rfl, below_row HX.out.1 (by omega) _, HX.out.2.2.2.1, HX.out.2.2.2.2⟩
end Go.Proofs.Ytfkfjkhikgnnaaa
