/- Structs of two numbers as plain data, and rows of them in memory; no function of the program. -/
import Derived.Test.YtfkfjkhikgnnaaaTri
namespace Go.Proofs.Ytfkfjkhikgnnaaa
open Go.RowKit

structure Sp where
  lo : Int
  hi : Int
theorem Sp.ext_ {a b : Sp} (h1 : a.lo = b.lo) (h2 : a.hi = b.hi) : a = b := by cases a; cases b; simp_all
def cells2 (c : Sp) : List Value := [.int .i64 c.lo, .int .i64 c.hi]
def cellsS (l : List Sp) : List Value := l.flatMap cells2
def eqS (a b : Sp) : Bool := decide (a.lo = b.lo) && decide (a.hi = b.hi)
theorem eqS_iff (a b : Sp) : eqS a b = true ↔ a = b := by
  simp only [eqS, Bool.and_eq_true, decide_eq_true_eq]
  exact ⟨fun ⟨h1, h2⟩ => Sp.ext_ h1 h2, fun h => by subst h; exact ⟨rfl, rfl⟩⟩
theorem eqS_self (a : Sp) : eqS a a = true := (eqS_iff a a).2 rfl
theorem eqS_no {a b : Sp} (h : a ≠ b) : eqS a b = false := by
  cases h2 : eqS a b
  · rfl
  · exact absurd ((eqS_iff a b).1 h2) h
theorem length_cellsS (l : List Sp) : (cellsS l).length = l.length * 2 := by
  induction l with
  | nil => rfl
  | cons c l ih => simp only [cellsS, List.flatMap_cons, List.length_append] at *; rw [ih]; simp [cells2]; omega
theorem cellsS_append (l m : List Sp) : cellsS (l ++ m) = cellsS l ++ cellsS m := by simp [cellsS]
theorem cellsS_one (l : List Sp) : ∀ u ∈ cellsS l, u.oneCell' = true := by
  intro u hu
  simp only [cellsS, List.mem_flatMap, cells2, List.mem_cons, List.not_mem_nil, or_false] at hu
  obtain ⟨c, _, rfl | rfl⟩ := hu <;> rfl
theorem cellsS_at (l : List Sp) (k : Nat) (c : Sp) (h : l[k]? = some c) : (cellsS l)[k * 2]? = some (.int .i64 c.lo) ∧ (cellsS l)[k * 2 + 1]? = some (.int .i64 c.hi) := by
  induction l generalizing k with
  | nil => simp at h
  | cons d l ih =>
    cases k with
    | zero => simp at h; subst h; simp [cellsS, cells2]
    | succ k =>
      have := ih k (by simpa using h)
      have e : ∀ j, (cellsS (d :: l))[(k+1) * 2 + j]? = (cellsS l)[k * 2 + j]? := by
        intro j
        simp only [cellsS, List.flatMap_cons]
        rw [show cells2 d = [Value.int .i64 d.lo, .int .i64 d.hi] from rfl]
        rw [List.getElem?_append_right (by simp; omega)]
        congr 1
        simp; omega
      exact ⟨(e 0).trans this.1, (e 1).trans this.2⟩
theorem Reads.lenS {w : World} {B n : Nat} {A : Option Addr} {l : List Sp} (h : Reads w B 2 A n (cellsS l)) : n = l.length := by
  have := h.1; rw [length_cellsS] at this; omega
theorem Reads.sp {w : World} {B n : Nat} {A : Option Addr} {l : List Sp} (h : Reads w B 2 A n (cellsS l)) (hn : 0 < n) : ∃ b off, A = some ⟨b, off, none⟩ ∧ b < B ∧
    ∀ k c, l[k]? = some c → w.cell? ⟨b, off + k * 2, none⟩ = some (.int .i64 c.lo) ∧ w.cell? ⟨b, off + k * 2 + 1, none⟩ = some (.int .i64 c.hi) := by
  obtain ⟨b, off, e, hb, hc⟩ := h.2 hn
  refine ⟨b, off, e, hb, fun k c hk => ?_⟩
  have := cellsS_at l k c hk
  exact ⟨hc _ _ this.1, hc _ _ this.2⟩
theorem readsS_one {w : World} {c : Sp} {t : TypeId} {B : Nat} (hB : w.heap.size < B) : Reads (w.alloc (.cells #[.int .i64 c.lo, .int .i64 c.hi] t)) B 2 (some ⟨w.heap.size, 0, none⟩) 1 (cellsS [c]) := by
  refine ⟨by rw [length_cellsS]; rfl, fun _ => ⟨_, 0, rfl, hB, fun j u hu => ?_⟩⟩
  rw [cell_of_row _ _ _ _ _ _ (heap_alloc_new _ _)]
  simpa [cellsS, cells2] using hu
def eqLS : List Sp → List Sp → Bool
  | [], [] => true
  | c :: a, d :: b => eqS c d && eqLS a b
  | _, _ => false
theorem eqLS_iff : ∀ (a b : List Sp), eqLS a b = true ↔ a = b
  | [], [] => by simp [eqLS]
  | c :: a, d :: b => by simp [eqLS, eqLS_iff a b, eqS_iff]
  | [], _ :: _ => by simp [eqLS]
  | _ :: _, [] => by simp [eqLS]
theorem eqLS_no {a b : List Sp} (h : a ≠ b) : eqLS a b = false := by
  cases h2 : eqLS a b
  · rfl
  · exact absurd ((eqLS_iff a b).1 h2) h
theorem eqLS_self (a : List Sp) : eqLS a a = true := (eqLS_iff a a).2 rfl
theorem sp_ne_at {a b : List Sp} {k : Nat} {c d : Sp} (hc : a[k]? = some c) (hd : b[k]? = some d) (h : c ≠ d) : a ≠ b := by
  rintro rfl; rw [hc] at hd; injection hd with hd; exact h hd
theorem cellsS_set (l : List Sp) (k : Nat) (hk : k < l.length) (c : Sp) : ((cellsS l).set (k * 2) (.int .i64 c.lo)).set (k * 2 + 1) (.int .i64 c.hi) = cellsS (l.set k c) := by
  induction l generalizing k with
  | nil => simp at hk
  | cons d l ih =>
    cases k with
    | zero => rfl
    | succ k =>
      have := ih k (by simpa using hk)
      simp only [cellsS, List.flatMap_cons, List.set_cons_succ] at *
      rw [← this, show cells2 d = [Value.int .i64 d.lo, .int .i64 d.hi] from rfl]
      rw [show (k + 1) * 2 = k * 2 + 1 + 1 from by omega, show k * 2 + 1 + 1 + 1 = k * 2 + 1 + 1 + 1 from rfl]
      simp
theorem own_store2 {w : World} {base e g n cap : Nat} {l : List Sp} (h : w.ownsRow base e 2 (.slice (some ⟨g, 0, none⟩) n cap) n (cellsS l)) {k : Nat} (hk : k < l.length) (c : Sp) :
    ((w.setCell ⟨g, k * 2, none⟩ (.int .i64 c.lo)).setCell ⟨g, k * 2 + 1, none⟩ (.int .i64 c.hi)).ownsRow base e 2 (.slice (some ⟨g, 0, none⟩) n cap) n (cellsS (l.set k c)) := by
  have h1 := (h.stored (k * 2) (.int .i64 c.lo)).1
  have h2 := (h1.stored (k * 2 + 1) (.int .i64 c.hi)).1
  rw [cellsS_set l k hk c] at h2
  exact h2
theorem own_cellsS {w : World} {base e g n cap : Nat} {l : List Sp} (h : w.ownsRow base e 2 (.slice (some ⟨g, 0, none⟩) n cap) n (cellsS l)) {k : Nat} {c : Sp} (hk : l[k]? = some c) :
    w.cell? ⟨g, k * 2, none⟩ = some (.int .i64 c.lo) ∧ w.cell? ⟨g, k * 2 + 1, none⟩ = some (.int .i64 c.hi) ∧
    w.frozen? ⟨g, k * 2, none⟩ = false ∧ w.frozen? ⟨g, k * 2 + 1, none⟩ = false := by
  have hl : l.length = n := by have := h.1; rw [length_cellsS] at this; omega
  have hkl : k < l.length := (List.getElem?_eq_some_iff.1 hk).1
  obtain ⟨h1, h2⟩ := cellsS_at l k c hk
  exact ⟨(h.cellAt _ (by omega)).trans h1, (h.cellAt _ (by omega)).trans h2, h.frozenAt _, h.frozenAt _⟩
def zeroS : Sp := ⟨0, 0⟩
theorem zero_cellsS (n : Nat) : (madeCells (Value.agg #[.int .i64 0, .int .i64 0]).cells (n * 2)).toList = cellsS (List.replicate n zeroS) := by
  have h1 : cellsS (List.replicate n zeroS) = List.replicate (n * 2) (.int .i64 0) := by
    rw [List.eq_replicate_iff]
    refine ⟨by rw [length_cellsS, List.length_replicate], fun u hu => ?_⟩
    simp only [cellsS, List.mem_flatMap, List.mem_replicate, cells2, List.mem_cons, List.not_mem_nil, or_false] at hu
    obtain ⟨c, ⟨_, rfl⟩, rfl | rfl⟩ := hu <;> rfl
  rw [h1, List.eq_replicate_iff]
  refine ⟨by simp [madeCells], fun u hu => ?_⟩
  simp only [madeCells, Array.toList_map, List.mem_map, Array.toList_range, List.mem_range] at hu
  obtain ⟨j, _, rfl⟩ := hu
  have hj : j % 2 < 2 := Nat.mod_lt _ (by decide)
  show (#[Value.int .i64 0, .int .i64 0])[j % 2]! = _
  generalize j % 2 = m at hj
  match m, hj with
  | 0, _ => rfl
  | 1, _ => rfl
def fillS (l : List Sp) (k : Nat) : List Sp := l.take k ++ List.replicate (l.length - k) zeroS
theorem fillS_at {l : List Sp} {k : Nat} (hk : k < l.length) : (fillS l k)[k]? = some zeroS := by
  unfold fillS
  rw [List.getElem?_append_right (by simp; omega), List.length_take, Nat.min_eq_left (by omega), Nat.sub_self, List.getElem?_replicate, if_pos (by omega)]
theorem fillS_set {l : List Sp} {k : Nat} (hk : k < l.length) : (fillS l k).set k l[k] = fillS l (k+1) := by
  unfold fillS
  rw [List.set_append_right _ _ (by simp; omega), List.length_take, Nat.min_eq_left (by omega), Nat.sub_self, List.take_add_one, List.getElem?_eq_getElem hk]
  rw [show l.length - k = (l.length - (k+1)) + 1 from by omega, List.replicate_succ, List.set_cons_zero]
  simp only [Option.toList, List.append_assoc, List.cons_append, List.nil_append]
theorem fillS_len {l : List Sp} {k : Nat} (hk : k ≤ l.length) : (fillS l k).length = l.length := by
  unfold fillS; simp; omega
/-- The marks 1, 2, 3 .. laid into n spans. -/
def markS (n : Nat) : List Sp := (List.range n).map fun (i : Nat) => (⟨1 + 2 * (i : Int), 1 + 2 * (i : Int) + 1⟩ : Sp)
def halfS (l : List Sp) (k : Nat) : List Sp := markS k ++ l.drop k
theorem markS_len (n : Nat) : (markS n).length = n := by simp [markS]
theorem halfS_at {l : List Sp} {k : Nat} (hk : k < l.length) : (halfS l k)[k]? = some l[k] := by
  unfold halfS
  rw [List.getElem?_append_right (by simp [markS_len]), markS_len, Nat.sub_self, List.getElem?_drop, Nat.add_zero, List.getElem?_eq_getElem hk]
theorem halfS_set {l : List Sp} {k : Nat} (hk : k < l.length) : (halfS l k).set k ⟨1 + 2 * (k : Int), 1 + 2 * (k : Int) + 1⟩ = halfS l (k+1) := by
  unfold halfS
  rw [List.set_append_right _ _ (by simp [markS_len]), markS_len, Nat.sub_self, List.drop_eq_getElem_cons hk, List.set_cons_zero]
  simp only [markS, List.range_succ, List.map_append, List.map_cons, List.map_nil, List.append_assoc, List.cons_append, List.nil_append]
theorem halfS_len {l : List Sp} {k : Nat} (hk : k ≤ l.length) : (halfS l k).length = l.length := by
  unfold halfS; simp [markS_len]; omega
theorem markS_at {n k : Nat} (hk : k < n) : (markS n)[k]? = some ⟨1 + 2 * (k : Int), 1 + 2 * (k : Int) + 1⟩ := by
  simp [markS, hk]
end Go.Proofs.Ytfkfjkhikgnnaaa
