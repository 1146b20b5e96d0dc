/- Structs of three numbers as plain data, lists of numbers, and rows of them in memory; no function of the program. -/
import Derived.Test.YtfkfjkhikgnnaaaBase
namespace Go.Proofs.Ytfkfjkhikgnnaaa
open Go.RowKit

def inR (n lo hi : Int) : Bool := decide (lo ≤ n) && decide (n ≤ hi)
structure Ctx where
  id : Int
  kind : Int
  area : Int
theorem Ctx.ext_ {a b : Ctx} (h1 : a.id = b.id) (h2 : a.kind = b.kind) (h3 : a.area = b.area) : a = b := by cases a; cases b; simp_all
def cells3 (c : Ctx) : List Value := [.int .i64 c.id, .int .i64 c.kind, .int .i64 c.area]
def cellsC (l : List Ctx) : List Value := l.flatMap cells3
def eqC (a b : Ctx) : Bool := decide (a.id = b.id) && (decide (a.kind = b.kind) && decide (a.area = b.area))
theorem eqC_iff (a b : Ctx) : eqC a b = true ↔ a = b := by
  simp only [eqC, Bool.and_eq_true, decide_eq_true_eq]
  exact ⟨fun ⟨h1, h2, h3⟩ => Ctx.ext_ h1 h2 h3, fun h => by subst h; exact ⟨rfl, rfl, rfl⟩⟩
theorem length_cellsC (l : List Ctx) : (cellsC l).length = l.length * 3 := by
  induction l with
  | nil => rfl
  | cons c l ih => simp only [cellsC, List.flatMap_cons, List.length_append] at *; rw [ih]; simp [cells3]; omega
theorem cellsC_append (l m : List Ctx) : cellsC (l ++ m) = cellsC l ++ cellsC m := by simp [cellsC]
theorem cellsC_one (l : List Ctx) : ∀ u ∈ cellsC l, u.oneCell' = true := by
  intro u hu
  simp only [cellsC, List.mem_flatMap, cells3, List.mem_cons, List.not_mem_nil, or_false] at hu
  obtain ⟨c, _, rfl | rfl | rfl⟩ := hu <;> rfl
theorem cellsC_at (l : List Ctx) (k : Nat) (c : Ctx) (h : l[k]? = some c) : (cellsC l)[k * 3]? = some (.int .i64 c.id) ∧ (cellsC l)[k * 3 + 1]? = some (.int .i64 c.kind) ∧ (cellsC l)[k * 3 + 2]? = some (.int .i64 c.area) := by
  induction l generalizing k with
  | nil => simp at h
  | cons d l ih =>
    cases k with
    | zero => simp at h; subst h; simp [cellsC, cells3]
    | succ k =>
      have := ih k (by simpa using h)
      have e : ∀ j, (cellsC (d :: l))[(k+1) * 3 + j]? = (cellsC l)[k * 3 + j]? := by
        intro j
        simp only [cellsC, List.flatMap_cons]
        rw [show cells3 d = [Value.int .i64 d.id, .int .i64 d.kind, .int .i64 d.area] from rfl]
        rw [List.getElem?_append_right (by simp; omega)]
        congr 1
        simp; omega
      exact ⟨(e 0).trans this.1, (e 1).trans this.2.1, (e 2).trans this.2.2⟩
theorem cellsC_take (l : List Ctx) (k : Nat) : (cellsC l).take (k * 3) = cellsC (l.take k) := by
  induction l generalizing k with
  | nil => simp [cellsC]
  | cons d l ih =>
    cases k with
    | zero => simp [cellsC]
    | succ k =>
      have := ih k
      simp only [cellsC, List.flatMap_cons, List.take_succ_cons] at *
      rw [show (k + 1) * 3 = (cells3 d).length + k * 3 from by simp [cells3]; omega, List.take_length_add_append, this]
theorem cellsC_drop (l : List Ctx) (k : Nat) : (cellsC l).drop (k * 3) = cellsC (l.drop k) := by
  induction l generalizing k with
  | nil => simp [cellsC]
  | cons d l ih =>
    cases k with
    | zero => simp [cellsC]
    | succ k =>
      have := ih k
      simp only [cellsC, List.flatMap_cons, List.drop_succ_cons] at *
      rw [show (k + 1) * 3 = (cells3 d).length + k * 3 from by simp [cells3]; omega, List.drop_append, Nat.add_sub_cancel_left, this]
      simp [cells3]
theorem Reads.ctx {w : World} {B n : Nat} {A : Option Addr} {l : List Ctx} (h : Reads w B 3 A n (cellsC l)) (hn : 0 < n) : ∃ b off, A = some ⟨b, off, none⟩ ∧ b < B ∧
    ∀ k c, l[k]? = some c → w.cell? ⟨b, off + k * 3, none⟩ = some (.int .i64 c.id) ∧ w.cell? ⟨b, off + k * 3 + 1, none⟩ = some (.int .i64 c.kind) ∧ w.cell? ⟨b, off + k * 3 + 2, none⟩ = some (.int .i64 c.area) := by
  obtain ⟨b, off, e, hb, hc⟩ := h.2 hn
  refine ⟨b, off, e, hb, fun k c hk => ?_⟩
  have := cellsC_at l k c hk
  exact ⟨hc _ _ this.1, hc _ _ this.2.1, hc _ _ this.2.2⟩
theorem Reads.len {w : World} {B n : Nat} {A : Option Addr} {l : List Ctx} (h : Reads w B 3 A n (cellsC l)) : n = l.length := by
  have := h.1; rw [length_cellsC] at this; omega
theorem Reads.cutC {w : World} {B n i j : Nat} {A : Option Addr} {l : List Ctx} (h : Reads w B 3 A n (cellsC l)) (hij : i ≤ j) (hj : j ≤ n) :
    Reads w B 3 (A.map (·.add (i * 3))) (j - i) (cellsC ((l.drop i).take (j - i))) := by
  have := h.part hij hj
  rw [cellsC_drop, cellsC_take] at this
  exact this
def lenOfV : Value → Nat
  | .slice _ n _ => n
  | _ => 0
theorem own_len {w : World} {base e size n : Nat} {v : Value} {xs : List Value} (h : w.ownsRow base e size v n xs) : lenOfV v = n := by
  obtain ⟨A, c, rfl, _⟩ := Reads.of_own h
  rfl
theorem reads_one {w : World} {c : Ctx} {t : TypeId} {B : Nat} (hB : w.heap.size < B) : Reads (w.alloc (.cells #[.int .i64 c.id, .int .i64 c.kind, .int .i64 c.area] t)) B 3 (some ⟨w.heap.size, 0, none⟩) 1 (cellsC [c]) := by
  refine ⟨by rw [length_cellsC]; rfl, fun _ => ⟨_, 0, rfl, hB, fun j u hu => ?_⟩⟩
  rw [cell_of_row _ _ _ _ _ _ (heap_alloc_new _ _)]
  simpa [cellsC, cells3] using hu
theorem Reads.tailC {w : World} {B n k : Nat} {A A2 : Option Addr} {l : List Ctx} (h : Reads w B 3 A n (cellsC l)) (hk : k ≤ n) (hA : 0 < n - k → A2 = A.map (·.add (k * 3))) : Reads w B 3 A2 (n - k) (cellsC (l.drop k)) := by
  have h1 := h.cutC hk (Nat.le_refl n)
  have hl := h.len
  rw [List.take_of_length_le (by rw [List.length_drop]; omega)] at h1
  refine ⟨h1.1, fun hn => ?_⟩
  rw [hA hn]
  exact h1.2 hn
theorem Reads.headC {w : World} {B n k : Nat} {A : Option Addr} {l : List Ctx} (h : Reads w B 3 A n (cellsC l)) (hk : k ≤ n) : Reads w B 3 A k (cellsC (l.take k)) := by
  refine ⟨by rw [length_cellsC, List.length_take, ← h.len]; omega, fun hn => ?_⟩
  obtain ⟨b, off, e, hb, hc⟩ := h.2 (by omega)
  refine ⟨b, off, e, hb, fun j u hu => hc j u ?_⟩
  rw [← cellsC_take, List.getElem?_take] at hu
  split at hu
  · exact hu
  · cases hu
theorem reads_new {w w2 : World} {g : Nat} {c : Ctx} {t : TypeId} {row : Option Nat} (hg : w.heap[g]? = some (.cells #[.int .i64 c.id, .int .i64 c.kind, .int .i64 c.area] t (0, 0))) (h2 : w.grownBy w2 row) (hne : some g ≠ row) : Reads w2 w2.heap.size 3 (some ⟨g, 0, none⟩) 1 (cellsC [c]) := by
  have hlt := (Array.getElem?_eq_some_iff.1 hg).1
  refine ⟨by rw [length_cellsC]; rfl, fun _ => ⟨g, 0, rfl, Nat.lt_of_lt_of_le hlt h2.size, fun j u hu => ?_⟩⟩
  rw [cell_of_row _ _ _ _ _ _ ((h2.block g hlt hne).trans hg)]
  simpa [cellsC, cells3] using hu
theorem own_lit {w : World} {base e g : Nat} (hb : base ≤ w.heap.size) (hg : g = w.heap.size) : (w.alloc (.cells #[] e)).ownsRow base e 3 (.slice (some ⟨g, 0, none⟩) 0 0) ([] : List Ctx).length (cellsC []) := own_empty hb hg
def eqLC : List Ctx → List Ctx → Bool
  | [], [] => true
  | c :: a, d :: b => eqC c d && eqLC a b
  | _, _ => false
theorem eqLC_iff : ∀ (a b : List Ctx), eqLC a b = true ↔ a = b
  | [], [] => by simp [eqLC]
  | c :: a, d :: b => by simp [eqLC, eqLC_iff a b, eqC_iff]
  | [], _ :: _ => by simp [eqLC]
  | _ :: _, [] => by simp [eqLC]
theorem eqLC_no {a b : List Ctx} (h : a ≠ b) : eqLC a b = false := by
  cases h2 : eqLC a b
  · rfl
  · exact absurd ((eqLC_iff a b).1 h2) h
theorem eqLC_self (a : List Ctx) : eqLC a a = true := (eqLC_iff a a).2 rfl
theorem eqC_self (a : Ctx) : eqC a a = true := (eqC_iff a a).2 rfl
theorem eqC_no {a b : Ctx} (h : a ≠ b) : eqC a b = false := by
  cases h2 : eqC a b
  · rfl
  · exact absurd ((eqC_iff a b).1 h2) h
theorem ctx_ne_at {a b : List Ctx} {k : Nat} {c d : Ctx} (hc : a[k]? = some c) (hd : b[k]? = some d) (h : c ≠ d) : a ≠ b := by
  rintro rfl; rw [hc] at hd; injection hd with hd; exact h hd
theorem cellsC_set (l : List Ctx) (k : Nat) (hk : k < l.length) (c : Ctx) : (((cellsC l).set (k * 3) (.int .i64 c.id)).set (k * 3 + 1) (.int .i64 c.kind)).set (k * 3 + 2) (.int .i64 c.area) = cellsC (l.set k c) := by
  induction l generalizing k with
  | nil => simp at hk
  | cons d l ih =>
    cases k with
    | zero => rfl
    | succ k =>
      have := ih k (by simpa using hk)
      simp only [cellsC, List.flatMap_cons, List.set_cons_succ] at *
      rw [← this, show cells3 d = [Value.int .i64 d.id, .int .i64 d.kind, .int .i64 d.area] from rfl]
      rw [show (k + 1) * 3 = k * 3 + 1 + 1 + 1 from by omega, show k * 3 + 1 + 1 + 1 + 1 = k * 3 + 1 + 1 + 1 + 1 from rfl]
      simp
theorem own_store3 {w : World} {base e g n cap : Nat} {l : List Ctx} (h : w.ownsRow base e 3 (.slice (some ⟨g, 0, none⟩) n cap) n (cellsC l)) {k : Nat} (hk : k < l.length) (c : Ctx) :
    (((w.setCell ⟨g, k * 3, none⟩ (.int .i64 c.id)).setCell ⟨g, k * 3 + 1, none⟩ (.int .i64 c.kind)).setCell ⟨g, k * 3 + 2, none⟩ (.int .i64 c.area)).ownsRow base e 3 (.slice (some ⟨g, 0, none⟩) n cap) n (cellsC (l.set k c)) := by
  have h1 := (h.stored (k * 3) (.int .i64 c.id)).1
  have h2 := (h1.stored (k * 3 + 1) (.int .i64 c.kind)).1
  have h3 := (h2.stored (k * 3 + 2) (.int .i64 c.area)).1
  rw [cellsC_set l k hk c] at h3
  exact h3
theorem own_cells {w : World} {base e g n cap : Nat} {l : List Ctx} (h : w.ownsRow base e 3 (.slice (some ⟨g, 0, none⟩) n cap) n (cellsC l)) {k : Nat} {c : Ctx} (hk : l[k]? = some c) :
    w.cell? ⟨g, k * 3, none⟩ = some (.int .i64 c.id) ∧ w.cell? ⟨g, k * 3 + 1, none⟩ = some (.int .i64 c.kind) ∧ w.cell? ⟨g, k * 3 + 2, none⟩ = some (.int .i64 c.area) ∧
    w.frozen? ⟨g, k * 3, none⟩ = false ∧ w.frozen? ⟨g, k * 3 + 1, none⟩ = false ∧ w.frozen? ⟨g, k * 3 + 2, none⟩ = false := by
  have hl : l.length = n := by have := h.1; rw [length_cellsC] at this; omega
  have hkl : k < l.length := (List.getElem?_eq_some_iff.1 hk).1
  obtain ⟨h1, h2, h3⟩ := cellsC_at l k c hk
  exact ⟨(h.cellAt _ (by omega)).trans h1, (h.cellAt _ (by omega)).trans h2, (h.cellAt _ (by omega)).trans h3, h.frozenAt _, h.frozenAt _, h.frozenAt _⟩
theorem grown_store {w0 w : World} {g j : Nat} {u : Value} (h : w0.grownBy w (some g)) : w0.grownBy (w.setCell ⟨g, j, none⟩ u) (some g) :=
  ⟨h.os, h.tape, h.output, by simpa [World.setCell] using h.size, fun i hi hne => (Below.heap_setCell w ⟨g, j, none⟩ u i (fun e => hne (by rw [e]))).trans (h.block i hi hne)⟩
def zeroC : Ctx := ⟨0, 0, 0⟩
theorem zero_cells (n : Nat) : (madeCells (Value.agg #[.int .i64 0, .int .i64 0, .int .i64 0]).cells (n * 3)).toList = cellsC (List.replicate n zeroC) := by
  have h1 : cellsC (List.replicate n zeroC) = List.replicate (n * 3) (.int .i64 0) := by
    rw [List.eq_replicate_iff]
    refine ⟨by rw [length_cellsC, List.length_replicate], fun u hu => ?_⟩
    simp only [cellsC, List.mem_flatMap, List.mem_replicate, cells3, List.mem_cons, List.not_mem_nil, or_false] at hu
    obtain ⟨c, ⟨_, rfl⟩, rfl | rfl | rfl⟩ := hu <;> rfl
  rw [h1, List.eq_replicate_iff]
  refine ⟨by simp [madeCells], fun u hu => ?_⟩
  simp only [madeCells, Array.toList_map, List.mem_map, Array.toList_range, List.mem_range] at hu
  obtain ⟨j, _, rfl⟩ := hu
  have hj : j % 3 < 3 := Nat.mod_lt _ (by decide)
  show (#[Value.int .i64 0, .int .i64 0, .int .i64 0])[j % 3]! = _
  generalize j % 3 = m at hj
  match m, hj with
  | 0, _ => rfl
  | 1, _ => rfl
  | 2, _ => rfl
def fillC (l : List Ctx) (k : Nat) : List Ctx := l.take k ++ List.replicate (l.length - k) zeroC
theorem fillC_at {l : List Ctx} {k : Nat} (hk : k < l.length) : (fillC l k)[k]? = some zeroC := by
  unfold fillC
  rw [List.getElem?_append_right (by simp; omega), List.length_take, Nat.min_eq_left (by omega), Nat.sub_self, List.getElem?_replicate, if_pos (by omega)]
theorem fillC_set {l : List Ctx} {k : Nat} (hk : k < l.length) : (fillC l k).set k l[k] = fillC l (k+1) := by
  unfold fillC
  rw [List.set_append_right _ _ (by simp; omega), List.length_take, Nat.min_eq_left (by omega), Nat.sub_self, List.take_add_one, List.getElem?_eq_getElem hk]
  rw [show l.length - k = (l.length - (k+1)) + 1 from by omega, List.replicate_succ, List.set_cons_zero]
  simp only [Option.toList, List.append_assoc, List.cons_append, List.nil_append]
theorem fillC_len {l : List Ctx} {k : Nat} (hk : k ≤ l.length) : (fillC l k).length = l.length := by
  unfold fillC; simp; omega
/-- The marks 1, 2, 3 .. laid into n contexts. -/
def markC (n : Nat) : List Ctx := (List.range n).map fun (i : Nat) => (⟨1 + 3 * (i : Int), 1 + 3 * (i : Int) + 1, 1 + 3 * (i : Int) + 1 + 1⟩ : Ctx)
def halfC (l : List Ctx) (k : Nat) : List Ctx := markC k ++ l.drop k
theorem markC_len (n : Nat) : (markC n).length = n := by simp [markC]
theorem halfC_at {l : List Ctx} {k : Nat} (hk : k < l.length) : (halfC l k)[k]? = some l[k] := by
  unfold halfC
  rw [List.getElem?_append_right (by simp [markC_len]), markC_len, Nat.sub_self, List.getElem?_drop, Nat.add_zero, List.getElem?_eq_getElem hk]
theorem halfC_set {l : List Ctx} {k : Nat} (hk : k < l.length) : (halfC l k).set k ⟨1 + 3 * (k : Int), 1 + 3 * (k : Int) + 1, 1 + 3 * (k : Int) + 1 + 1⟩ = halfC l (k+1) := by
  unfold halfC
  rw [List.set_append_right _ _ (by simp [markC_len]), markC_len, Nat.sub_self, List.drop_eq_getElem_cons hk, List.set_cons_zero]
  simp only [markC, List.range_succ, List.map_append, List.map_cons, List.map_nil, List.append_assoc, List.cons_append, List.nil_append]
theorem halfC_len {l : List Ctx} {k : Nat} (hk : k ≤ l.length) : (halfC l k).length = l.length := by
  unfold halfC; simp [markC_len]; omega
theorem markC_at {n k : Nat} (hk : k < n) : (markC n)[k]? = some ⟨1 + 3 * (k : Int), 1 + 3 * (k : Int) + 1, 1 + 3 * (k : Int) + 1 + 1⟩ := by
  simp [markC, hk]
def cellsI (l : List Int) : List Value := l.map (Value.int .i64)
theorem cellsI_one (l : List Int) : ∀ u ∈ cellsI l, u.oneCell' = true := by
  intro u hu
  simp only [cellsI, List.mem_map] at hu
  obtain ⟨x, _, rfl⟩ := hu
  rfl
theorem reads_int {w : World} {n : Int} {t : TypeId} {B : Nat} (hB : w.heap.size < B) : Reads (w.alloc (.cells #[.int .i64 n] t)) B 1 (some ⟨w.heap.size, 0, none⟩) 1 (cellsI [n]) := by
  refine ⟨rfl, fun _ => ⟨_, 0, rfl, hB, fun j u hu => ?_⟩⟩
  rw [cell_of_row _ _ _ _ _ _ (heap_alloc_new _ _)]
  simpa [cellsI] using hu
theorem length_cellsI (l : List Int) : (cellsI l).length = l.length := by simp [cellsI]
theorem Reads.ints {w : World} {B n : Nat} {A : Option Addr} {l : List Int} (h : Reads w B 1 A n (cellsI l)) (hn : 0 < n) : ∃ b off, A = some ⟨b, off, none⟩ ∧ b < B ∧
    ∀ k x, l[k]? = some x → w.cell? ⟨b, off + k, none⟩ = some (.int .i64 x) := by
  obtain ⟨b, off, e, hb, hc⟩ := h.2 hn
  exact ⟨b, off, e, hb, fun k x hk => hc k _ (by simp [cellsI, hk])⟩
def eqLI (a b : List Int) : Bool := decide (a = b)
theorem eqLI_no {a b : List Int} (h : a ≠ b) : eqLI a b = false := by simp [eqLI, h]
theorem eqLI_self (a : List Int) : eqLI a a = true := by simp [eqLI]
theorem int_ne_at {a b : List Int} {k : Nat} {c d : Int} (hc : a[k]? = some c) (hd : b[k]? = some d) (h : c ≠ d) : a ≠ b := by
  rintro rfl; rw [hc] at hd; injection hd with hd; exact h hd
theorem own_storeI {w : World} {base e g n cap : Nat} {l : List Int} (h : w.ownsRow base e 1 (.slice (some ⟨g, 0, none⟩) n cap) n (cellsI l)) (k : Nat) (x : Int) :
    (w.setCell ⟨g, k, none⟩ (.int .i64 x)).ownsRow base e 1 (.slice (some ⟨g, 0, none⟩) n cap) n (cellsI (l.set k x)) := by
  have h1 := (h.stored k (.int .i64 x)).1
  rw [show (cellsI l).set k (.int .i64 x) = cellsI (l.set k x) from by simp [cellsI, List.map_set]] at h1
  exact h1
theorem own_cellI {w : World} {base e g n cap : Nat} {l : List Int} (h : w.ownsRow base e 1 (.slice (some ⟨g, 0, none⟩) n cap) n (cellsI l)) {k : Nat} {x : Int} (hk : l[k]? = some x) :
    w.cell? ⟨g, k, none⟩ = some (.int .i64 x) ∧ w.frozen? ⟨g, k, none⟩ = false := by
  have hl : l.length = n := by have := h.1; rw [length_cellsI] at this; omega
  have hkl : k < l.length := (List.getElem?_eq_some_iff.1 hk).1
  exact ⟨(h.cellAt _ (by omega)).trans (by simp [cellsI, hk]), h.frozenAt _⟩
/-- The marks 1, 2, 3 .. laid into n numbers. -/
def markI (n : Nat) : List Int := (List.range n).map fun (i : Nat) => 1 + (i : Int)
def halfI (l : List Int) (k : Nat) : List Int := markI k ++ l.drop k
theorem markI_len (n : Nat) : (markI n).length = n := by simp [markI]
theorem halfI_at {l : List Int} {k : Nat} (hk : k < l.length) : (halfI l k)[k]? = some l[k] := by
  unfold halfI
  rw [List.getElem?_append_right (by simp [markI_len]), markI_len, Nat.sub_self, List.getElem?_drop, Nat.add_zero, List.getElem?_eq_getElem hk]
theorem halfI_set {l : List Int} {k : Nat} (hk : k < l.length) : (halfI l k).set k (1 + (k : Int)) = halfI l (k+1) := by
  unfold halfI
  rw [List.set_append_right _ _ (by simp [markI_len]), markI_len, Nat.sub_self, List.drop_eq_getElem_cons hk, List.set_cons_zero]
  simp only [markI, List.range_succ, List.map_append, List.map_cons, List.map_nil, List.append_assoc, List.cons_append, List.nil_append]
theorem markI_at {n k : Nat} (hk : k < n) : (markI n)[k]? = some (1 + (k : Int)) := by simp [markI, hk]
theorem own_reads {w : World} {base e size n n2 c : Nat} {A : Option Addr} {xs : List Value} (h : w.ownsRow base e size (.slice A n2 c) n xs) : Reads w w.heap.size size A n xs := by
  obtain ⟨A2, c2, hv, _, hr⟩ := Reads.of_own h
  injection hv with hA
  subst hA
  exact hr
theorem own_slice {w : World} {base e size n : Nat} {v : Value} {xs : List Value} (h : w.ownsRow base e size v n xs) : ∃ A c, v = .slice A n c ∧ n ≤ c ∧ Reads w w.heap.size size A n xs := Reads.of_own h
/-- Another row of the call's own is not touched where only this one's block has turned. -/
theorem own_other {w w2 : World} {base base2 e e2 size size2 n n2 : Nat} {v v2 : Value} {xs ys : List Value} (h : w.ownsRow base e size v n xs) (_ : w.ownsRow base2 e2 size2 v2 n2 ys) (hne : ∀ g, v.ownBlock = some g → v2.ownBlock ≠ some g) (hg : w.grownBy w2 v2.ownBlock) : w2.ownsRow base e size v n xs := by
  refine h.kept hg ?_
  cases hv : v.ownBlock with
  | none => exact .inl rfl
  | some g => exact .inr (fun e => hne g hv e.symm)
theorem own_far {w w0 : World} {base e e2 size size2 n n2 base2 : Nat} {v v2 : Value} {xs ys : List Value} (h0 : w0.ownsRow base e size v n xs) (h : w.ownsRow base2 e2 size2 v2 n2 ys) (hb : w0.heap.size ≤ base2) : ∀ g, v.ownBlock = some g → v2.ownBlock ≠ some g := by
  intro g hg hg2
  have h1 := (h0.lt g hg).2
  have h2 := (h.lt g hg2).1
  omega
theorem own_far2 {w w0 : World} {base e e2 size size2 n n2 base2 : Nat} {v v2 : Value} {xs ys : List Value} (h0 : w0.ownsRow base e size v n xs) (h : w.ownsRow base2 e2 size2 v2 n2 ys) (hb : w0.heap.size ≤ base2) : ∀ g, v2.ownBlock = some g → v.ownBlock ≠ some g := by
  intro g hg hg2
  exact own_far h0 h hb g hg2 hg
theorem below_own {w0 w w2 : World} {base e size n : Nat} {v : Value} {xs : List Value} (h : w.ownsRow base e size v n xs) (hg : w.grownBy w2 v.ownBlock) (hb : Below w0.heap.size w0 w) (hbase : w0.heap.size ≤ base) : Below w0.heap.size w0 w2 := below_grown h hg hb hbase
theorem grown_cells {w w2 : World} {g : Nat} (h : w.grownBy w2 (some g)) : (∀ b o, b < w.heap.size → ¬ b = g → w2.cell? ⟨b, o, none⟩ = w.cell? ⟨b, o, none⟩) ∧ (∀ b o, b < w.heap.size → ¬ b = g → w2.frozen? ⟨b, o, none⟩ = w.frozen? ⟨b, o, none⟩) :=
  ⟨fun b o hb hne => World.cell?_of_block (w := w) (a := ⟨b, o, none⟩) (h.block b hb (fun e => hne (by injection e))), fun b o hb hne => World.frozen?_of_block (w := w) (a := ⟨b, o, none⟩) (h.block b hb (fun e => hne (by injection e)))⟩
theorem grown_new {a w : World} {row : Option Nat} (h : a.grownBy w row) {p : Addr} (hp : a.heap.size ≤ p.block) (u : Value) : a.grownBy (w.setCell p u) row :=
  ⟨h.os, h.tape, h.output, by simpa [World.setCell] using h.size, fun i hi hne => (Below.heap_setCell w p u i (by omega)).trans (h.block i hi hne)⟩
theorem grown_alloc {a w : World} {row : Option Nat} (h : a.grownBy w row) (o : Obj) : a.grownBy (w.alloc o) row := h.trans (World.grownBy_alloc w o row)
theorem grown_of_below {a w : World} (h : Below a.heap.size a w) (row : Option Nat) : a.grownBy w row := ⟨h.os, h.tape, h.output, h.size, fun i hi _ => h.block i hi⟩
theorem grown_below {w0 a w : World} {g : Nat} (h : a.grownBy w (some g)) (hb : Below w0.heap.size w0 a) (hg : w0.heap.size ≤ g) : Below w0.heap.size w0 w := hb.grown h hb.size (fun k hk => by injection hk with hk; omega)
theorem row_keep {W W2 : World} {g b : Nat} {o : Obj} (hg : W.grownBy W2 (some g)) (h : W.heap[b]? = some o) (hne : ¬ b = g) : W2.heap[b]? = some o :=
  (hg.block b (Array.getElem?_eq_some_iff.1 h).1 (fun e => hne (by injection e))).trans h
theorem row_alloc {W : World} {b : Nat} {o o2 : Obj} (h : W.heap[b]? = some o) : (W.alloc o2).heap[b]? = some o := (Below.heap_alloc W o2 b (Array.getElem?_eq_some_iff.1 h).1).trans h
theorem own_drawn {w w0 w2 : World} {g e size n : Nat} {v : Value} {xs : List Value} (h : w.ownsRow w0.heap.size e size v n xs) (hg : w.grownBy w2 (some g)) (hlt : g < w0.heap.size) : w2.ownsRow w0.heap.size e size v n xs := by
  refine h.kept hg ?_
  cases hv : v.ownBlock with
  | none => exact .inl rfl
  | some b => exact .inr (fun e => by injection e with e; have := (h.lt b hv).1; omega)
theorem grown_row {a w w2 : World} {g base e size n : Nat} {v : Value} {xs : List Value} (h : a.grownBy w (some g)) (ho : w.ownsRow base e size v n xs) (hb : a.heap.size ≤ base) (hg : w.grownBy w2 v.ownBlock) : a.grownBy w2 (some g) :=
  ⟨hg.os.trans h.os, hg.tape.trans h.tape, hg.output.trans h.output, Nat.le_trans h.size hg.size, fun i hi hne => (hg.block i (Nat.lt_of_lt_of_le hi h.size) (fun e => by have := (ho.lt i e.symm).1; omega)).trans (h.block i hi hne)⟩
def cellsB (l : List Int) : List Value := l.map (Value.int .u8)
/-- A world behind the one in which the context was laid in a block of its own. -/
def Aft (t : TypeId) (w : World) (c : Ctx) (W : World) : Prop := Below (w.alloc (.cells #[.int .i64 c.id, .int .i64 c.kind, .int .i64 c.area] t)).heap.size (w.alloc (.cells #[.int .i64 c.id, .int .i64 c.kind, .int .i64 c.area] t)) W
section
variable {t : TypeId} {w W W2 : World} {c : Ctx}
theorem Aft.cells (h : Aft t w c W) : W.cell? ⟨w.heap.size, 0, none⟩ = some (.int .i64 c.id) ∧ W.cell? ⟨w.heap.size, 1, none⟩ = some (.int .i64 c.kind) ∧ W.cell? ⟨w.heap.size, 2, none⟩ = some (.int .i64 c.area) := by
  refine ⟨?_, ?_, ?_⟩
  · exact (Below.cell h (p := ⟨w.heap.size, 0, none⟩) (by simp)).trans ((cell_of_row _ _ _ _ _ _ (heap_alloc_new _ _)).trans rfl)
  · exact (Below.cell h (p := ⟨w.heap.size, 1, none⟩) (by simp)).trans ((cell_of_row _ _ _ _ _ _ (heap_alloc_new _ _)).trans rfl)
  · exact (Below.cell h (p := ⟨w.heap.size, 2, none⟩) (by simp)).trans ((cell_of_row _ _ _ _ _ _ (heap_alloc_new _ _)).trans rfl)
theorem Aft.sz (h : Aft t w c W) : w.heap.size < W.heap.size := by
  have := Below.size h
  simp at this
  omega
theorem Aft.draws (h : Aft t w c W) (n : Nat) : Aft t w c (W.drewN n) := below_draws h n
theorem Aft.alloc (h : Aft t w c W) (o : Obj) : Aft t w c (W.alloc o) := Below.alloc h (Below.size h) o
theorem Aft.app {e size n : Nat} {v : Value} {xs : List Value} (h : Aft t w c W) (ho : W.ownsRow (w.heap.size + 1) e size v n xs) (hg : W.grownBy W2 v.ownBlock) : Aft t w c W2 :=
  Below.grown h hg (Below.size h) fun k hk => by have := (ho.lt k hk).1; simp; omega
theorem Aft.reads {A : Option Addr} {n : Nat} {xs : List Value} (h : Aft t w c W) (hr : Reads w w.heap.size 3 A n xs) : Reads W w.heap.size 3 A n xs :=
  hr.keep fun b o hb => ((Below.cell h (p := ⟨b, o, none⟩) (by simp; omega))).trans (World.cell?_alloc_lt _ _ _ hb)
theorem Aft.below (h : Aft t w c W) : Below w.heap.size w W := ((Below.refl _ _).alloc (Nat.le_refl _) _).trans (Below.mono h (by simp))
end
theorem Aft.step {t : TypeId} {w W W2 : World} {c : Ctx} (h : Aft t w c W) (k : Below W.heap.size W W2) : Aft t w c W2 := below_step h k
theorem Aft.list {t : TypeId} {w W : World} {c : Ctx} {A : Option Addr} {n : Nat} {xs : List Value} (h : Aft t w c W) (hr : Reads w w.heap.size 3 A n xs) : Reads W W.heap.size 3 A n xs := hr.step h.below
section
variable {P : Program} (w : World)
/-- An append in a region that draws its order, under a guard that holds. -/
theorem step_append_want {ops : Array Oper} {o : Oper} {a : Act} {K : Act → World → Prop} {Q : Exit → Act → World → Prop} {E : Prop} (hw : Region.wanted o (yielded ops a.tmps) = true) (s x : Operand) (t : TypeId)
    (ho : o.op = .call { callee := .builtin .append, args := #[s, x], argTypes := #[t, t] })
    (base : Nat) (e : TypeId) (i : TypeInfo) (z : Value) (size bytes : Nat) (ht : P.underlying t = some (.slice e)) (hi : P.info? e = some i) (hz : i.zero = some z)
    (hsize : i.size = size) (hby : i.bytes = bytes) (hzs : z.cells.size = size) (hsz : 0 < size)
    (v : Value) (n : Nat) (xs : List Value) (hs : a.eval s = v) (hown : w.ownsRow base e size v n xs)
    (B : Nat) (A : Option Addr) (m c : Nat) (news : List Value) (hx : a.eval x = .slice A m c) (hr : Reads w B size A m news) (h1 : ∀ u ∈ news, u.oneCell' = true)
    (h63 : n + m ≤ maxLen) (hbytes : (n + m) * bytes ≤ 140737488355328) (hbase : base ≤ w.heap.size)
    (h : ∀ v2 w2, w2.ownsRow base e size v2 (n + m) (xs ++ news) → w.grownBy w2 v.ownBlock → (v2.ownBlock = v.ownBlock ∨ v2.ownBlock = some w.heap.size) → K (a.put o.dst v2) w2) :
    if Region.wanted o (yielded ops a.tmps) = true then Oper.wp P o a w K Q else E := by
  rw [if_pos hw]
  obtain ⟨v2, w2, hrun, h2, h3, h4⟩ := run_append_reads (P := P) w base t o.type e i z size bytes ht hi hz hsize hby hzs hsz v n xs hown B A m c news hr h1 h63 hbytes hbase
  unfold Oper.wp execOp
  simp only [ho, resolve, invoke, builtin, Sem.run_bind, Sem.run_pure, Result.andThen_ok, List.map_toArray, List.map_cons, List.map_nil, hs, hx, hrun]
  exact h v2 w2 h2 h3 h4
end
end Go.Proofs.Ytfkfjkhikgnnaaa
