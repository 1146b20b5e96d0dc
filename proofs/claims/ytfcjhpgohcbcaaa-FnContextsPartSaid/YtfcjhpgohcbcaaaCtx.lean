/- Contexts as plain data: what is valid, found, added, listed; no program in sight. -/
import Derived.Test.YtfcjhpgohcbcaaaBase
namespace Go.Proofs.Ytfcjhpgohcbcaaa
open Go.RowKit

def inR (n lo hi : Int) : Bool := decide (lo ≤ n) && decide (n ≤ hi)
structure Ctx where
  id : Int
  kind : Int
  area : Int
theorem Ctx.ext_ {a b : Ctx} (h1 : a.id = b.id) (h2 : a.kind = b.kind) (h3 : a.area = b.area) : a = b := by cases a; cases b; simp_all
def vCtx (c : Ctx) : Value := .agg #[.int .i64 c.id, .int .i64 c.kind, .int .i64 c.area]
def okC (c : Ctx) : Bool := inR c.id 1 99 && (inR c.kind 1 4 && inR c.area 1 4)
def cells3 (c : Ctx) : List Value := [.int .i64 c.id, .int .i64 c.kind, .int .i64 c.area]
def cellsC (l : List Ctx) : List Value := l.flatMap cells3
def eqC (a b : Ctx) : Bool := decide (a.id = b.id) && (decide (a.kind = b.kind) && decide (a.area = b.area))
theorem eqC_iff (a b : Ctx) : eqC a b = true ↔ a = b := by
  simp only [eqC, Bool.and_eq_true, decide_eq_true_eq]
  exact ⟨fun ⟨h1, h2, h3⟩ => Ctx.ext_ h1 h2 h3, fun h => by subst h; exact ⟨rfl, rfl, rfl⟩⟩

def goodAt (l : List Ctx) (k : Nat) : Bool := match l[k]? with
  | none => true
  | some c => okC c && (k == 0 || match l[k-1]? with | none => true | some d => decide (d.id < c.id))
def validL (l : List Ctx) : Bool := (List.range l.length).all (goodAt l) && decide (l.length ≤ 12)

theorem length_cellsC (l : List Ctx) : (cellsC l).length = l.length * 3 := by
  induction l with
  | nil => rfl
  | cons c l ih => simp only [cellsC, List.flatMap_cons, List.length_append] at *; rw [ih]; simp [cells3]; omega
theorem cellsC_append (l m : List Ctx) : cellsC (l ++ m) = cellsC l ++ cellsC m := by simp [cellsC]
theorem cellsC_one (l : List Ctx) : ∀ u ∈ cellsC l, u.oneCell' = true := by
  intro u hu
  simp only [cellsC, List.mem_flatMap, cells3, List.mem_cons, List.not_mem_nil, or_false] at hu
  obtain ⟨c, _, rfl | rfl | rfl⟩ := hu <;> rfl
theorem cellsC_at (l : List Ctx) (k : Nat) (c : Ctx) (h : l[k]? = some c) : (cellsC l)[k * 3]? = some (.int .i64 c.id) ∧ (cellsC l)[k * 3 + 1]? = some (.int .i64 c.kind) ∧ (cellsC l)[k * 3 + 2]? = some (.int .i64 c.area) := by
  induction l generalizing k with
  | nil => simp at h
  | cons d l ih =>
    cases k with
    | zero => simp at h; subst h; simp [cellsC, cells3]
    | succ k =>
      have := ih k (by simpa using h)
      have e : ∀ j, (cellsC (d :: l))[(k+1) * 3 + j]? = (cellsC l)[k * 3 + j]? := by
        intro j
        simp only [cellsC, List.flatMap_cons]
        rw [show cells3 d = [Value.int .i64 d.id, .int .i64 d.kind, .int .i64 d.area] from rfl]
        rw [List.getElem?_append_right (by simp; omega)]
        congr 1
        simp; omega
      exact ⟨(e 0).trans this.1, (e 1).trans this.2.1, (e 2).trans this.2.2⟩
theorem cellsC_take (l : List Ctx) (k : Nat) : (cellsC l).take (k * 3) = cellsC (l.take k) := by
  induction l generalizing k with
  | nil => simp [cellsC]
  | cons d l ih =>
    cases k with
    | zero => simp [cellsC]
    | succ k =>
      have := ih k
      simp only [cellsC, List.flatMap_cons, List.take_succ_cons] at *
      rw [show (k + 1) * 3 = (cells3 d).length + k * 3 from by simp [cells3]; omega, List.take_length_add_append, this]
theorem cellsC_drop (l : List Ctx) (k : Nat) : (cellsC l).drop (k * 3) = cellsC (l.drop k) := by
  induction l generalizing k with
  | nil => simp [cellsC]
  | cons d l ih =>
    cases k with
    | zero => simp [cellsC]
    | succ k =>
      have := ih k
      simp only [cellsC, List.flatMap_cons, List.drop_succ_cons] at *
      rw [show (k + 1) * 3 = (cells3 d).length + k * 3 from by simp [cells3]; omega, List.drop_append, Nat.add_sub_cancel_left, this]
      simp [cells3]

theorem Reads.ctx {w : World} {B n : Nat} {A : Option Addr} {l : List Ctx} (h : Reads w B 3 A n (cellsC l)) (hn : 0 < n) : ∃ b off, A = some ⟨b, off, none⟩ ∧ b < B ∧
    ∀ k c, l[k]? = some c → w.cell? ⟨b, off + k * 3, none⟩ = some (.int .i64 c.id) ∧ w.cell? ⟨b, off + k * 3 + 1, none⟩ = some (.int .i64 c.kind) ∧ w.cell? ⟨b, off + k * 3 + 2, none⟩ = some (.int .i64 c.area) := by
  obtain ⟨b, off, e, hb, hc⟩ := h.2 hn
  refine ⟨b, off, e, hb, fun k c hk => ?_⟩
  have := cellsC_at l k c hk
  exact ⟨hc _ _ this.1, hc _ _ this.2.1, hc _ _ this.2.2⟩
theorem Reads.len {w : World} {B n : Nat} {A : Option Addr} {l : List Ctx} (h : Reads w B 3 A n (cellsC l)) : n = l.length := by
  have := h.1; rw [length_cellsC] at this; omega
theorem Reads.cutC {w : World} {B n i j : Nat} {A : Option Addr} {l : List Ctx} (h : Reads w B 3 A n (cellsC l)) (hij : i ≤ j) (hj : j ≤ n) :
    Reads w B 3 (A.map (·.add (i * 3))) (j - i) (cellsC ((l.drop i).take (j - i))) := by
  have := h.part hij hj
  rw [cellsC_drop, cellsC_take] at this
  exact this

/-- The place of a number, or -1. -/
def findFrom (id : Int) : List Ctx → Int → Int
  | [], _ => -1
  | c :: r, k => if c.id = id then k else findFrom id r (k + 1)
def findC (l : List Ctx) (id : Int) : Int := findFrom id l 0
theorem findFrom_drop (id : Int) (l : List Ctx) (k : Nat) (h : ∀ (j : Nat) (c : Ctx), j < k → l[j]? = some c → c.id ≠ id) (hk : k ≤ l.length) : findC l id = findFrom id (l.drop k) k := by
  unfold findC
  induction k with
  | zero => simp
  | succ k ih =>
    rw [ih (fun j c hj => h j c (by omega)) (by omega)]
    rw [List.drop_eq_getElem_cons (by omega)]
    rw [findFrom, if_neg (h k _ (by omega) (List.getElem?_eq_getElem (by omega)))]
    rfl
theorem findC_at (id : Int) (l : List Ctx) (k : Nat) (c : Ctx) (h : ∀ (j : Nat) (c : Ctx), j < k → l[j]? = some c → c.id ≠ id) (hc : l[k]? = some c) (he : c.id = id) : findC l id = k := by
  have hk : k < l.length := (List.getElem?_eq_some_iff.1 hc).1
  rw [findFrom_drop id l k h (by omega), List.drop_eq_getElem_cons hk, findFrom]
  rw [List.getElem?_eq_getElem hk] at hc
  injection hc with hc
  rw [hc, if_pos he]
theorem findC_none (id : Int) (l : List Ctx) (h : ∀ (j : Nat) (c : Ctx), l[j]? = some c → c.id ≠ id) : findC l id = -1 := by
  rw [findFrom_drop id l l.length (fun j c _ => h j c) (Nat.le_refl _)]
  simp [findFrom]
theorem findC_lt (id : Int) (l : List Ctx) : -1 ≤ findC l id ∧ findC l id < l.length := by
  unfold findC
  have : ∀ (l : List Ctx) (k : Int), 0 ≤ k → -1 ≤ findFrom id l k ∧ findFrom id l k < k + l.length := by
    intro l
    induction l with
    | nil => intro k hk; simp [findFrom]; omega
    | cons c r ih =>
      intro k hk
      unfold findFrom
      split
      · simp; omega
      · have := ih (k+1) (by omega)
        simp; omega
  have := this l 0 (by omega)
  omega
theorem findC_spec (id : Int) (l : List Ctx) : (findC l id = -1 ∧ ∀ (j : Nat) (c : Ctx), l[j]? = some c → c.id ≠ id) ∨ ∃ (k : Nat) (c : Ctx), findC l id = k ∧ l[k]? = some c ∧ c.id = id ∧ ∀ (j : Nat) (d : Ctx), j < k → l[j]? = some d → d.id ≠ id := by
  by_cases h : ∃ (k : Nat) (c : Ctx), l[k]? = some c ∧ c.id = id
  · have hex : ∃ k : Nat, (∃ c : Ctx, l[k]? = some c ∧ c.id = id) ∧ ∀ j, j < k → ¬ ∃ c : Ctx, l[j]? = some c ∧ c.id = id := by
      obtain ⟨k, hk⟩ := h
      induction k using Nat.strongRecOn with
      | ind k ih =>
        by_cases hj : ∃ j : Nat, j < k ∧ ∃ c : Ctx, l[j]? = some c ∧ c.id = id
        · obtain ⟨j, hjk, hc⟩ := hj
          exact ih j hjk hc
        · exact ⟨k, hk, fun j hjk hc => hj ⟨j, hjk, hc⟩⟩
    obtain ⟨k, ⟨c, hc, he⟩, hmin⟩ := hex
    have hm : ∀ (j : Nat) (d : Ctx), j < k → l[j]? = some d → d.id ≠ id := fun j d hj hd e => hmin j hj ⟨d, hd, e⟩
    exact .inr ⟨k, c, findC_at id l k c hm hc he, hc, he, hm⟩
  · have hm : ∀ (j : Nat) (c : Ctx), l[j]? = some c → c.id ≠ id := fun j c hc e => h ⟨j, c, hc, e⟩
    exact .inl ⟨findC_none id l hm, hm⟩

/-- In its place by the number. -/
def insC (c : Ctx) : List Ctx → List Ctx
  | [] => [c]
  | d :: r => if c.id < d.id then c :: d :: r else d :: insC c r
def roomC (l : List Ctx) (c : Ctx) : Bool := decide (findC l c.id < 0) && decide (l.length < 12)
def addOk (l : List Ctx) (c : Ctx) : Bool := validL l && (okC c && roomC l c)
def addL (l : List Ctx) (c : Ctx) : List Ctx := if validL l && okC c then (if roomC l c then insC c l else l) else []
def areaL (l : List Ctx) (a : Int) : List Int := if validL l then (l.filter fun c => decide (c.area = a)).map Ctx.id else []
def findL (l : List Ctx) (id : Int) : Int := if validL l then findC l id else -1

theorem goodAt_ok {l : List Ctx} {k : Nat} {c : Ctx} (h : goodAt l k = true) (hc : l[k]? = some c) : okC c = true := by
  unfold goodAt at h; rw [hc] at h; simp at h; exact h.1
theorem goodAt_lt {l : List Ctx} {k : Nat} {c d : Ctx} (h : goodAt l (k+1) = true) (hc : l[k+1]? = some c) (hd : l[k]? = some d) : d.id < c.id := by
  unfold goodAt at h; rw [hc] at h; simp [hd] at h; exact h.2
theorem goodAt_first {l : List Ctx} {c : Ctx} {k : Nat} (hk : k = 0) (hc : l[k]? = some c) (h : okC c = true) : goodAt l k = true := by
  subst hk; simp [goodAt, hc, h]
theorem goodAt_next {l : List Ctx} {c d : Ctx} {k : Nat} (hc : l[k]? = some c) (hd : l[k-1]? = some d) (h : okC c = true) (hlt : d.id < c.id) : goodAt l k = true := by
  simp [goodAt, hc, hd, h, hlt]
theorem goodAt_bad {l : List Ctx} {c : Ctx} {k : Nat} (hc : l[k]? = some c) (h : okC c = false) : goodAt l k = false := by
  simp [goodAt, hc, h]
theorem goodAt_less {l : List Ctx} {c d : Ctx} {k : Nat} (hk : 0 < k) (hc : l[k]? = some c) (hd : l[k-1]? = some d) (hlt : ¬ d.id < c.id) : goodAt l k = false := by
  have : (k == 0) = false := by simp; omega
  simp [goodAt, hc, hd, hlt, this]
theorem validL_of {l : List Ctx} (h : ∀ j, j < l.length → goodAt l j = true) : validL l = decide (l.length ≤ 12) := by
  unfold validL
  rw [List.all_eq_true.2 (fun j hj => h j (List.mem_range.1 hj))]; rfl
theorem validL_no {l : List Ctx} {k : Nat} (hk : k < l.length) (h : goodAt l k = false) : validL l = false := by
  unfold validL
  rw [Bool.and_eq_false_iff]; left
  rw [List.all_eq_false]
  exact ⟨k, List.mem_range.2 hk, by simp [h]⟩
theorem validL_long {l : List Ctx} (h : 12 < l.length) : validL l = false := by
  unfold validL; rw [Bool.and_eq_false_iff]; right; simp; omega
theorem validL_good {l : List Ctx} (h : validL l = true) (k : Nat) : goodAt l k = true := by
  unfold validL at h
  simp only [Bool.and_eq_true, List.all_eq_true, List.mem_range] at h
  by_cases hk : k < l.length
  · exact h.1 k hk
  · unfold goodAt; rw [List.getElem?_eq_none (by omega)]
theorem validL_len {l : List Ctx} (h : validL l = true) : l.length ≤ 12 := by
  unfold validL at h; simp at h; exact h.2
theorem okC_id {c : Ctx} (h : okC c = true) : 1 ≤ c.id ∧ c.id ≤ 99 := by
  simp [okC, inR] at h; omega
theorem insC_length (c : Ctx) (l : List Ctx) : (insC c l).length = l.length + 1 := by
  induction l with
  | nil => rfl
  | cons d l ih => unfold insC; split <;> simp [ih]
theorem addL_bad {l : List Ctx} {c : Ctx} (h : validL l = false ∨ okC c = false) : addL l c = [] ∧ addOk l c = false := by
  rcases h with h | h <;> simp [addL, addOk, h]
theorem addL_full {l : List Ctx} {c : Ctx} (h1 : validL l = true) (h2 : okC c = true) (h : 0 ≤ findC l c.id ∨ 12 ≤ l.length) : addL l c = l ∧ addOk l c = false := by
  have : roomC l c = false := by unfold roomC; rw [Bool.and_eq_false_iff]; simp only [decide_eq_false_iff_not]; omega
  simp [addL, addOk, h1, h2, this]
theorem addL_new {l : List Ctx} {c : Ctx} (h1 : validL l = true) (h2 : okC c = true) (h3 : findC l c.id < 0) (h4 : l.length < 12) : addL l c = insC c l ∧ addOk l c = true := by
  have : roomC l c = true := by unfold roomC; simp [h3, h4]
  simp [addL, addOk, h1, h2, this]
/-- The number before the place k, 0 at the first. -/
def prevId (l : List Ctx) (k : Nat) : Int := if k = 0 then 0 else match l[k-1]? with | none => 0 | some d => d.id
theorem goodAt_prev {l : List Ctx} {k : Nat} {c : Ctx} (hc : l[k]? = some c) : goodAt l k = (okC c && decide (prevId l k < c.id)) := by
  by_cases ho : okC c = true
  · by_cases hk : k = 0
    · have := okC_id ho
      subst hk
      simp [goodAt, hc, ho, prevId]; omega
    · have hlt : k < l.length := (List.getElem?_eq_some_iff.1 hc).1
      have hd : l[k-1]? = some l[k-1] := List.getElem?_eq_getElem (by omega)
      simp [goodAt, hc, ho, prevId, hk, hd]
  · simp only [Bool.not_eq_true] at ho
    simp [goodAt, hc, ho]
theorem prevId_succ {l : List Ctx} {k : Nat} {c : Ctx} (hc : l[k]? = some c) : prevId l (k+1) = c.id := by
  simp [prevId, hc]
end Go.Proofs.Ytfcjhpgohcbcaaa
