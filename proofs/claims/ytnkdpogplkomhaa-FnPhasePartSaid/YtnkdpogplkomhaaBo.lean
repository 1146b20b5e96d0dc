/- Greatest and least values over a list, and bounds of years, as plain data. -/
import Derived.Test.YtnkdpogplkomhaaOrd
import Derived.Test.YtnkdpogplkomhaaTri
namespace Go.Proofs.Ytnkdpogplkomhaa
open Go.RowKit

section
variable {α : Type} {p q : α → Bool} {g h : α → Int} {L M : List α} {a b m : Int}
/-- The greatest of a and of the values of those in the list that are asked for. -/
def maxF (p : α → Bool) (g : α → Int) (L : List α) (a : Int) : Int := L.foldl (fun a x => if p x = true then max a (g x) else a) a
def minF (p : α → Bool) (g : α → Int) (L : List α) (a : Int) : Int := L.foldl (fun a x => if p x = true then min a (g x) else a) a
theorem maxF_app : maxF p g (L ++ M) a = maxF p g M (maxF p g L a) := by unfold maxF; rw [List.foldl_append]
theorem minF_app : minF p g (L ++ M) a = minF p g M (minF p g L a) := by unfold minF; rw [List.foldl_append]
theorem maxF_next {k : Nat} {x : α} (hk : L[k]? = some x) : maxF p g (L.take (k + 1)) a = if p x = true then max (maxF p g (L.take k) a) (g x) else maxF p g (L.take k) a := by
  rw [List.take_add_one, hk, maxF_app]
  rfl
theorem minF_next {k : Nat} {x : α} (hk : L[k]? = some x) : minF p g (L.take (k + 1)) a = if p x = true then min (minF p g (L.take k) a) (g x) else minF p g (L.take k) a := by
  rw [List.take_add_one, hk, minF_app]
  rfl
theorem maxF_base : ∀ (L : List α) (a : Int), a ≤ maxF p g L a
  | [], a => Int.le_refl a
  | x :: L, a => by
    have h1 := maxF_base L (if p x = true then max a (g x) else a)
    show a ≤ maxF p g L (if p x = true then max a (g x) else a)
    refine Int.le_trans ?_ h1
    split
    · exact Int.le_max_left _ _
    · exact Int.le_refl _
theorem minF_base : ∀ (L : List α) (a : Int), minF p g L a ≤ a
  | [], a => Int.le_refl a
  | x :: L, a => by
    have h1 := minF_base L (if p x = true then min a (g x) else a)
    show minF p g L (if p x = true then min a (g x) else a) ≤ a
    refine Int.le_trans h1 ?_
    split
    · exact Int.min_le_left _ _
    · exact Int.le_refl _
theorem maxF_ge : ∀ (L : List α) (a : Int) {x : α}, x ∈ L → p x = true → g x ≤ maxF p g L a
  | [], _, _, h, _ => by cases h
  | y :: L, a, x, h, hp => by
    show g x ≤ maxF p g L (if p y = true then max a (g y) else a)
    rcases List.mem_cons.1 h with rfl | h
    · rw [if_pos hp]
      exact Int.le_trans (Int.le_max_right a (g x)) (maxF_base L _)
    · exact maxF_ge L _ h hp
theorem minF_le : ∀ (L : List α) (a : Int) {x : α}, x ∈ L → p x = true → minF p g L a ≤ g x
  | [], _, _, h, _ => by cases h
  | y :: L, a, x, h, hp => by
    show minF p g L (if p y = true then min a (g y) else a) ≤ g x
    rcases List.mem_cons.1 h with rfl | h
    · rw [if_pos hp]
      exact Int.le_trans (minF_base L _) (Int.min_le_right a (g x))
    · exact minF_le L _ h hp
theorem maxF_or : ∀ (L : List α) (a : Int), maxF p g L a = a ∨ ∃ x, x ∈ L ∧ p x = true ∧ maxF p g L a = g x
  | [], _ => .inl rfl
  | y :: L, a => by
    have e : maxF p g (y :: L) a = maxF p g L (if p y = true then max a (g y) else a) := rfl
    rcases maxF_or L (if p y = true then max a (g y) else a) with h1 | ⟨x, h1, h2, h3⟩
    · by_cases hp : p y = true
      · rw [if_pos hp] at h1 e
        by_cases hm : a ≤ g y
        · exact .inr ⟨y, List.mem_cons_self, hp, by rw [e, h1]; omega⟩
        · exact .inl (by rw [e, h1]; omega)
      · rw [if_neg hp] at h1 e
        exact .inl (e.trans h1)
    · exact .inr ⟨x, List.mem_cons_of_mem _ h1, h2, e.trans h3⟩
theorem minF_or : ∀ (L : List α) (a : Int), minF p g L a = a ∨ ∃ x, x ∈ L ∧ p x = true ∧ minF p g L a = g x
  | [], _ => .inl rfl
  | y :: L, a => by
    have e : minF p g (y :: L) a = minF p g L (if p y = true then min a (g y) else a) := rfl
    rcases minF_or L (if p y = true then min a (g y) else a) with h1 | ⟨x, h1, h2, h3⟩
    · by_cases hp : p y = true
      · rw [if_pos hp] at h1 e
        by_cases hm : g y ≤ a
        · exact .inr ⟨y, List.mem_cons_self, hp, by rw [e, h1]; omega⟩
        · exact .inl (by rw [e, h1]; omega)
      · rw [if_neg hp] at h1 e
        exact .inl (e.trans h1)
    · exact .inr ⟨x, List.mem_cons_of_mem _ h1, h2, e.trans h3⟩
theorem maxF_most (h0 : a ≤ m) (h1 : ∀ x, x ∈ L → p x = true → g x ≤ m) : maxF p g L a ≤ m := by
  rcases maxF_or (p := p) (g := g) L a with h | ⟨x, h2, h3, h⟩
  · rw [h]; exact h0
  · rw [h]; exact h1 x h2 h3
theorem minF_least (h0 : m ≤ a) (h1 : ∀ x, x ∈ L → p x = true → m ≤ g x) : m ≤ minF p g L a := by
  rcases minF_or (p := p) (g := g) L a with h | ⟨x, h2, h3, h⟩
  · rw [h]; exact h0
  · rw [h]; exact h1 x h2 h3
theorem maxF_sub (hs : ∀ x, x ∈ L → p x = true → x ∈ M) : maxF p g L a ≤ maxF p g M a := maxF_most (maxF_base M a) fun _ h1 h2 => maxF_ge M a (hs _ h1 h2) h2
theorem minF_sub (hs : ∀ x, x ∈ L → p x = true → x ∈ M) : minF p g M a ≤ minF p g L a := minF_least (minF_base M a) fun _ h1 h2 => minF_le M a (hs _ h1 h2) h2
theorem maxF_same (hp : ∀ x, x ∈ L → p x = q x) (hg : ∀ x, x ∈ L → p x = true → g x = h x) : maxF p g L a = maxF q h L a := by
  apply Int.le_antisymm
  · exact maxF_most (maxF_base L a) fun x h1 h2 => by rw [hg x h1 h2]; exact maxF_ge L a h1 (by rw [← hp x h1]; exact h2)
  · exact maxF_most (maxF_base L a) fun x h1 h2 => by
      have h3 : p x = true := by rw [hp x h1]; exact h2
      rw [← hg x h1 h3]; exact maxF_ge L a h1 h3
theorem minF_same (hp : ∀ x, x ∈ L → p x = q x) (hg : ∀ x, x ∈ L → p x = true → g x = h x) : minF p g L a = minF q h L a := by
  apply Int.le_antisymm
  · exact minF_least (minF_base L a) fun x h1 h2 => by
      have h3 : p x = true := by rw [hp x h1]; exact h2
      rw [← hg x h1 h3]; exact minF_le L a h1 h3
  · exact minF_least (minF_base L a) fun x h1 h2 => by rw [hg x h1 h2]; exact minF_le L a h1 (by rw [← hp x h1]; exact h2)
end
/-- A bound is three numbers: its context, its first year (kind) and its last one (area). -/
def okB (b : Ctx) : Bool := inR b.id 1 99 && (inR b.kind 0 999 && inR b.area b.kind 999)
def validB (L : List Ctx) : Bool := L.all okB && decide (L.length ≤ 12)
def ofB (id : Int) (b : Ctx) : Bool := decide (b.id = id)
def lowB (L : List Ctx) (id : Int) : Int := maxF (ofB id) Ctx.kind L 0
def highB (L : List Ctx) (id : Int) : Int := minF (ofB id) Ctx.area L 999
theorem okB_parts {b : Ctx} (h : okB b = true) : (1 ≤ b.id ∧ b.id ≤ 99) ∧ (0 ≤ b.kind ∧ b.kind ≤ 999) ∧ b.kind ≤ b.area ∧ b.area ≤ 999 := by
  simp only [okB, inR, Bool.and_eq_true, decide_eq_true_eq] at h
  exact h
theorem okB_mk {b : Ctx} (h1 : 1 ≤ b.id ∧ b.id ≤ 99) (h2 : 0 ≤ b.kind) (h3 : b.kind ≤ b.area) (h4 : b.area ≤ 999) : okB b = true := by
  simp only [okB, inR, Bool.and_eq_true, decide_eq_true_eq]
  exact ⟨h1, ⟨h2, by omega⟩, h3, h4⟩
theorem validB_ok {L : List Ctx} (h : validB L = true) : (∀ b ∈ L, okB b = true) ∧ L.length ≤ 12 := by
  simp only [validB, Bool.and_eq_true, decide_eq_true_eq, List.all_eq_true] at h
  exact h
theorem validB_mk {L : List Ctx} (h1 : ∀ b ∈ L, okB b = true) (h2 : L.length ≤ 12) : validB L = true := by
  simp only [validB, Bool.and_eq_true, decide_eq_true_eq, List.all_eq_true]
  exact ⟨h1, h2⟩
theorem validB_sub {L M : List Ctx} (h : validB L = true) (hs : M.Sublist L) : validB M = true :=
  validB_mk (fun b hb => (validB_ok h).1 b (hs.subset hb)) (Nat.le_trans hs.length_le (validB_ok h).2)
theorem validB_bad {L : List Ctx} {b : Ctx} (hb : b ∈ L) (h : okB b = false) : validB L = false := by
  cases hv : validB L
  · rfl
  · rw [(validB_ok hv).1 b hb] at h; cases h
theorem validB_long {L : List Ctx} (h : 12 < L.length) : validB L = false := by
  cases hv : validB L
  · rfl
  · have := (validB_ok hv).2; omega
section
variable {L : List Ctx} {id : Int}
theorem lowB_zero (L : List Ctx) (id : Int) : 0 ≤ lowB L id := maxF_base L 0
theorem highB_top (L : List Ctx) (id : Int) : highB L id ≤ 999 := minF_base L 999
theorem lowB_ge {b : Ctx} (hb : b ∈ L) (h : b.id = id) : b.kind ≤ lowB L id := maxF_ge L 0 hb (by simp [ofB, h])
theorem highB_le {b : Ctx} (hb : b ∈ L) (h : b.id = id) : highB L id ≤ b.area := minF_le L 999 hb (by simp [ofB, h])
theorem lowB_or (L : List Ctx) (id : Int) : lowB L id = 0 ∨ ∃ b, b ∈ L ∧ b.id = id ∧ lowB L id = b.kind := by
  rcases maxF_or (p := ofB id) (g := Ctx.kind) L 0 with h | ⟨b, h1, h2, h3⟩
  · exact .inl h
  · exact .inr ⟨b, h1, by simpa [ofB] using h2, h3⟩
theorem highB_or (L : List Ctx) (id : Int) : highB L id = 999 ∨ ∃ b, b ∈ L ∧ b.id = id ∧ highB L id = b.area := by
  rcases minF_or (p := ofB id) (g := Ctx.area) L 999 with h | ⟨b, h1, h2, h3⟩
  · exact .inl h
  · exact .inr ⟨b, h1, by simpa [ofB] using h2, h3⟩
theorem lowB_max (h : validB L = true) (id : Int) : lowB L id ≤ 999 := by
  rcases lowB_or L id with h1 | ⟨b, h1, _, h2⟩
  · omega
  · have := okB_parts ((validB_ok h).1 b h1); omega
theorem highB_min (h : validB L = true) (id : Int) : 0 ≤ highB L id := by
  rcases highB_or L id with h1 | ⟨b, h1, _, h2⟩
  · omega
  · have := okB_parts ((validB_ok h).1 b h1); omega
theorem lowB_none (h : ∀ b ∈ L, b.id ≠ id) : lowB L id = 0 := by
  rcases lowB_or L id with h1 | ⟨b, h1, h2, _⟩
  · exact h1
  · exact absurd h2 (h b h1)
theorem highB_none (h : ∀ b ∈ L, b.id ≠ id) : highB L id = 999 := by
  rcases highB_or L id with h1 | ⟨b, h1, h2, _⟩
  · exact h1
  · exact absurd h2 (h b h1)
/-- Fewer bounds leave a wider span. -/
theorem lowB_sub {M : List Ctx} (hs : ∀ b, b ∈ M → b ∈ L) : lowB M id ≤ lowB L id := maxF_sub fun b h _ => hs b h
theorem highB_sub {M : List Ctx} (hs : ∀ b, b ∈ M → b ∈ L) : highB L id ≤ highB M id := minF_sub fun b h _ => hs b h
/-- Two of the bounds tell that no year is left. -/
theorem span_clash (h : validB L = true) {id id2 : Int} (hlt : highB L id2 < lowB L id) : ∃ a b, a ∈ L ∧ b ∈ L ∧ a.id = id ∧ b.id = id2 ∧ b.area < a.kind := by
  have h1 := highB_min h id2
  have h2 := lowB_max h id
  rcases lowB_or L id with h3 | ⟨a, ha, ha2, h3⟩
  · omega
  · rcases highB_or L id2 with h4 | ⟨b, hb, hb2, h4⟩
    · omega
    · exact ⟨a, b, ha, hb, ha2, hb2, by omega⟩
theorem clash_span {a b : Ctx} (ha : a ∈ L) (hb : b ∈ L) (h : b.area < a.kind) : highB L b.id < lowB L a.id := by
  have h1 := lowB_ge (id := a.id) ha rfl
  have h2 := highB_le (id := b.id) hb rfl
  omega
end
/-- What the span of a context is. -/
def boundsOkG (L : List Ctx) (id : Int) : Bool := validB L && (inR id 1 99 && decide (lowB L id ≤ highB L id))
def boundsLowG (L : List Ctx) (id : Int) : Int := if boundsOkG L id = true then lowB L id else 0
def boundsHighG (L : List Ctx) (id : Int) : Int := if boundsOkG L id = true then highB L id else 0
def addB (L : List Ctx) (b : Ctx) : List Ctx := if validB L && okB b then (if L.length < 12 then L ++ [b] else L) else []
def addOkB (L : List Ctx) (b : Ctx) : Bool := validB L && (okB b && decide (L.length < 12))
theorem addB_len (L : List Ctx) (b : Ctx) : (addB L b).length ≤ L.length + 1 := by
  unfold addB
  split
  · split
    · simp
    · omega
  · simp
theorem addB_bad {L : List Ctx} {b : Ctx} (h : validB L = false ∨ okB b = false) : addB L b = [] ∧ addOkB L b = false := by
  rcases h with h | h <;> simp [addB, addOkB, h]
theorem addB_full {L : List Ctx} {b : Ctx} (h1 : validB L = true) (h2 : okB b = true) (h3 : ¬ L.length < 12) : addB L b = L ∧ addOkB L b = false := by
  simp [addB, addOkB, h1, h2, h3]
theorem addB_new {L : List Ctx} {b : Ctx} (h1 : validB L = true) (h2 : okB b = true) (h3 : L.length < 12) : addB L b = L ++ [b] ∧ addOkB L b = true := by
  simp [addB, addOkB, h1, h2, h3]
theorem addB_valid {L : List Ctx} {b : Ctx} (h : addOkB L b = true) : validB (addB L b) = true ∧ addB L b = L ++ [b] := by
  simp only [addOkB, Bool.and_eq_true, decide_eq_true_eq] at h
  obtain ⟨h1, h2, h3⟩ := h
  have e := (addB_new h1 h2 h3).1
  refine ⟨?_, e⟩
  rw [e]
  refine validB_mk (fun c hc => ?_) (by simp; omega)
  rcases List.mem_append.1 hc with hc | hc
  · exact (validB_ok h1).1 c hc
  · rw [List.mem_singleton.1 hc]; exact h2
/-- The latest find. -/
def lastY (years : List Int) : Int := maxF (fun _ => true) (fun y => y) years 0
def findOkB (id : Int) (years : List Int) : Bool := years.all (fun y => inR y 0 999) && inR id 1 99
def findB (id : Int) (years : List Int) : Ctx := if findOkB id years = true then ⟨id, lastY years, 999⟩ else ⟨0, 0, 0⟩
end Go.Proofs.Ytnkdpogplkomhaa
