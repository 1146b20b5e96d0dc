/- Texts of relations, cut and read, as plain data. -/
import Derived.Test.YtbbjdpmffokcfaaDoorTx
import Derived.Lib.Split
namespace Go.Proofs.YtbbjdpmffokcfaaDoor
open Go.RowKit

/-- A text, cut at each byte a. -/
def cutL (a : UInt8) : List UInt8 → List (List UInt8)
  | [] => [[]]
  | c :: r => if c = a then [] :: cutL a r else
    match cutL a r with
    | [] => [[c]]
    | w :: ws => (c :: w) :: ws
theorem cutL_ne (a : UInt8) (t : List UInt8) : cutL a t ≠ [] := by
  cases t with
  | nil => simp [cutL]
  | cons c r =>
    unfold cutL
    split
    · simp
    · split <;> simp
theorem cutL_none {a : UInt8} : ∀ {t : List UInt8}, (∀ c ∈ t, c ≠ a) → cutL a t = [t]
  | [], _ => rfl
  | c :: r, h => by
    have ih := cutL_none (t := r) (fun d hd => h d (List.mem_cons_of_mem _ hd))
    unfold cutL
    rw [if_neg (h c List.mem_cons_self), ih]
theorem cutL_hit {a : UInt8} : ∀ {x y : List UInt8}, (∀ c ∈ x, c ≠ a) → cutL a (x ++ a :: y) = x :: cutL a y
  | [], y, _ => by simp [cutL]
  | c :: x, y, h => by
    have ih := cutL_hit (x := x) (y := y) (fun d hd => h d (List.mem_cons_of_mem _ hd))
    rw [List.cons_append]
    conv => lhs; unfold cutL
    rw [if_neg (h c List.mem_cons_self), ih]
theorem cutL_join (a : UInt8) : ∀ (t : List UInt8), Lib.join (cutL a t) [a] = t
  | [] => rfl
  | c :: r => by
    have ih := cutL_join a r
    unfold cutL
    split
    · rename_i h
      subst h
      cases hc : cutL c r with
      | nil => exact absurd hc (cutL_ne c r)
      | cons w ws =>
        rw [hc] at ih
        rw [Lib.join_cons] at ih ⊢
        simp only [Lib.joinTail, List.map_cons, List.flatten_cons] at ih ⊢
        rw [List.append_assoc, ih]; rfl
    · cases hc : cutL a r with
      | nil => exact absurd hc (cutL_ne a r)
      | cons w ws =>
        rw [hc, Lib.join_cons] at ih
        show Lib.join ((c :: w) :: ws) [a] = c :: r
        rw [Lib.join_cons, List.cons_append, ih]
theorem cutL_of_join {a : UInt8} : ∀ {ws : List (List UInt8)}, ws ≠ [] → (∀ w ∈ ws, ∀ c ∈ w, c ≠ a) → cutL a (Lib.join ws [a]) = ws
  | [], h, _ => absurd rfl h
  | [w], _, h => by rw [Lib.join_one]; exact cutL_none (h w List.mem_cons_self)
  | w :: v :: ws, _, h => by
    have ih := cutL_of_join (ws := v :: ws) (by simp) (fun x hx => h x (List.mem_cons_of_mem _ hx))
    have e : Lib.join (w :: v :: ws) [a] = w ++ a :: Lib.join (v :: ws) [a] := by
      rw [Lib.join_cons, Lib.join_cons]
      simp [Lib.joinTail]
    rw [e, cutL_hit (h w List.mem_cons_self), ih]
theorem cutL_len (a : UInt8) : ∀ (t : List UInt8), (cutL a t).length ≤ t.length + 1
  | [] => by simp [cutL]
  | c :: r => by
    have ih := cutL_len a r
    unfold cutL
    split
    · simp; omega
    · cases hc : cutL a r with
      | nil => simp
      | cons w ws => rw [hc] at ih; simp at ih ⊢; omega
theorem cutL_mem {a : UInt8} : ∀ {t w : List UInt8}, w ∈ cutL a t → w.length ≤ t.length ∧ ∀ c ∈ w, c ∈ t
  | [], w, h => by simp [cutL] at h; subst h; simp
  | c :: r, w, h => by
    unfold cutL at h
    split at h
    · rcases List.mem_cons.1 h with rfl | h
      · simp
      · have := cutL_mem h
        exact ⟨by simp; omega, fun d hd => List.mem_cons_of_mem _ (this.2 d hd)⟩
    · cases hc : cutL a r with
      | nil => exact absurd hc (cutL_ne a r)
      | cons v ws =>
        rw [hc] at h
        rcases List.mem_cons.1 h with rfl | h
        · have := cutL_mem (t := r) (w := v) (by rw [hc]; exact List.mem_cons_self)
          exact ⟨by simp; omega, fun d hd => by
            rcases List.mem_cons.1 hd with rfl | hd
            · exact List.mem_cons_self
            · exact List.mem_cons_of_mem _ (this.2 d hd)⟩
        · have := cutL_mem (t := r) (w := w) (by rw [hc]; exact List.mem_cons_of_mem _ h)
          exact ⟨by simp; omega, fun d hd => List.mem_cons_of_mem _ (this.2 d hd)⟩
/-- Go's Split at one byte is this cut. -/
theorem occ_one (s : List UInt8) (a : UInt8) (j : Nat) : Lib.occAt s [a] j = decide (s[j]? = some a) := by
  unfold Lib.occAt
  cases h : s.drop j with
  | nil =>
    have : s[j]? = none := List.getElem?_eq_none (by have := congrArg List.length h; simp at this; omega)
    rw [this]; rfl
  | cons c r =>
    have : s[j]? = some c := by have := congrArg (fun l => l[0]?) h; simpa using this
    rw [this]
    have e : [a].isPrefixOf (c :: r) = (a == c && true) := rfl
    rw [e, Bool.and_true]
    by_cases hac : a = c
    · subst hac; simp
    · rw [beq_eq_false_iff_ne.2 hac, eq_comm, decide_eq_false_iff_not]
      exact fun h => hac (Option.some.inj h).symm
theorem first_hit {a : UInt8} : ∀ {s : List UInt8}, a ∈ s → ∃ x y : List UInt8, s = x ++ a :: y ∧ ∀ c ∈ x, c ≠ a
  | [], h => by simp at h
  | c :: r, h => by
    by_cases hc : c = a
    · exact ⟨[], r, by rw [hc]; rfl, by simp⟩
    · obtain ⟨x, y, e, h⟩ := first_hit (s := r) (by rcases List.mem_cons.1 h with h | h; exact absurd h.symm hc; exact h)
      exact ⟨c :: x, y, by rw [e]; rfl, fun d hd => by rcases List.mem_cons.1 hd with rfl | hd; exact hc; exact h d hd⟩
theorem splitK_cut (a : UInt8) : ∀ (n : Nat) (s : List UInt8), s.length ≤ n → Lib.splitK [a] 0 (Lib.count s [a]) s = cutL a s := by
  intro n
  induction n with
  | zero =>
    intro s hn
    obtain rfl : s = [] := List.eq_nil_of_length_eq_zero (by omega)
    have hi : Lib.index [] [a] = -1 := rfl
    rw [Lib.count_miss hi]
    rfl
  | succ n ih =>
    intro s hn
    by_cases hx : a ∈ s
    · obtain ⟨x, y, rfl, hxn⟩ := first_hit hx
      have hi : Lib.index (x ++ a :: y) [a] = x.length := by
        refine Lib.index_first (by simp) (by rw [occ_one]; simp) (fun j hj => ?_)
        rw [occ_one]
        have : (x ++ a :: y)[j]? = some x[j] := by rw [List.getElem?_append_left hj, List.getElem?_eq_getElem hj]
        rw [this]
        simp [hxn _ (List.getElem_mem hj)]
      have hcnt := Lib.count_hit (s := x ++ a :: y) (sub := [a]) (by simp) hi
      have hdrop : (x ++ a :: y).drop (x.length + [a].length) = y := by
        rw [show x.length + [a].length = x.length + 1 from rfl, List.drop_append, List.drop_of_length_le (by omega)]
        simp
      rw [hdrop] at hcnt
      rw [hcnt, Nat.add_comm, Lib.splitK, hi]
      rw [if_neg (by rw [beq_iff_eq]; omega), Int.toNat_natCast, Nat.add_zero, List.take_left, hdrop, cutL_hit hxn]
      rw [ih y (by simp at hn; omega)]
    · have hi : Lib.index s [a] = -1 := by
        refine Lib.index_none fun j hj => ?_
        rw [occ_one, decide_eq_false_iff_not]
        exact fun e => hx (List.mem_of_getElem? e)
      rw [Lib.count_miss hi, Lib.splitK, cutL_none (fun c hc e => hx (by rw [← e]; exact hc))]
end Go.Proofs.YtbbjdpmffokcfaaDoor
