/- Levels as plain data: how long the longest way down to a place is, and how it is found by as many rounds as there are places. -/
import Derived.Test.YtjkjnicgbfpjiaaMp
namespace Go.Proofs.Ytjkjnicgbfpjiaa

/-- The greatest of the first n, or 0. -/
def mxN (g : Nat → Nat) : Nat → Nat
  | 0 => 0
  | n + 1 => max (mxN g n) (g n)
theorem mxN_ge (g : Nat → Nat) : ∀ (n : Nat) {i : Nat}, i < n → g i ≤ mxN g n
  | 0, _, h => absurd h (by omega)
  | n + 1, i, h => by
    unfold mxN
    by_cases e : i = n
    · subst e; omega
    · have := mxN_ge g n (i := i) (by omega); omega
theorem mxN_le {g : Nat → Nat} {b : Nat} : ∀ (n : Nat), (∀ i, i < n → g i ≤ b) → mxN g n ≤ b
  | 0, _ => Nat.zero_le _
  | n + 1, h => by
    have h1 := mxN_le n fun i hi => h i (by omega)
    have h2 := h n (by omega)
    unfold mxN
    omega
theorem mxN_some {g : Nat → Nat} : ∀ (n : Nat), 0 < mxN g n → ∃ i, i < n ∧ mxN g n = g i
  | 0, h => absurd h (Nat.lt_irrefl 0)
  | n + 1, h => by
    unfold mxN at h ⊢
    rcases Nat.le_total (mxN g n) (g n) with h1 | h1
    · exact ⟨n, by omega, by omega⟩
    · obtain ⟨i, hi, e⟩ := mxN_some (g := g) n (by omega)
      exact ⟨i, by omega, by omega⟩
theorem mxN_same {g h : Nat → Nat} : ∀ (n : Nat), (∀ i, i < n → g i = h i) → mxN g n = mxN h n
  | 0, _ => rfl
  | n + 1, e => by
    unfold mxN
    rw [mxN_same n fun i hi => e i (by omega), e n (by omega)]
/-- The longest way down to a place, of at most k steps. -/
def levF (f : Nat → Nat → Bool) (n : Nat) : Nat → Nat → Nat
  | 0, _ => 0
  | k + 1, j => mxN (fun i => if f i j = true then levF f n k i + 1 else 0) n
def levG (f : Nat → Nat → Bool) (n j : Nat) : Nat := levF f n n j
section
variable {f : Nat → Nat → Bool} {n : Nat}
theorem levF_le : ∀ (k j : Nat), levF f n k j ≤ k
  | 0, _ => Nat.le_refl _
  | k + 1, j => by
    unfold levF
    refine mxN_le n fun i _ => ?_
    have := levF_le k i
    split <;> omega
theorem levF_mono : ∀ (k j : Nat), levF f n k j ≤ levF f n (k + 1) j
  | 0, _ => Nat.zero_le _
  | k + 1, j => by
    rw [levF]
    refine mxN_le n fun i hi => ?_
    refine Nat.le_trans ?_ (mxN_ge (fun i => if f i j = true then levF f n (k + 1) i + 1 else 0) n hi)
    have := levF_mono k i
    split <;> omega
theorem cntN_all (p : Nat → Bool) : ∀ n, cntN p n ≤ n
  | 0 => Nat.le_refl _
  | n + 1 => by
    have := cntN_all p n
    unfold cntN
    split <;> omega
theorem preds_less (ht : ∀ i j k, f i j = true → f j k = true → f i k = true) (hi : ∀ i, f i i = false) {i j : Nat} (hin : i < n) (h : f i j = true) : cntN (fun p => f p i) n < cntN (fun p => f p j) n :=
  cntN_lt (p := fun p => f p i) (q := fun p => f p j) (m := i) (fun _ hk => ht _ _ _ hk h) h (hi i) n hin
theorem levF_still (ht : ∀ i j k, f i j = true → f j k = true → f i k = true) (hi : ∀ i, f i i = false) : ∀ (m j : Nat), cntN (fun p => f p j) n ≤ m → ∀ k, m ≤ k → levF f n (k + 1) j = levF f n k j
  | m, j, hm, k, hk => by
    cases k with
    | zero =>
      have h0 : cntN (fun p => f p j) n = 0 := by omega
      show levF f n (0 + 1) j = 0
      rw [levF]
      refine Nat.le_zero.1 (mxN_le n fun i hin => ?_)
      split
      · rename_i h
        have := preds_less ht hi hin h
        omega
      · exact Nat.le_refl _
    | succ k =>
      rw [levF, levF]
      refine mxN_same n fun i hin => ?_
      split
      · rename_i h
        have h1 := preds_less ht hi hin h
        cases m with
        | zero => omega
        | succ m => rw [levF_still ht hi m i (by omega) k (by omega)]
      · rfl
theorem levG_fix (ht : ∀ i j k, f i j = true → f j k = true → f i k = true) (hi : ∀ i, f i i = false) (j : Nat) : levG f n j = mxN (fun i => if f i j = true then levG f n i + 1 else 0) n := by
  have h := levF_still (f := f) (n := n) ht hi n j (cntN_all _ n) n (Nat.le_refl _)
  rw [levF] at h
  exact h.symm
theorem levG_step (ht : ∀ i j k, f i j = true → f j k = true → f i k = true) (hi : ∀ i, f i i = false) {i j : Nat} (hin : i < n) (h : f i j = true) : levG f n i + 1 ≤ levG f n j := by
  rw [levG_fix ht hi j]
  have := mxN_ge (fun i => if f i j = true then levG f n i + 1 else 0) n hin
  rw [if_pos h] at this
  exact this
theorem levG_some (ht : ∀ i j k, f i j = true → f j k = true → f i k = true) (hi : ∀ i, f i i = false) {j : Nat} (h : 0 < levG f n j) : ∃ i, i < n ∧ f i j = true ∧ levG f n j = levG f n i + 1 := by
  rw [levG_fix ht hi j] at h
  obtain ⟨i, hin, e⟩ := mxN_some n h
  rw [← levG_fix ht hi j] at e h
  by_cases hf : f i j = true
  · rw [if_pos hf] at e
    exact ⟨i, hin, hf, e⟩
  · rw [if_neg hf] at e
    omega
theorem levG_le (j : Nat) : levG f n j ≤ n := levF_le n j
theorem levG_same {i j : Nat} (ht : ∀ i j k, f i j = true → f j k = true → f i k = true) (hi : ∀ i, f i i = false) (h : ∀ k, k < n → f k i = f k j) : levG f n i = levG f n j := by
  rw [levG_fix ht hi i, levG_fix ht hi j]
  refine mxN_same n fun k hk => ?_
  rw [h k hk]
/-- It is the only one. -/
theorem levG_only (ht : ∀ i j k, f i j = true → f j k = true → f i k = true) (hi : ∀ i, f i i = false) {g : Nat → Nat} (hg : ∀ j, j < n → g j = mxN (fun i => if f i j = true then g i + 1 else 0) n) : ∀ (m j : Nat), j < n → cntN (fun p => f p j) n ≤ m → g j = levG f n j
  | m, j, hj, hm => by
    rw [hg j hj, levG_fix ht hi j]
    refine mxN_same n fun i hin => ?_
    split
    · rename_i h
      have h1 := preds_less ht hi hin h
      cases m with
      | zero => omega
      | succ m => rw [levG_only ht hi hg m i hin (by omega)]
    · rfl
end
def levL (f : Nat → Nat → Bool) (n : Nat) : List Int := (List.range n).map fun j => (levG f n j : Int)
/-- Behind t rounds, i rows and j columns. -/
def LevI (f : Nat → Nat → Bool) (n t i j : Nat) (L : List Int) : Prop := L.length = n ∧ (∀ q, q < n → (levF f n t q : Int) ≤ L.getD q 0 ∧ L.getD q 0 ≤ (levG f n q : Int)) ∧
  (∀ p q, p < i → p < n → q < n → f p q = true → (levF f n t p : Int) + 1 ≤ L.getD q 0) ∧ ∀ q, q < j → q < n → f i q = true → (levF f n t i : Int) + 1 ≤ L.getD q 0
section
variable {f : Nat → Nat → Bool} {n t i j : Nat} {L : List Int}
theorem levI_start (f : Nat → Nat → Bool) (n : Nat) : LevI f n 0 0 0 (List.replicate n 0) := by
  refine ⟨List.length_replicate, fun q hq => ?_, fun _ _ h => absurd h (by omega), fun _ h => absurd h (by omega)⟩
  have : (List.replicate n (0 : Int)).getD q 0 = 0 := by simp [hq]
  rw [this, show levF f n 0 q = 0 from rfl]
  omega
theorem set_at {L : List Int} {j q : Nat} {v : Int} (hj : j < L.length) : (L.set j v).getD q 0 = if q = j then v else L.getD q 0 := by
  rw [List.getD_eq_getElem?_getD, List.getElem?_set, List.getD_eq_getElem?_getD]
  by_cases e : q = j
  · subst e; simp [hj]
  · have : j ≠ q := fun h => e h.symm
    simp [e, this]
theorem levI_put (ht : ∀ i j k, f i j = true → f j k = true → f i k = true) (hir : ∀ i, f i i = false) (h : LevI f n t i j L) (hi : i < n) (hj : j < n) (hf : f i j = true) : LevI f n t i (j + 1) (L.set j (max (L.getD j 0) (L.getD i 0 + 1))) := by
  obtain ⟨hl, h1, h2, h3⟩ := h
  have hs := levG_step (n := n) ht hir hi hf
  have hi2 := h1 i hi
  have hj2 := h1 j hj
  have hset : ∀ q, (L.set j (max (L.getD j 0) (L.getD i 0 + 1))).getD q 0 = if q = j then max (L.getD j 0) (L.getD i 0 + 1) else L.getD q 0 := fun q => set_at (by omega)
  refine ⟨by rw [List.length_set]; exact hl, fun q hq => ?_, fun p q hp hpn hq hpq => ?_, fun q hq hqn hiq => ?_⟩
  · rw [hset]
    by_cases e : q = j
    · rw [if_pos e]; subst e; omega
    · rw [if_neg e]; exact h1 q hq
  · rw [hset]
    have := h2 p q hp hpn hq hpq
    by_cases e : q = j
    · rw [if_pos e]; subst e; omega
    · rw [if_neg e]; exact this
  · rw [hset]
    by_cases e : q = j
    · rw [if_pos e]; omega
    · rw [if_neg e]; exact h3 q (by omega) hqn hiq
theorem levI_skip (h : LevI f n t i j L) (hf : f i j = false) : LevI f n t i (j + 1) L := by
  obtain ⟨hl, h1, h2, h3⟩ := h
  refine ⟨hl, h1, h2, fun q hq hqn hiq => ?_⟩
  by_cases e : q = j
  · subst e; rw [hf] at hiq; cases hiq
  · exact h3 q (by omega) hqn hiq
theorem levI_row (h : LevI f n t i n L) : LevI f n t (i + 1) 0 L := by
  obtain ⟨hl, h1, h2, h3⟩ := h
  refine ⟨hl, h1, fun p q hp hpn hq hpq => ?_, fun _ h => absurd h (by omega)⟩
  by_cases e : p = i
  · subst e; exact h3 q hq hq hpq
  · exact h2 p q (by omega) hpn hq hpq
theorem levI_round (h : LevI f n t n 0 L) : LevI f n (t + 1) 0 0 L := by
  obtain ⟨hl, h1, h2, _⟩ := h
  refine ⟨hl, fun q hq => ⟨?_, (h1 q hq).2⟩, fun _ _ h => absurd h (by omega), fun _ h => absurd h (by omega)⟩
  have h0 : 0 ≤ L.getD q 0 := by have := h1 q hq; omega
  have : levF f n (t + 1) q ≤ (L.getD q 0).toNat := by
    rw [levF]
    refine mxN_le n fun i hi => ?_
    by_cases hf : f i q = true
    · rw [if_pos hf]
      have := h2 i q hi hi hq hf
      omega
    · rw [if_neg hf]; omega
  omega
theorem levI_end (h : LevI f n n 0 0 L) : L = levL f n := by
  obtain ⟨hl, h1, _, _⟩ := h
  apply List.ext_getElem?
  intro q
  unfold levL
  by_cases hq : q < n
  · have h2 := h1 q hq
    have h3 : L[q]? = some (L.getD q 0) := by simp [hl, hq]
    rw [h3, List.getElem?_map, List.getElem?_range hq]
    simp only [Option.map_some]
    congr 1
    unfold levG at h2 ⊢
    omega
  · rw [List.getElem?_eq_none (by omega), List.getElem?_eq_none (by simp; omega)]
end
end Go.Proofs.Ytjkjnicgbfpjiaa
