/- Heaps of places as lists: a place that moves up, one that moves down, the least one on top. Plain data. -/
import Derived.Test.YtmcnjmflmpfjlaaBase
namespace Go.Proofs.Ytmcnjmflmpfjlaa

def parQ (k : Nat) : Nat := (k - 1) / 2
def swF (f : Nat → Nat) (i j k : Nat) : Nat := if k = i then f j else if k = j then f i else f k
def HeapF (f : Nat → Nat) (n : Nat) : Prop := ∀ k, 0 < k → k < n → f (parQ k) ≤ f k
/-- In order but for the place j, which may be too low. -/
def UpF (f : Nat → Nat) (n j : Nat) : Prop := (∀ k, 0 < k → k < n → k ≠ j → f (parQ k) ≤ f k) ∧ ∀ k, 0 < k → k < n → parQ k = j → 0 < j → f (parQ j) ≤ f k
/-- In order but for the place i, which may be too high. -/
def DownF (f : Nat → Nat) (n i : Nat) : Prop := (∀ k, 0 < k → k < n → parQ k ≠ i → f (parQ k) ≤ f k) ∧ ∀ k, 0 < k → k < n → parQ k = i → 0 < i → f (parQ i) ≤ f k
section
variable {f : Nat → Nat} {n i j : Nat}
theorem heap_up (h : HeapF f n) (x : Nat) : UpF (fun k => if k = n then x else f k) (n + 1) n := by
  refine ⟨fun k h0 hk hne => ?_, fun k h0 hk hp h1 => ?_⟩
  · dsimp only
    rw [if_neg hne, if_neg (by unfold parQ; omega)]
    exact h k h0 (by omega)
  · unfold parQ at hp
    omega
theorem up_stop (h : UpF f n j) (hs : j = 0 ∨ f (parQ j) ≤ f j) : HeapF f n := by
  intro k h0 hk
  by_cases e : k = j
  · subst e
    rcases hs with hs | hs
    · omega
    · exact hs
  · exact h.1 k h0 hk e
theorem up_step (h : UpF f n j) (h0 : 0 < j) (hjn : j < n) (hlt : f j < f (parQ j)) : UpF (swF f (parQ j) j) n (parQ j) := by
  obtain ⟨h1, h2⟩ := h
  have hpj : parQ j < j := by unfold parQ; omega
  refine ⟨fun k hk0 hkn hne => ?_, fun k hk0 hkn hp hi0 => ?_⟩
  · have hpk : parQ k < k := by unfold parQ; omega
    unfold swF
    rw [if_neg hne]
    by_cases e1 : k = j
    · subst e1
      rw [if_pos rfl, if_pos rfl]
      omega
    · rw [if_neg e1]
      have hk1 := h1 k hk0 hkn e1
      by_cases e2 : parQ k = parQ j
      · rw [if_pos e2]
        rw [e2] at hk1
        omega
      · rw [if_neg e2]
        by_cases e3 : parQ k = j
        · rw [if_pos e3]
          exact h2 k hk0 hkn e3 h0
        · rw [if_neg e3]
          exact hk1
  · have hpp : parQ (parQ j) < parQ j := by unfold parQ at *; omega
    have hpk : parQ k < k := by unfold parQ; omega
    have hpi := h1 (parQ j) hi0 (by omega) (by omega)
    unfold swF
    rw [if_neg (show parQ (parQ j) ≠ parQ j by omega), if_neg (show parQ (parQ j) ≠ j by omega), if_neg (show k ≠ parQ j by omega)]
    by_cases e1 : k = j
    · rw [if_pos e1]
      exact hpi
    · rw [if_neg e1]
      have := h1 k hk0 hkn e1
      rw [hp] at this
      omega
theorem heap_down (h : HeapF f n) (x : Nat) : DownF (fun k => if k = 0 then x else f k) n 0 := by
  refine ⟨fun k h0 hk hne => ?_, fun k h0 hk hp h1 => absurd h1 (by omega)⟩
  dsimp only
  rw [if_neg hne, if_neg (by omega)]
  exact h k h0 hk
theorem down_stop (h : DownF f n i) (hs : ∀ k, 0 < k → k < n → parQ k = i → f i ≤ f k) : HeapF f n := by
  intro k h0 hk
  by_cases e : parQ k = i
  · rw [e]
    exact hs k h0 hk e
  · exact h.1 k h0 hk e
theorem down_step (h : DownF f n i) (h0 : 0 < j) (hjn : j < n) (hp : parQ j = i) (hlt : f j < f i) (hmin : ∀ k, 0 < k → k < n → parQ k = i → f j ≤ f k) : DownF (swF f i j) n j := by
  obtain ⟨h1, h2⟩ := h
  have hij : i < j := by rw [← hp]; unfold parQ; omega
  refine ⟨fun k hk0 hkn hne => ?_, fun k hk0 hkn hpk hj0 => ?_⟩
  · have hpk : parQ k < k := by unfold parQ; omega
    unfold swF
    by_cases e1 : k = j
    · subst e1
      rw [hp, if_pos rfl, if_neg (by omega), if_pos rfl]
      omega
    · by_cases e2 : k = i
      · rw [if_neg (show parQ k ≠ i by omega), if_neg hne, if_pos e2]
        have := h2 j h0 hjn hp (by omega)
        rw [← e2] at this
        rw [e2] at this ⊢
        exact this
      · rw [if_neg e2, if_neg e1, if_neg hne]
        by_cases e3 : parQ k = i
        · rw [if_pos e3]
          exact hmin k hk0 hkn e3
        · rw [if_neg e3]
          exact h1 k hk0 hkn e3
  · unfold swF
    have hkj : j < k := by rw [← hpk]; unfold parQ; omega
    rw [hp, if_pos rfl, if_neg (by omega), if_neg (by omega)]
    have := h1 k hk0 hkn (by omega)
    rw [hpk] at this
    exact this
theorem heap_least (h : HeapF f n) : ∀ k, k < n → f 0 ≤ f k := by
  intro k
  induction k using Nat.strongRecOn with
  | ind k ih =>
    intro hk
    by_cases e : k = 0
    · subst e; exact Nat.le_refl _
    · have h1 := h k (by omega) hk
      have h2 := ih (parQ k) (by unfold parQ; omega) (by unfold parQ; omega)
      omega
theorem heap_less {m : Nat} (h : HeapF f n) (hm : m ≤ n) : HeapF f m := fun k h0 hk => h k h0 (by omega)
theorem heap_ext {g : Nat → Nat} (h : HeapF f n) (he : ∀ k, k < n → f k = g k) : HeapF g n := fun k h0 hk => by
  rw [← he k hk, ← he (parQ k) (by unfold parQ; omega)]
  exact h k h0 hk
theorem up_ext {g : Nat → Nat} (h : UpF f n j) (hj : j < n) (he : ∀ k, k < n → f k = g k) : UpF g n j :=
  ⟨fun k h0 hk hne => by rw [← he k hk, ← he (parQ k) (by unfold parQ; omega)]; exact h.1 k h0 hk hne,
    fun k h0 hk hp h1 => by rw [← he k hk, ← he (parQ j) (by unfold parQ; omega)]; exact h.2 k h0 hk hp h1⟩
theorem down_ext {g : Nat → Nat} (h : DownF f n i) (hi : i < n) (he : ∀ k, k < n → f k = g k) : DownF g n i :=
  ⟨fun k h0 hk hne => by rw [← he k hk, ← he (parQ k) (by unfold parQ; omega)]; exact h.1 k h0 hk hne,
    fun k h0 hk hp h1 => by rw [← he k hk, ← he (parQ i) (by unfold parQ; omega)]; exact h.2 k h0 hk hp h1⟩
end
/-- Two elements of a list are exchanged. -/
def swL (L : List Nat) (i j : Nat) : List Nat := (L.set i (L.getD j 0)).set j (L.getD i 0)
def atL (L : List Nat) (k : Nat) : Nat := L.getD k 0
theorem atL_get {L : List Nat} {k x : Nat} (h : L[k]? = some x) : atL L k = x := by simp [atL, h]
theorem atL_some {L : List Nat} {k : Nat} (h : k < L.length) : L[k]? = some (atL L k) := by simp [atL, h]
theorem swL_len (L : List Nat) (i j : Nat) : (swL L i j).length = L.length := by simp [swL]
theorem swL_at {L : List Nat} {i j k : Nat} (hi : i < L.length) (hj : j < L.length) (hne : i ≠ j) : atL (swL L i j) k = swF (atL L) i j k := by
  unfold atL swL swF
  simp only [List.getD_eq_getElem?_getD, List.getElem?_set, List.length_set]
  by_cases e1 : j = k
  · subst e1
    rw [if_pos rfl, if_pos hj, if_neg (by omega), if_pos rfl]
    rfl
  · rw [if_neg e1]
    by_cases e2 : i = k
    · subst e2
      rw [if_pos rfl, if_pos hi, if_pos rfl]
      rfl
    · rw [if_neg e2, if_neg (fun e => e2 e.symm), if_neg (fun e => e1 e.symm)]
theorem swL_perm {L : List Nat} {i j : Nat} (hi : i < L.length) (hj : j < L.length) : (swL L i j).Perm L := by
  have h := List.set_set_perm hi hj
  have e1 : L.getD j 0 = L[j] := by simp [List.getD_eq_getElem?_getD, hj]
  have e2 : L.getD i 0 = L[i] := by simp [List.getD_eq_getElem?_getD, hi]
  unfold swL
  rw [e1, e2]
  exact h
end Go.Proofs.Ytmcnjmflmpfjlaa
