/- What follows from a relation of places: the least transitive one, found place by place. Plain data. -/
import Derived.Test.YtmcnjmflmpfjlaaBase
namespace Go.Proofs.Ytmcnjmflmpfjlaa

/-- What is directly so, or through the places below k. -/
def wayB (f : Nat → Nat → Bool) : Nat → Nat → Nat → Bool
  | 0, i, j => f i j
  | k + 1, i, j => wayB f k i j || (wayB f k i k && wayB f k k j)
theorem wayB_more {f : Nat → Nat → Bool} {i j : Nat} (h : f i j = true) : ∀ k, wayB f k i j = true
  | 0 => h
  | k + 1 => by simp [wayB, wayB_more h k]
theorem wayB_through {f : Nat → Nat → Bool} : ∀ (m : Nat) {i x j : Nat}, x < m → wayB f m i x = true → wayB f m x j = true → wayB f m i j = true
  | 0, _, _, _, h, _, _ => absurd h (by omega)
  | m + 1, i, x, j, hx, h1, h2 => by
    have ih := @wayB_through f m
    simp only [wayB, Bool.or_eq_true, Bool.and_eq_true] at h1 h2 ⊢
    by_cases hm : x = m
    · subst hm
      have a1 : wayB f x i x = true := h1.elim id And.left
      have a2 : wayB f x x j = true := h2.elim id And.right
      exact .inr ⟨a1, a2⟩
    · have hx2 : x < m := by omega
      rcases h1 with h1 | ⟨h1, h3⟩
      · rcases h2 with h2 | ⟨h2, h4⟩
        · exact .inl (ih hx2 h1 h2)
        · exact .inr ⟨ih hx2 h1 h2, h4⟩
      · rcases h2 with h2 | ⟨h2, h4⟩
        · exact .inr ⟨h1, ih hx2 h3 h2⟩
        · exact .inr ⟨h1, h4⟩
theorem wayB_least {f : Nat → Nat → Bool} {T : Nat → Nat → Prop} (h0 : ∀ i j, f i j = true → T i j) (ht : ∀ i j k, T i j → T j k → T i k) : ∀ (m i j : Nat), wayB f m i j = true → T i j
  | 0, i, j, h => h0 i j h
  | m + 1, i, j, h => by
    simp only [wayB, Bool.or_eq_true, Bool.and_eq_true] at h
    rcases h with h | ⟨h1, h2⟩
    · exact wayB_least h0 ht m i j h
    · exact ht _ _ _ (wayB_least h0 ht m i m h1) (wayB_least h0 ht m m j h2)
/-- All that follows, of n places. -/
def clos (f : Nat → Nat → Bool) (n : Nat) (i j : Nat) : Bool := wayB f n i j
def InN (f : Nat → Nat → Bool) (n : Nat) : Prop := ∀ i j, f i j = true → i < n ∧ j < n
theorem clos_in {f : Nat → Nat → Bool} {n : Nat} (hf : InN f n) : InN (clos f n) n := fun i j h => wayB_least (T := fun i j => i < n ∧ j < n) hf (fun _ _ _ h1 h2 => ⟨h1.1, h2.2⟩) n i j h
theorem clos_direct {f : Nat → Nat → Bool} {n i j : Nat} (h : f i j = true) : clos f n i j = true := wayB_more h n
theorem clos_trans {f : Nat → Nat → Bool} {n i j k : Nat} (hf : InN f n) (h1 : clos f n i j = true) (h2 : clos f n j k = true) : clos f n i k = true :=
  wayB_through n (clos_in hf i j h1).2 h1 h2
theorem clos_least {f : Nat → Nat → Bool} {n : Nat} {T : Nat → Nat → Prop} (h0 : ∀ i j, f i j = true → T i j) (ht : ∀ i j k, T i j → T j k → T i k) {i j : Nat} (h : clos f n i j = true) : T i j := wayB_least h0 ht n i j h
/-- It is the only one: transitive, with all that is direct, and no more than that. -/
theorem clos_only {f : Nat → Nat → Bool} {n : Nat} {g : Nat → Nat → Bool} (h0 : ∀ i j, f i j = true → g i j = true) (ht : ∀ i j k, g i j = true → g j k = true → g i k = true)
    (hl : ∀ i j, g i j = true → clos f n i j = true) (i j : Nat) : g i j = clos f n i j := by
  rw [Bool.eq_iff_iff]
  exact ⟨hl i j, fun h => clos_least (T := fun i j => g i j = true) h0 ht h⟩
theorem clos_first {f : Nat → Nat → Bool} {n i j : Nat} (hf : InN f n) (h : clos f n i j = true) : ∃ x, f i x = true ∧ (x = j ∨ clos f n x j = true) := by
  have key : ∀ a b, (∃ x, f a x = true ∧ (x = b ∨ clos f n x b = true)) → clos f n a b = true := by
    rintro a b ⟨x, h1, rfl | h2⟩
    · exact clos_direct h1
    · exact clos_trans hf (clos_direct h1) h2
  refine clos_least (T := fun i j => ∃ x, f i x = true ∧ (x = j ∨ clos f n x j = true)) (fun i j h => ⟨j, h, .inl rfl⟩) ?_ h
  rintro a b c ⟨x, h1, h2⟩ h3
  have h4 := key b c h3
  rcases h2 with rfl | h2
  · exact ⟨x, h1, .inr h4⟩
  · exact ⟨x, h1, .inr (clos_trans hf h2 h4)⟩
theorem clos_mono {f g : Nat → Nat → Bool} {n : Nat} (hg : InN g n) (h : ∀ i j, f i j = true → g i j = true) {i j : Nat} (hc : clos f n i j = true) : clos g n i j = true :=
  clos_least (T := fun i j => clos g n i j = true) (fun i j hij => clos_direct (h i j hij)) (fun _ _ _ h1 h2 => clos_trans hg h1 h2) hc
end Go.Proofs.Ytmcnjmflmpfjlaa
