/- Orders of digging, tested from behind: no place comes behind one that it lies above. Plain data. -/
import Derived.Test.YtmcnjmflmpfjlaaVm
namespace Go.Proofs.Ytmcnjmflmpfjlaa
open Go.RowKit

/-- The place a has not come, and none that it lies above has. -/
def bakF (f : Nat → Nat → Bool) (n : Nat) (d : Nat → Bool) (a : Nat) : Bool := !d a && !((List.range n).any fun k => f a k && d k)
def bakB (f : Nat → Nat → Bool) (n : Nat) : (Nat → Bool) → List Nat → Bool
  | _, [] => true
  | d, a :: p => decide (a < n) && (bakF f n d a && bakB f n (dugB d a) p)
def bakI (f : Nat → Nat → Bool) (ids : List Int) : (Nat → Bool) → List Int → Bool
  | _, [] => true
  | d, x :: xs => decide (x ∈ ids) && (bakF f ids.length d (placeI ids x) && bakI f ids (dugB d (placeI ids x)) xs)
section
variable {f : Nat → Nat → Bool} {n : Nat}
theorem bakF_iff {d : Nat → Bool} {a : Nat} : bakF f n d a = true ↔ d a = false ∧ ∀ k, k < n → d k = true → f a k = false := by
  unfold bakF
  rw [Bool.and_eq_true, Bool.not_eq_true', Bool.not_eq_true', List.any_eq_false]
  constructor
  · rintro ⟨h1, h2⟩
    refine ⟨h1, fun k hk hd => ?_⟩
    have := h2 k (List.mem_range.2 hk)
    rw [hd] at this
    simpa using this
  · rintro ⟨h1, h2⟩
    refine ⟨h1, fun k hk => ?_⟩
    cases hd : d k
    · simp
    · simp [h2 k (List.mem_range.1 hk) hd]
theorem bak_apart : ∀ {p : List Nat} {d : Nat → Bool}, bakB f n d p = true → (∀ a ∈ p, a < n ∧ d a = false) ∧ p.Pairwise fun a b => a ≠ b ∧ f b a = false
  | [], _, _ => ⟨by simp, List.Pairwise.nil⟩
  | a :: p, d, h => by
    rw [bakB, Bool.and_eq_true, Bool.and_eq_true, decide_eq_true_eq] at h
    obtain ⟨h1, h2, h3⟩ := h
    obtain ⟨i1, i2⟩ := bak_apart h3
    have hk : ∀ b ∈ p, f b a = false := by
      have key : ∀ {q : List Nat} {e : Nat → Bool}, e a = true → bakB f n e q = true → ∀ b ∈ q, f b a = false := by
        intro q
        induction q with
        | nil => intro _ _ _ b hb; cases hb
        | cons c q ih =>
          intro e he hq b hb
          rw [bakB, Bool.and_eq_true, Bool.and_eq_true] at hq
          rcases List.mem_cons.1 hb with rfl | hb
          · exact (bakF_iff.1 hq.2.1).2 a h1 he
          · exact ih (dugB_of he) hq.2.2 b hb
      exact key (dugB_self a) h3
    refine ⟨fun b hb => ?_, List.pairwise_cons.2 ⟨fun b hb => ⟨fun e => (dugB_no.1 (i1 b hb).2).2 e.symm, hk b hb⟩, i2⟩⟩
    rcases List.mem_cons.1 hb with rfl | hb
    · exact ⟨h1, (bakF_iff.1 h2).1⟩
    · exact ⟨(i1 b hb).1, (dugB_no.1 (i1 b hb).2).1⟩
theorem apart_bak : ∀ {p : List Nat} {d : Nat → Bool}, (∀ a ∈ p, a < n ∧ d a = false) → (p.Pairwise fun a b => a ≠ b ∧ f b a = false) → (∀ a ∈ p, ∀ k, k < n → d k = true → f a k = false) → bakB f n d p = true
  | [], _, _, _, _ => rfl
  | a :: p, d, h1, h2, h3 => by
    obtain ⟨h4, h5⟩ := List.pairwise_cons.1 h2
    have ha := h1 a List.mem_cons_self
    rw [bakB, Bool.and_eq_true, Bool.and_eq_true, decide_eq_true_eq]
    refine ⟨ha.1, bakF_iff.2 ⟨ha.2, h3 a List.mem_cons_self⟩, apart_bak (fun b hb => ?_) h5 fun b hb k hk hd => ?_⟩
    · have := h1 b (List.mem_cons_of_mem _ hb)
      exact ⟨this.1, dugB_no.2 ⟨this.2, fun e => (h4 b hb).1 e.symm⟩⟩
    · by_cases e : k = a
      · subst e; exact (h4 b hb).2
      · have hd2 : d k = true := by simpa [dugB, e] using hd
        exact h3 b (List.mem_cons_of_mem _ hb) k hk hd2
theorem apart_seq (hi : ∀ i, f i i = false) : ∀ {p : List Nat} {d : Nat → Bool}, (∀ a ∈ p, a < n ∧ d a = false) → (p.Pairwise fun a b => a ≠ b ∧ f b a = false) → (∀ k, k < n → d k = false → k ∈ p) → seqB f n d p = true
  | [], _, _, _, _ => rfl
  | a :: p, d, h1, h2, h3 => by
    obtain ⟨h4, h5⟩ := List.pairwise_cons.1 h2
    have ha := h1 a List.mem_cons_self
    rw [seqB, Bool.and_eq_true, Bool.and_eq_true, decide_eq_true_eq]
    refine ⟨ha.1, freeB_iff.2 ⟨ha.2, fun k hk hd => ?_⟩, apart_seq hi (fun b hb => ?_) h5 fun k hk hd => ?_⟩
    · rcases List.mem_cons.1 (h3 k hk hd) with rfl | h6
      · exact hi k
      · exact (h4 k h6).2
    · have := h1 b (List.mem_cons_of_mem _ hb)
      exact ⟨this.1, dugB_no.2 ⟨this.2, fun e => (h4 b hb).1 e.symm⟩⟩
    · obtain ⟨h6, h7⟩ := dugB_no.1 hd
      rcases List.mem_cons.1 (h3 k hk h6) with h8 | h8
      · exact absurd h8 h7
      · exact h8
/-- Of whole orders, both tests say the same. -/
theorem bak_seq (hi : ∀ i, f i i = false) {p : List Nat} (hl : p.length = n) : bakB f n (fun _ => false) p = seqB f n (fun _ => false) p := by
  rw [Bool.eq_iff_iff]
  constructor
  · intro h
    obtain ⟨h1, h2⟩ := bak_apart h
    refine apart_seq hi h1 h2 fun k hk _ => Classical.byContradiction fun hno => ?_
    have hnd : (k :: p).Nodup := List.nodup_cons.2 ⟨hno, h2.imp fun h => h.1⟩
    have := nodup_le n (k :: p) hnd fun x hx => by
      rcases List.mem_cons.1 hx with rfl | hx
      · exact hk
      · exact (h1 x hx).1
    rw [List.length_cons] at this
    omega
  · intro h
    obtain ⟨h1, h2⟩ := seq_apart h
    exact apart_bak h1 h2 fun a _ k _ hd => by cases hd
end
theorem digI_seq (f : Nat → Nat → Bool) (ids : List Int) : ∀ (xs : List Int) (d : Nat → Bool), digI f ids d xs = (xs.all (fun x => decide (x ∈ ids)) && seqB f ids.length d (xs.map (placeI ids)))
  | [], _ => rfl
  | x :: xs, d => by
    rw [digI, digI_seq f ids xs, List.all_cons, List.map_cons, seqB]
    by_cases h : x ∈ ids
    · have := (placeI_at h).2.1
      rw [decide_eq_true h, decide_eq_true this]
      cases freeB f ids.length d (placeI ids x) <;> cases xs.all (fun x => decide (x ∈ ids)) <;> simp
    · rw [decide_eq_false h]
      simp
theorem bakI_bak (f : Nat → Nat → Bool) (ids : List Int) : ∀ (xs : List Int) (d : Nat → Bool), bakI f ids d xs = (xs.all (fun x => decide (x ∈ ids)) && bakB f ids.length d (xs.map (placeI ids)))
  | [], _ => rfl
  | x :: xs, d => by
    rw [bakI, bakI_bak f ids xs, List.all_cons, List.map_cons, bakB]
    by_cases h : x ∈ ids
    · have := (placeI_at h).2.1
      rw [decide_eq_true h, decide_eq_true this]
      cases bakF f ids.length d (placeI ids x) <;> cases xs.all (fun x => decide (x ∈ ids)) <;> simp
    · rw [decide_eq_false h]
      simp
theorem bak_dig {ids : List Int} {f : Nat → Nat → Bool} (hi : ∀ i, f i i = false) {xs : List Int} (hl : xs.length = ids.length) : bakI f ids (fun _ => false) xs = digI f ids (fun _ => false) xs := by
  rw [bakI_bak, digI_seq, bak_seq hi (by simp [hl])]
end Go.Proofs.Ytmcnjmflmpfjlaa
