/- Ordered lists as plain data, over any type: valid, found, put in their place, taken out. -/
import Derived.Test.YtnkdpogplkomhaaBase
namespace Go.Proofs.Ytnkdpogplkomhaa

section
variable {α : Type}
/-- The place of the first that p holds of, or -1. -/
def findFromP (p : α → Bool) : List α → Int → Int
  | [], _ => -1
  | c :: r, k => if p c = true then k else findFromP p r (k + 1)
def findP (p : α → Bool) (l : List α) : Int := findFromP p l 0
theorem findFromP_drop (p : α → Bool) (l : List α) (k : Nat) (h : ∀ (j : Nat) (c : α), j < k → l[j]? = some c → p c = false) (hk : k ≤ l.length) : findP p l = findFromP p (l.drop k) k := by
  unfold findP
  induction k with
  | zero => simp
  | succ k ih =>
    rw [ih (fun j c hj => h j c (by omega)) (by omega)]
    rw [List.drop_eq_getElem_cons (by omega)]
    rw [findFromP, if_neg (by rw [h k _ (by omega) (List.getElem?_eq_getElem (by omega))]; exact Bool.false_ne_true)]
    rfl
theorem findP_at (p : α → Bool) (l : List α) (k : Nat) (c : α) (h : ∀ (j : Nat) (c : α), j < k → l[j]? = some c → p c = false) (hc : l[k]? = some c) (he : p c = true) : findP p l = k := by
  have hk : k < l.length := (List.getElem?_eq_some_iff.1 hc).1
  rw [findFromP_drop p l k h (by omega), List.drop_eq_getElem_cons hk, findFromP]
  rw [List.getElem?_eq_getElem hk] at hc
  injection hc with hc
  rw [hc, if_pos he]
theorem findP_none (p : α → Bool) (l : List α) (h : ∀ (j : Nat) (c : α), l[j]? = some c → p c = false) : findP p l = -1 := by
  rw [findFromP_drop p l l.length (fun j c _ => h j c) (Nat.le_refl _)]
  simp [findFromP]
theorem findP_spec (p : α → Bool) (l : List α) : (findP p l = -1 ∧ ∀ (j : Nat) (c : α), l[j]? = some c → p c = false) ∨ ∃ (k : Nat) (c : α), findP p l = k ∧ l[k]? = some c ∧ p c = true ∧ ∀ (j : Nat) (d : α), j < k → l[j]? = some d → p d = false := by
  by_cases h : ∃ (k : Nat) (c : α), l[k]? = some c ∧ p c = true
  · have hex : ∃ k : Nat, (∃ c : α, l[k]? = some c ∧ p c = true) ∧ ∀ j, j < k → ¬ ∃ c : α, l[j]? = some c ∧ p c = true := by
      obtain ⟨k, hk⟩ := h
      induction k using Nat.strongRecOn with
      | ind k ih =>
        by_cases hj : ∃ j : Nat, j < k ∧ ∃ c : α, l[j]? = some c ∧ p c = true
        · obtain ⟨j, hjk, hc⟩ := hj
          exact ih j hjk hc
        · exact ⟨k, hk, fun j hjk hc => hj ⟨j, hjk, hc⟩⟩
    obtain ⟨k, ⟨c, hc, he⟩, hmin⟩ := hex
    have hm : ∀ (j : Nat) (d : α), j < k → l[j]? = some d → p d = false := fun j d hj hd => by
      cases hp : p d
      · rfl
      · exact absurd ⟨d, hd, hp⟩ (hmin j hj)
    exact .inr ⟨k, c, findP_at p l k c hm hc he, hc, he, hm⟩
  · have hm : ∀ (j : Nat) (c : α), l[j]? = some c → p c = false := fun j c hc => by
      cases hp : p c
      · rfl
      · exact absurd ⟨j, c, hc, hp⟩ h
    exact .inl ⟨findP_none p l hm, hm⟩

variable (ok : α → Bool) (lt : α → α → Bool)
def goodO (l : List α) (k : Nat) : Bool := match l[k]? with
  | none => true
  | some c => ok c && (k == 0 || match l[k-1]? with | none => true | some d => lt d c)
def validO (max : Nat) (l : List α) : Bool := (List.range l.length).all (goodO ok lt l) && decide (l.length ≤ max)
variable {ok : α → Bool} {lt : α → α → Bool} {max : Nat}
theorem goodO_ok {l : List α} {k : Nat} {c : α} (h : goodO ok lt l k = true) (hc : l[k]? = some c) : ok c = true := by
  unfold goodO at h; rw [hc] at h; simp at h; exact h.1
theorem goodO_lt {l : List α} {k : Nat} {c d : α} (h : goodO ok lt l (k+1) = true) (hc : l[k+1]? = some c) (hd : l[k]? = some d) : lt d c = true := by
  unfold goodO at h; rw [hc] at h; simp [hd] at h; exact h.2
theorem goodO_first {l : List α} {c : α} {k : Nat} (hk : k = 0) (hc : l[k]? = some c) (h : ok c = true) : goodO ok lt l k = true := by
  subst hk; simp [goodO, hc, h]
theorem goodO_next {l : List α} {c d : α} {k : Nat} (hc : l[k]? = some c) (hd : l[k-1]? = some d) (h : ok c = true) (hlt : lt d c = true) : goodO ok lt l k = true := by
  simp [goodO, hc, hd, h, hlt]
theorem goodO_bad {l : List α} {c : α} {k : Nat} (hc : l[k]? = some c) (h : ok c = false) : goodO ok lt l k = false := by
  simp [goodO, hc, h]
theorem goodO_less {l : List α} {c d : α} {k : Nat} (hk : 0 < k) (hc : l[k]? = some c) (hd : l[k-1]? = some d) (hlt : lt d c = false) : goodO ok lt l k = false := by
  have : (k == 0) = false := by simp; omega
  simp [goodO, hc, hd, hlt, this]
theorem validO_of {l : List α} (h : ∀ j, j < l.length → goodO ok lt l j = true) : validO ok lt max l = decide (l.length ≤ max) := by
  unfold validO
  rw [List.all_eq_true.2 (fun j hj => h j (List.mem_range.1 hj))]; rfl
theorem validO_no {l : List α} {k : Nat} (hk : k < l.length) (h : goodO ok lt l k = false) : validO ok lt max l = false := by
  unfold validO
  rw [Bool.and_eq_false_iff]; left
  rw [List.all_eq_false]
  exact ⟨k, List.mem_range.2 hk, by simp [h]⟩
theorem validO_long {l : List α} (h : max < l.length) : validO ok lt max l = false := by
  unfold validO; rw [Bool.and_eq_false_iff]; right; simp; omega
theorem validO_good {l : List α} (h : validO ok lt max l = true) (k : Nat) : goodO ok lt l k = true := by
  unfold validO at h
  simp only [Bool.and_eq_true, List.all_eq_true, List.mem_range] at h
  by_cases hk : k < l.length
  · exact h.1 k hk
  · unfold goodO; rw [List.getElem?_eq_none (by omega)]
theorem validO_len {l : List α} (h : validO ok lt max l = true) : l.length ≤ max := by
  unfold validO at h; simp at h; exact h.2
theorem validO_ok {l : List α} (h : validO ok lt max l = true) : ∀ c ∈ l, ok c = true := by
  intro c hc
  obtain ⟨k, hk⟩ := List.mem_iff_getElem?.1 hc
  exact goodO_ok (validO_good h k) hk
theorem ascO {l : List α} (tr : ∀ a b c, lt a b = true → lt b c = true → lt a c = true) (h : validO ok lt max l = true) : ∀ (n i : Nat) (c d : α), l[i]? = some c → l[i + n + 1]? = some d → lt c d = true
  | 0, i, c, d, hc, hd => goodO_lt (validO_good h (i+1)) hd hc
  | n + 1, i, c, d, hc, hd => by
    have hlt : i + n + 1 < l.length := by have := (List.getElem?_eq_some_iff.1 hd).1; omega
    have h1 := ascO tr h n i c _ hc (List.getElem?_eq_getElem hlt)
    have h2 := goodO_lt (validO_good h (i + n + 1 + 1)) hd (List.getElem?_eq_getElem hlt)
    exact tr _ _ _ h1 h2
theorem pairO {l : List α} (tr : ∀ a b c, lt a b = true → lt b c = true → lt a c = true) (h : validO ok lt max l = true) : l.Pairwise (fun c d => lt c d = true) := by
  rw [List.pairwise_iff_getElem]
  intro i j hi hj hij
  obtain ⟨n, rfl⟩ : ∃ n, j = i + n + 1 := ⟨j - i - 1, by omega⟩
  exact ascO tr h n i _ _ (List.getElem?_eq_getElem hi) (List.getElem?_eq_getElem hj)
theorem validO_mk {l : List α} (h1 : ∀ c ∈ l, ok c = true) (h2 : l.Pairwise (fun c d => lt c d = true)) (h3 : l.length ≤ max) : validO ok lt max l = true := by
  rw [validO_of, decide_eq_true_eq]
  · exact h3
  · intro j hj
    have hc := List.getElem?_eq_getElem hj
    have ho := h1 _ (List.getElem_mem hj)
    rcases Nat.eq_zero_or_pos j with h0 | hp
    · exact goodO_first h0 hc ho
    · have hj1 : j - 1 < l.length := by omega
      rw [List.pairwise_iff_getElem] at h2
      exact goodO_next hc (List.getElem?_eq_getElem hj1) ho (h2 (j-1) j hj1 hj (by omega))
theorem validO_sub {l m : List α} (tr : ∀ a b c, lt a b = true → lt b c = true → lt a c = true) (h : validO ok lt max l = true) (hs : m.Sublist l) : validO ok lt max m = true :=
  validO_mk (fun c hc => validO_ok h c (hs.subset hc)) ((pairO tr h).sublist hs) (Nat.le_trans hs.length_le (validO_len h))
theorem part_sub (l : List α) (k : Nat) : (l.take k ++ l.drop (k + 1)).Sublist l := by
  have h1 : (l.drop (k + 1)).Sublist (l.drop k) := by
    rw [← List.drop_drop]
    exact List.drop_sublist _ _
  have h2 := (List.Sublist.refl (l.take k)).append h1
  rwa [List.take_append_drop] at h2
theorem twiceO_bad {l : List α} (ir : ∀ a, lt a a = false) {k : Nat} (hk : k < l.length) : validO ok lt max (l.take (k + 1) ++ l.drop k) = false := by
  cases hv : validO ok lt max (l.take (k + 1) ++ l.drop k)
  · rfl
  · have h1 : (l.take (k + 1) ++ l.drop k)[k]? = some l[k] := by
      rw [List.getElem?_append_left (by simp; omega), List.getElem?_take, if_pos (by omega), List.getElem?_eq_getElem hk]
    have h2 : (l.take (k + 1) ++ l.drop k)[k + 1]? = some l[k] := by
      rw [List.getElem?_append_right (by rw [List.length_take]; omega), List.length_take, Nat.min_eq_left (by omega), Nat.sub_self, List.getElem?_drop, Nat.add_zero, List.getElem?_eq_getElem hk]
    have := goodO_lt (validO_good hv (k + 1)) h2 h1
    rw [ir] at this
    cases this

/-- In its place. -/
def insO (lt : α → α → Bool) (c : α) : List α → List α
  | [] => [c]
  | d :: r => if lt d c = true then d :: insO lt c r else c :: d :: r
theorem insO_at (c : α) (l : List α) (k : Nat) (hk : k ≤ l.length) (h : ∀ (j : Nat) (d : α), j < k → l[j]? = some d → lt d c = true) (h2 : ∀ d, l[k]? = some d → lt d c = false) : insO lt c l = l.take k ++ c :: l.drop k := by
  induction l generalizing k with
  | nil => simp at hk; subst hk; rfl
  | cons d l ih =>
    cases k with
    | zero => have := h2 d rfl; simp [insO, this]
    | succ k =>
      have h0 := h 0 d (by omega) rfl
      have := ih k (by simpa using hk) (fun j e hj he => h (j+1) e (by omega) (by simpa using he)) (fun e he => h2 e (by simpa using he))
      rw [insO, if_pos h0, this]; rfl
theorem insO_length (c : α) (l : List α) : (insO lt c l).length = l.length + 1 := by
  induction l with
  | nil => rfl
  | cons d l ih => unfold insO; split <;> simp [ih]
theorem insO_mem (c d : α) (l : List α) : d ∈ insO lt c l ↔ d = c ∨ d ∈ l := by
  induction l with
  | nil => simp [insO]
  | cons e l ih =>
    unfold insO
    split
    · simp only [List.mem_cons, ih]
      exact ⟨fun h => by rcases h with h | h | h <;> simp [h], fun h => by rcases h with h | h | h <;> simp [h]⟩
    · simp
theorem insO_pair (tr : ∀ a b c, lt a b = true → lt b c = true → lt a c = true) (c : α) (l : List α) (h : l.Pairwise (fun c d => lt c d = true)) (tot : ∀ d ∈ l, lt d c = false → lt c d = true) : (insO lt c l).Pairwise (fun c d => lt c d = true) := by
  induction l with
  | nil => simp [insO]
  | cons e l ih =>
    rw [List.pairwise_cons] at h
    unfold insO
    split
    · rename_i hlt
      rw [List.pairwise_cons]
      refine ⟨fun d hd => ?_, ih h.2 fun d hd => tot d (List.mem_cons_of_mem _ hd)⟩
      rcases (insO_mem c d l).1 hd with rfl | hd
      · exact hlt
      · exact h.1 d hd
    · rename_i hlt
      simp only [Bool.not_eq_true] at hlt
      have hce := tot e List.mem_cons_self hlt
      rw [List.pairwise_cons]
      refine ⟨fun d hd => ?_, List.pairwise_cons.2 h⟩
      rcases List.mem_cons.1 hd with rfl | hd
      · exact hce
      · exact tr _ _ _ hce (h.1 d hd)
theorem insO_place (c : α) (l : List α) : ∃ k : Nat, k ≤ l.length ∧ (∀ (j : Nat) (d : α), j < k → l[j]? = some d → lt d c = true) ∧ ∀ d, l[k]? = some d → lt d c = false := by
  induction l with
  | nil => exact ⟨0, by simp, fun j d hj => absurd hj (by omega), fun d hd => by simp at hd⟩
  | cons e l ih =>
    cases hlt : lt e c
    · refine ⟨0, by simp, fun j d hj => absurd hj (by omega), fun d hd => ?_⟩
      simp at hd
      exact hd ▸ hlt
    · obtain ⟨k, hk, ha, hb⟩ := ih
      refine ⟨k + 1, by simp; omega, fun j d hj hd => ?_, fun d hd => hb d (by simpa using hd)⟩
      cases j with
      | zero => simp at hd; subst hd; exact hlt
      | succ j => exact ha j d (by omega) (by simpa using hd)
end
end Go.Proofs.Ytnkdpogplkomhaa
