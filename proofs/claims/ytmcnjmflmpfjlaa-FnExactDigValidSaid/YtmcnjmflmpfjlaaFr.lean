/- Orders of digging over places: what can be dug next, the first such order, and what keeps what lies above. Plain data. -/
import Derived.Test.YtmcnjmflmpfjlaaBit
import Derived.Test.YtmcnjmflmpfjlaaWay
namespace Go.Proofs.Ytmcnjmflmpfjlaa

/-- Nothing that is left lies above a place that is left. -/
def freeB (f : Nat → Nat → Bool) (n : Nat) (d : Nat → Bool) (at_ : Nat) : Bool := (List.range n).all (fun k => d k || !f k at_) && !d at_
def dugB (d : Nat → Bool) (at_ : Nat) : Nat → Bool := fun k => d k || decide (k = at_)
/-- An order whose next place is always free. -/
def seqB (f : Nat → Nat → Bool) (n : Nat) : (Nat → Bool) → List Nat → Bool
  | _, [] => true
  | d, a :: p => decide (a < n) && (freeB f n d a && seqB f n (dugB d a) p)
/-- Always the least place that is free. -/
def digP (f : Nat → Nat → Bool) (n : Nat) : Nat → (Nat → Bool) → List Nat
  | 0, _ => []
  | m + 1, d => leastB n (freeB f n d) :: digP f n m (dugB d (leastB n (freeB f n d)))
def leftN (n : Nat) (d : Nat → Bool) : Nat := ((List.range n).filter fun k => !d k).length
section
variable {f : Nat → Nat → Bool} {n : Nat} {d : Nat → Bool}
theorem freeB_iff {a : Nat} : freeB f n d a = true ↔ d a = false ∧ ∀ k, k < n → d k = false → f k a = false := by
  unfold freeB
  rw [Bool.and_eq_true, List.all_eq_true, Bool.not_eq_true']
  constructor
  · rintro ⟨h1, h2⟩
    refine ⟨h2, fun k hk hd => ?_⟩
    have := h1 k (List.mem_range.2 hk)
    rw [hd] at this
    simpa using this
  · rintro ⟨h1, h2⟩
    refine ⟨fun k hk => ?_, h1⟩
    cases hd : d k
    · rw [h2 k (List.mem_range.1 hk) hd]; rfl
    · rfl
theorem dugB_self (a : Nat) : dugB d a a = true := by simp [dugB]
theorem dugB_of {a k : Nat} (h : d k = true) : dugB d a k = true := by simp [dugB, h]
theorem dugB_no {a k : Nat} : dugB d a k = false ↔ d k = false ∧ k ≠ a := by simp [dugB]
theorem filter_less {α : Type} {p q : α → Bool} {x : α} : ∀ {l : List α}, (∀ y ∈ l, p y = true → q y = true) → x ∈ l → q x = true → p x = false → (l.filter p).length < (l.filter q).length
  | [], _, hx, _, _ => by cases hx
  | y :: l, h, hx, hq, hp => by
    have hle : ∀ {l : List α}, (∀ y ∈ l, p y = true → q y = true) → (l.filter p).length ≤ (l.filter q).length := by
      intro l hl
      induction l with
      | nil => simp
      | cons z l ih =>
        have ih := ih fun y hy => hl y (List.mem_cons_of_mem _ hy)
        have hz := hl z List.mem_cons_self
        cases hpz : p z
        · cases hqz : q z <;> simp [hpz, hqz] <;> omega
        · simp [hpz, hz hpz]; omega
    have hl : ∀ y ∈ l, p y = true → q y = true := fun z hz => h z (List.mem_cons_of_mem _ hz)
    rcases List.mem_cons.1 hx with rfl | hx
    · have := hle hl
      simp [hp, hq]
      omega
    · have := filter_less hl hx hq hp
      have hy := h y List.mem_cons_self
      cases hpy : p y
      · cases hqy : q y <;> simp [hpy, hqy] <;> omega
      · simp [hpy, hy hpy]; omega
/-- Where nothing lies above itself, something can be dug next. -/
theorem free_some (hi : ∀ i, f i i = false) (ht : ∀ i j k, f i j = true → f j k = true → f i k = true) {a : Nat} (ha : a < n) (hd : d a = false) : ∃ b, b < n ∧ freeB f n d b = true := by
  generalize hm : ((List.range n).filter fun j => f j a).length = m
  induction m using Nat.strongRecOn generalizing a with
  | ind m ih =>
    cases hf : freeB f n d a
    · have h1 : ¬ ∀ k, k < n → d k = false → f k a = false := fun h => by
        rw [freeB_iff.2 ⟨hd, h⟩] at hf
        cases hf
      obtain ⟨k, hk⟩ := Classical.not_forall.1 h1
      have hk2 : k < n ∧ d k = false ∧ f k a = true := by
        refine ⟨Classical.byContradiction fun h => hk fun h2 => absurd h2 h, ?_, ?_⟩
        · cases hdk : d k
          · rfl
          · exact absurd (fun _ h => by rw [hdk] at h; cases h) hk
        · cases hfk : f k a
          · exact absurd (fun _ _ => hfk) hk
          · rfl
      obtain ⟨h2, h3, h4⟩ := hk2
      have hlt : ((List.range n).filter fun j => f j k).length < ((List.range n).filter fun j => f j a).length :=
        filter_less (x := k) (fun j _ hj => ht j k a hj h4) (List.mem_range.2 h2) h4 (hi k)
      exact ih _ (by omega) h2 h3 rfl
    · exact ⟨a, ha, hf⟩
theorem left_next {a : Nat} (ha : a < n) (hd : d a = false) : leftN n (dugB d a) + 1 = leftN n d := by
  unfold leftN
  have key : ∀ l : List Nat, l.Nodup → a ∈ l → (l.filter fun k => !dugB d a k).length + 1 = (l.filter fun k => !d k).length := by
    intro l
    induction l with
    | nil => intro _ h; cases h
    | cons b l ih =>
      intro hn hm
      rw [List.nodup_cons] at hn
      by_cases hb : b = a
      · subst hb
        have e : (l.filter fun k => !dugB d b k) = l.filter fun k => !d k := by
          refine List.filter_congr fun k hk => ?_
          have hkb : ¬ k = b := fun e => hn.1 (e ▸ hk)
          simp [dugB, hkb]
        simp [dugB_self, hd, e]
      · have hm2 : a ∈ l := by
          rcases List.mem_cons.1 hm with h | h
          · exact absurd h.symm hb
          · exact h
        have := ih hn.2 hm2
        have e : dugB d a b = d b := by simp [dugB, hb]
        cases hdb : d b
        · simp [e, hdb]; omega
        · simp [e, hdb]; omega
  exact key _ List.nodup_range (List.mem_range.2 ha)
theorem left_pos {m : Nat} (h : leftN n d = m + 1) : ∃ a, a < n ∧ d a = false := by
  unfold leftN at h
  obtain ⟨a, ha⟩ : ∃ a, a ∈ (List.range n).filter fun k => !d k := by
    cases hl : (List.range n).filter fun k => !d k with
    | nil => rw [hl] at h; simp at h
    | cons a r => exact ⟨a, List.mem_cons_self⟩
  obtain ⟨h1, h2⟩ := List.mem_filter.1 ha
  exact ⟨a, List.mem_range.1 h1, by simpa using h2⟩
theorem left_none : leftN n (fun _ => false) = n := by
  unfold leftN
  rw [List.filter_eq_self.2 (by simp)]
  simp
theorem digP_len : ∀ (m : Nat) (d : Nat → Bool), (digP f n m d).length = m
  | 0, _ => rfl
  | m + 1, d => by rw [digP, List.length_cons, digP_len m]
/-- The order that was found is one, each time with the least free place. -/
theorem digP_seq (hi : ∀ i, f i i = false) (ht : ∀ i j k, f i j = true → f j k = true → f i k = true) : ∀ (m : Nat) (d : Nat → Bool), leftN n d = m → seqB f n d (digP f n m d) = true
  | 0, _, _ => rfl
  | m + 1, d, h => by
    obtain ⟨a, ha, hd⟩ := left_pos h
    obtain ⟨b, hb, hf⟩ := free_some hi ht ha hd
    obtain ⟨h1, h2, _⟩ := leastB_spec hb hf
    rw [digP, seqB, Bool.and_eq_true, Bool.and_eq_true, decide_eq_true_eq]
    refine ⟨h2, h1, digP_seq hi ht m _ ?_⟩
    have := left_next h2 (freeB_iff.1 h1).1
    omega
/-- In such an order no place comes twice, and none behind one that it lies above. -/
theorem seq_apart : ∀ {p : List Nat} {d : Nat → Bool}, seqB f n d p = true → (∀ a ∈ p, a < n ∧ d a = false) ∧ p.Pairwise fun a b => a ≠ b ∧ f b a = false
  | [], _, _ => ⟨by simp, List.Pairwise.nil⟩
  | a :: p, d, h => by
    rw [seqB, Bool.and_eq_true, Bool.and_eq_true, decide_eq_true_eq] at h
    obtain ⟨h1, h2, h3⟩ := h
    obtain ⟨i1, i2⟩ := seq_apart h3
    obtain ⟨hd, hk⟩ := freeB_iff.1 h2
    refine ⟨fun b hb => ?_, List.pairwise_cons.2 ⟨fun b hb => ?_, i2⟩⟩
    · rcases List.mem_cons.1 hb with rfl | hb
      · exact ⟨h1, hd⟩
      · exact ⟨(i1 b hb).1, (dugB_no.1 (i1 b hb).2).1⟩
    · obtain ⟨j1, j2⟩ := dugB_no.1 (i1 b hb).2
      exact ⟨fun e => j2 e.symm, hk b (i1 b hb).1 j1⟩
/-- What stands ahead of a part of it has been dug. -/
theorem seq_split {p q : List Nat} : ∀ {r : List Nat} {d : Nat → Bool}, p = r → seqB f n d (r ++ q) = (seqB f n d r && seqB f n (r.foldl dugB d) q)
  | [], d, _ => by simp [seqB]
  | a :: r, d, _ => by
    rw [List.cons_append, seqB, seqB, seq_split rfl (q := q) (r := r), List.foldl_cons, Bool.and_assoc, Bool.and_assoc]
theorem digP_split : ∀ (m k : Nat) (d : Nat → Bool), k ≤ m → digP f n m d = (digP f n m d).take k ++ digP f n (m - k) (((digP f n m d).take k).foldl dugB d)
  | m, 0, d, _ => by simp
  | 0, k + 1, d, h => absurd h (by omega)
  | m + 1, k + 1, d, h => by
    rw [digP, List.take_succ_cons, List.foldl_cons, List.cons_append, show m + 1 - (k + 1) = m - k from by omega]
    congr 1
    exact digP_split m k _ (by omega)
/-- Two neighbours with the greater place first can't be exchanged. -/
theorem digP_first {k a b : Nat} {m : Nat} {d : Nat → Bool} (ha : (digP f n m d)[k]? = some a) (hb : (digP f n m d)[k + 1]? = some b) (hba : b < a) (q : List Nat) : seqB f n d ((digP f n m d).take k ++ b :: q) = false := by
  have hk : k + 1 < m := by have := (List.getElem?_eq_some_iff.1 hb).1; rwa [digP_len] at this
  have hs := digP_split (f := f) (n := n) m k d (by omega)
  obtain ⟨D, hD⟩ : ∃ D, D = ((digP f n m d).take k).foldl dugB d := ⟨_, rfl⟩
  rw [← hD] at hs
  obtain ⟨r, hr⟩ : ∃ r, m - k = r + 1 := ⟨m - k - 1, by omega⟩
  rw [hr, digP] at hs
  have hlen : ((digP f n m d).take k).length = k := by rw [List.length_take, digP_len]; omega
  have ha2 : leastB n (freeB f n D) = a := by
    rw [hs, List.getElem?_append_right (by omega), hlen, Nat.sub_self] at ha
    simpa using ha
  rw [seq_split rfl, ← hD, seqB]
  cases hf : freeB f n D b
  · simp
  · by_cases hbn : b < n
    · have := (leastB_spec hbn hf).2.2
      rw [ha2] at this
      exfalso
      rw [this b hba] at hf
      cases hf
    · simp [hbn]
end
end Go.Proofs.Ytmcnjmflmpfjlaa
