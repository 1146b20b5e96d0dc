/- The first of the shortest circles through a place, found from its end: by how many steps lead back. Plain data. -/
import Derived.Test.YtmcnjmflmpfjlaaWay
import Derived.Test.YtmcnjmflmpfjlaaBit
namespace Go.Proofs.Ytmcnjmflmpfjlaa

/-- From x, k + 1 steps lead to a. -/
def stB (f : Nat → Nat → Bool) (n a : Nat) : Nat → Nat → Bool
  | 0, x => f x a
  | k + 1, x => (List.range n).any fun y => f x y && stB f n a k y
theorem stB_of {f : Nat → Nat → Bool} {n a : Nat} (hf : ∀ i j, f i j = true → j < n) : ∀ (q : List Nat) (x : Nat), chainB f (x :: q) = true → f (lastD (x :: q)) a = true → stB f n a q.length x = true
  | [], _, _, h => h
  | y :: q, x, hc, h => by
    simp only [chainB, Bool.and_eq_true] at hc
    exact List.any_eq_true.2 ⟨y, List.mem_range.2 (hf _ _ hc.1), by rw [hc.1, stB_of hf q y hc.2 h]; rfl⟩
def downL (f : Nat → Nat → Bool) (n a : Nat) : Nat → Nat → List Nat
  | 0, _ => []
  | k + 1, x => leastB n (fun y => f x y && stB f n a k y) :: downL f n a k (leastB n (fun y => f x y && stB f n a k y))
theorem downL_next {f : Nat → Nat → Bool} {n a k x : Nat} (h : stB f n a (k + 1) x = true) :
    ∃ y, y = leastB n (fun y => f x y && stB f n a k y) ∧ downL f n a (k + 1) x = y :: downL f n a k y ∧ y < n ∧ f x y = true ∧ stB f n a k y = true ∧ ∀ z, z < y → (f x z && stB f n a k z) = false := by
  obtain ⟨y0, h0, h1⟩ := List.any_eq_true.1 h
  obtain ⟨h2, h3, h4⟩ := leastB_spec (p := fun y => f x y && stB f n a k y) (List.mem_range.1 h0) h1
  rw [Bool.and_eq_true] at h2
  exact ⟨_, rfl, rfl, h3, h2.1, h2.2, h4⟩
theorem downL_len (f : Nat → Nat → Bool) (n a : Nat) : ∀ (k x : Nat), (downL f n a k x).length = k
  | 0, _ => rfl
  | k + 1, x => by rw [downL, List.length_cons, downL_len f n a k]
theorem downL_spec {f : Nat → Nat → Bool} {n a : Nat} (hf : ∀ i j, f i j = true → j < n) : ∀ (k x : Nat), stB f n a k x = true →
    chainB f (x :: downL f n a k x) = true ∧ f (lastD (x :: downL f n a k x)) a = true ∧
    ∀ q : List Nat, q.length = k → chainB f (x :: q) = true → f (lastD (x :: q)) a = true → downL f n a k x = q ∨ lexB (downL f n a k x) q = true
  | 0, x, h => ⟨rfl, h, fun q hq _ _ => by
    have : q = [] := List.eq_nil_of_length_eq_zero hq
    subst this
    exact .inl rfl⟩
  | k + 1, x, h => by
    obtain ⟨y, _, h1, h2, h3, h4, h5⟩ := downL_next h
    rw [h1]
    obtain ⟨i1, i2, i3⟩ := downL_spec hf k y h4
    refine ⟨by simp only [chainB, Bool.and_eq_true]; exact ⟨h3, i1⟩, i2, fun q hq hc hl => ?_⟩
    cases q with
    | nil => simp at hq
    | cons z q =>
      simp only [chainB, Bool.and_eq_true] at hc
      have hql : q.length = k := by simpa using hq
      have hz : stB f n a k z = true := by
        have := stB_of hf q z hc.2 hl
        rw [hql] at this
        exact this
      rcases Nat.lt_trichotomy y z with hlt | rfl | hgt
      · exact .inr (by simp [lexB, hlt])
      · rcases i3 q hql hc.2 hl with rfl | h6
        · exact .inl rfl
        · exact .inr (by simp [lexB, h6])
      · have := h5 z hgt
        rw [hc.1, hz] at this
        cases this
/-- The first of the shortest circles that begin at a. -/
def thrP (f : Nat → Nat → Bool) (n a : Nat) : List Nat :=
  match (List.range n).find? fun k => stB f n a k a with
  | some t => a :: downL f n a t a
  | none => []
theorem thrP_some {f : Nat → Nat → Bool} {n a t : Nat} (ht : t < n) (h : stB f n a t a = true) (hno : ∀ s, s < t → stB f n a s a = false) : thrP f n a = a :: downL f n a t a := by
  unfold thrP
  cases hf : (List.range n).find? fun k => stB f n a k a with
  | none =>
    have := List.find?_eq_none.1 hf t (List.mem_range.2 ht)
    rw [h] at this
    exact absurd rfl this
  | some x =>
    obtain ⟨h1, _, h3⟩ := find_range hf
    rw [least_only (p := fun k => stB f n a k a) h1 h3 h hno]
theorem thrP_none {f : Nat → Nat → Bool} {n a : Nat} (hno : ∀ s, s < n → stB f n a s a = false) : thrP f n a = [] := by
  unfold thrP
  cases hf : (List.range n).find? fun k => stB f n a k a with
  | none => rfl
  | some x =>
    obtain ⟨h1, h2, _⟩ := find_range hf
    rw [hno x h2] at h1
    cases h1
theorem way_cons {f : Nat → Nat → Bool} {a t v : Nat} {p : List Nat} (h : Way f a t v p) : ∃ q, p = a :: q ∧ q.length = t ∧ chainB f (a :: q) = true ∧ lastD (a :: q) = v := by
  obtain ⟨h1, h2, h3, h4⟩ := h
  cases p with
  | nil => simp at h1
  | cons b q =>
    simp at h3
    subst h3
    exact ⟨q, rfl, by simpa using h1, h2, h4⟩
theorem thrP_spec {f : Nat → Nat → Bool} {n : Nat} (hf : ∀ i j, f i j = true → j < n) (a : Nat) : BestAt f a (thrP f n a) ∨ (thrP f n a = [] ∧ NoBack f a n) := by
  have hno : ∀ t, (∀ s, s < t → stB f n a s a = false) → NoBack f a t := by
    intro t hn s u p hs hw
    obtain ⟨q, rfl, hq, hc, hl⟩ := way_cons hw
    cases hu : f u a with
    | false => rfl
    | true =>
      have := stB_of hf q a hc (by rw [hl]; exact hu)
      rw [hq, hn s hs] at this
      cases this
  cases hfd : (List.range n).find? fun k => stB f n a k a with
  | some t =>
    obtain ⟨h1, h2, h3⟩ := find_range hfd
    rw [thrP_some h2 h1 h3]
    obtain ⟨i1, i2, i3⟩ := downL_spec hf t a h1
    refine .inl ⟨t, _, ⟨by rw [List.length_cons, downL_len], i1, rfl, rfl⟩, i2, hno t h3, fun u2 q hw hu => ?_⟩
    obtain ⟨q, rfl, hq, hc, hl⟩ := way_cons hw
    rcases i3 q hq hc (by rw [hl]; exact hu) with h | h
    · exact .inl (by rw [h])
    · exact .inr (by simp [lexB, h])
  | none =>
    have h : ∀ s, s < n → stB f n a s a = false := fun s hs => by
      have := List.find?_eq_none.1 hfd s (List.mem_range.2 hs)
      simpa using this
    exact .inr ⟨thrP_none h, hno n h⟩
/-- Both ways of finding it find the same. -/
theorem bestAt_only {f : Nat → Nat → Bool} {a : Nat} {p q : List Nat} (hp : BestAt f a p) (hq : BestAt f a q) : p = q := by
  obtain ⟨t, u, h1, h2, h3, h4⟩ := hp
  obtain ⟨s, v, i1, i2, i3, i4⟩ := hq
  have e : t = s := by
    rcases Nat.lt_trichotomy t s with h | h | h
    · have := i3 t u p h h1
      rw [h2] at this
      cases this
    · exact h
    · have := h3 s v q h i1
      rw [i2] at this
      cases this
  subst e
  rcases h4 v q i1 i2 with h | h
  · exact h
  · rcases i4 u p h1 h2 with h5 | h5
    · exact h5.symm
    · have := lexB_tr h h5
      rw [lexB_irr] at this
      cases this
theorem bestAt_short {f : Nat → Nat → Bool} {n a : Nat} (hf : ∀ i j, f i j = true → j < n) {p : List Nat} (hp : BestAt f a p) : ¬ NoBack f a n := by
  obtain ⟨t, u, h1, h2, _, _⟩ := hp
  exact fun h => noBack_all hf h ⟨h1, h2⟩
theorem thrP_walk {f : Nat → Nat → Bool} {n : Nat} (hf : ∀ i j, f i j = true → j < n) (a : Nat) : thrP f n a = walkP f n a := by
  rcases thrP_spec hf a with h1 | ⟨h1, h2⟩
  · rcases walkP_spec hf a with h3 | ⟨_, h4⟩
    · exact bestAt_only h1 h3
    · exact absurd h4 (bestAt_short hf h1)
  · rcases walkP_spec hf a with h3 | ⟨h3, _⟩
    · exact absurd h2 (bestAt_short hf h3)
    · rw [h1, h3]
/-- A relation whose places stand for classes, each with its least place at its head: circles are the same over all places. -/
theorem cyc_heads {f F : Nat → Nat → Bool} {hc : Nat → Nat} {n : Nat} (hfi : ∀ i j, f i j = true → i < n ∧ j < n) (hFi : ∀ i j, F i j = true → i < n ∧ j < n)
    (hle : ∀ i, i < n → hc i ≤ i) (hF : ∀ i j, i < n → j < n → F i j = f (hc i) (hc j)) (hf : ∀ i j, f i j = true → hc i = i ∧ hc j = j) :
    cycP F n n = cycP f n n := by
  have up : ∀ i j, f i j = true → F i j = true := fun i j h => by
    obtain ⟨h1, h2⟩ := hfi i j h
    obtain ⟨h3, h4⟩ := hf i j h
    rw [hF i j h1 h2, h3, h4]
    exact h
  have upC : ∀ p : List Nat, chainB f p = true → chainB F p = true := by
    intro p
    induction p with
    | nil => exact id
    | cons a p ih =>
      cases p with
      | nil => exact id
      | cons b p =>
        intro h
        simp only [chainB, Bool.and_eq_true] at h ⊢
        exact ⟨up _ _ h.1, ih h.2⟩
  have upB : ∀ {a t u p}, Back f a t u p → Back F a t u p := fun h => ⟨⟨h.1.1, upC _ h.1.2.1, h.1.2.2.1, h.1.2.2.2⟩, up _ _ h.2⟩
  have mapC : ∀ p : List Nat, chainB F p = true → chainB f (p.map hc) = true := by
    intro p
    induction p with
    | nil => exact id
    | cons a p ih =>
      cases p with
      | nil => exact fun _ => rfl
      | cons b p =>
        intro h
        simp only [chainB, Bool.and_eq_true, List.map_cons] at h ⊢
        obtain ⟨h1, h2⟩ := hFi _ _ h.1
        exact ⟨by rw [← hF a b h1 h2]; exact h.1, ih h.2⟩
  have mapL : ∀ p : List Nat, p ≠ [] → lastD (p.map hc) = hc (lastD p) := by
    intro p
    induction p with
    | nil => exact fun h => absurd rfl h
    | cons a p ih =>
      cases p with
      | nil => exact fun _ => rfl
      | cons b p => exact fun _ => ih (by simp)
  have mapB : ∀ {a t u p}, Back F a t u p → Back f (hc a) t (hc u) (p.map hc) := by
    rintro a t u p ⟨⟨h1, h2, h3, h4⟩, h5⟩
    obtain ⟨i1, i2⟩ := hFi _ _ h5
    have hne : p ≠ [] := by rintro rfl; simp at h1
    refine ⟨⟨by simpa using h1, mapC p h2, ?_, by rw [mapL p hne, h4]⟩, by rw [← hF u a i1 i2]; exact h5⟩
    cases p with
    | nil => exact absurd rfl hne
    | cons b p => simp at h3; simp [h3]
  have lexM : ∀ p : List Nat, (∀ x ∈ p, x < n) → lexB p (p.map hc) = false := by
    intro p
    induction p with
    | nil => exact fun _ => rfl
    | cons a p ih =>
      intro h
      have h1 := hle a (h a List.mem_cons_self)
      simp only [List.map_cons, lexB, Bool.or_eq_false_iff, Bool.and_eq_false_iff]
      refine ⟨by simp; omega, ?_⟩
      by_cases e : a = hc a
      · exact .inr (ih fun x hx => h x (List.mem_cons_of_mem _ hx))
      · exact .inl (by simp [e])
  have hin : ∀ {a t u p}, Back F a t u p → ∀ x ∈ p, x < n := fun h => back_in (fun i j h => (hFi i j h).2) h
  have key : FirstC f (cycP F n n) := by
    rcases cycP_first hFi with ⟨h1, h2⟩ | ⟨a, t, u, hb, hm, hl⟩
    · exact .inl ⟨h1, fun a t u q h => h2 a t u q (upB h)⟩
    · have hm2 := mapB hb
      have e : cycP F n n = (cycP F n n).map hc := by
        rcases hl _ _ _ (upB hm2) with h | h
        · exact h
        · rw [lexM _ (hin hb)] at h
          cases h
      rw [← e] at hm2
      exact .inr ⟨_, t, _, hm2, fun b s v q h => hm b s v q (upB h), fun b v q h => hl b v q (upB h)⟩
  exact firstC_only key (cycP_first hfi)
end Go.Proofs.Ytmcnjmflmpfjlaa
