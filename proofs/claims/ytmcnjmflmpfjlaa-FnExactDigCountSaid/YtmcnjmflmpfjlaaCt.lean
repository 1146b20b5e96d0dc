/- How many orders of digging there are. Plain data. -/
import Derived.Test.YtmcnjmflmpfjlaaFr
namespace Go.Proofs.Ytmcnjmflmpfjlaa

def countP (f : Nat → Nat → Bool) (n : Nat) : Nat → (Nat → Bool) → Nat
  | 0, _ => 1
  | m + 1, d => (((List.range n).filter (freeB f n d)).map fun a => countP f n m (dugB d a)).sum
def factN : Nat → Nat
  | 0 => 1
  | n + 1 => (n + 1) * factN n
theorem factN_pos : ∀ n, 0 < factN n
  | 0 => by simp [factN]
  | n + 1 => Nat.mul_pos (by omega) (factN_pos n)
theorem sum_le {α : Type} {g : α → Nat} {c : Nat} : ∀ {l : List α}, (∀ x ∈ l, g x ≤ c) → (l.map g).sum ≤ l.length * c
  | [], _ => by simp
  | x :: l, h => by
    have h1 := h x List.mem_cons_self
    have h2 := sum_le (g := g) (c := c) fun y hy => h y (List.mem_cons_of_mem x hy)
    simp only [List.map_cons, List.sum_cons, List.length_cons, Nat.add_mul]
    omega
theorem sum_eq {α : Type} {g : α → Nat} {c : Nat} : ∀ {l : List α}, (∀ x ∈ l, g x = c) → (l.map g).sum = l.length * c
  | [], _ => by simp
  | x :: l, h => by
    have h1 := h x List.mem_cons_self
    have h2 := sum_eq (g := g) (c := c) fun y hy => h y (List.mem_cons_of_mem x hy)
    simp only [List.map_cons, List.sum_cons, List.length_cons, Nat.add_mul]
    omega
theorem sum_ge {α : Type} {g : α → Nat} {x : α} : ∀ {l : List α}, x ∈ l → g x ≤ (l.map g).sum
  | [], h => by cases h
  | y :: l, h => by
    simp only [List.map_cons, List.sum_cons]
    rcases List.mem_cons.1 h with rfl | h
    · omega
    · have := sum_ge (g := g) h
      omega
section
variable {f : Nat → Nat → Bool} {n : Nat}
theorem free_le (d : Nat → Bool) : ((List.range n).filter (freeB f n d)).length ≤ leftN n d := by
  unfold leftN
  have key : ∀ l : List Nat, (l.filter (freeB f n d)).length ≤ (l.filter fun k => !d k).length := by
    intro l
    induction l with
    | nil => simp
    | cons a l ih =>
      cases hf : freeB f n d a
      · cases hd : d a <;> simp [hf, hd] <;> omega
      · have := (freeB_iff.1 hf).1
        simp [hf, this]; omega
  exact key _
/-- There are no more orders than without relations. -/
theorem count_le : ∀ (m : Nat) (d : Nat → Bool), leftN n d = m → countP f n m d ≤ factN m
  | 0, _, _ => by simp [countP, factN]
  | m + 1, d, h => by
    rw [countP, factN]
    have h1 := free_le (f := f) (n := n) d
    refine Nat.le_trans (sum_le (c := factN m) fun a ha => ?_) (Nat.mul_le_mul_right _ (by omega))
    obtain ⟨h2, h3⟩ := List.mem_filter.1 ha
    have := left_next (List.mem_range.1 h2) (freeB_iff.1 h3).1
    exact count_le m _ (by omega)
theorem count_pos (hi : ∀ i, f i i = false) (ht : ∀ i j k, f i j = true → f j k = true → f i k = true) : ∀ (m : Nat) (d : Nat → Bool), leftN n d = m → 1 ≤ countP f n m d
  | 0, _, _ => by simp [countP]
  | m + 1, d, h => by
    obtain ⟨a, ha, hd⟩ := left_pos h
    obtain ⟨b, hb, hf⟩ := free_some hi ht ha hd
    have h2 := left_next hb (freeB_iff.1 hf).1
    have h3 := count_pos hi ht m (dugB d b) (by omega)
    rw [countP]
    exact Nat.le_trans h3 (sum_ge (g := fun a => countP f n m (dugB d a)) (List.mem_filter.2 ⟨List.mem_range.2 hb, hf⟩))
/-- Without relations all orders are possible. -/
theorem count_all (h0 : ∀ i j, i < n → j < n → f i j = false) : ∀ (m : Nat) (d : Nat → Bool), leftN n d = m → countP f n m d = factN m
  | 0, _, _ => by simp [countP, factN]
  | m + 1, d, h => by
    have e : (List.range n).filter (freeB f n d) = (List.range n).filter fun k => !d k := by
      refine List.filter_congr fun k hk => ?_
      cases hd : d k
      · rw [freeB_iff.2 ⟨hd, fun j hj _ => h0 j k hj (List.mem_range.1 hk)⟩]; rfl
      · cases hf : freeB f n d k
        · rfl
        · rw [(freeB_iff.1 hf).1] at hd; cases hd
    have hl : ((List.range n).filter fun k => !d k).length = m + 1 := h
    rw [countP, factN, e, sum_eq (c := factN m) fun a ha => ?_, hl]
    obtain ⟨h2, h3⟩ := List.mem_filter.1 ha
    have := left_next (List.mem_range.1 h2) (d := d) (by simpa using h3)
    exact count_all h0 m _ (by omega)
/-- Equal relations and equal places left: equally many. -/
theorem count_congr {g : Nat → Nat → Bool} {P : (Nat → Bool) → Prop} (hP : ∀ d a, P d → a < n → freeB f n d a = true → P (dugB d a)) (h : ∀ d a, P d → a < n → freeB f n d a = freeB g n d a) : ∀ (m : Nat) (d : Nat → Bool), P d → countP f n m d = countP g n m d
  | 0, _, _ => rfl
  | m + 1, d, hd => by
    rw [countP, countP]
    have e : (List.range n).filter (freeB f n d) = (List.range n).filter (freeB g n d) := List.filter_congr fun a ha => h d a hd (List.mem_range.1 ha)
    rw [← e]
    congr 1
    refine List.map_congr_left fun a ha => ?_
    obtain ⟨h1, h2⟩ := List.mem_filter.1 ha
    exact count_congr hP h m _ (hP d a hd (List.mem_range.1 h1) h2)
end
section
/-- The order with one place more told to lie above another. -/
def moreB (f : Nat → Nat → Bool) (a b : Nat) (i j : Nat) : Bool := f i j || ((decide (i = a) || f i a) && (decide (j = b) || f b j))
variable {f : Nat → Nat → Bool} {n a b : Nat}
/-- What has been dug has all above it dug. -/
def ClosedD (f : Nat → Nat → Bool) (n : Nat) (d : Nat → Bool) : Prop := ∀ i j, i < n → j < n → f i j = true → d j = true → d i = true
theorem closed_dug {d : Nat → Bool} {x : Nat} (h : ClosedD f n d) (hf : freeB f n d x = true) : ClosedD f n (dugB d x) := by
  intro i j hi hj hij hd
  obtain ⟨_, h2⟩ := freeB_iff.1 hf
  unfold dugB at hd ⊢
  rw [Bool.or_eq_true, decide_eq_true_eq] at hd
  rcases hd with hd | rfl
  · rw [h i j hi hj hij hd]; rfl
  · cases hdi : d i
    · rw [h2 i hi hdi] at hij; cases hij
    · rfl
theorem moreB_free (d : Nat → Bool) {x : Nat} : freeB (moreB f a b) n d x = (freeB f n d x && (!(decide (x = b) || f b x) || (List.range n).all fun k => d k || !(decide (k = a) || f k a))) := by
  rw [Bool.eq_iff_iff, freeB_iff, Bool.and_eq_true, freeB_iff]
  unfold moreB
  constructor
  · rintro ⟨h1, h2⟩
    refine ⟨⟨h1, fun k hk hd => ?_⟩, ?_⟩
    · have := h2 k hk hd
      rw [Bool.or_eq_false_iff] at this
      exact this.1
    · cases hx : (decide (x = b) || f b x)
      · rfl
      · rw [Bool.not_true, Bool.false_or, List.all_eq_true]
        intro k hk
        cases hd : d k
        · have := h2 k (List.mem_range.1 hk) hd
          rw [hx, Bool.and_true, Bool.or_eq_false_iff] at this
          rw [this.2]; rfl
        · rfl
  · rintro ⟨⟨h1, h2⟩, h3⟩
    refine ⟨h1, fun k hk hd => ?_⟩
    rw [h2 k hk hd, Bool.false_or]
    cases hx : (decide (x = b) || f b x)
    · simp
    · rw [hx, Bool.not_true, Bool.false_or, List.all_eq_true] at h3
      have := h3 k (List.mem_range.2 hk)
      rw [hd, Bool.false_or, Bool.not_eq_true'] at this
      rw [this]; rfl
/-- Once the upper one has been dug, it makes no difference any more. -/
theorem count_done (han : a < n) : ∀ (m : Nat) (d : Nat → Bool), ClosedD f n d → d a = true → countP (moreB f a b) n m d = countP f n m d := by
  intro m d hc hd
  refine count_congr (f := moreB f a b) (g := f) (P := fun d => ClosedD f n d ∧ d a = true) (fun d x ⟨h1, h2⟩ _ hf => ?_) (fun d x ⟨h1, h2⟩ _ => ?_) m d ⟨hc, hd⟩
  · rw [moreB_free, Bool.and_eq_true] at hf
    exact ⟨closed_dug h1 hf.1, dugB_of h2⟩
  · rw [moreB_free]
    have hall : ((List.range n).all fun k => d k || !(decide (k = a) || f k a)) = true := by
      rw [List.all_eq_true]
      intro k hk
      cases hdk : d k
      · have h3 : ¬ k = a := fun e => by rw [e, h2] at hdk; cases hdk
        have h4 : f k a = false := by
          cases hfk : f k a
          · rfl
          · rw [h1 k a (List.mem_range.1 hk) han hfk h2] at hdk; cases hdk
        simp [h3, h4]
      · rfl
    rw [hall, Bool.or_true, Bool.and_true]
theorem sum_add {α : Type} {g h : α → Nat} : ∀ (l : List α), (l.map fun x => g x + h x).sum = (l.map g).sum + (l.map h).sum
  | [] => rfl
  | x :: l => by
    simp only [List.map_cons, List.sum_cons, sum_add l]
    omega
theorem sum_filter {α : Type} {g : α → Nat} {p q : α → Bool} (h : ∀ x, p x = true → q x = true) : ∀ (l : List α), ((l.filter p).map g).sum = ((l.filter q).map fun x => if p x = true then g x else 0).sum
  | [] => rfl
  | x :: l => by
    have ih := sum_filter (g := g) h l
    cases hp : p x
    · cases hq : q x
      · simp [hp, hq, ih]
      · simp [hp, hq, ih]
    · simp [hp, h x hp, ih]
/-- Of two places that do not lie above each other one is dug first. -/
theorem count_pair (hi : ∀ i, f i i = false) (ht : ∀ i j k, f i j = true → f j k = true → f i k = true) (han : a < n) (hbn : b < n) (hab : a ≠ b) (h1 : f a b = false) (h2 : f b a = false) :
    ∀ (m : Nat) (d : Nat → Bool), leftN n d = m → ClosedD f n d → d a = false → d b = false → countP (moreB f a b) n m d + countP (moreB f b a) n m d = countP f n m d
  | 0, d, hl, _, hda, _ => by
    exfalso
    have := left_next han hda
    omega
  | m + 1, d, hl, hc, hda, hdb => by
    rw [countP, countP, countP]
    rw [sum_filter (g := fun x => countP (moreB f a b) n m (dugB d x)) (p := freeB (moreB f a b) n d) (q := freeB f n d) (fun x hx => by rw [moreB_free, Bool.and_eq_true] at hx; exact hx.1),
      sum_filter (g := fun x => countP (moreB f b a) n m (dugB d x)) (p := freeB (moreB f b a) n d) (q := freeB f n d) (fun x hx => by rw [moreB_free, Bool.and_eq_true] at hx; exact hx.1), ← sum_add]
    congr 1
    refine List.map_congr_left fun x hx => ?_
    obtain ⟨hxn, hxf⟩ := List.mem_filter.1 hx
    have hxn := List.mem_range.1 hxn
    obtain ⟨hdx, hxa⟩ := freeB_iff.1 hxf
    have hcd := closed_dug hc hxf
    have hln := left_next hxn hdx
    have hna : ((List.range n).all fun k => d k || !(decide (k = a) || f k a)) = false := by
      rw [List.all_eq_false]
      exact ⟨a, List.mem_range.2 han, by simp [hda]⟩
    have hnb : ((List.range n).all fun k => d k || !(decide (k = b) || f k b)) = false := by
      rw [List.all_eq_false]
      exact ⟨b, List.mem_range.2 hbn, by simp [hdb]⟩
    have hbx : f b x = false := hxa b hbn hdb
    have hax : f a x = false := hxa a han hda
    have e1 : freeB (moreB f a b) n d x = !decide (x = b) := by
      rw [moreB_free, hxf, hna, hbx]
      simp
    have e2 : freeB (moreB f b a) n d x = !decide (x = a) := by
      rw [moreB_free, hxf, hnb, hax]
      simp
    rw [e1, e2]
    by_cases hxa2 : x = a
    · subst hxa2
      have hne : decide (x = b) = false := decide_eq_false hab
      rw [hne]
      simp only [Bool.not_false, if_true, decide_true, Bool.not_true, if_neg (by simp : ¬ (false = true)), Nat.add_zero]
      exact count_done hxn m _ hcd (dugB_self x)
    · by_cases hxb2 : x = b
      · subst hxb2
        have hne : decide (x = a) = false := decide_eq_false hxa2
        rw [hne]
        simp only [Bool.not_false, if_true, decide_true, Bool.not_true, if_neg (by simp : ¬ (false = true)), Nat.zero_add]
        exact count_done hxn m _ hcd (dugB_self x)
      · simp only [decide_eq_false hxa2, decide_eq_false hxb2, Bool.not_false, if_true]
        exact count_pair hi ht han hbn hab h1 h2 m _ (by omega) hcd (dugB_no.2 ⟨hda, fun e => hxa2 e.symm⟩) (dugB_no.2 ⟨hdb, fun e => hxb2 e.symm⟩)
end
end Go.Proofs.Ytmcnjmflmpfjlaa
