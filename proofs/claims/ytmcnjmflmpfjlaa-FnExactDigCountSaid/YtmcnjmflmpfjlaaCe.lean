/- How many orders of digging there are, counted from the last place. Plain data. -/
import Derived.Test.YtmcnjmflmpfjlaaCt
namespace Go.Proofs.Ytmcnjmflmpfjlaa

def sumN (n : Nat) (g : Nat → Nat) : Nat := ((List.range n).map g).sum
theorem sumN_congr {n : Nat} {g h : Nat → Nat} (e : ∀ a, a < n → g a = h a) : sumN n g = sumN n h := by
  unfold sumN
  congr 1
  exact List.map_congr_left fun a ha => e a (List.mem_range.1 ha)
theorem sum_zero {α : Type} : ∀ (l : List α), (l.map fun _ => 0).sum = 0
  | [] => rfl
  | _ :: l => by simp [sum_zero l]
theorem sum_swap {α β : Type} (g : α → β → Nat) (r : List β) : ∀ (l : List α), (l.map fun a => (r.map (g a)).sum).sum = (r.map fun b => (l.map fun a => g a b).sum).sum
  | [] => by simp [sum_zero r]
  | a :: l => by
    simp only [List.map_cons, List.sum_cons]
    rw [sum_swap g r l, ← sum_add]
theorem sumN_swap (n : Nat) (g : Nat → Nat → Nat) : sumN n (fun a => sumN n (g a)) = sumN n fun b => sumN n fun a => g a b := sum_swap g _ _
theorem sumN_if (n : Nat) (c : Bool) (g : Nat → Nat) : (if c = true then sumN n g else 0) = sumN n fun a => if c = true then g a else 0 := by
  cases c
  · simp [sumN, sum_zero]
  · simp
theorem sum_if {α : Type} {g : α → Nat} {p : α → Bool} : ∀ (l : List α), ((l.filter p).map g).sum = (l.map fun x => if p x = true then g x else 0).sum
  | [] => rfl
  | x :: l => by
    cases h : p x <;> simp [h, sum_if l]
theorem sumN_filter (n : Nat) (g : Nat → Nat) (p : Nat → Bool) : (((List.range n).filter p).map g).sum = sumN n fun a => if p a = true then g a else 0 := sum_if _
theorem sumN_le {n : Nat} {g h : Nat → Nat} (e : ∀ a, a < n → g a ≤ h a) : sumN n g ≤ sumN n h := by
  have key : ∀ l : List Nat, (∀ a ∈ l, g a ≤ h a) → (l.map g).sum ≤ (l.map h).sum := by
    intro l
    induction l with
    | nil => intro _; simp
    | cons a l ih =>
      intro hl
      have h1 := hl a List.mem_cons_self
      have h2 := ih fun b hb => hl b (List.mem_cons_of_mem _ hb)
      simp only [List.map_cons, List.sum_cons]
      omega
  exact key _ fun a ha => e a (List.mem_range.1 ha)
theorem sumN_one {n k : Nat} (x : Nat) (hk : k < n) : sumN n (fun p => if p = k then x else 0) = x := by
  have key : ∀ l : List Nat, l.Nodup → (l.map fun p => if p = k then x else 0).sum = if k ∈ l then x else 0 := by
    intro l
    induction l with
    | nil => intro _; simp
    | cons a l ih =>
      intro hn
      rw [List.nodup_cons] at hn
      rw [List.map_cons, List.sum_cons, ih hn.2]
      by_cases e : a = k
      · subst e
        simp [hn.1]
      · have e2 : ¬ k = a := fun h => e h.symm
        simp [e, e2]
  unfold sumN
  rw [key _ List.nodup_range, if_pos (List.mem_range.2 hk)]
theorem sumN_add (n : Nat) (g h : Nat → Nat) : sumN n (fun a => g a + h a) = sumN n g + sumN n h := sum_add _

/-- A place that is left and lies above no other one that is left. -/
def lastF (f : Nat → Nat → Bool) (n : Nat) (d : Nat → Bool) (a : Nat) : Bool := !d a && (List.range n).all fun k => d k || (decide (k = a) || !f a k)
def cntE (f : Nat → Nat → Bool) (n : Nat) : Nat → (Nat → Bool) → Nat
  | 0, _ => 1
  | m + 1, d => sumN n fun a => if lastF f n d a = true then cntE f n m (dugB d a) else 0
section
variable {f : Nat → Nat → Bool} {n : Nat} {d : Nat → Bool}
theorem lastF_iff {a : Nat} : lastF f n d a = true ↔ d a = false ∧ ∀ k, k < n → d k = false → k ≠ a → f a k = false := by
  unfold lastF
  rw [Bool.and_eq_true, List.all_eq_true, Bool.not_eq_true']
  constructor
  · rintro ⟨h1, h2⟩
    refine ⟨h1, fun k hk hd hne => ?_⟩
    have := h2 k (List.mem_range.2 hk)
    rw [hd, decide_eq_false hne] at this
    simpa using this
  · rintro ⟨h1, h2⟩
    refine ⟨h1, fun k hk => ?_⟩
    cases hd : d k
    · by_cases e : k = a
      · simp [e]
      · simp [h2 k (List.mem_range.1 hk) hd e]
    · rfl
theorem dug_comm (d : Nat → Bool) (a b : Nat) : dugB (dugB d a) b = dugB (dugB d b) a := by
  funext k
  simp only [dugB, Bool.or_assoc]
  congr 1
  exact Bool.or_comm _ _
theorem left_one {a b : Nat} (h : leftN n d = 1) (ha : a < n) (hb : b < n) (hda : d a = false) (hdb : d b = false) : a = b := by
  refine Classical.byContradiction fun hne => ?_
  have h1 := left_next ha hda
  have h2 := left_next hb (d := dugB d a) (dugB_no.2 ⟨hdb, fun e => hne e.symm⟩)
  omega
theorem swap_dec {a b : Nat} (ha : a < n) (hb : b < n) : (lastF f n d b && freeB f n (dugB d b) a) = (freeB f n d a && lastF f n (dugB d a) b) := by
  rw [Bool.eq_iff_iff, Bool.and_eq_true, Bool.and_eq_true, lastF_iff, freeB_iff, freeB_iff, lastF_iff]
  constructor
  · rintro ⟨⟨h1, h2⟩, h3, h4⟩
    obtain ⟨h5, h6⟩ := dugB_no.1 h3
    refine ⟨⟨h5, fun k hk hd => ?_⟩, dugB_no.2 ⟨h1, fun e => h6 e.symm⟩, fun k hk hd hne => h2 k hk (dugB_no.1 hd).1 hne⟩
    by_cases e : k = b
    · subst e
      exact h2 a ha h5 h6
    · exact h4 k hk (dugB_no.2 ⟨hd, e⟩)
  · rintro ⟨⟨h1, h2⟩, h3, h4⟩
    obtain ⟨h5, h6⟩ := dugB_no.1 h3
    refine ⟨⟨h5, fun k hk hd hne => ?_⟩, dugB_no.2 ⟨h1, fun e => h6 e.symm⟩, fun k hk hd => h2 k hk (dugB_no.1 hd).1⟩
    by_cases e : k = a
    · subst e
      exact h2 b hb h5
    · exact h4 k hk (dugB_no.2 ⟨hd, e⟩) hne
/-- Counted from the last place, there are as many as counted from the first one. -/
theorem cntE_first (hi : ∀ i, f i i = false) : ∀ (m : Nat) (d : Nat → Bool), leftN n d = m + 1 → cntE f n (m + 1) d = sumN n fun a => if freeB f n d a = true then cntE f n m (dugB d a) else 0
  | 0, d, h => by
    rw [cntE]
    refine sumN_congr fun a ha => ?_
    have e : lastF f n d a = freeB f n d a := by
      rw [Bool.eq_iff_iff, lastF_iff, freeB_iff]
      constructor
      · rintro ⟨h1, _⟩
        refine ⟨h1, fun k hk hd => ?_⟩
        rw [left_one h hk ha hd h1]
        exact hi a
      · rintro ⟨h1, _⟩
        exact ⟨h1, fun k hk hd hne => absurd (left_one h hk ha hd h1) hne⟩
    rw [e]
  | m + 1, d, h => by
    rw [cntE]
    have e1 : ∀ b, b < n → (if lastF f n d b = true then cntE f n (m + 1) (dugB d b) else 0) = sumN n fun a => if (lastF f n d b && freeB f n (dugB d b) a) = true then cntE f n m (dugB (dugB d b) a) else 0 := by
      intro b hb
      cases hl : lastF f n d b
      · simp [sumN, sum_zero]
      · have := left_next hb (lastF_iff.1 hl).1
        rw [if_pos rfl, cntE_first hi m (dugB d b) (by omega)]
        rfl
    have e2 : ∀ a, a < n → (if freeB f n d a = true then cntE f n (m + 1) (dugB d a) else 0) = sumN n fun b => if (freeB f n d a && lastF f n (dugB d a) b) = true then cntE f n m (dugB (dugB d a) b) else 0 := by
      intro a _
      cases hl : freeB f n d a
      · simp [sumN, sum_zero]
      · rw [if_pos rfl, cntE]
        rfl
    rw [sumN_congr e1, sumN_congr e2, sumN_swap]
    refine sumN_congr fun a ha => sumN_congr fun b hb => ?_
    rw [swap_dec ha hb, dug_comm]
theorem cntE_count (hi : ∀ i, f i i = false) : ∀ (m : Nat) (d : Nat → Bool), leftN n d = m → cntE f n m d = countP f n m d
  | 0, _, _ => rfl
  | m + 1, d, h => by
    rw [cntE_first hi m d h, countP, sumN_filter]
    refine sumN_congr fun a ha => ?_
    cases hf : freeB f n d a
    · rfl
    · have := left_next ha (freeB_iff.1 hf).1
      rw [if_pos rfl, if_pos rfl, cntE_count hi m _ (by omega)]
theorem leftN_ext {e : Nat → Bool} (h : ∀ k, k < n → d k = e k) : leftN n d = leftN n e := by
  unfold leftN
  rw [List.filter_congr fun k hk => by rw [h k (List.mem_range.1 hk)]]
theorem cntE_ext : ∀ (m : Nat) {d e : Nat → Bool}, (∀ k, k < n → d k = e k) → cntE f n m d = cntE f n m e
  | 0, _, _, _ => rfl
  | m + 1, d, e, h => by
    rw [cntE, cntE]
    refine sumN_congr fun a ha => ?_
    have h1 : lastF f n d a = lastF f n e a := by
      unfold lastF
      rw [h a ha]
      congr 1
      rw [Bool.eq_iff_iff, List.all_eq_true, List.all_eq_true]
      constructor <;> intro hh k hk
      · rw [← h k (List.mem_range.1 hk)]; exact hh k hk
      · rw [h k (List.mem_range.1 hk)]; exact hh k hk
    rw [h1, cntE_ext m (d := dugB d a) (e := dugB e a) fun k hk => by simp [dugB, h k hk]]
end
/-- The places that a row of bits has not. -/
def offB (x : Nat) (k : Nat) : Bool := !x.testBit k
/-- The number of orders of the places of a row. -/
def cntX (f : Nat → Nat → Bool) (n x : Nat) : Nat := cntE f n (leftN n (offB x)) (offB x)
/-- The place p can be the last one of the row x. -/
def endB (f : Nat → Nat → Bool) (n x p : Nat) : Bool := x.testBit p && (List.range n).all fun k => !x.testBit k || (decide (k = p) || !f p k)
theorem endB_last (f : Nat → Nat → Bool) (n x p : Nat) : endB f n x p = lastF f n (offB x) p := by
  simp [endB, lastF, offB]
theorem xor_bit (x p k : Nat) : (x ^^^ 2 ^ p).testBit k = (x.testBit k ^^ decide (p = k)) := by
  rw [Nat.testBit_xor, Nat.testBit_two_pow]
theorem off_xor {x p : Nat} (h : x.testBit p = true) : offB (x ^^^ 2 ^ p) = dugB (offB x) p := by
  funext k
  simp only [offB, dugB, xor_bit]
  by_cases e : k = p
  · subst e
    simp [h]
  · have e2 : ¬ p = k := fun h => e h.symm
    simp [e, e2]
theorem lt_of_bit {x y p : Nat} (hy : y.testBit p = false) (hx : x.testBit p = true) (h : ∀ j, p < j → y.testBit j = x.testBit j) : y < x := by
  have e : y / 2 ^ p / 2 = x / 2 ^ p / 2 := by
    refine Nat.eq_of_testBit_eq fun j => ?_
    rw [Nat.testBit_div_two, Nat.testBit_div_two, Nat.testBit_div_two_pow, Nat.testBit_div_two_pow]
    exact h _ (by omega)
  rw [Nat.testBit_eq_decide_div_mod_eq, decide_eq_true_eq] at hx
  rw [Nat.testBit_eq_decide_div_mod_eq, decide_eq_false_iff_not] at hy
  have e2 : x / 2 ^ p = y / 2 ^ p + 1 := by omega
  have hp : 0 < 2 ^ p := Nat.two_pow_pos p
  have h1 := Nat.mul_div_le x (2 ^ p)
  have h2 := Nat.lt_mul_div_succ y hp
  rw [e2] at h1
  omega
theorem xor_less {x p : Nat} (h : x.testBit p = true) : x ^^^ 2 ^ p < x := by
  refine lt_of_bit (p := p) ?_ h fun j hj => ?_
  · simp [h]
  · have : ¬ p = j := by omega
    simp [this]
theorem bit_lt {n x p : Nat} (hx : x < 2 ^ n) (h : x.testBit p = true) : p < n := by
  refine Nat.not_le.1 fun hp => ?_
  rw [Nat.testBit_lt_two_pow (Nat.lt_of_lt_of_le hx (Nat.pow_le_pow_right (by omega) hp))] at h
  cases h
section
variable {f : Nat → Nat → Bool} {n : Nat}
theorem left_off_pos {x : Nat} (h0 : x ≠ 0) (hx : x < 2 ^ n) : ∃ m, leftN n (offB x) = m + 1 := by
  obtain ⟨p, hp⟩ := Nat.exists_testBit_of_ne_zero h0
  have := left_next (bit_lt hx hp) (d := offB x) (by simp [offB, hp])
  exact ⟨_, this.symm⟩
theorem cntX_zero : cntX f n 0 = 1 ∨ 0 < n := by
  cases n with
  | zero => left; rfl
  | succ n => right; omega
theorem left_zero : leftN n (offB 0) = 0 := by
  unfold leftN
  rw [List.filter_eq_nil_iff.2 fun k _ => by simp [offB]]
  rfl
theorem cntX_0 : cntX f n 0 = 1 := by
  unfold cntX
  rw [left_zero]
  rfl
theorem cntX_next {x : Nat} (h0 : x ≠ 0) (hx : x < 2 ^ n) : cntX f n x = sumN n fun p => if endB f n x p = true then cntX f n (x ^^^ 2 ^ p) else 0 := by
  obtain ⟨m, hm⟩ := left_off_pos h0 hx
  unfold cntX
  rw [hm, cntE]
  refine sumN_congr fun p hp => ?_
  rw [← endB_last]
  cases he : endB f n x p
  · rfl
  · have hb : x.testBit p = true := (Bool.and_eq_true_iff.1 he).1
    have := left_next hp (d := offB x) (by simp [offB, hb])
    rw [if_pos rfl, if_pos rfl, off_xor hb, show leftN n (dugB (offB x) p) = m by omega]
theorem cntX_le (hi : ∀ i, f i i = false) (x : Nat) : cntX f n x ≤ factN n := by
  unfold cntX
  rw [cntE_count hi _ _ rfl]
  refine Nat.le_trans (count_le _ _ rfl) ?_
  have h1 : leftN n (offB x) ≤ n := by
    unfold leftN
    have := List.length_filter_le (fun k => !offB x k) (List.range n)
    simpa using this
  have key : ∀ {a b : Nat}, a ≤ b → factN a ≤ factN b := by
    intro a b h
    induction h with
    | refl => exact Nat.le_refl _
    | step _ ih =>
      refine Nat.le_trans ih ?_
      rw [factN]
      exact Nat.le_mul_of_pos_left _ (by omega)
  exact key h1
theorem cntX_full (hi : ∀ i, f i i = false) : cntX f n (2 ^ n - 1) = countP f n n fun _ => false := by
  have h : ∀ k, k < n → offB (2 ^ n - 1) k = false := by
    intro k hk
    simp [offB, Nat.testBit_two_pow_sub_one, hk]
  unfold cntX
  rw [leftN_ext (e := fun _ => false) h, left_none, cntE_ext n (e := fun _ => false) h, cntE_count hi _ _ left_none]
/-- What has been added up for the row x, when the rows below t and the first k places of t are done. -/
def partX (f : Nat → Nat → Bool) (n t k x : Nat) : Nat := if x = 0 then 1 else sumN n fun p => if (endB f n x p && (decide (x ^^^ 2 ^ p < t) || (decide (x ^^^ 2 ^ p = t) && decide (p < k)))) = true then cntX f n (x ^^^ 2 ^ p) else 0
theorem partX_le (hi : ∀ i, f i i = false) {t k x : Nat} (hx : x < 2 ^ n) : partX f n t k x ≤ factN n := by
  unfold partX
  by_cases h0 : x = 0
  · rw [if_pos h0]
    exact factN_pos n
  · rw [if_neg h0]
    refine Nat.le_trans (sumN_le (h := fun p => if endB f n x p = true then cntX f n (x ^^^ 2 ^ p) else 0) fun p _ => ?_) (by rw [← cntX_next h0 hx]; exact cntX_le hi x)
    cases he : endB f n x p
    · simp
    · simp only [Bool.true_and, if_true]
      split
      · exact Nat.le_refl _
      · omega
theorem partX_done {t k x : Nat} (hx : x < 2 ^ n) (ht : x ≤ t) : partX f n t k x = cntX f n x := by
  unfold partX
  by_cases h0 : x = 0
  · rw [if_pos h0, h0, cntX_0]
  · rw [if_neg h0, cntX_next h0 hx]
    refine sumN_congr fun p _ => ?_
    cases he : endB f n x p
    · rfl
    · have := xor_less (Bool.and_eq_true_iff.1 he).1
      rw [decide_eq_true (show x ^^^ 2 ^ p < t by omega)]
      rfl
theorem partX_first (x : Nat) : partX f n 0 0 x = if x = 0 then 1 else 0 := by
  unfold partX
  by_cases h0 : x = 0
  · rw [if_pos h0, if_pos h0]
  · rw [if_neg h0, if_neg h0]
    simp [sumN, sum_zero]
theorem partX_turn (t x : Nat) : partX f n t n x = partX f n (t + 1) 0 x := by
  unfold partX
  by_cases h0 : x = 0
  · rw [if_pos h0, if_pos h0]
  · rw [if_neg h0, if_neg h0]
    refine sumN_congr fun p hp => ?_
    have e : (decide (x ^^^ 2 ^ p < t) || (decide (x ^^^ 2 ^ p = t) && decide (p < n))) = (decide (x ^^^ 2 ^ p < t + 1) || (decide (x ^^^ 2 ^ p = t + 1) && decide (p < 0))) := by
      rw [decide_eq_true hp, decide_eq_false (show ¬ p < 0 by omega), Bool.and_false, Bool.or_false, Bool.and_true, Bool.eq_iff_iff, Bool.or_eq_true]
      simp only [decide_eq_true_eq]
      omega
    rw [e]
/-- One place more of the row t is done: only the row with this place is touched. -/
theorem partX_step {t k x : Nat} (hk : k < n) (ht : t < 2 ^ n) : partX f n t (k + 1) x = partX f n t k x + if (decide (x = t ||| 2 ^ k) && (!t.testBit k && endB f n (t ||| 2 ^ k) k)) = true then cntX f n t else 0 := by
  have hor : ∀ j, (t ||| 2 ^ k).testBit j = (t.testBit j || decide (k = j)) := fun j => by rw [Nat.testBit_or, Nat.testBit_two_pow]
  have hne : t ||| 2 ^ k ≠ 0 := fun e => by
    have := hor k
    rw [e, Nat.zero_testBit] at this
    simp at this
  have hback : t.testBit k = false → (t ||| 2 ^ k) ^^^ 2 ^ k = t := fun h => by
    refine Nat.eq_of_testBit_eq fun j => ?_
    rw [xor_bit, hor]
    by_cases e : k = j
    · subst e
      simp [h]
    · simp [e]
  have hfrom : x.testBit k = true → x ^^^ 2 ^ k = t → x = t ||| 2 ^ k ∧ t.testBit k = false := fun h1 h2 => by
    subst h2
    refine ⟨Nat.eq_of_testBit_eq fun j => ?_, by simp [h1]⟩
    rw [hor, xor_bit]
    by_cases e : k = j
    · subst e
      simp [h1]
    · simp [e]
  unfold partX
  by_cases h0 : x = 0
  · rw [if_pos h0, if_pos h0, decide_eq_false (show ¬ x = t ||| 2 ^ k from fun e => hne (e ▸ h0))]
    simp
  · rw [if_neg h0, if_neg h0]
    rw [← sumN_one (n := n) (k := k) (if (decide (x = t ||| 2 ^ k) && (!t.testBit k && endB f n (t ||| 2 ^ k) k)) = true then cntX f n t else 0) hk, ← sumN_add]
    refine sumN_congr fun p hp => ?_
    by_cases e : p = k
    · subst e
      rw [if_pos rfl]
      cases he : endB f n x p
      · have : (decide (x = t ||| 2 ^ p) && (!t.testBit p && endB f n (t ||| 2 ^ p) p)) = false := by
          by_cases hx : x = t ||| 2 ^ p
          · rw [← hx, he]; simp
          · simp [hx]
        rw [this]
        simp
      · have hxb : x.testBit p = true := (Bool.and_eq_true_iff.1 he).1
        by_cases hx : x ^^^ 2 ^ p = t
        · obtain ⟨h1, h2⟩ := hfrom hxb hx
          rw [← h1, he, h2, hx]
          simp
        · have h3 : ¬ (x = t ||| 2 ^ p ∧ t.testBit p = false) := fun ⟨h1, h2⟩ => hx (by rw [h1]; exact hback h2)
          have : (decide (x = t ||| 2 ^ p) && (!t.testBit p && endB f n (t ||| 2 ^ p) p)) = false := by
            by_cases hx1 : x = t ||| 2 ^ p
            · cases ht2 : t.testBit p
              · exact absurd ⟨hx1, ht2⟩ h3
              · simp
            · simp [hx1]
          rw [this]
          simp [hx]
    · rw [if_neg e, Nat.add_zero]
      have : decide (p < k + 1) = decide (p < k) := by rw [decide_eq_decide]; omega
      rw [this]
      rfl
end
end Go.Proofs.Ytmcnjmflmpfjlaa
