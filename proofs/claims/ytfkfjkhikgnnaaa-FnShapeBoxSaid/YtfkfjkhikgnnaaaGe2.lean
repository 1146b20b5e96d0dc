/- Which sides go over a column; sums, and how many multiples there are. Plain data. -/
import Derived.Test.YtfkfjkhikgnnaaaGe1
namespace Go.Proofs.Ytfkfjkhikgnnaaa

section
variable {n : Nat} {P : Nat → Sp}
/-- The side i goes left over the column from x to x + 1. -/
def CovL (P : Nat → Sp) (i : Nat) (x : Int) : Prop := (P (i + 1)).lo ≤ x ∧ x < (P i).lo
def CovR (P : Nat → Sp) (i : Nat) (x : Int) : Prop := (P i).lo ≤ x ∧ x < (P (i + 1)).lo
theorem cross_key (a b c d : Sp) (u : Int) : (u - 2 * d.lo) * turnG a b c + (2 * c.lo - u) * turnG a b d + (u - 2 * b.lo) * turnG c d a + (2 * a.lo - u) * turnG c d b = 0 := by
  have k1 : turnG a b c - turnG a b d + turnG c d a - turnG c d b = 0 := by
    simp only [turnG_exp, Int.mul_comm]
    omega
  have k2 : d.lo * turnG a b c - c.lo * turnG a b d + b.lo * turnG c d a - a.lo * turnG c d b = 0 := by
    simp only [turnG_exp, Int.mul_add, Int.mul_sub, Int.mul_comm, Int.mul_left_comm]
    omega
  have k3 : u * (turnG a b c - turnG a b d + turnG c d a - turnG c d b) = 0 := by rw [k1, Int.mul_zero]
  rw [Int.mul_sub, Int.mul_add, Int.mul_sub] at k3
  rw [Int.sub_mul, Int.sub_mul, Int.sub_mul, Int.sub_mul, Int.mul_assoc, Int.mul_assoc, Int.mul_assoc, Int.mul_assoc]
  omega
theorem Conv.periods (h : Conv n P) : ∀ q x, P (x + q * n) = P x
  | 0, x => by rw [Nat.zero_mul, Nat.add_zero]
  | q + 1, x => by rw [Nat.succ_mul, ← Nat.add_assoc, h.per, Conv.periods h q]
theorem Conv.mod (h : Conv n P) (i : Nat) : P (i % n) = P i := by
  have h6 := Nat.div_add_mod i n
  rw [Nat.mul_comm] at h6
  have := h.periods (i / n) (i % n)
  rw [Nat.add_comm, h6] at this
  exact this.symm
theorem Conv.mod1 (h : Conv n P) (i : Nat) : P (i % n + 1) = P (i + 1) := by
  rw [← h.mod (i % n + 1), Nat.mod_add_mod, h.mod]
/-- Every corner lies on the left of every side, or on it. -/
theorem Conv.nonneg (h : Conv n P) (i k : Nat) : 0 ≤ turnG (P i) (P (i + 1)) (P k) ∧ (k % n ≠ i % n → k % n ≠ (i + 1) % n → 0 < turnG (P i) (P (i + 1)) (P k)) := by
  have h3 := h.three
  have hi : i % n < n := Nat.mod_lt _ (by omega)
  have hk : k % n < n := Nat.mod_lt _ (by omega)
  obtain ⟨t, ht, hkt⟩ : ∃ t, t < n ∧ (k % n = i % n + t ∨ k % n + n = i % n + t) := by
    by_cases hh : i % n ≤ k % n
    · exact ⟨k % n - i % n, by omega, .inl (by omega)⟩
    · exact ⟨k % n + n - i % n, by omega, .inr (by omega)⟩
  have hP : P k = P (i % n + t) := by
    rw [← h.mod k]
    rcases hkt with e | e
    · rw [e]
    · rw [← e, h.per]
  have hi1 : (i + 1) % n = (i % n + 1) % n := by rw [Nat.mod_add_mod]
  rw [← h.mod i, ← h.mod1 i, hP]
  by_cases t0 : t = 0
  · subst t0
    rw [show i % n + 0 = i % n from rfl, turnG_ba]
    exact ⟨Int.le_refl _, fun q => by omega⟩
  · by_cases t1 : t = 1
    · subst t1
      rw [turnG_ab]
      refine ⟨Int.le_refl _, fun _ q => absurd ?_ q⟩
      rw [hi1]
      rcases hkt with e | e
      · rw [← e, Nat.mod_mod]
      · rw [← e, Nat.add_mod_right, Nat.mod_mod]
    · have := h.side (i % n) t (by omega) ht
      exact ⟨Int.le_of_lt this, fun _ _ => this⟩
theorem Conv.pair (h : Conv n P) {i j : Nat} (hij : i % n ≠ j % n) : 0 < turnG (P i) (P (i + 1)) (P j) ∨ 0 < turnG (P i) (P (i + 1)) (P (j + 1)) := by
  have h3 := h.three
  have hi : i % n < n := Nat.mod_lt _ (by omega)
  have hj : j % n < n := Nat.mod_lt _ (by omega)
  have a : (i + 1) % n = if i % n + 1 = n then 0 else i % n + 1 := by
    rw [← Nat.mod_add_mod]
    split
    · rename_i e; rw [e, Nat.mod_self]
    · exact Nat.mod_eq_of_lt (by omega)
  have b : (j + 1) % n = if j % n + 1 = n then 0 else j % n + 1 := by
    rw [← Nat.mod_add_mod]
    split
    · rename_i e; rw [e, Nat.mod_self]
    · exact Nat.mod_eq_of_lt (by omega)
  by_cases h1 : j % n = (i + 1) % n
  · refine .inr ((h.nonneg i (j + 1)).2 ?_ ?_)
    · rw [b]; rw [a] at h1; split <;> split at h1 <;> omega
    · rw [b, ← h1]; split <;> omega
  · exact .inl ((h.nonneg i j).2 (fun e => hij e.symm) h1)
theorem comb_pos {a b x y : Int} (ha : 0 < a) (hb : 0 < b) (hx : 0 ≤ x) (hy : 0 ≤ y) (h : 0 < x ∨ 0 < y) : 0 < a * x + b * y := by
  have h1 := Int.mul_nonneg (Int.le_of_lt ha) hx
  have h2 := Int.mul_nonneg (Int.le_of_lt hb) hy
  rcases h with h | h
  · have := Int.mul_pos ha h; omega
  · have := Int.mul_pos hb h; omega
theorem Conv.oneL (h : Conv n P) {i j : Nat} {x : Int} (hi : CovL P i x) (hj : CovL P j x) : i % n = j % n := by
  refine Classical.byContradiction fun hne => ?_
  have hk := cross_key (P i) (P (i + 1)) (P j) (P (j + 1)) (2 * x + 1)
  obtain ⟨i1, i2⟩ := hi
  obtain ⟨j1, j2⟩ := hj
  have p1 := comb_pos (a := 2 * x + 1 - 2 * (P (j + 1)).lo) (b := 2 * (P j).lo - (2 * x + 1)) (by omega) (by omega) (h.nonneg i j).1 (h.nonneg i (j + 1)).1 (h.pair hne)
  have p2 := comb_pos (a := 2 * x + 1 - 2 * (P (i + 1)).lo) (b := 2 * (P i).lo - (2 * x + 1)) (by omega) (by omega) (h.nonneg j i).1 (h.nonneg j (i + 1)).1 (h.pair fun e => hne e.symm)
  omega
theorem Conv.oneR (h : Conv n P) {i j : Nat} {x : Int} (hi : CovR P i x) (hj : CovR P j x) : i % n = j % n := by
  refine Classical.byContradiction fun hne => ?_
  have hk := cross_key (P i) (P (i + 1)) (P j) (P (j + 1)) (2 * x + 1)
  obtain ⟨i1, i2⟩ := hi
  obtain ⟨j1, j2⟩ := hj
  have p1 := comb_pos (a := 2 * (P (j + 1)).lo - (2 * x + 1)) (b := 2 * x + 1 - 2 * (P j).lo) (by omega) (by omega) (h.nonneg i j).1 (h.nonneg i (j + 1)).1 (h.pair hne)
  have p2 := comb_pos (a := 2 * (P (i + 1)).lo - (2 * x + 1)) (b := 2 * x + 1 - 2 * (P i).lo) (by omega) (by omega) (h.nonneg j i).1 (h.nonneg j (i + 1)).1 (h.pair fun e => hne e.symm)
  have e1 : ∀ c d y z : Int, (c - d) * y = - ((d - c) * y) := fun c d y _ => by rw [← Int.neg_mul]; congr 1; omega
  rw [e1 (2 * (P (j + 1)).lo) _ _ 0, e1 (2 * x + 1) (2 * (P j).lo) _ 0] at p1
  rw [e1 (2 * (P (i + 1)).lo) _ _ 0, e1 (2 * x + 1) (2 * (P i).lo) _ 0] at p2
  omega
/-- A walk round: where it is on one side and on the other it crosses both ways. -/
theorem walk_up {f : Nat → Bool} : ∀ {m a : Nat}, f a = false → f (a + m) = true → ∃ i, a ≤ i ∧ i < a + m ∧ f i = false ∧ f (i + 1) = true
  | 0, a, h1, h2 => by rw [Nat.add_zero, h1] at h2; cases h2
  | m + 1, a, h1, h2 => by
    cases h3 : f (a + m)
    · exact ⟨a + m, by omega, by omega, h3, h2⟩
    · obtain ⟨i, b1, b2, b3⟩ := walk_up (m := m) h1 h3
      exact ⟨i, b1, by omega, b3⟩
theorem Conv.hasL (h : Conv n P) {x : Int} {i j : Nat} (hi : (P i).lo ≤ x) (hj : x < (P j).lo) : (∃ k, k < n ∧ CovL P k x) ∧ ∃ k, k < n ∧ CovR P k x := by
  have h3 := h.three
  have red : ∀ k, ∃ m, m < n ∧ P m = P k ∧ P (m + 1) = P (k + 1) := fun k => ⟨k % n, Nat.mod_lt _ (by omega), h.mod k, h.mod1 k⟩
  have far : ∀ a b, ∃ m, P (a + m) = P b := fun a b => ⟨b + a * n - a, by
    have : a ≤ a * n := Nat.le_mul_of_pos_right _ (by omega)
    rw [show a + (b + a * n - a) = b + a * n from by omega, h.periods]⟩
  constructor
  · obtain ⟨m, hm⟩ := far j i
    obtain ⟨k, _, _, k1, k2⟩ := walk_up (f := fun k => decide ((P k).lo ≤ x)) (m := m) (a := j) (by simp; omega) (by rw [hm]; simpa using hi)
    obtain ⟨q, q1, q2, q3⟩ := red k
    refine ⟨q, q1, ?_⟩
    unfold CovL
    rw [q2, q3]
    simp only [decide_eq_false_iff_not, decide_eq_true_eq] at k1 k2
    exact ⟨k2, by omega⟩
  · obtain ⟨m, hm⟩ := far i j
    obtain ⟨k, _, _, k1, k2⟩ := walk_up (f := fun k => decide (x < (P k).lo)) (m := m) (a := i) (by simp; omega) (by rw [hm]; simpa using hj)
    obtain ⟨q, q1, q2, q3⟩ := red k
    refine ⟨q, q1, ?_⟩
    unfold CovR
    rw [q2, q3]
    simp only [decide_eq_false_iff_not, decide_eq_true_eq] at k1 k2
    exact ⟨by omega, k2⟩
/-- The numbers of all corners lie in a box, and touch each side of it. -/
structure BoxG (n : Nat) (P : Nat → Sp) (x0 x1 y0 y1 : Int) : Prop where
  inn : ∀ i, x0 ≤ (P i).lo ∧ (P i).lo ≤ x1 ∧ y0 ≤ (P i).hi ∧ (P i).hi ≤ y1
  l : ∃ i, (P i).lo = x0
  r : ∃ i, (P i).lo = x1
/-- In a sum all but one are 0. -/
theorem sumG_only {f : Nat → Int} {k : Nat} : ∀ {n : Nat}, k < n → (∀ i, i < n → i ≠ k → f i = 0) → sumG f n = f k
  | 0, h, _ => by omega
  | n + 1, h, h0 => by
    show sumG f n + f n = f k
    by_cases hk : k = n
    · subst hk
      have : sumG f k = sumG (fun _ => 0) k := sumG_congr fun i hi => h0 i (by omega) (by omega)
      rw [this, sumG_zero]
      omega
    · rw [sumG_only (by omega) fun i hi => h0 i (by omega), h0 n (by omega) (fun e => hk e.symm)]
      omega
theorem sumG_swap (f : Nat → Nat → Int) (m : Nat) : ∀ n, sumG (fun i => sumG (fun j => f i j) m) n = sumG (fun j => sumG (fun i => f i j) n) m
  | 0 => by
    show 0 = sumG (fun _ => 0) m
    rw [sumG_zero]
  | n + 1 => by
    have h1 := sumG_swap f m n
    have h2 := sumG_add (fun j => sumG (fun i => f i j) n) (fun j => f n j) m
    show sumG (fun i => sumG (fun j => f i j) m) n + sumG (fun j => f n j) m = sumG (fun j => sumG (fun i => f i j) n + f n j) m
    omega
/-- A sum over a window. -/
theorem sumG_win (g : Nat → Int) (a : Nat) : ∀ (d m : Nat), a + d ≤ m → sumG (fun c => if a ≤ c ∧ c < a + d then g (c - a) else 0) m = sumG g d := by
  intro d m
  induction m with
  | zero =>
    intro h
    obtain rfl : d = 0 := by omega
    rfl
  | succ m ih =>
    intro h
    show sumG (fun c => if a ≤ c ∧ c < a + d then g (c - a) else 0) m + (if a ≤ m ∧ m < a + d then g (m - a) else 0) = sumG g d
    by_cases hm : a + d ≤ m
    · rw [ih hm, if_neg (by omega)]
      omega
    · cases d with
      | zero =>
        have e : sumG (fun c => if a ≤ c ∧ c < a + 0 then g (c - a) else 0) m = sumG (fun _ => 0) m := sumG_congr fun c _ => if_neg (by omega)
        rw [e, sumG_zero, if_neg (by omega)]
        rfl
      | succ d =>
        have hma : m = a + d := by omega
        subst hma
        rw [if_pos (by omega), show a + d - a = d from by omega]
        have e : ∀ k, k ≤ d → sumG (fun c => if a ≤ c ∧ c < a + (d + 1) then g (c - a) else 0) (a + k) = sumG g k := by
          intro k
          induction k with
          | zero =>
            intro _
            have e : sumG (fun c => if a ≤ c ∧ c < a + (d + 1) then g (c - a) else 0) a = sumG (fun _ => 0) a := sumG_congr fun c _ => if_neg (by omega)
            show sumG (fun c => if a ≤ c ∧ c < a + (d + 1) then g (c - a) else 0) a = 0
            rw [e, sumG_zero]
          | succ k ih2 =>
            intro hk
            show sumG (fun c => if a ≤ c ∧ c < a + (d + 1) then g (c - a) else 0) (a + k) + (if a ≤ a + k ∧ a + k < a + (d + 1) then g (a + k - a) else 0) = sumG g k + g k
            rw [ih2 (by omega), if_pos (by omega), show a + k - a = k from by omega]
        rw [e d (Nat.le_refl _)]
        rfl
end
theorem sumG_split (f : Nat → Int) (a : Nat) : ∀ b, sumG f (a + b) = sumG f a + sumG (fun i => f (a + i)) b
  | 0 => by show sumG f a = sumG f a + 0; omega
  | b + 1 => by
    have := sumG_split f a b
    show sumG f (a + b) + f (a + b) = sumG f a + (sumG (fun i => f (a + i)) b + f (a + b))
    omega
theorem sumG_rev (f : Nat → Int) : ∀ n, sumG (fun i => f (n - 1 - i)) n = sumG f n
  | 0 => rfl
  | n + 1 => by
    have h1 : sumG (fun i => f (n - (i + 1))) n + f n = sumG (fun i => f (n - i)) n + f (n - n) := sumG_shift (fun i => f (n - i)) n
    have h2 : sumG (fun i => f (n - (i + 1))) n = sumG (fun i => f (n - 1 - i)) n := sumG_congr fun i _ => by show f (n - (i + 1)) = f (n - 1 - i); congr 1; omega
    have h3 := sumG_rev f n
    show sumG (fun i => f (n - i)) n + f (n - n) = sumG f n + f n
    omega
theorem sumG_const (c : Int) : ∀ n : Nat, sumG (fun _ => c) n = n * c
  | 0 => by simp [sumG]
  | n + 1 => by
    have := sumG_const c n
    show sumG (fun _ => c) n + c = ((n + 1 : Nat) : Int) * c
    rw [this, Int.natCast_add, Int.add_mul]
    simp
theorem div_uniq {a n x : Int} (hn : 0 < n) (h1 : n * x ≤ a) (h2 : a < n * x + n) : a / n = x :=
  ((Int.ediv_emod_unique (r := a - n * x) hn).2 ⟨by omega, by omega, by omega⟩).1
theorem div_neg_ {a n : Int} (hn : 0 < n) : a / n + (-a) / n = if n ∣ a then 0 else -1 := by
  have h1 := Int.mul_ediv_add_emod a n
  have h2 := Int.emod_nonneg a (show n ≠ 0 by omega)
  have h3 := Int.emod_lt_of_pos a hn
  split
  · rename_i hd
    have h4 := Int.emod_eq_zero_of_dvd hd
    have : (-a) / n = -(a / n) := div_uniq hn (by rw [Int.mul_neg]; omega) (by rw [Int.mul_neg]; omega)
    omega
  · rename_i hd
    have h4 : a % n ≠ 0 := fun e => hd (Int.dvd_of_emod_eq_zero e)
    have : (-a) / n = -(a / n) - 1 := div_uniq hn (by rw [Int.mul_sub, Int.mul_neg]; omega) (by rw [Int.mul_sub, Int.mul_neg]; omega)
    omega
/-- How many multiples there are. -/
theorem mult_count (d : Nat) (hd : 0 < d) : ∀ g : Nat, sumG (fun j => if d ∣ j then 1 else 0) (d * g) = g
  | 0 => rfl
  | g + 1 => by
    rw [Nat.mul_succ, sumG_split, mult_count d hd g]
    have h1 : sumG (fun i => if d ∣ d * g + i then 1 else 0) d = (fun i => if d ∣ d * g + i then (1 : Int) else 0) 0 := by
      refine sumG_only hd fun i hi h0 => if_neg fun hdv => ?_
      have h2 : d ∣ i := (Nat.dvd_add_right (Nat.dvd_mul_right d g)).1 hdv
      have := Nat.le_of_dvd (by omega) h2
      omega
    rw [h1]
    show (g : Int) + (if d ∣ d * g + 0 then 1 else 0) = ((g + 1 : Nat) : Int)
    rw [if_pos (by rw [Nat.add_zero]; exact Nat.dvd_mul_right d g)]
    omega
theorem gcd_count {n : Nat} (hn : 0 < n) (m : Int) : sumG (fun j => if (n : Int) ∣ (j : Int) * m then 1 else 0) n = (Nat.gcd n m.natAbs : Nat) := by
  obtain ⟨g, hg⟩ : ∃ g, g = Nat.gcd n m.natAbs := ⟨_, rfl⟩
  have g0 : 0 < g := by rw [hg]; exact Nat.gcd_pos_of_pos_left _ hn
  obtain ⟨d, hd⟩ : ∃ d, n = g * d := by rw [hg]; exact Nat.gcd_dvd_left n m.natAbs
  have hd0 : 0 < d := by
    rcases Nat.eq_zero_or_pos d with h | h
    · rw [h] at hd; omega
    · exact h
  have key : ∀ j : Nat, ((n : Int) ∣ (j : Int) * m) ↔ d ∣ j := by
    intro j
    have e : ((n : Int) ∣ (j : Int) * m) ↔ n ∣ j * m.natAbs := by
      rw [← Int.natAbs_dvd_natAbs, Int.natAbs_mul, Int.natAbs_natCast, Int.natAbs_natCast]
    rw [e]
    have hc : Nat.Coprime (n / g) (m.natAbs / g) := by rw [hg]; exact Nat.coprime_div_gcd_div_gcd (by rw [← hg]; exact g0)
    have hnd : n / g = d := by rw [hd, Nat.mul_div_cancel_left _ g0]
    obtain ⟨k, hk⟩ : ∃ k, m.natAbs = g * k := by rw [hg]; exact Nat.gcd_dvd_right n m.natAbs
    have hmk : m.natAbs / g = k := by rw [hk, Nat.mul_div_cancel_left _ g0]
    rw [hnd, hmk] at hc
    rw [hk]
    constructor
    · intro h
      rw [hd, show j * (g * k) = g * (j * k) from by rw [Nat.mul_left_comm]] at h
      exact hc.dvd_of_dvd_mul_right (Nat.dvd_of_mul_dvd_mul_left g0 h)
    · rintro ⟨c, rfl⟩
      rw [hd]
      exact ⟨c * k, by simp only [Nat.mul_comm, Nat.mul_left_comm]⟩
  rw [← hg]
  have h1 : sumG (fun j => if (n : Int) ∣ (j : Int) * m then 1 else 0) n = sumG (fun j => if d ∣ j then 1 else 0) n := sumG_congr fun j _ => by simp only [key j]
  rw [h1, hd, Nat.mul_comm g d, mult_count d hd0 g]
theorem floor_sum {n : Nat} (hn : 0 < n) (m : Int) : 2 * sumG (fun j => ((j : Int) * m) / n) n = ((n : Int) - 1) * m - n + (Nat.gcd n m.natAbs : Nat) := by
  have hg := gcd_count hn m
  obtain ⟨k, rfl⟩ : ∃ k, n = k + 1 := ⟨n - 1, by omega⟩
  obtain ⟨f, hf⟩ : ∃ f : Nat → Int, f = fun (j : Nat) => ((j : Int) * m) / ((k + 1 : Nat) : Int) := ⟨_, rfl⟩
  obtain ⟨e, he⟩ : ∃ e : Nat → Int, e = fun (j : Nat) => if ((k + 1 : Nat) : Int) ∣ (j : Int) * m then 1 else 0 := ⟨_, rfl⟩
  rw [← hf]
  rw [← he] at hg
  have s1 := sumG_shift f k
  have s2 := sumG_rev (fun j => f (j + 1)) k
  have s3 := sumG_shift e k
  have f0 : f 0 = 0 := by rw [hf]; simp
  have e0 : e 0 = 1 := by rw [he]; simp
  have hp : ∀ j, j < k → f (j + 1) + f (k - 1 - j + 1) = (m - 1) + e (j + 1) := by
    intro j hj
    have hc : ((k - 1 - j + 1 : Nat) : Int) = ((k + 1 : Nat) : Int) - ((j + 1 : Nat) : Int) := by omega
    rw [hf, he]
    simp only
    rw [hc, Int.sub_mul, show ((k + 1 : Nat) : Int) * m - ((j + 1 : Nat) : Int) * m = -(((j + 1 : Nat) : Int) * m) + ((k + 1 : Nat) : Int) * m from by omega, Int.add_mul_ediv_left _ _ (by omega)]
    have := div_neg_ (a := ((j + 1 : Nat) : Int) * m) (n := ((k + 1 : Nat) : Int)) (by omega)
    split at this <;> rename_i hd
    · rw [if_pos hd]; omega
    · rw [if_neg hd]; omega
  have s4 := sumG_add (fun j => f (j + 1)) (fun j => f (k - 1 - j + 1)) k
  have s5 : sumG (fun j => f (j + 1) + f (k - 1 - j + 1)) k = sumG (fun j => (m - 1) + e (j + 1)) k := sumG_congr hp
  have s6 := sumG_add (fun _ => m - 1) (fun j => e (j + 1)) k
  have s7 := sumG_const (m - 1) k
  have h8 : sumG f (k + 1) = sumG f k + f k := rfl
  have h9 : sumG e (k + 1) = sumG e k + e k := rfl
  rw [Int.mul_sub, Int.mul_one] at s7
  have h10 : (((k + 1 : Nat) : Int) - 1) * m = (k : Int) * m := by congr 1; omega
  rw [h10]
  omega
end Go.Proofs.Ytfkfjkhikgnnaaa
