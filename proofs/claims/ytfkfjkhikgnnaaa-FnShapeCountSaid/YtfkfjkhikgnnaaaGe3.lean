/- The area of a shape and of its box; how many points a shape has. Plain data. -/
import Derived.Test.YtfkfjkhikgnnaaaGe2
namespace Go.Proofs.Ytfkfjkhikgnnaaa

section
variable {n : Nat} {P : Nat → Sp} {x0 y0 y1 : Int} {w : Nat}
/-- A sum of ones over the columns of a side. -/
theorem cov_sum {a b x0 : Int} {w : Nat} (g : Nat → Int) (h1 : x0 ≤ b) (h2 : a ≤ x0 + w) (hab : b ≤ a) :
    sumG (fun c => if b ≤ x0 + (c : Int) ∧ x0 + (c : Int) < a then g ((x0 + (c : Int) - b).toNat) else 0) w = sumG g (a - b).toNat := by
  have h := sumG_win g (b - x0).toNat (a - b).toNat w (by omega)
  rw [← h]
  refine sumG_congr fun c _ => ?_
  by_cases hc : b ≤ x0 + (c : Int) ∧ x0 + (c : Int) < a
  · rw [if_pos hc, if_pos (by omega)]
    congr 1
    omega
  · rw [if_neg hc, if_neg (by omega)]
def CL (P : Nat → Sp) (i : Nat) (x : Int) : Int := if (P (i + 1)).lo ≤ x ∧ x < (P i).lo then 1 else 0
def CR (P : Nat → Sp) (i : Nat) (x : Int) : Int := if (P i).lo ≤ x ∧ x < (P (i + 1)).lo then 1 else 0
theorem cl_one (h : Conv n P) {x : Int} (hx : ∃ i, (P i).lo ≤ x) (hx2 : ∃ j, x < (P j).lo) (g : Nat → Int) : (∃ k, k < n ∧ CovL P k x ∧ sumG (fun i => CL P i x * g i) n = g k) ∧ ∃ k, k < n ∧ CovR P k x ∧ sumG (fun i => CR P i x * g i) n = g k := by
  obtain ⟨i, hi⟩ := hx
  obtain ⟨j, hj⟩ := hx2
  obtain ⟨⟨k, hk, hl⟩, m, hm, hr⟩ := h.hasL hi hj
  refine ⟨⟨k, hk, hl, ?_⟩, m, hm, hr, ?_⟩
  · rw [sumG_only hk fun q hq hne => ?_]
    · show CL P k x * g k = g k
      rw [CL, if_pos (show (P (k + 1)).lo ≤ x ∧ x < (P k).lo from hl), Int.one_mul]
    · rw [CL, if_neg fun e => hne ?_, Int.zero_mul]
      have := h.oneL e hl
      rwa [Nat.mod_eq_of_lt hq, Nat.mod_eq_of_lt hk] at this
  · rw [sumG_only hm fun q hq hne => ?_]
    · show CR P m x * g m = g m
      rw [CR, if_pos (show (P m).lo ≤ x ∧ x < (P (m + 1)).lo from hr), Int.one_mul]
    · rw [CR, if_neg fun e => hne ?_, Int.zero_mul]
      have := h.oneR e hr
      rwa [Nat.mod_eq_of_lt hq, Nat.mod_eq_of_lt hm] at this
/-- What the sides go left, together, is the width; likewise right. -/
theorem go_left (h : Conv n P) (hb : BoxG n P x0 (x0 + w) y0 y1) : sumG (fun i => max 0 ((P i).lo - (P (i + 1)).lo)) n = w ∧ sumG (fun i => max 0 ((P (i + 1)).lo - (P i).lo)) n = w := by
  obtain ⟨il, hil⟩ := hb.l
  obtain ⟨ir, hir⟩ := hb.r
  have col : ∀ c : Nat, c < w → sumG (fun i => CL P i (x0 + c) * 1) n = 1 ∧ sumG (fun i => CR P i (x0 + c) * 1) n = 1 := fun c hc => by
    obtain ⟨⟨k, _, _, h1⟩, m, _, _, h2⟩ := cl_one h (x := x0 + c) ⟨il, by omega⟩ ⟨ir, by omega⟩ (fun _ => 1)
    exact ⟨h1, h2⟩
  constructor
  · have h1 : sumG (fun i => max 0 ((P i).lo - (P (i + 1)).lo)) n = sumG (fun i => sumG (fun c => CL P i (x0 + (c : Int)) * 1) w) n := by
      refine sumG_congr fun i _ => ?_
      obtain ⟨a1, a2, _⟩ := hb.inn i
      obtain ⟨b1, b2, _⟩ := hb.inn (i + 1)
      by_cases hd : (P (i + 1)).lo ≤ (P i).lo
      · have h2 := cov_sum (a := (P i).lo) (b := (P (i + 1)).lo) (x0 := x0) (w := w) (fun _ => 1) b1 a2 hd
        rw [sumG_const] at h2
        have h3 : sumG (fun c => CL P i (x0 + (c : Int)) * 1) w = sumG (fun c => if (P (i + 1)).lo ≤ x0 + (c : Int) ∧ x0 + (c : Int) < (P i).lo then 1 else 0) w := sumG_congr fun c _ => by rw [Int.mul_one, CL]
        rw [h3, h2]
        omega
      · have h3 : sumG (fun c => CL P i (x0 + (c : Int)) * 1) w = sumG (fun _ => 0) w := sumG_congr fun c _ => by rw [CL, if_neg (by omega), Int.zero_mul]
        rw [h3, sumG_zero]
        omega
    rw [h1, sumG_swap (fun i c => CL P i (x0 + (c : Int)) * 1) w n]
    have h4 : sumG (fun c => sumG (fun i => CL P i (x0 + (c : Int)) * 1) n) w = sumG (fun _ => 1) w := sumG_congr fun c hc => (col c hc).1
    rw [h4, sumG_const]
    omega
  · have h1 : sumG (fun i => max 0 ((P (i + 1)).lo - (P i).lo)) n = sumG (fun i => sumG (fun c => CR P i (x0 + (c : Int)) * 1) w) n := by
      refine sumG_congr fun i _ => ?_
      obtain ⟨a1, a2, _⟩ := hb.inn i
      obtain ⟨b1, b2, _⟩ := hb.inn (i + 1)
      by_cases hd : (P i).lo ≤ (P (i + 1)).lo
      · have h2 := cov_sum (a := (P (i + 1)).lo) (b := (P i).lo) (x0 := x0) (w := w) (fun _ => 1) a1 b2 hd
        rw [sumG_const] at h2
        have h3 : sumG (fun c => CR P i (x0 + (c : Int)) * 1) w = sumG (fun c => if (P i).lo ≤ x0 + (c : Int) ∧ x0 + (c : Int) < (P (i + 1)).lo then 1 else 0) w := sumG_congr fun c _ => by rw [Int.mul_one, CR]
        rw [h3, h2]
        omega
      · have h3 : sumG (fun c => CR P i (x0 + (c : Int)) * 1) w = sumG (fun _ => 0) w := sumG_congr fun c _ => by rw [CR, if_neg (by omega), Int.zero_mul]
        rw [h3, sumG_zero]
        omega
    rw [h1, sumG_swap (fun i c => CR P i (x0 + (c : Int)) * 1) w n]
    have h4 : sumG (fun c => sumG (fun i => CR P i (x0 + (c : Int)) * 1) n) w = sumG (fun _ => 1) w := sumG_congr fun c hc => (col c hc).2
    rw [h4, sumG_const]
    omega
/-- What differs from one to the next, summed up round and round, is nothing. -/
theorem round_zero (h : Conv n P) (f : Sp → Int) : sumG (fun i => f (P (i + 1)) - f (P i)) n = 0 := by
  have h1 := sumG_round (f := fun i => f (P i)) (n := n) (fun i => by show f (P (i + n)) = _; rw [h.per]) 1
  have h2 := sumG_add (fun i => f (P (i + 1)) - f (P i)) (fun i => f (P i)) n
  have h3 : sumG (fun i => f (P (i + 1)) - f (P i) + f (P i)) n = sumG (fun i => f (P (i + 1))) n := sumG_congr fun i _ => by omega
  have h4 : sumG (fun i => f (P (i + 1))) n = sumG (fun i => f (P i)) n := h1
  omega
/-- Twice the area as strips below the sides. -/
theorem area_strips (h : Conv n P) : areaG n P = sumG (fun i => ((P i).lo - (P (i + 1)).lo) * ((P i).hi + (P (i + 1)).hi)) n := by
  have h3 := h.three
  have h1 := areaG_from (n := n) (P := P) (by omega) h.per ⟨0, 0⟩
  have h2 := round_zero h (fun p => p.lo * p.hi)
  have h4 := sumG_add (fun i => turnG (P i) (P (i + 1)) ⟨0, 0⟩) (fun i => (P i).lo * (P i).hi - (P (i + 1)).lo * (P (i + 1)).hi) n
  have h5 : sumG (fun i => (P i).lo * (P i).hi - (P (i + 1)).lo * (P (i + 1)).hi) n = 0 := by
    have h6 := sumG_add (fun i => (P i).lo * (P i).hi - (P (i + 1)).lo * (P (i + 1)).hi) (fun i => (P (i + 1)).lo * (P (i + 1)).hi - (P i).lo * (P i).hi) n
    have h7 : sumG (fun i => (P i).lo * (P i).hi - (P (i + 1)).lo * (P (i + 1)).hi + ((P (i + 1)).lo * (P (i + 1)).hi - (P i).lo * (P i).hi)) n = sumG (fun _ => 0) n := sumG_congr fun i _ => by omega
    rw [sumG_zero] at h7
    omega
  have h8 : sumG (fun i => turnG (P i) (P (i + 1)) ⟨0, 0⟩ + ((P i).lo * (P i).hi - (P (i + 1)).lo * (P (i + 1)).hi)) n = sumG (fun i => ((P i).lo - (P (i + 1)).lo) * ((P i).hi + (P (i + 1)).hi)) n := sumG_congr fun i _ => by
    rw [turnG_exp]
    simp only [Int.mul_add, Int.mul_sub, Int.mul_comm]
    simp
    omega
  omega
/-- A shape has no more room than its box. -/
theorem area_box (h : Conv n P) (hb : BoxG n P x0 (x0 + w) y0 y1) : areaG n P ≤ 2 * (w * (y1 - y0)) := by
  have h1 := area_strips h
  obtain ⟨h2, _⟩ := go_left h hb
  have h3 := round_zero h (fun p => p.lo)
  have h4 : sumG (fun i => ((P i).lo - (P (i + 1)).lo) * ((P i).hi + (P (i + 1)).hi - 2 * y0)) n ≤ sumG (fun i => (2 * (y1 - y0)) * max 0 ((P i).lo - (P (i + 1)).lo)) n := sumG_le fun i _ => by
    obtain ⟨_, _, a1, a2⟩ := hb.inn i
    obtain ⟨_, _, b1, b2⟩ := hb.inn (i + 1)
    by_cases hd : 0 ≤ (P i).lo - (P (i + 1)).lo
    · rw [show max 0 ((P i).lo - (P (i + 1)).lo) = (P i).lo - (P (i + 1)).lo from by omega, Int.mul_comm (2 * (y1 - y0))]
      exact Int.mul_le_mul_of_nonneg_left (by omega) hd
    · rw [show max 0 ((P i).lo - (P (i + 1)).lo) = 0 from by omega, Int.mul_zero]
      exact Int.mul_nonpos_of_nonpos_of_nonneg (by omega) (by omega)
  rw [sumG_mul, h2] at h4
  have h5 := sumG_add (fun i => ((P i).lo - (P (i + 1)).lo) * ((P i).hi + (P (i + 1)).hi - 2 * y0)) (fun i => (- (2 * y0)) * ((P (i + 1)).lo - (P i).lo)) n
  rw [sumG_mul, h3, Int.mul_zero] at h5
  have h6 : sumG (fun i => ((P i).lo - (P (i + 1)).lo) * ((P i).hi + (P (i + 1)).hi - 2 * y0) + (- (2 * y0)) * ((P (i + 1)).lo - (P i).lo)) n = sumG (fun i => ((P i).lo - (P (i + 1)).lo) * ((P i).hi + (P (i + 1)).hi)) n := sumG_congr fun i _ => by
    rw [Int.mul_sub (_ - _), Int.neg_mul, Int.mul_comm (2 * y0), ← Int.neg_mul, show -((P (i + 1)).lo - (P i).lo) = (P i).lo - (P (i + 1)).lo from by omega]
    omega
  rw [Int.mul_comm (2 * (y1 - y0)), Int.mul_left_comm] at h4
  omega
end
section
variable {n : Nat} {P : Nat → Sp} {x0 y0 y1 : Int} {w : Nat}
theorem id4 (a b u v q : Sp) : (a.lo - b.lo) * turnG u v q = (q.lo - b.lo) * turnG u v a + (a.lo - q.lo) * turnG u v b - (v.lo - u.lo) * turnG a b q := by
  simp only [turnG_exp, Int.mul_add, Int.mul_sub, Int.mul_comm, Int.mul_left_comm]
  omega
theorem turnG_left (a b q : Sp) : turnG a b q = (q.lo - b.lo) * (a.hi - b.hi) - (q.hi - b.hi) * (a.lo - b.lo) := by
  rw [← turnG_cyc]
  rfl
/-- The greatest number up to the side i in a column. -/
def topG (P : Nat → Sp) (i : Nat) (x : Int) : Int := (P (i + 1)).hi + ((x - (P (i + 1)).lo) * ((P i).hi - (P (i + 1)).hi)) / ((P i).lo - (P (i + 1)).lo)
def botG (P : Nat → Sp) (i : Nat) (x : Int) : Int := (P i).hi - ((x - (P i).lo) * ((P i).hi - (P (i + 1)).hi)) / ((P (i + 1)).lo - (P i).lo)
theorem le_top {i : Nat} {x y : Int} (hi : CovL P i x) : y ≤ topG P i x ↔ 0 ≤ turnG (P i) (P (i + 1)) ⟨x, y⟩ := by
  obtain ⟨h1, h2⟩ := hi
  rw [turnG_left]
  unfold topG
  have h3 := Int.le_ediv_iff_mul_le (a := y - (P (i + 1)).hi) (b := (x - (P (i + 1)).lo) * ((P i).hi - (P (i + 1)).hi)) (c := (P i).lo - (P (i + 1)).lo) (by omega)
  constructor
  · intro h
    have := h3.1 (by omega)
    simp only
    omega
  · intro h
    simp only at h
    have := h3.2 (by omega)
    omega
theorem bot_le {i : Nat} {x y : Int} (hi : CovR P i x) : botG P i x ≤ y ↔ 0 ≤ turnG (P i) (P (i + 1)) ⟨x, y⟩ := by
  obtain ⟨h1, h2⟩ := hi
  unfold botG
  have h3 := Int.le_ediv_iff_mul_le (a := (P i).hi - y) (b := (x - (P i).lo) * ((P i).hi - (P (i + 1)).hi)) (c := (P (i + 1)).lo - (P i).lo) (by omega)
  have h4 : turnG (P i) (P (i + 1)) ⟨x, y⟩ = (x - (P i).lo) * ((P i).hi - (P (i + 1)).hi) - ((P i).hi - y) * ((P (i + 1)).lo - (P i).lo) := by
    show ((P (i + 1)).lo - (P i).lo) * (y - (P i).hi) - ((P (i + 1)).hi - (P i).hi) * (x - (P i).lo) = _
    rw [Int.mul_comm (x - (P i).lo), ← Int.neg_sub (P (i + 1)).hi (P i).hi, Int.neg_mul, Int.mul_comm ((P i).hi - y), ← Int.neg_sub y (P i).hi, Int.mul_neg]
    omega
  rw [h4]
  constructor
  · intro h
    have := h3.1 (by omega)
    omega
  · intro h
    have := h3.2 (by omega)
    omega
/-- Which points of a column are in the shape. -/
theorem has_col (h : Conv n P) {i j : Nat} {x y : Int} (hi : i < n) (hj : j < n) (hl : CovL P i x) (hr : CovR P j x) : HasG n P ⟨x, y⟩ ↔ botG P j x ≤ y ∧ y ≤ topG P i x := by
  rw [le_top hl, bot_le hr]
  constructor
  · exact fun hh => ⟨hh j hj, hh i hi⟩
  · rintro ⟨h1, h2⟩ k hk
    obtain ⟨l1, l2⟩ := hl
    obtain ⟨r1, r2⟩ := hr
    by_cases hd : (P (k + 1)).lo ≤ (P k).lo
    · have e := id4 (P i) (P (i + 1)) (P k) (P (k + 1)) ⟨x, y⟩
      simp only at e
      have m1 := Int.mul_nonneg (show 0 ≤ x - (P (i + 1)).lo by omega) (h.nonneg k i).1
      have m2 := Int.mul_nonneg (show 0 ≤ (P i).lo - x by omega) (h.nonneg k (i + 1)).1
      have m3 := Int.mul_nonneg (show 0 ≤ (P k).lo - (P (k + 1)).lo by omega) h2
      rw [← Int.neg_sub (P (k + 1)).lo, Int.neg_mul] at m3
      refine Int.nonneg_of_mul_nonneg_right ?_ (show 0 < (P i).lo - (P (i + 1)).lo by omega)
      omega
    · have e := id4 (P j) (P (j + 1)) (P k) (P (k + 1)) ⟨x, y⟩
      simp only at e
      have m1 := Int.mul_nonneg (show 0 ≤ (P (j + 1)).lo - x by omega) (h.nonneg k j).1
      have m2 := Int.mul_nonneg (show 0 ≤ x - (P j).lo by omega) (h.nonneg k (j + 1)).1
      have m3 := Int.mul_nonneg (show 0 ≤ (P (k + 1)).lo - (P k).lo by omega) h1
      have e1 : ∀ c d z : Int, (c - d) * z = - ((d - c) * z) := fun c d z => by rw [← Int.neg_mul]; congr 1; omega
      rw [e1 (P j).lo, e1 x, e1 (P j).lo x] at e
      refine Int.nonneg_of_mul_nonneg_right ?_ (show 0 < (P (j + 1)).lo - (P j).lo by omega)
      omega
theorem col_gap (h : Conv n P) {i j : Nat} {x : Int} (hl : CovL P i x) (hr : CovR P j x) : botG P j x ≤ topG P i x + 1 := by
  refine Classical.byContradiction fun hc => ?_
  have h1 : turnG (P i) (P (i + 1)) ⟨x, topG P i x + 1⟩ < 0 := by
    have := (le_top (y := topG P i x + 1) hl)
    omega
  have h2 : turnG (P j) (P (j + 1)) ⟨x, topG P i x + 1⟩ < 0 := by
    have := (bot_le (y := topG P i x + 1) hr)
    omega
  obtain ⟨l1, l2⟩ := hl
  obtain ⟨r1, r2⟩ := hr
  have e := id4 (P i) (P (i + 1)) (P j) (P (j + 1)) ⟨x, topG P i x + 1⟩
  simp only at e
  have m1 := Int.mul_nonneg (show 0 ≤ x - (P (i + 1)).lo by omega) (h.nonneg j i).1
  have m2 := Int.mul_nonneg (show 0 ≤ (P i).lo - x by omega) (h.nonneg j (i + 1)).1
  have m3 := Int.mul_neg_of_pos_of_neg (show 0 < (P (j + 1)).lo - (P j).lo by omega) h1
  have m4 := Int.mul_neg_of_pos_of_neg (show 0 < (P i).lo - (P (i + 1)).lo by omega) h2
  omega
theorem top_le {i : Nat} {x y1 : Int} (hl : CovL P i x) (h1 : (P i).hi ≤ y1) (h2 : (P (i + 1)).hi ≤ y1) : topG P i x ≤ y1 := by
  obtain ⟨l1, l2⟩ := hl
  have h3 : ((x - (P (i + 1)).lo) * ((P i).hi - (P (i + 1)).hi)) / ((P i).lo - (P (i + 1)).lo) ≤ y1 - (P (i + 1)).hi := by
    refine Int.ediv_le_of_le_mul (by omega) ?_
    have a1 := Int.mul_le_mul_of_nonneg_left (show (P i).hi - (P (i + 1)).hi ≤ y1 - (P (i + 1)).hi by omega) (show 0 ≤ x - (P (i + 1)).lo by omega)
    have a2 := Int.mul_le_mul_of_nonneg_right (show x - (P (i + 1)).lo ≤ (P i).lo - (P (i + 1)).lo by omega) (show 0 ≤ y1 - (P (i + 1)).hi by omega)
    rw [Int.mul_comm (y1 - _)]
    omega
  unfold topG
  omega
theorem le_bot {i : Nat} {x y0 : Int} (hr : CovR P i x) (h1 : y0 ≤ (P i).hi) (h2 : y0 ≤ (P (i + 1)).hi) : y0 ≤ botG P i x := by
  obtain ⟨l1, l2⟩ := hr
  have h3 : ((x - (P i).lo) * ((P i).hi - (P (i + 1)).hi)) / ((P (i + 1)).lo - (P i).lo) ≤ (P i).hi - y0 := by
    refine Int.ediv_le_of_le_mul (by omega) ?_
    have a1 := Int.mul_le_mul_of_nonneg_left (show (P i).hi - (P (i + 1)).hi ≤ (P i).hi - y0 by omega) (show 0 ≤ x - (P i).lo by omega)
    have a2 := Int.mul_le_mul_of_nonneg_right (show x - (P i).lo ≤ (P (i + 1)).lo - (P i).lo by omega) (show 0 ≤ (P i).hi - y0 by omega)
    rw [Int.mul_comm ((P i).hi - y0)]
    omega
  unfold botG
  omega
/-- The numbers from lo to hi, counted. -/
theorem count_seg {lo hi y0 : Int} {m : Nat} {f : Nat → Int} (h1 : y0 ≤ lo) (h2 : hi ≤ y0 + m) (h3 : lo ≤ hi + 1) (hf : ∀ d, d < m + 1 → f d = if lo ≤ y0 + (d : Int) ∧ y0 + (d : Int) ≤ hi then 1 else 0) : sumG f (m + 1) = hi - lo + 1 := by
  have h := cov_sum (a := hi + 1) (b := lo) (x0 := y0) (w := m + 1) (fun _ => 1) h1 (by omega) (by omega)
  rw [sumG_const] at h
  have e : sumG f (m + 1) = sumG (fun c => if lo ≤ y0 + (c : Int) ∧ y0 + (c : Int) < hi + 1 then 1 else 0) (m + 1) := sumG_congr fun d hd => by
    rw [hf d hd]
    by_cases hc : lo ≤ y0 + (d : Int) ∧ y0 + (d : Int) ≤ hi
    · rw [if_pos hc, if_pos (by omega)]
    · rw [if_neg hc, if_neg (by omega)]
  rw [e, h]
  omega
/-- A side's part of all columns. -/
theorem side_sum {d : Nat} (hd : 0 < d) (y dy : Int) : 2 * sumG (fun j => y + ((j : Int) * dy) / d) d = d * (2 * y + dy) - dy - d + (Nat.gcd d dy.natAbs : Nat) := by
  have h1 := floor_sum hd dy
  have h2 := sumG_add (fun _ => y) (fun j => ((j : Int) * dy) / d) d
  rw [sumG_const] at h2
  rw [Int.mul_add, Int.mul_left_comm]
  rw [Int.sub_mul, Int.one_mul] at h1
  omega
end
def hasB (n : Nat) (P : Nat → Sp) (p : Sp) : Bool := (List.range n).all fun i => decide (0 ≤ turnG (P i) (P (i + 1)) p)
theorem hasB_iff {n : Nat} {P : Nat → Sp} {p : Sp} : hasB n P p = true ↔ HasG n P p := by
  unfold hasB HasG
  simp only [List.all_eq_true, List.mem_range, decide_eq_true_eq]
/-- How many points of the box are in the shape. -/
def countG (n : Nat) (P : Nat → Sp) (x0 y0 : Int) (w m : Nat) : Int :=
  sumG (fun c => sumG (fun d => if hasB n P ⟨x0 + (c : Int), y0 + (d : Int)⟩ = true then 1 else 0) (m + 1)) (w + 1)
section
variable {n : Nat} {P : Nat → Sp} {x0 y0 : Int} {w m : Nat}
theorem Conv.wide (h : Conv n P) (hb : BoxG n P x0 (x0 + w) y0 (y0 + m)) : 0 < w := by
  rcases Nat.eq_zero_or_pos w with e | e
  · exfalso
    subst e
    have h3 := h.three
    have h1 := h.side 0 2 (by omega) (by omega)
    obtain ⟨a1, a2, _⟩ := hb.inn 0
    obtain ⟨b1, b2, _⟩ := hb.inn (0 + 1)
    obtain ⟨c1, c2, _⟩ := hb.inn (0 + 2)
    unfold turnG at h1
    rw [show (P (0 + 1)).lo - (P 0).lo = 0 from by omega, show (P (0 + 2)).lo - (P 0).lo = 0 from by omega, Int.zero_mul, Int.mul_zero] at h1
    omega
  · exact e
theorem neg_of_mul_pos {a b : Int} (h : 0 < -(a * b)) (hb : 0 < b) : a < 0 := by
  refine Classical.byContradiction fun hc => ?_
  have := Int.mul_nonneg (show 0 ≤ a by omega) (Int.le_of_lt hb)
  omega
theorem pos_of_mul_pos_ {a b : Int} (h : 0 < -(a * b)) (hb : b ≤ 0) : 0 < a := by
  refine Classical.byContradiction fun hc => ?_
  have := Int.mul_nonneg (show 0 ≤ -a by omega) (show 0 ≤ -b by omega)
  rw [Int.neg_mul_neg] at this
  omega
/-- An upright side goes up on the right, and down on the left. -/
theorem Conv.upright (h : Conv n P) (hb : BoxG n P x0 (x0 + w) y0 (y0 + m)) {i : Nat} (hi : (P i).lo = (P (i + 1)).lo) : ((P i).lo = x0 + w ∧ (P i).hi < (P (i + 1)).hi) ∨ ((P i).lo ≠ x0 + w ∧ (P (i + 1)).hi < (P i).hi) := by
  have h3 := h.three
  have tv : ∀ q, turnG (P i) (P (i + 1)) q = -(((P (i + 1)).hi - (P i).hi) * (q.lo - (P i).lo)) := fun q => by
    unfold turnG
    rw [show (P (i + 1)).lo - (P i).lo = 0 from by omega, Int.zero_mul]
    omega
  by_cases hx : (P i).lo = x0 + w
  · left
    have h1 := h.side i 2 (by omega) (by omega)
    obtain ⟨_, a2, _⟩ := hb.inn (i + 2)
    rw [tv] at h1
    have := pos_of_mul_pos_ h1 (by omega)
    exact ⟨hx, by omega⟩
  · right
    obtain ⟨j, hj⟩ := hb.r
    obtain ⟨_, a2, _⟩ := hb.inn i
    have h1 := (h.nonneg i j).2 (fun e => by
      have : P j = P i := by rw [← h.mod j, e, h.mod]
      rw [this] at hj; exact hx hj) (fun e => by
      have : P j = P (i + 1) := by rw [← h.mod j, e, h.mod]
      rw [this] at hj; exact hx (by omega))
    rw [tv] at h1
    have := neg_of_mul_pos h1 (by omega)
    exact ⟨hx, by omega⟩
/-- The last column. -/
theorem last_col (h : Conv n P) (hb : BoxG n P x0 (x0 + w) y0 (y0 + m)) {t r : Nat} (ht : t < n) (hr : r < n) (hl : CovL P t (x0 + w - 1)) (hR : CovR P r (x0 + w - 1)) {y : Int} :
    HasG n P ⟨x0 + w, y⟩ ↔ (P (r + 1)).hi ≤ y ∧ y ≤ (P t).hi := by
  obtain ⟨l1, l2⟩ := hl
  obtain ⟨r1, r2⟩ := hR
  obtain ⟨_, a2, _⟩ := hb.inn t
  obtain ⟨_, b2, _⟩ := hb.inn (r + 1)
  constructor
  · intro hh
    have h1 := hh t ht
    have h2 := hh r hr
    constructor
    · rw [turnG_left] at h2
      simp only at h2
      rw [show x0 + (w : Int) - (P (r + 1)).lo = 0 from by omega, Int.zero_mul] at h2
      refine Classical.byContradiction fun hc => ?_
      have := Int.mul_pos (show 0 < (P (r + 1)).hi - y by omega) (show 0 < (P (r + 1)).lo - (P r).lo by omega)
      rw [← Int.neg_sub y, ← Int.neg_sub (P r).lo, Int.neg_mul_neg] at this
      omega
    · unfold turnG at h1
      simp only at h1
      rw [show x0 + (w : Int) - (P t).lo = 0 from by omega, Int.mul_zero] at h1
      refine Classical.byContradiction fun hc => ?_
      have := Int.mul_pos (show 0 < (P t).lo - (P (t + 1)).lo by omega) (show 0 < y - (P t).hi by omega)
      rw [← Int.neg_sub (P (t + 1)).lo, Int.neg_mul] at this
      omega
  · rintro ⟨h1, h2⟩ k hk
    have dif : ∀ q : Sp, q.lo = x0 + w → turnG (P k) (P (k + 1)) ⟨x0 + w, y⟩ = turnG (P k) (P (k + 1)) q + ((P (k + 1)).lo - (P k).lo) * (y - q.hi) := fun q hq => by
      unfold turnG
      rw [hq]
      simp only [Int.mul_sub]
      omega
    by_cases hd : (P (k + 1)).lo ≤ (P k).lo
    · rw [dif (P t) (by omega)]
      have := Int.mul_nonneg (show 0 ≤ (P k).lo - (P (k + 1)).lo by omega) (show 0 ≤ (P t).hi - y by omega)
      rw [← Int.neg_sub (P (k + 1)).lo, ← Int.neg_sub y, Int.neg_mul_neg] at this
      have := (h.nonneg k t).1
      omega
    · rw [dif (P (r + 1)) (by omega)]
      have := Int.mul_nonneg (show 0 ≤ (P (k + 1)).lo - (P k).lo by omega) (show 0 ≤ y - (P (r + 1)).hi by omega)
      have := (h.nonneg k (r + 1)).1
      omega
/-- How many points a side has. -/
def sideG (P : Nat → Sp) (i : Nat) : Int := (Nat.gcd ((P i).lo - (P (i + 1)).lo).natAbs ((P i).hi - (P (i + 1)).hi).natAbs : Nat)
def uprG (P : Nat → Sp) (x1 : Int) (i : Nat) : Int := if (P i).lo = (P (i + 1)).lo ∧ (P i).lo = x1 then (P (i + 1)).hi - (P i).hi else 0
theorem side_all (h : Conv n P) (hb : BoxG n P x0 (x0 + w) y0 (y0 + m)) (i : Nat) :
    2 * sumG (fun c => CL P i (x0 + (c : Int)) * topG P i (x0 + (c : Int))) w - 2 * sumG (fun c => CR P i (x0 + (c : Int)) * botG P i (x0 + (c : Int))) w =
      ((P i).lo - (P (i + 1)).lo) * ((P i).hi + (P (i + 1)).hi) + sideG P i - max 0 ((P i).lo - (P (i + 1)).lo) - max 0 ((P (i + 1)).lo - (P i).lo) + ((P (i + 1)).hi - (P i).hi) - 2 * uprG P (x0 + w) i := by
  obtain ⟨a1, a2, _⟩ := hb.inn i
  obtain ⟨b1, b2, _⟩ := hb.inn (i + 1)
  rcases Int.lt_trichotomy (P (i + 1)).lo (P i).lo with hd | hd | hd
  · obtain ⟨d, hdd⟩ : ∃ d : Nat, (P i).lo - (P (i + 1)).lo = d := ⟨((P i).lo - (P (i + 1)).lo).toNat, by omega⟩
    have h1 := cov_sum (a := (P i).lo) (b := (P (i + 1)).lo) (x0 := x0) (w := w) (fun j => (P (i + 1)).hi + ((j : Int) * ((P i).hi - (P (i + 1)).hi)) / d) b1 a2 (by omega)
    have h2 : sumG (fun c => CL P i (x0 + (c : Int)) * topG P i (x0 + (c : Int))) w = sumG (fun c => if (P (i + 1)).lo ≤ x0 + (c : Int) ∧ x0 + (c : Int) < (P i).lo then (fun j : Nat => (P (i + 1)).hi + ((j : Int) * ((P i).hi - (P (i + 1)).hi)) / d) ((x0 + (c : Int) - (P (i + 1)).lo).toNat) else 0) w := sumG_congr fun c _ => by
      unfold CL topG
      split
      · rename_i hc
        rw [Int.one_mul, hdd]
        show _ = (P (i + 1)).hi + ((((x0 + (c : Int) - (P (i + 1)).lo).toNat : Nat) : Int) * ((P i).hi - (P (i + 1)).hi)) / d
        rw [show (((x0 + (c : Int) - (P (i + 1)).lo).toNat : Nat) : Int) = x0 + c - (P (i + 1)).lo from by omega]
      · rw [Int.zero_mul]
    have h3 : sumG (fun c => CR P i (x0 + (c : Int)) * botG P i (x0 + (c : Int))) w = sumG (fun _ => 0) w := sumG_congr fun c _ => by rw [CR, if_neg (by omega), Int.zero_mul]
    have h4 := side_sum (d := d) (by omega) (P (i + 1)).hi ((P i).hi - (P (i + 1)).hi)
    rw [show ((P i).lo - (P (i + 1)).lo).toNat = d from by omega] at h1
    rw [h2, h1, h3, sumG_zero, h4, hdd]
    unfold sideG uprG
    rw [if_neg (by omega), hdd, Int.natAbs_natCast, show 2 * (P (i + 1)).hi + ((P i).hi - (P (i + 1)).hi) = (P i).hi + (P (i + 1)).hi from by omega]
    omega
  · have h2 : sumG (fun c => CL P i (x0 + (c : Int)) * topG P i (x0 + (c : Int))) w = sumG (fun _ => 0) w := sumG_congr fun c _ => by rw [CL, if_neg (by omega), Int.zero_mul]
    have h3 : sumG (fun c => CR P i (x0 + (c : Int)) * botG P i (x0 + (c : Int))) w = sumG (fun _ => 0) w := sumG_congr fun c _ => by rw [CR, if_neg (by omega), Int.zero_mul]
    rw [h2, h3, sumG_zero]
    unfold sideG uprG
    rw [show (P i).lo - (P (i + 1)).lo = 0 from by omega, show (P (i + 1)).lo - (P i).lo = 0 from by omega, Int.zero_mul, Int.natAbs_zero, Nat.gcd_zero_left]
    rcases h.upright hb (i := i) hd.symm with ⟨u1, u2⟩ | ⟨u1, u2⟩
    · rw [if_pos ⟨hd.symm, u1⟩]
      omega
    · rw [if_neg fun e => u1 e.2]
      omega
  · obtain ⟨d, hdd⟩ : ∃ d : Nat, (P (i + 1)).lo - (P i).lo = d := ⟨((P (i + 1)).lo - (P i).lo).toNat, by omega⟩
    have h1 := cov_sum (a := (P (i + 1)).lo) (b := (P i).lo) (x0 := x0) (w := w) (fun j => -(P i).hi + ((j : Int) * ((P i).hi - (P (i + 1)).hi)) / d) a1 b2 (by omega)
    have h2 : sumG (fun c => CR P i (x0 + (c : Int)) * botG P i (x0 + (c : Int))) w = sumG (fun c => (-1) * if (P i).lo ≤ x0 + (c : Int) ∧ x0 + (c : Int) < (P (i + 1)).lo then (fun j : Nat => -(P i).hi + ((j : Int) * ((P i).hi - (P (i + 1)).hi)) / d) ((x0 + (c : Int) - (P i).lo).toNat) else 0) w := sumG_congr fun c _ => by
      unfold CR botG
      split
      · rename_i hc
        rw [Int.one_mul, hdd]
        show _ = (-1) * (-(P i).hi + ((((x0 + (c : Int) - (P i).lo).toNat : Nat) : Int) * ((P i).hi - (P (i + 1)).hi)) / d)
        rw [show (((x0 + (c : Int) - (P i).lo).toNat : Nat) : Int) = x0 + c - (P i).lo from by omega]
        omega
      · rw [Int.zero_mul, Int.mul_zero]
    rw [sumG_mul] at h2
    have h3 : sumG (fun c => CL P i (x0 + (c : Int)) * topG P i (x0 + (c : Int))) w = sumG (fun _ => 0) w := sumG_congr fun c _ => by rw [CL, if_neg (by omega), Int.zero_mul]
    have h4 := side_sum (d := d) (by omega) (-(P i).hi) ((P i).hi - (P (i + 1)).hi)
    rw [show ((P (i + 1)).lo - (P i).lo).toNat = d from by omega] at h1
    rw [h2, h1, h3, sumG_zero, hdd]
    unfold sideG uprG
    have e1 : (P i).lo - (P (i + 1)).lo = -(d : Int) := by omega
    rw [if_neg (by omega), e1, Int.natAbs_neg, Int.natAbs_natCast]
    rw [show 2 * -(P i).hi + ((P i).hi - (P (i + 1)).hi) = -((P i).hi + (P (i + 1)).hi) from by omega, Int.mul_neg] at h4
    have e2 : -(d : Int) * ((P i).hi + (P (i + 1)).hi) = -((d : Int) * ((P i).hi + (P (i + 1)).hi)) := Int.neg_mul _ _
    omega
theorem uprG_sum (h : Conv n P) (hb : BoxG n P x0 (x0 + w) y0 (y0 + m)) {t r : Nat} (ht : t < n) (hr : r < n) (hl : CovL P t (x0 + w - 1)) (hR : CovR P r (x0 + w - 1)) : sumG (uprG P (x0 + w)) n = (P t).hi - (P (r + 1)).hi := by
  have hw := h.wide hb
  have h0 := round_zero h (fun p => if p.lo = x0 + w then p.hi else 0)
  obtain ⟨il, hil⟩ := hb.l
  obtain ⟨ir, hir⟩ := hb.r
  obtain ⟨⟨k, hk, k1, k2⟩, _⟩ := cl_one h (x := x0 + w - 1) ⟨il, by omega⟩ ⟨ir, by omega⟩ (fun i => (P i).hi)
  obtain ⟨_, q, hq, q1, q2⟩ := cl_one h (x := x0 + w - 1) ⟨il, by omega⟩ ⟨ir, by omega⟩ (fun i => (P (i + 1)).hi)
  have ek := h.oneL k1 hl
  have eq := h.oneR q1 hR
  rw [Nat.mod_eq_of_lt hk, Nat.mod_eq_of_lt ht] at ek
  rw [Nat.mod_eq_of_lt hq, Nat.mod_eq_of_lt hr] at eq
  subst ek eq
  have hs : ∀ i, (if (P (i + 1)).lo = x0 + w then (P (i + 1)).hi else 0) - (if (P i).lo = x0 + w then (P i).hi else 0) = uprG P (x0 + w) i + (CR P i (x0 + w - 1) * (P (i + 1)).hi + (-1) * (CL P i (x0 + w - 1) * (P i).hi)) := by
    intro i
    obtain ⟨_, a2, _⟩ := hb.inn i
    obtain ⟨_, b2, _⟩ := hb.inn (i + 1)
    unfold uprG CR CL
    by_cases h1 : (P i).lo = x0 + w
    · by_cases h2 : (P (i + 1)).lo = x0 + w
      · rw [if_pos h2, if_pos h1, if_pos ⟨by omega, h1⟩, if_neg (by omega), if_neg (by omega)]
        omega
      · rw [if_neg h2, if_pos h1, if_neg (by omega), if_neg (by omega), if_pos (by omega)]
        omega
    · by_cases h2 : (P (i + 1)).lo = x0 + w
      · rw [if_pos h2, if_neg h1, if_neg (by omega), if_pos (by omega), if_neg (by omega)]
        omega
      · rw [if_neg h2, if_neg h1, if_neg (by omega), if_neg (by omega), if_neg (by omega)]
        omega
  rw [sumG_congr fun i _ => hs i, sumG_add, sumG_add, sumG_mul, k2, q2] at h0
  omega
/-- Twice the number of the points of a shape is twice its area, the number of points on its sides, and 2. -/
theorem pickG (h : Conv n P) (hb : BoxG n P x0 (x0 + w) y0 (y0 + m)) : 2 * countG n P x0 y0 w m = areaG n P + sumG (sideG P) n + 2 := by
  have hw := h.wide hb
  obtain ⟨il, hil⟩ := hb.l
  obtain ⟨ir, hir⟩ := hb.r
  have col : ∀ c : Nat, c < w → sumG (fun d => if hasB n P ⟨x0 + (c : Int), y0 + (d : Int)⟩ = true then 1 else 0) (m + 1) = sumG (fun i => CL P i (x0 + c) * topG P i (x0 + c)) n + ((-1) * sumG (fun i => CR P i (x0 + c) * botG P i (x0 + c)) n + 1) := by
    intro c hc
    obtain ⟨⟨k, hk, k1, k2⟩, _⟩ := cl_one h (x := x0 + c) ⟨il, by omega⟩ ⟨ir, by omega⟩ (fun i => topG P i (x0 + c))
    obtain ⟨_, q, hq, q1, q2⟩ := cl_one h (x := x0 + c) ⟨il, by omega⟩ ⟨ir, by omega⟩ (fun i => botG P i (x0 + c))
    rw [k2, q2]
    obtain ⟨_, _, a3, a4⟩ := hb.inn k
    obtain ⟨_, _, b3, b4⟩ := hb.inn (k + 1)
    obtain ⟨_, _, c3, c4⟩ := hb.inn q
    obtain ⟨_, _, d3, d4⟩ := hb.inn (q + 1)
    have := count_seg (lo := botG P q (x0 + c)) (hi := topG P k (x0 + c)) (y0 := y0) (m := m) (f := fun d => if hasB n P ⟨x0 + (c : Int), y0 + (d : Int)⟩ = true then 1 else 0) (le_bot q1 c3 d3) (top_le k1 a4 b4) (col_gap h k1 q1) (fun d _ => by
      show (if hasB n P ⟨x0 + (c : Int), y0 + (d : Int)⟩ = true then (1 : Int) else 0) = _
      have e := (hasB_iff (n := n) (P := P) (p := ⟨x0 + (c : Int), y0 + (d : Int)⟩)).trans (has_col h hk hq k1 q1)
      by_cases he : hasB n P ⟨x0 + (c : Int), y0 + (d : Int)⟩ = true
      · rw [if_pos he, if_pos (e.1 he)]
      · rw [if_neg he, if_neg fun z => he (e.2 z)])
    rw [this]
    omega
  obtain ⟨⟨t, ht, t1, _⟩, r, hr, r1, _⟩ := cl_one h (x := x0 + w - 1) ⟨il, by omega⟩ ⟨ir, by omega⟩ (fun _ => 0)
  have last : sumG (fun d => if hasB n P ⟨x0 + (w : Int), y0 + (d : Int)⟩ = true then 1 else 0) (m + 1) = (P t).hi - (P (r + 1)).hi + 1 := by
    obtain ⟨_, _, a3, a4⟩ := hb.inn t
    obtain ⟨_, _, b3, b4⟩ := hb.inn (r + 1)
    have h5 := (hasB_iff (n := n) (P := P) (p := P t)).2 fun k _ => (h.nonneg k t).1
    have h6 : P t = ⟨x0 + w, (P t).hi⟩ := by
      obtain ⟨_, a2, _⟩ := hb.inn t
      obtain ⟨z1, z2⟩ := t1
      exact Sp.ext_ (by show (P t).lo = x0 + w; omega) rfl
    have h7 := ((last_col h hb ht hr t1 r1).1 (by rw [h6] at h5; exact hasB_iff.1 h5)).1
    exact count_seg (lo := (P (r + 1)).hi) (hi := (P t).hi) (y0 := y0) (m := m) (f := fun d => if hasB n P ⟨x0 + (w : Int), y0 + (d : Int)⟩ = true then 1 else 0) b3 a4 (by omega) (fun d _ => by
      show (if hasB n P ⟨x0 + (w : Int), y0 + (d : Int)⟩ = true then (1 : Int) else 0) = _
      have e := (hasB_iff (n := n) (P := P) (p := ⟨x0 + (w : Int), y0 + (d : Int)⟩)).trans (last_col h hb ht hr t1 r1)
      by_cases he : hasB n P ⟨x0 + (w : Int), y0 + (d : Int)⟩ = true
      · rw [if_pos he, if_pos (e.1 he)]
      · rw [if_neg he, if_neg fun z => he (e.2 z)])
  have hup := uprG_sum h hb ht hr t1 r1
  have hcnt : countG n P x0 y0 w m = sumG (fun c => sumG (fun d => if hasB n P ⟨x0 + (c : Int), y0 + (d : Int)⟩ = true then 1 else 0) (m + 1)) w + sumG (fun d => if hasB n P ⟨x0 + (w : Int), y0 + (d : Int)⟩ = true then 1 else 0) (m + 1) := rfl
  rw [hcnt, last, sumG_congr col, sumG_add, sumG_add, sumG_mul, sumG_const, sumG_swap (fun c i => CL P i (x0 + (c : Int)) * topG P i (x0 + (c : Int))) n w, sumG_swap (fun c i => CR P i (x0 + (c : Int)) * botG P i (x0 + (c : Int))) n w]
  have hall := sumG_congr (n := n) fun i _ => side_all h hb i
  have s1 := sumG_add (fun i => 2 * sumG (fun c => CL P i (x0 + (c : Int)) * topG P i (x0 + (c : Int))) w - 2 * sumG (fun c => CR P i (x0 + (c : Int)) * botG P i (x0 + (c : Int))) w) (fun i => 2 * sumG (fun c => CR P i (x0 + (c : Int)) * botG P i (x0 + (c : Int))) w) n
  have s2 : sumG (fun i => 2 * sumG (fun c => CL P i (x0 + (c : Int)) * topG P i (x0 + (c : Int))) w - 2 * sumG (fun c => CR P i (x0 + (c : Int)) * botG P i (x0 + (c : Int))) w + 2 * sumG (fun c => CR P i (x0 + (c : Int)) * botG P i (x0 + (c : Int))) w) n = sumG (fun i => 2 * sumG (fun c => CL P i (x0 + (c : Int)) * topG P i (x0 + (c : Int))) w) n := sumG_congr fun i _ => by omega
  rw [s2, sumG_mul, sumG_mul] at s1
  have g1 := area_strips h
  obtain ⟨g2, g3⟩ := go_left h hb
  have g4 := round_zero h (fun p => p.hi)
  have s3 : sumG (fun i => ((P i).lo - (P (i + 1)).lo) * ((P i).hi + (P (i + 1)).hi) + sideG P i - max 0 ((P i).lo - (P (i + 1)).lo) - max 0 ((P (i + 1)).lo - (P i).lo) + ((P (i + 1)).hi - (P i).hi) - 2 * uprG P (x0 + w) i) n + sumG (fun i => max 0 ((P i).lo - (P (i + 1)).lo)) n + sumG (fun i => max 0 ((P (i + 1)).lo - (P i).lo)) n + sumG (fun i => 2 * uprG P (x0 + w) i) n = sumG (fun i => ((P i).lo - (P (i + 1)).lo) * ((P i).hi + (P (i + 1)).hi)) n + sumG (sideG P) n + sumG (fun i => (P (i + 1)).hi - (P i).hi) n := by
    rw [← sumG_add, ← sumG_add, ← sumG_add, ← sumG_add, ← sumG_add]
    exact sumG_congr fun i _ => by omega
  rw [sumG_mul, hup] at s3
  omega
end
end Go.Proofs.Ytfkfjkhikgnnaaa
