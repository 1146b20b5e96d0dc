/- Shapes of corners that turn to the left: turns, areas, points in a shape, corners cut off. Plain data. -/
import Derived.Test.YtfkfjkhikgnnaaaDuo
namespace Go.Proofs.Ytfkfjkhikgnnaaa

/-- Twice the area of three points, above 0 if they turn to the left. -/
def turnG (a b c : Sp) : Int := (b.lo - a.lo) * (c.hi - a.hi) - (b.hi - a.hi) * (c.lo - a.lo)
theorem turnG_exp (a b c : Sp) : turnG a b c = b.lo * c.hi - b.lo * a.hi - a.lo * c.hi - b.hi * c.lo + b.hi * a.lo + a.hi * c.lo := by
  simp only [turnG, Int.mul_sub, Int.mul_comm]
  omega
theorem turnG_cyc (a b c : Sp) : turnG b c a = turnG a b c := by
  rw [turnG_exp, turnG_exp]
  simp only [Int.mul_comm]
  omega
theorem turnG_swap (a b c : Sp) : turnG b a c = - turnG a b c := by
  rw [turnG_exp, turnG_exp]
  simp only [Int.mul_comm]
  omega
theorem turnG_aa (a c : Sp) : turnG a a c = 0 := by
  rw [turnG_exp]
  simp only [Int.mul_comm]
  omega
theorem turnG_ab (a b : Sp) : turnG a b b = 0 := by
  rw [turnG_exp]
  simp only [Int.mul_comm]
  omega
theorem turnG_ba (a b : Sp) : turnG a b a = 0 := by
  rw [turnG_exp]
  simp only [Int.mul_comm]
  omega
/-- Four points: the sum of the triangles over a side. -/
theorem turnG_four (a b c p : Sp) : turnG a b p + turnG b c p + turnG c a p = turnG a b c := by
  rw [turnG_exp, turnG_exp, turnG_exp, turnG_exp]
  simp only [Int.mul_comm]
  omega
/-- The relation of the products of the turns of four points seen from a fifth. -/
theorem turnG_pluck (o d u v w : Sp) : turnG o d v * turnG o u w = turnG o d u * turnG o v w + turnG o d w * turnG o u v := by
  have key : ∀ a1 a2 b1 b2 c1 c2 e1 e2 : Int, (a1 * b2 - a2 * b1) * (c1 * e2 - c2 * e1) = (a1 * c2 - a2 * c1) * (b1 * e2 - b2 * e1) + (a1 * e2 - a2 * e1) * (c1 * b2 - c2 * b1) := by
    intro a1 a2 b1 b2 c1 c2 e1 e2
    simp only [Int.mul_sub, Int.mul_comm, Int.mul_left_comm]
    omega
  exact key _ _ _ _ _ _ _ _
/-- Three points tell where a fourth one is. -/
theorem turnG_bary_lo (a b c p : Sp) : turnG a b c * p.lo = turnG b c p * a.lo + turnG c a p * b.lo + turnG a b p * c.lo := by
  simp only [turnG_exp, Int.mul_add, Int.mul_sub, Int.mul_comm, Int.mul_left_comm]
  omega
theorem turnG_bary_hi (a b c p : Sp) : turnG a b c * p.hi = turnG b c p * a.hi + turnG c a p * b.hi + turnG a b p * c.hi := by
  simp only [turnG_exp, Int.mul_add, Int.mul_sub, Int.mul_comm, Int.mul_left_comm]
  omega
/-- A corner by its number, counted round and round. -/
def ptG (L : List Sp) (i : Nat) : Sp := L.getD (i % L.length) ⟨0, 0⟩
theorem ptG_at {L : List Sp} {i : Nat} {p : Sp} (h : L[i]? = some p) : ptG L i = p := by
  have hi : i < L.length := (List.getElem?_eq_some_iff.1 h).1
  unfold ptG
  rw [Nat.mod_eq_of_lt hi, List.getD_eq_getElem?_getD, h]
  rfl
theorem ptG_mod (L : List Sp) (i : Nat) : ptG L (i % L.length) = ptG L i := by
  unfold ptG
  rw [Nat.mod_mod]
theorem ptG_per (L : List Sp) (i : Nat) : ptG L (i + L.length) = ptG L i := by
  unfold ptG
  rw [Nat.add_mod_right]
theorem ptG_mod1 (L : List Sp) (i : Nat) : ptG L (i % L.length + 1) = ptG L (i + 1) := by
  unfold ptG
  rw [Nat.mod_add_mod]
theorem ptG_get {L : List Sp} {i : Nat} (hi : i < L.length) : L[i]? = some (ptG L i) := by
  have := ptG_at (List.getElem?_eq_getElem hi)
  rw [this]
  exact List.getElem?_eq_getElem hi
/-- The sum of the first n. -/
def sumG (f : Nat → Int) : Nat → Int
  | 0 => 0
  | n + 1 => sumG f n + f n
theorem sumG_congr {f g : Nat → Int} : ∀ {n : Nat}, (∀ i, i < n → f i = g i) → sumG f n = sumG g n
  | 0, _ => rfl
  | n + 1, h => by
    show sumG f n + f n = sumG g n + g n
    rw [sumG_congr fun i hi => h i (by omega), h n (by omega)]
theorem sumG_le {f g : Nat → Int} : ∀ {n : Nat}, (∀ i, i < n → f i ≤ g i) → sumG f n ≤ sumG g n
  | 0, _ => Int.le_refl _
  | n + 1, h => by
    have h1 := sumG_le (n := n) fun i hi => h i (by omega)
    have h2 := h n (by omega)
    show sumG f n + f n ≤ sumG g n + g n
    omega
theorem sumG_add (f g : Nat → Int) : ∀ n, sumG (fun i => f i + g i) n = sumG f n + sumG g n
  | 0 => rfl
  | n + 1 => by
    have := sumG_add f g n
    show sumG (fun i => f i + g i) n + (f n + g n) = sumG f n + f n + (sumG g n + g n)
    omega
theorem sumG_mul (f : Nat → Int) (c : Int) : ∀ n, sumG (fun i => c * f i) n = c * sumG f n
  | 0 => by simp [sumG]
  | n + 1 => by
    have := sumG_mul f c n
    show sumG (fun i => c * f i) n + c * f n = c * (sumG f n + f n)
    rw [Int.mul_add]
    omega
theorem sumG_zero : ∀ n, sumG (fun _ => 0) n = 0
  | 0 => rfl
  | n + 1 => by
    have := sumG_zero n
    show sumG (fun _ => 0) n + 0 = 0
    omega
theorem sumG_nonneg {f : Nat → Int} {n : Nat} (h : ∀ i, i < n → 0 ≤ f i) : 0 ≤ sumG f n := by
  have := sumG_le (f := fun _ => 0) h
  rw [sumG_zero] at this
  exact this
theorem sumG_one {f : Nat → Int} {n k : Nat} (h : ∀ i, i < n → 0 ≤ f i) (hk : k < n) : f k ≤ sumG f n := by
  induction n with
  | zero => omega
  | succ n ih =>
    show f k ≤ sumG f n + f n
    by_cases hkn : k = n
    · subst hkn
      have := sumG_nonneg (n := k) fun i hi => h i (by omega)
      omega
    · have := ih (fun i hi => h i (by omega)) (by omega)
      have := h n (by omega)
      omega
/-- A sum may begin one later. -/
theorem sumG_shift (f : Nat → Int) : ∀ n, sumG (fun i => f (i + 1)) n + f 0 = sumG f n + f n
  | 0 => rfl
  | n + 1 => by
    have := sumG_shift f n
    show sumG (fun i => f (i + 1)) n + f (n + 1) + f 0 = sumG f n + f n + f (n + 1)
    omega
theorem sumG_round {f : Nat → Int} {n : Nat} (h : ∀ i, f (i + n) = f i) : ∀ r, sumG (fun i => f (i + r)) n = sumG f n
  | 0 => rfl
  | r + 1 => by
    have h1 := sumG_shift (fun i => f (i + r)) n
    have h2 : f (n + r) = f (0 + r) := by rw [Nat.add_comm n r, h, Nat.zero_add]
    have h3 := sumG_round h r
    have h4 : sumG (fun i => f (i + (r + 1))) n = sumG (fun i => f (i + 1 + r)) n := sumG_congr fun i _ => by rw [show i + (r + 1) = i + 1 + r from by omega]
    rw [h4, ← h3]
    have h5 : (fun i => f (i + r)) n = f (n + r) := rfl
    have h6 : (fun i => f (i + r)) 0 = f (0 + r) := rfl
    omega
/-- Corners of a shape that is bent to the left at each of them. -/
structure Conv (n : Nat) (P : Nat → Sp) : Prop where
  three : 3 ≤ n
  per : ∀ k, P (k + n) = P k
  side : ∀ i t, 2 ≤ t → t < n → 0 < turnG (P i) (P (i + 1)) (P (i + t))
section
variable {n : Nat} {P : Nat → Sp}
theorem Conv.rot (h : Conv n P) (r : Nat) : Conv n (fun i => P (i + r)) :=
  ⟨h.three, fun k => by show P (k + n + r) = P (k + r); rw [show k + n + r = k + r + n from by omega, h.per], fun i t h2 ht => by
    have := h.side (i + r) t h2 ht
    show 0 < turnG (P (i + r)) (P (i + 1 + r)) (P (i + t + r))
    rw [show i + 1 + r = i + r + 1 from by omega, show i + t + r = i + r + t from by omega]
    exact this⟩
/-- Each three corners turn to the left. -/
theorem Conv.tri (h : Conv n P) (i : Nat) {s t : Nat} (hs : 0 < s) (hst : s < t) (ht : t < n) : 0 < turnG (P i) (P (i + s)) (P (i + t)) := by
  by_cases h1 : s = 1
  · subst h1
    exact h.side i t (by omega) ht
  · induction t with
    | zero => omega
    | succ t ih =>
      have step : ∀ m, 0 < m → m + 1 < n → 0 < turnG (P i) (P (i + m)) (P (i + (m + 1))) := by
        intro m hm hmn
        have h2 := h.side (i + m) (n - m) (by omega) (by omega)
        rw [show i + m + (n - m) = i + n from by omega, h.per] at h2
        rw [← turnG_cyc, show i + (m + 1) = i + m + 1 from by omega]
        exact h2
      by_cases hst2 : s = t
      · subst hst2
        exact step s hs ht
      · have h2 := ih (by omega) (by omega)
        have h3 := turnG_pluck (P i) (P (i + 1)) (P (i + s)) (P (i + t)) (P (i + (t + 1)))
        have a1 := h.side i t (by omega) (by omega)
        have a2 := h.side i s (by omega) (by omega)
        have a3 := step t (by omega) (by omega)
        have a4 := h.side i (t + 1) (by omega) ht
        have b1 := Int.mul_pos a2 a3
        have b2 := Int.mul_pos a4 h2
        refine Int.pos_of_mul_pos_right ?_ a1
        omega
/-- Twice the area: the triangles from the first corner. -/
def areaG (n : Nat) (P : Nat → Sp) : Int := sumG (fun i => turnG (P 0) (P (i + 1)) (P (i + 2))) (n - 2)
theorem fanG (P : Nat → Sp) (p : Sp) : ∀ m, sumG (fun i => turnG (P i) (P (i + 1)) p) (m + 1) + turnG (P (m + 1)) (P 0) p = sumG (fun i => turnG (P 0) (P (i + 1)) (P (i + 2))) m
  | 0 => by
    show 0 + turnG (P 0) (P 1) p + turnG (P 1) (P 0) p = 0
    rw [turnG_swap (P 0) (P 1)]
    omega
  | m + 1 => by
    have h1 := fanG P p m
    have h2 := turnG_four (P 0) (P (m + 1)) (P (m + 2)) p
    have h3 := turnG_swap (P 0) (P (m + 1)) p
    show sumG (fun i => turnG (P i) (P (i + 1)) p) (m + 1) + turnG (P (m + 1)) (P (m + 2)) p + turnG (P (m + 2)) (P 0) p = sumG (fun i => turnG (P 0) (P (i + 1)) (P (i + 2))) m + turnG (P 0) (P (m + 1)) (P (m + 2))
    omega
/-- The triangles of all sides with any point, together. -/
theorem areaG_from (hn : 2 ≤ n) (hp : ∀ k, P (k + n) = P k) (p : Sp) : sumG (fun i => turnG (P i) (P (i + 1)) p) n = areaG n P := by
  obtain ⟨m, rfl⟩ : ∃ m, n = m + 2 := ⟨n - 2, by omega⟩
  have h1 := fanG P p (m + 1)
  have h2 : P (m + 1 + 1) = P 0 := by have := hp 0; rwa [Nat.zero_add] at this
  rw [h2, turnG_aa] at h1
  have h3 : sumG (fun i => turnG (P 0) (P (i + 1)) (P (i + 2))) (m + 1) = areaG (m + 2) P + turnG (P 0) (P (m + 1)) (P (m + 2)) := rfl
  rw [show m + 2 = m + 1 + 1 from rfl, h2, turnG_ba] at h3
  rw [show m + 1 + 1 = m + 2 from rfl] at h1 h3
  omega
theorem areaG_rot (hn : 2 ≤ n) (hp : ∀ k, P (k + n) = P k) (r : Nat) : areaG n (fun i => P (i + r)) = areaG n P := by
  rw [← areaG_from hn hp (P 0), ← areaG_from hn (P := fun i => P (i + r)) (fun k => by show P (k + n + r) = P (k + r); rw [show k + n + r = k + r + n from by omega, hp]) (P 0)]
  have h := sumG_round (f := fun i => turnG (P i) (P (i + 1)) (P 0)) (n := n) (fun i => by show turnG (P (i + n)) (P (i + n + 1)) (P 0) = _; rw [hp, show i + n + 1 = i + 1 + n from by omega, hp]) r
  rw [← h]
  exact sumG_congr fun i _ => by show turnG (P (i + r)) (P (i + 1 + r)) (P 0) = turnG (P (i + r)) (P (i + r + 1)) (P 0); rw [show i + 1 + r = i + r + 1 from by omega]
theorem areaG_pos (h : Conv n P) : 0 < areaG n P := by
  have h3 := h.three
  have h0 : ∀ i, i < n - 2 → 0 < turnG (P 0) (P (i + 1)) (P (i + 2)) := fun i hi => by
    have := h.tri 0 (s := i + 1) (t := i + 2) (by omega) (by omega) (by omega)
    simpa using this
  have h1 := sumG_one (f := fun i => turnG (P 0) (P (i + 1)) (P (i + 2))) (n := n - 2) (k := 0) (fun i hi => Int.le_of_lt (h0 i hi)) (by omega)
  have h2 := h0 0 (by omega)
  unfold areaG
  have h4 : (fun i => turnG (P 0) (P (i + 1)) (P (i + 2))) 0 = turnG (P 0) (P (0 + 1)) (P (0 + 2)) := rfl
  omega
/-- The point lies on the left of all sides, or on them. -/
def HasG (n : Nat) (P : Nat → Sp) (p : Sp) : Prop := ∀ i, i < n → 0 ≤ turnG (P i) (P (i + 1)) p
/-- A point of the shape lies in a triangle from the first corner. -/
theorem HasG.tri (h : Conv n P) {p : Sp} (hp : HasG n P p) : ∃ i, i + 2 < n ∧ 0 ≤ turnG (P 0) (P (i + 1)) p ∧ turnG (P 0) (P (i + 2)) p ≤ 0 ∧ 0 ≤ turnG (P (i + 1)) (P (i + 2)) p := by
  have h3 := h.three
  have key : ∀ m, m + 2 < n → turnG (P 0) (P (m + 2)) p ≤ 0 → ∃ i, i + 2 < n ∧ 0 ≤ turnG (P 0) (P (i + 1)) p ∧ turnG (P 0) (P (i + 2)) p ≤ 0 := by
    intro m
    induction m with
    | zero => exact fun hm h2 => ⟨0, hm, by simpa using hp 0 (by omega), h2⟩
    | succ m ih =>
      intro hm h2
      by_cases h4 : 0 ≤ turnG (P 0) (P (m + 2)) p
      · exact ⟨m + 1, hm, h4, h2⟩
      · exact ih (by omega) (by omega)
  have hl : turnG (P 0) (P (n - 3 + 2)) p ≤ 0 := by
    have h4 := hp (n - 1) (by omega)
    have h5 := h.per 0
    rw [Nat.zero_add] at h5
    rw [show n - 1 + 1 = n from by omega, h5, turnG_swap] at h4
    rw [show n - 3 + 2 = n - 1 from by omega]
    omega
  obtain ⟨i, hi, h6, h7⟩ := key (n - 3) (by omega) hl
  exact ⟨i, hi, h6, h7, hp (i + 1) (by omega)⟩
theorem HasG.between (h : Conv n P) {p : Sp} (hp : HasG n P p) {lo hi : Int} (f : Sp → Int) (hf : ∀ a b c q : Sp, turnG a b c * f q = turnG b c q * f a + turnG c a q * f b + turnG a b q * f c) (hl : ∀ i, i < n → lo ≤ f (P i) ∧ f (P i) ≤ hi) : lo ≤ f p ∧ f p ≤ hi := by
  obtain ⟨i, hi2, a1, a2, a3⟩ := hp.tri h
  have hD := h.tri 0 (s := i + 1) (t := i + 2) (by omega) (by omega) hi2
  rw [Nat.zero_add, Nat.zero_add] at hD
  have hb := hf (P 0) (P (i + 1)) (P (i + 2)) p
  have h4 := turnG_four (P 0) (P (i + 1)) (P (i + 2)) p
  have a4 : 0 ≤ turnG (P (i + 2)) (P 0) p := by rw [turnG_swap]; omega
  obtain ⟨l0, u0⟩ := hl 0 (by omega)
  obtain ⟨l1, u1⟩ := hl (i + 1) (by omega)
  obtain ⟨l2, u2⟩ := hl (i + 2) (by omega)
  have m0 := Int.mul_le_mul_of_nonneg_left l0 a3
  have m1 := Int.mul_le_mul_of_nonneg_left l1 a4
  have m2 := Int.mul_le_mul_of_nonneg_left l2 a1
  have k0 := Int.mul_le_mul_of_nonneg_left u0 a3
  have k1 := Int.mul_le_mul_of_nonneg_left u1 a4
  have k2 := Int.mul_le_mul_of_nonneg_left u2 a1
  have hs : ∀ c : Int, turnG (P (i + 1)) (P (i + 2)) p * c + turnG (P (i + 2)) (P 0) p * c + turnG (P 0) (P (i + 1)) p * c = turnG (P 0) (P (i + 1)) (P (i + 2)) * c := fun c => by
    rw [← h4, Int.add_mul, Int.add_mul]
    omega
  constructor
  · refine Int.le_of_mul_le_mul_left ?_ hD
    have := hs lo
    omega
  · refine Int.le_of_mul_le_mul_left ?_ hD
    have := hs hi
    omega
end
section
variable {n : Nat} {P : Nat → Sp}
/-- The corner k is cut off. -/
theorem Conv.cut (h : Conv (n + 1) P) (hn : 3 ≤ n) {Q : Nat → Sp} {k : Nat} (hq : ∀ k, Q (k + n) = Q k) (hQ : ∀ j, j < n → Q (k + j) = P (k + 1 + j)) : Conv n Q ∧ areaG n Q < areaG (n + 1) P := by
  have hR : ∀ j, j < n → Q (j + k) = P (j + (k + 1)) := fun j hj => by rw [Nat.add_comm j k, hQ j hj, Nat.add_comm (k + 1) j]
  have hc := h.rot (k + 1)
  have hp : ∀ m, Q (m + n + k) = Q (m + k) := fun m => by rw [show m + n + k = m + k + n from by omega, hq]
  have nxt : ∀ j0 s, j0 < n → 1 ≤ s → s < n → ∃ s', s ≤ s' ∧ s' ≤ s + 1 ∧ Q (j0 + s + k) = P (j0 + s' + (k + 1)) ∧ (s' = s + 1 ↔ n ≤ j0 + s) := by
    intro j0 s hj hs1 hsn
    by_cases hw : j0 + s < n
    · exact ⟨s, by omega, by omega, hR _ hw, by omega⟩
    · refine ⟨s + 1, by omega, by omega, ?_, by omega⟩
      obtain ⟨m, hm⟩ : ∃ m, j0 + s = m + n := ⟨j0 + s - n, by omega⟩
      rw [hm, hp m, hR m (by omega), show j0 + (s + 1) + (k + 1) = m + (k + 1) + (n + 1) from by omega, h.per]
  have hcv : Conv n (fun j => Q (j + k)) := by
    refine ⟨hn, hp, fun i t h2 ht => ?_⟩
    obtain ⟨m, hm⟩ : ∃ m, m = i % n := ⟨_, rfl⟩
    have hmn : m < n := by rw [hm]; exact Nat.mod_lt _ (by omega)
    have per : ∀ c, Q (i + c + k) = Q (m + c + k) := by
      intro c
      have h5 : ∀ q x, Q (x + q * n) = Q x := by
        intro q
        induction q with
        | zero => intro x; rw [Nat.zero_mul, Nat.add_zero]
        | succ q ih => intro x; rw [Nat.succ_mul, ← Nat.add_assoc, hq, ih]
      have h6 := Nat.div_add_mod i n
      rw [Nat.mul_comm] at h6
      rw [show i + c + k = m + c + k + i / n * n from by rw [hm]; omega, h5]
    have e0 := per 0
    rw [Nat.add_zero, Nat.add_zero] at e0
    show 0 < turnG (Q (i + k)) (Q (i + 1 + k)) (Q (i + t + k))
    rw [e0, per 1, per t, hR m hmn]
    obtain ⟨s1, a1, a2, a3, a4⟩ := nxt m 1 hmn (by omega) (by omega)
    obtain ⟨t1, c1, c2, c3, c4⟩ := nxt m t hmn (by omega) ht
    rw [a3, c3]
    have hst : s1 < t1 := by
      rcases Nat.lt_or_ge s1 t1 with h7 | h7
      · exact h7
      · exfalso
        have e1 : s1 = 2 := by omega
        have e2 : n ≤ m + 1 := a4.1 (by omega)
        have e3 : t1 = t + 1 := c4.2 (by omega)
        omega
    have := hc.tri m (s := s1) (t := t1) (by omega) hst (by omega)
    exact this
  have hback : Conv n Q := by
    have h8 := hcv.rot (n * (k + 1) - k)
    have e : (fun i => (fun j => Q (j + k)) (i + (n * (k + 1) - k))) = Q := by
      funext i
      show Q (i + (n * (k + 1) - k) + k) = Q i
      have h9 : k ≤ n * (k + 1) := by
        have := Nat.mul_le_mul_right (k + 1) (show 1 ≤ n by omega)
        omega
      rw [show i + (n * (k + 1) - k) + k = i + n * (k + 1) from by omega]
      have h10 : ∀ q x, Q (x + n * q) = Q x := by
        intro q
        induction q with
        | zero => intro x; rw [Nat.mul_zero, Nat.add_zero]
        | succ q ih => intro x; rw [Nat.mul_succ, ← Nat.add_assoc, hq, ih]
      exact h10 _ _
    rw [e] at h8
    exact h8
  refine ⟨hback, ?_⟩
  rw [← areaG_rot (n := n) (by omega) hq k, ← areaG_rot (n := n + 1) (by omega) h.per (k + 1)]
  obtain ⟨m, rfl⟩ : ∃ m, n = m + 3 := ⟨n - 3, by omega⟩
  have h5 := hc.tri 0 (s := m + 2) (t := m + 3) (by omega) (by omega) (by omega)
  have e1 : areaG (m + 3) (fun i => Q (i + k)) = sumG (fun i => turnG (P (0 + (k + 1))) (P (i + 1 + (k + 1))) (P (i + 2 + (k + 1)))) (m + 1) := by
    refine sumG_congr fun i hi => ?_
    show turnG (Q (0 + k)) (Q (i + 1 + k)) (Q (i + 2 + k)) = _
    rw [hR 0 (by omega), hR (i + 1) (by omega), hR (i + 2) (by omega)]
  have e2 : areaG (m + 3 + 1) (fun i => P (i + (k + 1))) = sumG (fun i => turnG (P (0 + (k + 1))) (P (i + 1 + (k + 1))) (P (i + 2 + (k + 1)))) (m + 1) + turnG (P (0 + (k + 1))) (P (m + 1 + 1 + (k + 1))) (P (m + 1 + 2 + (k + 1))) := rfl
  rw [e1, e2]
  have h6 : 0 < turnG (P (0 + (k + 1))) (P (0 + (m + 2) + (k + 1))) (P (0 + (m + 3) + (k + 1))) := h5
  rw [Nat.zero_add (m + 2), Nat.zero_add (m + 3)] at h6
  rw [show m + 1 + 1 = m + 2 from rfl, show m + 1 + 2 = m + 3 from rfl]
  omega
/-- A point is in the shape if and only if the triangles over its sides have the area of the shape. -/
theorem has_area (h : Conv n P) (p : Sp) : HasG n P p ↔ sumG (fun i => max (turnG (P i) (P (i + 1)) p) (0 - turnG (P i) (P (i + 1)) p)) n = areaG n P := by
  have h3 := h.three
  have h1 := areaG_from (n := n) (P := P) (by omega) h.per p
  have h2 := sumG_add (fun i => turnG (P i) (P (i + 1)) p) (fun i => max (turnG (P i) (P (i + 1)) p) (0 - turnG (P i) (P (i + 1)) p) - turnG (P i) (P (i + 1)) p) n
  have e : sumG (fun i => turnG (P i) (P (i + 1)) p + (max (turnG (P i) (P (i + 1)) p) (0 - turnG (P i) (P (i + 1)) p) - turnG (P i) (P (i + 1)) p)) n = sumG (fun i => max (turnG (P i) (P (i + 1)) p) (0 - turnG (P i) (P (i + 1)) p)) n :=
    sumG_congr fun i _ => by omega
  rw [e] at h2
  have nn : ∀ i, 0 ≤ max (turnG (P i) (P (i + 1)) p) (0 - turnG (P i) (P (i + 1)) p) - turnG (P i) (P (i + 1)) p := fun i => by omega
  constructor
  · intro hh
    have h4 : sumG (fun i => max (turnG (P i) (P (i + 1)) p) (0 - turnG (P i) (P (i + 1)) p) - turnG (P i) (P (i + 1)) p) n = sumG (fun _ => 0) n := sumG_congr fun i hi => by have := hh i hi; omega
    rw [sumG_zero] at h4
    omega
  · intro hh i hi
    have h5 := sumG_one (f := fun i => max (turnG (P i) (P (i + 1)) p) (0 - turnG (P i) (P (i + 1)) p) - turnG (P i) (P (i + 1)) p) (n := n) (k := i) (fun j _ => nn j) hi
    have h6 : (fun i => max (turnG (P i) (P (i + 1)) p) (0 - turnG (P i) (P (i + 1)) p) - turnG (P i) (P (i + 1)) p) i = max (turnG (P i) (P (i + 1)) p) (0 - turnG (P i) (P (i + 1)) p) - turnG (P i) (P (i + 1)) p := rfl
    omega
end
end Go.Proofs.Ytfkfjkhikgnnaaa
