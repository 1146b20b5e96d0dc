/- What the laws of shapes lean on. Plain data. -/
import Derived.Test.YtfkfjkhikgnnaaaGe4
namespace Go.Proofs.Ytfkfjkhikgnnaaa

theorem pt_rot {L : List Sp} (hL : 0 < L.length) (i : Nat) : ptG (L.drop 1 ++ [ptG L 0]) i = ptG L (i + 1) := by
  have hl : (L.drop 1 ++ [ptG L 0]).length = L.length := by simp; omega
  have hi : i % L.length < L.length := Nat.mod_lt _ hL
  rw [← ptG_mod, hl, ← ptG_mod1 L i]
  refine ptG_at ?_
  by_cases hc : i % L.length + 1 < L.length
  · rw [List.getElem?_append_left (by simp; omega), List.getElem?_drop, Nat.add_comm, ptG_get hc]
  · have e : i % L.length + 1 = L.length := by omega
    rw [List.getElem?_append_right (by simp; omega), e]
    have h2 := ptG_per L 0
    rw [Nat.zero_add] at h2
    rw [h2, show i % L.length - (L.drop 1).length = 0 from by simp; omega]
    rfl
theorem rot_ok {L : List Sp} (h : okSh L = true) : okSh (L.drop 1 ++ [ptG L 0]) = true ∧ areaS (L.drop 1 ++ [ptG L 0]) = areaS L ∧ 0 < areaS L := by
  obtain ⟨hc, h8, hp⟩ := okSh_parts h
  have h3 := hc.three
  have hl : (L.drop 1 ++ [ptG L 0]).length = L.length := by simp; omega
  have e : ptG (L.drop 1 ++ [ptG L 0]) = fun i => ptG L (i + 1) := by funext i; exact pt_rot (by omega) i
  have hok : okSh (L.drop 1 ++ [ptG L 0]) = true := by
    refine okSh_mk (by rw [hl, e]; exact hc.rot 1) (by omega) fun p hp2 => ?_
    rcases List.mem_append.1 hp2 with q | q
    · exact hp p (List.mem_of_mem_drop q)
    · rw [List.mem_singleton.1 q]; exact inP_pt h 0
  refine ⟨hok, ?_, ?_⟩
  · unfold areaS
    rw [if_pos hok, if_pos h, hl, e, areaG_rot (by omega) hc.per 1]
  · unfold areaS
    rw [if_pos h]
    exact areaG_pos hc
theorem area_in_box {L : List Sp} (h : okSh L = true) : areaS L ≤ 2 * ((boxHi L).lo - (boxLo L).lo) * ((boxHi L).hi - (boxLo L).hi) := by
  have h1 := area_box (okSh_parts h).1 (box_box h)
  obtain ⟨s1, s2⟩ := box_size h
  unfold areaS
  rw [if_pos h, Int.mul_assoc]
  rw [show (boxHi L).lo - (boxLo L).lo = widthS L from by omega]
  rw [show (boxHi L).hi - (boxLo L).hi = (boxLo L).hi + heightS L - (boxLo L).hi from by omega]
  exact h1
theorem hasS_parts {L : List Sp} {p : Sp} (h : hasS L p = true) : okSh L = true ∧ inP p = true ∧ HasG L.length (ptG L) p := by
  simp only [hasS, Bool.and_eq_true] at h
  exact ⟨h.1, h.2.1, hasB_iff.1 h.2.2⟩
theorem hasS_mk {L : List Sp} {p : Sp} (h1 : okSh L = true) (h2 : inP p = true) (h3 : HasG L.length (ptG L) p) : hasS L p = true := by
  simp only [hasS, Bool.and_eq_true]
  exact ⟨h1, h2, hasB_iff.2 h3⟩
theorem has_corner {L : List Sp} (h : okSh L = true) (k : Nat) : hasS L (ptG L k) = true :=
  hasS_mk h (inP_pt h k) fun i _ => ((okSh_parts h).1.nonneg i k).1
theorem turn_mid (a b p q m : Sp) (h1 : 2 * m.lo = p.lo + q.lo) (h2 : 2 * m.hi = p.hi + q.hi) : 2 * turnG a b m = turnG a b p + turnG a b q := by
  unfold turnG
  rw [Int.mul_sub, Int.mul_left_comm, Int.mul_left_comm 2 (b.hi - a.hi), show 2 * (m.hi - a.hi) = (p.hi - a.hi) + (q.hi - a.hi) from by omega, show 2 * (m.lo - a.lo) = (p.lo - a.lo) + (q.lo - a.lo) from by omega, Int.mul_add, Int.mul_add]
  omega
theorem has_mid {L : List Sp} {p m : Sp} {k : Nat} (h : hasS L p = true) (h1 : 2 * m.lo = p.lo + (ptG L k).lo) (h2 : 2 * m.hi = p.hi + (ptG L k).hi) : hasS L m = true := by
  obtain ⟨a, b, c⟩ := hasS_parts h
  have hk := inP_iff.1 (inP_pt a k)
  have hb := inP_iff.1 b
  refine hasS_mk a (inP_iff.2 (by omega)) fun i hi => ?_
  have e := turn_mid (ptG L i) (ptG L (i + 1)) p (ptG L k) m h1 h2
  have := c i hi
  have := ((okSh_parts a).1.nonneg i k).1
  omega
theorem has_box {L : List Sp} {p : Sp} (h : hasS L p = true) : (boxLo L).lo ≤ p.lo ∧ p.lo ≤ (boxHi L).lo ∧ (boxLo L).hi ≤ p.hi ∧ p.hi ≤ (boxHi L).hi := by
  obtain ⟨a, _, c⟩ := hasS_parts h
  have h1 := c.between (okSh_parts a).1 (lo := (boxLo L).lo) (hi := (boxHi L).lo) (fun q => q.lo) turnG_bary_lo (fun i _ => ⟨(box_in a i).1, (box_in a i).2.1⟩)
  have h2 := c.between (okSh_parts a).1 (lo := (boxLo L).hi) (hi := (boxHi L).hi) (fun q => q.hi) turnG_bary_hi (fun i _ => ⟨(box_in a i).2.2.1, (box_in a i).2.2.2⟩)
  exact ⟨h1.1, h1.2, h2⟩
/-- The triangles over all sides. -/
def fanS (L : List Sp) (p : Sp) (i : Nat) : Int := max (turnG p (ptG L i) (ptG L (i + 1))) (0 - turnG p (ptG L i) (ptG L (i + 1)))
theorem has_sum {L : List Sp} {p : Sp} (h : okSh L = true) (hp : inP p = true) : hasS L p = decide (sumG (fanS L p) L.length = areaS L) := by
  have h1 := has_area (okSh_parts h).1 p
  have e : sumG (fanS L p) L.length = sumG (fun i => max (turnG (ptG L i) (ptG L (i + 1)) p) (0 - turnG (ptG L i) (ptG L (i + 1)) p)) L.length := sumG_congr fun i _ => by unfold fanS; rw [← turnG_cyc p]
  unfold areaS
  rw [if_pos h, e]
  rw [Bool.eq_iff_iff, decide_eq_true_eq, ← h1]
  exact ⟨fun q => (hasS_parts q).2.2, fun q => hasS_mk h hp q⟩
theorem has_moved {L : List Sp} {x y : Int} (h : moveOk L x y = true) (k : Nat) : hasS (moveL L x y) ⟨(ptG L k).lo + x, (ptG L k).hi + y⟩ = true := by
  obtain ⟨h1, _, _, h4⟩ := moveOk_parts h
  have h3 := (okSh_parts h1).1.three
  have := has_corner h4 k
  rwa [moveL_pt (by omega)] at this
theorem pick_count {L : List Sp} (h : okSh L = true) : 2 * countS L = areaS L + sumG (sideG (ptG L)) L.length + 2 := by
  have h1 := pickG (okSh_parts h).1 (box_box h)
  unfold countS areaS
  rw [if_pos h, if_pos h]
  exact h1
theorem countS_le {L : List Sp} (h : okSh L = true) : 0 ≤ countS L ∧ countS L ≤ 10000 := by
  obtain ⟨s1, s2⟩ := box_size h
  have hr := box_range h
  unfold countS countG
  rw [if_pos h]
  have h1 : ∀ c, 0 ≤ sumG (fun d => if hasB L.length (ptG L) ⟨(boxLo L).lo + (c : Int), (boxLo L).hi + (d : Int)⟩ = true then 1 else 0) (heightS L + 1) ∧ sumG (fun d => if hasB L.length (ptG L) ⟨(boxLo L).lo + (c : Int), (boxLo L).hi + (d : Int)⟩ = true then 1 else 0) (heightS L + 1) ≤ 100 := by
    intro c
    refine ⟨sumG_nonneg fun d _ => by split <;> omega, ?_⟩
    have h2 := sumG_le (f := fun d => if hasB L.length (ptG L) ⟨(boxLo L).lo + (c : Int), (boxLo L).hi + ((d : Nat) : Int)⟩ = true then 1 else 0) (g := fun _ => 1) (n := heightS L + 1) fun d _ => by
      show (if _ then (1 : Int) else 0) ≤ 1
      split <;> omega
    rw [sumG_const] at h2
    omega
  refine ⟨sumG_nonneg fun c _ => (h1 c).1, ?_⟩
  have h2 := sumG_le (f := fun c => sumG (fun d => if hasB L.length (ptG L) ⟨(boxLo L).lo + (c : Int), (boxLo L).hi + (d : Int)⟩ = true then 1 else 0) (heightS L + 1)) (g := fun _ => 100) (n := widthS L + 1) fun c _ => (h1 c).2
  rw [sumG_const] at h2
  omega
theorem turn_small {a b c : Sp} (ha : inP a = true) (hb : inP b = true) (hc : inP c = true) : -40000 ≤ turnG a b c ∧ turnG a b c ≤ 40000 := by
  have h1 := inP_iff.1 ha
  have h2 := inP_iff.1 hb
  have h3 := inP_iff.1 hc
  have bd : ∀ u v : Int, -99 ≤ u → u ≤ 99 → -99 ≤ v → v ≤ 99 → -9801 ≤ u * v ∧ u * v ≤ 9801 := by
    intro u v u1 u2 v1 v2
    have k1 := Int.mul_nonneg (show 0 ≤ 99 - u by omega) (show 0 ≤ 99 + v by omega)
    have k2 := Int.mul_nonneg (show 0 ≤ 99 + u by omega) (show 0 ≤ 99 - v by omega)
    have k3 := Int.mul_nonneg (show 0 ≤ 99 - u by omega) (show 0 ≤ 99 - v by omega)
    have k4 := Int.mul_nonneg (show 0 ≤ 99 + u by omega) (show 0 ≤ 99 + v by omega)
    rw [Int.sub_mul, Int.mul_add, Int.mul_add] at k1
    rw [Int.add_mul, Int.mul_sub, Int.mul_sub] at k2
    rw [Int.sub_mul, Int.mul_sub, Int.mul_sub] at k3
    rw [Int.add_mul, Int.mul_add, Int.mul_add] at k4
    omega
  have b1 := bd (b.lo - a.lo) (c.hi - a.hi) (by omega) (by omega) (by omega) (by omega)
  have b2 := bd (b.hi - a.hi) (c.lo - a.lo) (by omega) (by omega) (by omega) (by omega)
  unfold turnG
  omega
theorem area_small {L : List Sp} (h : okSh L = true) : 0 ≤ areaS L ∧ areaS L ≤ 400000 := by
  obtain ⟨hc, h8, _⟩ := okSh_parts h
  have h3 := hc.three
  have h1 := areaG_pos hc
  have h2 := sumG_le (f := fun i => turnG (ptG L 0) (ptG L (i + 1)) (ptG L (i + 2))) (g := fun _ => 40000) (n := L.length - 2) fun i _ => (turn_small (inP_pt h 0) (inP_pt h (i + 1)) (inP_pt h (i + 2))).2
  rw [sumG_const] at h2
  unfold areaS
  rw [if_pos h]
  have e : areaG L.length (ptG L) = sumG (fun i => turnG (ptG L 0) (ptG L (i + 1)) (ptG L (i + 2))) (L.length - 2) := rfl
  omega
theorem back_bad {L : List Sp} (h : okSh L = true) : okSh L.reverse = false := by
  cases hb : okSh L.reverse
  · rfl
  · exfalso
    obtain ⟨hc, _, _⟩ := okSh_parts h
    have h3 := hc.three
    have hr := (okSh_parts hb).1.tri 0 (s := 1) (t := 2) (by omega) (by omega) (by rw [List.length_reverse]; omega)
    have e : ∀ j, j < L.length → ptG L.reverse (0 + j) = ptG L (L.length - 1 - j) := fun j hj => by
      refine ptG_at ?_
      rw [Nat.zero_add, List.getElem?_reverse hj, ptG_get (by omega)]
    have e0 := e 0 (by omega)
    rw [Nat.zero_add] at e0
    rw [e0, e 1 (by omega), e 2 (by omega)] at hr
    have hf := hc.tri (L.length - 3) (s := 1) (t := 2) (by omega) (by omega) (by omega)
    rw [show L.length - 3 + 1 = L.length - 1 - 1 from by omega, show L.length - 3 + 2 = L.length - 1 - 0 from by omega, show L.length - 3 = L.length - 1 - 2 from by omega] at hf
    rw [← turnG_cyc, turnG_swap (ptG L (L.length - 1 - 2))  (ptG L (L.length - 1 - 1))] at hr
    omega
theorem cut_ok {L : List Sp} (h : okSh L = true) {k : Nat} (hk : k < L.length) (h4 : L.length ≠ 3) : okSh (L.take k ++ L.drop (k + 1)) = true ∧ areaS (L.take k ++ L.drop (k + 1)) < areaS L := by
  obtain ⟨hc, h8, hp⟩ := okSh_parts h
  have h3 := hc.three
  obtain ⟨n, hn⟩ : ∃ n, L.length = n + 1 := ⟨L.length - 1, by omega⟩
  have hl : (L.take k ++ L.drop (k + 1)).length = n := by rw [List.length_append, List.length_take, List.length_drop]; omega
  obtain ⟨x, hx⟩ : ∃ x, x = L.take k ++ L.drop (k + 1) := ⟨_, rfl⟩
  have at_ : ∀ j, j < n → ptG x j = ptG L (if j < k then j else j + 1) := by
    intro j hj
    refine ptG_at ?_
    rw [hx]
    by_cases hjk : j < k
    · rw [if_pos hjk, List.getElem?_append_left (by rw [List.length_take]; omega), List.getElem?_take, if_pos hjk, ptG_get (by omega)]
    · rw [if_neg hjk, List.getElem?_append_right (by rw [List.length_take]; omega), List.length_take, List.getElem?_drop, ← ptG_get (by omega)]
      congr 1
      omega
  rw [← hx] at hl
  have hQ : ∀ j, j < n → ptG x (k + j) = ptG L (k + 1 + j) := by
    intro j hj
    by_cases hw : k + j < n
    · rw [at_ _ hw, if_neg (by omega)]
      congr 1
      omega
    · have e1 := ptG_per x (k + j - n)
      rw [hl, show k + j - n + n = k + j from by omega] at e1
      have e2 := ptG_per L (k + j - n)
      rw [hn, show k + j - n + (n + 1) = k + 1 + j from by omega] at e2
      rw [e1, e2, at_ _ (by omega), if_pos (by omega)]
  rw [hn] at hc
  have hq : ∀ m, ptG x (m + n) = ptG x m := fun m => by have := ptG_per x m; rwa [hl] at this
  obtain ⟨c1, c2⟩ := hc.cut (by omega) hq hQ
  have hok : okSh x = true := by
    refine okSh_mk (by rw [hl]; exact c1) (by omega) fun p hpx => ?_
    rw [hx] at hpx
    rcases List.mem_append.1 hpx with q | q
    · exact hp p (List.mem_of_mem_take q)
    · exact hp p (List.mem_of_mem_drop q)
  rw [← hx]
  refine ⟨hok, ?_⟩
  unfold areaS
  rw [if_pos hok, if_pos h, hl, hn]
  exact c2
end Go.Proofs.Ytfkfjkhikgnnaaa
