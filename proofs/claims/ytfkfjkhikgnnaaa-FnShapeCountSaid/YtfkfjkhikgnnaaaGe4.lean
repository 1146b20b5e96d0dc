/- Shapes as lists of points: valid ones, their box, moved ones. Plain data. -/
import Derived.Test.YtfkfjkhikgnnaaaGe3
namespace Go.Proofs.Ytfkfjkhikgnnaaa

def inP (p : Sp) : Bool := inR p.lo 0 99 && inR p.hi 0 99
theorem inP_iff {p : Sp} : inP p = true ↔ (0 ≤ p.lo ∧ p.lo ≤ 99) ∧ 0 ≤ p.hi ∧ p.hi ≤ 99 := by
  unfold inP inR
  simp only [Bool.and_eq_true, decide_eq_true_eq]
def sideT (L : List Sp) (i k : Nat) : Bool := decide (k = i) || (decide (k = (i + 1) % L.length) || decide (0 < turnG (ptG L i) (ptG L (i + 1)) (ptG L k)))
def okSh (L : List Sp) : Bool := inR L.length 3 8 && (L.all inP && (List.range L.length).all fun i => (List.range L.length).all (sideT L i))
theorem mod_two {a t n : Nat} (ha : a < n) (ht : t < n) : (a + t) % n = if a + t < n then a + t else a + t - n := by
  split
  · rename_i h; exact Nat.mod_eq_of_lt h
  · rw [Nat.mod_eq_sub_mod (by omega), Nat.mod_eq_of_lt (by omega)]
theorem okSh_parts {L : List Sp} (h : okSh L = true) : Conv L.length (ptG L) ∧ L.length ≤ 8 ∧ ∀ p ∈ L, inP p = true := by
  simp only [okSh, inR, Bool.and_eq_true, decide_eq_true_eq, List.all_eq_true, List.mem_range] at h
  obtain ⟨⟨h3, h8⟩, hp, hs⟩ := h
  have n3 : 3 ≤ L.length := by omega
  refine ⟨⟨n3, ptG_per L, fun i t h2 ht => ?_⟩, by omega, hp⟩
  have hi : i % L.length < L.length := Nat.mod_lt _ (by omega)
  have hk : (i + t) % L.length < L.length := Nat.mod_lt _ (by omega)
  have h := hs _ hi _ hk
  have m1 := mod_two hi (show 1 < L.length by omega)
  have mt := mod_two hi ht
  have d1 : (i + t) % L.length ≠ i % L.length := by
    rw [← Nat.mod_add_mod, mt]
    split <;> omega
  have d2 : (i + t) % L.length ≠ (i % L.length + 1) % L.length := by
    rw [← Nat.mod_add_mod, mt, m1]
    split <;> split <;> omega
  simp only [sideT, Bool.or_eq_true, decide_eq_true_eq] at h
  rcases h with h | h | h
  · exact absurd h d1
  · exact absurd h d2
  · rw [ptG_mod, ptG_mod1, ptG_mod] at h
    exact h
theorem okSh_mk {L : List Sp} (h : Conv L.length (ptG L)) (h8 : L.length ≤ 8) (hp : ∀ p ∈ L, inP p = true) : okSh L = true := by
  simp only [okSh, inR, Bool.and_eq_true, decide_eq_true_eq, List.all_eq_true, List.mem_range]
  have h3 := h.three
  refine ⟨⟨by omega, by omega⟩, hp, fun i hi k hk => ?_⟩
  simp only [sideT, Bool.or_eq_true, decide_eq_true_eq]
  by_cases h1 : k = i
  · exact .inl h1
  · by_cases h2 : k = (i + 1) % L.length
    · exact .inr (.inl h2)
    · refine .inr (.inr ((h.nonneg i k).2 ?_ ?_))
      · rw [Nat.mod_eq_of_lt hk, Nat.mod_eq_of_lt hi]; exact h1
      · rw [Nat.mod_eq_of_lt hk]; exact h2
theorem inP_pt {L : List Sp} (h : okSh L = true) (i : Nat) : inP (ptG L i) = true := by
  obtain ⟨hc, _, hp⟩ := okSh_parts h
  have h3 := hc.three
  rw [← ptG_mod]
  exact hp _ (List.mem_of_getElem? (ptG_get (Nat.mod_lt i (by omega))))
/-- Twice the area, or -1. -/
def areaS (L : List Sp) : Int := if okSh L = true then areaG L.length (ptG L) else -1
def hasS (L : List Sp) (p : Sp) : Bool := okSh L && (inP p && hasB L.length (ptG L) p)
def mnG (f : Nat → Int) : Nat → Int
  | 0 => f 0
  | k + 1 => min (mnG f k) (f k)
def mxG (f : Nat → Int) : Nat → Int
  | 0 => f 0
  | k + 1 => max (mxG f k) (f k)
theorem mnG_le {f : Nat → Int} : ∀ {n k : Nat}, k < n → mnG f n ≤ f k
  | 0, _, h => by omega
  | n + 1, k, h => by
    show min (mnG f n) (f n) ≤ f k
    by_cases e : k = n
    · subst e; omega
    · have := mnG_le (f := f) (n := n) (k := k) (by omega)
      omega
theorem mxG_le {f : Nat → Int} : ∀ {n k : Nat}, k < n → f k ≤ mxG f n
  | 0, _, h => by omega
  | n + 1, k, h => by
    show f k ≤ max (mxG f n) (f n)
    by_cases e : k = n
    · subst e; omega
    · have := mxG_le (f := f) (n := n) (k := k) (by omega)
      omega
theorem mnG_at (f : Nat → Int) : ∀ n, ∃ k, k < n + 1 ∧ mnG f n = f k
  | 0 => ⟨0, by omega, rfl⟩
  | n + 1 => by
    obtain ⟨k, h1, h2⟩ := mnG_at f n
    by_cases e : mnG f n ≤ f n
    · exact ⟨k, by omega, by show min (mnG f n) (f n) = f k; omega⟩
    · exact ⟨n, by omega, by show min (mnG f n) (f n) = f n; omega⟩
theorem mxG_at (f : Nat → Int) : ∀ n, ∃ k, k < n + 1 ∧ mxG f n = f k
  | 0 => ⟨0, by omega, rfl⟩
  | n + 1 => by
    obtain ⟨k, h1, h2⟩ := mxG_at f n
    by_cases e : f n ≤ mxG f n
    · exact ⟨k, by omega, by show max (mxG f n) (f n) = f k; omega⟩
    · exact ⟨n, by omega, by show max (mxG f n) (f n) = f n; omega⟩
def boxLo (L : List Sp) : Sp := ⟨mnG (fun i => (ptG L i).lo) L.length, mnG (fun i => (ptG L i).hi) L.length⟩
def boxHi (L : List Sp) : Sp := ⟨mxG (fun i => (ptG L i).lo) L.length, mxG (fun i => (ptG L i).hi) L.length⟩
def boxA (L : List Sp) : Sp := if okSh L = true then boxLo L else ⟨0, 0⟩
def boxB (L : List Sp) : Sp := if okSh L = true then boxHi L else ⟨0, 0⟩
theorem box_in {L : List Sp} (h : okSh L = true) (i : Nat) : (boxLo L).lo ≤ (ptG L i).lo ∧ (ptG L i).lo ≤ (boxHi L).lo ∧ (boxLo L).hi ≤ (ptG L i).hi ∧ (ptG L i).hi ≤ (boxHi L).hi := by
  have h3 := (okSh_parts h).1.three
  have hi : i % L.length < L.length := Nat.mod_lt _ (by omega)
  rw [← ptG_mod]
  exact ⟨mnG_le (f := fun i => (ptG L i).lo) hi, mxG_le (f := fun i => (ptG L i).lo) hi, mnG_le (f := fun i => (ptG L i).hi) hi, mxG_le (f := fun i => (ptG L i).hi) hi⟩
theorem pt_far {L : List Sp} (h : okSh L = true) {k : Nat} (_ : k < L.length + 1) : ∃ i, i < L.length ∧ ptG L i = ptG L k := by
  have h3 := (okSh_parts h).1.three
  exact ⟨k % L.length, Nat.mod_lt _ (by omega), ptG_mod L k⟩
theorem box_at {L : List Sp} (h : okSh L = true) : (∃ i, i < L.length ∧ (ptG L i).lo = (boxLo L).lo) ∧ (∃ i, i < L.length ∧ (ptG L i).lo = (boxHi L).lo) ∧ (∃ i, i < L.length ∧ (ptG L i).hi = (boxLo L).hi) ∧ ∃ i, i < L.length ∧ (ptG L i).hi = (boxHi L).hi := by
  obtain ⟨a, a1, a2⟩ := mnG_at (fun i => (ptG L i).lo) L.length
  obtain ⟨b, b1, b2⟩ := mxG_at (fun i => (ptG L i).lo) L.length
  obtain ⟨c, c1, c2⟩ := mnG_at (fun i => (ptG L i).hi) L.length
  obtain ⟨d, d1, d2⟩ := mxG_at (fun i => (ptG L i).hi) L.length
  obtain ⟨a', a3, a4⟩ := pt_far h a1
  obtain ⟨b', b3, b4⟩ := pt_far h b1
  obtain ⟨c', c3, c4⟩ := pt_far h c1
  obtain ⟨d', d3, d4⟩ := pt_far h d1
  exact ⟨⟨a', a3, by rw [a4]; exact a2.symm⟩, ⟨b', b3, by rw [b4]; exact b2.symm⟩, ⟨c', c3, by rw [c4]; exact c2.symm⟩, ⟨d', d3, by rw [d4]; exact d2.symm⟩⟩
def widthS (L : List Sp) : Nat := ((boxHi L).lo - (boxLo L).lo).toNat
def heightS (L : List Sp) : Nat := ((boxHi L).hi - (boxLo L).hi).toNat
theorem box_size {L : List Sp} (h : okSh L = true) : (boxHi L).lo = (boxLo L).lo + widthS L ∧ (boxHi L).hi = (boxLo L).hi + heightS L := by
  obtain ⟨h1, h2, h3, h4⟩ := box_in h 0
  unfold widthS heightS
  omega
theorem box_range {L : List Sp} (h : okSh L = true) : 0 ≤ (boxLo L).lo ∧ (boxHi L).lo ≤ 99 ∧ 0 ≤ (boxLo L).hi ∧ (boxHi L).hi ≤ 99 := by
  obtain ⟨⟨a, _, a2⟩, ⟨b, _, b2⟩, ⟨c, _, c2⟩, d, _, d2⟩ := box_at h
  have ha := inP_iff.1 (inP_pt h a)
  have hb := inP_iff.1 (inP_pt h b)
  have hc := inP_iff.1 (inP_pt h c)
  have hd := inP_iff.1 (inP_pt h d)
  omega
theorem box_box {L : List Sp} (h : okSh L = true) : BoxG L.length (ptG L) (boxLo L).lo ((boxLo L).lo + widthS L) (boxLo L).hi ((boxLo L).hi + heightS L) := by
  obtain ⟨s1, s2⟩ := box_size h
  obtain ⟨⟨a, _, a2⟩, ⟨b, _, b2⟩, _⟩ := box_at h
  rw [← s1, ← s2]
  exact ⟨box_in h, ⟨a, a2⟩, ⟨b, b2⟩⟩
def countS (L : List Sp) : Int := if okSh L = true then countG L.length (ptG L) (boxLo L).lo (boxLo L).hi (widthS L) (heightS L) else -1
/-- A shape that is moved. -/
def moveL (L : List Sp) (x y : Int) : List Sp := L.map fun p => ⟨p.lo + x, p.hi + y⟩
def moveOk (L : List Sp) (x y : Int) : Bool := okSh L && (inR x (-99) 99 && (inR y (-99) 99 && okSh (moveL L x y)))
def moveG (L : List Sp) (x y : Int) : List Sp := if moveOk L x y = true then moveL L x y else []
theorem moveL_len (L : List Sp) (x y : Int) : (moveL L x y).length = L.length := by simp [moveL]
theorem moveL_pt {L : List Sp} (hL : 0 < L.length) (x y : Int) (i : Nat) : ptG (moveL L x y) i = ⟨(ptG L i).lo + x, (ptG L i).hi + y⟩ := by
  have hi : i % L.length < L.length := Nat.mod_lt _ hL
  rw [← ptG_mod, moveL_len]
  refine ptG_at ?_
  rw [moveL, List.getElem?_map, ptG_get hi, Option.map_some, ptG_mod]
theorem turn_move (a b c : Sp) (x y : Int) : turnG ⟨a.lo + x, a.hi + y⟩ ⟨b.lo + x, b.hi + y⟩ ⟨c.lo + x, c.hi + y⟩ = turnG a b c := by
  unfold turnG
  simp only
  rw [show b.lo + x - (a.lo + x) = b.lo - a.lo from by omega, show c.hi + y - (a.hi + y) = c.hi - a.hi from by omega, show b.hi + y - (a.hi + y) = b.hi - a.hi from by omega, show c.lo + x - (a.lo + x) = c.lo - a.lo from by omega]
theorem moveOk_parts {L : List Sp} {x y : Int} (h : moveOk L x y = true) : okSh L = true ∧ (-99 ≤ x ∧ x ≤ 99) ∧ (-99 ≤ y ∧ y ≤ 99) ∧ okSh (moveL L x y) = true := by
  simp only [moveOk, inR, Bool.and_eq_true, decide_eq_true_eq] at h
  exact h
theorem moveL_back (L : List Sp) (x y : Int) : moveL (moveL L x y) (0 - x) (0 - y) = L := by
  unfold moveL
  rw [List.map_map]
  refine List.map_id'' (fun p => ?_) L
  exact Sp.ext_ (by show p.lo + x + (0 - x) = p.lo; omega) (by show p.hi + y + (0 - y) = p.hi; omega)
theorem moveOk_back {L : List Sp} {x y : Int} (h : moveOk L x y = true) : moveOk (moveL L x y) (0 - x) (0 - y) = true := by
  obtain ⟨h1, h2, h3, h4⟩ := moveOk_parts h
  simp only [moveOk, inR, Bool.and_eq_true, decide_eq_true_eq, moveL_back]
  exact ⟨h4, ⟨by omega, by omega⟩, ⟨by omega, by omega⟩, h1⟩
theorem mn_move (f : Nat → Int) (c : Int) : ∀ n, mnG (fun i => f i + c) n = mnG f n + c
  | 0 => rfl
  | n + 1 => by
    have := mn_move f c n
    show min (mnG (fun i => f i + c) n) (f n + c) = min (mnG f n) (f n) + c
    omega
theorem mx_move (f : Nat → Int) (c : Int) : ∀ n, mxG (fun i => f i + c) n = mxG f n + c
  | 0 => rfl
  | n + 1 => by
    have := mx_move f c n
    show max (mxG (fun i => f i + c) n) (f n + c) = max (mxG f n) (f n) + c
    omega
section
variable {L : List Sp} {x y : Int} (h : moveOk L x y = true)
include h
theorem move_area : areaS (moveL L x y) = areaS L := by
  obtain ⟨h1, _, _, h4⟩ := moveOk_parts h
  have h3 := (okSh_parts h1).1.three
  unfold areaS
  rw [if_pos h1, if_pos h4, moveL_len]
  unfold areaG
  refine sumG_congr fun i _ => ?_
  rw [moveL_pt (by omega), moveL_pt (by omega), moveL_pt (by omega), turn_move]
theorem box_move : boxLo (moveL L x y) = ⟨(boxLo L).lo + x, (boxLo L).hi + y⟩ ∧ boxHi (moveL L x y) = ⟨(boxHi L).lo + x, (boxHi L).hi + y⟩ := by
  have h3 := (okSh_parts (moveOk_parts h).1).1.three
  have e1 : (fun i => (ptG (moveL L x y) i).lo) = fun i => (ptG L i).lo + x := by funext i; rw [moveL_pt (by omega)]
  have e2 : (fun i => (ptG (moveL L x y) i).hi) = fun i => (ptG L i).hi + y := by funext i; rw [moveL_pt (by omega)]
  unfold boxLo boxHi
  rw [moveL_len, e1, e2]
  exact ⟨Sp.ext_ (mn_move _ _ _) (mn_move _ _ _), Sp.ext_ (mx_move _ _ _) (mx_move _ _ _)⟩
theorem has_move (p : Sp) : hasB L.length (ptG (moveL L x y)) ⟨p.lo + x, p.hi + y⟩ = hasB L.length (ptG L) p := by
  have h3 := (okSh_parts (moveOk_parts h).1).1.three
  unfold hasB
  congr 1
  funext i
  rw [moveL_pt (by omega), moveL_pt (by omega), turn_move]
theorem move_count : countS (moveL L x y) = countS L := by
  obtain ⟨h1, _, _, h4⟩ := moveOk_parts h
  obtain ⟨b1, b2⟩ := box_move h
  have w1 : widthS (moveL L x y) = widthS L := by unfold widthS; rw [b1, b2]; simp only; omega
  have w2 : heightS (moveL L x y) = heightS L := by unfold heightS; rw [b1, b2]; simp only; omega
  unfold countS countG
  rw [if_pos h1, if_pos h4, w1, w2, b1, moveL_len]
  refine sumG_congr fun c _ => sumG_congr fun d _ => ?_
  have := has_move h ⟨(boxLo L).lo + (c : Int), (boxLo L).hi + (d : Int)⟩
  simp only at this ⊢
  rw [show (boxLo L).lo + x + (c : Int) = (boxLo L).lo + (c : Int) + x from by omega, show (boxLo L).hi + y + (d : Int) = (boxLo L).hi + (d : Int) + y from by omega, this]
end
end Go.Proofs.Ytfkfjkhikgnnaaa
