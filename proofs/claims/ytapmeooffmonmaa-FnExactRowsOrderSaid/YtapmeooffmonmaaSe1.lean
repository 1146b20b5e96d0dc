/- Rows of types: serial rows, rows in an order, the search of the first order, how alike rows are. Plain data. -/
import Derived.Test.YtapmeooffmonmaaTb
namespace Go.Proofs.Ytapmeooffmonmaa

def bitS (rows : List (List Bool)) (i k : Nat) : Bool := (rows.getD i []).getD k false
def okS (rows : List (List Bool)) : Bool := (rows.all fun r => decide (r.length = 5)) && (decide (1 ≤ rows.length) && decide (rows.length ≤ 5))
/-- How many runs there are among the first n. -/
def runsS (f : Nat → Bool) : Nat → Nat
  | 0 => 0
  | n + 1 => runsS f n + if (f n && (decide (n = 0) || !f (n - 1))) = true then 1 else 0
def serT (rows : List (List Bool)) (k : Nat) : Bool := decide (runsS (fun i => bitS rows i k) rows.length ≤ 1)
def serS (rows : List (List Bool)) : Bool := (List.range 5).all (serT rows)
def serOk (rows : List (List Bool)) : Bool := okS rows && serS rows
theorem okS_parts {rows : List (List Bool)} (h : okS rows = true) : (∀ r ∈ rows, r.length = 5) ∧ 1 ≤ rows.length ∧ rows.length ≤ 5 := by
  simpa only [okS, Bool.and_eq_true, decide_eq_true_eq, List.all_eq_true] using h
theorem okS_mk {rows : List (List Bool)} (h1 : ∀ r ∈ rows, r.length = 5) (h2 : 1 ≤ rows.length) (h3 : rows.length ≤ 5) : okS rows = true := by
  simp only [okS, Bool.and_eq_true, decide_eq_true_eq, List.all_eq_true]
  exact ⟨h1, h2, h3⟩
theorem bitS_at {rows : List (List Bool)} {i k : Nat} {r : List Bool} {b : Bool} (hr : rows[i]? = some r) (hb : r[k]? = some b) : bitS rows i k = b := by
  unfold bitS
  simp [hr, hb]
section
variable {f g : Nat → Bool}
theorem runsS_congr : ∀ {n : Nat}, (∀ i, i < n → f i = g i) → runsS f n = runsS g n
  | 0, _ => rfl
  | n + 1, h => by
    show runsS f n + _ = runsS g n + _
    rw [runsS_congr (n := n) fun i hi => h i (by omega), h n (by omega)]
    by_cases h0 : n = 0
    · simp [h0]
    · rw [h (n - 1) (by omega)]
theorem runsS_zero : ∀ {n : Nat}, runsS f n = 0 ↔ ∀ i, i < n → f i = false
  | 0 => ⟨fun _ i hi => absurd hi (by omega), fun _ => rfl⟩
  | n + 1 => by
    have ih := runsS_zero (n := n)
    have e : runsS f (n + 1) = runsS f n + if (f n && (decide (n = 0) || !f (n - 1))) = true then 1 else 0 := rfl
    rw [e]
    constructor
    · intro h i hi
      have h0 : runsS f n = 0 := by omega
      have h1 := ih.1 h0
      by_cases hin : i < n
      · exact h1 i hin
      · obtain rfl : i = n := by omega
        cases hf : f i
        · rfl
        · exfalso
          have h2 : (f i && (decide (i = 0) || !f (i - 1))) = true := by
            rw [hf, Bool.true_and]
            by_cases h0 : i = 0
            · simp [h0]
            · rw [h1 (i - 1) (by omega)]; simp
          rw [if_pos h2] at h
          omega
    · intro h
      have h1 := ih.2 fun i hi => h i (by omega)
      rw [h1, h n (by omega)]
      simp
/-- At most one run: what lies between two is one, too. -/
theorem runsS_one : ∀ {n : Nat}, runsS f n ≤ 1 ↔ ∀ j m i, j < m → m < i → i < n → f j = true → f i = true → f m = true
  | 0 => ⟨fun _ j m i _ _ h => absurd h (by omega), fun _ => by show 0 ≤ 1; omega⟩
  | n + 1 => by
    have ih := runsS_one (n := n)
    have e : runsS f (n + 1) = runsS f n + if (f n && (decide (n = 0) || !f (n - 1))) = true then 1 else 0 := rfl
    rw [e]
    constructor
    · intro h j m i hjm hmi hi hj hfi
      have h1 := ih.1 (by omega)
      by_cases hin : i < n
      · exact h1 j m i hjm hmi hin hj hfi
      · obtain rfl : i = n := by omega
        by_cases hp : f (i - 1) = true
        · by_cases hm : m = i - 1
          · rw [hm]; exact hp
          · exact h1 j m (i - 1) hjm (by omega) (by omega) hj hp
        · have h2 : (f i && (decide (i = 0) || !f (i - 1))) = true := by
            rw [hfi]; simp at hp; simp [hp]
          rw [if_pos h2] at h
          have h3 := (runsS_zero (f := f) (n := i)).1 (by omega) j (by omega)
          rw [h3] at hj
          cases hj
    · intro h
      have h1 := ih.2 fun j m i a b c => h j m i a b (by omega)
      split
      · rename_i hc
        have h0 : runsS f n = 0 := by
          rw [runsS_zero]
          intro i hi
          cases hfi : f i
          · rfl
          · exfalso
            simp only [Bool.and_eq_true, Bool.or_eq_true, decide_eq_true_eq, Bool.not_eq_true'] at hc
            have h2 : f (n - 1) = false := by
              rcases hc.2 with h3 | h3
              · omega
              · exact h3
            by_cases hin : i = n - 1
            · rw [hin] at hfi; rw [h2] at hfi; cases hfi
            · have h4 := h i (n - 1) n (by omega) (by omega) (by omega) hfi hc.1
              rw [h2] at h4
              cases h4
        omega
      · omega
end
theorem serT_iff {rows : List (List Bool)} {k : Nat} : serT rows k = true ↔ ∀ j m i, j < m → m < i → i < rows.length → bitS rows j k = true → bitS rows i k = true → bitS rows m k = true := by
  unfold serT
  rw [decide_eq_true_eq]
  exact runsS_one
theorem serS_iff {rows : List (List Bool)} : serS rows = true ↔ ∀ k, k < 5 → ∀ j m i, j < m → m < i → i < rows.length → bitS rows j k = true → bitS rows i k = true → bitS rows m k = true := by
  unfold serS
  rw [List.all_eq_true]
  constructor
  · intro h k hk
    exact serT_iff.1 (h k (List.mem_range.2 hk))
  · intro h k hk
    exact serT_iff.2 (h k (List.mem_range.1 hk))
theorem bitS_back {rows : List (List Bool)} {i k : Nat} (hi : i < rows.length) : bitS rows.reverse i k = bitS rows (rows.length - 1 - i) k := by
  unfold bitS
  congr 1
  rw [List.getD_eq_getElem?_getD, List.getD_eq_getElem?_getD, List.getElem?_reverse hi]
/-- Rows have no direction. -/
theorem serS_back (rows : List (List Bool)) : serS rows.reverse = serS rows := by
  have key : ∀ M : List (List Bool), serS M = true → serS M.reverse = true := by
    intro M h
    rw [serS_iff] at h ⊢
    intro k hk j m i hjm hmi hi hj hii
    rw [List.length_reverse] at hi
    rw [bitS_back (by omega)] at hj hii ⊢
    exact h k hk (M.length - 1 - i) (M.length - 1 - m) (M.length - 1 - j) (by omega) (by omega) (by omega) hii hj
  rw [Bool.eq_iff_iff]
  constructor
  · intro h
    have := key _ h
    rwa [List.reverse_reverse] at this
  · exact key rows
theorem okS_back (rows : List (List Bool)) : okS rows.reverse = okS rows := by
  simp [okS]
/-- Rows in an order. -/
def takeS (rows : List (List Bool)) (o : List Int) : List (List Bool) := o.map fun i => rows.getD i.toNat []
def permS (n : Nat) (o : List Int) : Prop := o.length = n ∧ (∀ x ∈ o, 0 ≤ x ∧ x < n) ∧ o.Nodup
def takeOk (rows : List (List Bool)) (o : List Int) : Bool := okS rows && (decide (o.length = rows.length) && (List.range rows.length).all fun i => decide ((i : Int) ∈ o))
def takeG (rows : List (List Bool)) (o : List Int) : List (List Bool) := if takeOk rows o = true then takeS rows o else []
theorem takeS_len (rows : List (List Bool)) (o : List Int) : (takeS rows o).length = o.length := by simp [takeS]
theorem takeS_at {rows : List (List Bool)} {o : List Int} {i : Nat} {x : Int} (h : o[i]? = some x) : (takeS rows o)[i]? = some (rows.getD x.toNat []) := by simp [takeS, h]
theorem takeS_app (rows : List (List Bool)) (o : List Int) (x : Int) : takeS rows (o ++ [x]) = takeS rows o ++ [rows.getD x.toNat []] := by simp [takeS]
/-- A list of n numbers that has each number below n has each once, and no other. -/
theorem pigS : ∀ (n : Nat) (o : List Int), o.length = n → (∀ i : Nat, i < n → (i : Int) ∈ o) → permS n o
  | 0, o, hl, _ => by
    have : o = [] := List.eq_nil_of_length_eq_zero hl
    subst this
    exact ⟨rfl, fun x hx => (by cases hx), List.nodup_nil⟩
  | n + 1, o, hl, h => by
    have hm : (n : Int) ∈ o := h n (by omega)
    have ih := pigS n (o.erase (n : Int)) (by rw [List.length_erase_of_mem hm, hl]; rfl) fun i hi => by
      have h1 := h i (by omega)
      exact (List.mem_erase_of_ne (by omega)).2 h1
    obtain ⟨h1, h2, h3⟩ := ih
    have hp : o.Perm ((n : Int) :: o.erase (n : Int)) := List.perm_cons_erase hm
    refine ⟨hl, fun x hx => ?_, ?_⟩
    · rcases List.mem_cons.1 (hp.mem_iff.1 hx) with e | e
      · rw [e]; omega
      · have := h2 x e; omega
    · rw [hp.nodup_iff, List.nodup_cons]
      exact ⟨fun hx => by have := h2 _ hx; omega, h3⟩
theorem takeOk_parts {rows : List (List Bool)} {o : List Int} (h : takeOk rows o = true) : okS rows = true ∧ permS rows.length o ∧ ∀ i : Nat, i < rows.length → (i : Int) ∈ o := by
  simp only [takeOk, Bool.and_eq_true, decide_eq_true_eq, List.all_eq_true, List.mem_range] at h
  exact ⟨h.1, pigS _ o h.2.1 h.2.2, h.2.2⟩
theorem permS_has {n : Nat} {o : List Int} (h : permS n o) {i : Nat} (hi : i < n) : (i : Int) ∈ o := by
  obtain ⟨h1, h2, h3⟩ := h
  refine Classical.byContradiction fun hn => ?_
  have key : ∀ (m : Nat) (l : List Int), l.Nodup → (∀ x ∈ l, 0 ≤ x ∧ x < m) → l.length ≤ m := by
    intro m
    induction m with
    | zero =>
      intro l _ hx
      cases l with
      | nil => simp
      | cons a l => have := hx a List.mem_cons_self; omega
    | succ m ih =>
      intro l hd hx
      by_cases hm : (m : Int) ∈ l
      · have h4 := ih (l.erase (m : Int)) (hd.erase _) fun x hxe => by
          have h5 := hx x (List.mem_of_mem_erase hxe)
          have h6 : x ≠ (m : Int) := fun e => by
            rw [e] at hxe
            exact (List.Nodup.not_mem_erase hd) hxe
          omega
        rw [List.length_erase_of_mem hm] at h4
        omega
      · have h4 := ih l hd fun x hxl => by
          have h5 := hx x hxl
          have h6 : x ≠ (m : Int) := fun e => hm (e ▸ hxl)
          omega
        omega
  have h4 := key n ((i : Int) :: o) (List.nodup_cons.2 ⟨hn, h3⟩) fun x hx => by
    rcases List.mem_cons.1 hx with e | e
    · rw [e]; omega
    · exact h2 x e
  simp at h4
  omega
theorem takeOk_perm {rows : List (List Bool)} {o : List Int} (h1 : okS rows = true) (h2 : permS rows.length o) : takeOk rows o = true := by
  simp only [takeOk, Bool.and_eq_true, decide_eq_true_eq, List.all_eq_true, List.mem_range]
  exact ⟨h1, h2.1, fun i hi => permS_has h2 hi⟩
theorem takeS_five {rows : List (List Bool)} {o : List Int} (h1 : ∀ r ∈ rows, r.length = 5) (h2 : ∀ x ∈ o, 0 ≤ x ∧ x < rows.length) : ∀ r ∈ takeS rows o, r.length = 5 := by
  intro r hr
  obtain ⟨x, hx, rfl⟩ := List.mem_map.1 hr
  have h3 := h2 x hx
  have h4 : x.toNat < rows.length := by omega
  rw [List.getD_eq_getElem?_getD, List.getElem?_eq_getElem h4]
  exact h1 _ (List.getElem_mem h4)
theorem takeOk_ok {rows : List (List Bool)} {o : List Int} (h : takeOk rows o = true) : okS (takeS rows o) = true := by
  obtain ⟨h1, ⟨h2, h3, _⟩, _⟩ := takeOk_parts h
  obtain ⟨a, b, c⟩ := okS_parts h1
  exact okS_mk (takeS_five a h3) (by rw [takeS_len]; omega) (by rw [takeS_len]; omega)
theorem takeG_ok {rows : List (List Bool)} {o : List Int} (h : takeOk rows o = true) : takeG rows o = takeS rows o := if_pos h
theorem takeG_no {rows : List (List Bool)} {o : List Int} (h : takeOk rows o = false) : takeG rows o = [] := by simp [takeG, h]
/-- The first of the numbers below k, but for those in o, at which f finds something. -/
def tryS (f : Int → List Int) (o : List Int) : Nat → List Int
  | 0 => []
  | k + 1 => if tryS f o k = [] then (if (k : Int) ∈ o then [] else f k) else tryS f o k
def srchS (rows : List (List Bool)) : Nat → List Int → List Int
  | 0, o => if serS (takeS rows o) = true then o else []
  | d + 1, o => tryS (fun k => srchS rows d (o ++ [k])) o rows.length
def ordSG (rows : List (List Bool)) : List Int := if okS rows = true then srchS rows rows.length [] else []
def ordSOk (rows : List (List Bool)) : Bool := decide (ordSG rows ≠ [])
theorem tryS_none {f : Int → List Int} {o : List Int} : ∀ {n : Nat}, tryS f o n = [] ↔ ∀ k : Nat, k < n → (k : Int) ∉ o → f k = []
  | 0 => ⟨fun _ k h => absurd h (by omega), fun _ => rfl⟩
  | n + 1 => by
    have ih := tryS_none (f := f) (o := o) (n := n)
    have e : tryS f o (n + 1) = if tryS f o n = [] then (if (n : Int) ∈ o then [] else f n) else tryS f o n := rfl
    rw [e]
    constructor
    · intro h k hk hno
      by_cases h0 : tryS f o n = []
      · rw [if_pos h0] at h
        by_cases hkn : k < n
        · exact ih.1 h0 k hkn hno
        · obtain rfl : k = n := by omega
          rw [if_neg hno] at h
          exact h
      · rw [if_neg h0] at h
        exact absurd h h0
    · intro h
      have h0 := ih.2 fun k hk => h k (by omega)
      rw [if_pos h0]
      split
      · rfl
      · rename_i hno
        exact h n (by omega) hno
theorem tryS_some {f : Int → List Int} {o : List Int} : ∀ {n : Nat}, tryS f o n ≠ [] → ∃ k : Nat, k < n ∧ (k : Int) ∉ o ∧ f k = tryS f o n ∧ ∀ j : Nat, j < k → (j : Int) ∉ o → f j = []
  | 0, h => absurd rfl h
  | n + 1, h => by
    have e : tryS f o (n + 1) = if tryS f o n = [] then (if (n : Int) ∈ o then [] else f n) else tryS f o n := rfl
    by_cases h0 : tryS f o n = []
    · rw [e, if_pos h0] at h ⊢
      by_cases hno : (n : Int) ∈ o
      · rw [if_pos hno] at h
        exact absurd rfl h
      · rw [if_neg hno]
        exact ⟨n, by omega, hno, rfl, fun j hj => tryS_none.1 h0 j hj⟩
    · rw [e, if_neg h0]
      obtain ⟨k, h1, h2⟩ := tryS_some h0
      exact ⟨k, by omega, h2⟩
section
variable {rows : List (List Bool)}
/-- What is found goes on from where it began, has each row once, and is serial. -/
theorem srchS_sound : ∀ {d : Nat} {o : List Int}, d + o.length = rows.length → o.Nodup → (∀ x ∈ o, 0 ≤ x ∧ x < rows.length) → srchS rows d o ≠ [] →
    (∃ q, srchS rows d o = o ++ q) ∧ permS rows.length (srchS rows d o) ∧ serS (takeS rows (srchS rows d o)) = true
  | 0, o, hl, hd, hr, h => by
    have e : srchS rows 0 o = if serS (takeS rows o) = true then o else [] := rfl
    by_cases hs : serS (takeS rows o) = true
    · rw [e, if_pos hs]
      exact ⟨⟨[], by simp⟩, ⟨by omega, hr, hd⟩, hs⟩
    · rw [e, if_neg hs] at h
      exact absurd rfl h
  | d + 1, o, hl, hd, hr, h => by
    have e : srchS rows (d + 1) o = tryS (fun k => srchS rows d (o ++ [k])) o rows.length := rfl
    rw [e] at h ⊢
    obtain ⟨k, h1, h2, h3, _⟩ := tryS_some h
    rw [← h3] at h ⊢
    have ih := srchS_sound (d := d) (o := o ++ [(k : Int)]) (by simp; omega) (by
      rw [List.nodup_append]
      refine ⟨hd, by simp, fun a ha b hb => ?_⟩
      rw [List.mem_singleton.1 hb]
      exact fun e => h2 (e ▸ ha)) (fun x hx => by
      rcases List.mem_append.1 hx with h4 | h4
      · exact hr x h4
      · rw [List.mem_singleton.1 h4]; omega) h
    obtain ⟨⟨q, hq⟩, h5⟩ := ih
    exact ⟨⟨(k : Int) :: q, by rw [hq]; simp⟩, h5⟩
/-- The first order is found if there is one. -/
theorem srchS_least : ∀ {d : Nat} {o q : List Int}, d + o.length = rows.length → 1 ≤ rows.length → permS rows.length (o ++ q) → serS (takeS rows (o ++ q)) = true →
    srchS rows d o ≠ [] ∧ ∀ (i : Nat) (a b : Int), (∀ j, j < i → (srchS rows d o)[j]? = (o ++ q)[j]?) → (srchS rows d o)[i]? = some a → (o ++ q)[i]? = some b → a ≤ b
  | 0, o, q, hl, h1, hp, hs => by
    have hq : q = [] := by
      have := hp.1
      rw [List.length_append] at this
      exact List.eq_nil_of_length_eq_zero (by omega)
    subst hq
    rw [List.append_nil] at hp hs ⊢
    have e : srchS rows 0 o = o := by
      show (if serS (takeS rows o) = true then o else []) = o
      rw [if_pos hs]
    rw [e]
    refine ⟨fun e2 => by rw [e2] at hl; simp at hl; omega, fun i a b _ ha hb => ?_⟩
    rw [ha] at hb
    have := Option.some.inj hb
    omega
  | d + 1, o, [], hl, h1, hp, hs => by
    have := hp.1
    simp at this
    omega
  | d + 1, o, x :: q, hl, h1, hp, hs => by
    have e : srchS rows (d + 1) o = tryS (fun k => srchS rows d (o ++ [k])) o rows.length := rfl
    have hx := hp.2.1 x (by simp)
    obtain ⟨k0, rfl⟩ : ∃ k0 : Nat, x = (k0 : Int) := ⟨x.toNat, by omega⟩
    have hk0 : k0 < rows.length := by omega
    have hnd := hp.2.2
    rw [List.nodup_append] at hnd
    obtain ⟨hd1, hd2, hd3⟩ := hnd
    have hno : (k0 : Int) ∉ o := fun hm => hd3 _ hm _ List.mem_cons_self rfl
    have ih := srchS_least (d := d) (o := o ++ [(k0 : Int)]) (q := q) (by simp; omega) h1 (by simpa using hp) (by simpa using hs)
    have hne : tryS (fun k => srchS rows d (o ++ [k])) o rows.length ≠ [] := fun h0 => ih.1 (tryS_none.1 h0 k0 hk0 hno)
    rw [e]
    refine ⟨hne, ?_⟩
    obtain ⟨k, h2, h3, h4, h5⟩ := tryS_some hne
    rw [← h4] at hne ⊢
    have hkk : k ≤ k0 := by
      rcases Nat.lt_or_ge k0 k with h6 | h6
      · exact absurd (h5 k0 h6 hno) ih.1
      · exact h6
    by_cases hek : k = k0
    · subst hek
      intro i a b h7 h8 h9
      exact ih.2 i a b (by simpa using h7) h8 (by simpa using h9)
    · have hr : ∀ x ∈ o, 0 ≤ x ∧ x < rows.length := fun x hx => hp.2.1 x (List.mem_append_left _ hx)
      obtain ⟨⟨q2, hq2⟩, _⟩ := srchS_sound (rows := rows) (d := d) (o := o ++ [(k : Int)]) (by simp; omega) (by
        rw [List.nodup_append]
        refine ⟨hd1, by simp, fun a ha b hb => ?_⟩
        rw [List.mem_singleton.1 hb]
        exact fun e => h3 (e ▸ ha)) (fun x hx => by
        rcases List.mem_append.1 hx with h4 | h4
        · exact hr x h4
        · rw [List.mem_singleton.1 h4]; omega) hne
      intro i a b h7 h8 h9
      rw [hq2] at h7 h8
      rcases Nat.lt_trichotomy i o.length with h | h | h
      · rw [List.append_assoc, List.getElem?_append_left h] at h8
        rw [List.getElem?_append_left h] at h9
        rw [h8] at h9
        have := Option.some.inj h9
        omega
      · subst h
        rw [List.append_assoc, List.getElem?_append_right (Nat.le_refl _), Nat.sub_self] at h8
        rw [List.getElem?_append_right (Nat.le_refl _), Nat.sub_self] at h9
        simp at h8 h9
        omega
      · exfalso
        have h10 := h7 o.length h
        rw [List.append_assoc, List.getElem?_append_right (Nat.le_refl _), Nat.sub_self, List.getElem?_append_right (Nat.le_refl _), Nat.sub_self] at h10
        simp at h10
        omega
theorem ordS_some (h : ordSOk rows = true) : okS rows = true ∧ permS rows.length (ordSG rows) ∧ serS (takeS rows (ordSG rows)) = true := by
  simp only [ordSOk, decide_eq_true_eq] at h
  unfold ordSG at h ⊢
  by_cases hok : okS rows = true
  · rw [if_pos hok] at h ⊢
    obtain ⟨_, h2, h3⟩ := srchS_sound (rows := rows) (d := rows.length) (o := []) (by simp) List.nodup_nil (fun x hx => by cases hx) h
    exact ⟨hok, h2, h3⟩
  · rw [if_neg hok] at h
    exact absurd rfl h
theorem ordS_least {o : List Int} (hok : okS rows = true) (hp : permS rows.length o) (hs : serS (takeS rows o) = true) :
    ordSOk rows = true ∧ ∀ (i : Nat) (a b : Int), (∀ j, j < i → (ordSG rows)[j]? = o[j]?) → (ordSG rows)[i]? = some a → o[i]? = some b → a ≤ b := by
  have h := srchS_least (rows := rows) (d := rows.length) (o := []) (q := o) (by simp) (okS_parts hok).2.1 (by simpa using hp) (by simpa using hs)
  have e : ordSG rows = srchS rows rows.length [] := if_pos hok
  unfold ordSOk
  rw [e, decide_eq_true_eq]
  exact ⟨h.1, fun i a b h1 h2 h3 => h.2 i a b (by simpa using h1) h2 (by simpa using h3)⟩
theorem ordSG_len (rows : List (List Bool)) : (ordSG rows).length ≤ rows.length := by
  by_cases h : ordSOk rows = true
  · rw [(ordS_some h).2.1.1]; exact Nat.le_refl _
  · simp only [ordSOk, decide_eq_true_eq, Classical.not_not] at h
    rw [h]; simp
end
/-- How alike two rows are. -/
def alF (a b : List Bool) : Nat → Int
  | 0 => 0
  | k + 1 => alF a b k + if (a.getD k false && b.getD k false) = true then 1 else if (a.getD k false != b.getD k false) = true then -1 else 0
def alikeS (a b : List Bool) : Int := if a.length = 5 ∧ b.length = 5 then alF a b 5 else -99
def oneS (a : List Bool) (n : Nat) : Int := (((a.take n).countP fun x => x) : Nat)
theorem alF_le (a b : List Bool) : ∀ k : Nat, -(k : Int) ≤ alF a b k ∧ alF a b k ≤ k
  | 0 => by simp [alF]
  | k + 1 => by
    have := alF_le a b k
    show -((k + 1 : Nat) : Int) ≤ alF a b k + _ ∧ alF a b k + _ ≤ ((k + 1 : Nat) : Int)
    split
    · omega
    · split <;> omega
theorem alikeS_ne {a b : List Bool} : alikeS a b ≠ -99 ↔ a.length = 5 ∧ b.length = 5 := by
  unfold alikeS
  by_cases h : a.length = 5 ∧ b.length = 5
  · rw [if_pos h]
    have := (alF_le a b 5).1
    exact ⟨fun _ => h, fun _ => by omega⟩
  · rw [if_neg h]
    simp [h]
end Go.Proofs.Ytapmeooffmonmaa
