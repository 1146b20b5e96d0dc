/- The order of digging over places, step by step; how many contexts above each are left. Plain data. -/
import Derived.Test.YtfeodclacjolaaaVr
import Derived.Test.YtfeodclacjolaaaPe
namespace Go.Proofs.Ytfeodclacjolaaa
open Go.RowKit

def numP (ids : List Int) (p : List Nat) : List Int := p.map fun k => ids.getD k 0
/-- The order of all n places, and what has come when t of them have. -/
def dP (f : Nat → Nat → Bool) (n : Nat) : List Nat := digP f n n fun _ => false
def dT (f : Nat → Nat → Bool) (n t : Nat) : Nat → Bool := ((dP f n).take t).foldl dugB fun _ => false
theorem dP_len (f : Nat → Nat → Bool) (n : Nat) : (dP f n).length = n := digP_len _ _
theorem dT_zero (f : Nat → Nat → Bool) (n : Nat) : dT f n 0 = fun _ => false := rfl
/-- The next place, as long as one is left. -/
theorem d_next {f : Nat → Nat → Bool} {n t : Nat} (hi : ∀ i, f i i = false) (htr : ∀ i j k, f i j = true → f j k = true → f i k = true) (ht : t < n) (hL : leftN n (dT f n t) = n - t) :
    ∃ a, a < n ∧ (dP f n)[t]? = some a ∧ freeB f n (dT f n t) a = true ∧ (∀ z, z < a → freeB f n (dT f n t) z = false) ∧ dT f n (t + 1) = dugB (dT f n t) a ∧ leftN n (dT f n (t + 1)) = n - (t + 1) := by
  obtain ⟨m, hm⟩ : ∃ m, n - t = m + 1 := ⟨n - t - 1, by omega⟩
  obtain ⟨b, hb, hd⟩ := left_pos (hL.trans hm)
  obtain ⟨c, hc, hf⟩ := free_some hi htr hb hd
  obtain ⟨h1, h2, h3⟩ := leastB_spec hc hf
  have hs : dP f n = (dP f n).take t ++ digP f n (n - t) (dT f n t) := digP_split n t (fun _ => false) (by omega)
  have hlt : ((dP f n).take t).length = t := by rw [List.length_take, dP_len]; omega
  have hat : (dP f n)[t]? = some (leastB n (freeB f n (dT f n t))) := by
    rw [hs, List.getElem?_append_right (by omega), hlt, Nat.sub_self, hm, digP]
    rfl
  have hnx : dT f n (t + 1) = dugB (dT f n t) (leastB n (freeB f n (dT f n t))) := by
    unfold dT at hat ⊢
    rw [List.take_add_one, hat, List.foldl_append]
    rfl
  refine ⟨_, h2, hat, h1, h3, hnx, ?_⟩
  have := left_next h2 (freeB_iff.1 h1).1
  rw [hnx]
  omega
theorem d_closed {f : Nat → Nat → Bool} {n : Nat} (hi : ∀ i, f i i = false) (htr : ∀ i j k, f i j = true → f j k = true → f i k = true) : ∀ t, t ≤ n → leftN n (dT f n t) = n - t ∧ ClosedD f n (dT f n t)
  | 0, _ => ⟨by rw [dT_zero, left_none]; rfl, fun i j _ _ _ h => by simp [dT_zero] at h⟩
  | t + 1, h => by
    obtain ⟨h1, h2⟩ := d_closed (n := n) hi htr t (by omega)
    obtain ⟨a, _, _, hf, _, hd, hl⟩ := d_next (n := n) hi htr (by omega) h1
    rw [hd]
    rw [hd] at hl
    exact ⟨hl, closed_dug h2 hf⟩
def digPs (ids : List Int) (l : List Ctx) : List Nat := dP (ordF ids l) ids.length
def digG (ids : List Int) (l : List Ctx) : List Int := if ordOkG ids l then numP ids (digPs ids l) else []
theorem digPs_len (ids : List Int) (l : List Ctx) : (digPs ids l).length = ids.length := dP_len _ _
theorem numP_len (ids : List Int) (p : List Nat) : (numP ids p).length = p.length := by simp [numP]
theorem digG_len (ids : List Int) (l : List Ctx) : (digG ids l).length ≤ ids.length := by
  unfold digG
  split
  · rw [numP_len, digPs_len]; exact Nat.le_refl _
  · simp
theorem numP_next {ids : List Int} {p : List Nat} {t a : Nat} (h : p[t]? = some a) : numP ids (p.take (t + 1)) = numP ids (p.take t) ++ [ids.getD a 0] := by
  unfold numP
  rw [List.take_add_one, h, List.map_append]
  rfl
/-- How many places above i are left. -/
def upN (f : Nat → Nat → Bool) (n : Nat) (d : Nat → Bool) (i : Nat) : Nat := ((List.range n).filter fun k => !d k && f k i).length
section
variable {f : Nat → Nat → Bool} {n : Nat} {d : Nat → Bool}
theorem upN_zero {i : Nat} : upN f n d i = 0 ↔ ∀ k, k < n → d k = false → f k i = false := by
  unfold upN
  rw [List.length_eq_zero_iff, List.filter_eq_nil_iff]
  constructor
  · intro h k hk hd
    have := h k (List.mem_range.2 hk)
    rw [hd] at this
    simpa using this
  · intro h k hk
    cases hd : d k
    · simp [h k (List.mem_range.1 hk) hd]
    · simp
theorem free_up {i : Nat} : freeB f n d i = true ↔ d i = false ∧ upN f n d i = 0 := by
  rw [freeB_iff, upN_zero]
theorem upN_dug {a i : Nat} (ha : a < n) (hd : d a = false) : upN f n (dugB d a) i + (if f a i = true then 1 else 0) = upN f n d i := by
  unfold upN
  have key : ∀ l : List Nat, l.Nodup → (l.filter fun k => !dugB d a k && f k i).length + (if a ∈ l then (if f a i = true then 1 else 0) else 0) = (l.filter fun k => !d k && f k i).length := by
    intro l
    induction l with
    | nil => intro _; simp
    | cons b l ih =>
      intro hn
      rw [List.nodup_cons] at hn
      have ih := ih hn.2
      by_cases hb : b = a
      · subst hb
        rw [if_neg hn.1] at ih
        cases hf : f b i
        · simp [dugB_self, hf, hd]
          simpa using ih
        · simp [dugB_self, hf, hd]
          simpa using ih
      · have e : dugB d a b = d b := by simp [dugB, hb]
        have e2 : (a ∈ b :: l) = (a ∈ l) := by
          have : ¬ a = b := fun h => hb h.symm
          simp [this]
        rw [List.filter_cons, List.filter_cons, e]
        simp only [e2]
        cases hx : (!d b && f b i)
        · simpa using ih
        · simp only [if_true, List.length_cons]
          omega
  have := key (List.range n) List.nodup_range
  rw [if_pos (List.mem_range.2 ha)] at this
  exact this
theorem upN_le (i : Nat) : upN f n d i ≤ n := by
  unfold upN
  have := List.length_filter_le (fun k => !d k && f k i) (List.range n)
  simpa using this
/-- The heap's list has exactly the places that can be dug next, each once. -/
def ReadyL (f : Nat → Nat → Bool) (n : Nat) (d : Nat → Bool) (L : List Nat) : Prop := L.Nodup ∧ ∀ x, x ∈ L ↔ x < n ∧ freeB f n d x = true
theorem ready_len {L : List Nat} (h : ReadyL f n d L) : L.length ≤ n := nodup_le n L h.1 fun x hx => ((h.2 x).1 hx).1
/-- .. while the places below k that lie below a have been told of it. -/
def ReadyK (f : Nat → Nat → Bool) (n : Nat) (d : Nat → Bool) (a k : Nat) (L : List Nat) : Prop := L.Nodup ∧ ∀ x, x ∈ L ↔ (x < n ∧ freeB f n d x = true ∧ x ≠ a) ∨ (x < k ∧ f a x = true ∧ upN f n (dugB d a) x = 0)
theorem ready_pop {L L2 : List Nat} {a : Nat} (h : ReadyL f n d L) (hp : (a :: L2).Perm L) : a < n ∧ freeB f n d a = true ∧ ReadyK f n d a 0 L2 := by
  have hn := (hp.nodup_iff).2 h.1
  rw [List.nodup_cons] at hn
  have ha := (h.2 a).1 (hp.mem_iff.1 List.mem_cons_self)
  refine ⟨ha.1, ha.2, hn.2, fun x => ?_⟩
  constructor
  · intro hx
    have h1 := (h.2 x).1 (hp.mem_iff.1 (List.mem_cons_of_mem _ hx))
    exact .inl ⟨h1.1, h1.2, fun e => hn.1 (e ▸ hx)⟩
  · rintro (⟨h1, h2, h3⟩ | ⟨h1, _⟩)
    · rcases List.mem_cons.1 (hp.mem_iff.2 ((h.2 x).2 ⟨h1, h2⟩)) with h4 | h4
      · exact absurd h4 h3
      · exact h4
    · omega
theorem readyK_len {L : List Nat} {a k : Nat} (h : ReadyK f n d a k L) (hk : k ≤ n) : L.length ≤ n := nodup_le n L h.1 fun x hx => by
  rcases (h.2 x).1 hx with h1 | h1
  · exact h1.1
  · omega
theorem readyK_skip {L : List Nat} {a k : Nat} (h : ReadyK f n d a k L) (hno : ¬ (f a k = true ∧ upN f n (dugB d a) k = 0)) : ReadyK f n d a (k + 1) L := by
  refine ⟨h.1, fun x => (h.2 x).trans ?_⟩
  constructor
  · rintro (h1 | ⟨h1, h2⟩)
    · exact .inl h1
    · exact .inr ⟨by omega, h2⟩
  · rintro (h1 | ⟨h1, h2⟩)
    · exact .inl h1
    · by_cases e : x = k
      · subst e; exact absurd h2 hno
      · exact .inr ⟨by omega, h2⟩
theorem readyK_push {L L2 : List Nat} {a k : Nat} (h : ReadyK f n d a k L) (ha : a < n) (hd : d a = false) (h1 : f a k = true) (h2 : upN f n (dugB d a) k = 0) (hp : L2.Perm (k :: L)) : ReadyK f n d a (k + 1) L2 := by
  have hk : k ∉ L := fun hx => by
    rcases (h.2 k).1 hx with h3 | h3
    · have := (freeB_iff.1 h3.2.1).2 a ha hd
      rw [h1] at this
      cases this
    · omega
  refine ⟨hp.nodup_iff.2 (List.nodup_cons.2 ⟨hk, h.1⟩), fun x => ?_⟩
  rw [hp.mem_iff, List.mem_cons, h.2 x]
  constructor
  · rintro (rfl | h3 | ⟨h3, h4⟩)
    · exact .inr ⟨by omega, h1, h2⟩
    · exact .inl h3
    · exact .inr ⟨by omega, h4⟩
  · rintro (h3 | ⟨h3, h4⟩)
    · exact .inr (.inl h3)
    · by_cases e : x = k
      · exact .inl e
      · exact .inr (.inr ⟨by omega, h4⟩)
theorem readyK_end {L : List Nat} {a : Nat} (h : ReadyK f n d a n L) (hi : ∀ i, f i i = false) (hc : ClosedD f n d) (ha : a < n) (hd : d a = false) : ReadyL f n (dugB d a) L := by
  refine ⟨h.1, fun x => (h.2 x).trans ?_⟩
  rw [free_up (d := dugB d a), dugB_no]
  constructor
  · rintro (⟨h1, h2, h3⟩ | ⟨h1, h2, h3⟩)
    · obtain ⟨h4, h5⟩ := free_up.1 h2
      have := upN_dug (f := f) (i := x) ha hd
      exact ⟨h1, ⟨h4, h3⟩, by omega⟩
    · refine ⟨h1, ⟨?_, fun e => ?_⟩, h3⟩
      · cases hx : d x
        · rfl
        · rw [hc a x ha h1 h2 hx] at hd
          cases hd
      · rw [e, hi a] at h2
        cases h2
  · rintro ⟨h1, ⟨h2, h3⟩, h4⟩
    have h5 := upN_dug (f := f) (i := x) ha hd
    cases hf : f a x
    · rw [hf] at h5
      exact .inl ⟨h1, free_up.2 ⟨h2, by simpa [h4] using h5.symm⟩, h3⟩
    · exact .inr ⟨h1, rfl, h4⟩
/-- At the beginning: those of the first k places above which none lies. -/
def Ready0 (f : Nat → Nat → Bool) (n k : Nat) (L : List Nat) : Prop := L.Nodup ∧ ∀ x, x ∈ L ↔ x < k ∧ upN f n (fun _ => false) x = 0
theorem ready0_len {L : List Nat} {k : Nat} (h : Ready0 f n k L) : L.length ≤ k := nodup_le k L h.1 fun x hx => ((h.2 x).1 hx).1
theorem ready0_skip {L : List Nat} {k : Nat} (h : Ready0 f n k L) (hno : ¬ upN f n (fun _ => false) k = 0) : Ready0 f n (k + 1) L := by
  refine ⟨h.1, fun x => (h.2 x).trans ⟨fun ⟨h1, h2⟩ => ⟨by omega, h2⟩, fun ⟨h1, h2⟩ => ⟨?_, h2⟩⟩⟩
  by_cases e : x = k
  · subst e; exact absurd h2 hno
  · omega
theorem ready0_push {L L2 : List Nat} {k : Nat} (h : Ready0 f n k L) (h2 : upN f n (fun _ => false) k = 0) (hp : L2.Perm (k :: L)) : Ready0 f n (k + 1) L2 := by
  have hk : k ∉ L := fun hx => by have := ((h.2 k).1 hx).1; omega
  refine ⟨hp.nodup_iff.2 (List.nodup_cons.2 ⟨hk, h.1⟩), fun x => ?_⟩
  rw [hp.mem_iff, List.mem_cons, h.2 x]
  constructor
  · rintro (rfl | ⟨h3, h4⟩)
    · exact ⟨by omega, h2⟩
    · exact ⟨by omega, h4⟩
  · rintro ⟨h3, h4⟩
    by_cases e : x = k
    · exact .inl e
    · exact .inr ⟨by omega, h4⟩
theorem ready0_end {L : List Nat} (h : Ready0 f n n L) : ReadyL f n (fun _ => false) L := by
  refine ⟨h.1, fun x => (h.2 x).trans ?_⟩
  rw [free_up]
  simp
end
/-- The numbers of what is left above each place, as a list. -/
def waitL (f : Nat → Nat → Bool) (n : Nat) (d : Nat → Bool) : List Nat := (List.range n).map (upN f n d)
theorem waitL_len (f : Nat → Nat → Bool) (n : Nat) (d : Nat → Bool) : (waitL f n d).length = n := by simp [waitL]
theorem waitL_at {f : Nat → Nat → Bool} {n : Nat} {d : Nat → Bool} {k : Nat} (hk : k < n) : (waitL f n d)[k]? = some (upN f n d k) := by simp [waitL, hk]
/-- How many of the first k rows have the place i. -/
def cntK (f : Nat → Nat → Bool) (k i : Nat) : Nat := ((List.range k).filter fun y => f y i).length
theorem cntK_next (f : Nat → Nat → Bool) (k i : Nat) : cntK f (k + 1) i = cntK f k i + if f k i = true then 1 else 0 := by
  unfold cntK
  rw [List.range_succ, List.filter_append]
  cases h : f k i <;> simp [h]
def cntL (f : Nat → Nat → Bool) (n k : Nat) : List Nat := (List.range n).map (cntK f k)
theorem cntL_len (f : Nat → Nat → Bool) (n k : Nat) : (cntL f n k).length = n := by simp [cntL]
theorem cntL_at {f : Nat → Nat → Bool} {n k i : Nat} (hi : i < n) : (cntL f n k)[i]? = some (cntK f k i) := by simp [cntL, hi]
theorem cntL_zero (f : Nat → Nat → Bool) (n : Nat) : cntL f n 0 = List.replicate n 0 := by
  refine List.ext_getElem? fun i => ?_
  by_cases hi : i < n
  · rw [cntL_at hi]
    simp [cntK, hi]
  · simp [cntL, hi]
theorem cntL_wait (f : Nat → Nat → Bool) (n : Nat) : cntL f n n = waitL f n fun _ => false := by
  unfold cntL waitL
  refine List.map_congr_left fun i _ => ?_
  unfold cntK upN
  simp
theorem cntK_le (f : Nat → Nat → Bool) (k i : Nat) : cntK f k i ≤ k := by
  unfold cntK
  have := List.length_filter_le (fun y => f y i) (List.range k)
  simpa using this
end Go.Proofs.Ytfeodclacjolaaa
