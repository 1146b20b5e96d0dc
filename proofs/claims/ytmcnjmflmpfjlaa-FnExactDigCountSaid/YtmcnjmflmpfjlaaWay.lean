/- Ways and circles of places: the first of the shortest circles, found by ways that grow step by step. Plain data. -/
import Derived.Test.YtmcnjmflmpfjlaaBase
namespace Go.Proofs.Ytmcnjmflmpfjlaa

def chainB (f : Nat → Nat → Bool) : List Nat → Bool
  | [] => true
  | [_] => true
  | a :: b :: r => f a b && chainB f (b :: r)
def lastD : List Nat → Nat
  | [] => 0
  | [a] => a
  | _ :: b :: r => lastD (b :: r)
def lexB : List Nat → List Nat → Bool
  | a :: p, b :: q => decide (a < b) || (decide (a = b) && lexB p q)
  | [], _ :: _ => true
  | _, [] => false
theorem lexB_irr : ∀ p : List Nat, lexB p p = false
  | [] => rfl
  | a :: p => by simp [lexB, lexB_irr p]
theorem lexB_tr : ∀ {p q r : List Nat}, lexB p q = true → lexB q r = true → lexB p r = true
  | [], q, [], h1, h2 => by cases q <;> simp [lexB] at h2
  | [], _, _ :: _, _, _ => rfl
  | a :: p, [], _, h1, _ => by simp [lexB] at h1
  | a :: p, b :: q, [], _, h2 => by simp [lexB] at h2
  | a :: p, b :: q, c :: r, h1, h2 => by
    simp only [lexB, Bool.or_eq_true, Bool.and_eq_true, decide_eq_true_eq] at *
    rcases h1 with h1 | ⟨h1, h3⟩
    · rcases h2 with h2 | ⟨h2, h4⟩ <;> exact .inl (by omega)
    · rcases h2 with h2 | ⟨h2, h4⟩
      · exact .inl (by omega)
      · exact .inr ⟨by omega, lexB_tr h3 h4⟩
theorem lexB_app : ∀ {p q : List Nat} (r s : List Nat), p.length = q.length → lexB p q = true → lexB (p ++ r) (q ++ s) = true
  | [], [], _, _, _, h => by simp [lexB] at h
  | a :: p, b :: q, r, s, hl, h => by
    simp only [lexB, Bool.or_eq_true, Bool.and_eq_true, decide_eq_true_eq, List.cons_append] at *
    rcases h with h | ⟨h, h2⟩
    · exact .inl h
    · exact .inr ⟨h, lexB_app r s (by simpa using hl) h2⟩
theorem lexB_last : ∀ (p : List Nat) {a b : Nat}, a < b → lexB (p ++ [a]) (p ++ [b]) = true
  | [], a, b, h => by simp [lexB, h]
  | c :: p, a, b, h => by simp [lexB, lexB_last p h]
theorem lastD_app (p : List Nat) (a : Nat) : lastD (p ++ [a]) = a := by
  induction p with
  | nil => rfl
  | cons b p ih =>
    cases p with
    | nil => rfl
    | cons c p => exact ih
theorem chainB_app {f : Nat → Nat → Bool} : ∀ (p : List Nat) (a : Nat), p ≠ [] → chainB f (p ++ [a]) = (chainB f p && f (lastD p) a)
  | [], _, h => absurd rfl h
  | [b], a, _ => by simp [chainB, lastD]
  | b :: c :: p, a, _ => by
    have := chainB_app (f := f) (c :: p) a (by simp)
    simp only [List.cons_append] at this ⊢
    rw [chainB, this, chainB, Bool.and_assoc]
    rfl
/-- A way of t steps from a to v. -/
def Way (f : Nat → Nat → Bool) (a t v : Nat) (p : List Nat) : Prop := p.length = t + 1 ∧ chainB f p = true ∧ p.head? = some a ∧ lastD p = v
theorem way_start {f : Nat → Nat → Bool} (a : Nat) : Way f a 0 a [a] := ⟨rfl, rfl, rfl, rfl⟩
theorem way_zero {f : Nat → Nat → Bool} {a v : Nat} {p : List Nat} (h : Way f a 0 v p) : p = [a] ∧ v = a := by
  obtain ⟨h1, _, h3, h4⟩ := h
  match p, h1, h3, h4 with
  | [x], _, h3, h4 => simp at h3; subst h3; exact ⟨rfl, h4.symm⟩
theorem way_next {f : Nat → Nat → Bool} {a t v j : Nat} {p : List Nat} (h : Way f a t v p) (hj : f v j = true) : Way f a (t + 1) j (p ++ [j]) := by
  obtain ⟨h1, h2, h3, h4⟩ := h
  have hne : p ≠ [] := by rintro rfl; simp at h1
  refine ⟨by simp [h1], ?_, ?_, lastD_app p j⟩
  · rw [chainB_app p j hne, h2, h4, hj]; rfl
  · cases p with
    | nil => exact absurd rfl hne
    | cons x p => simpa using h3
theorem way_back {f : Nat → Nat → Bool} {a t v : Nat} {p : List Nat} (h : Way f a (t + 1) v p) : ∃ q u, p = q ++ [v] ∧ Way f a t u q ∧ f u v = true := by
  obtain ⟨h1, h2, h3, h4⟩ := h
  rcases List.eq_nil_or_concat p with rfl | ⟨q, b, rfl⟩
  · simp at h1
  · rw [List.concat_eq_append] at *
    rw [lastD_app] at h4
    subst h4
    have hq : q.length = t + 1 := by simpa using h1
    have hne : q ≠ [] := by rintro rfl; simp at hq
    rw [chainB_app q b hne, Bool.and_eq_true] at h2
    refine ⟨q, lastD q, rfl, ⟨hq, h2.1, ?_, rfl⟩, h2.2⟩
    cases q with
    | nil => exact absurd rfl hne
    | cons x q => simpa using h3
/-- What stands in a way is reached in as many steps as stand ahead of it. -/
theorem way_mem {f : Nat → Nat → Bool} {a x : Nat} : ∀ {t v : Nat} {p : List Nat}, Way f a t v p → x ∈ p → ∃ s q, s ≤ t ∧ Way f a s x q
  | 0, v, p, h, hx => by
    obtain ⟨rfl, _⟩ := way_zero h
    simp at hx
    subst hx
    exact ⟨0, _, Nat.le_refl _, way_start _⟩
  | t + 1, v, p, h, hx => by
    obtain ⟨q, u, rfl, hq, _⟩ := way_back h
    rcases List.mem_append.1 hx with hx | hx
    · obtain ⟨s, q2, hs, h2⟩ := way_mem hq hx
      exact ⟨s, q2, by omega, h2⟩
    · simp at hx
      subst hx
      exact ⟨t + 1, _, Nat.le_refl _, h⟩

def metB (ps : List (List Nat)) (j : Nat) : Bool := ps.any fun p => decide (j ∈ p)
def addC (f : Nat → Nat → Bool) (ps nx : List (List Nat)) (c : List Nat × Nat) : List (List Nat) := if f (lastD c.1) c.2 && (!metB ps c.2 && !metB nx c.2) then nx ++ [c.1 ++ [c.2]] else nx
def prs (ps : List (List Nat)) (n : Nat) : List (List Nat × Nat) := ps.flatMap fun p => (List.range n).map fun j => (p, j)
def nextP (f : Nat → Nat → Bool) (n : Nat) (ps : List (List Nat)) : List (List Nat) := (prs ps n).foldl (addC f ps) []
def walkL (f : Nat → Nat → Bool) (n a : Nat) : Nat → List (List Nat) → List Nat
  | 0, _ => []
  | m + 1, ps => match ps.find? fun p => f (lastD p) a with
    | some p => p
    | none => walkL f n a m (nextP f n ps)
def walkP (f : Nat → Nat → Bool) (n a : Nat) : List Nat := walkL f n a n [[a]]

def keyC (c : List Nat × Nat) : List Nat := c.1 ++ [c.2]
theorem prs_sorted {t n : Nat} : ∀ (ps : List (List Nat)), (∀ p ∈ ps, p.length = t + 1) → ps.Pairwise (fun p q => lexB p q = true) → (prs ps n).Pairwise (fun c d => lexB (keyC c) (keyC d) = true)
  | [], _, _ => by simp [prs]
  | p :: ps, hl, hs => by
    rw [List.pairwise_cons] at hs
    have ih := prs_sorted (t := t) (n := n) ps (fun q hq => hl q (List.mem_cons_of_mem _ hq)) hs.2
    unfold prs at ih ⊢
    rw [List.flatMap_cons, List.pairwise_append]
    refine ⟨?_, ih, ?_⟩
    · rw [List.pairwise_map]
      exact List.pairwise_lt_range.imp fun h => lexB_last p h
    · rintro ⟨p1, j1⟩ h1 ⟨p2, j2⟩ h2
      obtain ⟨j, _, e⟩ := List.mem_map.1 h1
      injection e with e1 e2
      subst e1 e2
      obtain ⟨q, hq, h2⟩ := List.mem_flatMap.1 h2
      obtain ⟨j3, _, e⟩ := List.mem_map.1 h2
      injection e with e1 e2
      subst e1 e2
      exact lexB_app _ _ (by rw [hl p List.mem_cons_self, hl q (List.mem_cons_of_mem _ hq)]) (hs.1 q hq)
/-- What the fold over candidates keeps. -/
theorem fold_inv {f : Nat → Nat → Bool} {ps : List (List Nat)} : ∀ (cs dn : List (List Nat × Nat)) (nx : List (List Nat)), (dn ++ cs).Pairwise (fun c d => lexB (keyC c) (keyC d) = true) →
    (∀ c ∈ dn ++ cs, c.1 ∈ ps) →
    (∀ q ∈ nx, ∃ c ∈ dn, q = keyC c ∧ f (lastD c.1) c.2 = true ∧ metB ps c.2 = false) → nx.Pairwise (fun p q => lexB p q = true) →
    (∀ c ∈ dn, f (lastD c.1) c.2 = true → metB ps c.2 = false → ∃ q ∈ nx, lastD q = c.2 ∧ (q = keyC c ∨ lexB q (keyC c) = true)) →
    (∀ q ∈ cs.foldl (addC f ps) nx, ∃ c ∈ dn ++ cs, q = keyC c ∧ f (lastD c.1) c.2 = true ∧ metB ps c.2 = false) ∧ (cs.foldl (addC f ps) nx).Pairwise (fun p q => lexB p q = true) ∧
    (∀ c ∈ dn ++ cs, f (lastD c.1) c.2 = true → metB ps c.2 = false → ∃ q ∈ cs.foldl (addC f ps) nx, lastD q = c.2 ∧ (q = keyC c ∨ lexB q (keyC c) = true))
  | [], dn, nx, _, _, h1, h2, h3 => by
    simp only [List.append_nil, List.foldl_nil]
    exact ⟨h1, h2, h3⟩
  | c :: cs, dn, nx, hs, hm, h1, h2, h3 => by
    have e : dn ++ c :: cs = (dn ++ [c]) ++ cs := by simp
    rw [e] at hs hm ⊢
    rw [List.foldl_cons]
    have hsd : ∀ d ∈ dn, lexB (keyC d) (keyC c) = true := by
      intro d hd
      rw [List.pairwise_append] at hs
      have := hs.1
      rw [List.pairwise_append] at this
      exact this.2.2 d hd c (by simp)
    have hcm : c.1 ∈ ps := hm c (by simp)
    have hmet : metB ps c.2 = false → ∀ q ∈ nx, c.2 ∈ q → lastD q = c.2 := by
      intro hps q hq hin
      obtain ⟨d, hd, rfl, _, _⟩ := h1 q hq
      unfold keyC at hin ⊢
      rw [lastD_app]
      rcases List.mem_append.1 hin with hin | hin
      · exfalso
        have : metB ps c.2 = true := List.any_eq_true.2 ⟨d.1, hm d (by simp [hd]), by simp [hin]⟩
        rw [hps] at this
        cases this
      · have : c.2 = d.2 := by simpa using hin
        exact this.symm
    by_cases hc : (f (lastD c.1) c.2 && (!metB ps c.2 && !metB nx c.2)) = true
    · have ha : addC f ps nx c = nx ++ [keyC c] := by unfold addC; rw [if_pos hc]; rfl
      simp only [Bool.and_eq_true, Bool.not_eq_true'] at hc
      obtain ⟨hf, hps, hnx⟩ := hc
      rw [ha]
      refine fold_inv cs (dn ++ [c]) (nx ++ [keyC c]) hs hm ?_ ?_ ?_
      · intro q hq
        rcases List.mem_append.1 hq with hq | hq
        · obtain ⟨d, hd, h⟩ := h1 q hq
          exact ⟨d, by simp [hd], h⟩
        · simp at hq
          exact ⟨c, by simp, hq, hf, hps⟩
      · rw [List.pairwise_append]
        refine ⟨h2, by simp, fun q hq r hr => ?_⟩
        simp at hr
        subst hr
        obtain ⟨d, hd, rfl, _, _⟩ := h1 q hq
        exact hsd d hd
      · intro d hd hdf hdm
        rcases List.mem_append.1 hd with hd | hd
        · obtain ⟨q, hq, h⟩ := h3 d hd hdf hdm
          exact ⟨q, by simp [hq], h⟩
        · simp at hd
          subst hd
          exact ⟨keyC d, by simp, lastD_app _ _, .inl rfl⟩
    · have ha : addC f ps nx c = nx := by unfold addC; rw [if_neg hc]
      rw [ha]
      refine fold_inv cs (dn ++ [c]) nx hs hm ?_ h2 ?_
      · intro q hq
        obtain ⟨d, hd, h⟩ := h1 q hq
        exact ⟨d, by simp [hd], h⟩
      · intro d hd hdf hdm
        rcases List.mem_append.1 hd with hd | hd
        · exact h3 d hd hdf hdm
        · simp at hd
          subst hd
          rw [hdf, hdm] at hc
          have hnx : metB nx d.2 = true := by simpa using hc
          obtain ⟨q, hq, hin⟩ := List.any_eq_true.1 hnx
          have hin : d.2 ∈ q := by simpa using hin
          have hl := hmet hdm q hq hin
          obtain ⟨d2, hd2, rfl, _, _⟩ := h1 q hq
          exact ⟨keyC d2, hq, hl, .inr (hsd d2 hd2)⟩

def Far (f : Nat → Nat → Bool) (a t v : Nat) : Prop := ∀ s p, s < t → ¬ Way f a s v p
structure Inv (f : Nat → Nat → Bool) (a t : Nat) (ps : List (List Nat)) : Prop where
  way : ∀ p ∈ ps, ∃ v, Way f a t v p
  sorted : ps.Pairwise (fun p q => lexB p q = true)
  all : ∀ v q, Way f a t v q → Far f a t v → ∃ p ∈ ps, lastD p = v ∧ (p = q ∨ lexB p q = true)
theorem inv_start {f : Nat → Nat → Bool} (a : Nat) : Inv f a 0 [[a]] :=
  ⟨fun p hp => ⟨a, by simp at hp; subst hp; exact way_start a⟩, by simp, fun v q hq _ => ⟨[a], by simp, (way_zero hq).2.symm, .inl (way_zero hq).1.symm⟩⟩
theorem inv_next {f : Nat → Nat → Bool} {n a t : Nat} {ps : List (List Nat)} (hf : ∀ i j, f i j = true → j < n) (h : Inv f a t ps) : Inv f a (t + 1) (nextP f n ps) := by
  have hlen : ∀ p ∈ ps, p.length = t + 1 := fun p hp => by obtain ⟨v, hv⟩ := h.way p hp; exact hv.1
  have hmem : ∀ c ∈ prs ps n, c.1 ∈ ps := by
    rintro c hc
    obtain ⟨p, hp, hc⟩ := List.mem_flatMap.1 hc
    obtain ⟨j, _, rfl⟩ := List.mem_map.1 hc
    exact hp
  obtain ⟨h1, h2, h3⟩ := fold_inv (f := f) (ps := ps) (prs ps n) [] [] (by simpa using prs_sorted ps hlen h.sorted) (by simpa using hmem) (by simp) (by simp) (by simp)
  refine ⟨fun q hq => ?_, h2, fun v q hq hfar => ?_⟩
  · obtain ⟨c, hc, rfl, hcf, _⟩ := h1 q hq
    have hc : c ∈ prs ps n := by simpa using hc
    obtain ⟨u, hu⟩ := h.way c.1 (hmem c hc)
    have : lastD c.1 = u := hu.2.2.2
    exact ⟨c.2, way_next hu (this ▸ hcf)⟩
  · obtain ⟨q0, u, rfl, hq0, huv⟩ := way_back hq
    have hfu : Far f a t u := fun s p hs hp => hfar (s + 1) (p ++ [v]) (by omega) (way_next hp huv)
    obtain ⟨p, hp, hpu, hle⟩ := h.all u q0 hq0 hfu
    have hvn : v < n := hf u v huv
    have hmet : metB ps v = false := by
      cases hm : metB ps v
      · rfl
      · exfalso
        obtain ⟨p2, hp2, hin⟩ := List.any_eq_true.1 hm
        have hin : v ∈ p2 := by simpa using hin
        obtain ⟨v2, hv2⟩ := h.way p2 hp2
        obtain ⟨s, q2, hs, hq2⟩ := way_mem hv2 hin
        exact hfar s q2 (by omega) hq2
    have hc : (p, v) ∈ prs ps n := List.mem_flatMap.2 ⟨p, hp, List.mem_map.2 ⟨v, List.mem_range.2 hvn, rfl⟩⟩
    obtain ⟨r, hr, hrl, hrk⟩ := h3 (p, v) (by simpa using hc) (by simpa [hpu] using huv) hmet
    refine ⟨r, hr, hrl, ?_⟩
    have hk : keyC (p, v) = q0 ++ [v] ∨ lexB (keyC (p, v)) (q0 ++ [v]) = true := by
      rcases hle with rfl | hle
      · exact .inl rfl
      · exact .inr (lexB_app _ _ (by rw [hlen p hp, hq0.1]) hle)
    rcases hrk with rfl | hrk
    · exact hk
    · rcases hk with hk | hk
      · exact .inr (hk ▸ hrk)
      · exact .inr (lexB_tr hrk hk)
/-- No way of fewer than t steps leads back. -/
def NoBack (f : Nat → Nat → Bool) (a t : Nat) : Prop := ∀ s u p, s < t → Way f a s u p → f u a = false
/-- The first of the shortest ways that lead back. -/
def BestAt (f : Nat → Nat → Bool) (a : Nat) (p : List Nat) : Prop := ∃ t u, Way f a t u p ∧ f u a = true ∧ NoBack f a t ∧ ∀ u2 q, Way f a t u2 q → f u2 a = true → p = q ∨ lexB p q = true
theorem walkL_spec {f : Nat → Nat → Bool} {n a : Nat} (hf : ∀ i j, f i j = true → j < n) : ∀ (m t : Nat) (ps : List (List Nat)), Inv f a t ps → NoBack f a t → (BestAt f a (walkL f n a m ps)) ∨ (walkL f n a m ps = [] ∧ NoBack f a (t + m))
  | 0, t, ps, _, hn => .inr ⟨rfl, hn⟩
  | m + 1, t, ps, h, hn => by
    have hfar : ∀ u q, Way f a t u q → f u a = true → Far f a t u := fun u q _ hu s p hs hp => by
      have := hn s u p hs hp
      rw [hu] at this
      cases this
    rw [walkL]
    cases hfd : ps.find? fun p => f (lastD p) a with
    | some p =>
      left
      have hp := List.mem_of_find?_eq_some hfd
      have hcl : f (lastD p) a = true := by simpa using List.find?_some hfd
      obtain ⟨u, hu⟩ := h.way p hp
      have hul : lastD p = u := hu.2.2.2
      refine ⟨t, u, hu, hul ▸ hcl, hn, fun u2 q hq hu2 => ?_⟩
      obtain ⟨r, hr, hrl, hrq⟩ := h.all u2 q hq (hfar u2 q hq hu2)
      have hpr : p = r ∨ lexB p r = true := by
        obtain ⟨pa, pb, hsplit, hno⟩ := (List.find?_eq_some_iff_append.1 hfd).2
        rw [hsplit] at hr
        rcases List.mem_append.1 hr with hr | hr
        · have := hno r hr
          rw [hrl, hu2] at this
          simp at this
        · rcases List.mem_cons.1 hr with rfl | hr
          · exact .inl rfl
          · have hs := h.sorted
            rw [hsplit, List.pairwise_append, List.pairwise_cons] at hs
            exact .inr (hs.2.1.1 r hr)
      rcases hpr with rfl | hpr
      · exact hrq
      · rcases hrq with rfl | hrq
        · exact .inr hpr
        · exact .inr (lexB_tr hpr hrq)
    | none =>
      have hno : NoBack f a (t + 1) := by
        intro s u p hs hp
        rcases Nat.lt_or_ge s t with hlt | hge
        · exact hn s u p hlt hp
        · obtain rfl : s = t := by omega
          cases hu : f u a
          · rfl
          · exfalso
            obtain ⟨r, hr, hrl, _⟩ := h.all u p hp (hfar u p hp hu)
            have := List.find?_eq_none.1 hfd r hr
            rw [hrl, hu] at this
            exact this rfl
      have := walkL_spec hf m (t + 1) (nextP f n ps) (inv_next hf h) hno
      rw [show t + 1 + m = t + (m + 1) from by omega] at this
      exact this
theorem walkP_spec {f : Nat → Nat → Bool} {n : Nat} (hf : ∀ i j, f i j = true → j < n) (a : Nat) : BestAt f a (walkP f n a) ∨ (walkP f n a = [] ∧ NoBack f a n) := by
  have := walkL_spec hf n 0 [[a]] (inv_start a) (fun s _ _ hs => absurd hs (by omega))
  simpa [walkP] using this

theorem nodup_le : ∀ (n : Nat) (l : List Nat), l.Nodup → (∀ x ∈ l, x < n) → l.length ≤ n
  | 0, l, _, h => by
    cases l with
    | nil => simp
    | cons x l => exact absurd (h x List.mem_cons_self) (by omega)
  | n + 1, l, hd, h => by
    have h1 := nodup_le n (l.erase n) (hd.erase n) (fun x hx => by
      have h2 := (hd.mem_erase_iff).1 hx
      have := h x h2.2
      have := h2.1
      omega)
    have h2 := List.length_erase (a := n) (l := l)
    split at h2 <;> omega
theorem twice_of : ∀ {p : List Nat}, ¬ p.Nodup → ∃ l1 x l2 l3, p = l1 ++ x :: (l2 ++ x :: l3)
  | [], h => absurd List.nodup_nil h
  | b :: r, h => by
    by_cases hb : b ∈ r
    · obtain ⟨l2, l3, rfl⟩ := List.append_of_mem hb
      exact ⟨[], b, l2, l3, rfl⟩
    · obtain ⟨l1, x, l2, l3, rfl⟩ := twice_of (p := r) (fun hr => h (List.nodup_cons.2 ⟨hb, hr⟩))
      exact ⟨b :: l1, x, l2, l3, rfl⟩
theorem chainB_split {f : Nat → Nat → Bool} (x : Nat) (m : List Nat) : ∀ l : List Nat, chainB f (l ++ x :: m) = (chainB f (l ++ [x]) && chainB f (x :: m))
  | [] => by simp [chainB]
  | [a] => by simp [chainB]
  | a :: b :: l => by
    have := chainB_split (f := f) x m (b :: l)
    simp only [List.cons_append, chainB] at this ⊢
    rw [this, Bool.and_assoc]
theorem lastD_split (x : Nat) (m : List Nat) : ∀ l : List Nat, lastD (l ++ x :: m) = lastD (x :: m)
  | [] => rfl
  | [_] => rfl
  | _ :: b :: l => lastD_split x m (b :: l)
/-- A circle from a: a way of t steps whose end leads back. -/
def Back (f : Nat → Nat → Bool) (a t u : Nat) (p : List Nat) : Prop := Way f a t u p ∧ f u a = true
theorem head_split {l m : List Nat} {x a : Nat} (h : (l ++ x :: m).head? = some a) (r : List Nat) : (l ++ x :: r).head? = some a := by
  cases l with
  | nil => simpa using h
  | cons b l => simpa using h
theorem back_cut {f : Nat → Nat → Bool} {a t u : Nat} {p : List Nat} (h : Back f a t u p) (hd : ¬ p.Nodup) : ∃ s q, s < t ∧ Back f a s u q := by
  obtain ⟨⟨h1, h2, h3, h4⟩, h5⟩ := h
  obtain ⟨l1, x, l2, l3, rfl⟩ := twice_of hd
  rw [chainB_split, Bool.and_eq_true] at h2
  have h6 := h2.2
  rw [← List.cons_append, chainB_split, Bool.and_eq_true] at h6
  rw [lastD_split, ← List.cons_append, lastD_split] at h4
  refine ⟨(l1 ++ x :: l3).length - 1, l1 ++ x :: l3, ?_, ⟨?_, ?_, head_split h3 l3, ?_⟩, h5⟩
  · simp at h1 ⊢; omega
  · simp; omega
  · rw [chainB_split, h2.1, h6.2]; rfl
  · rw [lastD_split]; exact h4
theorem chainB_mem {f : Nat → Nat → Bool} {n : Nat} (hf : ∀ i j, f i j = true → j < n) : ∀ {p : List Nat} {a : Nat}, chainB f (a :: p) = true → ∀ x ∈ p, x < n
  | [], _, _, x, hx => by simp at hx
  | b :: p, a, h, x, hx => by
    simp only [chainB, Bool.and_eq_true] at h
    rcases List.mem_cons.1 hx with rfl | hx
    · exact hf _ _ h.1
    · exact chainB_mem hf h.2 x hx
theorem back_in {f : Nat → Nat → Bool} {n a t u : Nat} {p : List Nat} (hf : ∀ i j, f i j = true → j < n) (h : Back f a t u p) : ∀ x ∈ p, x < n := by
  obtain ⟨⟨h1, h2, h3, h4⟩, h5⟩ := h
  cases p with
  | nil => simp at h1
  | cons b p =>
    simp at h3
    subst h3
    intro x hx
    rcases List.mem_cons.1 hx with rfl | hx
    · exact hf _ _ h5
    · exact chainB_mem hf h2 x hx
theorem back_short {f : Nat → Nat → Bool} {n a : Nat} (hf : ∀ i j, f i j = true → j < n) (t : Nat) : ∀ {u : Nat} {p : List Nat}, Back f a t u p → ∃ s u2 q, s < n ∧ s ≤ t ∧ Back f a s u2 q := by
  induction t using Nat.strongRecOn with
  | ind t ih =>
    intro u p h
    by_cases hd : p.Nodup
    · have h1 := nodup_le n p hd (back_in hf h)
      have h2 := h.1.1
      exact ⟨t, u, p, by omega, Nat.le_refl _, h⟩
    · obtain ⟨s, q, hs, hq⟩ := back_cut h hd
      obtain ⟨s2, u2, q2, h1, h2, h3⟩ := ih s hs hq
      exact ⟨s2, u2, q2, h1, by omega, h3⟩
theorem noBack_all {f : Nat → Nat → Bool} {n a : Nat} (hf : ∀ i j, f i j = true → j < n) (h : NoBack f a n) {t u : Nat} {p : List Nat} : ¬ Back f a t u p := by
  intro hb
  obtain ⟨s, u2, q, hs, _, hq⟩ := back_short hf t hb
  have := h s u2 q hs hq.1
  rw [hq.2] at this
  cases this

def betterC (best path : List Nat) : List Nat := if decide (0 < path.length) && (decide (best.length = 0) || decide (path.length < best.length)) then path else best
def cycP (f : Nat → Nat → Bool) (n m : Nat) : List Nat := (List.range m).foldl (fun best i => betterC best (walkP f n i)) []
theorem cycP_next (f : Nat → Nat → Bool) (n m : Nat) : cycP f n (m + 1) = betterC (cycP f n m) (walkP f n m) := by
  unfold cycP
  rw [List.range_succ, List.foldl_append]
  rfl
/-- No circle, or the first of the shortest ones. -/
def FirstC (f : Nat → Nat → Bool) (p : List Nat) : Prop := (p = [] ∧ ∀ a t u q, ¬ Back f a t u q) ∨ ∃ a t u, Back f a t u p ∧ (∀ b s v q, Back f b s v q → t ≤ s) ∧ ∀ b v q, Back f b t v q → p = q ∨ lexB p q = true
theorem lexB_head {p q : List Nat} {a b : Nat} (hp : p.head? = some a) (hq : q.head? = some b) (h : a < b) : lexB p q = true := by
  cases p with
  | nil => simp at hp
  | cons x p =>
    cases q with
    | nil => simp at hq
    | cons y q =>
      simp at hp hq
      subst hp hq
      simp [lexB, h]
theorem cycP_inv {f : Nat → Nat → Bool} {n : Nat} (hf : ∀ i j, f i j = true → j < n) : ∀ m : Nat,
    (cycP f n m = [] ∧ ∀ a, a < m → ∀ t u q, ¬ Back f a t u q) ∨ ∃ a t u, a < m ∧ Back f a t u (cycP f n m) ∧ (∀ b, b < m → ∀ s v q, Back f b s v q → t ≤ s) ∧ ∀ b, b < m → ∀ v q, Back f b t v q → cycP f n m = q ∨ lexB (cycP f n m) q = true
  | 0 => .inl ⟨rfl, fun a h => absurd h (by omega)⟩
  | m + 1 => by
    rw [cycP_next]
    have hlen : ∀ {a t u p}, Back f a t u p → p.length = t + 1 := fun h => h.1.1
    rcases walkP_spec hf m with ⟨t, u, hw, hu, hno, hbest⟩ | ⟨he, hno⟩
    · have hwl := hw.1
      have hmin : ∀ s v q, Back f m s v q → t ≤ s := fun s v q hq => by
        rcases Nat.lt_or_ge s t with hlt | hge
        · have := hno s v q hlt hq.1
          rw [hq.2] at this
          cases this
        · exact hge
      rcases cycP_inv hf m with ⟨h1, h2⟩ | ⟨a, t0, u0, ham, hb, hm0, hl0⟩
      · have hc : betterC (cycP f n m) (walkP f n m) = walkP f n m := by
          unfold betterC
          rw [h1, hwl]
          simp
        rw [hc]
        refine .inr ⟨m, t, u, by omega, ⟨hw, hu⟩, fun b hb s v q hq => ?_, fun b hb v q hq => ?_⟩
        · rcases Nat.lt_or_ge b m with hlt | hge
          · exact absurd hq (h2 b hlt s v q)
          · obtain rfl : b = m := by omega
            exact hmin s v q hq
        · rcases Nat.lt_or_ge b m with hlt | hge
          · exact absurd hq (h2 b hlt t v q)
          · obtain rfl : b = m := by omega
            exact hbest v q hq.1 hq.2
      · have hbl := hlen hb
        by_cases hlt : t < t0
        · have hc : betterC (cycP f n m) (walkP f n m) = walkP f n m := by
            unfold betterC
            rw [hwl, hbl, if_pos (by simp [hlt])]
          rw [hc]
          refine .inr ⟨m, t, u, by omega, ⟨hw, hu⟩, fun b hb s v q hq => ?_, fun b hb v q hq => ?_⟩
          · rcases Nat.lt_or_ge b m with hl | hge
            · have := hm0 b hl s v q hq; omega
            · obtain rfl : b = m := by omega
              exact hmin s v q hq
          · rcases Nat.lt_or_ge b m with hl | hge
            · have := hm0 b hl t v q hq; omega
            · obtain rfl : b = m := by omega
              exact hbest v q hq.1 hq.2
        · have hc : betterC (cycP f n m) (walkP f n m) = cycP f n m := by
            unfold betterC
            rw [hwl, hbl, if_neg (by simp; omega)]
          rw [hc]
          refine .inr ⟨a, t0, u0, by omega, hb, fun b hb2 s v q hq => ?_, fun b hb2 v q hq => ?_⟩
          · rcases Nat.lt_or_ge b m with hl | hge
            · exact hm0 b hl s v q hq
            · obtain rfl : b = m := by omega
              have := hmin s v q hq; omega
          · rcases Nat.lt_or_ge b m with hl | hge
            · exact hl0 b hl v q hq
            · obtain rfl : b = m := by omega
              exact .inr (lexB_head hb.1.2.2.1 hq.1.2.2.1 ham)
    · have hc : betterC (cycP f n m) (walkP f n m) = cycP f n m := by
        unfold betterC
        rw [he]
        simp
      rw [hc]
      rcases cycP_inv hf m with ⟨h1, h2⟩ | ⟨a, t0, u0, ham, hb, hm0, hl0⟩
      · refine .inl ⟨h1, fun a ha t u q => ?_⟩
        rcases Nat.lt_or_ge a m with hl | hge
        · exact h2 a hl t u q
        · obtain rfl : a = m := by omega
          exact noBack_all hf hno
      · refine .inr ⟨a, t0, u0, by omega, hb, fun b hb2 s v q hq => ?_, fun b hb2 v q hq => ?_⟩
        · rcases Nat.lt_or_ge b m with hl | hge
          · exact hm0 b hl s v q hq
          · obtain rfl : b = m := by omega
            exact absurd hq (noBack_all hf hno)
        · rcases Nat.lt_or_ge b m with hl | hge
          · exact hl0 b hl v q hq
          · obtain rfl : b = m := by omega
            exact absurd hq (noBack_all hf hno)

theorem cycP_first {f : Nat → Nat → Bool} {n : Nat} (hf : ∀ i j, f i j = true → i < n ∧ j < n) : FirstC f (cycP f n n) := by
  have hin : ∀ {b s v q}, Back f b s v q → b < n := fun {b s v q} h => (hf _ _ h.2).2
  rcases cycP_inv (fun i j h => (hf i j h).2) n with ⟨h1, h2⟩ | ⟨a, t, u, _, hb, h3, h4⟩
  · exact .inl ⟨h1, fun a t u q h => h2 a (hin h) t u q h⟩
  · exact .inr ⟨a, t, u, hb, fun b s v q h => h3 b (hin h) s v q h, fun b v q h => h4 b (hin h) v q h⟩
/-- There is but one. -/
theorem firstC_only {f : Nat → Nat → Bool} {p q : List Nat} (hp : FirstC f p) (hq : FirstC f q) : p = q := by
  rcases hp with ⟨rfl, h1⟩ | ⟨a, t, u, hb, hm, hl⟩
  · rcases hq with ⟨rfl, _⟩ | ⟨b, s, v, hb2, _, _⟩
    · rfl
    · exact absurd hb2 (h1 b s v q)
  · rcases hq with ⟨rfl, h1⟩ | ⟨b, s, v, hb2, hm2, hl2⟩
    · exact absurd hb (h1 a t u p)
    · have e : t = s := Nat.le_antisymm (hm b s v q hb2) (hm2 a t u p hb)
      subst e
      rcases hl b v q hb2 with h | h
      · exact h
      · rcases hl2 a u p hb with h2 | h2
        · exact h2.symm
        · have := lexB_tr h h2
          rw [lexB_irr] at this
          cases this
/-- A circle can begin at each of its places. -/
theorem back_turn {f : Nat → Nat → Bool} {a t u x : Nat} {l m : List Nat} (h : Back f a t u (l ++ x :: m)) : ∃ v, Back f x t v (x :: m ++ l) := by
  obtain ⟨⟨h1, h2, h3, h4⟩, h5⟩ := h
  cases l with
  | nil => exact ⟨u, ⟨by simpa using h1, by simpa using h2, by simp, by simpa using h4⟩, by simp at h3; rw [h3]; exact h5⟩
  | cons b l =>
    simp at h3
    subst h3
    rw [chainB_split, Bool.and_eq_true] at h2
    rw [lastD_split] at h4
    have hc : chainB f ((x :: m) ++ b :: l) = true := by
      rw [chainB_split, Bool.and_eq_true, chainB_app _ _ (by simp), Bool.and_eq_true]
      have h6 := h2.1
      rw [chainB_app _ _ (by simp), Bool.and_eq_true] at h6
      exact ⟨⟨h2.2, by rw [h4]; exact h5⟩, h6.1⟩
    refine ⟨lastD (b :: l), ⟨by simp at h1 ⊢; omega, hc, by simp, by rw [lastD_split]⟩, ?_⟩
    have h6 := h2.1
    rw [chainB_app _ _ (by simp), Bool.and_eq_true] at h6
    exact h6.2
theorem firstC_nodup {f : Nat → Nat → Bool} {p : List Nat} (h : FirstC f p) : p.Nodup := by
  rcases h with ⟨rfl, _⟩ | ⟨a, t, u, hb, hm, _⟩
  · exact List.nodup_nil
  · by_cases hd : p.Nodup
    · exact hd
    · obtain ⟨s, q, hs, hq⟩ := back_cut hb hd
      have := hm a s u q hq
      omega
theorem firstC_least {f : Nat → Nat → Bool} {p : List Nat} (h : FirstC f p) {a x : Nat} (ha : p.head? = some a) (hx : x ∈ p) : a ≤ x := by
  rcases h with ⟨rfl, _⟩ | ⟨b, t, u, hb, hm, hl⟩
  · simp at ha
  · obtain ⟨l, m, rfl⟩ := List.append_of_mem hx
    obtain ⟨v, hv⟩ := back_turn hb
    rcases Nat.lt_or_ge x a with hlt | hge
    · rcases hl x v _ hv with h | h
      · rw [h] at ha
        simp at ha
        omega
      · have h2 := lexB_head hv.1.2.2.1 ha hlt
        have := lexB_tr h h2
        rw [lexB_irr] at this
        cases this
    · exact hge
/-- A circle is found if something follows from itself. -/
theorem clos_back {f : Nat → Nat → Bool} {T : Nat → Nat → Prop} (hT : ∀ i j, T i j → (∀ (U : Nat → Nat → Prop), (∀ i j, f i j = true → U i j) → (∀ i j k, U i j → U j k → U i k) → U i j)) {a : Nat} (h : T a a) : ∃ t u p, Back f a t u p := by
  have key := hT a a h (fun i j => ∃ t u p, Way f i t u p ∧ f u j = true) (fun i j hij => ⟨0, i, [i], way_start i, hij⟩) (by
    rintro i j k ⟨t, u, p, hp, hu⟩ ⟨s, v, q, hq, hv⟩
    have : ∀ s v q, Way f j s v q → ∃ t2 p2, Way f i t2 v p2 := by
      intro s
      induction s with
      | zero =>
        intro v q hq
        obtain ⟨_, rfl⟩ := way_zero hq
        exact ⟨t + 1, _, way_next hp hu⟩
      | succ s ih =>
        intro v q hq
        obtain ⟨q0, u0, rfl, hq0, h0⟩ := way_back hq
        obtain ⟨t2, p2, h2⟩ := ih u0 q0 hq0
        exact ⟨t2 + 1, _, way_next h2 h0⟩
    obtain ⟨t2, p2, h2⟩ := this s v q hq
    exact ⟨t2, v, p2, h2, hv⟩)
  obtain ⟨t, u, p, hp, hu⟩ := key
  exact ⟨t, u, p, hp, hu⟩
theorem back_clos {f : Nat → Nat → Bool} {U : Nat → Nat → Prop} (h0 : ∀ i j, f i j = true → U i j) (ht : ∀ i j k, U i j → U j k → U i k) {a : Nat} : ∀ {t u : Nat} {p : List Nat}, Back f a t u p → U a a := by
  have key : ∀ (t : Nat) {u j : Nat} {p : List Nat}, Way f a t u p → f u j = true → U a j := by
    intro t
    induction t with
    | zero =>
      intro u j p h hj
      obtain ⟨_, rfl⟩ := way_zero h
      exact h0 _ _ hj
    | succ t ih =>
      intro u j p h hj
      obtain ⟨q, v, rfl, hq, hv⟩ := way_back h
      exact ht _ _ _ (ih hq hv) (h0 _ _ hj)
  intro t u p h
  exact key t h.1 h.2
end Go.Proofs.Ytmcnjmflmpfjlaa
