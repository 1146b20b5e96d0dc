/- The model's walk step by step: what its paths keep. Plain data. -/
import Derived.Test.YtmcnjmflmpfjlaaDoorPe
namespace Go.Proofs.YtmcnjmflmpfjlaaDoor

/-- Paths of one length over the places below n, no two with the same end. -/
def PS (n len : Nat) (ps : List (List Nat)) : Prop := (∀ p ∈ ps, p.length = len ∧ ∀ x ∈ p, x < n) ∧ (ps.map lastD).Nodup
theorem lastD_mem : ∀ {p : List Nat}, p ≠ [] → lastD p ∈ p
  | [], h => absurd rfl h
  | [a], _ => by simp [lastD]
  | a :: b :: p, _ => List.mem_cons_of_mem _ (lastD_mem (p := b :: p) (by simp))
theorem PS.small {n len : Nat} {ps : List (List Nat)} (h : PS n (len + 1) ps) : ps.length ≤ n := by
  have := nodup_le n (ps.map lastD) h.2 (fun x hx => by
    obtain ⟨p, hp, rfl⟩ := List.mem_map.1 hx
    have h1 := h.1 p hp
    exact h1.2 _ (lastD_mem (by rintro rfl; simp at h1)))
  simpa using this
theorem ps_nil (n len : Nat) : PS n len [] := ⟨by simp, by simp⟩
theorem ps_one {n a : Nat} (ha : a < n) : PS n 1 [[a]] := ⟨by simp [ha], by simp⟩
theorem ps_add {f : Nat → Nat → Bool} {n len j : Nat} {ps nx : List (List Nat)} {p : List Nat} (hp : p.length = len + 1 ∧ ∀ x ∈ p, x < n) (hj : j < n) (hn : PS n (len + 1 + 1) nx) : PS n (len + 1 + 1) (addC f ps nx (p, j)) := by
  unfold addC
  split
  · rename_i h
    simp only [Bool.and_eq_true, Bool.not_eq_true'] at h
    obtain ⟨_, _, hm⟩ := h
    refine ⟨fun q hq => ?_, ?_⟩
    · rcases List.mem_append.1 hq with hq | hq
      · exact hn.1 q hq
      · have e : q = p ++ [j] := by simpa using hq
        subst e
        refine ⟨by simp [hp.1], fun x hx => ?_⟩
        rcases List.mem_append.1 hx with hx | hx
        · exact hp.2 x hx
        · have : x = j := by simpa using hx
          omega
    · rw [List.map_append, List.nodup_append]
      refine ⟨hn.2, by simp, fun x hx y hy e => ?_⟩
      have hy2 : y = j := by simpa [lastD_app] using hy
      obtain ⟨q, hq, hl⟩ := List.mem_map.1 hx
      have hq1 := hn.1 q hq
      have hmem := lastD_mem (p := q) (by rintro rfl; simp at hq1)
      have : metB nx j = true := List.any_eq_true.2 ⟨q, hq, by
        have e2 : j = lastD q := by rw [hl, e, hy2]
        rw [decide_eq_true_eq, e2]
        exact hmem⟩
      rw [hm] at this
      cases this
  · exact hn
/-- The longer paths that the first i paths give. -/
def nxA (f : Nat → Nat → Bool) (n : Nat) (ps : List (List Nat)) (i : Nat) : List (List Nat) := (prs (ps.take i) n).foldl (addC f ps) []
/-- And those that the path p gives over the places below j. -/
def nxB (f : Nat → Nat → Bool) (n : Nat) (ps : List (List Nat)) (i : Nat) (p : List Nat) (j : Nat) : List (List Nat) := ((List.range j).map fun b => (p, b)).foldl (addC f ps) (nxA f n ps i)
section
variable {f : Nat → Nat → Bool} {n i j len : Nat} {ps : List (List Nat)} {p : List Nat}
theorem nxA_zero (f : Nat → Nat → Bool) (n : Nat) (ps : List (List Nat)) : nxA f n ps 0 = [] := by simp [nxA, prs]
theorem nxB_zero (f : Nat → Nat → Bool) (n : Nat) (ps : List (List Nat)) (i : Nat) (p : List Nat) : nxB f n ps i p 0 = nxA f n ps i := by simp [nxB]
theorem nxB_next (f : Nat → Nat → Bool) (n : Nat) (ps : List (List Nat)) (i : Nat) (p : List Nat) (j : Nat) : nxB f n ps i p (j + 1) = addC f ps (nxB f n ps i p j) (p, j) := by
  unfold nxB
  rw [List.range_succ, List.map_append, List.foldl_append]
  rfl
theorem nxA_next (hp : ps[i]? = some p) : nxA f n ps (i + 1) = nxB f n ps i p n := by
  unfold nxA nxB nxA
  rw [List.take_add_one, hp]
  unfold prs
  rw [List.flatMap_append, List.foldl_append]
  simp [List.flatMap]
theorem nxA_all (f : Nat → Nat → Bool) (n : Nat) (ps : List (List Nat)) : nxA f n ps ps.length = nextP f n ps := by
  unfold nxA nextP
  rw [List.take_length]
theorem nxB_ps (hA : PS n (len + 1 + 1) (nxA f n ps i)) (hp : p.length = len + 1 ∧ ∀ x ∈ p, x < n) : ∀ j, j ≤ n → PS n (len + 1 + 1) (nxB f n ps i p j)
  | 0, _ => by rw [nxB_zero]; exact hA
  | j + 1, h => by
    rw [nxB_next]
    exact ps_add hp (by omega) (nxB_ps hA hp j (by omega))
theorem walk_found {a m : Nat} (hp : ps[i]? = some p) (hc : f (lastD p) a = true) (hno : ∀ (k : Nat) (q : List Nat), k < i → ps[k]? = some q → f (lastD q) a = false) : walkL f n a (m + 1) ps = p := by
  have hfd : ps.find? (fun p => f (lastD p) a) = some p := by
    rw [List.find?_eq_some_iff_append]
    obtain ⟨hi, he⟩ := List.getElem?_eq_some_iff.1 hp
    refine ⟨hc, ps.take i, ps.drop (i + 1), ?_, fun q hq => ?_⟩
    · rw [← he, ← List.drop_eq_getElem_cons hi, List.take_append_drop]
    · obtain ⟨k, hk⟩ := List.mem_iff_getElem?.1 hq
      rw [List.getElem?_take] at hk
      split at hk
      · rename_i hki
        rw [hno k q hki hk]; rfl
      · cases hk
  rw [walkL, hfd]
theorem walk_next {a m : Nat} (hno : ∀ (k : Nat) (q : List Nat), k < ps.length → ps[k]? = some q → f (lastD q) a = false) : walkL f n a (m + 1) ps = walkL f n a m (nextP f n ps) := by
  have hfd : ps.find? (fun p => f (lastD p) a) = none := by
    rw [List.find?_eq_none]
    intro q hq
    obtain ⟨k, hk⟩ := List.mem_iff_getElem?.1 hq
    rw [hno k q (List.getElem?_eq_some_iff.1 hk).1 hk]
    simp
  rw [walkL, hfd]
end
end Go.Proofs.YtmcnjmflmpfjlaaDoor
