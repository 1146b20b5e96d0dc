/- The order over the places of all contexts, not of heads alone. Plain data. -/
import Derived.Test.YtmcnjmflmpfjlaaOg
import Derived.Test.YtmcnjmflmpfjlaaThr
namespace Go.Proofs.Ytmcnjmflmpfjlaa
open Go.RowKit

/-- What the group of a place lies directly above. -/
def dirA (ids G : List Int) (l : List Ctx) (i j : Nat) : Bool := l.any fun r => decide (r.area = 1) && (decide (G[placeI ids r.id]? = G[i]?) && decide (G[placeI ids r.kind]? = G[j]?))
/-- The place of the head of a place. -/
def hcI (ids G : List Int) (i : Nat) : Nat := placeI ids (G[i]?.getD 0)
theorem dirA_iff {ids G : List Int} {l : List Ctx} {i j : Nat} : dirA ids G l i j = true ↔ ∃ r ∈ l, r.area = 1 ∧ G[placeI ids r.id]? = G[i]? ∧ G[placeI ids r.kind]? = G[j]? := by
  simp [dirA]
section
variable {ids : List Int} {l : List Ctx}
theorem hcI_head (h : okG ids l = true) {i : Nat} (hi : i < ids.length) : ∃ (x : Int) (j : Nat), (groupsG ids l)[i]? = some x ∧ j ≤ i ∧ ids[j]? = some x ∧ (groupsG ids l)[j]? = some x ∧ hcI ids (groupsG ids l) i = j := by
  have hg : (groupsG ids l).length = ids.length := groupsG_len ids l
  obtain ⟨x, hx⟩ : ∃ x, (groupsG ids l)[i]? = some x := ⟨_, List.getElem?_eq_getElem (by omega)⟩
  obtain ⟨j, h1, h2, h3⟩ := (headsG_all h).2 i x hx
  refine ⟨x, j, hx, h1, h2, h3, ?_⟩
  unfold hcI
  rw [hx]
  exact placeI_own (okG_parts h).1 h2
theorem hcI_le (h : okG ids l = true) {i : Nat} (hi : i < ids.length) : hcI ids (groupsG ids l) i ≤ i := by
  obtain ⟨x, j, _, h1, _, _, e⟩ := hcI_head h hi
  omega
theorem hcI_self (h : okG ids l = true) {i : Nat} (hi : i < ids.length) : hcI ids (groupsG ids l) (hcI ids (groupsG ids l) i) = hcI ids (groupsG ids l) i := by
  obtain ⟨x, j, h0, h1, h2, h3, e⟩ := hcI_head h hi
  rw [e]
  unfold hcI
  rw [h3]
  exact placeI_own (okG_parts h).1 h2
theorem hcI_same (h : okG ids l = true) {i j : Nat} (hi : i < ids.length) (hj : j < ids.length) : hcI ids (groupsG ids l) i = hcI ids (groupsG ids l) j ↔ (groupsG ids l)[i]? = (groupsG ids l)[j]? := by
  obtain ⟨x, a, h0, _, h2, _, e⟩ := hcI_head h hi
  obtain ⟨y, b, i0, _, i2, _, e2⟩ := hcI_head h hj
  rw [e, e2, h0, i0]
  constructor
  · rintro rfl
    rw [h2] at i2
    exact i2
  · intro e3
    injection e3 with e3
    subst e3
    exact asc_eq (okG_parts h).1 h2 i2
theorem hcG_place {a : Int} (G : List Int) : hcG ids G a = hcI ids G (placeI ids a) := rfl
theorem dirA_heads (h : okG ids l = true) {i j : Nat} (hi : i < ids.length) (hj : j < ids.length) : dirA ids (groupsG ids l) l i j = dirG ids (groupsG ids l) l (hcI ids (groupsG ids l) i) (hcI ids (groupsG ids l) j) := by
  rw [Bool.eq_iff_iff, dirA_iff, dirG_iff]
  constructor
  · rintro ⟨r, hr, h1, h2, h3⟩
    obtain ⟨m1, m2⟩ := (okG_parts h).2.2 r hr
    exact ⟨r, hr, h1, (hcI_same h (placeI_at m1).2.1 hi).2 h2, (hcI_same h (placeI_at m2).2.1 hj).2 h3⟩
  · rintro ⟨r, hr, h1, h2, h3⟩
    obtain ⟨m1, m2⟩ := (okG_parts h).2.2 r hr
    exact ⟨r, hr, h1, (hcI_same h (placeI_at m1).2.1 hi).1 h2, (hcI_same h (placeI_at m2).2.1 hj).1 h3⟩
theorem dirA_in (h : okG ids l = true) : InN (dirA ids (groupsG ids l) l) ids.length := by
  intro i j hij
  obtain ⟨r, hr, _, h2, h3⟩ := dirA_iff.1 hij
  obtain ⟨m1, m2⟩ := (okG_parts h).2.2 r hr
  have hg : (groupsG ids l).length = ids.length := groupsG_len ids l
  rw [labG_of hg m1] at h2
  rw [labG_of hg m2] at h3
  have := (List.getElem?_eq_some_iff.1 h2.symm).1
  have := (List.getElem?_eq_some_iff.1 h3.symm).1
  omega
theorem dirG_own (h : okG ids l = true) {p q : Nat} (hpq : dirG ids (groupsG ids l) l p q = true) : hcI ids (groupsG ids l) p = p ∧ hcI ids (groupsG ids l) q = q := by
  obtain ⟨r, hr, _, rfl, rfl⟩ := dirG_iff.1 hpq
  obtain ⟨m1, m2⟩ := (okG_parts h).2.2 r hr
  exact ⟨hcI_self h (placeI_at m1).2.1, hcI_self h (placeI_at m2).2.1⟩
theorem clos_heads (h : okG ids l = true) {i j : Nat} (hi : i < ids.length) (hj : j < ids.length) :
    clos (dirA ids (groupsG ids l) l) ids.length i j = clos (dirG ids (groupsG ids l) l) ids.length (hcI ids (groupsG ids l) i) (hcI ids (groupsG ids l) j) := by
  rw [Bool.eq_iff_iff]
  constructor
  · intro hc
    refine clos_least (T := fun i j => clos (dirG ids (groupsG ids l) l) ids.length (hcI ids (groupsG ids l) i) (hcI ids (groupsG ids l) j) = true) (fun i j hij => ?_) (fun _ _ _ h1 h2 => clos_trans (dirG_in h) h1 h2) hc
    obtain ⟨h1, h2⟩ := dirA_in h i j hij
    rw [dirA_heads h h1 h2] at hij
    exact clos_direct hij
  · intro hc
    have key := clos_least (T := fun p q => (hcI ids (groupsG ids l) p = p ∧ p < ids.length) ∧ (hcI ids (groupsG ids l) q = q ∧ q < ids.length) ∧ ∀ i j, i < ids.length → j < ids.length → hcI ids (groupsG ids l) i = p → hcI ids (groupsG ids l) j = q → clos (dirA ids (groupsG ids l) l) ids.length i j = true)
      (fun p q hpq => ?_) (fun p q r h1 h2 => ?_) hc
    · exact key.2.2 i j hi hj rfl rfl
    · obtain ⟨h1, h2⟩ := dirG_own h hpq
      obtain ⟨h3, h4⟩ := dirG_in h p q hpq
      refine ⟨⟨h1, h3⟩, ⟨h2, h4⟩, fun i j hi hj e1 e2 => clos_direct ?_⟩
      rw [dirA_heads h hi hj, e1, e2]
      exact hpq
    · exact ⟨h1.1, h2.2.1, fun i j hi hj e1 e2 => clos_trans (dirA_in h) (h1.2.2 i q hi h1.2.1.2 e1 h1.2.1.1) (h2.2.2 q j h1.2.1.2 hj h1.2.1.1 e2)⟩
/-- The order of the contexts at two places. -/
theorem upA (h : okG ids l = true) {i j : Nat} {a b : Int} (ha : ids[i]? = some a) (hb : ids[j]? = some b) : clos (dirA ids (groupsG ids l) l) ids.length i j = upG ids l a b := by
  have hi := (List.getElem?_eq_some_iff.1 ha).1
  have hj := (List.getElem?_eq_some_iff.1 hb).1
  rw [clos_heads h hi hj]
  unfold upG
  rw [hcG_place, hcG_place, placeI_own (okG_parts h).1 ha, placeI_own (okG_parts h).1 hb]
/-- The first of the shortest circles is the same over all places. -/
theorem cycA (h : okG ids l = true) : cycP (dirA ids (groupsG ids l) l) ids.length ids.length = cycP (dirG ids (groupsG ids l) l) ids.length ids.length :=
  cyc_heads (dirG_in h) (dirA_in h) (fun _ hi => hcI_le h hi) (fun _ _ hi hj => dirA_heads h hi hj) (fun _ _ hij => dirG_own h hij)
/-- One relation more. -/
theorem dirA_next {G : List Int} {k : Nat} {r : Ctx} (hr : l[k]? = some r) (i j : Nat) : dirA ids G (l.take (k + 1)) i j = (dirA ids G (l.take k) i j || (decide (r.area = 1) && (decide (G[placeI ids r.id]? = G[i]?) && decide (G[placeI ids r.kind]? = G[j]?)))) := by
  unfold dirA
  rw [List.take_add_one, hr, List.any_append]
  simp
end
end Go.Proofs.Ytmcnjmflmpfjlaa
