/- The order of contexts as plain data: what lies above what, by the places of heads. -/
import Derived.Test.YtmcnjmflmpfjlaaSel
import Derived.Test.YtmcnjmflmpfjlaaClo
namespace Go.Proofs.Ytmcnjmflmpfjlaa
open Go.RowKit

/-- The place of the head of a context. -/
def hcG (ids G : List Int) (a : Int) : Nat := placeI ids (labG ids G a)
/-- What is told of places by relations of the kind above. -/
def dirG (ids G : List Int) (l : List Ctx) (p q : Nat) : Bool := l.any fun r => decide (r.area = 1) && (decide (hcG ids G r.id = p) && decide (hcG ids G r.kind = q))
def upG (ids : List Int) (l : List Ctx) (a b : Int) : Bool := clos (dirG ids (groupsG ids l) l) ids.length (hcG ids (groupsG ids l) a) (hcG ids (groupsG ids l) b)
theorem hcG_lt {ids : List Int} {l : List Ctx} (h : okG ids l = true) {a : Int} (ha : a ∈ ids) : hcG ids (groupsG ids l) a < ids.length := by
  obtain ⟨j, _, hj, _⟩ := (headsG_all h).2 _ _ (labG_of (groupsG_len ids l) ha)
  exact (placeI_at (List.mem_of_getElem? hj)).2.1
theorem dirG_iff {ids G : List Int} {l : List Ctx} {p q : Nat} : dirG ids G l p q = true ↔ ∃ r ∈ l, r.area = 1 ∧ hcG ids G r.id = p ∧ hcG ids G r.kind = q := by
  simp [dirG]
theorem dirG_in {ids : List Int} {l : List Ctx} (h : okG ids l = true) : InN (dirG ids (groupsG ids l) l) ids.length := by
  intro p q hpq
  obtain ⟨r, hr, _, rfl, rfl⟩ := dirG_iff.1 hpq
  obtain ⟨h1, h2⟩ := (okG_parts h).2.2 r hr
  exact ⟨hcG_lt h h1, hcG_lt h h2⟩
theorem upG_direct {ids : List Int} {l : List Ctx} {r : Ctx} (hr : r ∈ l) (h1 : r.area = 1) : upG ids l r.id r.kind = true :=
  clos_direct (dirG_iff.2 ⟨r, hr, h1, rfl, rfl⟩)
theorem upG_trans {ids : List Int} {l : List Ctx} (h : okG ids l = true) {a b c : Int} (h1 : upG ids l a b = true) (h2 : upG ids l b c = true) : upG ids l a c = true :=
  clos_trans (dirG_in h) h1 h2
theorem upG_same {ids : List Int} {l : List Ctx} {a b c : Int} (h : labG ids (groupsG ids l) a = labG ids (groupsG ids l) b) : upG ids l a c = upG ids l b c ∧ upG ids l c a = upG ids l c b := by
  unfold upG hcG
  rw [h]
  exact ⟨rfl, rfl⟩
/-- Places of heads are the same only where heads are. -/
theorem hcG_inj {ids : List Int} {l : List Ctx} (h : okG ids l = true) {a b : Int} (ha : a ∈ ids) (hb : b ∈ ids) (e : hcG ids (groupsG ids l) a = hcG ids (groupsG ids l) b) : labG ids (groupsG ids l) a = labG ids (groupsG ids l) b := by
  obtain ⟨j, _, hj, _⟩ := (headsG_all h).2 _ _ (labG_of (groupsG_len ids l) ha)
  obtain ⟨k, _, hk, _⟩ := (headsG_all h).2 _ _ (labG_of (groupsG_len ids l) hb)
  have h1 := (placeI_at (List.mem_of_getElem? hj)).2.2
  have h2 := (placeI_at (List.mem_of_getElem? hk)).2.2
  unfold hcG at e
  rw [e, h2] at h1
  injection h1 with h1
  exact h1.symm
theorem upG_first {ids : List Int} {l : List Ctx} (h : okG ids l = true) {a b : Int} (ha : a ∈ ids) (hb : b ∈ ids) (hu : upG ids l a b = true) :
    ∃ r ∈ l, r.area = 1 ∧ labG ids (groupsG ids l) r.id = labG ids (groupsG ids l) a ∧ (labG ids (groupsG ids l) r.kind = labG ids (groupsG ids l) b ∨ upG ids l r.kind b = true) := by
  obtain ⟨x, h1, h2⟩ := clos_first (dirG_in h) hu
  obtain ⟨r, hr, h3, h4, rfl⟩ := dirG_iff.1 h1
  obtain ⟨h5, h6⟩ := (okG_parts h).2.2 r hr
  refine ⟨r, hr, h3, hcG_inj h h5 ha h4, ?_⟩
  rcases h2 with h2 | h2
  · exact .inl (hcG_inj h h6 hb h2)
  · exact .inr h2
/-- Without a relation of the kind above the groups are the same, and no more lies above. -/
theorem groupsG_drop {ids : List Int} {l : List Ctx} {k : Nat} {r : Ctx} (hr : l[k]? = some r) (h : r.area ≠ 2) : groupsG ids (l.take k ++ l.drop (k + 1)) = groupsG ids l := by
  have hk := (List.getElem?_eq_some_iff.1 hr)
  obtain ⟨hk, he⟩ := hk
  have e : l = l.take k ++ r :: l.drop (k + 1) := by
    rw [← he, ← List.drop_eq_getElem_cons hk, List.take_append_drop]
  unfold groupsG
  conv => rhs; rw [e]
  rw [List.foldl_append, List.foldl_append, List.foldl_cons, stepG, if_neg h]
theorem upG_drop {ids : List Int} {l : List Ctx} (hok : okG ids l = true) {k : Nat} {r : Ctx} (hr : l[k]? = some r) (h : r.area ≠ 2) {a b : Int} (hu : upG ids (l.take k ++ l.drop (k + 1)) a b = true) : upG ids l a b = true := by
  unfold upG at hu ⊢
  rw [groupsG_drop hr h] at hu
  refine clos_mono (dirG_in hok) (fun p q hpq => ?_) hu
  obtain ⟨s, hs, h1, h2⟩ := dirG_iff.1 hpq
  exact dirG_iff.2 ⟨s, (part_sub l k).subset hs, h1, h2⟩
/-- No context lies above itself. -/
def ordOkG (ids : List Int) (l : List Ctx) : Bool := okG ids l && ids.all fun a => !upG ids l a a
def ordG (ids : List Int) (l : List Ctx) : List (List Bool) := ids.map fun a => ids.map fun b => upG ids l a b
def ordOfG (ids : List Int) (l : List Ctx) : List (List Bool) := if okG ids l then ordG ids l else []
def aboveG (ids : List Int) (l : List Ctx) (a b : Int) : Bool := okG ids l && (decide (a ∈ ids) && (decide (b ∈ ids) && upG ids l a b))
theorem ordG_at {ids : List Int} {l : List Ctx} {i j : Nat} {a b : Int} (ha : ids[i]? = some a) (hb : ids[j]? = some b) : ∃ r, (ordG ids l)[i]? = some r ∧ r.length = ids.length ∧ r[j]? = some (upG ids l a b) := by
  refine ⟨ids.map fun b => upG ids l a b, ?_, by simp, ?_⟩
  · simp [ordG, ha]
  · simp [hb]
end Go.Proofs.Ytmcnjmflmpfjlaa
