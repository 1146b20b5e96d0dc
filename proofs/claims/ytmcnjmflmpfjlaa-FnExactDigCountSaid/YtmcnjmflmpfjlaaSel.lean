/- Heads and members of groups as plain data: the contexts at whose places a label fits. -/
import Derived.Test.YtmcnjmflmpfjlaaGrp
namespace Go.Proofs.Ytmcnjmflmpfjlaa
open Go.RowKit

/-- The contexts ids[i] of which p (g[i], ids[i]) holds. -/
def selG (p : Int → Int → Bool) (ids g : List Int) : List Int := ((g.zip ids).filter fun q => p q.1 q.2).map Prod.snd
theorem selG_nil (p : Int → Int → Bool) (ids : List Int) : selG p ids [] = [] := by simp [selG]
theorem selG_next {p : Int → Int → Bool} {ids g : List Int} {k : Nat} {x y : Int} (hx : g[k]? = some x) (hy : ids[k]? = some y) :
    selG p (ids.take (k + 1)) (g.take (k + 1)) = selG p (ids.take k) (g.take k) ++ (if p x y = true then [y] else []) := by
  have h1 := (List.getElem?_eq_some_iff.1 hx).1
  have h2 := (List.getElem?_eq_some_iff.1 hy).1
  unfold selG
  rw [List.take_add_one, List.take_add_one, hx, hy, Option.toList, Option.toList, List.zip_append (by rw [List.length_take, List.length_take]; omega), List.filter_append, List.map_append]
  congr 1
  simp only [List.zip_cons_cons, List.zip_nil_right]
  cases hp : p x y <;> simp [hp]
theorem selG_yes {p : Int → Int → Bool} {ids g : List Int} {k : Nat} {x y : Int} (hx : g[k]? = some x) (hy : ids[k]? = some y) (h : p x y = true) :
    selG p (ids.take (k + 1)) (g.take (k + 1)) = selG p (ids.take k) (g.take k) ++ [y] := by rw [selG_next hx hy, if_pos h]
theorem selG_no {p : Int → Int → Bool} {ids g : List Int} {k : Nat} {x y : Int} (hx : g[k]? = some x) (hy : ids[k]? = some y) (h : p x y = false) :
    selG p (ids.take (k + 1)) (g.take (k + 1)) = selG p (ids.take k) (g.take k) := by rw [selG_next hx hy, h]; simp
theorem selG_len (p : Int → Int → Bool) (ids g : List Int) : (selG p ids g).length ≤ g.length := by
  unfold selG
  rw [List.length_map]
  refine Nat.le_trans (List.length_filter_le _ _) ?_
  rw [List.length_zip]; omega
theorem selG_all (p : Int → Int → Bool) {ids g : List Int} (h : g.length ≤ ids.length) : selG p (ids.take g.length) (g.take g.length) = selG p ids g := by
  unfold selG
  rw [List.zip_eq_zip_take_min (l₁ := g) (l₂ := ids), Nat.min_eq_left h]
theorem groupsOfG_len (ids : List Int) (rels : List Ctx) : (groupsOfG ids rels).length ≤ ids.length := by
  unfold groupsOfG; split
  · rw [groupsG_len]; exact Nat.le_refl _
  · simp
def sameP (x y : Int) : Bool := decide (x = y)
def headsG (ids : List Int) (rels : List Ctx) : List Int := selG sameP ids (groupsOfG ids rels)
def toP (a : Int) (x _y : Int) : Bool := decide (x = a)
def membersG (ids : List Int) (rels : List Ctx) (id : Int) : List Int := if okG ids rels && decide (id ∈ ids) then selG (toP (labG ids (groupsG ids rels) id)) ids (groupsG ids rels) else []
end Go.Proofs.Ytmcnjmflmpfjlaa
