/- What the model's order is. -/
import Derived.Test.YtpkmnigkcefnpaaDoorU2
import Derived.Deep.RegionHeld3
namespace Go.Proofs.YtpkmnigkcefnpaaDoor
open Go.RowKit

theorem placeG {ids : List Int} {l : List Ctx} (h : okG ids l = true) {i : Nat} {a x : Int} (ha : ids[i]? = some a) (hx : (groupsG ids l)[i]? = some x) : labG ids (groupsG ids l) a = x := labG_at (okG_parts h).1 ha hx
theorem ordG_len (ids : List Int) (l : List Ctx) : (ordG ids l).length = ids.length := by simp [ordG]
theorem ordG_next {ids : List Int} {l : List Ctx} {k : Nat} {a : Int} (ha : ids[k]? = some a) : (ordG ids l).take k ++ [ids.map fun b => upG ids l a b] = (ordG ids l).take (k + 1) := by
  rw [List.take_add_one]
  simp [ordG, ha]
theorem rowG_next {ids : List Int} {f : Int → Bool} {k : Nat} {b : Int} (hb : ids[k]? = some b) : ((ids.take k).map f).map encB ++ [encB (f b)] = ((ids.take (k + 1)).map f).map encB := by
  rw [List.take_add_one, hb]
  simp
theorem reads_bool {w : World} {x : Bool} {t : TypeId} {B : Nat} (hB : w.heap.size < B) : Reads (w.alloc (.cells #[.bool x] t)) B 1 (some ⟨w.heap.size, 0, none⟩) 1 [encB x] := reads_val hB
theorem one_bool {x : Bool} : ∀ u ∈ [encB x], u.oneCell' = true := by
  intro u hu
  simp at hu
  subst hu
  rfl
/-- An order in memory of the call's own. -/
def OrdPost (w : World) (L : List (List Bool)) (e : Ending) (w2 : World) : Prop :=
  ∃ v vs, e = .returned v ∧ Below w.heap.size w w2 ∧ OwnV encB w2 w.heap.size 4 77 v vs L
end Go.Proofs.YtpkmnigkcefnpaaDoor
