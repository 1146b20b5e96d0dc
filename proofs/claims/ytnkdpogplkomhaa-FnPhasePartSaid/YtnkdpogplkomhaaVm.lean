/- Whether the model finds an order of digging valid. -/
import Derived.Test.YtnkdpogplkomhaaFm
import Derived.Test.YtnkdpogplkomhaaUu
namespace Go.Proofs.Ytnkdpogplkomhaa
open Go.RowKit

/-- The order of the places of a list of numbers. -/
def ordF (ids : List Int) (l : List Ctx) (i j : Nat) : Bool := decide (i < ids.length) && (decide (j < ids.length) && upG ids l (ids.getD i 0) (ids.getD j 0))
theorem ordF_tab (ids : List Int) (l : List Ctx) : tabN ids.length (ordF ids l) = ordG ids l := by
  have key : ∀ {β : Type} (g : Int → β), ids.map g = (List.range ids.length).map fun i => g (ids.getD i 0) := by
    intro β g
    refine List.ext_getElem? fun i => ?_
    by_cases hi : i < ids.length
    · simp [hi]
    · simp [hi]
  unfold ordG tabN
  rw [key]
  refine List.map_congr_left fun i hi => ?_
  rw [key]
  refine List.map_congr_left fun j hj => ?_
  simp [ordF, List.mem_range.1 hi, List.mem_range.1 hj]
theorem ordF_in {ids : List Int} {l : List Ctx} {i j : Nat} (h : ordF ids l i j = true) : i < ids.length ∧ j < ids.length ∧ upG ids l (ids.getD i 0) (ids.getD j 0) = true := by
  simpa [ordF] using h
theorem ordF_irr {ids : List Int} {l : List Ctx} (h : ordOkG ids l = true) (i : Nat) : ordF ids l i i = false := by
  rw [← Bool.not_eq_true]
  intro hf
  obtain ⟨h1, _, h3⟩ := ordF_in hf
  unfold ordOkG at h
  have h4 := List.all_eq_true.1 (Bool.and_eq_true_iff.1 h).2 (ids.getD i 0) (by simp [h1])
  rw [h3] at h4
  exact absurd h4 (by simp)
theorem ordF_tr {ids : List Int} {l : List Ctx} (h : okG ids l = true) (i j k : Nat) (h1 : ordF ids l i j = true) (h2 : ordF ids l j k = true) : ordF ids l i k = true := by
  obtain ⟨a1, a2, a3⟩ := ordF_in h1
  obtain ⟨b1, b2, b3⟩ := ordF_in h2
  have h3 := upG_trans h a3 b3
  simp only [ordF, a1, b2, h3, decide_true, Bool.true_and]
/-- Whether each number's place is free when its turn comes. -/
def digI (f : Nat → Nat → Bool) (ids : List Int) : (Nat → Bool) → List Int → Bool
  | _, [] => true
  | d, x :: xs => decide (x ∈ ids) && (freeB f ids.length d (placeI ids x) && digI f ids (dugB d (placeI ids x)) xs)
def dOf (ids xs : List Int) : Nat → Bool := xs.foldl (fun d x => dugB d (placeI ids x)) fun _ => false
def digOkG (ids : List Int) (l : List Ctx) (order : List Int) : Bool := ordOkG ids l && (decide (order.length = ids.length) && digI (ordF ids l) ids (fun _ => false) order)
theorem dOf_next {ids xs : List Int} {k : Nat} {x : Int} (h : xs[k]? = some x) : dOf ids (xs.take (k + 1)) = dugB (dOf ids (xs.take k)) (placeI ids x) := by
  unfold dOf
  rw [List.take_add_one, h, List.foldl_append]
  rfl
theorem drop_next {xs : List Int} {k : Nat} {x : Int} (h : xs[k]? = some x) : xs.drop k = x :: xs.drop (k + 1) := by
  obtain ⟨hk, e⟩ := List.getElem?_eq_some_iff.1 h
  rw [List.drop_eq_getElem_cons hk, e]
theorem row_dug {n at_ : Nat} (d : Nat → Bool) : ((rowN n d).map encB).set at_ (.bool true) = (rowN n (dugB d at_)).map encB := by
  rw [show (Value.bool true) = encB true from rfl, ← List.map_set, rowN_set]
  congr 1
  refine rowN_congr fun j _ => ?_
  unfold dugB
  by_cases h : j = at_ <;> simp [h]
end Go.Proofs.Ytnkdpogplkomhaa
