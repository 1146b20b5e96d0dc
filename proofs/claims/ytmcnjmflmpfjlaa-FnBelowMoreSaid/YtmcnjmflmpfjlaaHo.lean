/- The law's small function on heads, and parts of lists of numbers. -/
import Derived.Test.YtmcnjmflmpfjlaaInts
import Derived.Test.YtmcnjmflmpfjlaaPe
namespace Go.Proofs.Ytmcnjmflmpfjlaa
open Go.RowKit

theorem cellsI_join (l m : List Int) : cellsI (l ++ m) = cellsI l ++ cellsI m := by simp [cellsI]
theorem Reads.headI {w : World} {B n k : Nat} {A : Option Addr} {l : List Int} (h : Reads w B 1 A n (cellsI l)) (hk : k ≤ n) : Reads w B 1 A k (cellsI (l.take k)) := by
  have hl : l.length = n := by have := h.1; rw [length_cellsI] at this; omega
  refine ⟨by rw [length_cellsI, List.length_take]; omega, fun hn => ?_⟩
  obtain ⟨b, off, e, hb, hc⟩ := h.2 (by omega)
  refine ⟨b, off, e, hb, fun j u hu => hc j u ?_⟩
  rw [cellsI, List.map_take, List.getElem?_take] at hu
  split at hu
  · exact hu
  · cases hu
theorem Reads.tailI {w : World} {B n k : Nat} {A A2 : Option Addr} {l : List Int} (h : Reads w B 1 A n (cellsI l)) (hk : k ≤ n) (hA : 0 < n - k → A2 = A.map (·.add k)) : Reads w B 1 A2 (n - k) (cellsI (l.drop k)) := by
  have hl : l.length = n := by have := h.1; rw [length_cellsI] at this; omega
  refine ⟨by rw [length_cellsI, List.length_drop]; omega, fun hn => ?_⟩
  obtain ⟨b, off, e, hb, hc⟩ := h.2 (by omega)
  refine ⟨b, off + k, ?_, hb, fun j u hu => ?_⟩
  · rw [hA hn, e]
    simp only [Option.map, Addr.add]
    split
    · rename_i h0; rw [h0]; rfl
    · rfl
  · rw [Nat.add_assoc]
    refine hc _ u ?_
    rw [cellsI, List.map_drop, List.getElem?_drop] at hu
    exact hu

def headL (ids g : List Int) (id : Int) : Int := if id ∈ ids then labG ids g id else 0
theorem headL_at {ids g : List Int} {id y : Int} {k : Nat} (hm : ∀ (j : Nat) (c : Int), j < k → ids[j]? = some c → c ≠ id) (hc : ids[k]? = some id) (hy : g[k]? = some y) : headL ids g id = y := by
  unfold headL labG placeI
  rw [if_pos (List.mem_of_getElem? hc), findI_at ids id k hm hc, Int.toNat_natCast, hy]
  rfl
theorem headL_none {ids g : List Int} {id : Int} (hm : ∀ (j : Nat) (c : Int), ids[j]? = some c → c ≠ id) : headL ids g id = 0 := by
  unfold headL
  rw [if_neg]
  intro h
  obtain ⟨j, hj⟩ := List.mem_iff_getElem?.1 h
  exact hm j id hj rfl
end Go.Proofs.Ytmcnjmflmpfjlaa
