/- What the model's walk asks of its paths, and whether one context lies above another. -/
import Derived.Test.YtfeodclacjolaaaUu
import Derived.Test.YtfeodclacjolaaaPe
namespace Go.Proofs.Ytfeodclacjolaaa
open Go.RowKit

def encN (n : Nat) : Value := .int .i64 (n : Int)
theorem cells_nat (r : List Nat) : r.map encN = cellsI (r.map Int.ofNat) := by
  unfold cellsI
  rw [List.map_map]
  rfl
theorem metB_no {ps : List (List Nat)} {j : Nat} (h : ∀ (k : Nat) (p : List Nat), ps[k]? = some p → j ∉ p) : metB ps j = false := by
  unfold metB
  rw [List.any_eq_false]
  intro p hp
  obtain ⟨k, hk⟩ := List.mem_iff_getElem?.1 hp
  simp [h k p hk]
theorem metB_yes {ps : List (List Nat)} {j k : Nat} {p : List Nat} (hk : ps[k]? = some p) (h : j ∈ p) : metB ps j = true := by
  unfold metB
  rw [List.any_eq_true]
  exact ⟨p, List.mem_of_getElem? hk, by simp [h]⟩
theorem findN (p : List Nat) (j : Nat) : decide (0 ≤ findI (p.map Int.ofNat) (j : Int)) = decide (j ∈ p) := by
  rw [findI_mem, decide_eq_decide]
  constructor
  · intro h
    obtain ⟨x, hx, e⟩ := List.mem_map.1 h
    have : x = j := Int.ofNat.inj e
    exact this ▸ hx
  · intro h
    exact List.mem_map.2 ⟨j, h, rfl⟩
end Go.Proofs.Ytfeodclacjolaaa
