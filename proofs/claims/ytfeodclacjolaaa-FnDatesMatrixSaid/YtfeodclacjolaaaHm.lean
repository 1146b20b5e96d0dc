/- A heap of places in memory: what the program's methods of it do. -/
import Derived.Test.YtfeodclacjolaaaPe
import Derived.Test.YtfeodclacjolaaaVv
import Derived.Test.YtfeodclacjolaaaU5
import Derived.Handy
import Derived.BigRegion
namespace Go.Proofs.Ytfeodclacjolaaa
open Go.RowKit

theorem nat_cell {w : World} {base g n cap : Nat} {e : TypeId} {L : List Nat} {k x : Nat} (h : w.ownsRow base e 1 (.slice (some ⟨g, 0, none⟩) n cap) n (L.map encN)) (hx : L[k]? = some x) (hk : k < n) : w.cell? ⟨g, k, none⟩ = some (.int .i64 (x : Int)) ∧ w.frozen? ⟨g, k, none⟩ = false := by
  refine ⟨(h.cellAt k (by omega)).trans ?_, h.frozenAt k⟩
  rw [List.getElem?_map, hx]
  rfl
theorem nat_store {w : World} {base g n cap : Nat} {e : TypeId} {L : List Nat} (h : w.ownsRow base e 1 (.slice (some ⟨g, 0, none⟩) n cap) n (L.map encN)) (k x : Nat) : (w.setCell ⟨g, k, none⟩ (.int .i64 (x : Int))).ownsRow base e 1 (.slice (some ⟨g, 0, none⟩) n cap) n ((L.set k x).map encN) := by
  have h1 := (h.stored k (encN x)).1
  rw [List.map_set]
  exact h1
theorem atL_over {L : List Nat} {k : Nat} (h : L.length ≤ k) : atL L k = 0 := by simp [atL, h]
theorem grown_step {w w2 w3 : World} {g : Nat} (h : w.grownBy w2 (some g)) (hb : Below w2.heap.size w2 w3) : w.grownBy w3 (some g) := h.trans (grown_of_below hb _)
/-- The heap's block holds the slice of a row of the call's own. -/
def HeapPost (w : World) (base g cap n m : Nat) (L : List Nat) (w2 : World) : Prop :=
  ∃ L2 : List Nat, L2.Perm L ∧ HeapF (atL L2) m ∧ (∀ k, m ≤ k → atL L2 k = atL L k) ∧ w.grownBy w2 (some g) ∧ w2.ownsRow base 3 1 (.slice (some ⟨g, 0, none⟩) n cap) n (L2.map encN)
end Go.Proofs.Ytfeodclacjolaaa
