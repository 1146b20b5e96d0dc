/- What the model's least relations are. -/
import Derived.Test.YtfeodclacjolaaaMp
import Derived.Test.YtfeodclacjolaaaUu
import Derived.Test.YtfeodclacjolaaaB2
import Derived.Test.YtfeodclacjolaaaPe
namespace Go.Proofs.Ytfeodclacjolaaa
open Go.RowKit

def outI (ids G : List Int) (f : Nat → Nat → Bool) (i : Nat) : List Ctx := putAll lessR (candG ids G f i) []
def outJ (ids G : List Int) (f : Nat → Nat → Bool) (i j : Nat) : List Ctx := putAll lessR (candG ids G f i ++ (eqsG ids G i ++ abvG ids f i j)) []
section
variable {ids G : List Int} {f : Nat → Nat → Bool} {i j : Nat}
theorem put_one (c : Ctx) (o : List Ctx) : putAll lessR [c] o = insO lessR c o := rfl
theorem outI_eq (h : G.getD i 0 ≠ ids.getD i 0) : outJ ids G f i 0 = insO lessR ⟨G.getD i 0, ids.getD i 0, 2⟩ (outI ids G f i) := by
  have e : eqsG ids G i ++ abvG ids f i 0 = [⟨G.getD i 0, ids.getD i 0, 2⟩] := by unfold eqsG abvG; rw [if_neg h]; rfl
  unfold outJ outI
  rw [e, putAll_app]
  rfl
theorem outI_no (h : G.getD i 0 = ids.getD i 0) : outJ ids G f i 0 = outI ids G f i := by
  have e : eqsG ids G i ++ abvG ids f i 0 = [] := by unfold eqsG abvG; rw [if_pos h]; rfl
  unfold outJ outI
  rw [e, List.append_nil]
theorem outJ_yes (h : covB f ids.length i j = true) : outJ ids G f i (j + 1) = insO lessR ⟨ids.getD i 0, ids.getD j 0, 1⟩ (outJ ids G f i j) := by
  unfold outJ
  rw [abvG_next, if_pos h, ← List.append_assoc, ← List.append_assoc, ← List.append_assoc, putAll_app]
  rfl
theorem outJ_no (h : covB f ids.length i j = false) : outJ ids G f i (j + 1) = outJ ids G f i j := by
  unfold outJ
  rw [abvG_next, if_neg (by rw [h]; exact Bool.false_ne_true), List.append_nil]
theorem outJ_end : outJ ids G f i ids.length = outI ids G f (i + 1) := by
  unfold outJ outI
  rw [candG_next]
theorem eqs_len : (eqsG ids G i).length ≤ 1 := by
  unfold eqsG
  split <;> simp
theorem abv_len : (abvG ids f i j).length ≤ j := by
  unfold abvG
  rw [List.length_map]
  exact Nat.le_trans (List.length_filter_le _ _) (by rw [List.length_range]; exact Nat.le_refl _)
theorem cand_len : ∀ i, (candG ids G f i).length ≤ i * (ids.length + 1)
  | 0 => by simp [candG]
  | i + 1 => by
    have h1 := cand_len i
    have h2 := eqs_len (ids := ids) (G := G) (i := i)
    have h3 := abv_len (ids := ids) (f := f) (i := i) (j := ids.length)
    rw [candG_next, List.length_append, List.length_append, Nat.add_mul]
    omega
theorem outI_len (hn : ids.length ≤ 12) (hi : i ≤ ids.length) : (outI ids G f i).length ≤ 200 := by
  unfold outI
  rw [putAll_len, List.length_nil]
  have h1 := cand_len (ids := ids) (G := G) (f := f) i
  have h2 : i * (ids.length + 1) ≤ 12 * 13 := Nat.mul_le_mul (by omega) (by omega)
  omega
theorem outJ_len (hn : ids.length ≤ 12) (hi : i ≤ ids.length) (hj : j ≤ ids.length) : (outJ ids G f i j).length ≤ 200 := by
  unfold outJ
  rw [putAll_len, List.length_nil, List.length_append, List.length_append]
  have h1 := cand_len (ids := ids) (G := G) (f := f) i
  have h2 : i * (ids.length + 1) ≤ 12 * 13 := Nat.mul_le_mul (by omega) (by omega)
  have h3 := eqs_len (ids := ids) (G := G) (i := i)
  have h4 := abv_len (ids := ids) (f := f) (i := i) (j := j)
  omega
end
def ListR (w : World) (m : List Ctx) (e : Ending) (w2 : World) : Prop := ∃ v, e = .returned v ∧ Below w.heap.size w w2 ∧ w2.ownsRow w.heap.size 106 3 v m.length (cellsC m)
end Go.Proofs.Ytfeodclacjolaaa
