/- What the program's lists of heads and of members are. -/
import Derived.Test.YtopdmcnbchpihaaGg
import Derived.Test.YtopdmcnbchpihaaPe
namespace Go.Proofs.Ytopdmcnbchpihaa
open Go.RowKit

theorem cellsI_append (l m : List Int) : cellsI (l ++ m) = cellsI l ++ cellsI m := by simp [cellsI]
def IntsPost (w : World) (out : List Int) (e : Ending) (w2 : World) : Prop :=
  ∃ v, e = .returned v ∧ Below w.heap.size w w2 ∧ w2.ownsRow w.heap.size 3 1 v out.length (cellsI out)
theorem intsPost_nil {w w2 : World} {out : List Int} (h : out = []) (hb : Below w.heap.size w w2) : IntsPost w out (.returned (.slice none 0 0)) w2 := by
  subst h
  exact ⟨_, rfl, hb, rfl, .inl ⟨rfl, rfl⟩⟩
end Go.Proofs.Ytopdmcnbchpihaa
