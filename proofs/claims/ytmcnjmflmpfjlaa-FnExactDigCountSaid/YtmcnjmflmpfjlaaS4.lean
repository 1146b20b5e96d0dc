/- What the model's groups, heads and members are. -/
import Derived.Test.YtmcnjmflmpfjlaaS3
namespace Go.Proofs.Ytmcnjmflmpfjlaa
open Go.RowKit

def GroupsS (w : World) (ids : List Int) (rels : List Ctx) (e : Ending) (w2 : World) : Prop :=
  ∃ v, e = .returned (.tuple #[v, .bool (okG ids rels)]) ∧ Below w.heap.size w w2 ∧ w2.ownsRow w.heap.size 3 1 v (groupsOfG ids rels).length (cellsI (groupsOfG ids rels))
theorem intsS_empty {w w1 : World} {out : List Int} {g : Nat} (h : out = []) (hb : Below w.heap.size w w1) (hg : g = w1.heap.size) : IntsS w out (.returned (.slice (some ⟨g, 0, none⟩) 0 0)) (w1.alloc (.cells #[] 3)) := by
  subst h
  exact ⟨_, rfl, hb.alloc hb.size _, own_empty hb.size hg⟩
theorem app_both {W w4 : World} {o : Obj} {base base2 e e2 s s2 n n2 : Nat} {v v2 v4 : Value} {xs ys : List Value} (hown : W.ownsRow base e s v n xs) (hgr : W.ownsRow base2 e2 s2 v2 n2 ys) (hne : ∀ g, v2.ownBlock = some g → v.ownBlock ≠ some g)
    (hg : (W.alloc o).grownBy w4 v.ownBlock) (hat : v4.ownBlock = v.ownBlock ∨ v4.ownBlock = some (W.alloc o).heap.size) : w4.ownsRow base2 e2 s2 v2 n2 ys ∧ ∀ g, v2.ownBlock = some g → v4.ownBlock ≠ some g := by
  refine ⟨own_other (hgr.alloc o) (hown.alloc o) hne hg, fun g h1 h2 => ?_⟩
  rcases hat with h | h
  · exact hne g h1 (h.symm.trans h2)
  · rw [h] at h2
    injection h2 with h2
    have := (hgr.lt g h1).2
    simp at h2
    omega
end Go.Proofs.Ytmcnjmflmpfjlaa
