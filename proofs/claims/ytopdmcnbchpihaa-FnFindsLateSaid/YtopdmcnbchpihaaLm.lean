/- What the model's list of what lies above or below a set is. -/
import Derived.Test.YtopdmcnbchpihaaSs
import Derived.Test.YtopdmcnbchpihaaUu
import Derived.Test.YtopdmcnbchpihaaPe
namespace Go.Proofs.Ytopdmcnbchpihaa
open Go.RowKit

/-- No block of the table is the slice's. -/
def FarV (m : Value) (vs : List Value) (v : Value) : Prop :=
  (∀ g, m.ownBlock = some g → v.ownBlock ≠ some g) ∧ ∀ (i : Nat) (u : Value) (g : Nat), vs[i]? = some u → u.ownBlock = some g → v.ownBlock ≠ some g
theorem FarV.of_own {α : Type} {enc : α → Value} {W w0 : World} {base base2 e s n : Nat} {e1 e2 : TypeId} {m v : Value} {vs xs : List Value} {L : List (List α)} (h0 : w0.ownsRow base e s v n xs) (h : OwnV enc W base2 e1 e2 m vs L) (hb : w0.heap.size ≤ base2) : FarV m vs v :=
  ⟨own_far2 h0 h.out hb, fun i u g hu => by
    obtain ⟨r, _, ho⟩ := h.at_ hu
    exact own_far2 h0 ho hb g⟩
theorem OwnV.both {α : Type} {enc : α → Value} {W w4 : World} {o : Obj} {base base2 e s n : Nat} {e1 e2 : TypeId} {m v v4 : Value} {vs xs : List Value} {L : List (List α)} (hown : W.ownsRow base e s v n xs) (h : OwnV enc W base2 e1 e2 m vs L) (hne : FarV m vs v)
    (hg : (W.alloc o).grownBy w4 v.ownBlock) (hat : v4.ownBlock = v.ownBlock ∨ v4.ownBlock = some (W.alloc o).heap.size) : OwnV enc w4 base2 e1 e2 m vs L ∧ FarV m vs v4 := by
  have h1 := app_both hown h.out hne.1 hg hat
  refine ⟨⟨h.len, h1.1, fun i r hr => ?_, h.far, h.apart⟩, h1.2, fun i u g hu => ?_⟩
  · obtain ⟨u, hu, ho⟩ := h.row i r hr
    exact ⟨u, hu, (app_both hown ho (fun g => hne.2 i u g hu) hg hat).1⟩
  · obtain ⟨r, _, ho⟩ := h.at_ hu
    exact (app_both hown ho (fun g => hne.2 i u g hu) hg hat).2 g
/-- What one context k of the set says of x. -/
def lkB (ids : List Int) (l : List Ctx) (set : List Int) (down : Bool) (x k : Int) : Bool := decide (k ∈ set) && ((upG ids l x k && !down) || (upG ids l k x && down))
theorem any_next {α : Type} {p : α → Bool} {l : List α} {k : Nat} {x : α} (h : l[k]? = some x) : (l.take (k + 1)).any p = ((l.take k).any p || p x) := by
  rw [List.take_add_one, h]
  simp
theorem filter_next {α : Type} {p : α → Bool} {l : List α} {k : Nat} {x : α} (h : l[k]? = some x) : (l.take (k + 1)).filter p = (l.take k).filter p ++ (if p x then [x] else []) := by
  rw [List.take_add_one, h, List.filter_append]
  cases hp : p x <;> simp [hp]
end Go.Proofs.Ytopdmcnbchpihaa
