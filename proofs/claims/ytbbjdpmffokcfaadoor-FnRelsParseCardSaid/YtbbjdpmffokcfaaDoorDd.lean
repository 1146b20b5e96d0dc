/- The laws' draws of their inputs on relations. -/
import Derived.Test.YtbbjdpmffokcfaaDoorDl
namespace Go.Proofs.YtbbjdpmffokcfaaDoor
open Go.RowKit

/-- A list of relations was drawn, in memory of its own. -/
def DrewR (w : World) (v : Value) (l : List Ctx) (w2 : World) : Prop := w2.ownsRow w.heap.size 45 3 v l.length (cellsC l) ∧ l.length ≤ 31 ∧ Below w.heap.size w w2

theorem dTextR_any (A : Option Addr) (c : Nat) (z : List Int) (w : World) (h : Bytes w A c z) :
    Calls Tryd.prog 8 #[.slice A z.length c] w fun e w2 => ∃ v l, e = .returned v ∧ DrewR w v l w2 := by
  go_enter Tryd.func8, Tryd.ntmps8
  go_wp2_with fail
  refine (open_any A c z _ h.reads h.byte h.cap h.room).mono ?_
  rintro e w2 ⟨g, c2, A2, z2, rfl, hg, hb2, hr2⟩
  go_wp2_with fail
  refine (drawRs_any g c2 0 A2 z2 _ _ hr2 (by omega) (by omega) (by omega)).mono ?_
  rintro e w3 ⟨v, l, rfl, ho3, hl, hd3⟩
  go_wp2_with fail
  go_ret
  exact ⟨v, l, rfl, own_less ho3 hb2.size, hl, grown_below hd3.grown hb2 hg⟩

/-- An entry of a list, or zeros. -/
def atC (l : List Ctx) (k : Nat) : Ctx := (l[k]?).getD ⟨0, 0, 0⟩
theorem Reads.at3 {w : World} {B k n b off : Nat} {l : List Ctx} (h : Reads w B 3 (some ⟨b, off, none⟩) n (cellsC l)) (hk : k < l.length) : w.cell? ⟨b, off + k * 3, none⟩ = some (.int .i64 (atC l k).id) ∧ w.cell? ⟨b, off + k * 3 + 1, none⟩ = some (.int .i64 (atC l k).kind) ∧ w.cell? ⟨b, off + k * 3 + 2, none⟩ = some (.int .i64 (atC l k).area) := by
  have hn : 0 < n := by
    have := h.len
    omega
  obtain ⟨b2, off2, hA, _, hc⟩ := h.ctx hn
  injection hA with hA
  injection hA with e1 e2
  subst e1 e2
  have := hc k l[k] (List.getElem?_eq_getElem hk)
  have e : atC l k = l[k] := by simp [atC, hk]
  rw [e]
  exact this
theorem keep3 {w : World} {g b o : Nat} {u0 u1 u2 : Value} (h : ¬ b = g) : (((w.setCell ⟨g, 0, none⟩ u0).setCell ⟨g, 1, none⟩ u1).setCell ⟨g, 2, none⟩ u2).cell? ⟨b, o, none⟩ = w.cell? ⟨b, o, none⟩ := by
  refine World.cell?_of_block (w := w) (a := ⟨b, o, none⟩) ?_
  exact (heap_setCell_other _ _ b _ (by simpa using fun e => h e)).trans ((heap_setCell_other _ _ b _ (by simpa using fun e => h e)).trans (heap_setCell_other _ _ b _ (by simpa using fun e => h e)))

end Go.Proofs.YtbbjdpmffokcfaaDoor
