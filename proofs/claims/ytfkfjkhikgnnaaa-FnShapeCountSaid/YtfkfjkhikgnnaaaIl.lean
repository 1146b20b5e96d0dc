/- Rows of numbers that are filled, one after the other. -/
import Derived.Test.YtfkfjkhikgnnaaaTri
namespace Go.Proofs.Ytfkfjkhikgnnaaa
open Go.RowKit

theorem infoInt : (Try.prog.info? 3).map (fun i => (i.zero, i.size, i.bytes)) = some (some (.int .i64 0), 1, 8) := by kernel_rfl
theorem zero_cellsI (n : Nat) : (madeCells (Value.int .i64 0).cells (n * 1)).toList = cellsI (List.replicate n 0) := by
  refine List.ext_getElem? fun i => ?_
  by_cases hi : i < n
  · simp [cellsI, madeCells, hi, Value.cells, Nat.mod_one]
  · simp [cellsI, madeCells, hi]
def fillI (l : List Int) (k : Nat) : List Int := l.take k ++ List.replicate (l.length - k) 0
theorem fillI_at {l : List Int} {k : Nat} (hk : k < l.length) : (fillI l k)[k]? = some 0 := by
  unfold fillI
  rw [List.getElem?_append_right (by simp; omega), List.length_take, Nat.min_eq_left (by omega), Nat.sub_self, List.getElem?_replicate, if_pos (by omega)]
theorem fillI_set {l : List Int} {k : Nat} {x : Int} (hx : l[k]? = some x) : (fillI l k).set k x = fillI l (k+1) := by
  have hk : k < l.length := (List.getElem?_eq_some_iff.1 hx).1
  unfold fillI
  rw [List.set_append_right _ _ (by simp; omega), List.length_take, Nat.min_eq_left (by omega), Nat.sub_self, List.take_add_one, hx]
  rw [show l.length - k = (l.length - (k+1)) + 1 from by omega, List.replicate_succ, List.set_cons_zero]
  simp only [Option.toList, List.append_assoc, List.cons_append, List.nil_append]
theorem fillI_len {l : List Int} {k : Nat} (hk : k ≤ l.length) : (fillI l k).length = l.length := by
  unfold fillI; simp; omega
theorem fillI_all (l : List Int) : fillI l l.length = l := by simp [fillI]

theorem own_cell0 {w : World} {base e g n cap : Nat} {G : List Int} {k : Nat} (h : w.ownsRow base e 1 (.slice (some ⟨g, 0, none⟩) n cap) n (cellsI (fillI G k))) (hl : G.length = n) (hk : k < n) : w.cell? ⟨g, k, none⟩ = some (.int .i64 0) ∧ w.frozen? ⟨g, k, none⟩ = false := by
  refine ⟨(h.cellAt k (by omega)).trans ?_, h.frozenAt k⟩
  rw [cellsI, List.getElem?_map, fillI_at (by omega)]
  rfl
end Go.Proofs.Ytfkfjkhikgnnaaa
