/- Lists of points that are cut and joined. -/
import Derived.Test.YtfkfjkhikgnnaaaToP
import Derived.Deep.RegionHeld3
namespace Go.Proofs.Ytfkfjkhikgnnaaa
open Go.RowKit

theorem Reads.tailS {w : World} {B n k : Nat} {A A2 : Option Addr} {l : List Sp} (h : Reads w B 2 A n (cellsS l)) (hk : k ≤ n) (hA : 0 < n - k → A2 = A.map (·.add (k * 2))) : Reads w B 2 A2 (n - k) (cellsS (l.drop k)) := by
  have hl := h.lenS
  refine ⟨by rw [length_cellsS, List.length_drop]; omega, fun hn => ?_⟩
  obtain ⟨b, off, e, hb, hc⟩ := h.2 (by omega)
  have hA2 := hA hn
  rw [e] at hA2
  have e2 : A2 = some ⟨b, off + k * 2, none⟩ := by
    rw [hA2]
    simp only [Option.map, Addr.add]
    split
    · rename_i h0
      rw [h0]
      rfl
    · rfl
  refine ⟨b, off + k * 2, e2, hb, fun j u hu => ?_⟩
  have h1 : cellsS l = cellsS (l.take k) ++ cellsS (l.drop k) := by rw [← cellsS_append, List.take_append_drop]
  have h2 : (cellsS l)[k * 2 + j]? = some u := by
    rw [h1, List.getElem?_append_right (by rw [length_cellsS, List.length_take]; omega), length_cellsS, List.length_take, Nat.min_eq_left (by omega)]
    rw [← hu]
    congr 1
    omega
  have := hc _ _ h2
  rwa [← Nat.add_assoc] at this
theorem Reads.headS {w : World} {B n k : Nat} {A : Option Addr} {l : List Sp} (h : Reads w B 2 A n (cellsS l)) (hk : k ≤ n) : Reads w B 2 A k (cellsS (l.take k)) := by
  have hl := h.lenS
  refine ⟨by rw [length_cellsS, List.length_take]; omega, fun hn => ?_⟩
  obtain ⟨b, off, e, hb, hc⟩ := h.2 (by omega)
  refine ⟨b, off, e, hb, fun j u hu => hc j u ?_⟩
  have h1 : cellsS l = cellsS (l.take k) ++ cellsS (l.drop k) := by rw [← cellsS_append, List.take_append_drop]
  have hj := (List.getElem?_eq_some_iff.1 hu).1
  rw [h1, List.getElem?_append_left hj]
  exact hu
theorem reads_newS {w w2 : World} {g : Nat} {c : Sp} {t : TypeId} {row : Option Nat} (hg : w.heap[g]? = some (.cells #[.int .i64 c.lo, .int .i64 c.hi] t (0, 0))) (h2 : w.grownBy w2 row) (hne : some g ≠ row) : Reads w2 w2.heap.size 2 (some ⟨g, 0, none⟩) 1 (cellsS [c]) := by
  have hlt := (Array.getElem?_eq_some_iff.1 hg).1
  refine ⟨by rw [length_cellsS]; rfl, fun _ => ⟨g, 0, rfl, Nat.lt_of_lt_of_le hlt h2.size, fun j u hu => ?_⟩⟩
  rw [cell_of_row _ _ _ _ _ _ ((h2.block g hlt hne).trans hg)]
  simpa [cellsS, cells2] using hu
end Go.Proofs.Ytfkfjkhikgnnaaa
