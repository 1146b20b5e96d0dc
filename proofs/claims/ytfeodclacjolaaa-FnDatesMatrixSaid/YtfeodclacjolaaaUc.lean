/- What the program's numbers of contexts above each one are. -/
import Derived.Test.YtfeodclacjolaaaOp
import Derived.Test.YtfeodclacjolaaaHm
namespace Go.Proofs.Ytfeodclacjolaaa
open Go.RowKit

theorem zero_nats (n : Nat) : (madeCells (Value.int .i64 0).cells (n * 1)).toList = (List.replicate n 0).map encN := by
  rw [zero_cellsI, cells_nat]
  congr 1
  simp
theorem has_row (F : Nat → Nat → Bool) (n i j : Nat) (hn : n ≤ 12) (hj : j < n) (w : World) : Calls Try.prog 75 #[.int .u16 (bitN n (F i) : Nat), .int .i64 (j : Int)] w fun e w2 => e = .returned (.bool (F i j)) ∧ w = w2 := by
  have h := has_any (bitN n (F i)) j (bitN_16 _ (by omega)) (by omega) w
  rw [bitN_test, decide_eq_true hj, Bool.true_and] at h
  exact h
end Go.Proofs.Ytfeodclacjolaaa
