/- Marks laid into a list of bounds from any number on, and its size where some was taken. -/
import Derived.Test.YtnkdpogplkomhaaTriBound
namespace Go.Proofs.Ytnkdpogplkomhaa
open Go.RowKit

theorem szBoundAt_any (A : Option Addr) (n cap : Nat) (left : Int) (w : World) (h1 : (n : Int) ≤ left) (h2 : left ≤ 1048576) :
    Calls Try.prog 30 #[.slice A n cap, .int .i64 left] w fun e w2 => e = .returned (.int .i64 (left - (n : Int))) ∧ w = w2 := by
  have e0 : decide (left - (n : Int) < 0) = false := by simp; omega
  go_enter Try.func30, Try.ntmps30
  go_wp2_with fail
  go_ret
  exact ⟨rfl, rfl⟩
theorem szBoundAt_big (A : Option Addr) (n cap : Nat) (left : Int) (w : World) (h1 : left < (n : Int)) (h2 : 0 ≤ left) (h3 : left ≤ 1048576) (hm : n ≤ 9223372036854775807) :
    Calls Try.prog 30 #[.slice A n cap, .int .i64 left] w fun e w2 => e = .returned (.int .i64 (-1)) ∧ w = w2 := by
  have e0 : left - (n : Int) < 0 := by omega
  go_enter Try.func30, Try.ntmps30
  go_wp2_with fail
  go_ret
  exact ⟨rfl, rfl⟩
end Go.Proofs.Ytnkdpogplkomhaa
