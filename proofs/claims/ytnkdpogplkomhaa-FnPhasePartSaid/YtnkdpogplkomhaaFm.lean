/- What the model's test of a free place is. -/
import Derived.Test.YtnkdpogplkomhaaUu
import Derived.Test.YtnkdpogplkomhaaPe
namespace Go.Proofs.Ytnkdpogplkomhaa
open Go.RowKit

theorem freeB_no {f : Nat → Nat → Bool} {n a k : Nat} {d : Nat → Bool} (hk : k < n) (h1 : d k = false) (h2 : f k a = true) : freeB f n d a = false := by
  rw [← Bool.not_eq_true]
  intro h
  rw [(freeB_iff.1 h).2 k hk h1] at h2
  exact absurd h2 (by simp)
theorem freeB_to {f : Nat → Nat → Bool} {n a : Nat} {d : Nat → Bool} (h : ∀ k, k < n → d k = false → f k a = false) : freeB f n d a = !d a := by
  unfold freeB
  rw [List.all_eq_true.2 (fun k hk => by
    cases hd : d k
    · simp [h k (List.mem_range.1 hk) hd]
    · rfl), Bool.true_and]
end Go.Proofs.Ytnkdpogplkomhaa
