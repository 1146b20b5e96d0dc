/- What the program's search of the shortest circle through a place is. -/
import Derived.Test.YtjkjnicgbfpjiaaV6
import Derived.Test.YtjkjnicgbfpjiaaUu
import Derived.Test.YtjkjnicgbfpjiaaU5
namespace Go.Proofs.Ytjkjnicgbfpjiaa
open Go.RowKit

theorem own_one {w : World} {base e g : Nat} {v : Value} (hb : base ≤ w.heap.size) (hg : g = w.heap.size) : (w.alloc (.cells #[v] e)).ownsRow base e 1 (.slice (some ⟨g, 0, none⟩) 1 1) 1 [v] := by
  subst hg
  exact ⟨by simp, .inr ⟨_, 1, #[v], rfl, hb, heap_alloc_new _ _, Nat.le_refl _, by simp [maxLen], by simp, by simp⟩⟩
theorem reads_nat {w : World} {x : Nat} {t : TypeId} {B : Nat} (hB : w.heap.size < B) : Reads (w.alloc (.cells #[.int .i64 (x : Int)] t)) B 1 (some ⟨w.heap.size, 0, none⟩) 1 [encN x] := reads_val hB
theorem one_n {x : Nat} : ∀ u ∈ [encN x], u.oneCell' = true := by
  intro u hu
  simp at hu
  subst hu
  rfl
theorem one_u {x : Nat} : ∀ u ∈ [encU x], u.oneCell' = true := by
  intro u hu
  simp at hu
  subst hu
  rfl
/-- The rows of the places from which one, two, .. steps lead to a. -/
def waysU (F : Nat → Nat → Bool) (n a m : Nat) : List Nat := (List.range m).map fun k => bitN n (stB F n a k)
theorem waysU_len (F : Nat → Nat → Bool) (n a m : Nat) : (waysU F n a m).length = m := by simp [waysU]
theorem waysU_at {F : Nat → Nat → Bool} {n a m k : Nat} (hk : k < m) : (waysU F n a m)[k]? = some (bitN n (stB F n a k)) := by simp [waysU, hk]
theorem waysU_next (F : Nat → Nat → Bool) (n a m : Nat) : waysU F n a (m + 1) = waysU F n a m ++ [bitN n (stB F n a m)] := by
  unfold waysU
  rw [List.range_succ, List.map_append]
  rfl
theorem stB_first (F : Nat → Nat → Bool) {n a : Nat} (ha : a < n) : bitN n (fun x => (List.range n).any fun y => F x y && decide (y = a)) = bitN n (stB F n a 0) := by
  refine bitN_ext fun x _ => ?_
  show _ = F x a
  cases h : F x a
  · rw [List.any_eq_false]
    intro y _
    by_cases e : y = a
    · subst e; simp [h]
    · simp [e]
  · exact List.any_eq_true.2 ⟨a, List.mem_range.2 ha, by simp [h]⟩
/-- A circle in memory of the call's own. -/
def CircPost (w : World) (p : List Nat) (e : Ending) (w2 : World) : Prop :=
  ∃ v, e = .returned v ∧ Below w.heap.size w w2 ∧ w2.ownsRow w.heap.size 3 1 v p.length (p.map encN)
end Go.Proofs.Ytjkjnicgbfpjiaa
