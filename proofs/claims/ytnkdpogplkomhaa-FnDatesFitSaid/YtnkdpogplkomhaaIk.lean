/- Which bounds the program blames. -/
import Derived.Test.YtnkdpogplkomhaaIh
import Derived.Test.YtnkdpogplkomhaaKk
namespace Go.Proofs.Ytnkdpogplkomhaa
open Go.RowKit

section
variable {ids : List Int} {l B : List Ctx}
theorem args_two {a b : Ctx} (h : argsD ids l B = true) (ha : a ∈ B) (hb : b ∈ B) : argsD ids l [a, b] = true := by
  obtain ⟨a1, a2, a3⟩ := argsD_parts h
  simp only [argsD, Bool.and_eq_true, List.all_eq_true, decide_eq_true_eq]
  refine ⟨a1, validB_mk (fun c hc => ?_) (by simp), fun c hc => ?_⟩
  · simp at hc
    rcases hc with rfl | rfl
    · exact (validB_ok a2).1 _ ha
    · exact (validB_ok a2).1 _ hb
  · simp at hc
    rcases hc with rfl | rfl
    · exact a3 _ ha
    · exact a3 _ hb
theorem two_ok {i k : Nat} {a b : Ctx} (h : argsD ids l B = true) (ha : B[i]? = some a) (hb : B[k]? = some b) : okD ids l [a, b] = !clashP ids l B i k := by
  have h2 := args_two h (List.mem_of_getElem? ha) (List.mem_of_getElem? hb)
  have hself : ∀ c, c ∈ B → clashD ids l c c = false := fun c hc => by
    have := (okB_parts ((validB_ok (argsD_parts h).2.1).1 c hc)).2.2.1
    simp only [clashD, Bool.and_eq_false_iff, decide_eq_false_iff_not]
    right
    omega
  rw [clashP_at ha hb]
  cases hok : okD ids l [a, b]
  · obtain ⟨x, y, hx, hy, hc⟩ := (okD_clash h2).1 hok
    simp at hx hy
    rcases hx with rfl | rfl <;> rcases hy with rfl | rfl
    · rw [hself _ (List.mem_of_getElem? ha)] at hc; cases hc
    · simp [hc]
    · simp [hc]
    · rw [hself _ (List.mem_of_getElem? hb)] at hc; cases hc
  · have hn : ¬ ∃ x y, x ∈ [a, b] ∧ y ∈ [a, b] ∧ clashD ids l x y = true := fun he => by
      rw [(okD_clash h2).2 he] at hok
      cases hok
    cases h3 : clashD ids l a b
    · cases h4 : clashD ids l b a
      · rfl
      · exact absurd ⟨b, a, by simp, by simp, h4⟩ hn
    · exact absurd ⟨a, b, by simp, by simp, h3⟩ hn
end
theorem reads_two {w : World} {a b : Ctx} {t : TypeId} {n : Nat} (hB : w.heap.size < n) : Reads (w.alloc (.cells #[.int .i64 a.id, .int .i64 a.kind, .int .i64 a.area, .int .i64 b.id, .int .i64 b.kind, .int .i64 b.area] t)) n 3 (some ⟨w.heap.size, 0, none⟩) [a, b].length (cellsC [a, b]) := by
  refine ⟨rfl, fun _ => ⟨_, 0, rfl, hB, fun j u hu => ?_⟩⟩
  rw [cell_of_row _ _ _ _ _ _ (heap_alloc_new _ _)]
  simpa [cellsC, cells3] using hu
end Go.Proofs.Ytnkdpogplkomhaa
