/- What the laws on orders need, as plain facts, and their comparisons of equal tables. -/
import Derived.Test.YtnkdpogplkomhaaV5
import Derived.Test.YtnkdpogplkomhaaBt
import Derived.Test.YtnkdpogplkomhaaDz
import Derived.Test.YtnkdpogplkomhaaInts
import Derived.Test.YtnkdpogplkomhaaOpen
namespace Go.Proofs.Ytnkdpogplkomhaa
open Go.RowKit

theorem ordT_small (ids : List Int) (l : List Ctx) : (ordOfG ids l).length ≤ 12 ∧ ∀ r ∈ ordOfG ids l, r.length ≤ 1000 := by
  unfold ordOfG
  split
  · rename_i h
    have hn : ids.length ≤ 12 := validO_len (okG_parts h).1
    refine ⟨by rw [ordG_len]; omega, fun r hr => ?_⟩
    obtain ⟨a, _, rfl⟩ := List.mem_map.1 hr
    rw [List.length_map]
    omega
  · simp
theorem ordT_ok {ids : List Int} {l : List Ctx} (h : (ordOfG ids l).length ≠ 0) : okG ids l = true ∧ (ordOfG ids l) = ordG ids l := by
  unfold ordOfG at h ⊢
  cases hok : okG ids l
  · rw [hok] at h; simp at h
  · exact ⟨rfl, if_pos rfl⟩
theorem aboveG_direct {ids : List Int} {l : List Ctx} (h : okG ids l = true) {k : Nat} {r : Ctx} (hr : l[k]? = some r) (h1 : r.area = 1) : aboveG ids l r.id r.kind = true := by
  have hm := List.mem_of_getElem? hr
  obtain ⟨h2, h3⟩ := (okG_parts h).2.2 r hm
  simp [aboveG, h, h2, h3, upG_direct hm h1]
theorem above_to (A B : Option Addr) (ca cb : Nat) (ids : List Int) (l : List Ctx) (a b : Int) (t : Bool) {w : World} (x : Ext w.heap.size w) (ha : Reads w w.heap.size 1 A ids.length (cellsI ids)) (hb : Reads w w.heap.size 3 B l.length (cellsC l)) (hn : ids.length ≤ 1000000000) (hl : l.length ≤ 1000000000) (ht : aboveG ids l a b = t) :
    Calls Try.prog 20 #[.slice A ids.length ca, .slice B l.length cb, .int .i64 a, .int .i64 b] x.val fun e w2 => e = .returned (.bool t) ∧ ∃ y : Ext w.heap.size w, w2 = y.val :=
  calls_ext (Nat.le_refl _) ((iAbove_any A B ca cb ids l a b x.val (ha.step x.below) (hb.step x.below) hn hl).mono fun _ _ ⟨h1, h2⟩ => ⟨by rw [h1, ht], h2⟩)
end Go.Proofs.Ytnkdpogplkomhaa
