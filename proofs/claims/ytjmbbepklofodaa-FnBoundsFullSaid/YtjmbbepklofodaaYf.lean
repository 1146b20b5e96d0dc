/- The laws' draws of their inputs on bounds. -/
import Derived.Test.YtjmbbepklofodaaYe
namespace Go.Proofs.Ytjmbbepklofodaa
open Go.RowKit

/-- A list of bounds was drawn, in memory of its own. -/
def DrewL (w : World) (v : Value) (l : List Ctx) (w2 : World) : Prop := w2.ownsRow w.heap.size 29 3 v l.length (cellsC l) ∧ l.length ≤ 13 ∧ Below w.heap.size w w2

theorem dValidB_any (A : Option Addr) (c : Nat) (z : List Int) (w : World) (h : Bytes w A c z) :
    Calls Try.prog 21 #[.slice A z.length c] w fun e w2 => ∃ v l, e = .returned v ∧ DrewL w v l w2 := by
  go_enter Try.func21, Try.ntmps21
  go_wp2_with fail
  refine (open_any A c z _ h.reads h.byte h.cap h.room).mono ?_
  rintro e w2 ⟨g, c2, A2, z2, rfl, hg, hb2, hr2⟩
  go_wp2_with fail
  refine (drawBs_any g c2 0 A2 z2 _ _ hr2 (by omega) (by omega) (by omega)).mono ?_
  rintro e w3 ⟨v, l, rfl, ho3, hl, hd3⟩
  go_wp2_with fail
  go_ret
  exact ⟨v, l, rfl, own_less ho3 hb2.size, hl, grown_below hd3.grown hb2 hg⟩

set_option maxHeartbeats 1000000 in
set_option maxRecDepth 100000 in
theorem dAddB_any (A : Option Addr) (c : Nat) (z : List Int) (w : World) (h : Bytes w A c z) :
    Calls Try.prog 17 #[.slice A z.length c] w fun e w2 => ∃ (v : Value) (l : List Ctx) (x : Ctx), e = .returned (.tuple #[v, .agg #[.int .i64 x.id, .int .i64 x.kind, .int .i64 x.area]]) ∧ DrewL w v l w2 := by
  have hb0 := (Below.refl w.heap.size w).alloc (Nat.le_refl _) (.cells #[.int .i64 0, .int .i64 0, .int .i64 0] 29)
  have h1 := h.step hb0
  go_enter Try.func17, Try.ntmps17
  go_wp2_with fail
  refine (open_any A c z _ h1.reads h1.byte h1.cap h1.room).mono ?_
  rintro e w2 ⟨g, c2, A2, z2, rfl, hg, hb2, hr2⟩
  have m2 := (hb2.block w.heap.size (by simp)).trans (heap_alloc_new w (.cells #[.int .i64 0, .int .i64 0, .int .i64 0] 29))
  have hne : ¬ w.heap.size = g := by simp at hg; omega
  have M2 := Lib.hid m2
  clear m2
  go_wp2_with fail
  refine (drawBs_any g c2 0 A2 z2 _ _ hr2 (by omega) (by omega) (by omega)).mono ?_
  rintro e w3 ⟨v, l, rfl, ho3, hl, ⟨p3, hp3, hr3⟩, hg3⟩
  have M3 := Lib.hid (row_keep hg3 M2.out hne)
  go_wp2_with fail
  refine (drawB_any g c2 p3 A2 z2 _ _ hr3 (by omega) (by omega) (by omega)).mono ?_
  rintro e w4 ⟨x, rfl, ⟨p4, hp4, hr4⟩, hg4⟩
  have M4 := Lib.hid (row_keep hg4 M3.out hne)
  have z0 : w4.cell? ⟨w.heap.size, 0, none⟩ = some (.int .i64 0) := cell_of_row _ _ 0 _ _ _ M4.out
  have z1 : w4.cell? ⟨w.heap.size, 1, none⟩ = some (.int .i64 0) := cell_of_row _ _ 1 _ _ _ M4.out
  have z2' : w4.cell? ⟨w.heap.size, 2, none⟩ = some (.int .i64 0) := cell_of_row _ _ 2 _ _ _ M4.out
  have f0 := frozen_of_row _ _ 0 _ _ M4.out
  have f1 := frozen_of_row _ _ 1 _ _ M4.out
  have f2 := frozen_of_row _ _ 2 _ _ M4.out
  have hb3 : Below w.heap.size w w4 := grown_below (hg3.trans hg4) (below_step hb0 hb2) (Nat.le_trans hb0.size hg)
  have ho4 := own_drawn ho3 hg4 hr2.lt
  have hlow : w.heap.size < w2.heap.size := by have := hb2.size; simp at this; omega
  go_wp2_with fail
  refine bodyPost_ret (v := .tuple #[v, .agg #[.int .i64 x.id, .int .i64 x.kind, .int .i64 x.area]]) (by simp [results, Try.results17, go_sem, *]) rfl ⟨v, l, x, rfl, ?_, hl, ((hb3.setCell (Nat.le_refl _) _).setCell (Nat.le_refl _) _).setCell (Nat.le_refl _) _⟩
  exact own_less (ownsRow_setCell_below (ownsRow_setCell_below (ownsRow_setCell_below ho4 hlow _) hlow _) hlow _) (Nat.le_of_lt hlow)
theorem dOfB_any (A : Option Addr) (c : Nat) (z : List Int) (w : World) (h : Bytes w A c z) :
    Calls Try.prog 13 #[.slice A z.length c] w fun e w2 => ∃ (v : Value) (l : List Ctx) (id : Int), e = .returned (.tuple #[v, .int .i64 id]) ∧ DrewL w v l w2 ∧ 0 ≤ id ∧ id ≤ 4 := by
  go_enter Try.func13, Try.ntmps13
  go_wp2_with fail
  refine (open_any A c z _ h.reads h.byte h.cap h.room).mono ?_
  rintro e w2 ⟨g, c2, A2, z2, rfl, hg, hb2, hr2⟩
  have hgl := hr2.lt
  go_wp2_with fail
  refine (drawBs_any g c2 0 A2 z2 _ _ hr2 (by omega) (by omega) (by omega)).mono ?_
  rintro e w3 ⟨v, l, rfl, ho3, hl, ⟨p3, hp3, hr3⟩, hg3⟩
  go_wp2_with fail
  refine (pick_any g c2 p3 A2 z2 _ _ hr3 (by omega) (by omega)).mono ?_
  rintro e w4 ⟨r4, rfl, a4, b4, _, hr4, hg4⟩
  have o1 := own_drawn (w0 := w2) ho3 hg4 hgl
  go_wp2_with fail
  go_ret2
  exact ⟨v, l, _, rfl, ⟨own_less o1 hb2.size, hl, grown_below (hg3.trans hg4) hb2 hg⟩, a4, by have := b4 (by omega); omega⟩
end Go.Proofs.Ytjmbbepklofodaa
