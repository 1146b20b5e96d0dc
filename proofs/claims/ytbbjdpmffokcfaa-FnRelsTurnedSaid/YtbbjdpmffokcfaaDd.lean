/- The laws' draws of their inputs on relations. -/
import Derived.Test.YtbbjdpmffokcfaaDl
namespace Go.Proofs.Ytbbjdpmffokcfaa
open Go.RowKit

/-- A list of relations was drawn, in memory of its own. -/
def DrewR (w : World) (v : Value) (l : List Ctx) (w2 : World) : Prop := w2.ownsRow w.heap.size 25 3 v l.length (cellsC l) ∧ l.length ≤ 31 ∧ Below w.heap.size w w2

theorem dValidR_any (A : Option Addr) (c : Nat) (z : List Int) (w : World) (h : Bytes w A c z) :
    Calls Try.prog 20 #[.slice A z.length c] w fun e w2 => ∃ v l, e = .returned v ∧ DrewR w v l w2 := by
  go_enter Try.func20, Try.ntmps20
  go_wp2_with fail
  refine (open_any A c z _ h.reads h.byte h.cap h.room).mono ?_
  rintro e w2 ⟨g, c2, A2, z2, rfl, hg, hb2, hr2⟩
  go_wp2_with fail
  refine (drawRs_any g c2 0 A2 z2 _ _ hr2 (by omega) (by omega) (by omega)).mono ?_
  rintro e w3 ⟨v, l, rfl, ho3, hl, hd3⟩
  go_wp2_with fail
  go_ret
  exact ⟨v, l, rfl, own_less ho3 hb2.size, hl, grown_below hd3.grown hb2 hg⟩

set_option maxHeartbeats 1000000 in
theorem dAddR_any (A : Option Addr) (c : Nat) (z : List Int) (w : World) (h : Bytes w A c z) :
    Calls Try.prog 12 #[.slice A z.length c] w fun e w2 => ∃ (v : Value) (l : List Ctx) (x : Ctx), e = .returned (.tuple #[v, .agg #[.int .i64 x.id, .int .i64 x.kind, .int .i64 x.area]]) ∧ DrewR w v l w2 := by
  have hb0 := (Below.refl w.heap.size w).alloc (Nat.le_refl _) (.cells #[.int .i64 0, .int .i64 0, .int .i64 0] 25)
  have h1 := h.step hb0
  go_enter Try.func12, Try.ntmps12
  go_wp2_with fail
  refine (open_any A c z _ h1.reads h1.byte h1.cap h1.room).mono ?_
  rintro e w2 ⟨g, c2, A2, z2, rfl, hg, hb2, hr2⟩
  have m2 := (hb2.block w.heap.size (by simp)).trans (heap_alloc_new w (.cells #[.int .i64 0, .int .i64 0, .int .i64 0] 25))
  have hne : ¬ w.heap.size = g := by simp at hg; omega
  have M2 := Lib.hid m2
  clear m2
  go_wp2_with fail
  refine (drawRs_any g c2 0 A2 z2 _ _ hr2 (by omega) (by omega) (by omega)).mono ?_
  rintro e w3 ⟨v, l, rfl, ho3, hl, ⟨p3, hp3, hr3⟩, hg3⟩
  have M3 := Lib.hid (row_keep hg3 M2.out hne)
  go_wp2_with fail
  refine (drawR_any g c2 p3 A2 z2 _ _ hr3 (by omega) (by omega) (by omega)).mono ?_
  rintro e w4 ⟨x, rfl, ⟨p4, hp4, hr4⟩, hg4⟩
  have M4 := Lib.hid (row_keep hg4 M3.out hne)
  have z0 : w4.cell? ⟨w.heap.size, 0, none⟩ = some (.int .i64 0) := cell_of_row _ _ 0 _ _ _ M4.out
  have z1 : w4.cell? ⟨w.heap.size, 1, none⟩ = some (.int .i64 0) := cell_of_row _ _ 1 _ _ _ M4.out
  have z2' : w4.cell? ⟨w.heap.size, 2, none⟩ = some (.int .i64 0) := cell_of_row _ _ 2 _ _ _ M4.out
  have f0 := frozen_of_row _ _ 0 _ _ M4.out
  have f1 := frozen_of_row _ _ 1 _ _ M4.out
  have f2 := frozen_of_row _ _ 2 _ _ M4.out
  have hb3 : Below w.heap.size w w4 := grown_below (hg3.trans hg4) (below_step hb0 hb2) (Nat.le_trans hb0.size hg)
  have ho4 := own_drawn ho3 hg4 hr2.lt
  have hlow : w.heap.size < w2.heap.size := by have := hb2.size; simp at this; omega
  go_wp2_with fail
  refine bodyPost_ret (v := .tuple #[v, .agg #[.int .i64 x.id, .int .i64 x.kind, .int .i64 x.area]]) (by simp [results, Try.results12, go_sem, *]) rfl ⟨v, l, x, rfl, ?_, hl, ((hb3.setCell (Nat.le_refl _) _).setCell (Nat.le_refl _) _).setCell (Nat.le_refl _) _⟩
  exact own_less (ownsRow_setCell_below (ownsRow_setCell_below (ownsRow_setCell_below ho4 hlow _) hlow _) hlow _) (Nat.le_of_lt hlow)
/-- An entry of a list, or zeros. -/
def atC (l : List Ctx) (k : Nat) : Ctx := (l[k]?).getD ⟨0, 0, 0⟩
theorem Reads.at3 {w : World} {B k n b off : Nat} {l : List Ctx} (h : Reads w B 3 (some ⟨b, off, none⟩) n (cellsC l)) (hk : k < l.length) : w.cell? ⟨b, off + k * 3, none⟩ = some (.int .i64 (atC l k).id) ∧ w.cell? ⟨b, off + k * 3 + 1, none⟩ = some (.int .i64 (atC l k).kind) ∧ w.cell? ⟨b, off + k * 3 + 2, none⟩ = some (.int .i64 (atC l k).area) := by
  have hn : 0 < n := by
    have := h.len
    omega
  obtain ⟨b2, off2, hA, _, hc⟩ := h.ctx hn
  injection hA with hA
  injection hA with e1 e2
  subst e1 e2
  have := hc k l[k] (List.getElem?_eq_getElem hk)
  have e : atC l k = l[k] := by simp [atC, hk]
  rw [e]
  exact this
theorem keep3 {w : World} {g b o : Nat} {u0 u1 u2 : Value} (h : ¬ b = g) : (((w.setCell ⟨g, 0, none⟩ u0).setCell ⟨g, 1, none⟩ u1).setCell ⟨g, 2, none⟩ u2).cell? ⟨b, o, none⟩ = w.cell? ⟨b, o, none⟩ := by
  refine World.cell?_of_block (w := w) (a := ⟨b, o, none⟩) ?_
  exact (heap_setCell_other _ _ b _ (by simpa using fun e => h e)).trans ((heap_setCell_other _ _ b _ (by simpa using fun e => h e)).trans (heap_setCell_other _ _ b _ (by simpa using fun e => h e)))

set_option maxHeartbeats 2000000 in
theorem dDropR_any (A : Option Addr) (c : Nat) (z : List Int) (w : World) (h : Bytes w A c z) :
    Calls Try.prog 18 #[.slice A z.length c] w fun e w2 => ∃ (v : Value) (l : List Ctx) (x : Ctx), e = .returned (.tuple #[v, .agg #[.int .i64 x.id, .int .i64 x.kind, .int .i64 x.area]]) ∧ DrewR w v l w2 := by
  have hb0 := (Below.refl w.heap.size w).alloc (Nat.le_refl _) (.cells #[.int .i64 0, .int .i64 0, .int .i64 0] 25)
  have h1 := h.step hb0
  go_enter Try.func18, Try.ntmps18
  go_wp2_with fail
  refine (open_any A c z _ h1.reads h1.byte h1.cap h1.room).mono ?_
  rintro e w2 ⟨g, c2, A2, z2, rfl, hg, hb2, hr2⟩
  have m2 := (hb2.block w.heap.size (by simp)).trans (heap_alloc_new w (.cells #[.int .i64 0, .int .i64 0, .int .i64 0] 25))
  have hne : ¬ w.heap.size = g := by simp at hg; omega
  have M2 := Lib.hid m2
  clear m2
  go_wp2_with fail
  refine (drawRs_any g c2 0 A2 z2 _ _ hr2 (by omega) (by omega) (by omega)).mono ?_
  rintro e w3 ⟨v, l, rfl, ho3, hl, ⟨p3, hp3, hr3⟩, hg3⟩
  have M3 := Lib.hid (row_keep hg3 M2.out hne)
  have hlow0 : w.heap.size < w2.heap.size := by have := hb2.size; simp at this; omega
  have hg2lt := hr2.lt
  obtain ⟨Al, cl, hv, hcap, hrl⟩ := own_slice ho3
  subst hv
  by_cases h0 : l.length = 0
  · have e0 : decide ((0 : Int) < (l.length : Int)) = false := decide_eq_false (by omega)
    have e00 : decide (0 < l.length) = false := decide_eq_false (by omega)
    clear h0 hrl
    go_wp2_with fail
    refine (drawR_any g c2 p3 A2 z2 _ _ hr3 (by omega) (by omega) (by omega)).mono ?_
    rintro e w4 ⟨x, rfl, ⟨p4, hp4, hr4⟩, hg4⟩
    have M4 := Lib.hid (row_keep hg4 M3.out hne)
    have z0 : w4.cell? ⟨w.heap.size, 0, none⟩ = some (.int .i64 0) := cell_of_row _ _ 0 _ _ _ M4.out
    have z1 : w4.cell? ⟨w.heap.size, 1, none⟩ = some (.int .i64 0) := cell_of_row _ _ 1 _ _ _ M4.out
    have z2' : w4.cell? ⟨w.heap.size, 2, none⟩ = some (.int .i64 0) := cell_of_row _ _ 2 _ _ _ M4.out
    have f0 := frozen_of_row _ _ 0 _ _ M4.out
    have f1 := frozen_of_row _ _ 1 _ _ M4.out
    have f2 := frozen_of_row _ _ 2 _ _ M4.out
    have hb3 : Below w.heap.size w w4 := grown_below (hg3.trans hg4) (below_step hb0 hb2) (Nat.le_trans hb0.size hg)
    have ho4 := own_drawn ho3 hg4 hr2.lt
    have hlow : w.heap.size < w2.heap.size := by have := hb2.size; simp at this; omega
    go_wp2_with fail
    refine bodyPost_ret (v := .tuple #[.slice Al l.length cl, .agg #[.int .i64 x.id, .int .i64 x.kind, .int .i64 x.area]]) (by simp [results, Try.results18, go_sem, *]) rfl ⟨_, l, x, rfl, ?_, hl, ((hb3.setCell (Nat.le_refl _) _).setCell (Nat.le_refl _) _).setCell (Nat.le_refl _) _⟩
    exact own_less (ownsRow_setCell_below (ownsRow_setCell_below (ownsRow_setCell_below ho4 hlow _) hlow _) hlow _) (Nat.le_of_lt hlow)
  · have e0 : decide ((0 : Int) < (l.length : Int)) = true := decide_eq_true (by omega)
    have e00 : decide (0 < l.length) = true := decide_eq_true (by omega)
    have hpos : 0 < l.length := by omega
    clear h0 hrl
    go_wp2_with fail
    refine (pick_any g c2 p3 A2 z2 _ _ hr3 (by omega) (by omega)).mono ?_
    rintro e w6 ⟨r6, rfl, a6, b6, _, hr6, hg6⟩
    have b6 := b6 (by omega)
    have M6 := Lib.hid (row_keep hg6 M3.out hne)
    have hg36 := hg3.trans hg6
    have ho6 := own_drawn ho3 hg6 hr2.lt
    by_cases c6 : r6 = 0
    · have e6 : decide (0 < r6) = false := decide_eq_false (by omega)
      clear c6
      go_wp2_with fail
      refine (drawR_any g c2 _ A2 z2 _ _ hr6 (by omega) (by omega) (by omega)).mono ?_
      rintro e w4 ⟨x, rfl, ⟨p4, hp4, hr4⟩, hg4⟩
      have M4 := Lib.hid (row_keep hg4 M6.out hne)
      have z0 : w4.cell? ⟨w.heap.size, 0, none⟩ = some (.int .i64 0) := cell_of_row _ _ 0 _ _ _ M4.out
      have z1 : w4.cell? ⟨w.heap.size, 1, none⟩ = some (.int .i64 0) := cell_of_row _ _ 1 _ _ _ M4.out
      have z2' : w4.cell? ⟨w.heap.size, 2, none⟩ = some (.int .i64 0) := cell_of_row _ _ 2 _ _ _ M4.out
      have f0 := frozen_of_row _ _ 0 _ _ M4.out
      have f1 := frozen_of_row _ _ 1 _ _ M4.out
      have f2 := frozen_of_row _ _ 2 _ _ M4.out
      have hb3 : Below w.heap.size w w4 := grown_below (hg36.trans hg4) (below_step hb0 hb2) (Nat.le_trans hb0.size hg)
      have ho4 := own_drawn ho6 hg4 hr2.lt
      have hlow : w.heap.size < w2.heap.size := by have := hb2.size; simp at this; omega
      go_wp2_with fail
      refine bodyPost_ret (v := .tuple #[.slice Al l.length cl, .agg #[.int .i64 x.id, .int .i64 x.kind, .int .i64 x.area]]) (by simp [results, Try.results18, go_sem, *]) rfl ⟨_, l, x, rfl, ?_, hl, ((hb3.setCell (Nat.le_refl _) _).setCell (Nat.le_refl _) _).setCell (Nat.le_refl _) _⟩
      exact own_less (ownsRow_setCell_below (ownsRow_setCell_below (ownsRow_setCell_below ho4 hlow _) hlow _) hlow _) (Nat.le_of_lt hlow)
    · have e6 : decide (0 < r6) = true := decide_eq_true (by omega)
      clear c6
      go_wp2_with fail
      have X := Lib.hid (hr6.step (below_draws (Below.refl _ _) 1))
      have hgX : w6.grownBy (w6.drewN 1) (some g) := grown_of_below (below_draws (Below.refl _ _) 1) _
      have HB := Lib.hid (And.intro (grown_below hg36 (below_step hb0 hb2) (Nat.le_trans hb0.size hg)) (Nat.le_trans hb0.size hg))
      obtain ⟨bb, off, hA, hbb, hc⟩ := (own_reads ho6).ctx hpos
      subst hA
      have O6 := Lib.hid ho6
      have G6 := Lib.hid hgX
      have hcX : ∀ k, k < l.length → (w6.drewN 1).cell? ⟨bb, off + k * 3, none⟩ = some (.int .i64 (atC l k).id) ∧ (w6.drewN 1).cell? ⟨bb, off + k * 3 + 1, none⟩ = some (.int .i64 (atC l k).kind) ∧ (w6.drewN 1).cell? ⟨bb, off + k * 3 + 2, none⟩ = some (.int .i64 (atC l k).area) := fun k hk => (own_reads (own_below ho6 (below_draws (Below.refl _ _) 1))).at3 hk
      have hbne : ¬ bb = w.heap.size := by
        intro e
        have := (ho6.lt bb (by rfl)).1
        omega
      clear hr6 hr3 hg6 hg3 hg36 ho6 ho3 hgX
      go_region_held3 (fun w' => ∀ k, k < l.length → w'.cell? ⟨bb, off + k * 3, none⟩ = some (.int .i64 (atC l k).id) ∧ w'.cell? ⟨bb, off + k * 3 + 1, none⟩ = some (.int .i64 (atC l k).kind) ∧ w'.cell? ⟨bb, off + k * 3 + 2, none⟩ = some (.int .i64 (atC l k).area)) (first | assumption | (intro k hk; obtain ⟨t0, t1, t2⟩ := hc7 k hk; exact ⟨(keep3 hbne).trans t0, (keep3 hbne).trans t1, (keep3 hbne).trans t2⟩))
        (first | (go_at_call 40
                  go_must (refine (pick_any g c2 _ A2 z2 _ _ X.out (by omega) (by omega)).mono ?_)
                  rintro e w7 ⟨r7, rfl, a7, b7, _, hr7, hg7⟩
                  have b7 := b7 (by omega)
                  obtain ⟨m, rfl⟩ := Int.eq_ofNat_of_zero_le a7
                  have hm : m < l.length := by omega
                  have M7 := row_keep (G6.out.trans hg7) M6.out hne
                  have ho7 := own_drawn O6.out (G6.out.trans hg7) hg2lt
                  have hs7 : w.heap.size < w7.heap.size := (Array.getElem?_eq_some_iff.1 M7).1
                  have hc7 : ∀ k, k < l.length → w7.cell? ⟨bb, off + k * 3, none⟩ = some (.int .i64 (atC l k).id) ∧ w7.cell? ⟨bb, off + k * 3 + 1, none⟩ = some (.int .i64 (atC l k).kind) ∧ w7.cell? ⟨bb, off + k * 3 + 2, none⟩ = some (.int .i64 (atC l k).area) := fun k hk => (own_reads ho7).at3 hk
                  obtain ⟨c1, c2', c3⟩ := hc7 m hm
                  have z0 : w7.cell? ⟨w.heap.size, 0, none⟩ = some (.int .i64 0) := cell_of_row _ _ 0 _ _ _ M7
                  have z1 : w7.cell? ⟨w.heap.size, 1, none⟩ = some (.int .i64 0) := cell_of_row _ _ 1 _ _ _ M7
                  have z2' : w7.cell? ⟨w.heap.size, 2, none⟩ = some (.int .i64 0) := cell_of_row _ _ 2 _ _ _ M7
                  have f0 := frozen_of_row _ _ 0 _ _ M7
                  have f1 := frozen_of_row _ _ 1 _ _ M7
                  have f2 := frozen_of_row _ _ 2 _ _ M7
                  have hb3 : Below w.heap.size w w7 := grown_below hg7 (below_draws HB.out.1 1) HB.out.2
                  have O7 := Lib.hid ho7))
      go_wp2_with fail
      refine bodyPost_ret (v := .tuple #[.slice (some ⟨bb, off, none⟩) l.length cl, .agg #[.int .i64 (atC l m).id, .int .i64 (atC l m).kind, .int .i64 (atC l m).area]]) (by simp [results, Try.results18, go_sem, *]) rfl ⟨_, l, atC l m, rfl, ?_, hl, ((hb3.setCell (Nat.le_refl _) _).setCell (Nat.le_refl _) _).setCell (Nat.le_refl _) _⟩
      exact own_less (ownsRow_setCell_below (ownsRow_setCell_below (ownsRow_setCell_below O7.out hlow0 _) hlow0 _) hlow0 _) (Nat.le_of_lt hlow0)
end Go.Proofs.Ytbbjdpmffokcfaa
