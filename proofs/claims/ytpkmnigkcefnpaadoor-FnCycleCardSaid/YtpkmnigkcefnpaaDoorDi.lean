/- The laws draw numbers of contexts. -/
import Derived.Test.YtpkmnigkcefnpaaDoorDr
import Derived.Test.YtpkmnigkcefnpaaDoorIl
namespace Go.Proofs.YtpkmnigkcefnpaaDoor
open Go.RowKit

theorem cellsI_app (l m : List Int) : cellsI (l ++ m) = cellsI l ++ cellsI m := by simp [cellsI]
def DrawIsPost (w : World) (g c p : Nat) (A : Option Addr) (z : List Int) (e : Ending) (w2 : World) : Prop :=
  ∃ (v : Value) (l : List Int), e = .returned v ∧ w2.ownsRow w.heap.size 3 1 v l.length (cellsI l) ∧ l.length ≤ 13 ∧ Drawn w g A z c p 15 w2

set_option maxHeartbeats 4000000 in
set_option maxRecDepth 100000 in
theorem drawIs_any (g c p : Nat) (A : Option Addr) (z : List Int) (w : World) (h : Rd w g A z c p) (hp : p ≤ 800000) :
    Calls Tryd.prog 42 #[.pointer (some ⟨g, 0, none⟩)] w (DrawIsPost w g c p A z) := by
  obtain ⟨i0, hi0, hz0, hz1, hz2⟩ := info_parts infoInt
  have hlt := h.lt
  have h1 := h.step ((Below.refl _ _).alloc (Nat.le_refl _) (.cells #[] 3))
  have ho1 : (w.alloc (.cells #[] 3)).ownsRow w.heap.size 3 1 (.slice (some ⟨w.heap.size, 0, none⟩) 0 0) 0 [] := own_empty (Nat.le_refl _) rfl
  have hg1 := World.grownBy_alloc w (.cells #[] 3) (some g)
  go_enter Tryd.func42, Tryd.ntmps42
  go_wp2_with fail
  refine (pick_any g c p A z _ _ h1 (by omega) (by omega)).mono ?_
  rintro e w2 ⟨r2, rfl, a2, b2, _, hr2, hg2⟩
  have b2 := b2 (by omega)
  have ho2 := own_drawn (w0 := w) ho1 hg2 hlt
  have hg12 := hg1.trans hg2
  have K2 := Lib.hid (And.intro ho2 (And.intro hr2 hg12))
  clear h1 ho1 hg1 hr2 hg2 ho2 hg12 h
  go_wp2_with fail
  go_loopw [3, 5] (fun v i wr => ∃ (k : Nat) (l : List Int) (p2 : Nat), (k : Int) ≤ 4 + r2 ∧ i = .int .i64 (1 + (k : Int)) ∧ l.length ≤ k ∧ wr.ownsRow w.heap.size 3 1 v l.length (cellsI l) ∧ p2 ≤ p + 1 + k ∧ Rd wr g A z c p2 ∧ w.grownBy wr (some g)) (fun _ i _ => (20 - intOf i).toNat)
  case atStart => exact ⟨0, [], p + 1, by omega, by simp, by simp, K2.out.1, by omega, K2.out.2.1, K2.out.2.2⟩
  case round =>
    obtain ⟨k, l, p2, hk, rfl, hl, hown, hp2, hrd, hgr⟩ := hrel
    clear K2
    have G := Lib.hid hgr
    have hgs := hgr.size
    clear hgr
    by_cases hkN : (k : Int) < 4 + r2
    · have e1 : decide ((1 : Int) + (k : Int) ≤ 4 + r2) = true := by simp; omega
      have O := Lib.hid hown
      clear hown
      go_wp2_with fail
      refine (pick_any g c p2 A z _ _ hrd (by omega) (by omega)).mono ?_
      rintro e w4 ⟨r4, rfl, a4, b4, _, hr4, hg4⟩
      have ho4 := own_drawn (w0 := w) O.out hg4 hlt
      have G4 := Lib.hid ((G.out).trans hg4)
      have hs4 := G4.out.size
      clear hg4 hrd
      by_cases c4 : r4 = 0
      · have e4 : decide (0 < r4) = false := by simp; omega
        clear c4
        go_wp2_with fail
        go_roundw
        case rel => exact ⟨k + 1, l, p2 + 1, by omega, by go_num, by omega, ho4, by omega, hr4, G4.out⟩
        case measure => simp [intOf]; omega
      · have e4 : decide (0 < r4) = true := by simp; omega
        clear c4
        have R4 := Lib.hid hr4
        clear hr4
        go_wp2_with (at_builtin
                     go_must (refine wpList_append_reads _ rfl (.tmp 18) (.tmp 20) _ rfl w.heap.size 3 i0 _ 1 8 Tryd.underlying23 hi0 hz0 hz1 hz2 rfl (by omega) u3 l.length _ rfl (ho4.alloc _) (w4.heap.size + 1) _ 1 1 (cellsI [1 + (k : Int)]) rfl (reads_int (by omega)) (cellsI_one _) (by simp only [maxLen]; omega) (by omega) (by simp; omega) ?_)
                     intro v8 w8 hown8 hg8 hat8)
        go_roundw
        case rel =>
          refine ⟨k + 1, l ++ [1 + (k : Int)], p2 + 1, by omega, by go_num, by simp; omega, ?_, by omega, (R4.out.step ((Below.refl _ _).alloc (Nat.le_refl _) _)).grownRow (ho4.alloc _) hlt hg8, grown_row (grown_alloc G4.out _) (ho4.alloc _) (Nat.le_refl _) hg8⟩
          rw [List.length_append, cellsI_app]
          exact hown8
        case measure => simp [intOf]; omega
    · have e1 : decide ((1 : Int) + (k : Int) ≤ 4 + r2) = false := by simp; omega
      have O := Lib.hid hown
      clear hown
      go_wp2_with fail
      refine (pick_any g c p2 A z _ _ hrd (by omega) (by omega)).mono ?_
      rintro e w4 ⟨r4, rfl, a4, b4, _, hr4, hg4⟩
      have ho4 := own_drawn (w0 := w) O.out hg4 hlt
      have G4 := Lib.hid ((G.out).trans hg4)
      have hs4 := G4.out.size
      clear hg4 hrd
      by_cases c0 : r4 = 0
      · have R4 := Lib.hid hr4
        subst c0
        clear hr4
        go_wp2_with (at_builtin
                     go_must (refine wpList_append_reads _ rfl (.tmp 26) (.tmp 27) _ rfl w.heap.size 3 i0 _ 1 8 Tryd.underlying23 hi0 hz0 hz1 hz2 rfl (by omega) u3 l.length _ rfl (ho4.alloc _) (w4.heap.size + 1) _ 1 1 (cellsI [3]) rfl (reads_int (by omega)) (cellsI_one _) (by simp only [maxLen]; omega) (by omega) (by simp; omega) ?_)
                     intro v8 w8 hown8 hg8 hat8)
        go_ret
        refine ⟨v8, l ++ [3], rfl, ?_, by simp; omega, ⟨⟨_, by omega, (R4.out.step ((Below.refl _ _).alloc (Nat.le_refl _) _)).grownRow (ho4.alloc _) hlt hg8⟩, grown_row (grown_alloc G4.out _) (ho4.alloc _) (Nat.le_refl _) hg8⟩⟩
        rw [List.length_append, cellsI_app]
        exact hown8
      · by_cases c1 : r4 = 1
        · subst c1
          have hr5 := hr4.step ((Below.refl _ _).alloc (Nat.le_refl _) (.cells #[.int .i64 0, .int .i64 99, .int .i64 100] 3))
          have ho5 := ho4.alloc (.cells #[.int .i64 0, .int .i64 99, .int .i64 100] 3)
          have hrow : (w4.alloc (.cells #[.int .i64 0, .int .i64 99, .int .i64 100] 3)).heap[w4.heap.size]? = some (.cells #[.int .i64 0, .int .i64 99, .int .i64 100] 3 (0, 0)) := heap_alloc_new _ _
          have G5 := Lib.hid (grown_alloc G4.out (.cells #[.int .i64 0, .int .i64 99, .int .i64 100] 3))
          have hgl : g < w4.heap.size := hr4.lt
          clear c0 hr4
          go_wp2_with fail
          refine (pick_any g c _ A z _ _ hr5 (by omega) (by omega)).mono ?_
          rintro e w6 ⟨r6, rfl, a6, b6, _, hr6, hg6⟩
          have b6 := b6 (by omega)
          have hrow6 := row_keep hg6 hrow (by omega)
          have ho6 := own_drawn (w0 := w) ho5 hg6 hlt
          have G6 := Lib.hid (G5.out.trans hg6)
          have hs6 := G6.out.size
          have d0 := cell_of_row _ _ 0 _ _ _ hrow6
          have d1 := cell_of_row _ _ 1 _ _ _ hrow6
          have d2 := cell_of_row _ _ 2 _ _ _ hrow6
          have R6 := Lib.hid hr6
          obtain ⟨m, rfl⟩ := Int.eq_ofNat_of_zero_le a6
          obtain ⟨x, hx⟩ : ∃ x, w6.cell? ⟨w4.heap.size, m, none⟩ = some (.int .i64 x) := by
            have : m = 0 ∨ m = 1 ∨ m = 2 := by omega
            rcases this with rfl | rfl | rfl
            · exact ⟨_, d0⟩
            · exact ⟨_, d1⟩
            · exact ⟨_, d2⟩
          clear hr6 hg6 hrow hrow6 d0 d1 d2 hr5 ho5
          have hm3 : (m : Int) < 3 := by omega
          go_wp2_with (at_builtin
                       go_must (refine wpList_append_reads _ rfl (.tmp 31) (.tmp 37) _ rfl w.heap.size 3 i0 _ 1 8 Tryd.underlying23 hi0 hz0 hz1 hz2 rfl (by omega) u3 l.length _ rfl (ho6.alloc _) (w6.heap.size + 1) _ 1 1 (cellsI [x]) rfl (reads_int (by omega)) (cellsI_one _) (by simp only [maxLen]; omega) (by omega) (by simp; omega) ?_)
                       intro v8 w8 hown8 hg8 hat8)
          go_ret
          refine ⟨v8, l ++ [x], rfl, ?_, by simp; omega, ⟨⟨_, by omega, (R6.out.step ((Below.refl _ _).alloc (Nat.le_refl _) _)).grownRow (ho6.alloc _) hlt hg8⟩, grown_row (grown_alloc G6.out _) (ho6.alloc _) (Nat.le_refl _) hg8⟩⟩
          rw [List.length_append, cellsI_app]
          exact hown8
        · by_cases c2 : r4 = 2
          · subst c2
            clear c0 c1
            have hr5 := hr4.step ((Below.refl _ _).alloc (Nat.le_refl _) (.cells #[] 3))
            have hs0 := hs4
            go_wp2_with fail
            go_ret
            exact ⟨_, [], rfl, own_empty hs0 rfl, by simp, ⟨⟨_, by omega, hr5⟩, grown_alloc G4.out _⟩⟩
          · have e0 : (r4 == 0) = false := by simp [c0]
            have e1 : (r4 == 1) = false := by simp [c1]
            have e2 : (r4 == 2) = false := by simp [c2]
            clear c0 c1 c2
            go_wp2_with fail
            go_ret
            exact ⟨_, l, rfl, ho4, by omega, ⟨⟨_, by omega, hr4⟩, G4.out⟩⟩
end Go.Proofs.YtpkmnigkcefnpaaDoor
