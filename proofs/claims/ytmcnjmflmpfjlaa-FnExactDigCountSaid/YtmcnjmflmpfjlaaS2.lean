/- What the model's groups are. -/
import Derived.Test.YtmcnjmflmpfjlaaS1
import Derived.StillTailTactics
namespace Go.Proofs.Ytmcnjmflmpfjlaa
open Go.RowKit

theorem sInfoInt : (Try.prog.info? 3).map (fun i => (i.zero, i.size, i.bytes)) = some (some (.int .i64 0), 1, 8) := by kernel_rfl
theorem sCells_append (l m : List Int) : cellsI (l ++ m) = cellsI l ++ cellsI m := by simp [cellsI]
def IntsS (w : World) (out : List Int) (e : Ending) (w2 : World) : Prop :=
  ∃ v, e = .returned v ∧ Below w.heap.size w w2 ∧ w2.ownsRow w.heap.size 3 1 v out.length (cellsI out)
theorem joinG_next {g : List Int} {a b x : Int} {k : Nat} (h : g[k]? = some x) : joinG (g.take (k + 1)) a b = joinG (g.take k) a b ++ [if x = a ∨ x = b then min a b else x] := by
  unfold joinG
  rw [List.take_add_one, h, List.map_append]
  rfl
theorem joinG_to {g : List Int} {a b x y : Int} {k : Nat} (h : g[k]? = some x) (hy : (if x = a ∨ x = b then min a b else x) = y) : joinG (g.take (k + 1)) a b = joinG (g.take k) a b ++ [y] := by
  rw [joinG_next h, hy]
set_option maxHeartbeats 1600000 in
set_option maxRecDepth 100000 in
theorem sJoin_any (A : Option Addr) (cap : Nat) (g : List Int) (a b : Int) (w : World) (hr : Reads w w.heap.size 1 A g.length (cellsI g)) (hl : g.length ≤ 1000000000) :
    Calls Try.prog 111 #[.slice A g.length cap, .int .i64 a, .int .i64 b] w (IntsS w (joinG g a b)) := by
  obtain ⟨i0, hi0, hz0, hz1, hz2⟩ := info_parts sInfoInt
  have ho1 : (w.alloc (.cells #[] 3)).ownsRow w.heap.size 3 1 (.slice (some ⟨w.heap.size, 0, none⟩) 0 0) 0 [] := own_empty (Nat.le_refl _) rfl
  have hb1 : Below w.heap.size w (w.alloc (.cells #[] 3)) := (Below.refl _ _).alloc (Nat.le_refl _) _
  go_enter Try.func111, Try.ntmps111
  go_wp2_with fail
  go_loopw [7, 8] (fun v i wr => ∃ k : Nat, k ≤ g.length ∧ i = .int .i64 k ∧ Below w.heap.size w wr ∧ wr.ownsRow w.heap.size 3 1 v k (cellsI (joinG (g.take k) a b))) (fun _ i _ => g.length - (intOf i).toNat)
  case atStart => exact ⟨0, Nat.zero_le _, rfl, hb1, by simpa [joinG, cellsI] using ho1⟩
  case round =>
    obtain ⟨k, hk, rfl, hbl, hown⟩ := hrel
    clear ho1 hb1
    have hsz := hbl.size
    by_cases hlt : k < g.length
    · obtain ⟨p, off, hA, hbb, hc⟩ := (hr.below hbl).ints (by omega)
      subst hA
      obtain ⟨x, hx⟩ : ∃ x, g[k]? = some x := ⟨_, List.getElem?_eq_getElem hlt⟩
      have c1 := hc k _ hx
      have hkl : (k : Int) < (g.length : Int) := by omega
      have HB := Lib.hid hbl
      clear hc hr hbl
      by_cases h1 : x = a
      · have e1 : (x == a) = true := by simp [h1]
        by_cases h2 : b < a
        · have HT := Lib.hid (joinG_to (a := a) (b := b) (y := b) hx (by rw [if_pos (.inl h1)]; omega))
          clear h1 hx
          go_wp2_with (at_builtin
                       (refine wpList_append_reads _ rfl (.tmp 32) (.tmp 34) _ rfl w.heap.size 3 i0 _ 1 8 Try.underlying23 hi0 hz0 hz1 hz2 rfl (by omega) u7 k _ rfl (hown.alloc _) (wr.heap.size + 1) _ 1 1 (cellsI [b]) rfl (reads_int (by omega)) (cellsI_one _) (by simp only [maxLen]; omega) (by omega) (by simp; omega) ?_)
                       intro v4 w4 hown4 hg4 hat4
                       have hb4 := app_below hown (Nat.le_refl _) hsz hg4)
          go_roundw
          case rel => exact ⟨k + 1, by omega, by go_num, HB.out.trans hb4, by rw [HT.out, sCells_append]; exact hown4⟩
          case measure => simp [intOf]; omega
        · have HT := Lib.hid (joinG_to (a := a) (b := b) (y := a) hx (by rw [if_pos (.inl h1)]; omega))
          clear h1 hx
          go_wp2_with (at_builtin
                       (refine wpList_append_reads _ rfl (.tmp 32) (.tmp 34) _ rfl w.heap.size 3 i0 _ 1 8 Try.underlying23 hi0 hz0 hz1 hz2 rfl (by omega) u7 k _ rfl (hown.alloc _) (wr.heap.size + 1) _ 1 1 (cellsI [a]) rfl (reads_int (by omega)) (cellsI_one _) (by simp only [maxLen]; omega) (by omega) (by simp; omega) ?_)
                       intro v4 w4 hown4 hg4 hat4
                       have hb4 := app_below hown (Nat.le_refl _) hsz hg4)
          go_roundw
          case rel => exact ⟨k + 1, by omega, by go_num, HB.out.trans hb4, by rw [HT.out, sCells_append]; exact hown4⟩
          case measure => simp [intOf]; omega
      · have e1 : (x == a) = false := by simp [h1]
        by_cases h3 : x = b
        · have e3 : (x == b) = true := by simp [h3]
          by_cases h2 : b < a
          · have HT := Lib.hid (joinG_to (a := a) (b := b) (y := b) hx (by rw [if_pos (.inr h3)]; omega))
            clear h1 h3 hx
            go_wp2_with (at_builtin
                         (refine wpList_append_reads _ rfl (.tmp 32) (.tmp 34) _ rfl w.heap.size 3 i0 _ 1 8 Try.underlying23 hi0 hz0 hz1 hz2 rfl (by omega) u7 k _ rfl (hown.alloc _) (wr.heap.size + 1) _ 1 1 (cellsI [b]) rfl (reads_int (by omega)) (cellsI_one _) (by simp only [maxLen]; omega) (by omega) (by simp; omega) ?_)
                         intro v4 w4 hown4 hg4 hat4
                         have hb4 := app_below hown (Nat.le_refl _) hsz hg4)
            go_roundw
            case rel => exact ⟨k + 1, by omega, by go_num, HB.out.trans hb4, by rw [HT.out, sCells_append]; exact hown4⟩
            case measure => simp [intOf]; omega
          · have HT := Lib.hid (joinG_to (a := a) (b := b) (y := a) hx (by rw [if_pos (.inr h3)]; omega))
            clear h1 h3 hx
            go_wp2_with (at_builtin
                         (refine wpList_append_reads _ rfl (.tmp 32) (.tmp 34) _ rfl w.heap.size 3 i0 _ 1 8 Try.underlying23 hi0 hz0 hz1 hz2 rfl (by omega) u7 k _ rfl (hown.alloc _) (wr.heap.size + 1) _ 1 1 (cellsI [a]) rfl (reads_int (by omega)) (cellsI_one _) (by simp only [maxLen]; omega) (by omega) (by simp; omega) ?_)
                         intro v4 w4 hown4 hg4 hat4
                         have hb4 := app_below hown (Nat.le_refl _) hsz hg4)
            go_roundw
            case rel => exact ⟨k + 1, by omega, by go_num, HB.out.trans hb4, by rw [HT.out, sCells_append]; exact hown4⟩
            case measure => simp [intOf]; omega
        · have e3 : (x == b) = false := by simp [h3]
          have HT := Lib.hid (joinG_to (a := a) (b := b) (y := x) hx (if_neg (by rintro (h | h) <;> contradiction)))
          clear h1 h3 hx
          go_wp2_with (at_builtin
                       (refine wpList_append_reads _ rfl (.tmp 32) (.tmp 34) _ rfl w.heap.size 3 i0 _ 1 8 Try.underlying23 hi0 hz0 hz1 hz2 rfl (by omega) u7 k _ rfl (hown.alloc _) (wr.heap.size + 1) _ 1 1 (cellsI [x]) rfl (reads_int (by omega)) (cellsI_one _) (by simp only [maxLen]; omega) (by omega) (by simp; omega) ?_)
                       intro v4 w4 hown4 hg4 hat4
                       have hb4 := app_below hown (Nat.le_refl _) hsz hg4)
          go_roundw
          case rel => exact ⟨k + 1, by omega, by go_num, HB.out.trans hb4, by rw [HT.out, sCells_append]; exact hown4⟩
          case measure => simp [intOf]; omega
    · have hkl : k = g.length := by omega
      have HK := Lib.hid (And.intro hkl (And.intro hbl hown))
      clear hkl hbl hown
      go_wp2_with fail
      go_ret
      obtain ⟨hkl, hbl, hown⟩ := HK.out
      rw [hkl, List.take_length] at hown
      refine ⟨_, rfl, hbl, ?_⟩
      rw [joinG_len]
      exact hown
end Go.Proofs.Ytmcnjmflmpfjlaa
