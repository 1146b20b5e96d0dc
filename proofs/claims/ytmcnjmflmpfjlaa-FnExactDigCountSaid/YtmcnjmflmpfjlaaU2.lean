/- What the model's closing of a table is. -/
import Derived.Test.YtmcnjmflmpfjlaaU1
import Derived.Deep.Light
namespace Go.Proofs.Ytmcnjmflmpfjlaa
open Go.RowKit

/-- The table while place k is gone through: rows below i, and of row i the columns below j, are done. -/
def mixB (f : Nat → Nat → Bool) (k i j a b : Nat) : Bool := if a < i ∨ (a = i ∧ b < j) then wayB f (k + 1) a b else wayB f k a b
theorem mixB_col (f : Nat → Nat → Bool) (k i j a : Nat) : mixB f k i j a k = wayB f k a k := by
  unfold mixB
  split
  · rw [wayB]
    cases wayB f k a k <;> simp
  · rfl
theorem mixB_row (f : Nat → Nat → Bool) (k i j b : Nat) : mixB f k i j k b = wayB f k k b := by
  unfold mixB
  split
  · rw [wayB]
    cases wayB f k k b <;> simp
  · rfl
theorem mixB_here (f : Nat → Nat → Bool) (k i j : Nat) : mixB f k i j i j = wayB f k i j := by
  unfold mixB
  rw [if_neg (by omega)]
theorem mixB_set (f : Nat → Nat → Bool) (n k i j : Nat) (x : Bool) (hx : x = wayB f (k + 1) i j) : tabN n (fun a b => if a = i ∧ b = j then x else mixB f k i j a b) = tabN n (mixB f k i (j + 1)) := by
  refine tabN_congr fun a b _ _ => ?_
  subst hx
  unfold mixB
  by_cases h : a = i ∧ b = j
  · obtain ⟨rfl, rfl⟩ := h
    rw [if_pos ⟨rfl, rfl⟩, if_pos (by omega)]
  · rw [if_neg h]
    by_cases h2 : a < i ∨ (a = i ∧ b < j)
    · rw [if_pos h2, if_pos (by omega)]
    · rw [if_neg h2, if_neg (by omega)]
theorem mixB_next (f : Nat → Nat → Bool) (n k i : Nat) : tabN n (mixB f k i n) = tabN n (mixB f k (i + 1) 0) := by
  refine tabN_congr fun a b _ hb => ?_
  unfold mixB
  by_cases h : a < i ∨ (a = i ∧ b < n)
  · rw [if_pos h, if_pos (by omega)]
  · rw [if_neg h, if_neg (by omega)]
theorem mixB_first (f : Nat → Nat → Bool) (n k : Nat) : tabN n (mixB f k 0 0) = tabN n (wayB f k) := tabN_congr fun a b _ _ => by unfold mixB; rw [if_neg (by omega)]
theorem mixB_last (f : Nat → Nat → Bool) (n k : Nat) : tabN n (mixB f k n 0) = tabN n (wayB f (k + 1)) := tabN_congr fun a b ha _ => by unfold mixB; rw [if_pos (by omega)]
theorem tabN_next (n : Nat) (f : Nat → Nat → Bool) {k : Nat} (hk : k < n) : (tabN n f).take k ++ [rowN n (f k)] = (tabN n f).take (k + 1) := by
  rw [List.take_add_one, tabN_row _ hk]; rfl

set_option maxHeartbeats 8000000 in
set_option maxRecDepth 100000 in
theorem sClose_any (A : Option Addr) (cap n : Nat) (f : Nat → Nat → Bool) (w : World) (hm : Nest encB w w.heap.size A n (tabN n f)) (hn : n ≤ 12) :
    Calls Try.prog 100 #[.slice A n cap] w (TabPost w n (clos f n)) := by
  obtain ⟨ib, hib, hbz, hbs, hbb'⟩ := info_parts infoBool
  obtain ⟨ir, hir, hrz, hrs, hrb⟩ := info_parts infoBools
  have hb3 : Below w.heap.size w (w.alloc (.cells #[] 85)) := (Below.refl _ _).alloc (Nat.le_refl _) _
  have ho3 : OwnV encB (w.alloc (.cells #[] 85)) w.heap.size 4 85 (.slice (some ⟨w.heap.size, 0, none⟩) 0 0) [] [] := OwnV.nil_ (own_empty (Nat.le_refl _) rfl)
  have O3 := Lib.hid (And.intro hb3 ho3)
  clear hb3 ho3
  go_enter Try.func100, Try.ntmps100
  go_wp2_with fail
  go_loopw [3, 4] (fun v i wr => ∃ (k : Nat) (vs : List Value), k ≤ n ∧ i = .int .i64 k ∧ Below w.heap.size w wr ∧ OwnV encB wr w.heap.size 4 85 v vs ((tabN n f).take k)) (fun _ i _ => n - (intOf i).toNat)
  case atStart => exact ⟨0, [], Nat.zero_le _, rfl, O3.out.1, O3.out.2⟩
  case round =>
    obtain ⟨k, vs, hk, rfl, hbl, hown⟩ := hrel
    have hsz := hbl.size
    by_cases hlt : k < n
    · have hli : (k : Int) < (n : Int) := by omega
      obtain ⟨b, off, A2, c2, hA, hbb, hcell, hc2, hrow⟩ := (hm.below hbl).row (tabN_row f hlt)
      rw [rowN_len] at hcell hc2 hrow
      subst hA
      have hLk : ((tabN n f).take k).length = k := by rw [List.length_take, tabN_len]; omega
      have HB := Lib.hid (And.intro hbl hrow)
      have hoo := hown.out
      rw [hLk] at hoo
      have HO := Lib.hid (And.intro hown hoo)
      have hnew0 : (wr.alloc (.cells #[] 4)).ownsRow wr.heap.size 4 1 (.slice (some ⟨wr.heap.size, 0, none⟩) 0 0) 0 [] := own_empty (Nat.le_refl _) rfl
      have hrow2 := hrow.keep (w2 := wr.alloc (.cells #[] 4)) fun b o hlt => World.cell?_alloc_lt wr _ _ (by simpa using Nat.lt_of_lt_of_le hlt hsz)
      have HN := Lib.hid (And.intro hnew0 hrow2)
      clear hbl hown hrow hnew0 hrow2 hLk hoo
      have hbw : b < wr.heap.size := Nat.lt_of_lt_of_le hbb hsz
      go_wp2_with (first
        | (at_builtin
           refine wpList_append_reads _ rfl (.tmp 16) (.tmp 20) _ rfl wr.heap.size 4 ib _ 1 1 Try.underlying85 hib hbz hbs hbb' rfl (by omega) _ 0 _ rfl HN.out.1 w.heap.size _ n c2 ((rowN n (f k)).map encB) rfl HN.out.2 (by intro u hu; obtain ⟨x, _, rfl⟩ := List.mem_map.1 hu; rfl) (by simp only [maxLen]; omega) (by omega) (by simp) ?_
           intro v5 w5 hnew hg5 hat5
           have hb5 : Below wr.heap.size wr w5 := ((Below.refl _ _).alloc (Nat.le_refl _) _).trans (app_below0 HN.out.1 (Nat.le_refl _) (by simp) hg5)
           rw [Nat.zero_add, List.nil_append] at hnew
           obtain ⟨A5, c5, rfl, _, _⟩ := own_slice hnew)
        | (at_builtin
           go_must (refine wpList_append_reads _ rfl (.tmp 15) (.tmp 22) _ rfl w.heap.size 85 ir _ 1 24 Try.underlying83 hir hrz hrs hrb rfl (by omega) u3 k vs rfl ((own_below HO.out.2 hb5).alloc _) (w5.heap.size + 1) _ 1 1 [.slice A5 n c5] rfl (reads_val (by omega)) one_slice (by simp only [maxLen]; omega) (by omega) (by have := hb5.size; simp; omega) ?_)
           intro v6 w6 hown6 hg6 hat6))
      go_roundw
      case rel =>
        have hp := (HO.out.1.below hb5).push (r := rowN n (f k)) (u := .slice A5 n c5) (by rw [rowN_len]; exact own_less hnew hsz) (HO.out.1.fresh hnew (Nat.le_refl _)) (by rw [show ((tabN n f).take k).length = k from by rw [List.length_take, tabN_len]; omega]; exact hown6) hg6 hat6
        rw [tabN_next n f hlt] at hp
        exact ⟨k + 1, _, by omega, by go_num, (below_step HB.out.1 hb5).trans (app_below (HO.out.1.below hb5).out (Nat.le_refl _) (Nat.le_trans hsz hb5.size) hg6), hp⟩
      case measure => simp [intOf]; omega
    · have hkl : k = n := by omega
      have hkn : (tabN n f).take k = tabN n f := List.take_of_length_le (by rw [tabN_len]; omega)
      rw [hkn] at hown
      have HO := Lib.hid (And.intro hbl hown)
      clear hbl hown hm hk hsz hkn hkl
      go_wp2_with fail
      go_loopw [5] (fun i w3 => ∃ q : Nat, q ≤ n ∧ i = .int .i64 q ∧ Below w.heap.size w w3 ∧ OwnV encB w3 w.heap.size 4 85 u3 vs (tabN n (wayB f q))) (fun i _ => n - (intOf i).toNat)
      case atStart => exact ⟨0, Nat.zero_le _, rfl, HO.out.1, HO.out.2⟩
      case round =>
        obtain ⟨q, hq, rfl, hbl, hown⟩ := hrel
        have HQ := Lib.hid (And.intro hbl hown)
        clear hbl hown
        by_cases hqn : q < n
        · have hqi : (q : Int) < (n : Int) := by omega
          go_wp2_with fail
          go_loopw [6] (fun i w3 => ∃ i0 : Nat, i0 ≤ n ∧ i = .int .i64 i0 ∧ Below w.heap.size w w3 ∧ OwnV encB w3 w.heap.size 4 85 u3 vs (tabN n (mixB f q i0 0))) (fun i _ => n - (intOf i).toNat)
          case atStart => exact ⟨0, Nat.zero_le _, rfl, HQ.out.1, by rw [mixB_first]; exact HQ.out.2⟩
          case round =>
            obtain ⟨i, hi, rfl, hbl, hown⟩ := hrel
            have HI := Lib.hid (And.intro hbl hown)
            clear hbl hown
            by_cases hii : i < n
            · have hiii : (i : Int) < (n : Int) := by omega
              go_wp2_with fail
              go_loopw [7] (fun i1 w3 => ∃ j0 : Nat, j0 ≤ n ∧ i1 = .int .i64 j0 ∧ Below w.heap.size w w3 ∧ OwnV encB w3 w.heap.size 4 85 u3 vs (tabN n (mixB f q i j0))) (fun i _ => n - (intOf i).toNat)
              case atStart => exact ⟨0, Nat.zero_le _, rfl, HI.out.1, HI.out.2⟩
              case round =>
                obtain ⟨j, hj, rfl, hbl, hown⟩ := hrel
                by_cases hjj : j < n
                · have hjji : (j : Int) < (n : Int) := by omega
                  obtain ⟨gi, ci, hvi, hgi1, hgi2, hci, hfi⟩ := hown.cells (tabN_row _ hii) (by rw [rowN_len]; omega)
                  obtain ⟨gk, ck, hvk, hgk1, hgk2, hck, _⟩ := hown.cells (tabN_row _ hqn) (by rw [rowN_len]; omega)
                  rw [rowN_len] at hvi hvk
                  obtain ⟨go, co, hvo, hgo1, hgo2, hou⟩ := hown.outer (by rw [tabN_len]; omega)
                  rw [tabN_len] at hvo
                  have f5 := hou i _ hvi
                  have f6 := hou q _ hvk
                  have f1 := hci j _ (rowN_at _ hjj)
                  have f2 := hci q _ (rowN_at _ hqn)
                  have f3 := hck j _ (rowN_at _ hjj)
                  have f4 := hfi j
                  rw [mixB_here] at f1
                  rw [mixB_col] at f2
                  rw [mixB_row] at f3
                  simp only [encB] at f1 f2 f3
                  obtain ⟨x, hx⟩ : ∃ x, wayB f q i j = x := ⟨_, rfl⟩
                  obtain ⟨y, hy⟩ : ∃ y, wayB f q i q = y := ⟨_, rfl⟩
                  obtain ⟨z, hz0⟩ : ∃ z, wayB f q q j = z := ⟨_, rfl⟩
                  rw [hx] at f1
                  rw [hy] at f2
                  rw [hz0] at f3
                  have HE := Lib.hid (And.intro hx (And.intro hy hz0))
                  subst hvo
                  have HX := Lib.hid (And.intro hbl (And.intro hown hvi))
                  clear hbl hown hvi hvk hou hci hck hfi hx hy hz0
                  cases x
                  · cases y
                    · go_wp2_with fail
                      refine region_still_tail2 30 (by kernel_rfl) (by kernel_rfl) ?_
                      intro W hW hz hbw
                      simp only [List.take_succ_cons, List.take_zero, List.drop_succ_cons, List.drop_zero]
                      refine Shut.out ?_
                      iterate 30
                        refine still_stepH (fun K hK => ?_)
                        go_simp
                        refine hK _ ?_
                        clear hK K
                      refine still_nilH ?_
                      have w1' := (World.cell?_of_block (w := wr) (a := ⟨gi, j, none⟩) (hbw.block gi hgi2)).trans f1
                      have w2' := (World.frozen?_of_block (w := wr) (a := ⟨gi, j, none⟩) (hbw.block gi hgi2)).trans f4
                      have HW := Lib.hid hbw
                      clear hW hz hbw f1 f2 f3 f4 f5 f6
                      go_wp2_with fail
                      go_roundw
                      case rel =>
                        obtain ⟨hbl, hown, hvi⟩ := HX.out
                        have hownW := (hown.below HW.out).store (j := j) (tabN_row _ hii) (by rw [rowN_len]; exact hvi) false
                        rw [tabN_set, mixB_set f n q i j false (by rw [wayB, HE.out.1, HE.out.2.1]; rfl)] at hownW
                        exact ⟨j + 1, by omega, by go_num, (below_step hbl HW.out).setCell (by simpa using hgi1) _, hownW⟩
                      case measure => simp [intOf]; omega
                    · go_wp2_with fail
                      refine region_still_tail2 30 (by kernel_rfl) (by kernel_rfl) ?_
                      intro W hW hz hbw
                      simp only [List.take_succ_cons, List.take_zero, List.drop_succ_cons, List.drop_zero]
                      refine Shut.out ?_
                      iterate 30
                        refine still_stepH (fun K hK => ?_)
                        go_simp
                        refine hK _ ?_
                        clear hK K
                      refine still_nilH ?_
                      have w1' := (World.cell?_of_block (w := wr) (a := ⟨gi, j, none⟩) (hbw.block gi hgi2)).trans f1
                      have w2' := (World.frozen?_of_block (w := wr) (a := ⟨gi, j, none⟩) (hbw.block gi hgi2)).trans f4
                      have HW := Lib.hid hbw
                      clear hW hz hbw f1 f2 f3 f4 f5 f6
                      go_wp2_with fail
                      go_roundw
                      case rel =>
                        obtain ⟨hbl, hown, hvi⟩ := HX.out
                        have hownW := (hown.below HW.out).store (j := j) (tabN_row _ hii) (by rw [rowN_len]; exact hvi) z
                        rw [tabN_set, mixB_set f n q i j z (by rw [wayB, HE.out.1, HE.out.2.1, HE.out.2.2]; rfl)] at hownW
                        exact ⟨j + 1, by omega, by go_num, (below_step hbl HW.out).setCell (by simpa using hgi1) _, hownW⟩
                      case measure => simp [intOf]; omega
                  · go_wp2_with fail
                    refine region_still_tail2 30 (by kernel_rfl) (by kernel_rfl) ?_
                    intro W hW hz hbw
                    simp only [List.take_succ_cons, List.take_zero, List.drop_succ_cons, List.drop_zero]
                    refine Shut.out ?_
                    iterate 30
                      refine still_stepH (fun K hK => ?_)
                      go_simp
                      refine hK _ ?_
                      clear hK K
                    refine still_nilH ?_
                    have w1' := (World.cell?_of_block (w := wr) (a := ⟨gi, j, none⟩) (hbw.block gi hgi2)).trans f1
                    have w2' := (World.frozen?_of_block (w := wr) (a := ⟨gi, j, none⟩) (hbw.block gi hgi2)).trans f4
                    have HW := Lib.hid hbw
                    clear hW hz hbw f1 f2 f3 f4 f5 f6
                    go_wp2_with fail
                    go_roundw
                    case rel =>
                      obtain ⟨hbl, hown, hvi⟩ := HX.out
                      have hownW := (hown.below HW.out).store (j := j) (tabN_row _ hii) (by rw [rowN_len]; exact hvi) true
                      rw [tabN_set, mixB_set f n q i j true (by rw [wayB, HE.out.1]; rfl)] at hownW
                      exact ⟨j + 1, by omega, by go_num, (below_step hbl HW.out).setCell (by simpa using hgi1) _, hownW⟩
                    case measure => simp [intOf]; omega
                · have HJ := Lib.hid (And.intro hbl hown)
                  have hjn : j = n := by omega
                  clear hbl hown
                  go_wp2_with fail
                  go_roundw
                  case rel => exact ⟨i + 1, by omega, by go_num, HJ.out.1, by rw [← mixB_next]; rw [← hjn]; rw [hjn]; have h9 := HJ.out.2; rw [hjn] at h9; exact h9⟩
                  case measure => simp [intOf]; omega
            · have hin : i = n := by omega
              go_wp2_with fail
              go_roundw
              case rel => exact ⟨q + 1, by omega, by go_num, HI.out.1, by rw [← mixB_last]; have h9 := HI.out.2; rw [hin] at h9; exact h9⟩
              case measure => simp [intOf]; omega
        · have hqn2 : q = n := by omega
          go_wp2_with fail
          go_ret
          exact ⟨_, vs, rfl, HQ.out.1, by have h9 := HQ.out.2; rw [hqn2] at h9; exact h9⟩
end Go.Proofs.Ytmcnjmflmpfjlaa
