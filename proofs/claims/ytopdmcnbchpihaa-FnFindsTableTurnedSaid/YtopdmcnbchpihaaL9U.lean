/-
  Whatever bytes are given: of contexts and finds drawn from them, the finds in another order have the same table; the table is the model's. No condition.
-/
import Derived.Test.YtopdmcnbchpihaaEnt
import Derived.Test.YtopdmcnbchpihaaLif
import Derived.Test.YtopdmcnbchpihaaMak
import Derived.Test.YtopdmcnbchpihaaFdt
import Derived.Test.YtopdmcnbchpihaaFnt
import Derived.Test.YtopdmcnbchpihaaIft
import Derived.Test.YtopdmcnbchpihaaBti
import Derived.Test.YtopdmcnbchpihaaTriFind
import Derived.Test.YtopdmcnbchpihaaOpen
import Derived.Deep.RegionHeld3
namespace Go.Proofs.Ytopdmcnbchpihaa.lawFindsTableTurned
open Go.ChangeShapes Go.WideShapes Go.ChangeAt Go.RowKit

theorem tab_small (ids : List Int) (l : List Ctx) : (tabG ids l).length ≤ 12 ∧ ∀ r ∈ tabG ids l, r.length ≤ 5 := by
  unfold tabG
  split
  · rename_i h
    have hn : ids.length ≤ 12 := validO_len (tabOk_parts h).1
    refine ⟨by rw [tableF_len]; omega, fun r hr => ?_⟩
    obtain ⟨a, _, rfl⟩ := List.mem_map.1 hr
    rw [rowF_len]
    omega
  · simp
set_option maxHeartbeats 8000000 in
set_option maxRecDepth 100000 in
theorem walk_short (A : Option Addr) (c : Nat) (z : List Int) (w : World) (h : Bytes w A c z) (hn : z.length ≤ 1048576) :
    Calls Try.prog 6 #[.slice A z.length c] w fun e w2 => e = .returned (.bool true) ∧ Below w.heap.size w w2 := by
  obtain ⟨i0, hi0, hz0, hz1, hz2⟩ := info_parts infoFind
  have e0 : decide ((1048576 : Int) < (z.length : Int)) = false := decide_eq_false (by omega)
  go_enter Try.func6, Try.ntmps6
  go_wp2_with fail
  refine (dTableFd_any A c z _ h).mono ?_
  rintro e w2 ⟨v1, v2, ids, L, rfl, ho1, ho2, hl1, hl2, hb2⟩
  obtain ⟨A1, c1, hv1, hcap1, hr1⟩ := own_slice ho1
  obtain ⟨A2, c2, hv2, hcap2, hr2⟩ := own_slice ho2
  subst hv1 hv2
  have HR := Lib.hid (And.intro hb2 (And.intro hr1 hr2))
  clear ho1 ho2 hb2 h hr1 hr2
  obtain ⟨M, hM⟩ : ∃ M, M = tabG ids L := ⟨_, rfl⟩
  obtain ⟨o, ho⟩ : ∃ o, o = tabOk ids L := ⟨_, rfl⟩
  obtain ⟨hMl, hMr⟩ := tab_small ids L
  rw [← hM] at hMl hMr
  have q2 : decide (M = M) = true := decide_eq_true rfl
  have eb : (o != o) = false := by simp
  have ec : (o == o) = true := by simp
  have HC := Lib.hid (And.intro hM (And.intro ho hMr))
  clear hM ho hMr
  go_wp2_with fail
  refine (iTable_any _ _ _ _ ids L _ HR.out.2.1 HR.out.2.2 (by omega) (by omega)).mono ?_
  rintro e w3 ⟨v4, vs4, rfl, hb3, ho4⟩
  rw [← HC.out.1] at ho4
  rw [← HC.out.2.1]
  obtain ⟨A4, c4, hv4, hcap4, hr4⟩ := ho4.nest
  subst hv4
  have H3 := Lib.hid (And.intro hb3 hr4)
  clear hb3 ho4 hr4
  go_wp2_with fail
  refine (sTable_any _ _ _ _ ids L _ (HR.out.2.1.step H3.out.1) (HR.out.2.2.step H3.out.1) (by omega) (by omega)).mono ?_
  rintro e w4 ⟨v5, vs5, rfl, hb4, ho5⟩
  rw [← HC.out.1] at ho5
  rw [← HC.out.2.1]
  obtain ⟨A5, c5, hv5, hcap5, hr5⟩ := ho5.nest
  subst hv5
  have H4 := Lib.hid (And.intro hb4 hr5)
  clear hb4 ho5 hr5
  go_wp2_with fail
  refine (sameCounts_any _ _ _ _ M M _ (H3.out.2.step H4.out.1) H4.out.2 (by omega) (fun r hr => by have := HC.out.2.2 r hr; omega)).mono ?_
  rintro e w5 ⟨rfl, hb5⟩
  have k5 := below_step H4.out.1 hb5
  have k25 := below_step H3.out.1 k5
  have R := Lib.hid (And.intro (HR.out.2.1.step k25) (And.intro (HR.out.2.2.step k25) (And.intro (H3.out.2.step k5) (below_step HR.out.1 k25))))
  have R4 := Lib.hid (H4.out.2.step hb5)
  clear hb5 k5 k25
  cases o
  · clear eb ec
    go_wp2_with fail
    refine (sameCounts_any _ _ _ _ M M _ R.out.2.2.1 R4.out (by omega) (fun r hr => by have := HC.out.2.2 r hr; omega)).mono ?_
    rintro e w6 ⟨rfl, hb6⟩
    go_wp2_with fail
    go_ret
    exact ⟨rfl, below_step R.out.2.2.2 hb6⟩
  · clear eb ec
    rcases Nat.eq_zero_or_pos L.length with h0 | hpos
    · have e1 : ((L.length : Int) == 0) = true := by simp [h0]
      clear h0
      go_wp2_with fail
      refine (sameCounts_any _ _ _ _ M M _ R.out.2.2.1 R4.out (by omega) (fun r hr => by have := HC.out.2.2 r hr; omega)).mono ?_
      rintro e w6 ⟨rfl, hb6⟩
      go_wp2_with fail
      go_ret
      exact ⟨rfl, below_step R.out.2.2.2 hb6⟩
    · have e1 : ((L.length : Int) == 0) = false := by rw [beq_eq_false_iff_ne]; omega
      have hok : tabOk ids L = true := HC.out.2.1.symm
      have hpi : (0 : Int) < (L.length : Int) := by omega
      obtain ⟨f, hf⟩ : ∃ f, L[0]? = some f := ⟨_, List.getElem?_eq_getElem hpos⟩
      have hLe : L = f :: L.drop 1 := by
        cases L with
        | nil => simp at hpos
        | cons a b => simp at hf; simp [hf]
      obtain ⟨xs, hxs⟩ : ∃ xs, xs = L.drop 1 ++ [f] := ⟨_, rfl⟩
      have htn := tab_turn (f := f) (L := L.drop 1) (ids := ids) (by rw [← hLe]; exact hok)
      rw [← hLe, ← hxs, ← HC.out.1] at htn
      have hxl : xs.length = L.length := by rw [hxs]; simp; omega
      have hxb : xs.length ≤ 100000 := by omega
      have HXL := Lib.hid hxl
      have Hxs := Lib.hid (And.intro hxs (And.intro htn hLe))
      clear hxs htn hLe hok hxl
      obtain ⟨b, off, hA, hbb, hc⟩ := R.out.2.1.ctx hpos
      subst hA
      obtain ⟨f1, f2, f3⟩ := hc 0 f hf
      simp only [Nat.zero_mul, Nat.add_zero] at f1 f2 f3
      have hk0 : (1 : Int) ≤ (c2 : Int) := by omega
      have hk1 : (1 : Int) ≤ (L.length : Int) := by omega
      have HFf := Lib.hid hf
      clear hf hc
      have hk1n : 1 ≤ L.length := hpos
      by_cases hcc : c2 = 1
      · have HT : Hid (0 < L.length - 1 → (some ⟨b, off, none⟩ : Option Addr) = (some ⟨b, off, none⟩ : Option Addr).map (·.add (1 * 3))) := by
          show 0 < L.length - 1 → _
          intro h0
          omega
        have hcc2 : (c2 = 1) = True := eq_true hcc
        clear hcc
        go_wp2_with fail
        have aA : Below w5.heap.size w5 ((w5.drewN 1).alloc (.cells #[] 31)) := (below_draws (Below.refl _ _) 1).alloc (Nat.le_refl _) _
        have aB : Below w5.heap.size w5 (((w5.drewN 1).alloc (.cells #[] 31)).alloc (.cells #[.int .i64 f.id, .int .i64 f.kind, .int .i64 f.area] 31)) := aA.alloc aA.size _
        have aC : Below w5.heap.size w5 (((w5.drewN 1).alloc (.cells #[.int .i64 f.id, .int .i64 f.kind, .int .i64 f.area] 31)).alloc (.cells #[] 31)) := ((below_draws (Below.refl _ _) 1).alloc (Nat.le_refl _) (.cells #[.int .i64 f.id, .int .i64 f.kind, .int .i64 f.area] 31)).alloc (by simp) _
        have oA : ((w5.drewN 1).alloc (.cells #[] 31)).ownsRow w5.heap.size 31 3 (.slice (some ⟨w5.heap.size, 0, none⟩) 0 0) 0 [] := own_empty (w := (w5.drewN 1)) (Nat.le_refl _) rfl
        have oB : (((w5.drewN 1).alloc (.cells #[] 31)).alloc (.cells #[.int .i64 f.id, .int .i64 f.kind, .int .i64 f.area] 31)).ownsRow w5.heap.size 31 3 (.slice (some ⟨w5.heap.size, 0, none⟩) 0 0) 0 [] := oA.alloc _
        have oC : (((w5.drewN 1).alloc (.cells #[.int .i64 f.id, .int .i64 f.kind, .int .i64 f.area] 31)).alloc (.cells #[] 31)).ownsRow w5.heap.size 31 3 (.slice (some ⟨w5.heap.size + 1, 0, none⟩) 0 0) 0 [] := own_empty (by simp) (by simp)
        have rA := (R.out.2.1.below aA).tailC hk1n HT.out
        have rB := (R.out.2.1.below aB).tailC hk1n HT.out
        have rC := (R.out.2.1.below aC).tailC hk1n HT.out
        have nB : (((w5.drewN 1).alloc (.cells #[] 31)).alloc (.cells #[.int .i64 f.id, .int .i64 f.kind, .int .i64 f.area] 31)).heap[w5.heap.size + 1]? = some (.cells #[.int .i64 f.id, .int .i64 f.kind, .int .i64 f.area] 31 (0, 0)) := by
          have := heap_alloc_new ((w5.drewN 1).alloc (.cells #[] 31)) (.cells #[.int .i64 f.id, .int .i64 f.kind, .int .i64 f.area] 31)
          simpa using this
        have nC : (((w5.drewN 1).alloc (.cells #[.int .i64 f.id, .int .i64 f.kind, .int .i64 f.area] 31)).alloc (.cells #[] 31)).heap[w5.heap.size]? = some (.cells #[.int .i64 f.id, .int .i64 f.kind, .int .i64 f.area] 31 (0, 0)) := (Below.heap_alloc _ _ _ (by simp)).trans (heap_alloc_new (w5.drewN 1) (.cells #[.int .i64 f.id, .int .i64 f.kind, .int .i64 f.area] 31))
        have XA := Lib.hid (And.intro aA (And.intro oA (And.intro rA True.intro)))
        have XB := Lib.hid (And.intro aB (And.intro oB (And.intro rB nB)))
        have XC := Lib.hid (And.intro aC (And.intro oC (And.intro rC nC)))
        have HF0 := Lib.hid (And.intro hbb (And.intro f1 (And.intro f2 f3)))
        clear aA aB aC oA oB oC rA rB rC nB nC
        go_region_held3 (fun w' => w'.cell? ⟨b, off, none⟩ = some (.int .i64 f.id) ∧ w'.cell? ⟨b, off + 1, none⟩ = some (.int .i64 f.kind) ∧ w'.cell? ⟨b, off + 2, none⟩ = some (.int .i64 f.area))
          (first
            | assumption
            | exact ⟨f1, f2, f3⟩
            | exact ⟨s0, s1, s2⟩
            | (refine ⟨?_, ?_, ?_⟩ <;> (first
                | assumption
                | (rw [World.cell?_alloc_lt _ _ _ (by first | omega | (simp; omega))]; first | assumption | (go_simp; done))
                | (go_simp; done))))
          (first
            | (refine step_append_want ((w5.drewN 1).alloc (.cells #[] 31)) (by rfl) (.tmp 59) (.tmp 61) _ (by rfl) w5.heap.size 31 i0 _ 3 24 Try.underlying23 hi0 hz0 hz1 hz2 rfl (by omega) (.slice (some ⟨w5.heap.size, 0, none⟩) 0 0) 0 [] (by rfl) XA.out.2.1 _ _ (L.length - 1) _ (cellsC (L.drop 1)) (by rfl) XA.out.2.2.1 (cellsC_one _) (by simp only [maxLen]; omega) (by omega) XA.out.1.size ?_
               intro v6 w6 o6 g6 t6
               have b6 : Below w5.heap.size w5 w6 := XA.out.1.grown g6 XA.out.1.size (fun j hj => by simp [Value.ownBlock] at hj; omega)
               have s0 := (below_cell b6 _ _ HF0.out.1).trans HF0.out.2.1
               have s1 := (below_cell b6 _ _ HF0.out.1).trans HF0.out.2.2.1
               have s2 := (below_cell b6 _ _ HF0.out.1).trans HF0.out.2.2.2
               have z6 := b6.size)
            | (refine step_append_want (((w5.drewN 1).alloc (.cells #[] 31)).alloc (.cells #[.int .i64 f.id, .int .i64 f.kind, .int .i64 f.area] 31)) (by rfl) (.tmp 59) (.tmp 61) _ (by rfl) w5.heap.size 31 i0 _ 3 24 Try.underlying23 hi0 hz0 hz1 hz2 rfl (by omega) (.slice (some ⟨w5.heap.size, 0, none⟩) 0 0) 0 [] (by rfl) XB.out.2.1 _ _ (L.length - 1) _ (cellsC (L.drop 1)) (by rfl) XB.out.2.2.1 (cellsC_one _) (by simp only [maxLen]; omega) (by omega) XB.out.1.size ?_
               intro v6 w6 o6 g6 t6
               have b6 : Below w5.heap.size w5 w6 := XB.out.1.grown g6 XB.out.1.size (fun j hj => by simp [Value.ownBlock] at hj; omega)
               have hN := reads_new XB.out.2.2.2 g6 (by simp [Value.ownBlock])
               have s0 := (below_cell b6 _ _ HF0.out.1).trans HF0.out.2.1
               have s1 := (below_cell b6 _ _ HF0.out.1).trans HF0.out.2.2.1
               have s2 := (below_cell b6 _ _ HF0.out.1).trans HF0.out.2.2.2
               have z6 := b6.size)
            | (refine step_append_want (((w5.drewN 1).alloc (.cells #[.int .i64 f.id, .int .i64 f.kind, .int .i64 f.area] 31)).alloc (.cells #[] 31)) (by rfl) (.tmp 59) (.tmp 61) _ (by rfl) w5.heap.size 31 i0 _ 3 24 Try.underlying23 hi0 hz0 hz1 hz2 rfl (by omega) (.slice (some ⟨w5.heap.size + 1, 0, none⟩) 0 0) 0 [] (by rfl) XC.out.2.1 _ _ (L.length - 1) _ (cellsC (L.drop 1)) (by rfl) XC.out.2.2.1 (cellsC_one _) (by simp only [maxLen]; omega) (by omega) XC.out.1.size ?_
               intro v6 w6 o6 g6 t6
               have b6 : Below w5.heap.size w5 w6 := XC.out.1.grown g6 XC.out.1.size (fun j hj => by simp [Value.ownBlock] at hj; omega)
               have hN := reads_new XC.out.2.2.2 g6 (by simp [Value.ownBlock])
               have s0 := (below_cell b6 _ _ HF0.out.1).trans HF0.out.2.1
               have s1 := (below_cell b6 _ _ HF0.out.1).trans HF0.out.2.2.1
               have s2 := (below_cell b6 _ _ HF0.out.1).trans HF0.out.2.2.2
               have z6 := b6.size)
            | (refine step_append_want (w6.alloc (.cells #[.int .i64 f.id, .int .i64 f.kind, .int .i64 f.area] 31)) (by rfl) (.tmp 62) (.tmp 66) _ (by rfl) w5.heap.size 31 i0 _ 3 24 Try.underlying23 hi0 hz0 hz1 hz2 rfl (by omega) v6 (0 + (L.length - 1)) ([] ++ cellsC (L.drop 1)) (by rfl) (o6.alloc _) _ _ 1 _ (cellsC [f]) (by rfl) (reads_one (B := w6.heap.size + 1) (by omega)) (cellsC_one _) (by simp only [maxLen]; omega) (by omega) (by simp; omega) ?_
               intro v7 w7 o7 g7 t7
               have b7 : Below w5.heap.size w5 w7 := (b6.alloc z6 _).trans (app_below0 (o6.alloc _) (Nat.le_refl _) (by simp; omega) g7)
               rw [List.nil_append, ← cellsC_append, ← Hxs.out.1, show 0 + (L.length - 1) + 1 = xs.length from by have := HXL.out; omega] at o7
               obtain ⟨A7, c7, hv7, _, hr7⟩ := own_slice o7
               subst hv7
               have H7 := Lib.hid (And.intro b7 hr7)
               have s0 := (below_cell b7 _ _ HF0.out.1).trans HF0.out.2.1
               have s1 := (below_cell b7 _ _ HF0.out.1).trans HF0.out.2.2.1
               have s2 := (below_cell b7 _ _ HF0.out.1).trans HF0.out.2.2.2
               clear o7 b7 hr7)
            | (refine step_append_want w6 (by rfl) (.tmp 62) (.tmp 66) _ (by rfl) w5.heap.size 31 i0 _ 3 24 Try.underlying23 hi0 hz0 hz1 hz2 rfl (by omega) v6 (0 + (L.length - 1)) ([] ++ cellsC (L.drop 1)) (by rfl) o6 _ _ 1 _ (cellsC [f]) (by rfl) hN (cellsC_one _) (by simp only [maxLen]; omega) (by omega) z6 ?_
               intro v7 w7 o7 g7 t7
               have b7 : Below w5.heap.size w5 w7 := b6.trans (app_below0 o6 (Nat.le_refl _) z6 g7)
               rw [List.nil_append, ← cellsC_append, ← Hxs.out.1, show 0 + (L.length - 1) + 1 = xs.length from by have := HXL.out; omega] at o7
               obtain ⟨A7, c7, hv7, _, hr7⟩ := own_slice o7
               subst hv7
               have H7 := Lib.hid (And.intro b7 hr7)
               have s0 := (below_cell b7 _ _ HF0.out.1).trans HF0.out.2.1
               have s1 := (below_cell b7 _ _ HF0.out.1).trans HF0.out.2.2.1
               have s2 := (below_cell b7 _ _ HF0.out.1).trans HF0.out.2.2.2
               clear o7 b7 hr7)
            | (go_simp
               go_at_call 23
               refine (iTable_any _ _ _ _ ids xs _ (R.out.1.step H7.out.1) H7.out.2 (by omega) (by omega)).mono ?_
               rw [Hxs.out.2.1.1, Hxs.out.2.1.2]
               rintro e w8 ⟨v8, vs8, rfl, hb8, ho8⟩
               obtain ⟨A8, c8, hv8, _, hr8⟩ := ho8.nest
               subst hv8
               have H8 := Lib.hid (And.intro (below_step H7.out.1 hb8) hr8)
               have s0 := (below_cell (below_step H7.out.1 hb8) _ _ HF0.out.1).trans HF0.out.2.1
               have s1 := (below_cell (below_step H7.out.1 hb8) _ _ HF0.out.1).trans HF0.out.2.2.1
               have s2 := (below_cell (below_step H7.out.1 hb8) _ _ HF0.out.1).trans HF0.out.2.2.2
               clear hb8 ho8 hr8))
        all_goals
          go_wp2_with fail
          refine (sameCounts_any _ _ _ _ M M _ H8.out.2 (R.out.2.2.1.step H8.out.1) (by omega) (fun r hr => by have := HC.out.2.2 r hr; omega)).mono ?_
          rintro e w9 ⟨rfl, hb9⟩
          go_wp2_with fail
          go_ret
          exact ⟨rfl, below_step (below_step R.out.2.2.2 H8.out.1) hb9⟩
      · have HT : Hid (0 < L.length - 1 → (some ⟨b, off + 1 * 3, none⟩ : Option Addr) = (some ⟨b, off, none⟩ : Option Addr).map (·.add (1 * 3))) := by
          show 0 < L.length - 1 → _
          intro h0
          simp [Addr.add]
        have hcc2 : (c2 = 1) = False := eq_false hcc
        clear hcc
        go_wp2_with fail
        have aA : Below w5.heap.size w5 ((w5.drewN 1).alloc (.cells #[] 31)) := (below_draws (Below.refl _ _) 1).alloc (Nat.le_refl _) _
        have aB : Below w5.heap.size w5 (((w5.drewN 1).alloc (.cells #[] 31)).alloc (.cells #[.int .i64 f.id, .int .i64 f.kind, .int .i64 f.area] 31)) := aA.alloc aA.size _
        have aC : Below w5.heap.size w5 (((w5.drewN 1).alloc (.cells #[.int .i64 f.id, .int .i64 f.kind, .int .i64 f.area] 31)).alloc (.cells #[] 31)) := ((below_draws (Below.refl _ _) 1).alloc (Nat.le_refl _) (.cells #[.int .i64 f.id, .int .i64 f.kind, .int .i64 f.area] 31)).alloc (by simp) _
        have oA : ((w5.drewN 1).alloc (.cells #[] 31)).ownsRow w5.heap.size 31 3 (.slice (some ⟨w5.heap.size, 0, none⟩) 0 0) 0 [] := own_empty (w := (w5.drewN 1)) (Nat.le_refl _) rfl
        have oB : (((w5.drewN 1).alloc (.cells #[] 31)).alloc (.cells #[.int .i64 f.id, .int .i64 f.kind, .int .i64 f.area] 31)).ownsRow w5.heap.size 31 3 (.slice (some ⟨w5.heap.size, 0, none⟩) 0 0) 0 [] := oA.alloc _
        have oC : (((w5.drewN 1).alloc (.cells #[.int .i64 f.id, .int .i64 f.kind, .int .i64 f.area] 31)).alloc (.cells #[] 31)).ownsRow w5.heap.size 31 3 (.slice (some ⟨w5.heap.size + 1, 0, none⟩) 0 0) 0 [] := own_empty (by simp) (by simp)
        have rA := (R.out.2.1.below aA).tailC hk1n HT.out
        have rB := (R.out.2.1.below aB).tailC hk1n HT.out
        have rC := (R.out.2.1.below aC).tailC hk1n HT.out
        have nB : (((w5.drewN 1).alloc (.cells #[] 31)).alloc (.cells #[.int .i64 f.id, .int .i64 f.kind, .int .i64 f.area] 31)).heap[w5.heap.size + 1]? = some (.cells #[.int .i64 f.id, .int .i64 f.kind, .int .i64 f.area] 31 (0, 0)) := by
          have := heap_alloc_new ((w5.drewN 1).alloc (.cells #[] 31)) (.cells #[.int .i64 f.id, .int .i64 f.kind, .int .i64 f.area] 31)
          simpa using this
        have nC : (((w5.drewN 1).alloc (.cells #[.int .i64 f.id, .int .i64 f.kind, .int .i64 f.area] 31)).alloc (.cells #[] 31)).heap[w5.heap.size]? = some (.cells #[.int .i64 f.id, .int .i64 f.kind, .int .i64 f.area] 31 (0, 0)) := (Below.heap_alloc _ _ _ (by simp)).trans (heap_alloc_new (w5.drewN 1) (.cells #[.int .i64 f.id, .int .i64 f.kind, .int .i64 f.area] 31))
        have XA := Lib.hid (And.intro aA (And.intro oA (And.intro rA True.intro)))
        have XB := Lib.hid (And.intro aB (And.intro oB (And.intro rB nB)))
        have XC := Lib.hid (And.intro aC (And.intro oC (And.intro rC nC)))
        have HF0 := Lib.hid (And.intro hbb (And.intro f1 (And.intro f2 f3)))
        clear aA aB aC oA oB oC rA rB rC nB nC
        go_region_held3 (fun w' => w'.cell? ⟨b, off, none⟩ = some (.int .i64 f.id) ∧ w'.cell? ⟨b, off + 1, none⟩ = some (.int .i64 f.kind) ∧ w'.cell? ⟨b, off + 2, none⟩ = some (.int .i64 f.area))
          (first
            | assumption
            | exact ⟨f1, f2, f3⟩
            | exact ⟨s0, s1, s2⟩
            | (refine ⟨?_, ?_, ?_⟩ <;> (first
                | assumption
                | (rw [World.cell?_alloc_lt _ _ _ (by first | omega | (simp; omega))]; first | assumption | (go_simp; done))
                | (go_simp; done))))
          (first
            | (refine step_append_want ((w5.drewN 1).alloc (.cells #[] 31)) (by rfl) (.tmp 59) (.tmp 61) _ (by rfl) w5.heap.size 31 i0 _ 3 24 Try.underlying23 hi0 hz0 hz1 hz2 rfl (by omega) (.slice (some ⟨w5.heap.size, 0, none⟩) 0 0) 0 [] (by rfl) XA.out.2.1 _ _ (L.length - 1) _ (cellsC (L.drop 1)) (by rfl) XA.out.2.2.1 (cellsC_one _) (by simp only [maxLen]; omega) (by omega) XA.out.1.size ?_
               intro v6 w6 o6 g6 t6
               have b6 : Below w5.heap.size w5 w6 := XA.out.1.grown g6 XA.out.1.size (fun j hj => by simp [Value.ownBlock] at hj; omega)
               have s0 := (below_cell b6 _ _ HF0.out.1).trans HF0.out.2.1
               have s1 := (below_cell b6 _ _ HF0.out.1).trans HF0.out.2.2.1
               have s2 := (below_cell b6 _ _ HF0.out.1).trans HF0.out.2.2.2
               have z6 := b6.size)
            | (refine step_append_want (((w5.drewN 1).alloc (.cells #[] 31)).alloc (.cells #[.int .i64 f.id, .int .i64 f.kind, .int .i64 f.area] 31)) (by rfl) (.tmp 59) (.tmp 61) _ (by rfl) w5.heap.size 31 i0 _ 3 24 Try.underlying23 hi0 hz0 hz1 hz2 rfl (by omega) (.slice (some ⟨w5.heap.size, 0, none⟩) 0 0) 0 [] (by rfl) XB.out.2.1 _ _ (L.length - 1) _ (cellsC (L.drop 1)) (by rfl) XB.out.2.2.1 (cellsC_one _) (by simp only [maxLen]; omega) (by omega) XB.out.1.size ?_
               intro v6 w6 o6 g6 t6
               have b6 : Below w5.heap.size w5 w6 := XB.out.1.grown g6 XB.out.1.size (fun j hj => by simp [Value.ownBlock] at hj; omega)
               have hN := reads_new XB.out.2.2.2 g6 (by simp [Value.ownBlock])
               have s0 := (below_cell b6 _ _ HF0.out.1).trans HF0.out.2.1
               have s1 := (below_cell b6 _ _ HF0.out.1).trans HF0.out.2.2.1
               have s2 := (below_cell b6 _ _ HF0.out.1).trans HF0.out.2.2.2
               have z6 := b6.size)
            | (refine step_append_want (((w5.drewN 1).alloc (.cells #[.int .i64 f.id, .int .i64 f.kind, .int .i64 f.area] 31)).alloc (.cells #[] 31)) (by rfl) (.tmp 59) (.tmp 61) _ (by rfl) w5.heap.size 31 i0 _ 3 24 Try.underlying23 hi0 hz0 hz1 hz2 rfl (by omega) (.slice (some ⟨w5.heap.size + 1, 0, none⟩) 0 0) 0 [] (by rfl) XC.out.2.1 _ _ (L.length - 1) _ (cellsC (L.drop 1)) (by rfl) XC.out.2.2.1 (cellsC_one _) (by simp only [maxLen]; omega) (by omega) XC.out.1.size ?_
               intro v6 w6 o6 g6 t6
               have b6 : Below w5.heap.size w5 w6 := XC.out.1.grown g6 XC.out.1.size (fun j hj => by simp [Value.ownBlock] at hj; omega)
               have hN := reads_new XC.out.2.2.2 g6 (by simp [Value.ownBlock])
               have s0 := (below_cell b6 _ _ HF0.out.1).trans HF0.out.2.1
               have s1 := (below_cell b6 _ _ HF0.out.1).trans HF0.out.2.2.1
               have s2 := (below_cell b6 _ _ HF0.out.1).trans HF0.out.2.2.2
               have z6 := b6.size)
            | (refine step_append_want (w6.alloc (.cells #[.int .i64 f.id, .int .i64 f.kind, .int .i64 f.area] 31)) (by rfl) (.tmp 62) (.tmp 66) _ (by rfl) w5.heap.size 31 i0 _ 3 24 Try.underlying23 hi0 hz0 hz1 hz2 rfl (by omega) v6 (0 + (L.length - 1)) ([] ++ cellsC (L.drop 1)) (by rfl) (o6.alloc _) _ _ 1 _ (cellsC [f]) (by rfl) (reads_one (B := w6.heap.size + 1) (by omega)) (cellsC_one _) (by simp only [maxLen]; omega) (by omega) (by simp; omega) ?_
               intro v7 w7 o7 g7 t7
               have b7 : Below w5.heap.size w5 w7 := (b6.alloc z6 _).trans (app_below0 (o6.alloc _) (Nat.le_refl _) (by simp; omega) g7)
               rw [List.nil_append, ← cellsC_append, ← Hxs.out.1, show 0 + (L.length - 1) + 1 = xs.length from by have := HXL.out; omega] at o7
               obtain ⟨A7, c7, hv7, _, hr7⟩ := own_slice o7
               subst hv7
               have H7 := Lib.hid (And.intro b7 hr7)
               have s0 := (below_cell b7 _ _ HF0.out.1).trans HF0.out.2.1
               have s1 := (below_cell b7 _ _ HF0.out.1).trans HF0.out.2.2.1
               have s2 := (below_cell b7 _ _ HF0.out.1).trans HF0.out.2.2.2
               clear o7 b7 hr7)
            | (refine step_append_want w6 (by rfl) (.tmp 62) (.tmp 66) _ (by rfl) w5.heap.size 31 i0 _ 3 24 Try.underlying23 hi0 hz0 hz1 hz2 rfl (by omega) v6 (0 + (L.length - 1)) ([] ++ cellsC (L.drop 1)) (by rfl) o6 _ _ 1 _ (cellsC [f]) (by rfl) hN (cellsC_one _) (by simp only [maxLen]; omega) (by omega) z6 ?_
               intro v7 w7 o7 g7 t7
               have b7 : Below w5.heap.size w5 w7 := b6.trans (app_below0 o6 (Nat.le_refl _) z6 g7)
               rw [List.nil_append, ← cellsC_append, ← Hxs.out.1, show 0 + (L.length - 1) + 1 = xs.length from by have := HXL.out; omega] at o7
               obtain ⟨A7, c7, hv7, _, hr7⟩ := own_slice o7
               subst hv7
               have H7 := Lib.hid (And.intro b7 hr7)
               have s0 := (below_cell b7 _ _ HF0.out.1).trans HF0.out.2.1
               have s1 := (below_cell b7 _ _ HF0.out.1).trans HF0.out.2.2.1
               have s2 := (below_cell b7 _ _ HF0.out.1).trans HF0.out.2.2.2
               clear o7 b7 hr7)
            | (go_simp
               go_at_call 23
               refine (iTable_any _ _ _ _ ids xs _ (R.out.1.step H7.out.1) H7.out.2 (by omega) (by omega)).mono ?_
               rw [Hxs.out.2.1.1, Hxs.out.2.1.2]
               rintro e w8 ⟨v8, vs8, rfl, hb8, ho8⟩
               obtain ⟨A8, c8, hv8, _, hr8⟩ := ho8.nest
               subst hv8
               have H8 := Lib.hid (And.intro (below_step H7.out.1 hb8) hr8)
               have s0 := (below_cell (below_step H7.out.1 hb8) _ _ HF0.out.1).trans HF0.out.2.1
               have s1 := (below_cell (below_step H7.out.1 hb8) _ _ HF0.out.1).trans HF0.out.2.2.1
               have s2 := (below_cell (below_step H7.out.1 hb8) _ _ HF0.out.1).trans HF0.out.2.2.2
               clear hb8 ho8 hr8))
        all_goals
          go_wp2_with fail
          refine (sameCounts_any _ _ _ _ M M _ H8.out.2 (R.out.2.2.1.step H8.out.1) (by omega) (fun r hr => by have := HC.out.2.2 r hr; omega)).mono ?_
          rintro e w9 ⟨rfl, hb9⟩
          go_wp2_with fail
          go_ret
          exact ⟨rfl, below_step (below_step R.out.2.2.2 H8.out.1) hb9⟩

theorem walk (A : Option Addr) (c : Nat) (z : List Int) (w : World) (h1 : z.length ≤ c) (h2 : Reads w w.heap.size 1 A z.length (cellsB z)) (h3 : ∀ b ∈ z, 0 ≤ b ∧ b ≤ 255) (h4 : c ≤ maxLen) :
    Calls Try.prog 6 #[.slice A z.length c] w fun e w2 => e = .returned (.bool true) ∧ Below w.heap.size w w2 := by
  by_cases hn : z.length ≤ 1048576
  · exact walk_short A c z w (Bytes.mk_ h1 h2 h3 h4) hn
  · have e0 : decide ((1048576 : Int) < (z.length : Int)) = true := decide_eq_true (by omega)
    go_enter Try.func6, Try.ntmps6
    go_wp2_with fail
    go_ret
    exact ⟨rfl, Below.refl _ _⟩

set_option linter.unusedVariables false
set_option maxRecDepth 100000 in
theorem lifted (os : Os) (started : os.Started) (H : Type) (enc : TypeId × Value → H) :
    ReturnsInHanded {} Try.checked os 6 .any (Rows.fnFindsTableTurnedSpec.pre6 enc Try.prog Try.f6 Rows.fnFindsTableTurnedRow.domain false) (Rows.fnFindsTableTurnedSpec.post enc Try.prog Try.f6 false true false false) := by
  refine returnsInHanded_of_change (C := Try.checked) lawOwn started (by kernel_rfl) Try.func6
    (ChangeSpec.witness6 (enc := enc) (C := Try.checked) false ⟨#[], #[.slice none 0 0], []⟩ 8 (by kernel_rfl) (by kernel_rfl) (by kernel_rfl) (by kernel_rfl)) ?_
  intro W base args ds gs before hval0 hW hcnd _
  have hval : ∀ (j : Nat) t v, Try.f6.params[j]? = some t → args[j]? = some v → Value.okWide Try.prog W .any base t v := hval0
  have hW' := hW
  obtain ⟨p, q, hA0, hV, rfl, hfz, hnd⟩ := hW
  have hA : DataW.TrodAll enc Try.prog W 0 (fun _ => true) true Try.f6.params.toList args.toList ds p := hA0
  rw [Try.params6] at hA hval
  obtain ⟨v0, vs0, d0, ds0, p0, q0, hargs, rfl, rfl, h0, r0⟩ := trodAll_cons hA
  obtain ⟨rfl, rfl, rfl⟩ := trodAll_nil r0
  obtain rfl : args = #[v0] := by cases args; simp_all
  obtain ⟨rfl, rfl⟩ := trodVars_none hV
  have k0 := h0
  have lt0 : ∀ x ∈ p0, x.block < W.heap.size := by obtain ⟨m, hm⟩ := k0; exact DataW.trod_lt m _ _ _ hm
  obtain ⟨a0, len0, cap0, rfl⟩ := okWide_slice Try.underlying22 (hval 0 22 v0 rfl rfl)
  obtain ⟨z0, hl0, hc0, hr0, hb0, hm0⟩ : ∃ z : List Int, len0 = z.length ∧ len0 ≤ cap0 ∧ Reads W W.heap.size 1 a0 len0 (cellsB z) ∧ (∀ b ∈ z, 0 ≤ b ∧ b ≤ 255) ∧ cap0 ≤ maxLen := by
    obtain ⟨fuel, hf⟩ := h0
    exact open_bytes Try.underlying22 Try.underlying5 (by kernel_rfl) (by simpa [Value.cells] using hf)
  subst hl0
  clear hA0 hval0
  refine (walk a0 cap0 z0 W hc0 hr0 hb0 hm0).mono fun e W' ⟨he, bel⟩ => ?_
  subst he
  exact ⟨_, rfl, _, _, _, [], _, [], hW', trodAll_mk1 (shut_bool Try.underlying4 _), (trodAll_cons_mk (Below.trod lawLaid (by kernel_rfl) (of_decide_eq_true (by kernel_rfl)) k0 bel lt0) trodAll_mk0), rfl, bel.frame _, fun h => by cases h⟩

theorem closed : joinedFacts Try.checked.prog 6 Try.f6 Rows.fnFindsTableTurnedSpec Rows.fnFindsTableTurnedRow = true := by
  unfold joinedFacts
  repeat (refine and_t ?_ (by first | (with_reducible exact ent) | (with_reducible refine lif_c ?_; kernel_rfl) | (with_reducible refine mak_c ?_; kernel_rfl) | kernel_rfl))
  kernel_rfl
theorem proved : Rows.FnFindsTableTurnedSaid :=
  OpenClaim.holds_of_wide 6 Try.f6 rfl rfl rfl rfl rfl rfl rfl ⟨rfl, rfl, rfl, rfl, rfl⟩ rfl rfl rfl rfl rfl (by kernel_rfl) Try.func6 closed
    (of_decide_eq_true (by kernel_rfl)) (by unfold Func.isWrapper; rw [if_neg (of_decide_eq_false (by kernel_rfl))]; exact ⟨rfl, rfl⟩)
    (fun os started H enc _ => lifted os started H enc)
#print axioms proved
end Go.Proofs.Ytopdmcnbchpihaa.lawFindsTableTurned
