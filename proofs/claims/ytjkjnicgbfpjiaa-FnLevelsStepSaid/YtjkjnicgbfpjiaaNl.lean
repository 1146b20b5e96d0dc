/- What the model's levels are. -/
import Derived.Test.YtjkjnicgbfpjiaaLv
import Derived.Test.YtjkjnicgbfpjiaaMp
namespace Go.Proofs.Ytjkjnicgbfpjiaa
open Go.RowKit

theorem levI_at {f : Nat → Nat → Bool} {n t i j q : Nat} {L : List Int} (h : LevI f n t i j L) (hq : q < n) : ∃ x : Int, L[q]? = some x ∧ L.getD q 0 = x ∧ 0 ≤ x ∧ x ≤ n := by
  obtain ⟨hl, h1, _, _⟩ := h
  refine ⟨L.getD q 0, by simp [hl, hq], rfl, ?_, ?_⟩
  · have := (h1 q hq).1; omega
  · have := (h1 q hq).2
    have := levG_le (f := f) (n := n) q
    omega
theorem levL_len (f : Nat → Nat → Bool) (n : Nat) : (levL f n).length = n := by simp [levL]
set_option maxHeartbeats 8000000 in
set_option maxRecDepth 100000 in
theorem sLevels_any (A B : Option Addr) (ca cb : Nat) (ids : List Int) (l : List Ctx) (w : World) (ha : Reads w w.heap.size 1 A ids.length (cellsI ids)) (hb : Reads w w.heap.size 3 B l.length (cellsC l)) (ho : ordOkG ids l = true) :
    Calls Try.prog 71 #[.slice A ids.length ca, .slice B l.length cb] w (IntsS w (levL (ordF ids l) ids.length)) := by
  obtain ⟨i0, hi0, hz0, hz1, hz2⟩ := info_parts sInfoInt
  have hok := ordOk_ok ho
  have hn : ids.length ≤ 12 := validO_len (okG_parts hok).1
  have hor := sOrder_any A B ca cb ids l w ha hb hok
  have hir := ordF_irr ho
  have htr := ordF_tr hok
  rw [← ordF_tab] at hor
  obtain ⟨f, hf⟩ : ∃ f, f = ordF ids l := ⟨_, rfl⟩
  rw [← hf] at hor hir htr ⊢
  obtain ⟨n, hnn⟩ : ∃ n, n = ids.length := ⟨_, rfl⟩
  rw [← hnn] at hor hn ⊢
  have HO := Lib.hid hor
  have HF := Lib.hid (And.intro hir htr)
  clear hor hir htr hf ha hb ho hok hnn
  go_enter Try.func71, Try.ntmps71
  go_wp2_with fail
  refine HO.out.mono ?_
  rintro e w2 ⟨v2, vs2, rfl, k2, o2⟩
  obtain ⟨A2, c2, rfl, _, m2⟩ := o2.nest
  have htl : (tabN n f).length = n := tabN_len _ _
  rw [htl] at m2
  rw [htl]
  clear htl o2
  go_wp2_with (at_make
               go_must (refine wpList_make_full _ rfl (.tmp 14) (.tmp 14) _ rfl w2.heap.size 3 i0 _ 1 Try.underlying23 hi0 hz0 hz1 _ _ _ _ n rfl rfl rfl rfl (by rw [hz2]; omega) (by simp only [maxLen]; omega) (Nat.le_refl _) ?_)
               intro w5 hown hg5
               rw [zero_cellsI] at hown)
  have hb5 : Below w2.heap.size w2 w5 := (Below.refl _ _).grown hg5 (Nat.le_refl _) (fun k hk => by cases hk)
  have R := Lib.hid (And.intro m2 (And.intro k2 (And.intro hb5 hown)))
  clear hown hg5 hb5 m2 k2
  go_loopw [7] (fun v wr => ∃ t : Nat, t ≤ n ∧ v = .int .i64 t ∧ ∃ L, LevI f n t 0 0 L ∧ Below w2.heap.size w2 wr ∧ wr.ownsRow w2.heap.size 3 1 (.slice (some ⟨w2.heap.size, 0, none⟩) n n) n (cellsI L)) (fun v _ => n - (intOf v).toNat)
  case atStart => exact ⟨0, Nat.zero_le _, rfl, _, levI_start f n, R.out.2.2.1, R.out.2.2.2⟩
  case round =>
    obtain ⟨t, ht, rfl, L, hL, hbl, hown⟩ := hrel
    have HK := Lib.hid (And.intro hL (And.intro hbl hown))
    clear hL hbl hown
    by_cases hlt : t < n
    · have hti : (t : Int) < (n : Int) := by omega
      go_wp2_with fail
      go_loopw [8] (fun v wr => ∃ i : Nat, i ≤ n ∧ v = .int .i64 i ∧ ∃ L, LevI f n t i 0 L ∧ Below w2.heap.size w2 wr ∧ wr.ownsRow w2.heap.size 3 1 (.slice (some ⟨w2.heap.size, 0, none⟩) n n) n (cellsI L)) (fun v _ => n - (intOf v).toNat)
      case atStart => exact ⟨0, Nat.zero_le _, rfl, _, HK.out.1, HK.out.2.1, HK.out.2.2⟩
      case round =>
        obtain ⟨i, hi, rfl, L2, hL2, hb2, hown2⟩ := hrel
        have HI := Lib.hid (And.intro hL2 (And.intro hb2 hown2))
        clear hL2 hb2 hown2
        by_cases hli : i < n
        · have hii : (i : Int) < (n : Int) := by omega
          go_wp2_with fail
          go_loopw [9] (fun v wr => ∃ j : Nat, j ≤ n ∧ v = .int .i64 j ∧ ∃ L, LevI f n t i j L ∧ Below w2.heap.size w2 wr ∧ wr.ownsRow w2.heap.size 3 1 (.slice (some ⟨w2.heap.size, 0, none⟩) n n) n (cellsI L)) (fun v _ => n - (intOf v).toNat)
          case atStart => exact ⟨0, Nat.zero_le _, rfl, _, HI.out.1, HI.out.2.1, HI.out.2.2⟩
          case round =>
            obtain ⟨j, hj, rfl, L3, hL3, hb3, hown3⟩ := hrel
            by_cases hlj : j < n
            · have hji : (j : Int) < (n : Int) := by omega
              obtain ⟨b, off, Ar, cr, hA, hbb, f1, hc2, hrow⟩ := (R.out.1.below hb3).row (tabN_row f hli)
              obtain ⟨b4, off4, hA4, hbb4, f2⟩ := Reads.cellE hrow (rowN_at (f i) hlj)
              subst hA hA4
              rw [rowN_len] at f1
              simp only [encB] at f2
              obtain ⟨z, hz⟩ : ∃ z, f i j = z := ⟨_, rfl⟩
              rw [hz] at f2
              have HZ := Lib.hid (And.intro hz (And.intro hL3 (And.intro hb3 hown3)))
              cases z
              · clear hz hL3 hb3 hown3 hrow
                go_wp2_with fail
                go_roundw
                case rel => exact ⟨j + 1, by omega, by go_num, L3, levI_skip HZ.out.2.1 HZ.out.1, HZ.out.2.2.1, HZ.out.2.2.2⟩
                case measure => simp [intOf]; omega
              · obtain ⟨x, hx1, hx2, hx3, hx4⟩ := levI_at hL3 hlj
                obtain ⟨y, hy1, hy2, hy3, hy4⟩ := levI_at hL3 hli
                obtain ⟨g1, g2⟩ := own_cellI hown3 hx1
                obtain ⟨g3, _⟩ := own_cellI hown3 hy1
                have hgl : w2.heap.size < wr.heap.size := by
                  obtain ⟨o, ho⟩ : ∃ o, wr.heap[w2.heap.size]? = some o := by
                    unfold World.cell? at g1
                    cases hh : wr.heap[w2.heap.size]? with
                    | none => rw [hh] at g1; cases g1
                    | some o => exact ⟨o, rfl⟩
                  exact (Array.getElem?_eq_some_iff.1 ho).1
                have HX := Lib.hid (And.intro hx2 hy2)
                clear hz hL3 hb3 hown3 hrow hx1 hx2 hy1 hy2
                go_wp2_with fail
                refine region_still_tail2 13 (by kernel_rfl) (by kernel_rfl) ?_
                intro W hW hzz hbw
                simp only [List.take_succ_cons, List.take_zero, List.drop_succ_cons, List.drop_zero]
                repeat still_step
                refine wpStill_nil ?_
                have w1' := (World.cell?_of_block (w := wr) (a := ⟨w2.heap.size, j, none⟩) (hbw.block _ hgl)).trans g1
                have w2' := (World.frozen?_of_block (w := wr) (a := ⟨w2.heap.size, j, none⟩) (hbw.block _ hgl)).trans g2
                have HW := Lib.hid hbw
                clear hW hzz hbw g1 g2 g3
                go_wp2_with fail
                go_roundw
                case rel =>
                  have hm : (if x < y + 1 then y + 1 else x) = max x (y + 1) := by
                    rw [Int.max_def]; split <;> split <;> omega
                  rw [hm]
                  have h9 := own_storeI (own_below HZ.out.2.2.2 HW.out) j (max x (y + 1))
                  refine ⟨j + 1, by omega, by go_num, L3.set j (max x (y + 1)), ?_, (below_step HZ.out.2.2.1 HW.out).setCell (p := ⟨w2.heap.size, j, none⟩) (Nat.le_refl _) _, h9⟩
                  have h8 := levI_put HF.out.2 HF.out.1 HZ.out.2.1 hli hlj HZ.out.1
                  rw [HX.out.1, HX.out.2] at h8
                  exact h8
                case measure => simp [intOf]; omega
            · have hjn : j = n := by omega
              have HZ := Lib.hid (And.intro hjn (And.intro hL3 (And.intro hb3 hown3)))
              clear hjn hL3 hb3 hown3
              go_wp2_with fail
              go_roundw
              case rel => exact ⟨i + 1, by omega, by go_num, L3, levI_row (by have h := HZ.out.2.1; rw [HZ.out.1] at h; exact h), HZ.out.2.2.1, HZ.out.2.2.2⟩
              case measure => simp [intOf]; omega
        · have hin : i = n := by omega
          have HZ := Lib.hid hin
          clear hin
          go_wp2_with fail
          go_roundw
          case rel => exact ⟨t + 1, by omega, by go_num, L2, levI_round (by have h := HI.out.1; rw [HZ.out] at h; exact h), HI.out.2.1, HI.out.2.2⟩
          case measure => simp [intOf]; omega
    · have htn : t = n := by omega
      have HZ := Lib.hid htn
      clear htn
      go_wp2_with fail
      go_ret
      have hend : L = levL f n := levI_end (by have h := HK.out.1; rw [HZ.out] at h; exact h)
      refine ⟨_, rfl, below_step R.out.2.1 HK.out.2.1, ?_⟩
      rw [← hend, show L.length = n from HK.out.1.1]
      exact own_less HK.out.2.2 R.out.2.1.size
/-- Levels, or none. -/
def levS (ids : List Int) (l : List Ctx) : List Int := if ordOkG ids l = true then levL (ordF ids l) ids.length else []
theorem levS_ok {ids : List Int} {l : List Ctx} (h : ordOkG ids l = true) : levS ids l = levL (ordF ids l) ids.length := if_pos h
theorem levS_no {ids : List Int} {l : List Ctx} (h : ordOkG ids l = false) : levS ids l = [] := by simp [levS, h]
theorem levS_len (ids : List Int) (l : List Ctx) : (levS ids l).length ≤ ids.length := by
  cases h : ordOkG ids l
  · rw [levS_no h]; simp
  · rw [levS_ok h, levL_len]; exact Nat.le_refl _
def PairI (w : World) (m : List Int) (b : Bool) (e : Ending) (w2 : World) : Prop :=
  ∃ v, e = .returned (.tuple #[v, .bool b]) ∧ Below w.heap.size w w2 ∧ w2.ownsRow w.heap.size 3 1 v m.length (cellsI m)
set_option maxHeartbeats 800000 in
set_option maxRecDepth 100000 in
theorem sMatLevels_any (A B : Option Addr) (ca cb : Nat) (ids : List Int) (l : List Ctx) (w : World) (ha : Reads w w.heap.size 1 A ids.length (cellsI ids)) (hb : Reads w w.heap.size 3 B l.length (cellsC l)) (hn : ids.length ≤ 1000000000) (hl : l.length ≤ 1000000000) :
    Calls Try.prog 31 #[.slice A ids.length ca, .slice B l.length cb] w (PairI w (levS ids l) (ordOkG ids l)) := by
  have hov := sOrdValid_any A B ca cb ids l w ha hb hn hl
  cases ho : ordOkG ids l
  · rw [ho] at hov
    have HE := Lib.hid (levS_no ho)
    have HO := Lib.hid hov
    clear hov ho
    go_enter Try.func31, Try.ntmps31
    go_wp2_with (go_at_call 35; go_must (refine HO.out.mono ?_); rintro e w2 ⟨rfl, k2⟩)
    go_ret2
    exact ⟨_, rfl, k2.alloc k2.size _, by rw [HE.out]; exact own_empty k2.size rfl⟩
  · rw [ho] at hov
    have HE := Lib.hid (levS_ok ho)
    have HO := Lib.hid (And.intro hov ho)
    clear hov ho
    go_enter Try.func31, Try.ntmps31
    go_wp2_with (first
      | (go_at_call 35; go_must (refine HO.out.1.mono ?_); rintro e w2 ⟨rfl, k2⟩)
      | (go_at_call 71; go_must (refine (sLevels_any _ _ _ _ ids l _ (ha.step k2) (hb.step k2) HO.out.2).mono ?_); rintro e w3 ⟨v3, rfl, k3, o3⟩))
    go_ret2
    exact ⟨_, rfl, below_step k2 k3, by rw [HE.out]; exact own_less o3 k2.size⟩
end Go.Proofs.Ytjkjnicgbfpjiaa
