/- The laws draw a list of finds. (written by gen_fda.py) -/
import Derived.Test.YtopdmcnbchpihaaDz
import Derived.Test.YtopdmcnbchpihaaTriFind
namespace Go.Proofs.Ytopdmcnbchpihaa
open Go.RowKit

theorem infoFindD : (Try.prog.info? 31).map (fun i => (i.zero, i.size, i.bytes)) = some (some (.agg #[.int .i64 0, .int .i64 0, .int .i64 0]), 3, 24) := by kernel_rfl
def DrawFsPost (w : World) (g c p : Nat) (A : Option Addr) (z : List Int) (e : Ending) (w2 : World) : Prop :=
  ∃ (v : Value) (l : List Ctx), e = .returned v ∧ w2.ownsRow w.heap.size 31 3 v l.length (cellsC l) ∧ l.length ≤ 21 ∧ Drawn w g A z c p 80 w2
set_option maxHeartbeats 9000000 in
set_option maxRecDepth 100000 in
theorem drawFs_any (g c p : Nat) (A : Option Addr) (z : List Int) (w : World) (h : Rd w g A z c p) (hp : p ≤ 800000) :
    Calls Try.prog 60 #[.pointer (some ⟨g, 0, none⟩)] w (DrawFsPost w g c p A z) := by
  obtain ⟨i0, hi0, hz0, hz1, hz2⟩ := info_parts infoFindD
  have hlt := h.lt
  have h1 := h.step ((Below.refl _ _).alloc (Nat.le_refl _) (.cells #[] 31))
  have ho1 : (w.alloc (.cells #[] 31)).ownsRow w.heap.size 31 3 (.slice (some ⟨w.heap.size, 0, none⟩) 0 0) 0 [] := own_empty (Nat.le_refl _) rfl
  have hg1 := World.grownBy_alloc w (.cells #[] 31) (some g)
  go_enter Try.func60, Try.ntmps60
  go_wp2_with fail
  refine (pick_any g c p A z _ _ h1 (by omega) (by omega)).mono ?_
  rintro e w2 ⟨r2, rfl, a2, b2, _, hr2, hg2⟩
  have b2 := b2 (by omega)
  have ho2 := own_drawn (w0 := w) ho1 hg2 hlt
  have hg12 := hg1.trans hg2
  go_wp2_with fail
  refine (pick_any g c _ A z _ _ hr2 (by omega) (by omega)).mono ?_
  rintro e w3 ⟨r3, rfl, a3, b3, _, hr3, hg3⟩
  have ho3 := own_drawn (w0 := w) ho2 hg3 hlt
  have hg13 := hg12.trans hg3
  have K3 := Lib.hid (And.intro ho3 (And.intro hr3 hg13))
  clear h1 ho1 hg1 hr2 hg2 ho2 hg12 hr3 hg3 ho3 hg13 b3
  by_cases c3 : r3 = 0
  · have e3 : (r3 == 0) = true := by simp [c3]
    clear c3
    go_wp2_with fail
    refine (pick_any g c _ A z _ _ K3.out.2.1 (by omega) (by omega)).mono ?_
    rintro e w4 ⟨r4, rfl, a4, b4, _, hr4, hg4⟩
    have b4 := b4 (by omega)
    have K := Lib.hid (And.intro (own_drawn (w0 := w) K3.out.1 hg4 hlt) (And.intro hr4 (K3.out.2.2.trans hg4)))
    clear hr4 hg4
    have hn0 : 0 ≤ 19 + r4 := by omega
    have hn21 : 19 + r4 ≤ 21 := by omega
    go_wp2_with fail
    go_loopw [3, 5] (fun v i wr => ∃ (k : Nat) (l : List Ctx) (p2 : Nat), (k : Int) ≤ (19 + r4) ∧ i = .int .i64 k ∧ l.length = k ∧ wr.ownsRow w.heap.size 31 3 v l.length (cellsC l) ∧ p2 ≤ p + 3 + 3 * k ∧ Rd wr g A z c p2 ∧ w.grownBy wr (some g)) (fun _ i _ => ((19 + r4) - intOf i).toNat)
    case atStart => exact ⟨0, [], _, by omega, rfl, rfl, K.out.1, by omega, K.out.2.1, K.out.2.2⟩
    case round =>
      obtain ⟨k, l, p2, hk, rfl, hl, hown, hp2, hrd, hgr⟩ := hrel
      clear K K3
      by_cases hkN : (k : Int) < (19 + r4)
      · have KR := Lib.hid (And.intro hown (And.intro hgr hl))
        clear hown hgr hl
        go_wp2_with fail
        refine (pick_any g c p2 A z _ _ hrd (by omega) (by omega)).mono ?_
        rintro e w5 ⟨r5, rfl, a5, b5, _, hr5, hg5⟩
        have b5 := b5 (by omega)
        go_wp2_with fail
        refine (pick_any g c _ A z _ _ hr5 (by omega) (by omega)).mono ?_
        rintro e w6 ⟨r6, rfl, a6, b6, _, hr6, hg6⟩
        have b6 := b6 (by omega)
        go_wp2_with fail
        refine (pick_any g c _ A z _ _ hr6 (by omega) (by omega)).mono ?_
        rintro e w7 ⟨r7, rfl, a7, b7, _, hr7, hg7⟩
        have b7 := b7 (by omega)
        have hg57 := (hg5.trans hg6).trans hg7
        have ho7 := own_drawn (w0 := w) KR.out.1 hg57 hlt
        have G7 : Hid (w.grownBy w7 (some g)) := by exact KR.out.2.1.trans hg57
        have hs7 := G7.out.size
        have hlk := KR.out.2.2
        have R7 := Lib.hid (And.intro hr7 ho7)
        have hll : l.length ≤ 21 := by omega
        clear hrd hr5 hr6 hr7 hg5 hg6 hg7 hg57 ho7 hlk
        go_wp2_with (at_builtin
                     go_must (refine wpList_append_reads _ rfl (.tmp 20) (.tmp 31) _ rfl w.heap.size 31 i0 _ 3 24 Try.underlying23 hi0 hz0 hz1 hz2 rfl (by omega) u3 l.length _ rfl (R7.out.2.alloc _) (w7.heap.size + 1) _ 1 1 (cellsC [⟨1 + r5, 1 + r6, r7 * 10⟩]) rfl (reads_one (c := ⟨1 + r5, 1 + r6, r7 * 10⟩) (by omega)) (cellsC_one _) (by simp only [maxLen]; omega) (by omega) (by simp; omega) ?_)
                     intro v8 w8 hown8 hg8 hat8)
        go_roundw
        case rel =>
          have hl := KR.out.2.2
          refine ⟨k + 1, l ++ [⟨1 + r5, 1 + r6, r7 * 10⟩], p2 + 1 + 1 + 1, by omega, by go_num, by simp [hl], ?_, by omega, (R7.out.1.step ((Below.refl _ _).alloc (Nat.le_refl _) _)).grownRow (R7.out.2.alloc _) hlt hg8, grown_row (grown_alloc G7.out _) (R7.out.2.alloc _) (Nat.le_refl _) hg8⟩
          rw [List.length_append, cellsC_append]
          exact hown8
        case measure => simp [intOf]; omega
      · have hkn : (19 + r4) = (k : Int) := by omega
        have HN := Lib.hid (And.intro hkn hl)
        have KR := Lib.hid (And.intro hown (And.intro hrd hgr))
        have hll : l.length ≤ 21 := by omega
        by_cases hpos : 0 < (19 + r4)
        · have hkpos : 0 < l.length := by omega
          have e0 : decide (0 < (19 + r4)) = true := decide_eq_true hpos
          clear hown hgr hrd hkn hl
          go_wp2_with fail
          refine (pick_any g c _ A z _ _ KR.out.2.1 (by omega) (by omega)).mono ?_
          rintro e w8 ⟨r8, rfl, a8, b8, _, hr8, hg8⟩
          have K8 := Lib.hid (And.intro (own_drawn (w0 := w) KR.out.1 hg8 hlt) (And.intro hr8 (KR.out.2.2.trans hg8)))
          clear hr8 hg8
          by_cases c8 : r8 = 0
          · have e8 : (r8 == 0) = true := by simp [c8]
            clear c8
            go_wp2_with fail
            refine (pick_any g c _ A z _ _ K8.out.2.1 (by omega) (by omega)).mono ?_
            rintro e w9 ⟨r9, rfl, a9, b9, _, hr9, hg9⟩
            have b9 := b9 (by omega)
            go_wp2_with fail
            refine (pick_any g c _ A z _ _ hr9 (by omega) (by omega)).mono ?_
            rintro e wa ⟨ra, rfl, aa, ba, _, hra, hga⟩
            have ba := ba (by omega)
            go_wp2_with fail
            refine (pick_any g c _ A z _ _ hra (by omega) (by omega)).mono ?_
            rintro e wb ⟨rb, rfl, ab, bb, _, hrb, hgb⟩
            have bb := bb (by omega)
            have hg9b := (hg9.trans hga).trans hgb
            have Kb := Lib.hid (And.intro (own_drawn (w0 := w) K8.out.1 hg9b hlt) (K8.out.2.2.trans hg9b))
            have hnb : ¬ wb.heap.size = g := by have := Kb.out.2.size; omega
            clear hg9 hga hgb hg9b hr9 hra
            go_wp2_with fail
            refine (pick_any g c _ A z _ _ (hrb.step ((Below.refl _ _).alloc (Nat.le_refl _) _)) (by omega) (by omega)).mono ?_
            rintro e wc ⟨rc, rfl, ac, bc, _, hrc, hgc⟩
            have bc := bc (by omega)
            have Mc := Lib.hid (row_keep hgc (heap_alloc_new wb (.cells #[.int .i64 (-1), .int .i64 999, .int .i64 1000] 3)) hnb)
            have hoc := own_drawn (w0 := w) (Kb.out.1.alloc (.cells #[.int .i64 (-1), .int .i64 999, .int .i64 1000] 3)) hgc hlt
            have Kc := Lib.hid (And.intro hoc (And.intro hrc ((grown_alloc Kb.out.2 _).trans hgc)))
            clear hgc hrb hrc
            obtain ⟨j, rfl⟩ := Int.eq_ofNat_of_zero_le a9
            have hnk := HN.out.1
            have hlk := HN.out.2
            have hj : j < l.length := by omega
            have hji : (j : Int) < (l.length : Int) := by omega
            obtain ⟨gm, cm, hvm, hgm1, hgm2⟩ := hoc.form (by omega)
            subst hvm
            obtain ⟨_, _, _, f0, f1, f2⟩ := own_cells hoc (List.getElem?_eq_getElem hj)
            obtain ⟨d0, d1, d2, _⟩ := own_cells hoc (List.getElem?_eq_getElem hj)
            clear hoc hnk hlk
            have hcc : rc = 0 ∨ rc = 1 ∨ rc = 2 := by omega
            rcases hcc with rfl | rfl | rfl
            · have y0 : wc.cell? ⟨wb.heap.size, 0, none⟩ = some (.int .i64 (-1)) := cell_of_row _ _ 0 _ _ _ Mc.out
              go_wp2_with fail
              go_ret
              have hst := own_store3 Kc.out.1 hj ⟨ra * 50, rb, -1⟩
              refine ⟨_, l.set j ⟨ra * 50, rb, -1⟩, rfl, by rw [List.length_set]; exact hst, by rw [List.length_set]; exact hll, ⟨⟨p2 + 1 + 1 + 1 + 1 + 1, by omega, ?_⟩, ?_⟩⟩
              · repeat (first | exact Kc.out.2.1 | refine Rd.set ?_ (by simp; try omega) _)
              · repeat (first | exact Kc.out.2.2 | refine grown_new ?_ (by simp; try omega) _)
            · have y0 : wc.cell? ⟨wb.heap.size, 1, none⟩ = some (.int .i64 (999)) := cell_of_row _ _ 1 _ _ _ Mc.out
              go_wp2_with fail
              go_ret
              have hst := own_store3 Kc.out.1 hj ⟨ra * 50, rb, 999⟩
              refine ⟨_, l.set j ⟨ra * 50, rb, 999⟩, rfl, by rw [List.length_set]; exact hst, by rw [List.length_set]; exact hll, ⟨⟨p2 + 1 + 1 + 1 + 1 + 1, by omega, ?_⟩, ?_⟩⟩
              · repeat (first | exact Kc.out.2.1 | refine Rd.set ?_ (by simp; try omega) _)
              · repeat (first | exact Kc.out.2.2 | refine grown_new ?_ (by simp; try omega) _)
            · have y0 : wc.cell? ⟨wb.heap.size, 2, none⟩ = some (.int .i64 (1000)) := cell_of_row _ _ 2 _ _ _ Mc.out
              go_wp2_with fail
              go_ret
              have hst := own_store3 Kc.out.1 hj ⟨ra * 50, rb, 1000⟩
              refine ⟨_, l.set j ⟨ra * 50, rb, 1000⟩, rfl, by rw [List.length_set]; exact hst, by rw [List.length_set]; exact hll, ⟨⟨p2 + 1 + 1 + 1 + 1 + 1, by omega, ?_⟩, ?_⟩⟩
              · repeat (first | exact Kc.out.2.1 | refine Rd.set ?_ (by simp; try omega) _)
              · repeat (first | exact Kc.out.2.2 | refine grown_new ?_ (by simp; try omega) _)
          · have e8 : (r8 == 0) = false := by simp [c8]
            clear c8
            go_wp2_with fail
            go_ret
            exact ⟨_, l, rfl, K8.out.1, hll, ⟨⟨_, by omega, K8.out.2.1⟩, K8.out.2.2⟩⟩
        · have e0 : decide (0 < (19 + r4)) = false := decide_eq_false hpos
          clear hown hgr hrd hkn hl
          go_wp2_with fail
          go_ret
          exact ⟨_, l, rfl, KR.out.1, hll, ⟨⟨_, by omega, KR.out.2.1⟩, KR.out.2.2⟩⟩
  · have e3 : (r3 == 0) = false := by simp [c3]
    clear c3
    have K := K3
    have hn0 : 0 ≤ r2 := a2
    have hn21 : r2 ≤ 21 := by omega
    go_wp2_with fail
    go_loopw [3, 5] (fun v i wr => ∃ (k : Nat) (l : List Ctx) (p2 : Nat), (k : Int) ≤ r2 ∧ i = .int .i64 k ∧ l.length = k ∧ wr.ownsRow w.heap.size 31 3 v l.length (cellsC l) ∧ p2 ≤ p + 3 + 3 * k ∧ Rd wr g A z c p2 ∧ w.grownBy wr (some g)) (fun _ i _ => (r2 - intOf i).toNat)
    case atStart => exact ⟨0, [], _, by omega, rfl, rfl, K.out.1, by omega, K.out.2.1, K.out.2.2⟩
    case round =>
      obtain ⟨k, l, p2, hk, rfl, hl, hown, hp2, hrd, hgr⟩ := hrel
      clear K K3
      by_cases hkN : (k : Int) < r2
      · have KR := Lib.hid (And.intro hown (And.intro hgr hl))
        clear hown hgr hl
        go_wp2_with fail
        refine (pick_any g c p2 A z _ _ hrd (by omega) (by omega)).mono ?_
        rintro e w5 ⟨r5, rfl, a5, b5, _, hr5, hg5⟩
        have b5 := b5 (by omega)
        go_wp2_with fail
        refine (pick_any g c _ A z _ _ hr5 (by omega) (by omega)).mono ?_
        rintro e w6 ⟨r6, rfl, a6, b6, _, hr6, hg6⟩
        have b6 := b6 (by omega)
        go_wp2_with fail
        refine (pick_any g c _ A z _ _ hr6 (by omega) (by omega)).mono ?_
        rintro e w7 ⟨r7, rfl, a7, b7, _, hr7, hg7⟩
        have b7 := b7 (by omega)
        have hg57 := (hg5.trans hg6).trans hg7
        have ho7 := own_drawn (w0 := w) KR.out.1 hg57 hlt
        have G7 : Hid (w.grownBy w7 (some g)) := by exact KR.out.2.1.trans hg57
        have hs7 := G7.out.size
        have hlk := KR.out.2.2
        have R7 := Lib.hid (And.intro hr7 ho7)
        have hll : l.length ≤ 21 := by omega
        clear hrd hr5 hr6 hr7 hg5 hg6 hg7 hg57 ho7 hlk
        go_wp2_with (at_builtin
                     go_must (refine wpList_append_reads _ rfl (.tmp 20) (.tmp 31) _ rfl w.heap.size 31 i0 _ 3 24 Try.underlying23 hi0 hz0 hz1 hz2 rfl (by omega) u3 l.length _ rfl (R7.out.2.alloc _) (w7.heap.size + 1) _ 1 1 (cellsC [⟨1 + r5, 1 + r6, r7 * 10⟩]) rfl (reads_one (c := ⟨1 + r5, 1 + r6, r7 * 10⟩) (by omega)) (cellsC_one _) (by simp only [maxLen]; omega) (by omega) (by simp; omega) ?_)
                     intro v8 w8 hown8 hg8 hat8)
        go_roundw
        case rel =>
          have hl := KR.out.2.2
          refine ⟨k + 1, l ++ [⟨1 + r5, 1 + r6, r7 * 10⟩], p2 + 1 + 1 + 1, by omega, by go_num, by simp [hl], ?_, by omega, (R7.out.1.step ((Below.refl _ _).alloc (Nat.le_refl _) _)).grownRow (R7.out.2.alloc _) hlt hg8, grown_row (grown_alloc G7.out _) (R7.out.2.alloc _) (Nat.le_refl _) hg8⟩
          rw [List.length_append, cellsC_append]
          exact hown8
        case measure => simp [intOf]; omega
      · have hkn : r2 = (k : Int) := by omega
        have HN := Lib.hid (And.intro hkn hl)
        have KR := Lib.hid (And.intro hown (And.intro hrd hgr))
        have hll : l.length ≤ 21 := by omega
        by_cases hpos : 0 < r2
        · have hkpos : 0 < l.length := by omega
          have e0 : decide (0 < r2) = true := decide_eq_true hpos
          clear hown hgr hrd hkn hl
          go_wp2_with fail
          refine (pick_any g c _ A z _ _ KR.out.2.1 (by omega) (by omega)).mono ?_
          rintro e w8 ⟨r8, rfl, a8, b8, _, hr8, hg8⟩
          have K8 := Lib.hid (And.intro (own_drawn (w0 := w) KR.out.1 hg8 hlt) (And.intro hr8 (KR.out.2.2.trans hg8)))
          clear hr8 hg8
          by_cases c8 : r8 = 0
          · have e8 : (r8 == 0) = true := by simp [c8]
            clear c8
            go_wp2_with fail
            refine (pick_any g c _ A z _ _ K8.out.2.1 (by omega) (by omega)).mono ?_
            rintro e w9 ⟨r9, rfl, a9, b9, _, hr9, hg9⟩
            have b9 := b9 (by omega)
            go_wp2_with fail
            refine (pick_any g c _ A z _ _ hr9 (by omega) (by omega)).mono ?_
            rintro e wa ⟨ra, rfl, aa, ba, _, hra, hga⟩
            have ba := ba (by omega)
            go_wp2_with fail
            refine (pick_any g c _ A z _ _ hra (by omega) (by omega)).mono ?_
            rintro e wb ⟨rb, rfl, ab, bb, _, hrb, hgb⟩
            have bb := bb (by omega)
            have hg9b := (hg9.trans hga).trans hgb
            have Kb := Lib.hid (And.intro (own_drawn (w0 := w) K8.out.1 hg9b hlt) (K8.out.2.2.trans hg9b))
            have hnb : ¬ wb.heap.size = g := by have := Kb.out.2.size; omega
            clear hg9 hga hgb hg9b hr9 hra
            go_wp2_with fail
            refine (pick_any g c _ A z _ _ (hrb.step ((Below.refl _ _).alloc (Nat.le_refl _) _)) (by omega) (by omega)).mono ?_
            rintro e wc ⟨rc, rfl, ac, bc, _, hrc, hgc⟩
            have bc := bc (by omega)
            have Mc := Lib.hid (row_keep hgc (heap_alloc_new wb (.cells #[.int .i64 (-1), .int .i64 999, .int .i64 1000] 3)) hnb)
            have hoc := own_drawn (w0 := w) (Kb.out.1.alloc (.cells #[.int .i64 (-1), .int .i64 999, .int .i64 1000] 3)) hgc hlt
            have Kc := Lib.hid (And.intro hoc (And.intro hrc ((grown_alloc Kb.out.2 _).trans hgc)))
            clear hgc hrb hrc
            obtain ⟨j, rfl⟩ := Int.eq_ofNat_of_zero_le a9
            have hnk := HN.out.1
            have hlk := HN.out.2
            have hj : j < l.length := by omega
            have hji : (j : Int) < (l.length : Int) := by omega
            obtain ⟨gm, cm, hvm, hgm1, hgm2⟩ := hoc.form (by omega)
            subst hvm
            obtain ⟨_, _, _, f0, f1, f2⟩ := own_cells hoc (List.getElem?_eq_getElem hj)
            obtain ⟨d0, d1, d2, _⟩ := own_cells hoc (List.getElem?_eq_getElem hj)
            clear hoc hnk hlk
            have hcc : rc = 0 ∨ rc = 1 ∨ rc = 2 := by omega
            rcases hcc with rfl | rfl | rfl
            · have y0 : wc.cell? ⟨wb.heap.size, 0, none⟩ = some (.int .i64 (-1)) := cell_of_row _ _ 0 _ _ _ Mc.out
              go_wp2_with fail
              go_ret
              have hst := own_store3 Kc.out.1 hj ⟨ra * 50, rb, -1⟩
              refine ⟨_, l.set j ⟨ra * 50, rb, -1⟩, rfl, by rw [List.length_set]; exact hst, by rw [List.length_set]; exact hll, ⟨⟨p2 + 1 + 1 + 1 + 1 + 1, by omega, ?_⟩, ?_⟩⟩
              · repeat (first | exact Kc.out.2.1 | refine Rd.set ?_ (by simp; try omega) _)
              · repeat (first | exact Kc.out.2.2 | refine grown_new ?_ (by simp; try omega) _)
            · have y0 : wc.cell? ⟨wb.heap.size, 1, none⟩ = some (.int .i64 (999)) := cell_of_row _ _ 1 _ _ _ Mc.out
              go_wp2_with fail
              go_ret
              have hst := own_store3 Kc.out.1 hj ⟨ra * 50, rb, 999⟩
              refine ⟨_, l.set j ⟨ra * 50, rb, 999⟩, rfl, by rw [List.length_set]; exact hst, by rw [List.length_set]; exact hll, ⟨⟨p2 + 1 + 1 + 1 + 1 + 1, by omega, ?_⟩, ?_⟩⟩
              · repeat (first | exact Kc.out.2.1 | refine Rd.set ?_ (by simp; try omega) _)
              · repeat (first | exact Kc.out.2.2 | refine grown_new ?_ (by simp; try omega) _)
            · have y0 : wc.cell? ⟨wb.heap.size, 2, none⟩ = some (.int .i64 (1000)) := cell_of_row _ _ 2 _ _ _ Mc.out
              go_wp2_with fail
              go_ret
              have hst := own_store3 Kc.out.1 hj ⟨ra * 50, rb, 1000⟩
              refine ⟨_, l.set j ⟨ra * 50, rb, 1000⟩, rfl, by rw [List.length_set]; exact hst, by rw [List.length_set]; exact hll, ⟨⟨p2 + 1 + 1 + 1 + 1 + 1, by omega, ?_⟩, ?_⟩⟩
              · repeat (first | exact Kc.out.2.1 | refine Rd.set ?_ (by simp; try omega) _)
              · repeat (first | exact Kc.out.2.2 | refine grown_new ?_ (by simp; try omega) _)
          · have e8 : (r8 == 0) = false := by simp [c8]
            clear c8
            go_wp2_with fail
            go_ret
            exact ⟨_, l, rfl, K8.out.1, hll, ⟨⟨_, by omega, K8.out.2.1⟩, K8.out.2.2⟩⟩
        · have e0 : decide (0 < r2) = false := decide_eq_false hpos
          clear hown hgr hrd hkn hl
          go_wp2_with fail
          go_ret
          exact ⟨_, l, rfl, KR.out.1, hll, ⟨⟨_, by omega, KR.out.2.1⟩, KR.out.2.2⟩⟩
end Go.Proofs.Ytopdmcnbchpihaa
