/- The laws draw a context and years of finds. (written by gen_yg.py) -/
import Derived.Test.YtjmbbepklofodaaDr
import Derived.Test.YtjmbbepklofodaaIl
namespace Go.Proofs.Ytjmbbepklofodaa
open Go.RowKit

theorem cellsI_appY (l m : List Int) : cellsI (l ++ m) = cellsI l ++ cellsI m := by simp [cellsI]
/-- A number and a row of numbers of its own. -/
def DrewY (w : World) (e : Ending) (w2 : World) : Prop :=
  ∃ (v : Value) (Y : List Int) (id : Int), e = .returned (.tuple #[.int .i64 id, v]) ∧ w2.ownsRow w.heap.size 3 1 v Y.length (cellsI Y) ∧ Y.length ≤ 4 ∧ Below w.heap.size w w2
set_option maxHeartbeats 4000000 in
set_option maxRecDepth 100000 in
theorem dFindB_any (A : Option Addr) (c : Nat) (z : List Int) (w : World) (h : Bytes w A c z) :
    Calls Try.prog 23 #[.slice A z.length c] w (DrewY w) := by
  obtain ⟨i0, hi0, hz0, hz1, hz2⟩ := info_parts infoInt
  go_enter Try.func23, Try.ntmps23
  go_wp2_with fail
  refine (open_any A c z _ h.reads h.byte h.cap h.room).mono ?_
  rintro e w2 ⟨g, c2, A2, z2, rfl, hg, hb2, hr2⟩
  have hgl := hr2.lt
  have h1 := hr2.step ((Below.refl _ _).alloc (Nat.le_refl _) (.cells #[] 3))
  have ho1 : (w2.alloc (.cells #[] 3)).ownsRow w2.heap.size 3 1 (.slice (some ⟨w2.heap.size, 0, none⟩) 0 0) 0 [] := own_empty (Nat.le_refl _) rfl
  have hg1 := World.grownBy_alloc w2 (.cells #[] 3) (some g)
  go_wp2_with fail
  refine (pick_any g c2 0 A2 z2 _ _ h1 (by omega) (by omega)).mono ?_
  rintro e w3 ⟨r3, rfl, a3, b3, _, hr3, hg3⟩
  have b3 := b3 (by omega)
  have ho3 := own_drawn (w0 := w2) ho1 hg3 hgl
  have hg13 := hg1.trans hg3
  have K3 := Lib.hid (And.intro ho3 (And.intro hr3 hg13))
  clear h1 ho1 hg1 hr2 hg3 ho3 hg13 hr3 h
  go_wp2_with fail
  go_loopw [5, 7] (fun v i wr => ∃ (k : Nat) (l : List Int) (p2 : Nat), (k : Int) ≤ r3 ∧ i = .int .i64 (k : Int) ∧ l.length = k ∧ wr.ownsRow w2.heap.size 3 1 v l.length (cellsI l) ∧ p2 ≤ 1 + k ∧ Rd wr g A2 z2 c2 p2 ∧ w2.grownBy wr (some g)) (fun _ i _ => (20 - intOf i).toNat)
  case atStart => exact ⟨0, [], 1, by omega, by simp, by simp, K3.out.1, by omega, K3.out.2.1, K3.out.2.2⟩
  case round =>
    obtain ⟨k, l, p2, hk, rfl, hl, hown, hp2, hrd, hgr⟩ := hrel
    clear K3
    have G := Lib.hid hgr
    have hgs := hgr.size
    have HL := Lib.hid hl
    clear hgr hl
    have O := Lib.hid hown
    clear hown
    by_cases hkN : (k : Int) < r3
    · go_wp2_with fail
      refine (pick_any g c2 p2 A2 z2 _ _ hrd (by omega) (by omega)).mono ?_
      rintro e w4 ⟨r4, rfl, a4, b4, _, hr4, hg4⟩
      have b4 := b4 (by omega)
      have ho4 := own_drawn (w0 := w2) O.out hg4 hgl
      have G4 := Lib.hid ((G.out).trans hg4)
      have hs4 := G4.out.size
      have R4 := Lib.hid hr4
      have hll : l.length ≤ 4 := by have := HL.out; omega
      clear hg4 hrd hr4
      go_wp2_with (at_builtin
                   go_must (refine wpList_append_reads _ rfl (.tmp 18) (.tmp 22) _ rfl w2.heap.size 3 i0 _ 1 8 Try.underlying39 hi0 hz0 hz1 hz2 rfl (by omega) u5 l.length _ rfl (ho4.alloc _) (w4.heap.size + 1) _ 1 1 (cellsI [r4 * 10]) rfl (reads_int (by omega)) (cellsI_one _) (by simp only [maxLen]; omega) (by omega) (by simp; omega) ?_)
                   intro v8 w8 hown8 hg8 hat8)
      go_roundw
      case rel =>
        refine ⟨k + 1, l ++ [r4 * 10], p2 + 1, by omega, by go_num, by have := HL.out; simp; omega, ?_, by omega, (R4.out.step ((Below.refl _ _).alloc (Nat.le_refl _) _)).grownRow (ho4.alloc _) hgl hg8, grown_row (grown_alloc G4.out _) (ho4.alloc _) (Nat.le_refl _) hg8⟩
        rw [List.length_append, cellsI_appY]
        exact hown8
      case measure => simp [intOf]; omega
    · by_cases h0 : r3 = 0
      · have e0 : decide (0 < r3) = false := decide_eq_false (by omega)
        have hp3 : p2 ≤ 5 := by omega
        have hle : Hid (l.length ≤ 4) := by show l.length ≤ 4; have := HL.out; omega
        clear h0
        go_wp2_with fail
        refine (pick_any g c2 _ A2 z2 _ _ hrd (by omega) (by omega)).mono ?_
        rintro e wa ⟨ra, rfl, aa, ba, _, hra, hga⟩
        have ba := ba (by omega)
        have hoa := own_drawn (w0 := w2) O.out hga hgl
        have Ga := Lib.hid ((G.out).trans hga)
        clear hga
        by_cases ca : ra = 0
        · have ea : (ra == 0) = true := by simp [ca]
          clear ca
          have OA := Lib.hid hoa
          clear hoa
          go_wp2_with fail
          refine (pick_any g c2 _ A2 z2 _ _ hra (by omega) (by omega)).mono ?_
          rintro e wb ⟨rb, rfl, ab, bb, _, hrb, hgb⟩
          have bb := bb (by omega)
          have OB := Lib.hid (own_drawn (w0 := w2) OA.out hgb hgl)
          have GB := Lib.hid (Ga.out.trans hgb)
          clear hgb hrb hra
          go_wp2_with fail
          go_ret2
          exact ⟨_, l, _, rfl, own_less OB.out hb2.size, hle.out, grown_below GB.out hb2 hg⟩
        · have ea : (ra == 0) = false := by simp [ca]
          clear ca
          have OA := Lib.hid hoa
          clear hoa
          go_wp2_with fail
          refine (pick_any g c2 _ A2 z2 _ _ hra (by omega) (by omega)).mono ?_
          rintro e wb ⟨rb, rfl, ab, bb, _, hrb, hgb⟩
          have bb := bb (by omega)
          have OB := Lib.hid (own_drawn (w0 := w2) OA.out hgb hgl)
          have GB := Lib.hid (Ga.out.trans hgb)
          clear hgb hrb hra
          go_wp2_with fail
          go_ret2
          exact ⟨_, l, _, rfl, own_less OB.out hb2.size, hle.out, grown_below GB.out hb2 hg⟩
      · have e0 : decide (0 < r3) = true := decide_eq_true (by omega)
        have hp3 : p2 ≤ 5 := by omega
        have hpos : 0 < r3 := by omega
        have hle : Hid (l.length ≤ 4) := by show l.length ≤ 4; have := HL.out; omega
        have hlr : (l.length : Int) = r3 := by have := HL.out; omega
        clear h0
        go_wp2_with fail
        refine (pick_any g c2 _ A2 z2 _ _ hrd (by omega) (by omega)).mono ?_
        rintro e w6 ⟨r6, rfl, a6, b6, _, hr6, hg6⟩
        have ho6 := own_drawn (w0 := w2) O.out hg6 hgl
        have G6 := Lib.hid (G.out.trans hg6)
        have O6 := Lib.hid ho6
        clear hrd hg6 ho6
        by_cases c6 : r6 = 0
        · have e6 : (r6 == 0) = true := by simp [c6]
          clear c6
          obtain ⟨gg, cap, hv, hbg, hgg⟩ := O6.out.form (by omega)
          subst hv
          go_wp2_with fail
          refine (pick_any g c2 _ A2 z2 _ _ hr6 (by omega) (by omega)).mono ?_
          rintro e w7 ⟨r7, rfl, a7, b7, _, hr7, hg7⟩
          have b7 := b7 (by omega)
          have O7 := Lib.hid (own_drawn (w0 := w2) O6.out hg7 hgl)
          have G7 := Lib.hid (G6.out.trans hg7)
          clear hg7 hr6
          go_wp2_with fail
          refine (pick_any g c2 _ A2 z2 _ _ (hr7.step ((Below.refl _ _).alloc (Nat.le_refl _) _)) (by omega) (by omega)).mono ?_
          rintro e w8 ⟨r8, rfl, a8, b8, _, hr8, hg8⟩
          have b8 := b8 (by omega)
          have hn7 : ¬ w7.heap.size = g := by have := hr7.lt; omega
          have hrow := row_keep hg8 (heap_alloc_new w7 (.cells #[.int .i64 (-1), .int .i64 999, .int .i64 1000] 3)) hn7
          have O8 := Lib.hid (own_drawn (w0 := w2) (O7.out.alloc (.cells #[.int .i64 (-1), .int .i64 999, .int .i64 1000] 3)) hg8 hgl)
          have G8 := Lib.hid ((grown_alloc G7.out (.cells #[.int .i64 (-1), .int .i64 999, .int .i64 1000] 3)).trans hg8)
          obtain ⟨m, rfl⟩ := Int.eq_ofNat_of_zero_le a7
          have hm : m < l.length := by omega
          obtain ⟨q, rfl⟩ := Int.eq_ofNat_of_zero_le a8
          obtain ⟨x, hx⟩ : ∃ x, w8.cell? ⟨w7.heap.size, q, none⟩ = some (.int .i64 x) := by
            have : q = 0 ∨ q = 1 ∨ q = 2 := by omega
            rcases this with rfl | rfl | rfl
            · exact ⟨_, cell_of_row _ _ 0 _ _ _ hrow⟩
            · exact ⟨_, cell_of_row _ _ 1 _ _ _ hrow⟩
            · exact ⟨_, cell_of_row _ _ 2 _ _ _ hrow⟩
          obtain ⟨s0, s1⟩ := own_cellI O8.out (List.getElem?_eq_getElem hm)
          have hmi : (m : Int) < (l.length : Int) := by omega
          have hq3 : (q : Int) < 3 := by omega
          have RS := Lib.hid (hr8.set (q := ⟨gg, m, none⟩) (by simp; omega) (.int .i64 x))
          have OS : Hid ((w8.setCell ⟨gg, m, none⟩ (.int .i64 x)).ownsRow w2.heap.size 3 1 (.slice (some ⟨gg, 0, none⟩) l.length cap) (l.set m x).length (cellsI (l.set m x))) := by
            show World.ownsRow _ _ _ _ _ _ _
            rw [List.length_set]
            exact own_storeI O8.out m x
          have GS : Hid (w2.grownBy (w8.setCell ⟨gg, m, none⟩ (.int .i64 x)) (some g)) := by
            show World.grownBy _ _ _
            exact grown_new G8.out (p := ⟨gg, m, none⟩) hbg _
          clear hg8 hrow hr8 hr7
          go_wp2_with fail
          refine (pick_any g c2 _ A2 z2 _ _ RS.out (by omega) (by omega)).mono ?_
          rintro e wa ⟨ra, rfl, aa, ba, _, hra, hga⟩
          have ba := ba (by omega)
          have hoa := own_drawn (w0 := w2) OS.out hga hgl
          have Ga := Lib.hid ((GS.out).trans hga)
          clear hga
          by_cases ca : ra = 0
          · have ea : (ra == 0) = true := by simp [ca]
            clear ca
            have OA := Lib.hid hoa
            clear hoa
            go_wp2_with fail
            refine (pick_any g c2 _ A2 z2 _ _ hra (by omega) (by omega)).mono ?_
            rintro e wb ⟨rb, rfl, ab, bb, _, hrb, hgb⟩
            have bb := bb (by omega)
            have OB := Lib.hid (own_drawn (w0 := w2) OA.out hgb hgl)
            have GB := Lib.hid (Ga.out.trans hgb)
            clear hgb hrb hra
            go_wp2_with fail
            go_ret2
            exact ⟨_, (l.set m x), _, rfl, own_less OB.out hb2.size, (by rw [List.length_set]; exact hle.out), grown_below GB.out hb2 hg⟩
          · have ea : (ra == 0) = false := by simp [ca]
            clear ca
            have OA := Lib.hid hoa
            clear hoa
            go_wp2_with fail
            refine (pick_any g c2 _ A2 z2 _ _ hra (by omega) (by omega)).mono ?_
            rintro e wb ⟨rb, rfl, ab, bb, _, hrb, hgb⟩
            have bb := bb (by omega)
            have OB := Lib.hid (own_drawn (w0 := w2) OA.out hgb hgl)
            have GB := Lib.hid (Ga.out.trans hgb)
            clear hgb hrb hra
            go_wp2_with fail
            go_ret2
            exact ⟨_, (l.set m x), _, rfl, own_less OB.out hb2.size, (by rw [List.length_set]; exact hle.out), grown_below GB.out hb2 hg⟩
        · have e6 : (r6 == 0) = false := by simp [c6]
          clear c6
          go_wp2_with fail
          refine (pick_any g c2 _ A2 z2 _ _ hr6 (by omega) (by omega)).mono ?_
          rintro e wa ⟨ra, rfl, aa, ba, _, hra, hga⟩
          have ba := ba (by omega)
          have hoa := own_drawn (w0 := w2) O6.out hga hgl
          have Ga := Lib.hid ((G6.out).trans hga)
          clear hga
          by_cases ca : ra = 0
          · have ea : (ra == 0) = true := by simp [ca]
            clear ca
            have OA := Lib.hid hoa
            clear hoa
            go_wp2_with fail
            refine (pick_any g c2 _ A2 z2 _ _ hra (by omega) (by omega)).mono ?_
            rintro e wb ⟨rb, rfl, ab, bb, _, hrb, hgb⟩
            have bb := bb (by omega)
            have OB := Lib.hid (own_drawn (w0 := w2) OA.out hgb hgl)
            have GB := Lib.hid (Ga.out.trans hgb)
            clear hgb hrb hra
            go_wp2_with fail
            go_ret2
            exact ⟨_, l, _, rfl, own_less OB.out hb2.size, hle.out, grown_below GB.out hb2 hg⟩
          · have ea : (ra == 0) = false := by simp [ca]
            clear ca
            have OA := Lib.hid hoa
            clear hoa
            go_wp2_with fail
            refine (pick_any g c2 _ A2 z2 _ _ hra (by omega) (by omega)).mono ?_
            rintro e wb ⟨rb, rfl, ab, bb, _, hrb, hgb⟩
            have bb := bb (by omega)
            have OB := Lib.hid (own_drawn (w0 := w2) OA.out hgb hgl)
            have GB := Lib.hid (Ga.out.trans hgb)
            clear hgb hrb hra
            go_wp2_with fail
            go_ret2
            exact ⟨_, l, _, rfl, own_less OB.out hb2.size, hle.out, grown_below GB.out hb2 hg⟩
end Go.Proofs.Ytjmbbepklofodaa
