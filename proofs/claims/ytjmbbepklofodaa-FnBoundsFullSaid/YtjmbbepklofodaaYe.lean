/- The laws draw a list of bounds. (written by gen_ye.py) -/
import Derived.Test.YtjmbbepklofodaaYd
namespace Go.Proofs.Ytjmbbepklofodaa
open Go.RowKit

def DrawBsPost (w : World) (g c p : Nat) (A : Option Addr) (z : List Int) (e : Ending) (w2 : World) : Prop :=
  ∃ (v : Value) (l : List Ctx), e = .returned v ∧ w2.ownsRow w.heap.size 29 3 v l.length (cellsC l) ∧ l.length ≤ 13 ∧ Drawn w g A z c p 170 w2
theorem addB_room {L : List Ctx} {b : Ctx} (h : addOkB L b = true) : (addB L b).length ≤ 12 := (validB_ok (addB_valid h).1).2

set_option maxHeartbeats 9000000 in
set_option maxRecDepth 100000 in
theorem drawBs_any (g c p : Nat) (A : Option Addr) (z : List Int) (n : Int) (w : World) (h : Rd w g A z c p) (hp : p ≤ 800000) (hn1 : 1 ≤ n) (hn2 : n ≤ 50) :
    Calls Try.prog 36 #[.pointer (some ⟨g, 0, none⟩), .int .i64 n] w (DrawBsPost w g c p A z) := by
  obtain ⟨i0, hi0, hz0, hz1, hz2⟩ := info_parts infoBound
  have hlt := h.lt
  have h1 := h.step ((Below.refl _ _).alloc (Nat.le_refl _) (.cells #[] 29))
  have ho1 : (w.alloc (.cells #[] 29)).ownsRow w.heap.size 29 3 (.slice (some ⟨w.heap.size, 0, none⟩) 0 0) 0 [] := own_empty (Nat.le_refl _) rfl
  have hg1 := World.grownBy_alloc w (.cells #[] 29) (some g)
  go_enter Try.func36, Try.ntmps36
  go_wp2_with fail
  refine (pick_any g c p A z _ _ h1 (by omega) (by omega)).mono ?_
  rintro e w2 ⟨r2, rfl, a2, b2, _, hr2, hg2⟩
  have b2 := b2 (by omega)
  have ho2 := own_drawn (w0 := w) ho1 hg2 hlt
  have hg12 := hg1.trans hg2
  go_wp2_with fail
  refine (pick_any g c _ A z _ _ hr2 (by omega) (by omega)).mono ?_
  rintro e w3 ⟨r3, rfl, a3, b3, _, hr3, hg3⟩
  have ho3 := own_drawn (w0 := w) ho2 hg3 hlt
  have hg13 := hg12.trans hg3
  have K3 := Lib.hid (And.intro ho3 (And.intro hr3 hg13))
  clear h1 ho1 hg1 hr2 hg2 ho2 hg12 hr3 hg3 ho3 hg13 b3
  by_cases c3 : r3 = 0
  · have e3 : (r3 == 0) = true := by simp [c3]
    clear c3
    go_wp2_with fail
    go_loopw [5, 7] (fun v i wr => ∃ (k : Nat) (l : List Ctx) (p2 : Nat), (k : Int) ≤ 20 ∧ i = .int .i64 k ∧ l.length ≤ 12 ∧ wr.ownsRow w.heap.size 29 3 v l.length (cellsC l) ∧ p2 ≤ p + 2 + 7 * k ∧ Rd wr g A z c p2 ∧ w.grownBy wr (some g)) (fun _ i _ => (20 - intOf i).toNat)
    case atStart => exact ⟨0, [], p + 1 + 1, by omega, rfl, by simp, K3.out.1, by omega, K3.out.2.1, K3.out.2.2⟩
    case round =>
      obtain ⟨k, l, p2, hk, rfl, hl, hown, hp2, hrd, hgr⟩ := hrel
      clear K3
      obtain ⟨Al, cl, hv, hcap, hrl⟩ := own_slice hown
      subst hv
      by_cases hkN : (k : Int) < 20
      · have G := Lib.hid hgr
        have hgs := hgr.size
        clear hgr
        go_wp2_with fail
        refine (drawB_any g c p2 A z n _ hrd (by omega) hn1 hn2).mono ?_
        rintro e w4 ⟨x, rfl, ⟨p4, hp4, hr4⟩, hg4⟩
        have ho4 := own_drawn (w0 := w) hown hg4 hlt
        have g4 := (G.out).trans hg4
        go_wp2_with fail
        refine (sBoundsAdd_any _ _ l x _ (own_reads ho4) (by omega) hcap).mono ?_
        rintro e w5 ⟨v5, rfl, hb5, ho5⟩
        have hr5 := hr4.step hb5
        have G5 : Hid (w.grownBy w5 (some g)) := by exact g4.trans (grown_of_below hb5 _)
        have H5 := Lib.hid (And.intro ho4 (And.intro hb5 ho5))
        have G4 := Lib.hid g4
        clear g4 hg4 ho4 ho5 hb5 hown hrl
        cases hok : addOkB l x
        · go_wp2_with fail
          go_roundw
          case rel => exact ⟨k + 1, l, p4, by omega, by go_num, hl, own_below H5.out.1 H5.out.2.1, by omega, hr5, G5.out⟩
          case measure => simp [intOf]; omega
        · have hlen := addB_room hok
          go_wp2_with fail
          go_roundw
          case rel => exact ⟨k + 1, addB l x, p4, by omega, by go_num, hlen, own_less H5.out.2.2 (by have := G4.out.size; omega), by omega, hr5, G5.out⟩
          case measure => simp [intOf]; omega
      · have G := Lib.hid hgr
        have hgs := hgr.size
        clear hgr
        go_wp2_with fail
        refine (pick_any g c _ A z _ _ hrd (by omega) (by omega)).mono ?_
        rintro e w6 ⟨r6, rfl, a6, b6, _, hr6, hg6⟩
        have ho6 := own_drawn (w0 := w) hown hg6 hlt
        have G6 : Hid (w.grownBy w6 (some g)) := by exact (G.out).trans hg6
        have O6 := Lib.hid ho6
        clear hown hrl hg6 ho6
        by_cases c6 : r6 = 0
        · have e6 : (r6 == 0) = true := by simp [c6]
          clear c6
          go_wp2_with fail
          refine (drawB_any g c _ A z n _ hr6 (by omega) hn1 hn2).mono ?_
          rintro e w7 ⟨x, rfl, ⟨p7, hp7, hr7⟩, hg7⟩
          have ho7 := own_drawn (w0 := w) O6.out hg7 hlt
          have G7 : Hid (w.grownBy w7 (some g)) := by exact (G6.out).trans hg7
          have hs7 := G7.out.size
          have R7 := Lib.hid hr7
          clear hg7 hr7 hr6 hrd
          go_wp2_with (at_builtin
                       go_must (refine wpList_append_reads _ rfl (.tmp 34) (.tmp 38) _ rfl w.heap.size 29 i0 _ 3 24 Try.underlying23 hi0 hz0 hz1 hz2 rfl (by omega) (.slice Al l.length cl) l.length _ rfl (ho7.alloc _) (w7.heap.size + 1) _ 1 1 (cellsC [x]) rfl (reads_one (by omega)) (cellsC_one _) (by simp only [maxLen]; omega) (by omega) (by simp; omega) ?_)
                       intro v8 w8 hown8 hg8 hat8)
          go_ret
          refine ⟨v8, l ++ [x], rfl, ?_, by simp; omega, ⟨⟨_, by omega, (R7.out.step ((Below.refl _ _).alloc (Nat.le_refl _) _)).grownRow (ho7.alloc _) hlt hg8⟩, grown_row (grown_alloc G7.out _) (ho7.alloc _) (Nat.le_refl _) hg8⟩⟩
          rw [List.length_append, cellsC_append]
          exact hown8
        · have e6 : (r6 == 0) = false := by simp [c6]
          clear c6
          go_wp2_with fail
          go_ret
          exact ⟨_, l, rfl, O6.out, by omega, ⟨⟨_, by omega, hr6⟩, G6.out⟩⟩
  · have e3 : (r3 == 0) = false := by simp [c3]
    clear c3
    go_wp2_with fail
    go_loopw [5, 7] (fun v i wr => ∃ (k : Nat) (l : List Ctx) (p2 : Nat), (k : Int) ≤ r2 ∧ i = .int .i64 k ∧ l.length ≤ 12 ∧ wr.ownsRow w.heap.size 29 3 v l.length (cellsC l) ∧ p2 ≤ p + 2 + 7 * k ∧ Rd wr g A z c p2 ∧ w.grownBy wr (some g)) (fun _ i _ => (r2 - intOf i).toNat)
    case atStart => exact ⟨0, [], p + 1 + 1, by omega, rfl, by simp, K3.out.1, by omega, K3.out.2.1, K3.out.2.2⟩
    case round =>
      obtain ⟨k, l, p2, hk, rfl, hl, hown, hp2, hrd, hgr⟩ := hrel
      clear K3
      obtain ⟨Al, cl, hv, hcap, hrl⟩ := own_slice hown
      subst hv
      by_cases hkN : (k : Int) < r2
      · have G := Lib.hid hgr
        have hgs := hgr.size
        clear hgr
        go_wp2_with fail
        refine (drawB_any g c p2 A z n _ hrd (by omega) hn1 hn2).mono ?_
        rintro e w4 ⟨x, rfl, ⟨p4, hp4, hr4⟩, hg4⟩
        have ho4 := own_drawn (w0 := w) hown hg4 hlt
        have g4 := (G.out).trans hg4
        go_wp2_with fail
        refine (sBoundsAdd_any _ _ l x _ (own_reads ho4) (by omega) hcap).mono ?_
        rintro e w5 ⟨v5, rfl, hb5, ho5⟩
        have hr5 := hr4.step hb5
        have G5 : Hid (w.grownBy w5 (some g)) := by exact g4.trans (grown_of_below hb5 _)
        have H5 := Lib.hid (And.intro ho4 (And.intro hb5 ho5))
        have G4 := Lib.hid g4
        clear g4 hg4 ho4 ho5 hb5 hown hrl
        cases hok : addOkB l x
        · go_wp2_with fail
          go_roundw
          case rel => exact ⟨k + 1, l, p4, by omega, by go_num, hl, own_below H5.out.1 H5.out.2.1, by omega, hr5, G5.out⟩
          case measure => simp [intOf]; omega
        · have hlen := addB_room hok
          go_wp2_with fail
          go_roundw
          case rel => exact ⟨k + 1, addB l x, p4, by omega, by go_num, hlen, own_less H5.out.2.2 (by have := G4.out.size; omega), by omega, hr5, G5.out⟩
          case measure => simp [intOf]; omega
      · have G := Lib.hid hgr
        have hgs := hgr.size
        clear hgr
        go_wp2_with fail
        refine (pick_any g c _ A z _ _ hrd (by omega) (by omega)).mono ?_
        rintro e w6 ⟨r6, rfl, a6, b6, _, hr6, hg6⟩
        have ho6 := own_drawn (w0 := w) hown hg6 hlt
        have G6 : Hid (w.grownBy w6 (some g)) := by exact (G.out).trans hg6
        have O6 := Lib.hid ho6
        clear hown hrl hg6 ho6
        by_cases c6 : r6 = 0
        · have e6 : (r6 == 0) = true := by simp [c6]
          clear c6
          go_wp2_with fail
          refine (drawB_any g c _ A z n _ hr6 (by omega) hn1 hn2).mono ?_
          rintro e w7 ⟨x, rfl, ⟨p7, hp7, hr7⟩, hg7⟩
          have ho7 := own_drawn (w0 := w) O6.out hg7 hlt
          have G7 : Hid (w.grownBy w7 (some g)) := by exact (G6.out).trans hg7
          have hs7 := G7.out.size
          have R7 := Lib.hid hr7
          clear hg7 hr7 hr6 hrd
          go_wp2_with (at_builtin
                       go_must (refine wpList_append_reads _ rfl (.tmp 34) (.tmp 38) _ rfl w.heap.size 29 i0 _ 3 24 Try.underlying23 hi0 hz0 hz1 hz2 rfl (by omega) (.slice Al l.length cl) l.length _ rfl (ho7.alloc _) (w7.heap.size + 1) _ 1 1 (cellsC [x]) rfl (reads_one (by omega)) (cellsC_one _) (by simp only [maxLen]; omega) (by omega) (by simp; omega) ?_)
                       intro v8 w8 hown8 hg8 hat8)
          go_ret
          refine ⟨v8, l ++ [x], rfl, ?_, by simp; omega, ⟨⟨_, by omega, (R7.out.step ((Below.refl _ _).alloc (Nat.le_refl _) _)).grownRow (ho7.alloc _) hlt hg8⟩, grown_row (grown_alloc G7.out _) (ho7.alloc _) (Nat.le_refl _) hg8⟩⟩
          rw [List.length_append, cellsC_append]
          exact hown8
        · have e6 : (r6 == 0) = false := by simp [c6]
          clear c6
          go_wp2_with fail
          go_ret
          exact ⟨_, l, rfl, O6.out, by omega, ⟨⟨_, by omega, hr6⟩, G6.out⟩⟩
end Go.Proofs.Ytjmbbepklofodaa
