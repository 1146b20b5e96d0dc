/- The laws' draws of their inputs on finds. -/
import Derived.Test.YtopdmcnbchpihaaFda
import Derived.Test.YtopdmcnbchpihaaZz
import Derived.Test.YtopdmcnbchpihaaSs
namespace Go.Proofs.Ytopdmcnbchpihaa
open Go.RowKit

theorem cellsC_id (l : List Ctx) (k : Nat) (c : Ctx) (hc : l[k]? = some c) (x : Int) : (cellsC l).set (k * 3) (.int .i64 x) = cellsC (l.set k ⟨x, c.kind, c.area⟩) := by
  induction l generalizing k with
  | nil => simp at hc
  | cons d l ih =>
    cases k with
    | zero =>
      simp at hc
      subst hc
      rfl
    | succ k =>
      have := ih k (by simpa using hc)
      simp only [cellsC, List.flatMap_cons, List.set_cons_succ] at *
      rw [← this, show cells3 d = [Value.int .i64 d.id, .int .i64 d.kind, .int .i64 d.area] from rfl]
      rw [show (k + 1) * 3 = k * 3 + 1 + 1 + 1 from by omega]
      simp
/-- Finds were drawn, in memory of their own. -/
def DrewFd (w : World) (v : Value) (L : List Ctx) (w2 : World) : Prop := w2.ownsRow w.heap.size 31 3 v L.length (cellsC L) ∧ L.length ≤ 21 ∧ Below w.heap.size w w2
theorem dValidFd_any (A : Option Addr) (c : Nat) (z : List Int) (w : World) (h : Bytes w A c z) :
    Calls Try.prog 39 #[.slice A z.length c] w fun e w2 => ∃ v l, e = .returned v ∧ DrewFd w v l w2 := by
  go_enter Try.func39, Try.ntmps39
  go_wp2_with fail
  refine (open_any A c z _ h.reads h.byte h.cap h.room).mono ?_
  rintro e w2 ⟨g, c2, A2, z2, rfl, hg, hb2, hr2⟩
  go_wp2_with fail
  refine (drawFs_any g c2 0 A2 z2 _ hr2 (by omega)).mono ?_
  rintro e w3 ⟨v, l, rfl, ho3, hl, hd3⟩
  go_wp2_with fail
  go_ret
  exact ⟨v, l, rfl, own_less ho3 hb2.size, hl, grown_below hd3.grown hb2 hg⟩
theorem dBoundsFd_any (A : Option Addr) (c : Nat) (z : List Int) (w : World) (h : Bytes w A c z) :
    Calls Try.prog 16 #[.slice A z.length c] w fun e w2 => ∃ v l, e = .returned v ∧ DrewFd w v l w2 := by
  go_enter Try.func16, Try.ntmps16
  go_wp2_with fail
  refine (open_any A c z _ h.reads h.byte h.cap h.room).mono ?_
  rintro e w2 ⟨g, c2, A2, z2, rfl, hg, hb2, hr2⟩
  go_wp2_with fail
  refine (drawFs_any g c2 0 A2 z2 _ hr2 (by omega)).mono ?_
  rintro e w3 ⟨v, l, rfl, ho3, hl, hd3⟩
  go_wp2_with fail
  go_ret
  exact ⟨v, l, rfl, own_less ho3 hb2.size, hl, grown_below hd3.grown hb2 hg⟩
def NearPost (w : World) (g c p : Nat) (A : Option Addr) (z : List Int) (e : Ending) (w2 : World) : Prop :=
  ∃ (v : Value) (l : List Ctx), e = .returned v ∧ w2.ownsRow w.heap.size 31 3 v l.length (cellsC l) ∧ l.length ≤ 21 ∧ Drawn w g A z c p 130 w2
set_option maxHeartbeats 4000000 in
set_option maxRecDepth 100000 in
theorem drawNear_any (g c p : Nat) (A : Option Addr) (z : List Int) (w0 w : World) (A2 : Option Addr) (c2 : Nat) (ids : List Int) (h : Rd w g A z c p) (hp : p ≤ 800000) (hlt0 : g < w0.heap.size) (hI : w.ownsRow w0.heap.size 3 1 (.slice A2 ids.length c2) ids.length (cellsI ids)) (hn : ids.length ≤ 13) :
    Calls Try.prog 78 #[.pointer (some ⟨g, 0, none⟩), .slice A2 ids.length c2] w (NearPost w g c p A z) := by
  have hlt := h.lt
  have HIl := Lib.hid (fun q hq => (hI.lt q hq).2)
  have HI := Lib.hid hI
  clear hI
  go_enter Try.func78, Try.ntmps78
  go_wp2_with fail
  refine (drawFs_any g c p A z _ h (by omega)).mono ?_
  rintro e w2 ⟨v2, l0, rfl, ho2, hl2, ⟨p2, hp2, hr2⟩, hg2⟩
  obtain ⟨A3, c3, hv2, _, _⟩ := Reads.of_own ho2
  subst hv2
  obtain ⟨n, hnl⟩ : ∃ n, n = l0.length := ⟨_, rfl⟩
  rw [← hnl] at ho2 hl2 ⊢
  have K2 := Lib.hid (And.intro ho2 (And.intro hr2 (And.intro hg2 (And.intro (own_drawn HI.out hg2 hlt0) hnl))))
  clear ho2 hr2 hg2 h hnl
  go_wp2_with fail
  go_loopw [6] (fun i wr => ∃ (k : Nat) (l : List Ctx) (p3 : Nat), k ≤ n ∧ i = .int .i64 k ∧ l.length = n ∧ wr.ownsRow w.heap.size 31 3 (.slice A3 n c3) n (cellsC l) ∧ p3 ≤ p + 80 + 2 * k ∧ Rd wr g A z c p3 ∧ w.grownBy wr (some g) ∧ wr.ownsRow w0.heap.size 3 1 (.slice A2 ids.length c2) ids.length (cellsI ids)) (fun i _ => n - (intOf i).toNat)
  case atStart => exact ⟨0, l0, p2, Nat.zero_le _, rfl, K2.out.2.2.2.2.symm, K2.out.1, by omega, K2.out.2.1, K2.out.2.2.1, K2.out.2.2.2.1⟩
  case round =>
    obtain ⟨k, l, p3, hk, rfl, hl, hown, hp3, hrd, hgr, hoI⟩ := hrel
    clear K2 HI
    have done : ∀ W q, W.ownsRow w.heap.size 31 3 (.slice A3 n c3) n (cellsC l) → Rd W g A z c q → q ≤ p + 130 → w.grownBy W (some g) → NearPost w g c p A z (.returned (.slice A3 n c3)) W := fun W q h1 h2 h3 h4 => ⟨_, l, rfl, by rw [hl]; exact h1, by omega, ⟨⟨q, h3, h2⟩, h4⟩⟩
    have HD := Lib.hid (And.intro done hl)
    clear done hl
    by_cases hkn : k < n
    · have hki : (k : Int) < (n : Int) := by omega
      by_cases hpos : 0 < ids.length
      · have hposi : (0 : Int) < (ids.length : Int) := by omega
        have KR := Lib.hid (And.intro hown (And.intro hgr hoI))
        clear hown hgr hoI
        go_wp2_with fail
        refine (pick_any g c p3 A z _ _ hrd (by omega) (by omega)).mono ?_
        rintro e w4 ⟨r4, rfl, a4, b4, _, hr4, hg4⟩
        have K4 := Lib.hid (And.intro (own_drawn (w0 := w) KR.out.1 hg4 hlt) (And.intro hr4 (And.intro (KR.out.2.1.trans hg4) (own_drawn KR.out.2.2 hg4 hlt0))))
        clear hr4 hg4 hrd b4
        by_cases h4 : 0 < r4
        · have e4 : decide (0 < r4) = true := decide_eq_true h4
          clear h4
          go_wp2_with fail
          refine (pick_any g c _ A z _ _ K4.out.2.1 (by omega) (by omega)).mono ?_
          rintro e w5 ⟨r5, rfl, a5, b5, _, hr5, hg5⟩
          have b5 := b5 (by omega)
          have K5 := Lib.hid (And.intro (own_drawn (w0 := w) K4.out.1 hg5 hlt) (And.intro hr5 (And.intro (K4.out.2.2.1.trans hg5) (own_drawn K4.out.2.2.2 hg5 hlt0))))
          clear hr5 hg5
          obtain ⟨j, rfl⟩ := Int.eq_ofNat_of_zero_le a5
          have hj : j < ids.length := by omega
          obtain ⟨x, hx⟩ : ∃ x, ids[j]? = some x := ⟨_, List.getElem?_eq_getElem hj⟩
          obtain ⟨gi, ci, hvi, _, hgi⟩ := K5.out.2.2.2.form (by omega)
          injection hvi with e1 e2 e3
          subst e1 e3
          clear e2
          have d1 := (own_cellI K5.out.2.2.2 hx).1
          obtain ⟨gm, cm, hvm, hgm1, hgm⟩ := K5.out.1.form (by omega)
          injection hvm with e1 e2 e3
          subst e1 e3
          clear e2
          have hkl : k < l.length := by have := HD.out.2; omega
          obtain ⟨y, hy⟩ : ∃ y, l[k]? = some y := ⟨_, List.getElem?_eq_getElem hkl⟩
          obtain ⟨d2, _, _, f2, _⟩ := own_cells K5.out.1 hy
          have hst := (K5.out.1.stored (k * 3) (.int .i64 x)).1
          rw [cellsC_id l k y hy x] at hst
          have hjI : (j : Int) < (ids.length : Int) := by omega
          have hne : gi ≠ gm := fun e => by
            have := HIl.out gi rfl
            omega
          have hoI5 := ownsRow_setCell_other K5.out.2.2.2 (a := ⟨gm, k * 3, none⟩) (fun e => hne (by injection e)) (.int .i64 x)
          have HS := Lib.hid (And.intro hst hoI5)
          clear hst hoI5 hy hx hne
          go_wp2_with fail
          go_roundw
          case rel =>
            refine ⟨k + 1, _, p3 + 1 + 1, by omega, by go_num, ?_, HS.out.1, by omega, K5.out.2.1.set (by simp; omega) _, grown_new K5.out.2.2.1 (by simpa using hgm1) _, HS.out.2⟩
            rw [List.length_set]
            exact HD.out.2
          case measure => simp [intOf]; omega
        · have e4 : decide (0 < r4) = false := decide_eq_false h4
          clear h4
          go_wp2_with fail
          go_roundw
          case rel => exact ⟨k + 1, l, p3 + 1, by omega, by go_num, HD.out.2, K4.out.1, by omega, K4.out.2.1, K4.out.2.2.1, K4.out.2.2.2⟩
          case measure => simp [intOf]; omega
      · have hpos0 : (ids.length : Int) = 0 := by omega
        have e5 : decide ((0 : Int) < (ids.length : Int)) = false := decide_eq_false (by omega)
        have KR := Lib.hid (And.intro hown (And.intro hrd hgr))
        clear hown hrd hgr hoI hpos
        go_wp2_with fail
        go_ret
        exact HD.out.1 _ _ KR.out.1 KR.out.2.1 (by omega) KR.out.2.2
    · have hkn2 : k = n := by omega
      subst hkn2
      have KR := Lib.hid (And.intro hown (And.intro hrd hgr))
      clear hown hrd hgr hoI
      go_wp2_with fail
      go_ret
      exact HD.out.1 _ _ KR.out.1 KR.out.2.1 (by omega) KR.out.2.2
theorem dLateFd_any (A : Option Addr) (c : Nat) (z : List Int) (w : World) (h : Bytes w A c z) :
    Calls Try.prog 26 #[.slice A z.length c] w fun e w2 => ∃ v1 v2 v3 v4 ids l bs L, e = .returned (.tuple #[v1, v2, v3, v4]) ∧ DrewD w v1 v2 v3 ids l bs w2 ∧ w2.ownsRow w.heap.size 31 3 v4 L.length (cellsC L) ∧ L.length ≤ 21 := by
  go_enter Try.func26, Try.ntmps26
  go_wp2_with fail
  refine (open_any A c z _ h.reads h.byte h.cap h.room).mono ?_
  rintro e w2 ⟨g, c2, A2, z2, rfl, hg, hb2, hr2⟩
  have hlt := hr2.lt
  go_wp2_with fail
  refine (drawDates_any g c2 0 A2 z2 _ hr2 (by omega)).mono ?_
  rintro e w3 ⟨v1, v2, v3, ids, l, bs, rfl, ho1, ho2, ho3, hl1, hl2, hl3, ⟨p3, hp3, hr3⟩, hg3⟩
  obtain ⟨A5, c5, hv5, _, _⟩ := Reads.of_own ho1
  subst hv5
  have K := Lib.hid (And.intro ho1 (And.intro ho2 (And.intro ho3 (And.intro hr3 hg3))))
  clear ho1 ho2 ho3 hr3 hg3
  go_wp2_with fail
  refine (drawNear_any g c2 p3 A2 z2 w2 w3 A5 c5 ids K.out.2.2.2.1 (by omega) hlt K.out.1 hl1).mono ?_
  rintro e w4 ⟨v4, L, rfl, ho4, hl4, hd4⟩
  have hs3 := K.out.2.2.2.2.size
  have K4 := Lib.hid (And.intro (own_drawn K.out.1 hd4.grown hlt) (And.intro (own_drawn K.out.2.1 hd4.grown hlt) (And.intro (own_drawn K.out.2.2.1 hd4.grown hlt) (And.intro (K.out.2.2.2.2.trans hd4.grown) ho4))))
  clear ho4 hd4 hr2
  go_wp2_with fail
  refine bodyPost_ret (v := .tuple #[.slice A5 ids.length c5, v2, v3, v4]) (by simp [results, Try.results26, go_sem, *]) rfl ?_
  obtain ⟨h1, h2, h3, h4, h5⟩ := K4.out
  exact ⟨_, v2, v3, v4, ids, l, bs, L, rfl, ⟨own_less h1 hb2.size, own_less h2 hb2.size, own_less h3 hb2.size, hl1, hl2, by omega, grown_below h4 hb2 hg⟩, own_less h5 (Nat.le_trans hb2.size hs3), hl4⟩
theorem dOldFd_any (A : Option Addr) (c : Nat) (z : List Int) (w : World) (h : Bytes w A c z) :
    Calls Try.prog 33 #[.slice A z.length c] w fun e w2 => ∃ v1 v2 v3 ids l L, e = .returned (.tuple #[v1, v2, v3]) ∧ DrewB w v1 v2 ids l w2 ∧ w2.ownsRow w.heap.size 31 3 v3 L.length (cellsC L) ∧ L.length ≤ 21 := by
  go_enter Try.func33, Try.ntmps33
  go_wp2_with fail
  refine (open_any A c z _ h.reads h.byte h.cap h.room).mono ?_
  rintro e w2 ⟨g, c2, A2, z2, rfl, hg, hb2, hr2⟩
  have hlt := hr2.lt
  go_wp2_with fail
  refine (drawGood_any g c2 0 A2 z2 _ hr2 (by omega)).mono ?_
  rintro e w3 ⟨v1, v2, ids, l, rfl, ho1, ho2, hl1, hl2, ⟨p3, hp3, hr3⟩, hg3⟩
  obtain ⟨A5, c5, hv5, _, _⟩ := Reads.of_own ho1
  subst hv5
  have K := Lib.hid (And.intro ho1 (And.intro ho2 (And.intro hr3 hg3)))
  clear ho1 ho2 hr3 hg3
  go_wp2_with fail
  refine (drawNear_any g c2 p3 A2 z2 w2 w3 A5 c5 ids K.out.2.2.1 (by omega) hlt K.out.1 hl1).mono ?_
  rintro e w4 ⟨v4, L, rfl, ho4, hl4, hd4⟩
  have hs3 := K.out.2.2.2.size
  have K4 := Lib.hid (And.intro (own_drawn K.out.1 hd4.grown hlt) (And.intro (own_drawn K.out.2.1 hd4.grown hlt) (And.intro (K.out.2.2.2.trans hd4.grown) ho4)))
  clear ho4 hd4 hr2
  go_wp2_with fail
  go_ret3
  obtain ⟨h1, h2, h4, h5⟩ := K4.out
  exact ⟨_, v2, v4, ids, l, L, rfl, ⟨own_less h1 hb2.size, own_less h2 hb2.size, hl1, hl2, grown_below h4 hb2 hg⟩, own_less h5 (Nat.le_trans hb2.size hs3), hl4⟩
end Go.Proofs.Ytopdmcnbchpihaa
