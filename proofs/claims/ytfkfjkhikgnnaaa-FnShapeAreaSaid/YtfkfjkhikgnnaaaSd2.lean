/- The laws draw a shape. -/
import Derived.Test.YtfkfjkhikgnnaaaSd1
namespace Go.Proofs.Ytfkfjkhikgnnaaa
open Go.RowKit

theorem own_freshS {w : World} {base e : Nat} (L : List Sp) (hb : base ≤ w.heap.size) (hm : L.length ≤ 1000) : (w.alloc (.cells (cellsS L).toArray e)).ownsRow base e 2 (.slice (some ⟨w.heap.size, 0, none⟩) L.length L.length) L.length (cellsS L) :=
  ⟨by rw [length_cellsS], .inr ⟨_, L.length, (cellsS L).toArray, rfl, hb, heap_alloc_new _ _, Nat.le_refl _, by unfold maxLen; omega, by simp [length_cellsS], by rw [List.take_of_length_le (by simp [length_cellsS])]⟩⟩
theorem cellsS_front (S : List Sp) (j : Nat) : (cellsS S).take (j * 2) = cellsS (S.take j) := by
  have h : cellsS S = cellsS (S.take j) ++ cellsS (S.drop j) := by rw [← cellsS_append, List.take_append_drop]
  rcases Nat.lt_or_ge j S.length with h1 | h1
  · rw [h, List.take_append_of_le_length (by rw [length_cellsS, List.length_take]; omega)]
    exact List.take_of_length_le (by rw [length_cellsS, List.length_take]; omega)
  · rw [List.take_of_length_le (l := S) h1]
    exact List.take_of_length_le (by rw [length_cellsS]; omega)
theorem own_takeS {w : World} {base e g n m cap : Nat} {L : List Sp} (h : w.ownsRow base e 2 (.slice (some ⟨g, 0, none⟩) n cap) n (cellsS L)) (hm : m ≤ n) : w.ownsRow base e 2 (.slice (some ⟨g, 0, none⟩) m cap) m (cellsS (L.take m)) := by
  obtain ⟨h1, h2⟩ := h
  refine ⟨by rw [length_cellsS] at *; rw [List.length_take]; omega, ?_⟩
  rcases h2 with ⟨hn, _⟩ | ⟨g2, cap2, cur, hv, hbg, hgb, hcap, hmax, hsz, htk⟩
  · cases hn
  · injection hv with e1 e2 e3
    injection e1 with e1
    injection e1 with e1 _ _
    subst e1 e3
    exact .inr ⟨_, _, cur, rfl, hbg, hgb, by omega, hmax, hsz, by rw [← cellsS_front, ← htk, List.take_take]; congr 1; omega⟩
theorem own_storeX {w : World} {base e g n cap : Nat} {l : List Sp} (h : w.ownsRow base e 2 (.slice (some ⟨g, 0, none⟩) n cap) n (cellsS l)) {k : Nat} (hk : k < l.length) {u : Sp} (hu : l[k]? = some u) (a : Int) :
    (w.setCell ⟨g, k * 2, none⟩ (.int .i64 a)).ownsRow base e 2 (.slice (some ⟨g, 0, none⟩) n cap) n (cellsS (l.set k ⟨a, u.hi⟩)) := by
  have h1 := (h.stored (k * 2) (.int .i64 a)).1
  have e1 : (cellsS l).set (k * 2) (.int .i64 a) = cellsS (l.set k ⟨a, u.hi⟩) := by
    rw [← cellsS_set l k hk ⟨a, u.hi⟩]
    have h2 := (cellsS_at l k u hu).2
    rw [← List.getElem?_set_ne (l := cellsS l) (i := k * 2) (a := .int .i64 a) (by omega)] at h2
    obtain ⟨h3, h4⟩ := List.getElem?_eq_some_iff.1 h2
    rw [← h4, List.set_getElem_self]
  rw [e1] at h1
  exact h1
def DrawShPost (w : World) (g c p : Nat) (A : Option Addr) (z : List Int) (e : Ending) (w2 : World) : Prop :=
  ∃ (v : Value) (L : List Sp), e = .returned v ∧ w2.ownsRow w.heap.size 27 2 v L.length (cellsS L) ∧ L.length ≤ 8 ∧ Drawn w g A z c p 12 w2
set_option maxHeartbeats 9000000 in
set_option maxRecDepth 100000 in
theorem drawSh_any (g c p : Nat) (A : Option Addr) (z : List Int) (w : World) (h : Rd w g A z c p) (hp : p ≤ 700000) :
    Calls Try.prog 45 #[.pointer (some ⟨g, 0, none⟩)] w (DrawShPost w g c p A z) := by
  have hlt := h.lt
  go_enter Try.func45, Try.ntmps45
  go_wp2_with fail
  refine (pick_any g c p A z _ _ h (by omega) (by omega)).mono ?_
  rintro e w2 ⟨x, rfl, a2, b2, _, hr2, hg2⟩
  have b2 := b2 (by omega)
  go_wp2_with fail
  refine (pick_any g c _ A z _ _ hr2 (by omega) (by omega)).mono ?_
  rintro e w3 ⟨y, rfl, a3, b3, _, hr3, hg3⟩
  have b3 := b3 (by omega)
  go_wp2_with fail
  refine (pick_any g c _ A z _ _ hr3 (by omega) (by omega)).mono ?_
  rintro e w4 ⟨r4, rfl, a4, b4, _, hr4, hg4⟩
  have b4 := b4 (by omega)
  obtain ⟨wd, hwd⟩ : ∃ wd, 2 + r4 = wd := ⟨_, rfl⟩
  have hwdw : IntKind.i64.wrap wd = wd := by rw [IntKind.wrap_i64]; omega
  go_wp2_with fail
  refine (pick_any g c _ A z _ _ hr4 (by omega) (by omega)).mono ?_
  rintro e w5 ⟨r5, rfl, a5, b5, _, hr5, hg5⟩
  have b5 := b5 (by omega)
  obtain ⟨hi, hhi⟩ : ∃ hi, 2 + r5 = hi := ⟨_, rfl⟩
  have hhiw : IntKind.i64.wrap hi = hi := by rw [IntKind.wrap_i64]; omega
  have hg25 := ((hg2.trans hg3).trans hg4).trans hg5
  clear hr2 hr3 hr4 hg2 hg3 hg4 hg5
  go_wp2_with fail
  refine (corners_any g c _ A z wd hi _ hr5 (by omega) (by omega) (by omega)).mono ?_
  rintro e w6 ⟨v6, l, rfl, h6, h16, ho6, ⟨p6, hp6, hr6⟩, hg6⟩
  obtain ⟨D, cd, hv6, hcd, hrd⟩ := own_slice ho6
  subst hv6
  have hg26 := hg25.trans hg6
  go_wp2_with fail
  refine (points_any x y D cd l w6 hrd (by omega)).mono ?_
  rintro e w7 ⟨v7, L, rfl, hL, hb7, ho7⟩
  have K7 := Lib.hid (And.intro (own_less ho7 (show w.heap.size ≤ w6.heap.size from hg26.size)) (And.intro (hr6.step hb7) (hg26.trans (grown_of_below hb7 _))))
  clear hg25 hr5 hg6 ho6 hrd hg26 hb7 ho7 hr6 hcd
  have hL3 : 3 ≤ L.length := by omega
  have hL8 : L.length ≤ 8 := by omega
  clear hL h6 h16
  obtain ⟨gm, cm, hvm, hgm1, hgm2⟩ := K7.out.1.form (by omega)
  subst hvm
  go_wp2_with fail
  refine (pick_any g c _ A z _ _ K7.out.2.1 (by omega) (by omega)).mono ?_
  rintro e w8 ⟨r8, rfl, a8, b8, _, hr8, hg8⟩
  have b8 := b8 (by omega)
  go_wp2_with fail
  refine (pick_any g c _ A z _ _ hr8 (by omega) (by omega)).mono ?_
  rintro e w9 ⟨r9, rfl, a9, b9, _, hr9, hg9⟩
  have K9 := Lib.hid (And.intro (own_drawn (w0 := w) K7.out.1 (hg8.trans hg9) hlt) (And.intro hr9 (K7.out.2.2.trans (hg8.trans hg9))))
  clear hr8 hr9 hg8 hg9 b9
  obtain ⟨k, rfl⟩ := Int.eq_ofNat_of_zero_le a8
  have hk : k < L.length := by omega
  have hki : (k : Int) < (L.length : Int) := b8
  by_cases c0 : r9 = 0
  · subst c0
    go_wp2_with fail
    refine (pick_any g c _ A z _ _ K9.out.2.1 (by omega) (by omega)).mono ?_
    rintro e wa ⟨ra, rfl, aa, ba, _, hra, hga⟩
    have ba := ba (by omega)
    have hoa := own_drawn (w0 := w) K9.out.1 hga hlt
    have Ka := Lib.hid (And.intro hoa (And.intro hra (K9.out.2.2.trans hga)))
    obtain ⟨xs, hxs⟩ : ∃ xs, x + ra = xs := ⟨_, rfl⟩
    have hxw : IntKind.i64.wrap xs = xs := by rw [IntKind.wrap_i64]; omega
    obtain ⟨_, _, f0, f1⟩ := own_cellsS hoa (List.getElem?_eq_getElem hk)
    obtain ⟨d0, d1, _⟩ := own_cellsS hoa (List.getElem?_eq_getElem hk)
    clear hoa hra hga
    go_wp2_with fail
    go_ret
    have hst := own_store2 Ka.out.1 hk ⟨xs, y⟩
    refine ⟨_, L.set k ⟨xs, y⟩, rfl, by rw [List.length_set]; exact hst, by rw [List.length_set]; exact hL8, ⟨⟨p6 + 1 + 1 + 1, by omega, ?_⟩, ?_⟩⟩
    · repeat (first | exact Ka.out.2.1 | refine Rd.set ?_ (by simp; try omega) _)
    · repeat (first | exact Ka.out.2.2 | refine grown_new ?_ (by simp; try omega) _)
  · have e0 : (r9 == 0) = false := by rw [beq_eq_false_iff_ne]; omega
    by_cases c1 : r9 = 1
    · subst c1
      have hs9 := K9.out.2.2.size
      have hg9 : g < w9.heap.size := by omega
      have hnb : ¬ w9.heap.size = g := by omega
      have hgm9 : gm < w9.heap.size := (K9.out.1.lt gm rfl).2
      go_wp2_with fail
      refine (pick_any g c _ A z _ _ (K9.out.2.1.step ((Below.refl _ _).alloc (Nat.le_refl _) _)) (by omega) (by omega)).mono ?_
      rintro e wc ⟨rc, rfl, ac, bc, _, hrc, hgc⟩
      have bc := bc (by omega)
      have Mc := Lib.hid (row_keep hgc (heap_alloc_new w9 (.cells #[.int .i64 (-1), .int .i64 99, .int .i64 100] 3)) hnb)
      have hoc := own_drawn (w0 := w) (K9.out.1.alloc (.cells #[.int .i64 (-1), .int .i64 99, .int .i64 100] 3)) hgc hlt
      have Kc := Lib.hid (And.intro hoc (And.intro hrc ((grown_alloc K9.out.2.2 _).trans hgc)))
      clear hgc hrc
      obtain ⟨u, hu⟩ : ∃ u, L[k]? = some u := ⟨_, List.getElem?_eq_getElem hk⟩
      obtain ⟨_, _, f0, f1⟩ := own_cellsS hoc hu
      obtain ⟨d0, d1, _⟩ := own_cellsS hoc hu
      clear hoc
      have fin : ∀ a : Int, DrawShPost w g c p A z (.returned (.slice (some ⟨gm, 0, none⟩) L.length cm)) (wc.setCell ⟨gm, k * 2, none⟩ (.int .i64 a)) := by
        intro a
        refine ⟨_, L.set k ⟨a, u.hi⟩, rfl, by rw [List.length_set]; exact own_storeX Kc.out.1 hk hu a, by rw [List.length_set]; exact hL8, ⟨⟨p6 + 1 + 1 + 1, by omega, ?_⟩, ?_⟩⟩
        · exact Rd.set Kc.out.2.1 (by show g < gm; omega) _
        · exact grown_new Kc.out.2.2 (by show w.heap.size ≤ gm; omega) _
      have HF := Lib.hid fin
      clear fin hu
      have hcc : rc = 0 ∨ rc = 1 ∨ rc = 2 := by omega
      rcases hcc with rfl | rfl | rfl
      · have y0 : wc.cell? ⟨w9.heap.size, 0, none⟩ = some (.int .i64 (-1)) := cell_of_row _ _ 0 _ _ _ Mc.out
        go_wp2_with fail
        go_ret
        exact HF.out _
      · have y0 : wc.cell? ⟨w9.heap.size, 1, none⟩ = some (.int .i64 99) := cell_of_row _ _ 1 _ _ _ Mc.out
        go_wp2_with fail
        go_ret
        exact HF.out _
      · have y0 : wc.cell? ⟨w9.heap.size, 2, none⟩ = some (.int .i64 100) := cell_of_row _ _ 2 _ _ _ Mc.out
        go_wp2_with fail
        go_ret
        exact HF.out _
    · have e1 : (r9 == 1) = false := by rw [beq_eq_false_iff_ne]; omega
      by_cases c2 : r9 = 2
      · subst c2
        have hkc : (k : Int) ≤ (cm : Int) := by obtain ⟨_, _, h1, h2, _⟩ := own_slice K9.out.1; injection h1 with _ _ h1; omega
        go_wp2_with fail
        go_ret
        exact ⟨_, L.take k, rfl, by rw [List.length_take, Nat.min_eq_left (by omega)]; exact own_takeS K9.out.1 (by omega), by rw [List.length_take]; omega, ⟨⟨_, by omega, K9.out.2.1⟩, K9.out.2.2⟩⟩
      · have e2 : (r9 == 2) = false := by rw [beq_eq_false_iff_ne]; omega
        by_cases c3 : r9 = 3
        · subst c3
          have hl2 : (2 : Int) < (L.length : Int) := by omega
          have hl1 : (1 : Int) < (L.length : Int) := by omega
          have hl0 : (0 : Int) < (L.length : Int) := by omega
          obtain ⟨u0, h0⟩ : ∃ u, L[0]? = some u := ⟨_, List.getElem?_eq_getElem (by omega)⟩
          obtain ⟨u1, h1⟩ : ∃ u, L[1]? = some u := ⟨_, List.getElem?_eq_getElem (by omega)⟩
          obtain ⟨u2, h2⟩ : ∃ u, L[2]? = some u := ⟨_, List.getElem?_eq_getElem (by omega)⟩
          obtain ⟨d00, d01, _⟩ := own_cellsS K9.out.1 h0
          obtain ⟨d10, d11, _⟩ := own_cellsS K9.out.1 h1
          obtain ⟨d20, d21, _⟩ := own_cellsS K9.out.1 h2
          clear h0 h1 h2
          simp only [Nat.zero_mul, Nat.one_mul, Nat.zero_add, show 2 * 2 = 4 from rfl, show 4 + 1 = 5 from rfl, show 2 + 1 = 3 from rfl] at d00 d01 d10 d11 d20 d21
          go_wp2_with fail
          have hX := own_freshS (w := w9) (base := w.heap.size) (e := 27) [u2, u1, u0] K9.out.2.2.size (by simp)
          have fin : ∀ n, DrawShPost w g c p A z (.returned (.slice (some ⟨w9.heap.size, 0, none⟩) 3 3)) ((w9.drewN n).alloc (.cells (cellsS [u2, u1, u0]).toArray 27)) := by
            intro n
            have hb := (below_draws (Below.refl w9.heap.size w9) n).alloc (below_draws (Below.refl w9.heap.size w9) n).size (.cells (cellsS [u2, u1, u0]).toArray 27)
            exact ⟨_, [u2, u1, u0], rfl, own_freshS [u2, u1, u0] K9.out.2.2.size (by simp), by simp, ⟨⟨_, by omega, K9.out.2.1.step hb⟩, K9.out.2.2.trans (grown_of_below hb _)⟩⟩
          have HF := Lib.hid fin
          clear fin hX
          go_region
          all_goals (go_wp2_with fail)
          all_goals go_ret
          all_goals exact HF.out _
        · have e3 : (r9 == 3) = false := by rw [beq_eq_false_iff_ne]; omega
          go_wp2_with fail
          go_ret
          exact ⟨_, L, rfl, K9.out.1, hL8, ⟨⟨_, by omega, K9.out.2.1⟩, K9.out.2.2⟩⟩
end Go.Proofs.Ytfkfjkhikgnnaaa
