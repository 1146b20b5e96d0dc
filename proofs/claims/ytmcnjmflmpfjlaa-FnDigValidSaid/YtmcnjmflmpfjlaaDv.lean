/- The laws draw contexts, relations and an order that is often right. -/
import Derived.Test.YtmcnjmflmpfjlaaDz
import Derived.Test.YtmcnjmflmpfjlaaOm
import Derived.Test.YtmcnjmflmpfjlaaHh
namespace Go.Proofs.Ytmcnjmflmpfjlaa
open Go.RowKit

theorem cellsI_take (l : List Int) (k : Nat) : (cellsI l).take k = cellsI (l.take k) := by simp [cellsI, List.map_take]
set_option maxHeartbeats 8000000 in
set_option maxRecDepth 100000 in
theorem dDigVal_any (A : Option Addr) (c : Nat) (z : List Int) (w : World) (h : Bytes w A c z) :
    Calls Try.prog 35 #[.slice A z.length c] w fun e w2 => ∃ v1 v2 v3 ids l s, e = .returned (.tuple #[v1, v2, v3]) ∧ DrewT w v1 v2 v3 ids l s w2 := by
  go_enter Try.func35, Try.ntmps35
  go_wp2_with fail
  refine (open_any A c z _ h.reads h.byte h.cap h.room).mono ?_
  rintro e w2 ⟨g, c2, A2, z2, rfl, hg, hb2, hr2⟩
  have hgl := hr2.lt
  have HB := Lib.hid (And.intro hb2 hg)
  have hb2s := hb2.size
  clear h hb2 hg
  go_wp2_with fail
  refine (drawGood_any g c2 0 A2 z2 _ hr2 (by omega)).mono ?_
  rintro e w3 ⟨v1, v2, ids, l, rfl, ho1, ho2, hl1, hl2, ⟨p3, hp3, hr3⟩, hg3⟩
  obtain ⟨A3, c3, hv1, _, _⟩ := own_slice ho1
  obtain ⟨A4, c4, hv2, _, _⟩ := own_slice ho2
  subst hv1 hv2
  have hs3 := hg3.size
  have hlt1 : ∀ k, (Value.slice A3 ids.length c3).ownBlock = some k → k < w3.heap.size := fun k hk => (ho1.lt k hk).2
  have hlt2 : ∀ k, (Value.slice A4 l.length c4).ownBlock = some k → k < w3.heap.size := fun k hk => (ho2.lt k hk).2
  have K3 := Lib.hid (And.intro ho1 (And.intro ho2 (And.intro hg3 (And.intro hlt1 hlt2))))
  have hdo := sDigOrder_any A3 A4 c3 c4 ids l w3 (own_reads ho1) (own_reads ho2) (by omega) (by omega)
  have hml := digG_len ids l
  obtain ⟨m, hm⟩ : ∃ m, m = digG ids l := ⟨_, rfl⟩
  rw [← hm] at hdo hml
  clear ho1 ho2 hg3 hlt1 hlt2 hr2 hm
  go_wp2_with fail
  refine hdo.mono ?_
  rintro e w4 ⟨v4, rfl, hb4, ho4⟩
  have hr4 := hr3.step hb4
  have K4 := Lib.hid (And.intro (own_below K3.out.1 hb4) (And.intro (own_below K3.out.2.1 hb4) (And.intro ho4 (K3.out.2.2.1.trans (grown_of_below hb4 _)))))
  obtain ⟨A5, c5, hv4, hcap5, _⟩ := own_slice ho4
  subst hv4
  have hg3l : g < w3.heap.size := hr3.lt
  clear ho4 hb4 hr3 hdo
  -- the ways out
  have fin : ∀ (W : World) (v5 : Value) (s : List Int), W.ownsRow w2.heap.size 3 1 (.slice A3 ids.length c3) ids.length (cellsI ids) → W.ownsRow w2.heap.size 44 3 (.slice A4 l.length c4) l.length (cellsC l) → W.ownsRow w2.heap.size 3 1 v5 s.length (cellsI s) → s.length ≤ 13 → w2.grownBy W (some g) →
      DrewT w (.slice A3 ids.length c3) (.slice A4 l.length c4) v5 ids l s W := fun W v5 s h1 h2 h3 h4 h5 =>
    ⟨own_less h1 hb2s, own_less h2 hb2s, own_less h3 hb2s, hl1, hl2, h4, grown_below h5 HB.out.1 HB.out.2⟩
  have HF := Lib.hid fin
  clear fin
  by_cases h1 : m.length ≤ 1
  · have e0 : decide ((1 : Int) < (m.length : Int)) = false := decide_eq_false (by omega)
    have e00 : decide (1 < m.length) = false := decide_eq_false (by omega)
    clear h1
    go_wp2_with fail
    go_ret3
    exact ⟨_, _, _, ids, l, m, rfl, HF.out _ _ m K4.out.1 K4.out.2.1 (own_less K4.out.2.2.1 hs3) (by omega) K4.out.2.2.2⟩
  · have e0 : decide ((1 : Int) < (m.length : Int)) = true := decide_eq_true (by omega)
    have e00 : decide (1 < m.length) = true := decide_eq_true (by omega)
    have hm1 : 1 < m.length := by omega
    clear h1
    go_wp2_with fail
    refine (pick_any g c2 _ A2 z2 _ _ hr4 (by omega) (by omega)).mono ?_
    rintro e w5 ⟨r5, rfl, a5, b5, _, hr5, hg5⟩
    have b5 := b5 (by omega)
    have K5 := Lib.hid (And.intro (own_drawn (w0 := w2) K4.out.1 hg5 hgl) (And.intro (own_drawn (w0 := w2) K4.out.2.1 hg5 hgl) (And.intro (own_drawn (w0 := w3) K4.out.2.2.1 hg5 hg3l) (K4.out.2.2.2.trans hg5))))
    clear K4 hr4 hg5
    go_wp2_with fail
    refine (pick_any g c2 _ A2 z2 _ _ hr5 (by omega) (by omega)).mono ?_
    rintro e w6 ⟨r6, rfl, a6, b6, _, hr6, hg6⟩
    have b6 := b6 (by omega)
    have K6 := Lib.hid (And.intro (own_drawn (w0 := w2) K5.out.1 hg6 hgl) (And.intro (own_drawn (w0 := w2) K5.out.2.1 hg6 hgl) (And.intro (own_drawn (w0 := w3) K5.out.2.2.1 hg6 hg3l) (K5.out.2.2.2.trans hg6))))
    clear K5 hr5 hg6
    go_wp2_with fail
    refine (pick_any g c2 _ A2 z2 _ _ hr6 (by omega) (by omega)).mono ?_
    rintro e w7 ⟨r7, rfl, a7, b7, _, hr7, hg7⟩
    have b7 := b7 (by omega)
    have K7 := Lib.hid (And.intro (own_drawn (w0 := w2) K6.out.1 hg7 hgl) (And.intro (own_drawn (w0 := w2) K6.out.2.1 hg7 hgl) (And.intro (own_drawn (w0 := w3) K6.out.2.2.1 hg7 hg3l) (K6.out.2.2.2.trans hg7))))
    clear K6 hr6 hg7 hr7
    obtain ⟨i, rfl⟩ := Int.eq_ofNat_of_zero_le a5
    obtain ⟨j, rfl⟩ := Int.eq_ofNat_of_zero_le a6
    have hi : i < m.length := by omega
    have hj : j < m.length := by omega
    obtain ⟨gm, cm, hvm, hgm0, hgml⟩ := K7.out.2.2.1.form (by omega)
    injection hvm with e1 e2 e3
    subst e1 e3
    clear e2
    by_cases h01 : r7 = 0 ∨ r7 = 1
    · obtain ⟨x, hx⟩ : ∃ x, m[i]? = some x := ⟨_, List.getElem?_eq_getElem hi⟩
      obtain ⟨y, hy⟩ : ∃ y, m[j]? = some y := ⟨_, List.getElem?_eq_getElem hj⟩
      obtain ⟨f1, f2⟩ := own_cellI K7.out.2.2.1 hx
      obtain ⟨f3, f4⟩ := own_cellI K7.out.2.2.1 hy
      have hs := own_storeI (own_storeI K7.out.2.2.1 i y) j x
      have f5 : (w7.setCell ⟨gm, i, none⟩ (.int .i64 y)).frozen? ⟨gm, j, none⟩ = false := (own_storeI K7.out.2.2.1 i y).frozenAt j
      have ho1 : ((w7.setCell ⟨gm, i, none⟩ (.int .i64 y)).setCell ⟨gm, j, none⟩ (.int .i64 x)).ownsRow w2.heap.size 3 1 (.slice A3 ids.length c3) ids.length (cellsI ids) :=
        ownsRow_setCell_other (ownsRow_setCell_other K7.out.1 (fun e => by have := K3.out.2.2.2.1 _ e; simp at this; omega) _) (fun e => by have := K3.out.2.2.2.1 _ e; simp at this; omega) _
      have ho2 : ((w7.setCell ⟨gm, i, none⟩ (.int .i64 y)).setCell ⟨gm, j, none⟩ (.int .i64 x)).ownsRow w2.heap.size 44 3 (.slice A4 l.length c4) l.length (cellsC l) :=
        ownsRow_setCell_other (ownsRow_setCell_other K7.out.2.1 (fun e => by have := K3.out.2.2.2.2 _ e; simp at this; omega) _) (fun e => by have := K3.out.2.2.2.2 _ e; simp at this; omega) _
      have hgr : w2.grownBy ((w7.setCell ⟨gm, i, none⟩ (.int .i64 y)).setCell ⟨gm, j, none⟩ (.int .i64 x)) (some g) := grown_new (grown_new K7.out.2.2.2 (by simp; omega) _) (by simp; omega) _
      obtain ⟨s, hse⟩ : ∃ s, s = (m.set i y).set j x := ⟨_, rfl⟩
      have hsl : s.length = m.length := by rw [hse]; simp
      have hs2 : ((w7.setCell ⟨gm, i, none⟩ (.int .i64 y)).setCell ⟨gm, j, none⟩ (.int .i64 x)).ownsRow w3.heap.size 3 1 (.slice (some ⟨gm, 0, none⟩) m.length c5) s.length (cellsI s) := by
        rw [hsl, hse]
        exact hs
      have HX := Lib.hid (And.intro ho1 (And.intro ho2 (And.intro hs2 (And.intro hgr hsl))))
      have hii : (i : Int) < (m.length : Int) := by omega
      have hjj : (j : Int) < (m.length : Int) := by omega
      clear hx hy hs ho1 ho2 hgr hs2 hse hsl
      by_cases hij : i = j
      · subst hij
        have hxy : x = y := by
          rw [f1] at f3
          injection f3 with f3
          injection f3
        subst hxy
        rcases h01 with h0 | h0
        · have e5 : (r7 == 0) = true := by simp [h0]
          clear h0
          go_wp2_with fail
          go_ret3
          exact ⟨_, _, _, ids, l, s, rfl, HF.out _ _ s HX.out.1 HX.out.2.1 (own_less HX.out.2.2.1 hs3) (by have := HX.out.2.2.2.2; omega) HX.out.2.2.2.1⟩
        · have e5 : (r7 == 0) = false := by simp [h0]
          have e6 : (r7 == 1) = true := by simp [h0]
          clear h0
          go_wp2_with fail
          go_ret3
          exact ⟨_, _, _, ids, l, s, rfl, HF.out _ _ s HX.out.1 HX.out.2.1 (own_less HX.out.2.2.1 hs3) (by have := HX.out.2.2.2.2; omega) HX.out.2.2.2.1⟩
      · skip
        rcases h01 with h0 | h0
        · have e5 : (r7 == 0) = true := by simp [h0]
          clear h0
          go_wp2_with fail
          go_ret3
          exact ⟨_, _, _, ids, l, s, rfl, HF.out _ _ s HX.out.1 HX.out.2.1 (own_less HX.out.2.2.1 hs3) (by have := HX.out.2.2.2.2; omega) HX.out.2.2.2.1⟩
        · have e5 : (r7 == 0) = false := by simp [h0]
          have e6 : (r7 == 1) = true := by simp [h0]
          clear h0
          go_wp2_with fail
          go_ret3
          exact ⟨_, _, _, ids, l, s, rfl, HF.out _ _ s HX.out.1 HX.out.2.1 (own_less HX.out.2.2.1 hs3) (by have := HX.out.2.2.2.2; omega) HX.out.2.2.2.1⟩
    · have e5 : (r7 == 0) = false := by rw [beq_eq_false_iff_ne]; exact fun h => h01 (.inl h)
      have e6 : (r7 == 1) = false := by rw [beq_eq_false_iff_ne]; exact fun h => h01 (.inr h)
      by_cases h2 : r7 = 2
      · have e7 : (r7 == 2) = true := by simp [h2]
        have hic : (i : Int) ≤ (c5 : Int) := by omega
        have ht := own_take K7.out.2.2.1 (m := i) (by omega)
        rw [cellsI_take] at ht
        obtain ⟨q, hq⟩ : ∃ q, q = m.take i := ⟨_, rfl⟩
        have hil : q.length = i := by rw [hq, List.length_take]; omega
        rw [← hq] at ht
        have ht2 : w7.ownsRow w3.heap.size 3 1 (.slice (some ⟨gm, 0, none⟩) i c5) q.length (cellsI q) := by rw [hil]; exact ht
        have HX := Lib.hid (And.intro ht2 hil)
        clear h2 h01 ht ht2 hil hq
        go_wp2_with fail
        go_quiet (fail)
        go_wp2_with fail
        try simp only [Exit.inBlock, Exit.then]
        go_ret3
        exact ⟨_, _, _, ids, l, q, rfl, HF.out _ _ _ (own_below K7.out.1 (below_draws (Below.refl _ _) _)) (own_below K7.out.2.1 (below_draws (Below.refl _ _) _)) (own_less (own_below HX.out.1 (below_draws (Below.refl _ _) _)) hs3) (by have := HX.out.2; omega) (K7.out.2.2.2.trans (grown_of_below (below_draws (Below.refl _ _) _) _))⟩
      · have e7 : (r7 == 2) = false := by rw [beq_eq_false_iff_ne]; exact h2
        clear h2 h01
        go_wp2_with fail
        go_ret3
        exact ⟨_, _, _, ids, l, m, rfl, HF.out _ _ m K7.out.1 K7.out.2.1 (own_less K7.out.2.2.1 hs3) (by omega) K7.out.2.2.2⟩
end Go.Proofs.Ytmcnjmflmpfjlaa
