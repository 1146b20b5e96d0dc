/- The laws draw a shape and a point. -/
import Derived.Test.YtfkfjkhikgnnaaaSd3
namespace Go.Proofs.Ytfkfjkhikgnnaaa
open Go.RowKit
theorem own_set_P {w : World} {base e size n b off cap : Nat} {xs : List Value} (h : w.ownsRow base e size (.slice (some ⟨b, off, none⟩) n cap) n xs) {q : Addr} (hq : b ≠ q.block) (u : Value) : (w.setCell q u).ownsRow base e size (.slice (some ⟨b, off, none⟩) n cap) n xs := by
  have hg : w.grownBy (w.setCell q u) (some q.block) := ⟨rfl, rfl, rfl, by simp [World.setCell], fun k _ hk => heap_setCell_other w q k u (fun e => hk (by rw [e]))⟩
  exact h.kept hg (.inr (fun e => hq (by injection e)))
theorem keep2P {w : World} {g b o : Nat} {u0 u1 : Value} (h : ¬ b = g) : ((w.setCell ⟨g, 0, none⟩ u0).setCell ⟨g, 1, none⟩ u1).cell? ⟨b, o, none⟩ = w.cell? ⟨b, o, none⟩ := by
  refine World.cell?_of_block (w := w) (a := ⟨b, o, none⟩) ?_
  exact (heap_setCell_other _ _ b _ (by simpa using fun e => h e)).trans (heap_setCell_other _ _ b _ (by simpa using fun e => h e))
set_option maxHeartbeats 9000000 in
set_option maxRecDepth 100000 in
theorem dShHas_any (A : Option Addr) (c : Nat) (z : List Int) (w : World) (h : Bytes w A c z) :
    Calls Try.prog 29 #[.slice A z.length c] w fun e w2 => ∃ (v : Value) (L : List Sp) (p : Sp), e = .returned (.tuple #[v, .agg #[.int .i64 p.lo, .int .i64 p.hi]]) ∧ DrewP w v L w2 := by
  have hb0 := (Below.refl w.heap.size w).alloc (Nat.le_refl _) (.cells #[.int .i64 0, .int .i64 0] 27)
  have h1 := h.step hb0
  go_enter Try.func29, Try.ntmps29
  go_wp2_with fail
  refine (open_any A c z _ h1.reads h1.byte h1.cap h1.room).mono ?_
  rintro e w2 ⟨g, c2, A2, z2, rfl, hg, hb2, hr2⟩
  have m2 := (hb2.block w.heap.size (by simp)).trans (heap_alloc_new w (.cells #[.int .i64 0, .int .i64 0] 27))
  have hsg : w.heap.size < g := by simp at hg; omega
  have hne : ¬ w.heap.size = g := by omega
  have hlt := hr2.lt
  have hlow : w.heap.size < w2.heap.size := by omega
  go_wp2_with fail
  refine (drawSh_any g c2 0 A2 z2 _ hr2 (by omega)).mono ?_
  rintro e w3 ⟨v, L, rfl, ho3, hl, ⟨p3, hp3, hr3⟩, hg3⟩
  obtain ⟨Av, cv, hv, hcv, _⟩ := own_slice ho3
  subst hv
  go_wp2_with fail
  refine (pick_any g c2 _ A2 z2 _ _ hr3 (by omega) (by omega)).mono ?_
  rintro e w4 ⟨r4, rfl, a4, b4, _, hr4, hg4⟩
  go_wp2_with fail
  refine (pick_any g c2 _ A2 z2 _ _ hr4 (by omega) (by omega)).mono ?_
  rintro e w5 ⟨r5, rfl, a5, b5, _, hr5, hg5⟩
  have hg35 := (hg3.trans hg4).trans hg5
  have m5 := row_keep hg35 m2 hne
  have hb5 : Below w.heap.size w w5 := grown_below hg35 (below_step hb0 hb2) (Nat.le_trans hb0.size hg)
  have hs5 : w.heap.size < w5.heap.size := (Array.getElem?_eq_some_iff.1 m5).1
  have rows : ∀ W : World, W.heap[w.heap.size]? = some (.cells #[.int .i64 0, .int .i64 0] 27 (0, 0)) → W.cell? ⟨w.heap.size, 0, none⟩ = some (.int .i64 0) ∧ W.cell? ⟨w.heap.size, 1, none⟩ = some (.int .i64 0) ∧ W.frozen? ⟨w.heap.size, 0, none⟩ = false ∧ W.frozen? ⟨w.heap.size, 1, none⟩ = false := fun W m => ⟨cell_of_row _ _ 0 _ _ _ m, cell_of_row _ _ 1 _ _ _ m, frozen_of_row _ _ 0 _ _ m, frozen_of_row _ _ 1 _ _ m⟩
  have HR := Lib.hid rows
  clear rows
  have K5 := Lib.hid (And.intro (own_drawn (w0 := w2) ho3 (hg4.trans hg5) hlt) (And.intro hb5 (And.intro m5 hg35)))
  have HV := Lib.hid (fun q (hq : (Value.slice Av L.length cv).ownBlock = some q) => (K5.out.1.lt q hq).2)
  clear hr2 hr3 hr4 ho3 hg3 hg4 hg5 hg35 hb5 m2 m5 b4 b5
  by_cases hL1 : L.length ≤ 1
  · have e0 : decide ((1 : Int) < (L.length : Int)) = false := decide_eq_false (by omega)
    have hL1' : ¬ 1 < L.length := by omega
    clear hL1
    have mA := (heap_alloc_old w5 (.cells #[.int .i64 r4, .int .i64 r5] 27) hs5).trans K5.out.2.2.1
    obtain ⟨z0, z1, f0, f1⟩ := HR.out _ mA
    obtain ⟨y0, y1, g0, g1⟩ := HR.out _ K5.out.2.2.1
    clear mA
    go_wp2_with fail
    go_region
    all_goals (go_wp2_with fail)
    all_goals refine bodyPost_ret (v := .tuple #[.slice Av L.length cv, .agg #[.int .i64 r4, .int .i64 r5]]) (by simp [results, Try.results29, go_sem, *]) rfl ?_
    all_goals
      have bA := Below.setCell (p := ⟨w.heap.size, 1, none⟩) (Below.setCell (p := ⟨w.heap.size, 0, none⟩) K5.out.2.1 (Nat.le_refl _) (.int .i64 r4)) (Nat.le_refl _) (.int .i64 r5)
      have bD := below_step (bA.alloc bA.size (.cells #[.int .i64 r4, .int .i64 r5] 27)) (below_draws (Below.refl _ _) 1)
      exact ⟨_, L, ⟨r4, r5⟩, rfl, own_drewP (own_below ((ownsRow_setCell_below (ownsRow_setCell_below K5.out.1 hlow _) hlow _).alloc _) (below_draws (Below.refl _ _) 1)) hl bD⟩
  · have e0 : decide ((1 : Int) < (L.length : Int)) = true := decide_eq_true (by omega)
    have hL1' : 1 < L.length := by omega
    clear hL1
    go_wp2_with fail
    refine (pick_any g c2 _ A2 z2 _ _ (hr5.step ((Below.refl _ _).alloc (Nat.le_refl _) _)) (by omega) (by omega)).mono ?_
    rintro e w6 ⟨r6, rfl, a6, b6, _, hr6, hg6⟩
    have hg6lt : g < w5.heap.size := hr5.lt
    have mP : w6.heap[w5.heap.size]? = some (.cells #[.int .i64 r4, .int .i64 r5] 27 (0, 0)) := row_keep hg6 (heap_alloc_new w5 (.cells #[.int .i64 r4, .int .i64 r5] 27)) (by omega)
    have mR := row_keep hg6 ((heap_alloc_old w5 (.cells #[.int .i64 r4, .int .i64 r5] 27) hs5).trans K5.out.2.2.1) hne
    have ho6 := own_drawn (w0 := w2) (K5.out.1.alloc (.cells #[.int .i64 r4, .int .i64 r5] 27)) hg6 hlt
    have hb6 : Below w.heap.size w w6 := grown_below hg6 (K5.out.2.1.alloc (Nat.le_of_lt hs5) (.cells #[.int .i64 r4, .int .i64 r5] 27)) (by omega)
    have K6 := Lib.hid (And.intro ho6 (And.intro hb6 (And.intro mR mP)))
    have hs6 : w5.heap.size < w6.heap.size := (Array.getElem?_eq_some_iff.1 mP).1
    have hPR : ¬ w5.heap.size = w.heap.size := by omega
    have hRP : ¬ w.heap.size = w5.heap.size := by omega
    clear ho6 hb6 mR mP hg6 hr5 K5
    by_cases c6 : r6 = 0
    · subst c6
      obtain ⟨y0, y1, g0, g1⟩ := HR.out _ K6.out.2.2.1
      have q0 : w6.cell? ⟨w5.heap.size, 0, none⟩ = some (.int .i64 r4) := cell_of_row _ _ 0 _ _ _ K6.out.2.2.2
      have q1 : w6.cell? ⟨w5.heap.size, 1, none⟩ = some (.int .i64 r5) := cell_of_row _ _ 1 _ _ _ K6.out.2.2.2
      go_wp2_with fail
      go_region
      all_goals (go_wp2_with fail)
      all_goals refine bodyPost_ret (v := .tuple #[.slice Av L.length cv, .agg #[.int .i64 r4, .int .i64 r5]]) (by simp [results, Try.results29, go_sem, *]) rfl ?_
      all_goals
        have bA := Below.setCell (p := ⟨w.heap.size, 1, none⟩) (Below.setCell (p := ⟨w.heap.size, 0, none⟩) K6.out.2.1 (Nat.le_refl _) (.int .i64 r4)) (Nat.le_refl _) (.int .i64 r5)
        exact ⟨_, L, ⟨r4, r5⟩, rfl, own_drewP (own_below (ownsRow_setCell_below (ownsRow_setCell_below K6.out.1 hlow _) hlow _) (below_draws (Below.refl _ _) 1)) hl (below_step bA (below_draws (Below.refl _ _) 1))⟩
    · have e6 : decide (0 < r6) = true := decide_eq_true (by omega)
      go_wp2_with fail
      refine (pick_any g c2 _ A2 z2 _ _ hr6 (by omega) (by omega)).mono ?_
      rintro e w7 ⟨r7, rfl, a7, b7, _, hr7, hg7⟩
      have b7 := b7 (by omega)
      obtain ⟨k, rfl⟩ := Int.eq_ofNat_of_zero_le a7
      have hk : k < L.length := by omega
      obtain ⟨u, hu⟩ : ∃ u, L[k]? = some u := ⟨_, List.getElem?_eq_getElem hk⟩
      have ho7 := own_drawn (w0 := w2) K6.out.1 hg7 hlt
      obtain ⟨b, off, hA, hbb, hc7⟩ := (own_reads ho7).sp (by omega)
      subst hA
      obtain ⟨d0, d1⟩ := hc7 k u hu
      have K7 := Lib.hid (And.intro ho7 (And.intro (grown_below hg7 K6.out.2.1 (by omega)) (And.intro (row_keep hg7 K6.out.2.2.1 hne) (row_keep hg7 K6.out.2.2.2 (by omega)))))
      have hs7 : w5.heap.size < w7.heap.size := (Array.getElem?_eq_some_iff.1 K7.out.2.2.2).1
      clear ho7 hc7 hg7 hr6 K6 hu
      go_wp2_with fail
      refine (pick_any g c2 _ A2 z2 _ _ (hr7.step ((Below.refl _ _).alloc (Nat.le_refl _) _)) (by omega) (by omega)).mono ?_
      rintro e w8 ⟨r8, rfl, a8, b8, _, hr8, hg8⟩
      have b8 := b8 (by omega)
      obtain ⟨m, rfl⟩ := Int.eq_ofNat_of_zero_le a8
      have hm : m < L.length := by omega
      obtain ⟨t, ht⟩ : ∃ t, L[m]? = some t := ⟨_, List.getElem?_eq_getElem hm⟩
      have hg7lt : g < w7.heap.size := hr7.lt
      have ho8 := own_drawn (w0 := w2) (K7.out.1.alloc (.cells #[.int .i64 u.lo, .int .i64 u.hi] 27)) hg8 hlt
      obtain ⟨b', off', hA, _, hc8⟩ := (own_reads ho8).sp (by omega)
      injection hA with hA
      injection hA with eb eo
      subst eb eo
      obtain ⟨d0, d1⟩ := hc8 m t ht
      have mA : w8.heap[w7.heap.size]? = some (.cells #[.int .i64 u.lo, .int .i64 u.hi] 27 (0, 0)) := row_keep hg8 (heap_alloc_new w7 (.cells #[.int .i64 u.lo, .int .i64 u.hi] 27)) (by omega)
      have mR := row_keep hg8 ((heap_alloc_old w7 (.cells #[.int .i64 u.lo, .int .i64 u.hi] 27) (by omega)).trans K7.out.2.2.1) hne
      have mP := row_keep hg8 ((heap_alloc_old w7 (.cells #[.int .i64 u.lo, .int .i64 u.hi] 27) hs7).trans K7.out.2.2.2) (by omega)
      have hb8 : Below w.heap.size w w8 := grown_below hg8 (K7.out.2.1.alloc (by omega) (.cells #[.int .i64 u.lo, .int .i64 u.hi] 27)) (by omega)
      have hs8 : w7.heap.size < w8.heap.size := (Array.getElem?_eq_some_iff.1 mA).1
      have K8 := Lib.hid (And.intro ho8 (And.intro hb8 (And.intro mR (And.intro mP (And.intro mA hr8)))))
      clear ho8 hc8 hg8 hr7 K7 ht mA mR mP hb8 hr8
      go_wp2_with fail
      have mB : (w8.alloc (.cells #[.int .i64 t.lo, .int .i64 t.hi] 27)).heap[w8.heap.size]? = some (.cells #[.int .i64 t.lo, .int .i64 t.hi] 27 (0, 0)) := heap_alloc_new _ _
      have bX : Below w8.heap.size w8 (w8.alloc (.cells #[.int .i64 t.lo, .int .i64 t.hi] 27)) := (Below.refl _ _).alloc (Nat.le_refl _) _
      generalize w8.alloc (.cells #[.int .i64 t.lo, .int .i64 t.hi] 27) = W at mB bX ⊢
      have bX1 := below_step bX (below_draws (Below.refl W.heap.size W) 1)
      have hs9 : w8.heap.size < W.heap.size := (Array.getElem?_eq_some_iff.1 mB).1
      have mB1 := ((below_draws (Below.refl W.heap.size W) 1).block _ hs9).trans mB
      have mA1 := (bX1.block _ hs8).trans K8.out.2.2.2.2.1
      have mP1 := (bX1.block _ (Nat.lt_trans hs7 hs8)).trans K8.out.2.2.2.1
      have mR1 := (bX1.block _ (by omega)).trans K8.out.2.2.1
      have ho1 := own_below K8.out.1 bX1
      have hb1 := below_step K8.out.2.1 bX1
      obtain ⟨q, hq, hr1⟩ : ∃ q, q ≤ 1000 ∧ Rd W.drew g A2 z2 c2 q := ⟨_, by omega, K8.out.2.2.2.2.2.step bX1⟩
      have G1 := Lib.hid (And.intro ho1 (And.intro hb1 (And.intro mR1 (And.intro mP1 (And.intro mA1 (And.intro mB1 hr1))))))
      have abs : ∀ V : World, V.heap[w7.heap.size]? = some (.cells #[.int .i64 u.lo, .int .i64 u.hi] 27 (0, 0)) → V.heap[w8.heap.size]? = some (.cells #[.int .i64 t.lo, .int .i64 t.hi] 27 (0, 0)) → V.cell? ⟨w7.heap.size, 0, none⟩ = some (.int .i64 u.lo) ∧ V.cell? ⟨w7.heap.size, 1, none⟩ = some (.int .i64 u.hi) ∧ V.cell? ⟨w8.heap.size, 0, none⟩ = some (.int .i64 t.lo) ∧ V.cell? ⟨w8.heap.size, 1, none⟩ = some (.int .i64 t.hi) := fun V h h' => ⟨cell_of_row _ _ 0 _ _ _ h, cell_of_row _ _ 1 _ _ _ h, cell_of_row _ _ 0 _ _ _ h', cell_of_row _ _ 1 _ _ _ h'⟩
      have s0 := abs _ (((bX.block _ hs8).trans K8.out.2.2.2.2.1)) mB
      have s1 := abs _ mA1 mB1
      have HA := Lib.hid abs
      obtain ⟨e0, e1, e2, e3⟩ := s0
      clear ho1 hb1 mR1 mP1 mA1 mB1 hr1 abs mB bX bX1 K8
      obtain ⟨xs, hxs⟩ : ∃ xs, IntKind.i64.wrap (u.lo + t.lo) = xs := ⟨_, rfl⟩
      obtain ⟨ys, hys⟩ : ∃ ys, IntKind.i64.wrap (u.hi + t.hi) = ys := ⟨_, rfl⟩
      obtain ⟨xq, hxq⟩ : ∃ xq, IntKind.i64.wrap (xs.tdiv 2) = xq := ⟨_, rfl⟩
      obtain ⟨yq, hyq⟩ : ∃ yq, IntKind.i64.wrap (ys.tdiv 2) = yq := ⟨_, rfl⟩
      go_region_held3 (fun V => V.cell? ⟨w7.heap.size, 0, none⟩ = some (.int .i64 u.lo) ∧ V.cell? ⟨w7.heap.size, 1, none⟩ = some (.int .i64 u.hi) ∧ V.cell? ⟨w8.heap.size, 0, none⟩ = some (.int .i64 t.lo) ∧ V.cell? ⟨w8.heap.size, 1, none⟩ = some (.int .i64 t.hi))
        (first
          | assumption
          | exact ⟨e0, e1, e2, e3⟩
          | exact s1
          | exact s9
          | exact s10
          | exact HT.out _ _)
        (first
          | (go_at_call 55
             with_reducible refine (pick_any g c2 q A2 z2 3 _ G1.out.2.2.2.2.2.2 (by omega) (by omega)).mono ?_
             rintro e w9 ⟨r9, rfl, a9, b9, _, hr9, hg9⟩
             have s9 := HA.out _ (row_keep hg9 G1.out.2.2.2.2.1 (by omega)) (row_keep hg9 G1.out.2.2.2.2.2.1 (by omega))
             have K9 := Lib.hid (And.intro hr9 hg9)
             obtain ⟨xr, hxr⟩ : ∃ xr, IntKind.i64.wrap (xq + r9) = xr := ⟨_, rfl⟩
             obtain ⟨xf, hxf⟩ : ∃ xf, IntKind.i64.wrap (xr - 1) = xf := ⟨_, rfl⟩
             clear hr9 hg9)
          | (go_at_call 55
             go_must (with_reducible refine (pick_any g c2 (q + 1) A2 z2 3 _ K9.out.1 (by omega) (by omega)).mono ?_)
             rintro e w10 ⟨r10, rfl, a10, b10, _, hr10, hg10⟩
             have hg := K9.out.2.trans hg10
             have s10 := HA.out _ (row_keep hg G1.out.2.2.2.2.1 (by omega)) (row_keep hg G1.out.2.2.2.2.2.1 (by omega))
             have mP := row_keep hg G1.out.2.2.2.1 (by omega)
             have q0 : w10.cell? ⟨w5.heap.size, 0, none⟩ = some (.int .i64 r4) := cell_of_row _ _ 0 _ _ _ mP
             have q1 : w10.cell? ⟨w5.heap.size, 1, none⟩ = some (.int .i64 r5) := cell_of_row _ _ 1 _ _ _ mP
             have qf0 := frozen_of_row _ _ 0 _ _ mP
             have qf1 := frozen_of_row _ _ 1 _ _ mP
             have HT := Lib.hid (fun (a b : Value) => And.intro ((keep2P (w := w10) (g := w5.heap.size) (b := w7.heap.size) (o := 0) (u0 := a) (u1 := b) (by omega)).trans s10.1) (And.intro ((keep2P (w := w10) (g := w5.heap.size) (b := w7.heap.size) (o := 1) (u0 := a) (u1 := b) (by omega)).trans s10.2.1) (And.intro ((keep2P (w := w10) (g := w5.heap.size) (b := w8.heap.size) (o := 0) (u0 := a) (u1 := b) (by omega)).trans s10.2.2.1) ((keep2P (w := w10) (g := w5.heap.size) (b := w8.heap.size) (o := 1) (u0 := a) (u1 := b) (by omega)).trans s10.2.2.2))))
             have K10 := Lib.hid (And.intro hg mP)
             obtain ⟨yr, hyr⟩ : ∃ yr, IntKind.i64.wrap (yq + r10) = yr := ⟨_, rfl⟩
             obtain ⟨yf, hyf⟩ : ∃ yf, IntKind.i64.wrap (yr - 1) = yf := ⟨_, rfl⟩
             clear hr10 hg10 hg mP))
      have hbP : b < w5.heap.size := HV.out b rfl
      have oV : ((w10.setCell ⟨w5.heap.size, 0, none⟩ (.int .i64 xf)).setCell ⟨w5.heap.size, 1, none⟩ (.int .i64 yf)).ownsRow w2.heap.size 27 2 (.slice (some ⟨b, off, none⟩) L.length cv) L.length (cellsS L) := by
        have h0 := own_drawn (w0 := w2) G1.out.1 K10.out.1 hlt
        exact own_set_P (own_set_P h0 (by show b ≠ w5.heap.size; omega) _) (by show b ≠ w5.heap.size; omega) _
      have bV : Below w.heap.size w ((w10.setCell ⟨w5.heap.size, 0, none⟩ (.int .i64 xf)).setCell ⟨w5.heap.size, 1, none⟩ (.int .i64 yf)) :=
        Below.setCell (Below.setCell (grown_below K10.out.1 G1.out.2.1 (by omega)) (by show w.heap.size ≤ w5.heap.size; omega) _) (by show w.heap.size ≤ w5.heap.size; omega) _
      have mR := row_keep K10.out.1 G1.out.2.2.1 hne
      have mRV : ((w10.setCell ⟨w5.heap.size, 0, none⟩ (.int .i64 xf)).setCell ⟨w5.heap.size, 1, none⟩ (.int .i64 yf)).heap[w.heap.size]? = some (.cells #[.int .i64 0, .int .i64 0] 27 (0, 0)) :=
        (heap_setCell_other _ _ _ _ (by show ¬ w.heap.size = w5.heap.size; omega)).trans ((heap_setCell_other _ _ _ _ (by show ¬ w.heap.size = w5.heap.size; omega)).trans mR)
      have mPV : ((w10.setCell ⟨w5.heap.size, 0, none⟩ (.int .i64 xf)).setCell ⟨w5.heap.size, 1, none⟩ (.int .i64 yf)).heap[w5.heap.size]? = some (.cells #[.int .i64 xf, .int .i64 yf] 27 (0, 0)) := by
        rw [heap_setCell_same _ _ _ _ _ _ (by rw [heap_setCell_same _ _ _ _ _ _ K10.out.2])]
        rfl
      generalize (w10.setCell ⟨w5.heap.size, 0, none⟩ (.int .i64 xf)).setCell ⟨w5.heap.size, 1, none⟩ (.int .i64 yf) = V at oV bV mRV mPV ⊢
      obtain ⟨y0, y1, g0, g1⟩ := HR.out _ mRV
      have q0 : V.cell? ⟨w5.heap.size, 0, none⟩ = some (.int .i64 xf) := cell_of_row _ _ 0 _ _ _ mPV
      have q1 : V.cell? ⟨w5.heap.size, 1, none⟩ = some (.int .i64 yf) := cell_of_row _ _ 1 _ _ _ mPV
      have KV := Lib.hid (And.intro oV bV)
      clear oV bV mRV mPV mR K10 HT HA s9 s10
      go_wp2_with fail
      go_region
      all_goals (go_wp2_with fail)
      all_goals refine bodyPost_ret (v := .tuple #[.slice (some ⟨b, off, none⟩) L.length cv, .agg #[.int .i64 xf, .int .i64 yf]]) (by simp [results, Try.results29, go_sem, *]) rfl ?_
      all_goals
        have bA := Below.setCell (p := ⟨w.heap.size, 1, none⟩) (Below.setCell (p := ⟨w.heap.size, 0, none⟩) KV.out.2 (Nat.le_refl _) (.int .i64 xf)) (Nat.le_refl _) (.int .i64 yf)
        exact ⟨_, L, ⟨xf, yf⟩, rfl, own_drewP (own_below (ownsRow_setCell_below (ownsRow_setCell_below KV.out.1 hlow _) hlow _) (below_draws (Below.refl _ _) 1)) hl (below_step bA (below_draws (Below.refl _ _) 1))⟩
end Go.Proofs.Ytfkfjkhikgnnaaa
