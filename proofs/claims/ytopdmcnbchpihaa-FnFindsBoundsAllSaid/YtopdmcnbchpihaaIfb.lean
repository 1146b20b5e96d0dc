/- The bounds that the program finds. -/
import Derived.Test.YtopdmcnbchpihaaIfa
import Derived.Test.YtopdmcnbchpihaaIfc
import Derived.Test.YtopdmcnbchpihaaIfg
import Derived.Test.YtopdmcnbchpihaaTt
import Derived.Test.YtopdmcnbchpihaaIb1
import Derived.Test.YtopdmcnbchpihaaYy
import Derived.Deep.RegionLaw
namespace Go.Proofs.Ytopdmcnbchpihaa
open Go.RowKit

set_option maxHeartbeats 8000000 in
set_option maxRecDepth 100000 in
theorem iFindsBounds_any (D : Option Addr) (cd : Nat) (L : List Ctx) (w : World) (hd : Reads w w.heap.size 3 D L.length (cellsC L)) (hL : L.length ≤ 1000000000) :
    Calls Try.prog 17 #[.slice D L.length cd] w (PairB w (fbG L) (fbOk L)) := by
  have hV := iFindsValid_any D cd L w hd (by omega)
  cases h1 : validF L
  · have hno : fbOk L = false := by simp [fbOk, h1]
    rw [h1] at hV
    have H := Lib.hid (And.intro hV (And.intro (fbG_no hno) hno))
    clear hd hV h1 hno
    go_enter Try.func17, Try.ntmps17
    go_wp2_with (go_at_call 31; go_must (refine H.out.1.mono ?_); rintro e w2 ⟨rfl, k2⟩)
    go_ret2
    exact pairB_mk H.out.2 k2 (World.ownsRow_nil _ _ _ _)
  · rw [h1] at hV
    have hL20 := (validF_ok h1).2
    have hC := fun (W : World) (hW : Below w.heap.size w W) => fctx_any D cd L W (hd.step hW) hL
    have hfew := ctxF_few h1
    obtain ⟨X, hX⟩ : ∃ X, X = ctxF L := ⟨_, rfl⟩
    have hXl : X.length ≤ 20 := by rw [hX]; exact Nat.le_trans (ctxF_len L) hL20
    simp only [← hX] at hC hfew
    have H := Lib.hid (And.intro hV (And.intro hC (And.intro hd (And.intro h1 (And.intro hX hfew)))))
    clear hV hC hd h1 hX hfew
    by_cases h12 : X.length ≤ 12
    · have e12 : decide ((12 : Int) < (X.length : Int)) = false := decide_eq_false (by omega)
      have hok : fbOk L = true := by rw [H.out.2.2.2.2.2]; exact decide_eq_true h12
      have HOK := Lib.hid hok
      clear hok
      go_enter Try.func17, Try.ntmps17
      go_wp2_with (first
        | (go_at_call 31; go_must (refine H.out.1.mono ?_); rintro e w1 ⟨rfl, k1⟩)
        | (go_at_call 63; go_must (refine (H.out.2.1 _ k1).mono ?_); rintro e w2 ⟨v2, rfl, k2, o2⟩
           obtain ⟨A2, c2, hv2, _, hr2⟩ := Reads.of_own o2
           subst hv2
           have K2 := Lib.hid (And.intro (below_step k1 k2) hr2)
           clear k1 k2 o2 hr2)
        | (go_at_call 62; go_must (refine (newR_any A2 X.length c2 w2 (by omega)).mono ?_); rintro e w3 ⟨g, rfl, k3, o3⟩
           have hgl := o3.lt g rfl
           have hs23 := k3.size
           obtain ⟨W4, hW4⟩ : ∃ W4, W4 = w3.alloc (.cells #[.slice A2 X.length c2, .slice (some ⟨g, 0, none⟩) X.length X.length] 87) := ⟨_, rfl⟩
           have b4 : Below w3.heap.size w3 W4 := by rw [hW4]; exact (Below.refl w3.heap.size w3).alloc (Nat.le_refl _) _
           have hs4 : w3.heap.size < W4.heap.size := by rw [hW4]; simp
           have ht4 : W4.heap[w3.heap.size]? = some (.cells #[.slice A2 X.length c2, .slice (some ⟨g, 0, none⟩) X.length X.length] 87 (0, 0)) := by rw [hW4]; exact heap_alloc_new _ _
           have z0 := cell_of_row _ _ 0 _ _ _ ht4
           rw [hW4] at z0
           have HW4 := Lib.hid hW4
           have K4 := Lib.hid (And.intro (below_step k3 b4) (And.intro (own_below o3 b4) ht4))
           clear k3 o3 b4 ht4 hW4))
      rw [← HW4.out]
      clear z0
      have bW4 := below_step K2.out.1 K4.out.1
      have hdW4 := H.out.2.2.1.step bW4
      have hXp : X.Pairwise (· < ·) := by rw [H.out.2.2.2.2.1]; exact ctxF_pair L
      have hXm : ∀ f ∈ L, f.id ∈ X := fun f hf => by rw [H.out.2.2.2.2.1]; exact ctxF_mem.2 ⟨f, hf, rfl⟩
      have HR := Lib.hid (And.intro bW4 (And.intro hdW4 (And.intro hXp hXm)))
      clear bW4 hdW4 hXp hXm
      obtain ⟨i0, hi0, hz0, hz1, hz2⟩ := info_parts infoInt
      go_loopw [23] (fun c wr => ∃ (k : Nat) (vs : List Value), k ≤ L.length ∧ c = .int .i64 k ∧ W4.grownBy wr (some g) ∧ OwnV (Value.int .i64) wr w2.heap.size 3 29 (.slice (some ⟨g, 0, none⟩) X.length X.length) vs (yearsT X (L.take k)) ∧ ∀ (i : Nat) (u : Value) (g2 : Nat), vs[i]? = some u → u.ownBlock = some g2 → W4.heap.size ≤ g2) (fun c _ => L.length - (intOf c).toNat)
      case atStart =>
        refine ⟨0, List.replicate X.length (Value.slice none 0 0), Nat.zero_le _, rfl, World.grownBy.refl _ _, ?_, fun i u g2 hu hg2 => ?_⟩
        · rw [List.take_zero, yearsT_zero]
          exact OwnV.nils K4.out.2.1
        · have : u = .slice none 0 0 := List.eq_of_mem_replicate (List.mem_of_getElem? hu)
          rw [this] at hg2
          cases hg2
      case round =>
        obtain ⟨k, vs, hk, rfl, hgr, hov, hbk⟩ := hrel
        have hsz := hgr.size
        have bw := grown_below hgr K4.out.1 hgl.1
        have htw := (hgr.block _ hs4 (by intro e; injection e with e; omega)).trans K4.out.2.2
        by_cases hlt : k < L.length
        · have hkl : (k : Int) < (L.length : Int) := by omega
          obtain ⟨b, off, hA, hbb, hcc⟩ := (H.out.2.2.1.step (K2.out.1.trans (bw.mono K2.out.1.size))).ctx (by omega)
          subst hA
          obtain ⟨⟨xa, xb, xc⟩, hx⟩ : ∃ f, L[k]? = some f := ⟨_, List.getElem?_eq_getElem hlt⟩
          obtain ⟨c1, c2', c3⟩ := hcc k _ hx
          dsimp only at c1 c2' c3
          have hin : xa ∈ X := HR.out.2.2.2 _ (List.mem_of_getElem? hx)
          obtain ⟨p1, p2, p3⟩ := placeI_at hin
          have hrx := K2.out.2.step bw
          obtain ⟨W5, hW5⟩ : ∃ W5, W5 = wr.alloc (.cells #[.int .i64 xa, .int .i64 xb, .int .i64 xc] 31) := ⟨_, rfl⟩
          have b5 : Below wr.heap.size wr W5 := by rw [hW5]; exact (Below.refl wr.heap.size wr).alloc (Nat.le_refl _) _
          have hs5 : wr.heap.size < W5.heap.size := by rw [hW5]; simp
          have hf5 : W5.heap[wr.heap.size]? = some (.cells #[.int .i64 xa, .int .i64 xb, .int .i64 xc] 31 (0, 0)) := by rw [hW5]; exact heap_alloc_new _ _
          have t5 := (b5.block _ (by omega)).trans htw
          have z0 := cell_of_row _ _ 0 _ _ _ t5
          have z1 := cell_of_row _ _ 1 _ _ _ t5
          have y0 := cell_of_row _ _ 0 _ _ _ hf5
          have y2 := cell_of_row _ _ 2 _ _ _ hf5
          rw [hW5] at z0 z1 y0
          have hE := entR_yes A2 c2 g X.length X xa W5 (hrx.step b5) (by omega) hin
          have hnx := yearsT_next HR.out.2.2.1 hx p3
          dsimp only at hnx
          obtain ⟨q, hq⟩ : ∃ q, q = placeI X xa := ⟨_, rfl⟩
          rw [← hq] at hE p2 p3 hnx
          obtain ⟨r, hr⟩ : ∃ r, r = yearsF (L.take k) xa := ⟨_, rfl⟩
          have hrl : r.length ≤ 20 := by
            rw [hr]
            have := yearsF_len (L.take k) xa
            simp only [List.length_take] at this
            omega
          rw [← hr] at hnx
          obtain ⟨u, hu, hou⟩ := (hov.below b5).row q r (by rw [hr]; exact yearsT_at p3)
          have hob5 := own_base (base2 := W4.heap.size) hou (fun g2 hg2 => hbk q u g2 hu hg2)
          obtain ⟨Au, cu, hue, _, _⟩ := Reads.of_own hou
          have HU := Lib.hid hue
          have hvl : vs.length = X.length := by rw [hov.len, yearsT_len]
          have hout := (hov.below b5).out
          rw [yearsT_len] at hout
          have d1 := (hout.cellAt q (by omega)).trans hu
          have d2 := hout.frozenAt q
          have hgs : g < W5.heap.size := (hout.lt g rfl).2
          have hqlt : q < X.length := p2
          have HD := Lib.hid (And.intro d1 d2)
          have HM := Lib.hid (And.intro hE (And.intro hnx (And.intro (hov.below b5) (And.intro hu (And.intro hob5 (And.intro hbk (hgr.trans (grown_of_below b5 (some g)))))))))
          have arm : ∀ w6, Below W5.heap.size W5 w6 → w6.cell? ⟨wr.heap.size, 2, none⟩ = some (.int .i64 xc) ∧ w6.cell? ⟨g, q, none⟩ = some u ∧ w6.frozen? ⟨g, q, none⟩ = false := fun w6 k6 =>
            ⟨(k6.cell (p := ⟨wr.heap.size, 2, none⟩) hs5).trans y2, (k6.cell (p := ⟨g, q, none⟩) hgs).trans d1, (World.frozen?_of_block (w := W5) (a := ⟨g, q, none⟩) (k6.block _ hgs)).trans d2⟩
          have HA := Lib.hid arm
          clear arm hE hnx hov hou hob5 hbk hgr bw htw hcc t5 hf5 hrx hin p1 p2 p3 hq hr d1 d2 hout hu hue b5
          go_wp2_with (go_at_call 64; rw [← hW5]; go_must (refine HM.out.1.mono ?_); rintro e w6 ⟨rfl, k6⟩
                       obtain ⟨m1, m2, m3⟩ := HA.out w6 k6
                       have b6 : Below W5.heap.size W5 ((w6.drewN 1).alloc (.cells #[.int .i64 xc] 3)) := (below_draws k6 1).alloc k6.size _
                       have hs6 := k6.size
                       have m4 : (w6.alloc (.cells #[.int .i64 xc] 3)).cell? ⟨g, q, none⟩ = some u := (World.cell?_alloc_lt _ _ _ (by show g < w6.heap.size; omega)).trans m2
                       have XA := Lib.hid (And.intro b6 (And.intro (own_below HM.out.2.2.2.2.1 b6) (And.intro (HM.out.2.2.1.below b6) (reads_int (w := w6.drewN 1) (n := xc) (t := 3) (B := w6.heap.size + 1) (by simp [World.drewN])))))
                       have hbase : W4.heap.size ≤ ((w6.drewN 1).alloc (.cells #[.int .i64 xc] 3)).heap.size := by simp [World.drewN]; omega
                       clear b6 k6)
          go_region_law
            (refine step_append_want ((w6.drewN 1).alloc (.cells #[.int .i64 xc] 3)) (by rfl) (.tmp 34) (.tmp 37) _ (by rfl) W4.heap.size 3 i0 _ 1 8 Try.underlying29 hi0 hz0 hz1 hz2 rfl (by omega) u r.length (cellsI r) (by rfl) XA.out.2.1 _ _ 1 _ (cellsI [xc]) (by rfl) XA.out.2.2.2 (cellsI_one _) (by simp only [maxLen]; omega) (by omega) hbase ?_
             intro v8 w8 hown8 hg8 hat8
             have e8 : ((w6.drewN 1).alloc (.cells #[.int .i64 xc] 3)).heap[g]? = W5.heap[g]? := XA.out.1.block _ hgs
             have hge : g < ((w6.drewN 1).alloc (.cells #[.int .i64 xc] 3)).heap.size := Nat.lt_of_lt_of_le hgs XA.out.1.size
             have hne : some g ≠ u.ownBlock := fun e => XA.out.2.2.1.far q u g HM.out.2.2.2.1 e.symm rfl
             have c8 := (World.cell?_of_block (w := (w6.drewN 1).alloc (.cells #[.int .i64 xc] 3)) (a := ⟨g, q, none⟩) (hg8.block g hge hne)).trans ((World.cell?_of_block (w := W5) (a := ⟨g, q, none⟩) e8).trans HD.out.1)
             have f8 := (World.frozen?_of_block (w := (w6.drewN 1).alloc (.cells #[.int .i64 xc] 3)) (a := ⟨g, q, none⟩) (hg8.block g hge hne)).trans ((World.frozen?_of_block (w := W5) (a := ⟨g, q, none⟩) e8).trans HD.out.2)
             obtain ⟨A8, k8, hv8, _, _⟩ := Reads.of_own hown8
             subst hv8)
          all_goals
            go_wp2_with fail
            go_roundw
            case rel =>
              obtain ⟨_, hnx, _, hu, _, hbk, hgr5⟩ := HM.out
              have hlen : r.length + 1 = (r ++ [xc]).length := by simp
              have hce : cellsI r ++ cellsI [xc] = (r ++ [xc]).map (Value.int .i64) := by simp [cellsI]
              rw [hce] at hown8
              rw [hlen] at hown8 hat8 ⊢
              have hN := XA.out.2.2.1.regrow (r2 := r ++ [xc]) hu hg8 (own_less hown8 (by omega)) hat8
              rw [← hnx] at hN
              refine ⟨k + 1, _, by omega, by go_num, grown_store (grown_row (hgr5.trans (grown_of_below XA.out.1 (some g))) XA.out.2.1 (Nat.le_refl _) hg8), hN, fun i u1 g2 hu1 hg2 => ?_⟩
              rw [List.getElem?_set] at hu1
              by_cases hqi : q = i
              · rw [if_pos hqi, if_pos (by omega)] at hu1
                injection hu1 with hu1
                subst hu1
                rcases hat8 with e | e
                · exact hbk q u g2 hu (e ▸ hg2)
                · rw [hg2] at e
                  injection e with e
                  rw [e]
                  exact hbase
              · rw [if_neg hqi] at hu1
                exact hbk i u1 g2 hu1 hg2
            case measure => simp [intOf]; omega
        · have hkl : k = L.length := by omega
          subst hkl
          rw [List.take_length] at hov
          obtain ⟨A9, c9, hv9, _, hnest⟩ := hov.nest
          injection hv9 with e1 e2 e3
          subst e1 e3
          clear e2
          rw [yearsT_len] at hnest
          have z0 := cell_of_row _ _ 0 _ _ _ htw
          have z1 := cell_of_row _ _ 1 _ _ _ htw
          have hs34 : w3.heap.size < wr.heap.size := by omega
          have HB := Lib.hid (And.intro (K2.out.1.trans (bw.mono K2.out.1.size)) (And.intro (K2.out.2.step bw) (And.intro hnest htw)))
          have hq := bndQ_len L
          rw [← H.out.2.2.2.2.1] at hq
          have hQ := bndQ_is HOK.out
          obtain ⟨Q, hQe⟩ : ∃ Q, Q = bndQ L := ⟨_, rfl⟩
          rw [← hQe] at hq hQ
          have HQ := Lib.hid (And.intro hQe (And.intro hQ (by rw [← hq]; unfold fillC; simp : fillC Q 0 = List.replicate X.length zeroC)))
          clear hov hbk hgr bw htw hnest hQe hQ
          obtain ⟨ib, hib, hbz, hbs, hbb⟩ := info_parts infoBound
          go_wp2_with (at_make
                       go_must (refine wpList_make_full _ rfl (.tmp 43) (.tmp 43) _ rfl wr.heap.size 33 ib _ 3 Try.underlying25 hib hbz hbs _ _ _ _ X.length rfl rfl rfl rfl (by rw [hbb]; omega) (by simp only [maxLen]; omega) (Nat.le_refl _) ?_)
                       intro w10 ho10 hg10
                       rw [zero_cells] at ho10
                       have b10 : Below wr.heap.size wr w10 := (Below.refl _ _).grown hg10 (Nat.le_refl _) (fun k hk => by cases hk)
                       have x0 := (b10.cell (p := ⟨w3.heap.size, 0, none⟩) hs34).trans z0
                       have K10 := Lib.hid (And.intro b10 ho10)
                       clear b10 ho10 hg10)
          go_loopw [48] (fun c wq => ∃ i : Nat, i ≤ X.length ∧ c = .int .i64 i ∧ Below wr.heap.size wr wq ∧ wq.ownsRow wr.heap.size 33 3 (.slice (some ⟨wr.heap.size, 0, none⟩) X.length X.length) X.length (cellsC (fillC Q i))) (fun c _ => X.length - (intOf c).toNat)
          case atStart => exact ⟨0, Nat.zero_le _, rfl, K10.out.1, by rw [HQ.out.2.2]; exact K10.out.2⟩
          case round =>
            obtain ⟨i, hi, rfl, hbl, hob⟩ := hrel
            have hsq := hbl.size
            have hsl := (hob.lt _ rfl).2
            by_cases hlt2 : i < X.length
            · have hix : (i : Int) < (X.length : Int) := by omega
              obtain ⟨x, hx⟩ : ∃ x, X[i]? = some x := ⟨_, List.getElem?_eq_getElem hlt2⟩
              obtain ⟨bx, ox, hAx, hbx, hcx⟩ := (HB.out.2.1.step hbl).ints (by omega)
              subst hAx
              have c1 := hcx i x hx
              obtain ⟨r, hr⟩ : ∃ r, r = yearsF L x := ⟨_, rfl⟩
              have hrl : r.length ≤ 20 := by rw [hr]; exact Nat.le_trans (yearsF_len L x) hL20
              have hyr : (yearsT X L)[i]? = some r := by rw [hr]; exact yearsT_at hx
              obtain ⟨bn, on, A3, c3, hAn, hbn, d1, _, hr3⟩ := (HB.out.2.2.1.step hbl).row hyr
              injection hAn with hAn
              injection hAn with e1 e2 e3
              subst e1 e2
              clear e3
              rw [Nat.zero_add] at d1
              have hF := iFindBound_any A3 c3 r x wr hr3 (by omega)
              have hQi : Q[i]? = some (findB x r) := by rw [HQ.out.1, hr]; simp [bndQ, ← H.out.2.2.2.2.1, hx]
              obtain ⟨⟨qa, qb, qc⟩, hqv⟩ : ∃ q, q = findB x r := ⟨_, rfl⟩
              obtain ⟨ok, hok⟩ : ∃ ok, ok = findOkB x r := ⟨_, rfl⟩
              rw [← hqv] at hF hQi
              rw [← hok] at hF
              have hz := fillC_at (l := Q) (k := i) (by omega)
              have htq := (hbl.block _ hs34).trans HB.out.2.2.2
              have y0 := cell_of_row _ _ 0 _ _ _ htq
              have y1 := cell_of_row _ _ 1 _ _ _ htq
              have HX := Lib.hid (And.intro hbl (And.intro hob (And.intro hF (And.intro hQi hz))))
              clear hbl hob hF hQi hz htq hcx hr3 hr hyr hqv hok
              go_wp2_with (go_at_call 20; go_must (refine HX.out.2.2.1.mono ?_); rintro e w12 ⟨rfl, k12⟩
                           obtain ⟨g0, g1, g2, f0, f1, f2⟩ := own_cells (own_below HX.out.2.1 k12) HX.out.2.2.2.2
                           have K12 := Lib.hid k12
                           clear k12)
              go_roundw
              case rel =>
                obtain ⟨hbl, hob, _, hQi, _⟩ := HX.out
                have ho := own_store3 (own_below hob K12.out) (k := i) (by rw [fillC_len (by omega)]; omega) ⟨qa, qb, qc⟩
                have hset := fillC_set (l := Q) (k := i) (by omega)
                rw [show Q[i] = ⟨qa, qb, qc⟩ from by have := List.getElem?_eq_some_iff.1 hQi; exact this.2] at hset
                rw [hset] at ho
                exact ⟨i + 1, by omega, by go_num, (((below_step hbl K12.out).setCell (Nat.le_refl _) _).setCell (Nat.le_refl _) _).setCell (Nat.le_refl _) _, ho⟩
              case measure => simp [intOf]; omega
            · have hil : i = Q.length := by omega
              have hdn : decide ((i : Int) < (X.length : Int)) = false := decide_eq_false (by omega)
              have hf : fillC Q i = Q := by rw [hil]; simp [fillC]
              rw [hf] at hob
              have HX := Lib.hid (And.intro hbl (And.intro hob hf))
              clear hbl hob hf hil
              go_wp2_with fail
              go_ret2
              have hw := HB.out.1
              have hQ := HQ.out.2.1
              have ho := HX.out.2.1
              exact pairB_mk ⟨hQ.symm, HOK.out⟩ (hw.trans (HX.out.1.mono hw.size)) (by rw [hq]; exact own_less ho hw.size)
    · have e12 : decide ((12 : Int) < (X.length : Int)) = true := decide_eq_true (by omega)
      have hno : fbOk L = false := by rw [H.out.2.2.2.2.2]; exact decide_eq_false h12
      have HN := Lib.hid (And.intro (fbG_no hno) hno)
      clear hno
      go_enter Try.func17, Try.ntmps17
      go_wp2_with (first
        | (go_at_call 31; go_must (refine H.out.1.mono ?_); rintro e w1 ⟨rfl, k1⟩)
        | (go_at_call 63; go_must (refine (H.out.2.1 _ k1).mono ?_); rintro e w2 ⟨v2, rfl, k2, o2⟩
           obtain ⟨A2, c2, hv2, _, hr2⟩ := Reads.of_own o2
           subst hv2
           have K2 := Lib.hid (And.intro (below_step k1 k2) hr2)
           clear k1 k2 o2 hr2)
        | (go_at_call 62; go_must (refine (newR_any A2 X.length c2 w2 (by omega)).mono ?_); rintro e w3 ⟨g, rfl, k3, o3⟩
           have hgl := o3.lt g rfl
           have hs23 := k3.size
           obtain ⟨W4, hW4⟩ : ∃ W4, W4 = w3.alloc (.cells #[.slice A2 X.length c2, .slice (some ⟨g, 0, none⟩) X.length X.length] 87) := ⟨_, rfl⟩
           have b4 : Below w3.heap.size w3 W4 := by rw [hW4]; exact (Below.refl w3.heap.size w3).alloc (Nat.le_refl _) _
           have hs4 : w3.heap.size < W4.heap.size := by rw [hW4]; simp
           have ht4 : W4.heap[w3.heap.size]? = some (.cells #[.slice A2 X.length c2, .slice (some ⟨g, 0, none⟩) X.length X.length] 87 (0, 0)) := by rw [hW4]; exact heap_alloc_new _ _
           have z0 := cell_of_row _ _ 0 _ _ _ ht4
           rw [hW4] at z0
           have HW4 := Lib.hid hW4
           have K4 := Lib.hid (And.intro (below_step k3 b4) (And.intro (own_below o3 b4) ht4))
           clear k3 o3 b4 ht4 hW4))
      go_ret2
      rw [← HW4.out]
      exact pairB_mk HN.out (K2.out.1.trans (K4.out.1.mono K2.out.1.size)) (World.ownsRow_nil _ _ _ _)
end Go.Proofs.Ytopdmcnbchpihaa
