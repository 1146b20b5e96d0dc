/- The finds that the program tells to be older than finds below. -/
import Derived.Test.YtopdmcnbchpihaaIfa
import Derived.Test.YtopdmcnbchpihaaTt
import Derived.Test.YtopdmcnbchpihaaVr
namespace Go.Proofs.Ytopdmcnbchpihaa
open Go.RowKit

set_option maxHeartbeats 4000000 in
set_option maxRecDepth 100000 in
theorem iOld_no (A B D : Option Addr) (ca cb cd : Nat) (ids : List Int) (l L : List Ctx) (w : World) (ha : Reads w w.heap.size 1 A ids.length (cellsI ids)) (hb : Reads w w.heap.size 3 B l.length (cellsC l)) (hd : Reads w w.heap.size 3 D L.length (cellsC L))
    (hn : ids.length ≤ 1000000000) (hl : l.length ≤ 1000000000) (hL : L.length ≤ 1000000000) (hno : oldOk ids l L = false) :
    Calls Try.prog 34 #[.slice A ids.length ca, .slice B l.length cb, .slice D L.length cd] w (IntsS w (oldG ids l L)) := by
  have hR := iVRows_any A B ca cb ids l w ha hb hn hl
  have hV := fun (W : World) (hW : Below w.heap.size w W) => iFindsValid_any D cd L W (hd.step hW) (by omega)
  have HG := Lib.hid (oldG_no hno)
  obtain ⟨n, hn0⟩ : ∃ n, n = vN ids l := ⟨_, rfl⟩
  rw [← hn0] at hR
  cases h1 : ordOkG ids l
  · rw [h1] at hR
    have H := Lib.hid hR
    clear ha hb hd hR hV hn0 h1 hno
    go_enter Try.func34, Try.ntmps34
    go_wp2_with (go_at_call 85; go_must (refine H.out.mono ?_); rintro e w2 ⟨v2, rfl, k2, o2⟩)
    go_ret
    exact ⟨_, rfl, k2, by rw [HG.out]; exact World.ownsRow_nil _ _ _ _⟩
  · rw [h1] at hR
    have h2 : validF L = false := by simpa [oldOk, h1] using hno
    simp only [h2] at hV
    have H := Lib.hid (And.intro hR hV)
    clear ha hb hd hR hV hn0 h1 hno h2
    go_enter Try.func34, Try.ntmps34
    go_wp2_with (first
      | (go_at_call 85; go_must (refine H.out.1.mono ?_); rintro e w2 ⟨v2, rfl, k2, o2⟩)
      | (go_at_call 31; go_must (refine (H.out.2 _ k2).mono ?_); rintro e w3 ⟨rfl, k3⟩))
    go_ret
    exact ⟨_, rfl, below_step k2 k3, by rw [HG.out]; exact World.ownsRow_nil _ _ _ _⟩
set_option maxHeartbeats 8000000 in
set_option maxRecDepth 100000 in
theorem iOld_yes (A B D : Option Addr) (ca cb cd : Nat) (ids : List Int) (l L : List Ctx) (w : World) (ha : Reads w w.heap.size 1 A ids.length (cellsI ids)) (hb : Reads w w.heap.size 3 B l.length (cellsC l)) (hd : Reads w w.heap.size 3 D L.length (cellsC L))
    (hn : ids.length ≤ 1000000000) (hl : l.length ≤ 1000000000) (hL : L.length ≤ 1000000000) (hyes : oldOk ids l L = true) :
    Calls Try.prog 34 #[.slice A ids.length ca, .slice B l.length cb, .slice D L.length cd] w (IntsS w (oldG ids l L)) := by
  obtain ⟨i0, hi0, hz0, hz1, hz2⟩ := info_parts infoInt
  have hR := iVRows_any A B ca cb ids l w ha hb hn hl
  have hV := fun (W : World) (hW : Below w.heap.size w W) => iFindsValid_any D cd L W (hd.step hW) (by omega)
  obtain ⟨h1, h2⟩ : ordOkG ids l = true ∧ validF L = true := by simpa [oldOk] using hyes
  have hG := oldG_ok hyes
  rw [hG]
  have hvi : validI ids = true := (okG_parts (ordOk_okG h1)).1
  have hn12 : ids.length ≤ 12 := validO_len hvi
  have hL20 := (validF_ok h2).2
  have hya : ∀ f ∈ L, 0 ≤ f.area := fun f hf => (okF_parts ((validF_ok h2).1 f hf)).2.2.1
  rw [h1, vN_ok h1] at hR
  simp only [h2] at hV
  obtain ⟨F, hF⟩ : ∃ F, F = ordF ids l := ⟨_, rfl⟩
  rw [← hF] at hR
  obtain ⟨p, hp⟩ : ∃ p, p = isOld ids l L := ⟨_, rfl⟩
  have hpin : ∀ (f : Ctx) (q : Nat), f ∈ L → ids[q]? = some f.id → p f = decide (f.area < belO F (latT ids L) q ids.length) := fun f q hf hq => by rw [hp, hF]; exact isOld_bel hq (hya f hf)
  have hpout : ∀ f : Ctx, f.id ∉ ids → p f = false := fun f h => by rw [hp]; exact isOld_out h
  rw [← hp]
  have H := Lib.hid (And.intro hR (And.intro hV (And.intro ha (And.intro hd (And.intro hvi (And.intro hpin hpout))))))
  clear ha hb hd hR hV h1 h2 hG hp hyes hvi hya hF hpin hpout
  go_enter Try.func34, Try.ntmps34
  go_wp2_with (first
    | (go_at_call 85; go_must (refine H.out.1.mono ?_); rintro e w2 ⟨v2, rfl, k2, o2⟩
       obtain ⟨A2, c2, hv2, _, hr2⟩ := Reads.of_own o2
       subst hv2
       have K2 := Lib.hid (And.intro k2 hr2)
       clear k2 o2 hr2)
    | (go_at_call 31; go_must (refine (H.out.2.1 _ K2.out.1).mono ?_); rintro e w3 ⟨rfl, k3⟩
       have K3 := Lib.hid (And.intro (below_step K2.out.1 k3) (K2.out.2.step k3))
       clear k3)
    | (go_at_call 86; go_must (refine (lbelow_any A D A2 ca cd c2 ids L F w3 (H.out.2.2.1.step K3.out.1) (H.out.2.2.2.1.step K3.out.1) K3.out.2 H.out.2.2.2.2.1 hL).mono ?_)
       rintro e w4 ⟨g, rfl, k4, o4⟩))
  have hgl := o4.lt g rfl
  obtain ⟨W3, hW3⟩ : ∃ W3, W3 = w4.alloc (.cells #[.slice A ids.length ca, .slice (some ⟨g, 0, none⟩) ids.length ids.length] 128) := ⟨_, rfl⟩
  have bA : Below w4.heap.size w4 W3 := by rw [hW3]; exact (Below.refl w4.heap.size w4).alloc (Nat.le_refl _) _
  have hs3 : w4.heap.size < W3.heap.size := by rw [hW3]; simp
  have hz : W3.heap[w4.heap.size]? = some (.cells #[.slice A ids.length ca, .slice (some ⟨g, 0, none⟩) ids.length ids.length] 128 (0, 0)) := by rw [hW3]; exact heap_alloc_new _ _
  have b23 := below_step k4 bA
  have bW := below_step K3.out.1 b23
  have K := Lib.hid (And.intro hz (And.intro bW (And.intro (H.out.2.2.1.step bW) (And.intro (H.out.2.2.2.1.step bW) (own_below o4 bA)))))
  rw [← hW3]
  clear hz bW b23 bA k4 o4 hW3 K3 K2
  go_loopw [10, 33] (fun v c wr => ∃ k : Nat, k ≤ L.length ∧ c = .int .i64 k ∧ Below W3.heap.size W3 wr ∧ wr.ownsRow W3.heap.size 3 1 v (idxF p L k).length (cellsI (idxF p L k))) (fun _ c _ => L.length - (intOf c).toNat)
  case atStart => exact ⟨0, Nat.zero_le _, rfl, Below.refl _ _, World.ownsRow_nil _ _ _ _⟩
  case round =>
    obtain ⟨k, hk, rfl, hbl, hov⟩ := hrel
    have hsz := hbl.size
    by_cases hlt : k < L.length
    · have hkl : (k : Int) < (L.length : Int) := by omega
      obtain ⟨b, off, hA, hbb, hcc⟩ := (K.out.2.2.2.1.below hbl).ctx (by omega)
      subst hA
      obtain ⟨⟨xa, xb, xc⟩, hx⟩ : ∃ f, L[k]? = some f := ⟨_, List.getElem?_eq_getElem hlt⟩
      obtain ⟨c1, c2', c3⟩ := hcc k _ hx
      dsimp only at c1 c2' c3
      have hfm := List.mem_of_getElem? hx
      have hll := idxF_len p L k
      have ht := (hbl.block _ hs3).trans K.out.1
      obtain ⟨W5, hW5⟩ : ∃ W5, W5 = wr.alloc (.cells #[.int .i64 xa, .int .i64 xb, .int .i64 xc] 31) := ⟨_, rfl⟩
      have b5 : Below wr.heap.size wr W5 := by rw [hW5]; exact (Below.refl wr.heap.size wr).alloc (Nat.le_refl _) _
      have hs5 : wr.heap.size < W5.heap.size := by rw [hW5]; simp
      have hf5 : W5.heap[wr.heap.size]? = some (.cells #[.int .i64 xa, .int .i64 xb, .int .i64 xc] 31 (0, 0)) := by rw [hW5]; exact heap_alloc_new _ _
      have t5 := (b5.block _ (by omega)).trans ht
      have z0 := cell_of_row _ _ 0 _ _ _ t5
      have z1 := cell_of_row _ _ 1 _ _ _ t5
      have y0 := cell_of_row _ _ 0 _ _ _ hf5
      have y2 := cell_of_row _ _ 2 _ _ _ hf5
      rw [hW5] at z0 z1 y0
      have b35 := hbl.trans (b5.mono hsz)
      have HX := Lib.hid (And.intro b35 (And.intro (own_below hov b5) hx))
      have hrd := K.out.2.2.1.step b35
      clear hbl hov hcc ht t5 b35 hf5
      by_cases hin : xa ∈ ids
      · obtain ⟨p1, p2, p3⟩ := placeI_at hin
        have hE := entI_yes A ca g ids.length ids xa W5 hrd (by omega) hin
        have hpf := H.out.2.2.2.2.2.1 _ _ hfm p3
        dsimp only at hpf
        obtain ⟨q, hq⟩ : ∃ q, q = placeI ids xa := ⟨_, rfl⟩
        rw [← hq] at hE p2 p3 hpf
        obtain ⟨y, hy⟩ : ∃ y, y = belO F (latT ids L) q ids.length := ⟨_, rfl⟩
        rw [← hy] at hpf
        have d1 := (own_cellI (k := q) (x := y) K.out.2.2.2.2 (by rw [hy]; exact belT_at p2)).1
        have d5 := (HX.out.1.cell (p := ⟨g, q, none⟩) (by show g < W3.heap.size; omega)).trans d1
        have HP := Lib.hid hE
        have arm : ∀ w6, Below W5.heap.size W5 w6 → w6.cell? ⟨wr.heap.size, 2, none⟩ = some (.int .i64 xc) ∧ w6.cell? ⟨g, q, none⟩ = some (.int .i64 y) := fun w6 k6 =>
          ⟨(k6.cell (p := ⟨wr.heap.size, 2, none⟩) hs5).trans y2, (k6.cell (p := ⟨g, q, none⟩) (by show g < W5.heap.size; omega)).trans d5⟩
        have HM := Lib.hid arm
        clear arm d5 p1 p2 p3 hin hq hy d1 hE hrd hfm
        by_cases hyx : xc < y
        · have e5 : decide (xc < y) = true := decide_eq_true hyx
          have HY := Lib.hid (hpf.trans e5)
          clear hpf
          go_wp2_with (go_at_call 87; rw [← hW5]; go_must (refine HP.out.mono ?_); rintro e w6 ⟨rfl, k6⟩
                       obtain ⟨m1, m2⟩ := HM.out w6 k6)
          go_quiet (fail)
          have b7 : Below W5.heap.size W5 (w6.drewN nq) := below_draws k6 nq
          obtain ⟨w7, hw7⟩ : ∃ w7, w7 = w6.drewN nq := ⟨_, rfl⟩
          rw [← hw7] at b7 ⊢
          have HW7 := Lib.hid b7
          have hs7 := b7.size
          clear b7 hw7 m1 m2 k6 c1 c2' c3 y0 y2 z0 z1 hyx e5
          go_wp2_with (at_builtin
                       go_must (refine wpList_append_reads _ rfl (.tmp 52) (.tmp 54) _ rfl W3.heap.size 3 i0 _ 1 8 Try.underlying29 hi0 hz0 hz1 hz2 rfl (by omega) u10 (idxF p L k).length _ rfl ((own_below HX.out.2.1 HW7.out).alloc _) (w7.heap.size + 1) _ 1 1 (cellsI [(k : Int)]) rfl (reads_int (by omega)) (cellsI_one _) (by simp only [maxLen]; omega) (by omega) (by simp; omega) ?_)
                       intro v8 w8 hown8 hg8 hat8)
          go_roundw
          case rel =>
            have ho7 := own_below HX.out.2.1 HW7.out
            have b8 : Below W3.heap.size W3 w8 := (below_step HX.out.1 HW7.out).trans (app_below ho7 (Nat.le_refl _) (by omega) hg8)
            have e9 : idxF p L (k + 1) = idxF p L k ++ [(k : Int)] := idxF_yes HX.out.2.2 HY.out
            have e10 : cellsI (idxF p L (k + 1)) = cellsI (idxF p L k) ++ cellsI [(k : Int)] := by rw [e9]; simp [cellsI]
            have e11 : (idxF p L (k + 1)).length = (idxF p L k).length + 1 := by rw [e9]; simp
            exact ⟨k + 1, by omega, by go_num, b8, by rw [e10, e11]; exact hown8⟩
          case measure => simp [intOf]; omega
        · have e5 : decide (xc < y) = false := decide_eq_false hyx
          have HY := Lib.hid (hpf.trans e5)
          clear hpf
          go_wp2_with (go_at_call 87; rw [← hW5]; go_must (refine HP.out.mono ?_); rintro e w6 ⟨rfl, k6⟩
                       obtain ⟨m1, m2⟩ := HM.out w6 k6)
          go_quiet (fail)
          go_wp2_with fail
          go_roundw
          case rel => exact ⟨k + 1, by omega, by go_num, below_draws (below_step HX.out.1 k6) nq, by rw [idxF_no HX.out.2.2 HY.out]; exact own_below HX.out.2.1 (below_draws k6 nq)⟩
          case measure => simp [intOf]; omega
      · have HY : Hid (p ⟨xa, xb, xc⟩ = false) := by exact H.out.2.2.2.2.2.2 ⟨xa, xb, xc⟩ hin
        have HP := Lib.hid (entI_no A ca (.slice (some ⟨g, 0, none⟩) ids.length ids.length) ids xa W5 hrd (by omega) hin)
        clear hin hrd hfm
        go_wp2_with (go_at_call 87; rw [← hW5]; go_must (refine HP.out.mono ?_); rintro e w6 ⟨rfl, k6⟩)
        go_quiet (fail)
        go_wp2_with fail
        go_roundw
        case rel => exact ⟨k + 1, by omega, by go_num, below_draws (below_step HX.out.1 k6) nq, by rw [idxF_no HX.out.2.2 HY.out]; exact own_below HX.out.2.1 (below_draws k6 nq)⟩
        case measure => simp [intOf]; omega
    · have hkl : k = L.length := by omega
      subst hkl
      have HX := Lib.hid (And.intro hbl hov)
      clear hbl hov
      go_wp2_with fail
      go_ret
      exact ⟨_, rfl, K.out.2.1.trans (HX.out.1.mono K.out.2.1.size), own_less HX.out.2 K.out.2.1.size⟩
theorem iFindsOld_any (A B D : Option Addr) (ca cb cd : Nat) (ids : List Int) (l L : List Ctx) (w : World) (ha : Reads w w.heap.size 1 A ids.length (cellsI ids)) (hb : Reads w w.heap.size 3 B l.length (cellsC l)) (hd : Reads w w.heap.size 3 D L.length (cellsC L))
    (hn : ids.length ≤ 1000000000) (hl : l.length ≤ 1000000000) (hL : L.length ≤ 1000000000) :
    Calls Try.prog 34 #[.slice A ids.length ca, .slice B l.length cb, .slice D L.length cd] w (IntsS w (oldG ids l L)) := by
  cases h : oldOk ids l L
  · exact iOld_no A B D ca cb cd ids l L w ha hb hd hn hl hL h
  · exact iOld_yes A B D ca cb cd ids l L w ha hb hd hn hl hL h
end Go.Proofs.Ytopdmcnbchpihaa
