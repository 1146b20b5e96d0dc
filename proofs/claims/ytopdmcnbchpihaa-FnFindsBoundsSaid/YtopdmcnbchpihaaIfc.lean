/- The contexts with finds, as the program lists them. -/
import Derived.Test.YtopdmcnbchpihaaFf
import Derived.Test.YtopdmcnbchpihaaIl
import Derived.Test.YtopdmcnbchpihaaShelf
import Derived.Sort.OwnSortedInts
import Derived.Sort.Grow
import Derived.Lib.OwnBridge
import Derived.OwnWalk
namespace Go.Proofs.Ytopdmcnbchpihaa
open Go.RowKit

/-- Numbers of the call's own are sorted, and each is kept once. -/
theorem own_sorted {w w1 : World} {g cap q n0 : Nat} {os : Array Obj} {zs : List Int} (h : w1.ownsRow w.heap.size 3 1 (.slice (some ⟨g, 0, none⟩) zs.length cap) zs.length (zs.map (Value.int .i64))) (hb : Below w.heap.size w w1) :
    Below w.heap.size w (Sort.putRow (Value.int .i64) (Sort.ahead (Sort.grow (Sort.putRow (Value.int .i64) (Sort.ahead w1 n0) g 0 (zs.mergeSort fun x y => decide (x ≤ y)).toArray) os) q) g 0 (Lib.compact (zs.mergeSort fun x y => decide (x ≤ y)) ++ List.replicate (zs.length - (Lib.compact (zs.mergeSort fun x y => decide (x ≤ y))).length) 0).toArray) ∧
      (Sort.putRow (Value.int .i64) (Sort.ahead (Sort.grow (Sort.putRow (Value.int .i64) (Sort.ahead w1 n0) g 0 (zs.mergeSort fun x y => decide (x ≤ y)).toArray) os) q) g 0 (Lib.compact (zs.mergeSort fun x y => decide (x ≤ y)) ++ List.replicate (zs.length - (Lib.compact (zs.mergeSort fun x y => decide (x ≤ y))).length) 0).toArray).ownsRow w.heap.size 3 1
        (.slice (some ⟨g, 0, none⟩) (Lib.compact (zs.mergeSort fun x y => decide (x ≤ y))).length cap) (Lib.compact (zs.mergeSort fun x y => decide (x ≤ y))).length (cellsI (Lib.compact (zs.mergeSort fun x y => decide (x ≤ y)))) := by
  have hl : (zs.mergeSort fun x y => decide (x ≤ y)).length = zs.length := List.length_mergeSort zs
  have hle := compact_len (zs.mergeSort fun x y => decide (x ≤ y))
  rcases h.2 with ⟨h0, _⟩ | ⟨g', cap', cur, hv, hbase, hbk, h1, h2, h3, h4⟩
  · cases h0
  cases hv
  have hs := ownsRow_sortedI (n := n0) (os := os) hl hbase hbk h1 h2 h3
  have hc := Lib.ownsRow_putRow (q := q) (k := (Lib.compact (zs.mergeSort fun x y => decide (x ≤ y))).length) (ys := Lib.compact (zs.mergeSort fun x y => decide (x ≤ y)) ++ List.replicate (zs.length - (Lib.compact (zs.mergeSort fun x y => decide (x ≤ y))).length) 0) hs (by simp; omega) (by omega)
  rw [List.take_left] at hc
  exact ⟨Lib.below_putRow (hb.grown (grownBy_sortedI _) hb.size (fun j hj => by cases hj; exact hbase)) hbase, hc⟩
set_option maxHeartbeats 4000000 in
set_option maxRecDepth 100000 in
theorem fctx_any (D : Option Addr) (cd : Nat) (L : List Ctx) (w : World) (hd : Reads w w.heap.size 3 D L.length (cellsC L)) (hL : L.length ≤ 1000000000) :
    Calls Try.prog 63 #[.slice D L.length cd] w fun e w2 => ∃ v, e = .returned v ∧ Below w.heap.size w w2 ∧ w2.ownsRow w.heap.size 3 1 v (ctxF L).length (cellsI (ctxF L)) := by
  obtain ⟨i0, hi0, hz0, hz1, hz2⟩ := info_parts infoInt
  obtain ⟨zs, hzs⟩ : ∃ zs, zs = L.map Ctx.id := ⟨_, rfl⟩
  have hzl : zs.length = L.length := by rw [hzs]; simp
  have H := Lib.hid (And.intro hd (And.intro hzs hzl))
  clear hd hzs
  go_enter Try.func63, Try.ntmps63
  go_wp2_with (at_make
               go_must (refine wpList_make_full _ rfl (.tmp 7) (.tmp 7) _ rfl w.heap.size 3 i0 _ 1 Try.underlying29 hi0 hz0 hz1 _ _ _ _ L.length rfl rfl rfl rfl (by rw [hz2]; omega) (by simp only [maxLen]; omega) (Nat.le_refl _) ?_)
               intro w2 ho2 hg2
               rw [zero_cellsI] at ho2
               have K2 := Lib.hid (And.intro ((Below.refl _ _).grown hg2 (Nat.le_refl _) (fun k hk => by cases hk) : Below w.heap.size w w2) ho2)
               clear ho2 hg2)
  have hf0 : fillI zs 0 = List.replicate L.length 0 := by simp [fillI, hzl]
  have HF := Lib.hid hf0
  clear hf0 hzl
  go_loopw [11] (fun c wr => ∃ k : Nat, k ≤ L.length ∧ c = .int .i64 k ∧ Below w.heap.size w wr ∧ wr.ownsRow w.heap.size 3 1 (.slice (some ⟨w.heap.size, 0, none⟩) L.length L.length) L.length (cellsI (fillI zs k))) (fun c _ => L.length - (intOf c).toNat)
  case atStart => exact ⟨0, Nat.zero_le _, rfl, K2.out.1, by rw [HF.out]; exact K2.out.2⟩
  case round =>
    obtain ⟨k, hk, rfl, hbl, how⟩ := hrel
    have hsz := hbl.size
    have hsl := (how.lt _ rfl).2
    by_cases hlt : k < L.length
    · have hkl : (k : Int) < (L.length : Int) := by omega
      obtain ⟨b, off, hA, hbb, hcc⟩ := (H.out.1.below hbl).ctx (by omega)
      subst hA
      obtain ⟨⟨xa, xb, xc⟩, hx⟩ : ∃ f, L[k]? = some f := ⟨_, List.getElem?_eq_getElem hlt⟩
      obtain ⟨c1, c2, c3⟩ := hcc k _ hx
      dsimp only at c1 c2 c3
      have hxa : zs[k]? = some xa := by rw [H.out.2.1]; simp [hx]
      obtain ⟨W5, hW5⟩ : ∃ W5, W5 = wr.alloc (.cells #[.int .i64 xa, .int .i64 xb, .int .i64 xc] 31) := ⟨_, rfl⟩
      have b5 : Below wr.heap.size wr W5 := by rw [hW5]; exact (Below.refl wr.heap.size wr).alloc (Nat.le_refl _) _
      have hf5 : W5.heap[wr.heap.size]? = some (.cells #[.int .i64 xa, .int .i64 xb, .int .i64 xc] 31 (0, 0)) := by rw [hW5]; exact heap_alloc_new _ _
      have y0 := cell_of_row _ _ 0 _ _ _ hf5
      have o5 := own_below how b5
      obtain ⟨u1, u2⟩ := own_cell0 o5 (by have := H.out.2.2; omega) hlt
      have hfs := fillI_set hxa
      have HX := Lib.hid (And.intro hbl (And.intro how hfs))
      rw [hW5] at y0 u1 u2
      clear hbl how hcc hf5 o5 hfs hxa b5 hx hW5
      go_wp2_with fail
      go_roundw
      case rel =>
        have ho := own_storeI HX.out.2.1 k xa
        rw [HX.out.2.2] at ho
        exact ⟨k + 1, by omega, by go_num, (HX.out.1.setCell (Nat.le_refl _) _).alloc (by simpa [World.setCell] using hsz) _, ho.alloc _⟩
      case measure => simp [intOf]; omega
    · have hkl : k = zs.length := by have := H.out.2.2; omega
      have hLl : L.length = zs.length := H.out.2.2.symm
      rw [hkl, fillI_all, hLl] at how
      have hH := Lib.holds_of_ownsRow (enc := Value.int .i64) (zs := zs) how (by simp)
      obtain ⟨g', cap', hvv, _, _, _, hcm, _, hH⟩ := hH
      injection hvv with e1 e2 e3
      injection e1 with e1
      injection e1 with e1 e4 e5
      subst e1
      have hS : Calls Try.prog 101 #[.slice (some ⟨w.heap.size, 0, none⟩) L.length L.length] wr fun e w3 => e = .returned (.tuple #[]) ∧ Calls Try.prog 102 #[.slice (some ⟨w.heap.size, 0, none⟩) L.length L.length] w3 fun e w2 =>
          ∃ v, e = .returned v ∧ Below w.heap.size w w2 ∧ w2.ownsRow w.heap.size 3 1 v (ctxF L).length (cellsI (ctxF L)) := by
        rw [hLl]
        refine (Try.slices_Sort_int w.heap.size 0 zs.length zs wr hH hsl (by omega)).mono ?_
        rintro e w3 ⟨rfl, nn, os, rfl⟩
        refine ⟨rfl, ?_⟩
        have hl2 : (zs.mergeSort fun x y => decide (x ≤ y)).length = zs.length := List.length_mergeSort zs
        have hH2 : Sort.Holds (Value.int .i64) (Sort.grow (Sort.putRow (Value.int .i64) (Sort.ahead wr nn) w.heap.size 0 (zs.mergeSort fun x y => decide (x ≤ y)).toArray) os) w.heap.size 0 (zs.mergeSort fun x y => decide (x ≤ y)).toArray :=
          Sort.holds_grow (Value.int .i64) _ os w.heap.size 0 _ (by simpa [Sort.putRow, Sort.mapBlock, Sort.ahead] using hsl) (Sort.holds_putRow (Value.int .i64) _ w.heap.size 0 _ _ (Sort.holds_ahead (Value.int .i64) wr nn w.heap.size 0 _ hH) (by simp))
        have hC := Try.slices_Compact_int w.heap.size 0 zs.length (zs.mergeSort fun x y => decide (x ≤ y)) _ hH2 (by omega) (by omega)
        rw [hl2] at hC
        refine hC.mono ?_
        rintro e w2 ⟨rfl, q, rfl⟩
        obtain ⟨r1, r2⟩ := own_sorted (q := q) (n0 := nn) (os := os) how hbl
        have hcx : ctxF L = Lib.compact (zs.mergeSort fun x y => decide (x ≤ y)) := by rw [H.out.2.1]; rfl
        rw [hcx]
        exact ⟨_, rfl, r1, r2⟩
      have HS := Lib.hid hS
      have hdn : decide ((k : Int) < (L.length : Int)) = false := decide_eq_false (by omega)
      clear hS how hbl hkl hLl hH
      go_wp2_with (first
        | (go_at_call 101; go_must (refine HS.out.mono ?_); rintro e w3 ⟨rfl, hC⟩)
        | (go_at_call 102; go_must (refine hC.mono ?_); rintro e w4 ⟨v4, rfl, b4, o4⟩))
      go_ret
      exact ⟨_, rfl, b4, o4⟩
end Go.Proofs.Ytopdmcnbchpihaa
