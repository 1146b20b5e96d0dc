/- What the model's bound of finds is. -/
import Derived.Test.YtjmbbepklofodaaYa
namespace Go.Proofs.Ytjmbbepklofodaa
open Go.RowKit

theorem lastY_app (Y : List Int) (y : Int) : lastY (Y ++ [y]) = max (lastY Y) y := by
  unfold lastY
  rw [maxF_app]
  simp [maxF]
theorem findB_bad {id : Int} {Y : List Int} (h : findOkB id Y = false) : findB id Y = ⟨0, 0, 0⟩ := by simp [findB, h]
theorem findB_good {id : Int} {Y : List Int} (h : findOkB id Y = true) : findB id Y = ⟨id, lastY Y, 999⟩ := by simp [findB, h]
theorem findOk_no {id : Int} {Y : List Int} {k : Nat} {y : Int} (hk : Y[k]? = some y) (h : inR y 0 999 = false) : findOkB id Y = false := by
  have : Y.all (fun y => inR y 0 999) = false := by
    rw [List.all_eq_false]
    exact ⟨y, List.mem_of_getElem? hk, by simp [h]⟩
  simp [findOkB, this]
theorem findOk_id {id : Int} {Y : List Int} (h : inR id 1 99 = false) : findOkB id Y = false := by simp [findOkB, h]
theorem findOk_yes {id : Int} {Y : List Int} (h : inR id 1 99 = true) (ha : ∀ j (hj : j < Y.length), inR Y[j] 0 999 = true) : findOkB id Y = true := by
  have : Y.all (fun y => inR y 0 999) = true := by
    rw [List.all_eq_true]
    intro y hy
    obtain ⟨j, hj, rfl⟩ := List.getElem_of_mem hy
    exact ha j hj
  simp [findOkB, this, h]
/-- A bound and a word. -/
def BoundOk (w : World) (b : Ctx) (ok : Bool) (e : Ending) (w2 : World) : Prop := e = .returned (.tuple #[.agg #[.int .i64 b.id, .int .i64 b.kind, .int .i64 b.area], .bool ok]) ∧ Below w.heap.size w w2
theorem boundOk_mk {w w2 : World} {b : Ctx} {ok ok2 : Bool} {x y z : Int} (h : b = ⟨x, y, z⟩ ∧ ok = ok2) (hb : Below w.heap.size w w2) : BoundOk w b ok (.returned (.tuple #[.agg #[.int .i64 x, .int .i64 y, .int .i64 z], .bool ok2])) w2 := by
  obtain ⟨rfl, rfl⟩ := h
  exact ⟨rfl, hb⟩
set_option maxHeartbeats 2000000 in
set_option maxRecDepth 100000 in
theorem sFindBound_any (A : Option Addr) (cap : Nat) (Y : List Int) (id : Int) (w : World) (hr : Reads w w.heap.size 1 A Y.length (cellsI Y)) (hl : Y.length ≤ 1000000000000000) :
    Calls Try.prog 25 #[.int .i64 id, .slice A Y.length cap] w (BoundOk w (findB id Y) (findOkB id Y)) := by
  obtain ⟨wr, hwr⟩ : ∃ wr, wr = w.alloc (.cells #[.int .i64 0, .int .i64 0, .int .i64 0] 29) := ⟨_, rfl⟩
  have hb : Below w.heap.size w wr := by rw [hwr]; exact (Below.refl _ _).alloc (Nat.le_refl _) _
  have hrow : wr.heap[w.heap.size]? = some (.cells #[.int .i64 0, .int .i64 0, .int .i64 0] 29 (0, 0)) := by rw [hwr]; exact heap_alloc_new _ _
  have z0 : wr.cell? ⟨w.heap.size, 0, none⟩ = some (.int .i64 0) := cell_of_row _ _ 0 _ _ _ hrow
  have z1 : wr.cell? ⟨w.heap.size, 1, none⟩ = some (.int .i64 0) := cell_of_row _ _ 1 _ _ _ hrow
  have z2 : wr.cell? ⟨w.heap.size, 2, none⟩ = some (.int .i64 0) := cell_of_row _ _ 2 _ _ _ hrow
  have f0 := frozen_of_row _ _ 0 _ _ hrow
  have f1 := frozen_of_row _ _ 1 _ _ hrow
  have f2 := frozen_of_row _ _ 2 _ _ hrow
  have HB : Hid (∀ x y z : Value, Below w.heap.size w (((wr.setCell ⟨w.heap.size, 0, none⟩ x).setCell ⟨w.heap.size, 1, none⟩ y).setCell ⟨w.heap.size, 2, none⟩ z)) := by
    show ∀ x y z : Value, _
    exact fun x y z => ((hb.setCell (by simp) _).setCell (by simp) _).setCell (by simp) _
  have hr2 := hr.below hb
  go_enter Try.func25, Try.ntmps25
  have HW := Lib.hid hwr
  clear hr hrow hwr hb
  go_wp2_with fail
  rw [← HW.out]
  go_loop [6, 7] (fun a i => ∃ k : Nat, k ≤ Y.length ∧ i = .int .i64 k ∧ a = .int .i64 (lastY (Y.take k)) ∧ ∀ j (hj : j < Y.length), j < k → inR Y[j] 0 999 = true) (fun _ i => Y.length - (intOf i).toNat)
  case atStart => exact ⟨0, Nat.zero_le _, rfl, rfl, fun j _ h => absurd h (by omega)⟩
  case round =>
    obtain ⟨k, hk, rfl, rfl, hg⟩ := hrel
    have HG := Lib.hid hg
    clear hg
    by_cases hlt : k < Y.length
    · obtain ⟨b, off, hA, hbl, hc⟩ := hr2.ints (by omega)
      subst hA
      have hk0 : Y[k]? = some Y[k] := List.getElem?_eq_getElem hlt
      have HX : Hid (lastY (Y.take (k + 1)) = max (lastY (Y.take k)) Y[k]) := by
        show lastY (Y.take (k + 1)) = _
        rw [List.take_add_one, hk0]
        exact lastY_app _ _
      obtain ⟨x, hx⟩ : ∃ x, x = lastY (Y.take k) := ⟨_, rfl⟩
      rw [← hx] at HX ⊢
      have c1 := hc k _ hk0
      have HK := Lib.hid hk0
      clear hr2 hk0 hc hx
      cases h1 : inR Y[k] 0 999
      · have H1 := Lib.hid h1
        go_wp2_with (go_at_call 42; go_must (refine (l6InB_any _ _ _ _).mono ?_); rintro e w2 ⟨rfl, rfl⟩)
        have hF := findOk_no (id := id) HK.out H1.out
        refine bodyPost_ret (v := .tuple #[.agg #[.int .i64 0, .int .i64 0, .int .i64 0], .bool false]) (by simp [results, Try.results25, go_sem, *]) rfl ?_
        exact boundOk_mk ⟨findB_bad hF, hF⟩ (HB.out _ _ _)
      · have H1 := Lib.hid h1
        go_wp2_with (go_at_call 42; go_must (refine (l6InB_any _ _ _ _).mono ?_); rintro e w2 ⟨rfl, rfl⟩)
        go_round
        case rel =>
          refine ⟨k + 1, by omega, by go_num, by rw [HX.out, max_if], fun j hj hjk => ?_⟩
          by_cases hj2 : j < k
          · exact HG.out j hj hj2
          · obtain rfl : j = k := by omega
            exact H1.out
        case measure => simp [intOf]; omega
    · have hkl : k = Y.length := by omega
      have HK := Lib.hid hkl
      have hX : lastY (Y.take k) = lastY Y := by rw [hkl, List.take_length]
      rw [hX]
      clear hkl hr2 hX
      cases h1 : inR id 1 99
      · have H1 := Lib.hid h1
        go_wp2_with (go_at_call 42; go_must (refine (l6InB_any _ _ _ _).mono ?_); rintro e w2 ⟨rfl, rfl⟩)
        have hF := findOk_id (Y := Y) H1.out
        refine bodyPost_ret (v := .tuple #[.agg #[.int .i64 0, .int .i64 0, .int .i64 0], .bool false]) (by simp [results, Try.results25, go_sem, *]) rfl ?_
        exact boundOk_mk ⟨findB_bad hF, hF⟩ (HB.out _ _ _)
      · have H1 := Lib.hid h1
        go_wp2_with (go_at_call 42; go_must (refine (l6InB_any _ _ _ _).mono ?_); rintro e w2 ⟨rfl, rfl⟩)
        have hF := findOk_yes H1.out fun j hj => HG.out j hj (by have := HK.out; omega)
        refine bodyPost_ret (v := .tuple #[.agg #[.int .i64 id, .int .i64 (lastY Y), .int .i64 999], .bool true]) (by simp [results, Try.results25, go_sem, *]) rfl ?_
        exact boundOk_mk ⟨findB_good hF, hF⟩ (HB.out _ _ _)
end Go.Proofs.Ytjmbbepklofodaa
