/- What the program's bound of finds returns. -/
import Derived.Test.YtopdmcnbchpihaaEe
import Derived.Test.YtopdmcnbchpihaaYy
namespace Go.Proofs.Ytopdmcnbchpihaa
open Go.RowKit

theorem ok_f (id : Int) (A : Option Addr) (cap : Nat) (Y : List Int) : [Ev.f id A cap Y].all okE = findOkB id Y := by simp [okE]
theorem low_f (id : Int) (A : Option Addr) (cap : Nat) (Y : List Int) : lowsE id [Ev.f id A cap Y] 0 = lastY Y := by
  show (if id = id then lowE (Ev.f id A cap Y) 0 else 0) = _
  rw [if_pos rfl]
  rfl
theorem high_f (id : Int) (A : Option Addr) (cap : Nat) (Y : List Int) : highsE id [Ev.f id A cap Y] 999 = 999 := by
  show (if id = id then highE (Ev.f id A cap Y) 999 else 999) = _
  rw [if_pos rfl]
  rfl
theorem reads_ev {w w0 : World} {e : Ev} {t : TypeId} {g : Nat} (hg : g = w0.heap.size) (hw : w = w0.alloc (.cells #[encE e] t)) : Reads w w.heap.size 1 (some ⟨g, 0, none⟩) [e].length ([e].map encE) := by
  subst hg hw
  refine ⟨rfl, fun _ => ⟨_, 0, rfl, by simp, fun j u hu => ?_⟩⟩
  rw [cell_of_row _ _ _ _ _ _ (heap_alloc_new _ _)]
  simpa using hu

set_option maxHeartbeats 2000000 in
set_option maxRecDepth 100000 in
theorem iFindBound_any (A : Option Addr) (cap : Nat) (Y : List Int) (id : Int) (w : World) (hr : Reads w w.heap.size 1 A Y.length (cellsI Y)) (hl : Y.length ≤ 1000000000000000) :
    Calls Try.prog 20 #[.int .i64 id, .slice A Y.length cap] w (BoundOk w (findB id Y) (findOkB id Y)) := by
  obtain ⟨wr, hwr⟩ : ∃ wr, wr = (w.alloc (.cells #[.int .i64 0, .int .i64 0, .int .i64 0] 33)).alloc (.cells #[encE (Ev.f id A cap Y)] 154) := ⟨_, rfl⟩
  have hb : Below w.heap.size w wr := by rw [hwr]; exact ((Below.refl _ _).alloc (Nat.le_refl _) _).alloc (by simp) _
  have hsz : w.heap.size < wr.heap.size := by rw [hwr]; simp; omega
  have hrow : wr.heap[w.heap.size]? = some (.cells #[.int .i64 0, .int .i64 0, .int .i64 0] 33 (0, 0)) := by rw [hwr]; exact row_alloc (heap_alloc_new _ _)
  have HR := Lib.hid (reads_ev (e := Ev.f id A cap Y) (t := 154) (g := w.heap.size + 1) (by simp) hwr)
  have HE : Hid (∀ e ∈ [Ev.f id A cap Y], EvR wr wr.heap.size e) := by
    show ∀ e ∈ [Ev.f id A cap Y], EvR wr wr.heap.size e
    intro e he
    rw [List.mem_singleton.1 he]
    exact ⟨hr.step hb, hl⟩
  have hv := evsValid_any (some ⟨w.heap.size + 1, 0, none⟩) 1 [Ev.f id A cap Y] wr HR.out HE.out (by simp)
  rw [ok_f] at hv
  have HW : Hid (wr = (w.alloc (.cells #[.int .i64 0, .int .i64 0, .int .i64 0] 33)).alloc (.cells #[.iface 93 (.agg #[.int .i64 id, .slice A Y.length cap])] 154)) := hwr
  have HB := Lib.hid (And.intro hb (And.intro hsz hrow))
  clear hr hrow hwr hb hsz
  cases h1 : findOkB id Y
  · rw [h1] at hv
    have H1 := Lib.hid h1
    clear h1
    go_enter Try.func20, Try.ntmps20
    go_wp2_with fail
    rw [← HW.out]
    refine hv.mono ?_
    rintro e w2 ⟨rfl, hb2⟩
    have hrow2 := (hb2.block _ HB.out.2.1).trans HB.out.2.2
    have z0 : w2.cell? ⟨w.heap.size, 0, none⟩ = some (.int .i64 0) := cell_of_row _ _ 0 _ _ _ hrow2
    have z1 : w2.cell? ⟨w.heap.size, 1, none⟩ = some (.int .i64 0) := cell_of_row _ _ 1 _ _ _ hrow2
    have z2 : w2.cell? ⟨w.heap.size, 2, none⟩ = some (.int .i64 0) := cell_of_row _ _ 2 _ _ _ hrow2
    have f0 := frozen_of_row _ _ 0 _ _ hrow2
    have f1 := frozen_of_row _ _ 1 _ _ hrow2
    have f2 := frozen_of_row _ _ 2 _ _ hrow2
    have hbw := below_step HB.out.1 hb2
    have HS : Hid (∀ x y z : Value, Below w.heap.size w (((w2.setCell ⟨w.heap.size, 0, none⟩ x).setCell ⟨w.heap.size, 1, none⟩ y).setCell ⟨w.heap.size, 2, none⟩ z)) := by
      show ∀ x y z : Value, _
      exact fun x y z => ((hbw.setCell (by simp) _).setCell (by simp) _).setCell (by simp) _
    clear hrow2 hb2 hbw
    go_wp2_with fail
    refine bodyPost_ret (v := .tuple #[.agg #[.int .i64 0, .int .i64 0, .int .i64 0], .bool false]) (by simp [results, Try.results20, go_sem, *]) rfl ?_
    exact boundOk_mk ⟨findB_bad H1.out, rfl⟩ (HS.out _ _ _)
  · rw [h1] at hv
    have H1 := Lib.hid h1
    clear h1
    go_enter Try.func20, Try.ntmps20
    go_wp2_with fail
    rw [← HW.out]
    refine hv.mono ?_
    rintro e w3 ⟨rfl, hb3⟩
    have HB3 := Lib.hid hb3
    clear hb3
    go_wp2_with fail
    have hy := yearsLeft_any (some ⟨w.heap.size + 1, 0, none⟩) 1 [Ev.f id A cap Y] id w3 (HR.out.step HB3.out) (fun e he => (HE.out e he).step HB3.out) (by simp)
    rw [low_f, high_f] at hy
    refine hy.mono ?_
    rintro e w2 ⟨rfl, hb4⟩
    have hb2 := below_step HB3.out hb4
    have hrow2 := (hb2.block _ HB.out.2.1).trans HB.out.2.2
    have z0 : w2.cell? ⟨w.heap.size, 0, none⟩ = some (.int .i64 0) := cell_of_row _ _ 0 _ _ _ hrow2
    have z1 : w2.cell? ⟨w.heap.size, 1, none⟩ = some (.int .i64 0) := cell_of_row _ _ 1 _ _ _ hrow2
    have z2 : w2.cell? ⟨w.heap.size, 2, none⟩ = some (.int .i64 0) := cell_of_row _ _ 2 _ _ _ hrow2
    have f0 := frozen_of_row _ _ 0 _ _ hrow2
    have f1 := frozen_of_row _ _ 1 _ _ hrow2
    have f2 := frozen_of_row _ _ 2 _ _ hrow2
    have hbw := below_step HB.out.1 hb2
    have HS : Hid (∀ x y z : Value, Below w.heap.size w (((w2.setCell ⟨w.heap.size, 0, none⟩ x).setCell ⟨w.heap.size, 1, none⟩ y).setCell ⟨w.heap.size, 2, none⟩ z)) := by
      show ∀ x y z : Value, _
      exact fun x y z => ((hbw.setCell (by simp) _).setCell (by simp) _).setCell (by simp) _
    clear hrow2 hb2 hbw hb4 hy
    go_wp2_with fail
    refine bodyPost_ret (v := .tuple #[.agg #[.int .i64 id, .int .i64 (lastY Y), .int .i64 999], .bool true]) (by simp [results, Try.results20, go_sem, *]) rfl ?_
    exact boundOk_mk ⟨findB_good H1.out, rfl⟩ (HS.out _ _ _)
end Go.Proofs.Ytopdmcnbchpihaa
