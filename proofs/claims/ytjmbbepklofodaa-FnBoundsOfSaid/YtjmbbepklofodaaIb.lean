/- What the program's functions on bounds return. -/
import Derived.Test.YtjmbbepklofodaaEl
import Derived.Test.YtjmbbepklofodaaYb
import Derived.Test.YtjmbbepklofodaaCb
import Derived.Deep.RegionHeld3
namespace Go.Proofs.Ytjmbbepklofodaa
open Go.RowKit

set_option maxHeartbeats 800000 in
set_option maxRecDepth 100000 in
theorem iBoundsValid_any (A : Option Addr) (cap : Nat) (l : List Ctx) (w : World) (hr : Reads w w.heap.size 3 A l.length (cellsC l)) (hl : l.length ≤ 1000000000000000) :
    Calls Try.prog 22 #[.slice A l.length cap] w fun e w2 => e = .returned (.bool (validB l)) ∧ Below w.heap.size w w2 := by
  by_cases h : l.length ≤ 12
  · have HV : Hid (validB l = l.all okB) := by show validB l = l.all okB; simp [validB, h]
    go_enter Try.func22, Try.ntmps22
    go_wp2_with (first
      | (go_at_call 40; go_must (refine (evs_any _ _ l _ hr (by omega)).mono ?_); rintro e w2 ⟨A2, cap2, rfl, hb2, hr2⟩)
      | (go_at_call 47; go_must (refine (evsB_valid _ _ l _ hr2 (by omega)).mono ?_); rintro e w3 ⟨rfl, hb3⟩))
    go_ret
    exact ⟨ret_bool HV.out.symm, below_step hb2 hb3⟩
  · have HV := Lib.hid (validB_long (L := l) (by omega))
    go_enter Try.func22, Try.ntmps22
    go_wp2_with fail
    go_ret
    exact ⟨ret_bool HV.out.symm, Below.refl _ _⟩

set_option maxHeartbeats 2000000 in
set_option maxRecDepth 100000 in
theorem iBoundsOf_any (A : Option Addr) (cap : Nat) (l : List Ctx) (id : Int) (w : World) (hr : Reads w w.heap.size 3 A l.length (cellsC l)) (hl : l.length ≤ 1000000000000000) :
    Calls Try.prog 14 #[.slice A l.length cap, .int .i64 id] w fun e w2 => e = .returned (.tuple #[.int .i64 (boundsLowG l id), .int .i64 (boundsHighG l id), .bool (boundsOkG l id)]) ∧ Below w.heap.size w w2 := by
  have hv := iBoundsValid_any A cap l w hr hl
  have HR := Lib.hid hr
  clear hr
  cases h1 : validB l
  · have HG : Hid (boundsOkG l id = false) := by show boundsOkG l id = false; simp [boundsOkG, h1]
    rw [h1] at hv
    go_enter Try.func14, Try.ntmps14
    go_wp2_with (first
      | (go_at_call 22; go_must (refine hv.mono ?_); rintro e w3 ⟨rfl, hb3⟩))
    go_ret3
    exact ⟨by simp [boundsLowG, boundsHighG, HG.out], hb3⟩
  · have h12 := (validB_ok h1).2
    rw [h1] at hv
    cases h2 : inR id 1 99
    · have HG : Hid (boundsOkG l id = false) := by show boundsOkG l id = false; simp [boundsOkG, h2]
      go_enter Try.func14, Try.ntmps14
      go_wp2_with (first
        | (go_at_call 22; go_must (refine hv.mono ?_); rintro e w3 ⟨rfl, hb3⟩)
        | (go_at_call 38; refine (iIn_any _ _ _ _).mono ?_; rintro e w4 ⟨rfl, rfl⟩))
      go_ret3
      exact ⟨by simp [boundsLowG, boundsHighG, HG.out], hb3⟩
    · by_cases h3 : lowB l id ≤ highB l id
      · have HG : Hid (boundsOkG l id = true) := by show boundsOkG l id = true; simp [boundsOkG, h1, h2, h3]
        have e3 : decide (highB l id < lowB l id) = false := decide_eq_false (by omega)
        clear h3
        go_enter Try.func14, Try.ntmps14
        go_wp2_with (first
          | (go_at_call 22; go_must (refine hv.mono ?_); rintro e w3 ⟨rfl, hb3⟩)
          | (go_at_call 38; refine (iIn_any _ _ _ _).mono ?_; rintro e w4 ⟨rfl, rfl⟩)
          | (go_at_call 40; go_must (refine (evs_any _ _ l _ (HR.out.step hb3) (by omega)).mono ?_); rintro e w5 ⟨A5, cap5, rfl, hb5, hr5⟩)
          | (go_at_call 39; go_must (refine (evsB_years _ _ l id _ hr5 (by omega)).mono ?_); rintro e w6 ⟨rfl, hb6⟩))
        go_ret3
        exact ⟨by simp [boundsLowG, boundsHighG, HG.out], below_step (below_step hb3 hb5) hb6⟩
      · have HG : Hid (boundsOkG l id = false) := by show boundsOkG l id = false; simp [boundsOkG, h3]
        have e3 : decide (highB l id < lowB l id) = true := decide_eq_true (by omega)
        clear h3
        go_enter Try.func14, Try.ntmps14
        go_wp2_with (first
          | (go_at_call 22; go_must (refine hv.mono ?_); rintro e w3 ⟨rfl, hb3⟩)
          | (go_at_call 38; refine (iIn_any _ _ _ _).mono ?_; rintro e w4 ⟨rfl, rfl⟩)
          | (go_at_call 40; go_must (refine (evs_any _ _ l _ (HR.out.step hb3) (by omega)).mono ?_); rintro e w5 ⟨A5, cap5, rfl, hb5, hr5⟩)
          | (go_at_call 39; go_must (refine (evsB_years _ _ l id _ hr5 (by omega)).mono ?_); rintro e w6 ⟨rfl, hb6⟩))
        go_ret3
        exact ⟨by simp [boundsLowG, boundsHighG, HG.out], below_step (below_step hb3 hb5) hb6⟩
theorem pairB_made {w w1 w2 : World} {m m2 l2 : List Ctx} {v : Value} {b b2 : Bool} (h : m2 = m ∧ b2 = b) (he : l2 = m) (hb : Below w.heap.size w w1) (hb2 : Below w1.heap.size w1 w2) (ho : w2.ownsRow w1.heap.size 29 3 v l2.length (cellsC l2)) :
    PairB w m2 b2 (.returned (.tuple #[v, .bool b])) w2 := by
  subst he
  exact pairB_mk h (below_step hb hb2) (own_less ho hb.size)

set_option maxHeartbeats 4000000 in
set_option maxRecDepth 100000 in
theorem iBoundsAdd_any (A : Option Addr) (cap : Nat) (l : List Ctx) (c : Ctx) (w : World) (hr : Reads w w.heap.size 3 A l.length (cellsC l)) (hl : l.length ≤ 1000000000000) (_ : l.length ≤ cap) :
    Calls Try.prog 18 #[.slice A l.length cap, .agg #[.int .i64 c.id, .int .i64 c.kind, .int .i64 c.area]] w (PairB w (addB l c) (addOkB l c)) := by
  have hb0 := (Below.refl w.heap.size w).alloc (Nat.le_refl _) (.cells #[.int .i64 c.id, .int .i64 c.kind, .int .i64 c.area] 29)
  have hr1 := hr.step hb0
  by_cases h1 : validB l = true
  · have h12 := (validB_ok h1).2
    by_cases h2 : okB c = true
    · have e2 : okB ⟨c.id, c.kind, c.area⟩ = true := h2
      by_cases h3 : l.length < 12
      · have HA := Lib.hid (addB_new h1 h2 h3)
        have e3 : ((l.length : Int) == 12) = false := by simp; omega
        have HR := Lib.hid hr1
        clear hr hr1 h2 h3
        go_enter Try.func18, Try.ntmps18
        go_wp2_with (first
          | (go_at_call 22; go_must (refine (iBoundsValid_any _ _ l _ HR.out (by omega)).mono ?_); rintro e w2 ⟨rfl, k2⟩; have hc2 := below_cell k2)
          | (go_at_call 45; go_must (refine (iBnd_any _ _ _ _).mono ?_); rintro e w3 ⟨rfl, hb3⟩; have k3 := below_step k2 hb3; have hc3 := below_cell k3))
        have hbc := k3.alloc k3.size (.cells #[.int .i64 c.id, .int .i64 c.kind, .int .i64 c.area] 29)
        have hbv := hbc.alloc hbc.size (.cells #[.slice A l.length cap, .slice (some ⟨w3.heap.size, 0, none⟩) 1 1] 23)
        have hone := (reads_one (w := w3) (c := c) (t := 29) (B := (w3.alloc (.cells #[.int .i64 c.id, .int .i64 c.kind, .int .i64 c.area] 29)).heap.size) (by simp)).step ((Below.refl _ _).alloc (Nat.le_refl _) (.cells #[.slice A l.length cap, .slice (some ⟨w3.heap.size, 0, none⟩) 1 1] 23))
        refine (concat_any _ _ [.slice A l.length cap, .slice (some ⟨w3.heap.size, 0, none⟩) 1 1] [l, [c]] _ (reads_vals (by simp) (by simp)) rfl (by simp) (parts2 (part_mk (HR.out.step hbv)) (part_mk hone)) (by simp; omega)).mono ?_
        rintro e w5 ⟨v, rfl, hb5, ho5⟩
        go_wp2_with fail
        go_ret2
        exact pairB_made HA.out (by simp) (below_step hb0 hbv) hb5 ho5
      · have HA := Lib.hid (addB_full h1 h2 h3)
        have e3 : ((l.length : Int) == 12) = true := by simp; omega
        have HR := Lib.hid hr1
        clear hr hr1 h3 h2
        go_enter Try.func18, Try.ntmps18
        go_wp2_with (first
          | (go_at_call 22; go_must (refine (iBoundsValid_any _ _ l _ HR.out (by omega)).mono ?_); rintro e w2 ⟨rfl, k2⟩; have hc2 := below_cell k2)
          | (go_at_call 45; go_must (refine (iBnd_any _ _ _ _).mono ?_); rintro e w3 ⟨rfl, hb3⟩; have k3 := below_step k2 hb3; have hc3 := below_cell k3))
        have hbv := k3.alloc k3.size (.cells #[.slice A l.length cap] 23)
        refine (concat_any _ _ [.slice A l.length cap] [l] _ (reads_vals (by simp) (by simp)) rfl (by simp) (parts1 (part_mk (HR.out.step hbv))) (by simp; omega)).mono ?_
        rintro e w5 ⟨v, rfl, hb5, ho5⟩
        go_wp2_with fail
        go_ret2
        exact pairB_made HA.out (by simp) (below_step hb0 hbv) hb5 ho5
    · simp only [Bool.not_eq_true] at h2
      have e2 : okB ⟨c.id, c.kind, c.area⟩ = false := h2
      have HA := Lib.hid (addB_bad (L := l) (b := c) (.inr h2))
      clear hr h2
      go_enter Try.func18, Try.ntmps18
      go_wp2_with (first
        | (go_at_call 22; go_must (refine (iBoundsValid_any _ _ l _ hr1 (by omega)).mono ?_); rintro e w2 ⟨rfl, k2⟩; have hc2 := below_cell k2)
        | (go_at_call 45; go_must (refine (iBnd_any _ _ _ _).mono ?_); rintro e w3 ⟨rfl, hb3⟩; have k3 := below_step k2 hb3; have hc3 := below_cell k3))
      go_ret2
      exact pairB_mk HA.out (below_step hb0 k3) (World.ownsRow_nil _ _ _ _)
  · simp only [Bool.not_eq_true] at h1
    have HA := Lib.hid (addB_bad (L := l) (b := c) (.inl h1))
    clear hr
    go_enter Try.func18, Try.ntmps18
    go_wp2_with (first
      | (go_at_call 22; go_must (refine (iBoundsValid_any _ _ l _ hr1 (by omega)).mono ?_); rintro e w2 ⟨rfl, k2⟩; have hc2 := below_cell k2))
    go_ret2
    exact pairB_mk HA.out (below_step hb0 k2) (World.ownsRow_nil _ _ _ _)
theorem ok_f (id : Int) (A : Option Addr) (cap : Nat) (Y : List Int) : [Ev.f id A cap Y].all okE = findOkB id Y := by simp [okE]
theorem low_f (id : Int) (A : Option Addr) (cap : Nat) (Y : List Int) : lowsE id [Ev.f id A cap Y] 0 = lastY Y := by
  show (if id = id then lowE (Ev.f id A cap Y) 0 else 0) = _
  rw [if_pos rfl]
  rfl
theorem high_f (id : Int) (A : Option Addr) (cap : Nat) (Y : List Int) : highsE id [Ev.f id A cap Y] 999 = 999 := by
  show (if id = id then highE (Ev.f id A cap Y) 999 else 999) = _
  rw [if_pos rfl]
  rfl
theorem reads_ev {w w0 : World} {e : Ev} {t : TypeId} {g : Nat} (hg : g = w0.heap.size) (hw : w = w0.alloc (.cells #[encE e] t)) : Reads w w.heap.size 1 (some ⟨g, 0, none⟩) [e].length ([e].map encE) := by
  subst hg hw
  refine ⟨rfl, fun _ => ⟨_, 0, rfl, by simp, fun j u hu => ?_⟩⟩
  rw [cell_of_row _ _ _ _ _ _ (heap_alloc_new _ _)]
  simpa using hu

set_option maxHeartbeats 2000000 in
set_option maxRecDepth 100000 in
theorem iFindBound_any (A : Option Addr) (cap : Nat) (Y : List Int) (id : Int) (w : World) (hr : Reads w w.heap.size 1 A Y.length (cellsI Y)) (hl : Y.length ≤ 1000000000000000) :
    Calls Try.prog 24 #[.int .i64 id, .slice A Y.length cap] w (BoundOk w (findB id Y) (findOkB id Y)) := by
  obtain ⟨wr, hwr⟩ : ∃ wr, wr = (w.alloc (.cells #[.int .i64 0, .int .i64 0, .int .i64 0] 29)).alloc (.cells #[encE (Ev.f id A cap Y)] 77) := ⟨_, rfl⟩
  have hb : Below w.heap.size w wr := by rw [hwr]; exact ((Below.refl _ _).alloc (Nat.le_refl _) _).alloc (by simp) _
  have hsz : w.heap.size < wr.heap.size := by rw [hwr]; simp; omega
  have hrow : wr.heap[w.heap.size]? = some (.cells #[.int .i64 0, .int .i64 0, .int .i64 0] 29 (0, 0)) := by rw [hwr]; exact row_alloc (heap_alloc_new _ _)
  have HR := Lib.hid (reads_ev (e := Ev.f id A cap Y) (t := 77) (g := w.heap.size + 1) (by simp) hwr)
  have HE : Hid (∀ e ∈ [Ev.f id A cap Y], EvR wr wr.heap.size e) := by
    show ∀ e ∈ [Ev.f id A cap Y], EvR wr wr.heap.size e
    intro e he
    rw [List.mem_singleton.1 he]
    exact ⟨hr.step hb, hl⟩
  have hv := evsValid_any (some ⟨w.heap.size + 1, 0, none⟩) 1 [Ev.f id A cap Y] wr HR.out HE.out (by simp)
  rw [ok_f] at hv
  have HW : Hid (wr = (w.alloc (.cells #[.int .i64 0, .int .i64 0, .int .i64 0] 29)).alloc (.cells #[.iface 73 (.agg #[.int .i64 id, .slice A Y.length cap])] 77)) := hwr
  have HB := Lib.hid (And.intro hb (And.intro hsz hrow))
  clear hr hrow hwr hb hsz
  cases h1 : findOkB id Y
  · rw [h1] at hv
    have H1 := Lib.hid h1
    clear h1
    go_enter Try.func24, Try.ntmps24
    go_wp2_with fail
    rw [← HW.out]
    refine hv.mono ?_
    rintro e w2 ⟨rfl, hb2⟩
    have hrow2 := (hb2.block _ HB.out.2.1).trans HB.out.2.2
    have z0 : w2.cell? ⟨w.heap.size, 0, none⟩ = some (.int .i64 0) := cell_of_row _ _ 0 _ _ _ hrow2
    have z1 : w2.cell? ⟨w.heap.size, 1, none⟩ = some (.int .i64 0) := cell_of_row _ _ 1 _ _ _ hrow2
    have z2 : w2.cell? ⟨w.heap.size, 2, none⟩ = some (.int .i64 0) := cell_of_row _ _ 2 _ _ _ hrow2
    have f0 := frozen_of_row _ _ 0 _ _ hrow2
    have f1 := frozen_of_row _ _ 1 _ _ hrow2
    have f2 := frozen_of_row _ _ 2 _ _ hrow2
    have hbw := below_step HB.out.1 hb2
    have HS : Hid (∀ x y z : Value, Below w.heap.size w (((w2.setCell ⟨w.heap.size, 0, none⟩ x).setCell ⟨w.heap.size, 1, none⟩ y).setCell ⟨w.heap.size, 2, none⟩ z)) := by
      show ∀ x y z : Value, _
      exact fun x y z => ((hbw.setCell (by simp) _).setCell (by simp) _).setCell (by simp) _
    clear hrow2 hb2 hbw
    go_wp2_with fail
    refine bodyPost_ret (v := .tuple #[.agg #[.int .i64 0, .int .i64 0, .int .i64 0], .bool false]) (by simp [results, Try.results24, go_sem, *]) rfl ?_
    exact boundOk_mk ⟨findB_bad H1.out, rfl⟩ (HS.out _ _ _)
  · rw [h1] at hv
    have H1 := Lib.hid h1
    clear h1
    go_enter Try.func24, Try.ntmps24
    go_wp2_with fail
    rw [← HW.out]
    refine hv.mono ?_
    rintro e w3 ⟨rfl, hb3⟩
    have HB3 := Lib.hid hb3
    clear hb3
    go_wp2_with fail
    have hy := yearsLeft_any (some ⟨w.heap.size + 1, 0, none⟩) 1 [Ev.f id A cap Y] id w3 (HR.out.step HB3.out) (fun e he => (HE.out e he).step HB3.out) (by simp)
    rw [low_f, high_f] at hy
    refine hy.mono ?_
    rintro e w2 ⟨rfl, hb4⟩
    have hb2 := below_step HB3.out hb4
    have hrow2 := (hb2.block _ HB.out.2.1).trans HB.out.2.2
    have z0 : w2.cell? ⟨w.heap.size, 0, none⟩ = some (.int .i64 0) := cell_of_row _ _ 0 _ _ _ hrow2
    have z1 : w2.cell? ⟨w.heap.size, 1, none⟩ = some (.int .i64 0) := cell_of_row _ _ 1 _ _ _ hrow2
    have z2 : w2.cell? ⟨w.heap.size, 2, none⟩ = some (.int .i64 0) := cell_of_row _ _ 2 _ _ _ hrow2
    have f0 := frozen_of_row _ _ 0 _ _ hrow2
    have f1 := frozen_of_row _ _ 1 _ _ hrow2
    have f2 := frozen_of_row _ _ 2 _ _ hrow2
    have hbw := below_step HB.out.1 hb2
    have HS : Hid (∀ x y z : Value, Below w.heap.size w (((w2.setCell ⟨w.heap.size, 0, none⟩ x).setCell ⟨w.heap.size, 1, none⟩ y).setCell ⟨w.heap.size, 2, none⟩ z)) := by
      show ∀ x y z : Value, _
      exact fun x y z => ((hbw.setCell (by simp) _).setCell (by simp) _).setCell (by simp) _
    clear hrow2 hb2 hbw hb4 hy
    go_wp2_with fail
    refine bodyPost_ret (v := .tuple #[.agg #[.int .i64 id, .int .i64 (lastY Y), .int .i64 999], .bool true]) (by simp [results, Try.results24, go_sem, *]) rfl ?_
    exact boundOk_mk ⟨findB_good H1.out, rfl⟩ (HS.out _ _ _)
end Go.Proofs.Ytjmbbepklofodaa
