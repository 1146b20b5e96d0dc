/- The model's FindsBounds. -/
import Derived.Test.YtopdmcnbchpihaaFna
import Derived.Test.YtopdmcnbchpihaaTriBound
import Derived.Test.YtopdmcnbchpihaaYy
import Derived.Deep.RegionHeld3
namespace Go.Proofs.Ytopdmcnbchpihaa
open Go.RowKit

set_option maxHeartbeats 2000000 in
set_option maxRecDepth 100000 in
theorem sLast_any (A : Option Addr) (cap : Nat) (l : List Ctx) (id : Int) (w : World) (hr : Reads w w.heap.size 3 A l.length (cellsC l)) (hl : l.length ≤ 1000000000000000) :
    Calls Try.prog 65 #[.slice A l.length cap, .int .i64 id] w fun e w2 => e = .returned (.int .i64 (lastYF l id)) ∧ Below w.heap.size w w2 := by
  go_enter Try.func65, Try.ntmps65
  go_wp2_with fail
  go_loopw [5, 6] (fun a i wr => ∃ k : Nat, k ≤ l.length ∧ i = .int .i64 k ∧ a = .int .i64 (maxF (ofB id) Ctx.area (l.take k) (-1)) ∧ Below w.heap.size w wr) (fun _ i _ => l.length - (intOf i).toNat)
  case atStart => exact ⟨0, Nat.zero_le _, rfl, rfl, Below.refl _ _⟩
  case round =>
    obtain ⟨k, hk, rfl, rfl, hb⟩ := hrel
    by_cases hlt : k < l.length
    · obtain ⟨b, off, hA, hbl, hc⟩ := (hr.below hb).ctx (by omega)
      subst hA
      have hk0 : l[k]? = some l[k] := List.getElem?_eq_getElem hlt
      have HX := Lib.hid (maxF_next (p := ofB id) (g := Ctx.area) (a := -1) hk0)
      obtain ⟨x, hx⟩ : ∃ x, x = maxF (ofB id) Ctx.area (l.take k) (-1) := ⟨_, rfl⟩
      rw [← hx] at HX ⊢
      obtain ⟨c1, c2, c3⟩ := hc k _ hk0
      clear hr hk0 hc hx
      have HB := Lib.hid hb
      clear hb
      by_cases h1 : l[k].id = id
      · have e1 : (l[k].id == id) = true := by simp [h1]
        have H1 : Hid (ofB id l[k] = true) := by show ofB id l[k] = true; simp [ofB, h1]
        clear h1
        go_wp2_with fail
        go_roundw
        case rel => exact ⟨k + 1, by omega, by go_num, by rw [HX.out, if_pos H1.out, max_if], HB.out⟩
        case measure => simp [intOf]; omega
      · have e1 : (l[k].id == id) = false := by simp [h1]
        have H1 : Hid (¬ ofB id l[k] = true) := by show ¬ ofB id l[k] = true; simp [ofB, h1]
        clear h1
        go_wp2_with fail
        go_roundw
        case rel => exact ⟨k + 1, by omega, by go_num, by rw [HX.out, if_neg H1.out], HB.out⟩
        case measure => simp [intOf]; omega
    · have hkl : k = l.length := by omega
      have HK := Lib.hid hkl
      clear hkl
      go_wp2_with fail
      go_ret
      refine ⟨ret_int ?_, hb⟩
      rw [HK.out, List.take_length]
      rfl
set_option maxHeartbeats 4000000 in
set_option maxRecDepth 100000 in
theorem sFindsBounds_any (A : Option Addr) (cap : Nat) (l : List Ctx) (w : World) (hr : Reads w w.heap.size 3 A l.length (cellsC l)) (hl : l.length ≤ 1000000000000) :
    Calls Try.prog 18 #[.slice A l.length cap] w (PairB w (fbG l) (fbOk l)) := by
  obtain ⟨i0, hi0, hz0, hz1, hz2⟩ := info_parts infoBound
  have hb1 : Below w.heap.size w (w.alloc (.cells #[] 33)) := (Below.refl _ _).alloc (Nat.le_refl _) _
  have ho1 : (w.alloc (.cells #[] 33)).ownsRow w.heap.size 33 3 (.slice (some ⟨w.heap.size, 0, none⟩) 0 0) 0 (cellsC (fbF l 0)) := own_empty (Nat.le_refl _) rfl
  have hla := fun (W : World) (hW : Below w.heap.size w W) (id : Int) => sLast_any A cap l id W (hr.step hW) (by omega)
  have hv := fun (W : World) (hW : Below w.heap.size w W) => sValidF_any A cap l W (hr.step hW) (by omega)
  have H := Lib.hid (And.intro hb1 (And.intro ho1 (And.intro hla hv)))
  clear hb1 ho1 hla hv hr
  cases h1 : validF l
  · have HG : Hid (fbG l = [] ∧ fbOk l = false) := by
      have h2 : fbOk l = false := by simp [fbOk, h1]
      exact ⟨fbG_no h2, h2⟩
    go_enter Try.func18, Try.ntmps18
    go_wp2_with fail
    refine (H.out.2.2.2 _ H.out.1).mono ?_
    rintro e w2 ⟨rfl, hb2⟩
    rw [h1]
    go_wp2_with fail
    go_ret2
    exact pairB_mk HG.out (below_step H.out.1 hb2) (own_below H.out.2.1 hb2)
  · go_enter Try.func18, Try.ntmps18
    go_wp2_with fail
    refine (H.out.2.2.2 _ H.out.1).mono ?_
    rintro e w2 ⟨rfl, hb2⟩
    rw [h1]
    have K2 := Lib.hid (And.intro (below_step H.out.1 hb2) (own_below H.out.2.1 hb2))
    clear hb2
    go_wp2_with fail
    go_loopw [4, 5] (fun v i wr => ∃ k : Nat, k ≤ 99 ∧ i = .int .i64 ((k : Int) + 1) ∧ Below w.heap.size w wr ∧ wr.ownsRow w.heap.size 33 3 v (fbF l k).length (cellsC (fbF l k))) (fun _ i _ => 100 - (intOf i).toNat)
    case atStart => exact ⟨0, by omega, rfl, K2.out.1, K2.out.2⟩
    case round =>
      obtain ⟨k, hk, rfl, hbl, hown⟩ := hrel
      obtain ⟨A2, c2, hv2, hcap2, hr2⟩ := own_slice hown
      subst hv2
      have hsz := hbl.size
      have hfl := fbF_len l k
      by_cases hlt : k < 99
      · have hki : (k : Int) + 1 ≤ 99 := by omega
        obtain ⟨y, hy⟩ : ∃ y, lastYF l ((k : Int) + 1) = y := ⟨_, rfl⟩
        have hcall := H.out.2.2.1 wr hbl ((k : Int) + 1)
        rw [hy] at hcall
        have hnx := fbF_some (L := l) (n := k)
        have hnn := fbF_none (L := l) (n := k)
        rw [hy] at hnx hnn
        have HB := Lib.hid (And.intro hbl (And.intro hown (And.intro hcall (And.intro hnx hnn))))
        clear hbl hown hcall hnx hnn hy
        by_cases h0 : 0 ≤ y
        · have e0 : decide (0 ≤ y) = true := decide_eq_true h0
          have H0 := Lib.hid h0
          clear h0
          go_wp2_with (first
            | (go_at_call 65
               go_must (refine HB.out.2.2.1.mono ?_)
               rintro e w6 ⟨rfl, k6⟩
               have o6 := own_below HB.out.2.1 k6
               have K6 := Lib.hid (And.intro (below_step HB.out.1 k6) o6)
               have hs6 := K6.out.1.size
               clear o6 k6)
            | (at_builtin
               go_must (refine wpList_append_reads _ rfl (.tmp 21) (.tmp 25) _ rfl w.heap.size 33 i0 _ 3 24 Try.underlying25 hi0 hz0 hz1 hz2 rfl (by omega) (.slice A2 (fbF l k).length c2) (fbF l k).length _ rfl (K6.out.2.alloc _) (w6.heap.size + 1) _ 1 1 (cellsC [⟨(k : Int) + 1, y, 999⟩]) rfl (reads_one (by omega)) (cellsC_one _) (by simp only [maxLen]; omega) (by omega) (by simp; omega) ?_)
               intro v7 w7 hown7 hg7 hat7
               have hb7 := app_below K6.out.2 (Nat.le_refl _) hs6 hg7))
          go_roundw
          case rel =>
            refine ⟨k + 1, by omega, by go_num, K6.out.1.trans hb7, ?_⟩
            rw [HB.out.2.2.2.1 H0.out, List.length_append, cellsC_append]
            exact hown7
          case measure => simp [intOf]; omega
        · have e0 : decide (0 ≤ y) = false := decide_eq_false h0
          have H0 := Lib.hid h0
          clear h0
          go_wp2_with (go_at_call 65
                       go_must (refine HB.out.2.2.1.mono ?_)
                       rintro e w6 ⟨rfl, k6⟩
                       have o6 := own_below HB.out.2.1 k6
                       have K6 := Lib.hid (And.intro (below_step HB.out.1 k6) o6)
                       clear o6 k6)
          go_roundw
          case rel =>
            refine ⟨k + 1, by omega, by go_num, K6.out.1, ?_⟩
            rw [HB.out.2.2.2.2 H0.out]
            exact K6.out.2
          case measure => simp [intOf]; omega
      · obtain rfl : k = 99 := by omega
        have HB := Lib.hid (And.intro hbl hown)
        clear hbl hown
        by_cases h12 : (fbF l 99).length ≤ 12
        · have e12 : decide ((12 : Int) < ((fbF l 99).length : Int)) = false := decide_eq_false (by omega)
          have HG : Hid (fbG l = fbF l 99 ∧ fbOk l = true) := by
            have h2 : fbOk l = true := by simp [fbOk, h1, h12]
            exact ⟨fbG_ok h2, h2⟩
          clear h12
          go_wp2_with fail
          go_ret2
          exact pairB_mk HG.out HB.out.1 HB.out.2
        · have e12 : decide ((12 : Int) < ((fbF l 99).length : Int)) = true := decide_eq_true (by omega)
          have HG : Hid (fbG l = [] ∧ fbOk l = false) := by
            have h2 : fbOk l = false := by simp [fbOk, h12]
            exact ⟨fbG_no h2, h2⟩
          have o9 : (wr.alloc (.cells #[] 33)).ownsRow w.heap.size 33 3 (.slice (some ⟨wr.heap.size, 0, none⟩) 0 0) 0 (cellsC []) := own_empty hsz rfl
          clear h12
          go_wp2_with fail
          go_ret2
          exact pairB_mk HG.out (HB.out.1.alloc hsz _) o9
end Go.Proofs.Ytopdmcnbchpihaa
