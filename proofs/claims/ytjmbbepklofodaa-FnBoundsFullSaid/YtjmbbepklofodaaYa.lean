/- What the model's functions on bounds that only read return: validity and spans. -/
import Derived.Test.YtjmbbepklofodaaBo
import Derived.Test.YtjmbbepklofodaaTriBound
namespace Go.Proofs.Ytjmbbepklofodaa
open Go.RowKit

theorem max_if (x y : Int) : (if x < y then y else x) = max x y := by split <;> omega
theorem min_if (x y : Int) : (if y < x then y else x) = min x y := by split <;> omega
theorem l6InB_any (n lo hi : Int) (w : World) :
    Calls Try.prog 42 #[.int .i64 n, .int .i64 lo, .int .i64 hi] w fun e w2 => e = .returned (.bool (inR n lo hi)) ∧ w = w2 := by
  go_enter Try.func42, Try.ntmps42
  go_wp2
  all_goals (go_ret; refine ⟨?_, rfl⟩; simp [inR]; try omega)

set_option maxHeartbeats 800000 in
set_option maxRecDepth 100000 in
theorem l12Bound_any (a b c : Int) (w : World) :
    Calls Try.prog 43 #[.agg #[.int .i64 a, .int .i64 b, .int .i64 c]] w fun e w2 => e = .returned (.bool (okB ⟨a, b, c⟩)) ∧ Below w.heap.size w w2 := by
  have hb := (Below.refl w.heap.size w).alloc (Nat.le_refl _) (.cells #[.int .i64 a, .int .i64 b, .int .i64 c] 29)
  go_enter Try.func43, Try.ntmps43
  go_wp2_with (go_at_call 42; refine (l6InB_any _ _ _ _).mono ?_; rintro e w2 ⟨rfl, rfl⟩)
  all_goals (go_ret; exact ⟨ret_bool (by simp [okB, *]), (Below.refl _ _).alloc (Nat.le_refl _) _⟩)

set_option maxHeartbeats 800000 in
set_option maxRecDepth 100000 in
theorem sValidB_any (A : Option Addr) (cap : Nat) (l : List Ctx) (w : World) (hr : Reads w w.heap.size 3 A l.length (cellsC l)) (hl : l.length ≤ 1000000000000000) :
    Calls Try.prog 16 #[.slice A l.length cap] w fun e w2 => e = .returned (.bool (validB l)) ∧ Below w.heap.size w w2 := by
  go_enter Try.func16, Try.ntmps16
  go_wp2_with fail
  go_loopw [3] (fun i wr => ∃ k : Nat, k ≤ l.length ∧ i = .int .i64 k ∧ Below w.heap.size w wr ∧ ∀ j (hj : j < l.length), j < k → okB l[j] = true) (fun i _ => l.length - (intOf i).toNat)
  case atStart => exact ⟨0, Nat.zero_le _, rfl, Below.refl _ _, fun j _ h => absurd h (by omega)⟩
  case round =>
    obtain ⟨k, hk, rfl, hb, hg⟩ := hrel
    have HG := Lib.hid hg; clear hg
    by_cases hlt : k < l.length
    · obtain ⟨b, off, hA, hbl, hc⟩ := (hr.below hb).ctx (by omega)
      subst hA
      have hk0 : l[k]? = some l[k] := List.getElem?_eq_getElem hlt
      have HK := Lib.hid hk0
      obtain ⟨c1, c2, c3⟩ := hc k _ hk0
      clear hr hk0 hc
      have HB := Lib.hid hb
      have hsz := hb.size
      clear hb
      cases h1 : okB l[k]
      · have HO := Lib.hid h1
        have e1 : okB ⟨l[k].id, l[k].kind, l[k].area⟩ = false := h1
        clear h1
        go_wp2_with (go_at_call 43; go_must (refine (l12Bound_any _ _ _ _).mono ?_); rintro e w2 ⟨rfl, hb2⟩)
        go_ret
        exact ⟨ret_bool (validB_bad (List.mem_of_getElem? HK.out) HO.out).symm, HB.out.trans (hb2.mono hsz)⟩
      · have HO := Lib.hid h1
        have e1 : okB ⟨l[k].id, l[k].kind, l[k].area⟩ = true := h1
        clear h1
        go_wp2_with (go_at_call 43; go_must (refine (l12Bound_any _ _ _ _).mono ?_); rintro e w2 ⟨rfl, hb2⟩)
        go_roundw
        case rel =>
          refine ⟨k + 1, by omega, by go_num, HB.out.trans (hb2.mono hsz), fun j hj hjk => ?_⟩
          by_cases hj2 : j < k
          · exact HG.out j hj hj2
          · obtain rfl : j = k := by omega
            exact HO.out
        case measure => simp [intOf]; omega
    · have hkl : k = l.length := by omega
      go_wp2_with fail
      go_ret
      refine ⟨ret_bool ?_, hb⟩
      have hall : l.all okB = true := by
        rw [List.all_eq_true]
        intro b hb
        obtain ⟨j, hj, rfl⟩ := List.getElem_of_mem hb
        exact HG.out j hj (by omega)
      show _ = validB l
      unfold validB
      rw [hall, Bool.true_and, decide_eq_decide]
      omega

set_option maxHeartbeats 2000000 in
set_option maxRecDepth 100000 in
theorem sSpan_any (A : Option Addr) (cap : Nat) (l : List Ctx) (id : Int) (w : World) (hr : Reads w w.heap.size 3 A l.length (cellsC l)) (hl : l.length ≤ 1000000000000000) :
    Calls Try.prog 41 #[.slice A l.length cap, .int .i64 id] w fun e w2 => e = .returned (.tuple #[.int .i64 (lowB l id), .int .i64 (highB l id)]) ∧ Below w.heap.size w w2 := by
  go_enter Try.func41, Try.ntmps41
  go_wp2_with fail
  go_loopw [6, 7, 8] (fun a b i wr => ∃ k : Nat, k ≤ l.length ∧ i = .int .i64 k ∧ a = .int .i64 (maxF (ofB id) Ctx.kind (l.take k) 0) ∧ b = .int .i64 (minF (ofB id) Ctx.area (l.take k) 999) ∧ Below w.heap.size w wr) (fun _ _ i _ => l.length - (intOf i).toNat)
  case atStart => exact ⟨0, Nat.zero_le _, rfl, rfl, rfl, Below.refl _ _⟩
  case round =>
    obtain ⟨k, hk, rfl, rfl, rfl, hb⟩ := hrel
    by_cases hlt : k < l.length
    · obtain ⟨b, off, hA, hbl, hc⟩ := (hr.below hb).ctx (by omega)
      subst hA
      have hk0 : l[k]? = some l[k] := List.getElem?_eq_getElem hlt
      have HX := Lib.hid (maxF_next (p := ofB id) (g := Ctx.kind) (a := 0) hk0)
      have HY := Lib.hid (minF_next (p := ofB id) (g := Ctx.area) (a := 999) hk0)
      obtain ⟨x, hx⟩ : ∃ x, x = maxF (ofB id) Ctx.kind (l.take k) 0 := ⟨_, rfl⟩
      obtain ⟨y, hy⟩ : ∃ y, y = minF (ofB id) Ctx.area (l.take k) 999 := ⟨_, rfl⟩
      rw [← hx] at HX ⊢
      rw [← hy] at HY ⊢
      obtain ⟨c1, c2, c3⟩ := hc k _ hk0
      clear hr hk0 hc hx hy
      have HB := Lib.hid hb
      clear hb
      by_cases h1 : l[k].id = id
      · have e1 : (l[k].id == id) = true := by simp [h1]
        have H1 : Hid (ofB id l[k] = true) := by show ofB id l[k] = true; simp [ofB, h1]
        clear h1
        go_wp2_with fail
        go_roundw
        case rel => exact ⟨k + 1, by omega, by go_num, by rw [HX.out, if_pos H1.out, max_if], by rw [HY.out, if_pos H1.out, min_if], HB.out⟩
        case measure => simp [intOf]; omega
      · have e1 : (l[k].id == id) = false := by simp [h1]
        have H1 : Hid (¬ ofB id l[k] = true) := by show ¬ ofB id l[k] = true; simp [ofB, h1]
        clear h1
        go_wp2_with fail
        go_roundw
        case rel => exact ⟨k + 1, by omega, by go_num, by rw [HX.out, if_neg H1.out], by rw [HY.out, if_neg H1.out], HB.out⟩
        case measure => simp [intOf]; omega
    · have hkl : k = l.length := by omega
      have HK := Lib.hid hkl
      clear hkl
      go_wp2_with fail
      go_ret2
      refine ⟨?_, hb⟩
      rw [HK.out, List.take_length]
      rfl

set_option maxHeartbeats 2000000 in
set_option maxRecDepth 100000 in
theorem sBoundsOf_any (A : Option Addr) (cap : Nat) (l : List Ctx) (id : Int) (w : World) (hr : Reads w w.heap.size 3 A l.length (cellsC l)) (hl : l.length ≤ 1000000000000000) :
    Calls Try.prog 15 #[.slice A l.length cap, .int .i64 id] w fun e w2 => e = .returned (.tuple #[.int .i64 (boundsLowG l id), .int .i64 (boundsHighG l id), .bool (boundsOkG l id)]) ∧ Below w.heap.size w w2 := by
  have HR := Lib.hid hr
  clear hr
  cases h1 : validB l
  · have HG : Hid (boundsOkG l id = false) := by show boundsOkG l id = false; simp [boundsOkG, h1]
    go_enter Try.func15, Try.ntmps15
    go_wp2_with fail
    refine (sSpan_any _ _ l id _ HR.out hl).mono ?_
    rintro e w2 ⟨rfl, hb2⟩
    go_wp2_with fail
    refine (sValidB_any _ _ l _ (HR.out.step hb2) hl).mono ?_
    rintro e w3 ⟨rfl, hb3⟩
    rw [h1]
    go_wp2_with fail
    go_ret3
    exact ⟨by simp [boundsLowG, boundsHighG, HG.out], below_step hb2 hb3⟩
  · cases h2 : inR id 1 99
    · have HG : Hid (boundsOkG l id = false) := by show boundsOkG l id = false; simp [boundsOkG, h2]
      go_enter Try.func15, Try.ntmps15
      go_wp2_with fail
      refine (sSpan_any _ _ l id _ HR.out hl).mono ?_
      rintro e w2 ⟨rfl, hb2⟩
      go_wp2_with fail
      refine (sValidB_any _ _ l _ (HR.out.step hb2) hl).mono ?_
      rintro e w3 ⟨rfl, hb3⟩
      rw [h1]
      go_wp2_with (go_at_call 42; refine (l6InB_any _ _ _ _).mono ?_; rintro e w4 ⟨rfl, rfl⟩)
      go_ret3
      exact ⟨by simp [boundsLowG, boundsHighG, HG.out], below_step hb2 hb3⟩
    · by_cases h3 : lowB l id ≤ highB l id
      · have HG : Hid (boundsOkG l id = true) := by show boundsOkG l id = true; simp [boundsOkG, h1, h2, h3]
        have e3 : decide (highB l id < lowB l id) = false := decide_eq_false (by omega)
        clear h3
        go_enter Try.func15, Try.ntmps15
        go_wp2_with fail
        refine (sSpan_any _ _ l id _ HR.out hl).mono ?_
        rintro e w2 ⟨rfl, hb2⟩
        go_wp2_with fail
        refine (sValidB_any _ _ l _ (HR.out.step hb2) hl).mono ?_
        rintro e w3 ⟨rfl, hb3⟩
        rw [h1]
        go_wp2_with (go_at_call 42; refine (l6InB_any _ _ _ _).mono ?_; rintro e w4 ⟨rfl, rfl⟩)
        go_ret3
        exact ⟨by simp [boundsLowG, boundsHighG, HG.out], below_step hb2 hb3⟩
      · have HG : Hid (boundsOkG l id = false) := by show boundsOkG l id = false; simp [boundsOkG, h3]
        have e3 : decide (highB l id < lowB l id) = true := decide_eq_true (by omega)
        clear h3
        go_enter Try.func15, Try.ntmps15
        go_wp2_with fail
        refine (sSpan_any _ _ l id _ HR.out hl).mono ?_
        rintro e w2 ⟨rfl, hb2⟩
        go_wp2_with fail
        refine (sValidB_any _ _ l _ (HR.out.step hb2) hl).mono ?_
        rintro e w3 ⟨rfl, hb3⟩
        rw [h1]
        go_wp2_with (go_at_call 42; refine (l6InB_any _ _ _ _).mono ?_; rintro e w4 ⟨rfl, rfl⟩)
        go_ret3
        exact ⟨by simp [boundsLowG, boundsHighG, HG.out], below_step hb2 hb3⟩
end Go.Proofs.Ytjmbbepklofodaa
