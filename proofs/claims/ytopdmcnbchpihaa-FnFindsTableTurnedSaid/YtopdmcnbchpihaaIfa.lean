/- What the program's check of finds returns. -/
import Derived.Test.YtopdmcnbchpihaaFf
import Derived.Test.YtopdmcnbchpihaaP1
namespace Go.Proofs.Ytopdmcnbchpihaa
open Go.RowKit

theorem iFnd1_any (a b c : Int) (w : World) :
    Calls Try.prog 83 #[.agg #[.int .i64 a, .int .i64 b, .int .i64 c]] w fun e w2 => e = .returned (.bool (okF ⟨a, b, c⟩)) ∧ Below w.heap.size w w2 := by
  have hb := (Below.refl w.heap.size w).alloc (Nat.le_refl _) (.cells #[.int .i64 a, .int .i64 b, .int .i64 c] 31)
  go_enter Try.func83, Try.ntmps83
  go_wp2_with (go_at_call 103; refine (iIn_any _ _ _ _).mono ?_; rintro e w2 ⟨rfl, rfl⟩)
  all_goals (go_ret; exact ⟨ret_bool (by simp [okF, *]), (Below.refl _ _).alloc (Nat.le_refl _) _⟩)
set_option maxHeartbeats 1600000 in
set_option maxRecDepth 100000 in
theorem iFindsValid_any (A : Option Addr) (cap : Nat) (l : List Ctx) (w : World) (hr : Reads w w.heap.size 3 A l.length (cellsC l)) (hl : l.length ≤ 1000000000000000) :
    Calls Try.prog 31 #[.slice A l.length cap] w fun e w2 => e = .returned (.bool (validF l)) ∧ Below w.heap.size w w2 := by
  by_cases h20 : l.length ≤ 20
  · have e20 : decide ((20 : Int) < (l.length : Int)) = false := decide_eq_false (by omega)
    have H20 := Lib.hid h20
    clear h20
    go_enter Try.func31, Try.ntmps31
    go_wp2_with fail
    go_loopw [10] (fun i wr => ∃ k : Nat, k ≤ l.length ∧ i = .int .i64 k ∧ Below w.heap.size w wr ∧ ∀ j (hj : j < l.length), j < k → okF l[j] = true) (fun i _ => l.length - (intOf i).toNat)
    case atStart => exact ⟨0, Nat.zero_le _, rfl, Below.refl _ _, fun j _ h => absurd h (by omega)⟩
    case round =>
      obtain ⟨k, hk, rfl, hb, hg⟩ := hrel
      have HG := Lib.hid hg; clear hg
      by_cases hlt : k < l.length
      · have hki : (k : Int) < (l.length : Int) := by omega
        obtain ⟨b, off, hA, hbl, hc⟩ := (hr.below hb).ctx (by omega)
        subst hA
        have hk0 : l[k]? = some l[k] := List.getElem?_eq_getElem hlt
        have HK := Lib.hid hk0
        obtain ⟨c1, c2, c3⟩ := hc k _ hk0
        have HB := Lib.hid hb
        have hsz := hb.size
        clear hr hk0 hc hb
        cases h1 : okF l[k]
        · have HO := Lib.hid h1
          have e1 : okF ⟨l[k].id, l[k].kind, l[k].area⟩ = false := h1
          clear h1
          go_wp2_with (go_at_call 83; go_must (refine (iFnd1_any _ _ _ _).mono ?_); rw [e1]; rintro e w2 ⟨rfl, hb2⟩)
          go_ret
          exact ⟨ret_bool (validF_bad (List.mem_of_getElem? HK.out) HO.out).symm, (HB.out.alloc hsz _).trans (hb2.mono (Nat.le_trans hsz (by simp)))⟩
        · have HO := Lib.hid h1
          have e1 : okF ⟨l[k].id, l[k].kind, l[k].area⟩ = true := h1
          clear h1
          go_wp2_with (go_at_call 83; go_must (refine (iFnd1_any _ _ _ _).mono ?_); rw [e1]; rintro e w2 ⟨rfl, hb2⟩)
          go_roundw
          case rel =>
            refine ⟨k + 1, by omega, by go_num, (HB.out.alloc hsz _).trans (hb2.mono (Nat.le_trans hsz (by simp))), fun j hj hjk => ?_⟩
            by_cases hj2 : j < k
            · exact HG.out j hj hj2
            · obtain rfl : j = k := by omega
              exact HO.out
          case measure => simp [intOf]; omega
      · have hkl : k = l.length := by omega
        have HK := Lib.hid hkl
        clear hkl
        go_wp2_with fail
        go_ret
        exact ⟨ret_bool (validF_mk (fun f hf => by obtain ⟨j, hj, rfl⟩ := List.getElem_of_mem hf; exact HG.out j hj (by have := HK.out; omega)) H20.out).symm, hb⟩
  · have e20 : decide ((20 : Int) < (l.length : Int)) = true := decide_eq_true (by omega)
    have HV : Hid (validF l = false) := by show validF l = false; simp [validF]; intro _; omega
    clear h20
    go_enter Try.func31, Try.ntmps31
    go_wp2_with fail
    go_ret
    exact ⟨ret_bool HV.out.symm, Below.refl _ _⟩
end Go.Proofs.Ytopdmcnbchpihaa
