/- What the functions on a list of contexts that only read return: validity and the place of a number, in the program and in the model of it. -/
import Derived.Test.YtfcjhpgohcbcaaaCtx
namespace Go.Proofs.Ytfcjhpgohcbcaaa
open Go.RowKit

theorem l6In_any (n lo hi : Int) (w : World) :
    Calls Try.prog 51 #[.int .i64 n, .int .i64 lo, .int .i64 hi] w fun e w2 => e = .returned (.bool (inR n lo hi)) ∧ w = w2 := by
  go_enter Try.func51, Try.ntmps51
  go_wp2
  all_goals (go_ret; refine ⟨?_, rfl⟩; simp [inR]; try omega)
theorem inRange_any (n lo hi : Int) (w : World) :
    Calls Try.prog 50 #[.int .i64 n, .int .i64 lo, .int .i64 hi] w fun e w2 => e = .returned (.bool (inR n lo hi)) ∧ w = w2 := by
  go_enter Try.func50, Try.ntmps50
  go_wp2
  all_goals (go_ret; refine ⟨?_, rfl⟩; simp [inR]; try omega)

theorem l1Context_any (a b c : Int) (w : World) :
    Calls Try.prog 46 #[.agg #[.int .i64 a, .int .i64 b, .int .i64 c]] w fun e w2 => e = .returned (.bool (okC ⟨a, b, c⟩)) ∧ Below w.heap.size w w2 := by
  go_enter Try.func46, Try.ntmps46
  go_wp2_with (go_at_call 51; refine (l6In_any _ _ _ _).mono ?_; rintro e w2 ⟨rfl, rfl⟩)
  all_goals (go_ret; exact ⟨by simp [okC, *], (Below.refl _ _).alloc (Nat.le_refl _) _⟩)
theorem contextValid_any (a b c : Int) (w : World) :
    Calls Try.prog 41 #[.agg #[.int .i64 a, .int .i64 b, .int .i64 c]] w fun e w2 => e = .returned (.bool (okC ⟨a, b, c⟩)) ∧ Below w.heap.size w w2 := by
  go_enter Try.func41, Try.ntmps41
  go_wp2_with (go_at_call 50; refine (inRange_any _ _ _ _).mono ?_; rintro e w2 ⟨rfl, rfl⟩)
  all_goals (go_ret; exact ⟨by simp [okC, *], (Below.refl _ _).alloc (Nat.le_refl _) _⟩)

set_option maxHeartbeats 800000 in
theorem sValid_any (A : Option Addr) (cap : Nat) (l : List Ctx) (w : World) (hr : Reads w w.heap.size 3 A l.length (cellsC l)) (hl : l.length ≤ 1000000000000000) :
    Calls Try.prog 20 #[.slice A l.length cap] w fun e w2 => e = .returned (.bool (validL l)) ∧ Below w.heap.size w w2 := by
  go_enter Try.func20, Try.ntmps20
  go_wp2_with fail
  go_loopw [3] (fun i wr => ∃ k : Nat, k ≤ l.length ∧ i = .int .i64 k ∧ Below w.heap.size w wr ∧ ∀ j, j < k → goodAt l j = true) (fun i _ => l.length - (intOf i).toNat)
  case atStart => exact ⟨0, Nat.zero_le _, rfl, Below.refl _ _, fun j h => absurd h (by omega)⟩
  case round =>
    obtain ⟨k, hk, rfl, hb, hg⟩ := hrel
    have HG := Lib.hid hg; clear hg
    by_cases hlt : k < l.length
    · obtain ⟨b, off, rfl, hbl, hc⟩ := (hr.below hb).ctx (by omega)
      have hk0 : l[k]? = some l[k] := List.getElem?_eq_getElem hlt
      have HK := Lib.hid hk0
      obtain ⟨c1, c2, c3⟩ := hc k _ hk0
      have hx := ext_cell (w := wr) hbl
      clear hr hk0
      by_cases h1 : okC l[k] = true
      · rcases Nat.eq_zero_or_pos k with h0 | hpos
        · clear hc
          have HO := Lib.hid h1
          have e0 : decide (0 < k) = false := by simp; omega
          have H0 := Lib.hid h0; clear h0
          go_wp2_with fail
          refine wp_region_ext w.heap.size (by kernel_rfl) (by kernel_rfl) ?_
          repeat (go_big_quiet_step ((go_at_call 46; exact calls_ext hb.size (l1Context_any _ _ _ _))))
          refine wpQuiet_nil ?_
          rintro _ ⟨x, rfl⟩
          go_wp2_with fail
          go_roundw
          case rel =>
            refine ⟨k + 1, by omega, by go_num, hb.trans x.below, fun j hj => ?_⟩
            by_cases hj2 : j < k
            · exact HG.out j hj2
            · obtain rfl : j = k := by omega
              exact goodAt_first H0.out HK.out HO.out
          case measure => simp [intOf]; omega
        · have hk1 : l[k-1]? = some l[k-1] := List.getElem?_eq_getElem (by omega)
          have HK1 := Lib.hid hk1
          obtain ⟨d1, d2, d3⟩ := hc (k-1) _ hk1
          clear hc hk1
          have HO := Lib.hid h1
          have e0 : decide (0 < k) = true := by simp; omega
          have e1 : ((k : Int) - 1).toNat = k - 1 := by omega
          by_cases h2 : l[k-1].id < l[k].id
          · have e2 : decide (l[k].id ≤ l[k-1].id) = false := by simp; omega
            go_wp2_with fail
            refine wp_region_ext w.heap.size (by kernel_rfl) (by kernel_rfl) ?_
            repeat (go_big_quiet_step ((go_at_call 46; exact calls_ext hb.size (l1Context_any _ _ _ _))))
            refine wpQuiet_nil ?_
            rintro _ ⟨x, rfl⟩
            go_wp2_with fail
            go_roundw
            case rel =>
              refine ⟨k + 1, by omega, by go_num, hb.trans x.below, fun j hj => ?_⟩
              by_cases hj2 : j < k
              · exact HG.out j hj2
              · obtain rfl : j = k := by omega
                exact goodAt_next HK.out HK1.out HO.out h2
            case measure => simp [intOf]; omega
          · have e2 : decide (l[k].id ≤ l[k-1].id) = true := by simp; omega
            go_wp2_with fail
            refine wp_region_ext w.heap.size (by kernel_rfl) (by kernel_rfl) ?_
            repeat (go_big_quiet_step ((go_at_call 46; exact calls_ext hb.size (l1Context_any _ _ _ _))))
            refine wpQuiet_nil ?_
            rintro _ ⟨x, rfl⟩
            go_wp2_with fail
            go_ret
            exact ⟨ret_bool (validL_no hlt (goodAt_less hpos HK.out HK1.out (by omega))).symm, hb.trans x.below⟩
      · simp only [Bool.not_eq_true] at h1
        have HO := Lib.hid h1
        clear hc
        go_wp2_with fail
        refine wp_region_ext w.heap.size (by kernel_rfl) (by kernel_rfl) ?_
        repeat (go_big_quiet_step ((go_at_call 46; exact calls_ext hb.size (l1Context_any _ _ _ _))))
        refine wpQuiet_nil ?_
        rintro _ ⟨x, rfl⟩
        go_wp2_with fail
        go_ret
        exact ⟨ret_bool (validL_no hlt (goodAt_bad HK.out HO.out)).symm, hb.trans x.below⟩
    · have hkl : k = l.length := by omega
      go_wp2_with fail
      go_ret
      refine ⟨ret_bool ?_, hb⟩
      rw [validL_of (fun j hj => HG.out j (by omega)), decide_eq_decide]
      omega
end Go.Proofs.Ytfcjhpgohcbcaaa
