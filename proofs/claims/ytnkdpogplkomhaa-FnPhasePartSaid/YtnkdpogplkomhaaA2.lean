/- What the model's functions on relations that only read return: validity, the order, the place of a relation. -/
import Derived.Test.YtnkdpogplkomhaaRel
import Derived.Test.YtnkdpogplkomhaaTriRel
namespace Go.Proofs.Ytnkdpogplkomhaa
open Go.RowKit

theorem l6In_any (n lo hi : Int) (w : World) :
    Calls Try.prog 50 #[.int .i64 n, .int .i64 lo, .int .i64 hi] w fun e w2 => e = .returned (.bool (inR n lo hi)) ∧ w = w2 := by
  go_enter Try.func50, Try.ntmps50
  go_wp2
  all_goals (go_ret; refine ⟨?_, rfl⟩; simp [inR]; try omega)

set_option maxHeartbeats 800000 in
set_option maxRecDepth 100000 in
theorem l2Rel_any (a b c : Int) (w : World) :
    Calls Try.prog 106 #[.agg #[.int .i64 a, .int .i64 b, .int .i64 c]] w fun e w2 => e = .returned (.bool (okR ⟨a, b, c⟩)) ∧ Below w.heap.size w w2 := by
  have hb := (Below.refl w.heap.size w).alloc (Nat.le_refl _) (.cells #[.int .i64 a, .int .i64 b, .int .i64 c] 111)
  go_enter Try.func106, Try.ntmps106
  go_wp2_with (go_at_call 50; refine (l6In_any _ _ _ _).mono ?_; rintro e w2 ⟨rfl, rfl⟩)
  all_goals (go_ret; exact ⟨ret_bool (by simp [okR, *]), (Below.refl _ _).alloc (Nat.le_refl _) _⟩)

set_option maxHeartbeats 800000 in
set_option maxRecDepth 100000 in
theorem l2Less_any (a b c a2 b2 c2 : Int) (w : World) :
    Calls Try.prog 117 #[.agg #[.int .i64 a, .int .i64 b, .int .i64 c], .agg #[.int .i64 a2, .int .i64 b2, .int .i64 c2]] w fun e w2 => e = .returned (.bool (lessR ⟨a, b, c⟩ ⟨a2, b2, c2⟩)) ∧ Below w.heap.size w w2 := by
  go_enter Try.func117, Try.ntmps117
  go_wp2_with fail
  all_goals (go_ret; refine ⟨ret_bool ?_, ((Below.refl _ _).alloc (Nat.le_refl _) _).alloc (by simp) _⟩; show decide _ = lessR _ _; rw [lessR, decide_eq_decide]; dsimp only; (try simp only [bne_iff_ne, ne_eq, bne_eq_false_iff_eq] at *); omega)

set_option maxHeartbeats 800000 in
set_option maxRecDepth 100000 in
theorem sValidR_any (A : Option Addr) (cap : Nat) (l : List Ctx) (w : World) (hr : Reads w w.heap.size 3 A l.length (cellsC l)) (hl : l.length ≤ 1000000000000000) :
    Calls Try.prog 105 #[.slice A l.length cap] w fun e w2 => e = .returned (.bool (validR l)) ∧ Below w.heap.size w w2 := by
  go_enter Try.func105, Try.ntmps105
  go_wp2_with fail
  go_loopw [3] (fun i wr => ∃ k : Nat, k ≤ l.length ∧ i = .int .i64 k ∧ Below w.heap.size w wr ∧ ∀ j, j < k → goodO okR lessR l j = true) (fun i _ => l.length - (intOf i).toNat)
  case atStart => exact ⟨0, Nat.zero_le _, rfl, Below.refl _ _, fun j h => absurd h (by omega)⟩
  case round =>
    obtain ⟨k, hk, rfl, hb, hg⟩ := hrel
    have HG := Lib.hid hg; clear hg
    by_cases hlt : k < l.length
    · obtain ⟨b, off, hA, hbl, hc⟩ := (hr.below hb).ctx (by omega)
      subst hA
      have hk0 : l[k]? = some l[k] := List.getElem?_eq_getElem hlt
      have HK := Lib.hid hk0
      obtain ⟨c1, c2, c3⟩ := hc k _ hk0
      have hx := ext_cell (w := wr) hbl
      clear hr hk0
      by_cases h1 : okR l[k] = true
      · rcases Nat.eq_zero_or_pos k with h0 | hpos
        · clear hc
          have HO := Lib.hid h1
          have e0 : decide (0 < k) = false := by simp; omega
          have H0 := Lib.hid h0; clear h0
          go_wp2_with fail
          refine wp_region_ext w.heap.size (by kernel_rfl) (by kernel_rfl) ?_
          repeat (go_big_quiet_step ((go_at_call 106; exact calls_ext hb.size (l2Rel_any _ _ _ _))))
          refine wpQuiet_nil ?_
          rintro _ ⟨x, rfl⟩
          go_wp2_with fail
          go_roundw
          case rel =>
            refine ⟨k + 1, by omega, by go_num, hb.trans x.below, fun j hj => ?_⟩
            by_cases hj2 : j < k
            · exact HG.out j hj2
            · obtain rfl : j = k := by omega
              exact goodO_first H0.out HK.out HO.out
          case measure => simp [intOf]; omega
        · have hk1 : l[k-1]? = some l[k-1] := List.getElem?_eq_getElem (by omega)
          have HK1 := Lib.hid hk1
          obtain ⟨d1, d2, d3⟩ := hc (k-1) _ hk1
          clear hc hk1
          have HO := Lib.hid h1
          have e0 : decide (0 < k) = true := by simp; omega
          have e1 : ((k : Int) - 1).toNat = k - 1 := by omega
          cases h2 : lessR l[k-1] l[k]
          · have e2 : lessR ⟨l[k-1].id, l[k-1].kind, l[k-1].area⟩ ⟨l[k].id, l[k].kind, l[k].area⟩ = false := h2
            have H2 := Lib.hid h2
            clear h2
            go_wp2_with fail
            refine wp_region_ext w.heap.size (by kernel_rfl) (by kernel_rfl) ?_
            repeat (go_big_quiet_step ((first
              | (go_at_call 106; exact calls_ext hb.size (l2Rel_any _ _ _ _))
              | (go_at_call 117; exact calls_ext hb.size (l2Less_any _ _ _ _ _ _ _)))))
            refine wpQuiet_nil ?_
            rintro _ ⟨x, rfl⟩
            go_wp2_with fail
            go_ret
            exact ⟨ret_bool (validO_no hlt (goodO_less hpos HK.out HK1.out H2.out)).symm, hb.trans x.below⟩
          · have e2 : lessR ⟨l[k-1].id, l[k-1].kind, l[k-1].area⟩ ⟨l[k].id, l[k].kind, l[k].area⟩ = true := h2
            have H2 := Lib.hid h2
            clear h2
            go_wp2_with fail
            refine wp_region_ext w.heap.size (by kernel_rfl) (by kernel_rfl) ?_
            repeat (go_big_quiet_step ((first
              | (go_at_call 106; exact calls_ext hb.size (l2Rel_any _ _ _ _))
              | (go_at_call 117; exact calls_ext hb.size (l2Less_any _ _ _ _ _ _ _)))))
            refine wpQuiet_nil ?_
            rintro _ ⟨x, rfl⟩
            go_wp2_with fail
            go_roundw
            case rel =>
              refine ⟨k + 1, by omega, by go_num, hb.trans x.below, fun j hj => ?_⟩
              by_cases hj2 : j < k
              · exact HG.out j hj2
              · obtain rfl : j = k := by omega
                exact goodO_next HK.out HK1.out HO.out H2.out
            case measure => simp [intOf]; omega
      · simp only [Bool.not_eq_true] at h1
        have HO := Lib.hid h1
        clear hc
        go_wp2_with fail
        refine wp_region_ext w.heap.size (by kernel_rfl) (by kernel_rfl) ?_
        repeat (go_big_quiet_step ((go_at_call 106; exact calls_ext hb.size (l2Rel_any _ _ _ _))))
        refine wpQuiet_nil ?_
        rintro _ ⟨x, rfl⟩
        go_wp2_with fail
        go_ret
        exact ⟨ret_bool (validO_no hlt (goodO_bad HK.out HO.out)).symm, hb.trans x.below⟩
    · have hkl : k = l.length := by omega
      go_wp2_with fail
      go_ret
      refine ⟨ret_bool ?_, hb⟩
      show _ = validR l
      unfold validR
      rw [validO_of (fun j hj => HG.out j (by omega)), decide_eq_decide]
      omega
end Go.Proofs.Ytnkdpogplkomhaa
