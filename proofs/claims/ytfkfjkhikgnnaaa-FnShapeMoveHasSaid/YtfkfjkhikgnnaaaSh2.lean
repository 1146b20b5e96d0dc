/- The model's area of a shape, and whether a point is in it. -/
import Derived.Test.YtfkfjkhikgnnaaaSh1
import Derived.Test.YtfkfjkhikgnnaaaGe5
namespace Go.Proofs.Ytfkfjkhikgnnaaa
open Go.RowKit

theorem fan_small {L : List Sp} (h : okSh L = true) : ∀ k : Nat, -(40000 * (k : Int)) ≤ sumG (fun i => turnG (ptG L 0) (ptG L (i + 1)) (ptG L (i + 2))) k ∧ sumG (fun i => turnG (ptG L 0) (ptG L (i + 1)) (ptG L (i + 2))) k ≤ 40000 * (k : Int)
  | 0 => by simp [sumG]
  | k + 1 => by
    have := fan_small h k
    have := turn_small (inP_pt h 0) (inP_pt h (k + 1)) (inP_pt h (k + 2))
    show -(40000 * ((k + 1 : Nat) : Int)) ≤ sumG (fun i => turnG (ptG L 0) (ptG L (i + 1)) (ptG L (i + 2))) k + turnG (ptG L 0) (ptG L (k + 1)) (ptG L (k + 2)) ∧ sumG (fun i => turnG (ptG L 0) (ptG L (i + 1)) (ptG L (i + 2))) k + turnG (ptG L 0) (ptG L (k + 1)) (ptG L (k + 2)) ≤ _
    omega
theorem sTurnG_any {a b c : Sp} (ha : smP a) (hb : smP b) (hc : smP c) (w : World) :
    Calls Try.prog 49 #[.agg #[.int .i64 a.lo, .int .i64 a.hi], .agg #[.int .i64 b.lo, .int .i64 b.hi], .agg #[.int .i64 c.lo, .int .i64 c.hi]] w fun e w2 => e = .returned (.int .i64 (turnG a b c)) ∧ Below w.heap.size w w2 := by
  rw [← turnW_sm ha hb hc]
  exact sTurn_any a b c w
set_option maxHeartbeats 4000000 in
set_option maxRecDepth 100000 in
theorem sShArea_any (A : Option Addr) (cap : Nat) (L : List Sp) (w : World) (hr : Reads w w.heap.size 2 A L.length (cellsS L)) (hl : L.length ≤ 1000000000) :
    Calls Try.prog 21 #[.slice A L.length cap] w fun e w2 => e = .returned (.int .i64 (areaS L)) ∧ Below w.heap.size w w2 := by
  have hV := sShValid_any A cap L w hr hl
  cases h1 : okSh L
  · rw [h1] at hV
    have H := Lib.hid (And.intro hV (by simp [areaS, h1] : areaS L = -1))
    clear hV h1 hr
    go_enter Try.func21, Try.ntmps21
    go_wp2_with (go_at_call 27; go_must (refine H.out.1.mono ?_); rintro e w2 ⟨rfl, k2⟩)
    go_ret
    exact ⟨ret_int H.out.2.symm, k2⟩
  · rw [h1] at hV
    obtain ⟨hc, n8, _⟩ := okSh_parts h1
    have n3 := hc.three
    have hA : areaS L = sumG (fun i => turnG (ptG L 0) (ptG L (i + 1)) (ptG L (i + 2))) (L.length - 2) := by unfold areaS; rw [if_pos h1]; rfl
    have H := Lib.hid (And.intro hV (And.intro h1 (And.intro hr hA)))
    clear hV h1 hr hc hA
    go_enter Try.func21, Try.ntmps21
    go_wp2_with (go_at_call 27; go_must (refine H.out.1.mono ?_); rintro e w2 ⟨rfl, k2⟩)
    have K2 := Lib.hid k2
    clear k2
    go_loopw [3, 4] (fun s i wr => ∃ q : Nat, 1 ≤ q ∧ q + 1 ≤ L.length ∧ i = .int .i64 q ∧ s = .int .i64 (sumG (fun i => turnG (ptG L 0) (ptG L (i + 1)) (ptG L (i + 2))) (q - 1)) ∧ Below w.heap.size w wr) (fun _ i _ => L.length - (intOf i).toNat)
    case atStart => exact ⟨1, by omega, by omega, rfl, rfl, K2.out⟩
    case round =>
      obtain ⟨q, hq1, hqn, rfl, rfl, hbl⟩ := hrel
      obtain ⟨k, rfl⟩ : ∃ k, q = k + 1 := ⟨q - 1, by omega⟩
      rw [show k + 1 - 1 = k from rfl]
      have hf := fan_small H.out.2.1 k
      obtain ⟨s, hs⟩ : ∃ s, s = sumG (fun i => turnG (ptG L 0) (ptG L (i + 1)) (ptG L (i + 2))) k := ⟨_, rfl⟩
      rw [← hs] at hf ⊢
      obtain ⟨q, hq⟩ : ∃ q, q = k + 1 := ⟨_, rfl⟩
      obtain ⟨r, hr⟩ : ∃ r, r = k + 2 := ⟨_, rfl⟩
      rw [← hq]
      have hqr : (q : Int) + 1 = (r : Int) := by omega
      have hqb : q ≤ 8 := by omega
      by_cases hlt : r < L.length
      · have hri : (r : Int) < (L.length : Int) := by omega
        have hqi : (q : Int) < (L.length : Int) := by omega
        have h0l : 0 < L.length := by omega
        obtain ⟨b, off, hA, hbb, hc⟩ := (H.out.2.2.1.step hbl).corner (by omega)
        subst hA
        obtain ⟨d1, d2⟩ := hc 0 (by omega)
        rw [Nat.zero_mul, Nat.add_zero] at d1 d2
        obtain ⟨d3, d4⟩ := hc q (by omega)
        obtain ⟨d5, d6⟩ := hc r (by omega)
        obtain ⟨t, ht⟩ : ∃ t, t = turnG (ptG L 0) (ptG L q) (ptG L r) := ⟨_, rfl⟩
        have hts := turn_small (inP_pt H.out.2.1 0) (inP_pt H.out.2.1 q) (inP_pt H.out.2.1 r)
        have hT := fun W => sTurnG_any (inP_sm (inP_pt H.out.2.1 0)) (inP_sm (inP_pt H.out.2.1 q)) (inP_sm (inP_pt H.out.2.1 r)) W
        rw [← ht] at hT hts
        have hsn : sumG (fun i => turnG (ptG L 0) (ptG L (i + 1)) (ptG L (i + 2))) (r - 1) = s + t := by
          rw [hr, show k + 2 - 1 = k + 1 from rfl, hs, ht, hq, hr]
          rfl
        have hx := ext_cell (w := wr) hbb
        have hk8 : k ≤ 8 := by omega
        have HT := Lib.hid (And.intro hT (And.intro hbl (And.intro hsn (And.intro hq hr))))
        clear hT hbl hsn ht hs hc hq hr
        go_wp2_with fail
        refine wp_region_ext wr.heap.size (by kernel_rfl) (by kernel_rfl) ?_
        repeat (go_big_quiet_step ((go_at_call 49; exact calls_ext (Nat.le_refl _) (HT.out.1 _))))
        refine wpQuiet_nil ?_
        rintro _ ⟨x9, rfl⟩
        have HY := Lib.hid (below_step HT.out.2.1 x9.below)
        clear hx d1 d2 d3 d4 d5 d6
        go_wp2_with fail
        go_roundw
        case rel => exact ⟨r, by have := HT.out.2.2.2.2; omega, by omega, rfl, by rw [HT.out.2.2.1], HY.out⟩
        case measure => simp [intOf]; omega
      · have hdn : decide ((r : Int) < (L.length : Int)) = false := decide_eq_false (by omega)
        have hkn : k = L.length - 2 := by omega
        have HX := Lib.hid (And.intro hbl (by rw [H.out.2.2.2, hs, hkn] : areaS L = s))
        clear hbl hs hkn hq hr
        go_wp2_with fail
        go_ret
        exact ⟨ret_int HX.out.2.symm, HX.out.1⟩
set_option maxHeartbeats 4000000 in
set_option maxRecDepth 100000 in
theorem sHas_any (A : Option Addr) (cap : Nat) (L : List Sp) (p : Sp) (w : World) (hr : Reads w w.heap.size 2 A L.length (cellsS L)) (hok : okSh L = true) (hp : smP p) :
    Calls Try.prog 56 #[.slice A L.length cap, .agg #[.int .i64 p.lo, .int .i64 p.hi]] w fun e w2 => e = .returned (.bool (hasB L.length (ptG L) p)) ∧ Below w.heap.size w w2 := by
  obtain ⟨hc, n8, _⟩ := okSh_parts hok
  have n3 := hc.three
  obtain ⟨W1, hW1⟩ : ∃ W1, W1 = w.alloc (.cells #[.int .i64 p.lo, .int .i64 p.hi] 27) := ⟨_, rfl⟩
  have b1 : Below w.heap.size w W1 := by rw [hW1]; exact (Below.refl _ _).alloc (Nat.le_refl _) _
  have s1 : w.heap.size < W1.heap.size := by rw [hW1]; simp
  have g1 : W1.heap[w.heap.size]? = some (.cells #[.int .i64 p.lo, .int .i64 p.hi] 27 (0, 0)) := by rw [hW1]; exact heap_alloc_new _ _
  have f1 := cell_of_row _ _ 0 _ _ _ g1
  have f2 := cell_of_row _ _ 1 _ _ _ g1
  have H := Lib.hid (And.intro (hr.step b1) (And.intro hok (And.intro hp (And.intro b1 (And.intro f1 f2)))))
  clear hr hok hp hc b1 g1 f1 f2
  go_enter Try.func56, Try.ntmps56
  go_wp2_with fail
  rw [← hW1]
  clear hW1
  go_loopw [5] (fun i wr => ∃ k : Nat, k ≤ L.length ∧ i = .int .i64 k ∧ Below W1.heap.size W1 wr ∧ ∀ j, j < k → 0 ≤ turnG (ptG L j) (ptG L (j + 1)) p) (fun i _ => L.length - (intOf i).toNat)
  case atStart => exact ⟨0, Nat.zero_le _, rfl, Below.refl _ _, fun j h => absurd h (by omega)⟩
  case round =>
    obtain ⟨k, hk, rfl, hbl, hg⟩ := hrel
    by_cases hlt : k < L.length
    · have hki : (k : Int) < (L.length : Int) := by omega
      obtain ⟨r, hr⟩ : ∃ r, r = (k + 1) % L.length := ⟨_, rfl⟩
      have hrl : r < L.length := by rw [hr]; exact Nat.mod_lt _ (by omega)
      have hri : (r : Int) < (L.length : Int) := by omega
      have hrm : ((k : Int) + 1) % (L.length : Int) = (r : Int) := by rw [hr]; rfl
      have hpr : ptG L r = ptG L (k + 1) := by rw [hr, ptG_mod]
      have hnz : ((L.length : Int) == 0) = false := by rw [beq_eq_false_iff_ne]; omega
      obtain ⟨b, off, hA, hbb, hc⟩ := (H.out.1.step hbl).corner (by omega)
      subst hA
      obtain ⟨d1, d2⟩ := hc k hlt
      obtain ⟨d3, d4⟩ := hc r hrl
      rw [hpr] at d3 d4
      have d5 := (below_cell hbl w.heap.size 0 s1).trans H.out.2.2.2.2.1
      have d6 := (below_cell hbl w.heap.size 1 s1).trans H.out.2.2.2.2.2
      have hsz := hbl.size
      have hwb : w.heap.size < wr.heap.size := by omega
      obtain ⟨t, ht⟩ : ∃ t, t = turnG (ptG L k) (ptG L (k + 1)) p := ⟨_, rfl⟩
      have hT := fun W => sTurnG_any (inP_sm (inP_pt H.out.2.1 k)) (inP_sm (inP_pt H.out.2.1 (k + 1))) H.out.2.2.1 W
      rw [← ht] at hT
      have hx := ext_cell (w := wr) hbb
      have hy := ext_cell (w := wr) hwb
      by_cases ht0 : t < 0
      · have e3 : decide (t < 0) = true := decide_eq_true ht0
        have hno : hasB L.length (ptG L) p = false := by
          cases hh : hasB L.length (ptG L) p
          · rfl
          · have := hasB_iff.1 hh k hlt; omega
        have HT := Lib.hid (And.intro hT (And.intro hbl hno))
        clear hT ht hbl hg ht0 hno hc hr hpr
        go_wp2_with fail
        refine wp_region_ext wr.heap.size (by kernel_rfl) (by kernel_rfl) ?_
        repeat (go_big_quiet_step ((go_at_call 49; exact calls_ext (Nat.le_refl _) (HT.out.1 _))))
        refine wpQuiet_nil ?_
        rintro _ ⟨x9, rfl⟩
        go_wp2_with fail
        go_ret
        exact ⟨ret_bool HT.out.2.2.symm, below_step H.out.2.2.2.1 (below_step HT.out.2.1 x9.below)⟩
      · have e3 : decide (t < 0) = false := decide_eq_false ht0
        have HT := Lib.hid (And.intro hT (And.intro hbl (And.intro hg (And.intro ht (Int.not_lt.1 ht0)))))
        clear hT ht hbl hg ht0 hc hr hpr
        go_wp2_with fail
        refine wp_region_ext wr.heap.size (by kernel_rfl) (by kernel_rfl) ?_
        repeat (go_big_quiet_step ((go_at_call 49; exact calls_ext (Nat.le_refl _) (HT.out.1 _))))
        refine wpQuiet_nil ?_
        rintro _ ⟨x9, rfl⟩
        have HY := Lib.hid (below_step HT.out.2.1 x9.below)
        clear hx hy d1 d2 d3 d4 d5 d6
        go_wp2_with fail
        go_roundw
        case rel =>
          refine ⟨k + 1, by omega, by go_num, HY.out, fun j hj => ?_⟩
          by_cases hjk : j < k
          · exact HT.out.2.2.1 j hjk
          · obtain rfl : j = k := by omega
            rw [← HT.out.2.2.2.1]
            exact HT.out.2.2.2.2
        case measure => simp [intOf]; omega
    · obtain rfl : k = L.length := by omega
      have hdn : decide ((L.length : Int) < (L.length : Int)) = false := decide_eq_false (by omega)
      have HX := Lib.hid (And.intro hbl (hasB_iff.2 fun i hi => hg i hi))
      clear hbl hg
      go_wp2_with fail
      go_ret
      exact ⟨ret_bool HX.out.2.symm, below_step H.out.2.2.2.1 HX.out.1⟩
set_option maxHeartbeats 4000000 in
set_option maxRecDepth 100000 in
theorem sShHas_any (A : Option Addr) (cap : Nat) (L : List Sp) (p : Sp) (w : World) (hr : Reads w w.heap.size 2 A L.length (cellsS L)) (hl : L.length ≤ 1000000000) :
    Calls Try.prog 30 #[.slice A L.length cap, .agg #[.int .i64 p.lo, .int .i64 p.hi]] w fun e w2 => e = .returned (.bool (hasS L p)) ∧ Below w.heap.size w w2 := by
  obtain ⟨W1, hW1⟩ : ∃ W1, W1 = w.alloc (.cells #[.int .i64 p.lo, .int .i64 p.hi] 27) := ⟨_, rfl⟩
  have b1 : Below w.heap.size w W1 := by rw [hW1]; exact (Below.refl _ _).alloc (Nat.le_refl _) _
  have s1 : w.heap.size < W1.heap.size := by rw [hW1]; simp
  have g1 : W1.heap[w.heap.size]? = some (.cells #[.int .i64 p.lo, .int .i64 p.hi] 27 (0, 0)) := by rw [hW1]; exact heap_alloc_new _ _
  have f1 := cell_of_row _ _ 0 _ _ _ g1
  have f2 := cell_of_row _ _ 1 _ _ _ g1
  have hV := sShValid_any A cap L W1 (hr.step b1) hl
  cases h1 : okSh L
  · rw [h1] at hV
    have H := Lib.hid (And.intro hV (And.intro b1 (by simp [hasS, h1] : hasS L p = false)))
    clear hV h1 hr b1 g1 f1 f2
    go_enter Try.func30, Try.ntmps30
    go_wp2_with (go_at_call 27; rw [← hW1]; go_must (refine H.out.1.mono ?_); rintro e w2 ⟨rfl, k2⟩)
    go_ret
    exact ⟨ret_bool H.out.2.2.symm, below_step H.out.2.1 k2⟩
  · rw [h1] at hV
    cases h2 : inP p
    · have H := Lib.hid (And.intro hV (And.intro b1 (And.intro (by simp [hasS, h2] : hasS L p = false) (And.intro f1 f2))))
      have hP := sPoint_any p
      rw [h2] at hP
      have HP := Lib.hid hP
      clear hV h1 hr b1 g1 f1 f2 h2 hP
      go_enter Try.func30, Try.ntmps30
      go_wp2_with (first
        | (go_at_call 27; rw [← hW1]; go_must (refine H.out.1.mono ?_); rintro e w2 ⟨rfl, k2⟩
           have d1 := (below_cell k2 w.heap.size 0 s1).trans H.out.2.2.2.1
           have d2 := (below_cell k2 w.heap.size 1 s1).trans H.out.2.2.2.2)
        | (go_at_call 52; go_must (refine (HP.out _).mono ?_); rintro e w3 ⟨rfl, k3⟩))
      go_ret
      exact ⟨ret_bool H.out.2.2.1.symm, below_step H.out.2.1 (below_step k2 k3)⟩
    · have hP := sPoint_any p
      rw [h2] at hP
      have hH := fun (W : World) (hW : Below W1.heap.size W1 W) => sHas_any A cap L p W ((hr.step b1).step hW) h1 (inP_sm h2)
      have H := Lib.hid (And.intro hV (And.intro b1 (And.intro (by simp [hasS, h1, h2] : hasS L p = hasB L.length (ptG L) p) (And.intro f1 (And.intro f2 (And.intro hP hH))))))
      clear hV h1 hr b1 g1 f1 f2 h2 hP hH
      go_enter Try.func30, Try.ntmps30
      go_wp2_with (first
        | (go_at_call 27; rw [← hW1]; go_must (refine H.out.1.mono ?_); rintro e w2 ⟨rfl, k2⟩
           have d1 := (below_cell k2 w.heap.size 0 s1).trans H.out.2.2.2.1
           have d2 := (below_cell k2 w.heap.size 1 s1).trans H.out.2.2.2.2.1
           have hs2 := k2.size
           have K2 := Lib.hid k2
           clear k2)
        | (go_at_call 52; go_must (refine (H.out.2.2.2.2.2.1 _).mono ?_); rintro e w3 ⟨rfl, k3⟩
           have d3 := (below_cell k3 w.heap.size 0 (by omega)).trans d1
           have d4 := (below_cell k3 w.heap.size 1 (by omega)).trans d2
           have K3 := Lib.hid (below_step K2.out k3)
           clear k3)
        | (go_at_call 56; go_must (refine (H.out.2.2.2.2.2.2 _ K3.out).mono ?_); rintro e w4 ⟨rfl, k4⟩))
      go_ret
      exact ⟨ret_bool H.out.2.2.1.symm, below_step H.out.2.1 (below_step K3.out k4)⟩
end Go.Proofs.Ytfkfjkhikgnnaaa
