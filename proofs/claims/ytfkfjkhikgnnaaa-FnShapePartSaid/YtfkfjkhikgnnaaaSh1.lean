/- The model's turns of points, points in range, and valid shapes. -/
import Derived.Test.YtfkfjkhikgnnaaaGe4
namespace Go.Proofs.Ytfkfjkhikgnnaaa
open Go.RowKit

/-- What the machine reckons for a turn. -/
def turnW (a b c : Sp) : Int := wrap64 (wrap64 (wrap64 (b.lo - a.lo) * wrap64 (c.hi - a.hi)) - wrap64 (wrap64 (b.hi - a.hi) * wrap64 (c.lo - a.lo)))
/-- Numbers that are not too great for turns. -/
def smP (p : Sp) : Prop := (-100000 ≤ p.lo ∧ p.lo ≤ 100000) ∧ -100000 ≤ p.hi ∧ p.hi ≤ 100000
theorem inP_sm {p : Sp} (h : inP p = true) : smP p := by
  have := inP_iff.1 h
  unfold smP
  omega
theorem mul_small {u v K : Int} (h1 : -K ≤ u) (h2 : u ≤ K) (h3 : -K ≤ v) (h4 : v ≤ K) (hK : K = 200000) : -40000000000 ≤ u * v ∧ u * v ≤ 40000000000 := by
  subst hK
  have k1 := Int.mul_nonneg (show 0 ≤ 200000 - u by omega) (show 0 ≤ 200000 + v by omega)
  have k2 := Int.mul_nonneg (show 0 ≤ 200000 + u by omega) (show 0 ≤ 200000 - v by omega)
  have k3 := Int.mul_nonneg (show 0 ≤ 200000 - u by omega) (show 0 ≤ 200000 - v by omega)
  have k4 := Int.mul_nonneg (show 0 ≤ 200000 + u by omega) (show 0 ≤ 200000 + v by omega)
  rw [Int.sub_mul, Int.mul_add, Int.mul_add] at k1
  rw [Int.add_mul, Int.mul_sub, Int.mul_sub] at k2
  rw [Int.sub_mul, Int.mul_sub, Int.mul_sub] at k3
  rw [Int.add_mul, Int.mul_add, Int.mul_add] at k4
  omega
theorem turnW_sm {a b c : Sp} (ha : smP a) (hb : smP b) (hc : smP c) : turnW a b c = turnG a b c := by
  obtain ⟨⟨a1, a2⟩, a3, a4⟩ := ha
  obtain ⟨⟨b1, b2⟩, b3, b4⟩ := hb
  obtain ⟨⟨c1, c2⟩, c3, c4⟩ := hc
  unfold turnW turnG
  have m1 := mul_small (u := b.lo - a.lo) (v := c.hi - a.hi) (K := 200000) (by omega) (by omega) (by omega) (by omega) rfl
  have m2 := mul_small (u := b.hi - a.hi) (v := c.lo - a.lo) (K := 200000) (by omega) (by omega) (by omega) (by omega) rfl
  rw [IntWalk.wrap64_in (b.lo - a.lo) (by omega), IntWalk.wrap64_in (c.hi - a.hi) (by omega), IntWalk.wrap64_in (b.hi - a.hi) (by omega), IntWalk.wrap64_in (c.lo - a.lo) (by omega), IntWalk.wrap64_in ((b.lo - a.lo) * (c.hi - a.hi)) (by omega), IntWalk.wrap64_in ((b.hi - a.hi) * (c.lo - a.lo)) (by omega), IntWalk.wrap64_in _ (by omega)]
theorem sTurn_any (a b c : Sp) (w : World) :
    Calls Try.prog 49 #[.agg #[.int .i64 a.lo, .int .i64 a.hi], .agg #[.int .i64 b.lo, .int .i64 b.hi], .agg #[.int .i64 c.lo, .int .i64 c.hi]] w fun e w2 => e = .returned (.int .i64 (turnW a b c)) ∧ Below w.heap.size w w2 := by
  have hb := (((Below.refl w.heap.size w).alloc (Nat.le_refl _) (.cells #[.int .i64 a.lo, .int .i64 a.hi] 27)).alloc (by simp) (.cells #[.int .i64 b.lo, .int .i64 b.hi] 27)).alloc (by simp; omega) (.cells #[.int .i64 c.lo, .int .i64 c.hi] 27)
  have HB := Lib.hid hb
  clear hb
  go_enter Try.func49, Try.ntmps49
  go_wp2_with fail
  go_ret
  exact ⟨ret_int rfl, HB.out⟩
theorem l6InP_any (n lo hi : Int) (w : World) :
    Calls Try.prog 51 #[.int .i64 n, .int .i64 lo, .int .i64 hi] w fun e w2 => e = .returned (.bool (inR n lo hi)) ∧ w = w2 := by
  go_enter Try.func51, Try.ntmps51
  go_wp2
  all_goals (go_ret; refine ⟨?_, rfl⟩; simp [inR]; try omega)
theorem sPoint_any (p : Sp) (w : World) :
    Calls Try.prog 52 #[.agg #[.int .i64 p.lo, .int .i64 p.hi]] w fun e w2 => e = .returned (.bool (inP p)) ∧ Below w.heap.size w w2 := by
  have hb := (Below.refl w.heap.size w).alloc (Nat.le_refl _) (.cells #[.int .i64 p.lo, .int .i64 p.hi] 27)
  have hi : inP p = (inR p.lo 0 99 && inR p.hi 0 99) := rfl
  cases q1 : inR p.lo 0 99
  · rw [q1] at hi
    have H := Lib.hid (And.intro hi hb)
    clear hi hb
    go_enter Try.func52, Try.ntmps52
    go_wp2_with (go_at_call 51; go_must (refine (l6InP_any _ _ _ _).mono ?_); rintro e w2 ⟨rfl, rfl⟩)
    go_ret
    exact ⟨ret_bool (by rw [H.out.1]; rfl), H.out.2⟩
  · rw [q1] at hi
    have H := Lib.hid (And.intro hi hb)
    clear hi hb
    go_enter Try.func52, Try.ntmps52
    go_wp2_with (go_at_call 51; go_must (refine (l6InP_any _ _ _ _).mono ?_); rintro e w2 ⟨rfl, rfl⟩)
    go_ret
    exact ⟨ret_bool (by rw [H.out.1]; simp), H.out.2⟩
theorem okSh_point {L : List Sp} {k : Nat} (h : inP (ptG L k) = false) : okSh L = false := by
  cases ho : okSh L
  · rfl
  · rw [inP_pt ho k] at h; cases h
theorem okSh_len {L : List Sp} (h : inR (L.length : Int) 3 8 = false) : okSh L = false := by
  simp only [okSh, h, Bool.false_and]
theorem okSh_turn {L : List Sp} {k m : Nat} (hk : k < L.length) (hm : m < L.length) (h1 : m ≠ k) (h2 : m ≠ (k + 1) % L.length) (h : turnW (ptG L k) (ptG L (k + 1)) (ptG L m) ≤ 0) : okSh L = false := by
  cases ho : okSh L
  · rfl
  · exfalso
    rw [turnW_sm (inP_sm (inP_pt ho k)) (inP_sm (inP_pt ho (k + 1))) (inP_sm (inP_pt ho m))] at h
    have := ((okSh_parts ho).1.nonneg k m).2 (by rw [Nat.mod_eq_of_lt hk, Nat.mod_eq_of_lt hm]; exact h1) (by rw [Nat.mod_eq_of_lt hm]; exact h2)
    omega
theorem okSh_all {L : List Sp} (h3 : inR (L.length : Int) 3 8 = true) (h : ∀ j, j < L.length → inP (ptG L j) = true ∧ ∀ m, m < L.length → m ≠ j → m ≠ (j + 1) % L.length → 0 < turnW (ptG L j) (ptG L (j + 1)) (ptG L m)) : okSh L = true := by
  have hn : 3 ≤ L.length := by
    simp only [inR, Bool.and_eq_true, decide_eq_true_eq] at h3
    omega
  have hsm : ∀ j, smP (ptG L j) := fun j => by
    rw [← ptG_mod]
    exact inP_sm (h _ (Nat.mod_lt _ (by omega))).1
  simp only [okSh, Bool.and_eq_true, List.all_eq_true, List.mem_range]
  refine ⟨h3, fun p hp => ?_, fun i hi k hk => ?_⟩
  · obtain ⟨j, hj, rfl⟩ := List.getElem_of_mem hp
    have := (h j hj).1
    rwa [ptG_at (List.getElem?_eq_getElem hj)] at this
  · simp only [sideT, Bool.or_eq_true, decide_eq_true_eq]
    by_cases h1 : k = i
    · exact .inl h1
    · by_cases h2 : k = (i + 1) % L.length
      · exact .inr (.inl h2)
      · refine .inr (.inr ?_)
        have := (h i hi).2 k hk h1 h2
        rwa [turnW_sm (hsm _) (hsm _) (hsm _)] at this
/-- A corner in memory. -/
theorem Reads.corner {w : World} {B : Nat} {A : Option Addr} {L : List Sp} (h : Reads w B 2 A L.length (cellsS L)) (hn : 0 < L.length) : ∃ b off, A = some ⟨b, off, none⟩ ∧ b < B ∧
    ∀ k, k < L.length → w.cell? ⟨b, off + k * 2, none⟩ = some (.int .i64 (ptG L k).lo) ∧ w.cell? ⟨b, off + k * 2 + 1, none⟩ = some (.int .i64 (ptG L k).hi) := by
  obtain ⟨b, off, h1, h2, h3⟩ := h.sp hn
  exact ⟨b, off, h1, h2, fun k hk => h3 k _ (ptG_get hk)⟩
set_option maxHeartbeats 4000000 in
set_option maxRecDepth 100000 in
theorem sShValid_any (A : Option Addr) (cap : Nat) (L : List Sp) (w : World) (hr : Reads w w.heap.size 2 A L.length (cellsS L)) (hl : L.length ≤ 1000000000) :
    Calls Try.prog 27 #[.slice A L.length cap] w fun e w2 => e = .returned (.bool (okSh L)) ∧ Below w.heap.size w w2 := by
  have hI := l6InP_any (L.length : Int) 3 8 w
  cases q1 : inR (L.length : Int) 3 8
  · rw [q1] at hI
    have H := Lib.hid (And.intro hI (okSh_len q1))
    clear hI q1 hr
    go_enter Try.func27, Try.ntmps27
    go_wp2_with (go_at_call 51; go_must (refine H.out.1.mono ?_); rintro e w2 ⟨rfl, rfl⟩)
    go_ret
    exact ⟨ret_bool H.out.2.symm, Below.refl _ _⟩
  · rw [q1] at hI
    have hn : 3 ≤ L.length ∧ L.length ≤ 8 := by
      simp only [inR, Bool.and_eq_true, decide_eq_true_eq] at q1
      omega
    obtain ⟨n3, n8⟩ := hn
    have H := Lib.hid (And.intro hI (And.intro q1 hr))
    clear hI q1 hr
    go_enter Try.func27, Try.ntmps27
    go_wp2_with (go_at_call 51; go_must (refine H.out.1.mono ?_); rintro e w2 ⟨rfl, rfl⟩)
    go_loopw [4] (fun i wr => ∃ k : Nat, k ≤ L.length ∧ i = .int .i64 k ∧ Below w.heap.size w wr ∧ ∀ j, j < k → inP (ptG L j) = true ∧ ∀ m, m < L.length → m ≠ j → m ≠ (j + 1) % L.length → 0 < turnW (ptG L j) (ptG L (j + 1)) (ptG L m)) (fun i _ => L.length - (intOf i).toNat)
    case atStart => exact ⟨0, Nat.zero_le _, rfl, Below.refl _ _, fun j h => absurd h (by omega)⟩
    case round =>
      obtain ⟨k, hk, rfl, hbl, hg⟩ := hrel
      have hsz := hbl.size
      by_cases hlt : k < L.length
      · have hki : (k : Int) < (L.length : Int) := by omega
        obtain ⟨b, off, hA, hbb, hc⟩ := (H.out.2.2.step hbl).corner (by omega)
        subst hA
        obtain ⟨c1, c2⟩ := hc k hlt
        have hP := sPoint_any (ptG L k) wr
        cases q2 : inP (ptG L k)
        · rw [q2] at hP
          have HX := Lib.hid (And.intro hP (And.intro hbl (okSh_point q2)))
          clear hP hbl hg hc q2
          go_wp2_with (go_at_call 52; go_must (refine HX.out.1.mono ?_); rintro e w3 ⟨rfl, k3⟩)
          go_ret
          exact ⟨ret_bool HX.out.2.2.symm, below_step HX.out.2.1 k3⟩
        · rw [q2] at hP
          have HX := Lib.hid (And.intro hP (And.intro hbl (And.intro hg q2)))
          clear hP hbl hg q2 hc
          go_wp2_with (go_at_call 52; go_must (refine HX.out.1.mono ?_); rintro e w3 ⟨rfl, k3⟩)
          clear c1 c2
          have K3 := Lib.hid (below_step HX.out.2.1 k3)
          clear k3
          go_loopw [5] (fun i wq => ∃ m : Nat, m ≤ L.length ∧ i = .int .i64 m ∧ Below w.heap.size w wq ∧ ∀ q, q < m → q ≠ k → q ≠ (k + 1) % L.length → 0 < turnW (ptG L k) (ptG L (k + 1)) (ptG L q)) (fun i _ => L.length - (intOf i).toNat)
          case atStart => exact ⟨0, Nat.zero_le _, rfl, K3.out, fun j h => absurd h (by omega)⟩
          case round =>
            obtain ⟨m, hm, rfl, hbm, hgm⟩ := hrel
            by_cases hmt : m < L.length
            · have hmi : (m : Int) < (L.length : Int) := by omega
              obtain ⟨r, hr⟩ : ∃ r, r = (k + 1) % L.length := ⟨_, rfl⟩
              have hrl : r < L.length := by rw [hr]; exact Nat.mod_lt _ (by omega)
              have hri : (r : Int) < (L.length : Int) := by omega
              have hrm : ((k : Int) + 1) % (L.length : Int) = (r : Int) := by rw [hr]; rfl
              have hpr : ptG L r = ptG L (k + 1) := by rw [hr, ptG_mod]
              have hnz : ((L.length : Int) == 0) = false := by rw [beq_eq_false_iff_ne]; omega
              obtain ⟨b2, off2, hA2, hbb2, hc2⟩ := (H.out.2.2.step hbm).corner (by omega)
              injection hA2 with hA2
              injection hA2 with e1 e2 e3
              subst e1 e2
              clear e3
              obtain ⟨d1, d2⟩ := hc2 k hlt
              obtain ⟨d3, d4⟩ := hc2 r hrl
              obtain ⟨d5, d6⟩ := hc2 m hmt
              rw [hpr] at d3 d4
              rw [← hr] at hgm
              have HM := Lib.hid (And.intro hbm (And.intro hgm (And.intro hr hpr)))
              clear hbm hgm hr hc2 hpr
              by_cases m1 : m = k
              · have e1 : ((m : Int) != (k : Int)) = false := by simp [m1]
                have M1 := Lib.hid m1
                clear m1 d1 d2 d3 d4 d5 d6
                go_wp2_with fail
                go_quiet (fail)
                go_wp2_with fail
                go_roundw
                case rel =>
                  refine ⟨m + 1, by omega, by go_num, below_draws HM.out.1 nq, fun q hq hqk hqr => ?_⟩
                  rw [← HM.out.2.2.1] at hqr
                  by_cases hqm : q < m
                  · exact HM.out.2.1 q hqm hqk hqr
                  · exact absurd (by have := M1.out; omega) hqk
                case measure => simp [intOf]; omega
              · have e1 : ((m : Int) != (k : Int)) = true := by simp; omega
                by_cases m2 : m = r
                · have e2 : ((m : Int) != (r : Int)) = false := by simp [m2]
                  have M1 := Lib.hid m2
                  clear m1 m2 d1 d2 d3 d4 d5 d6
                  go_wp2_with fail
                  go_quiet (fail)
                  go_wp2_with fail
                  go_roundw
                  case rel =>
                    refine ⟨m + 1, by omega, by go_num, below_draws HM.out.1 nq, fun q hq hqk hqr => ?_⟩
                    rw [← HM.out.2.2.1] at hqr
                    by_cases hqm : q < m
                    · exact HM.out.2.1 q hqm hqk hqr
                    · exact absurd (by have := M1.out; omega) hqr
                  case measure => simp [intOf]; omega
                · have e2 : ((m : Int) != (r : Int)) = true := by simp; omega
                  obtain ⟨t, ht⟩ : ∃ t, t = turnW (ptG L k) (ptG L (k + 1)) (ptG L m) := ⟨_, rfl⟩
                  have hT := fun W => sTurn_any (ptG L k) (ptG L (k + 1)) (ptG L m) W
                  rw [← ht] at hT
                  have hx := ext_cell (w := wr) hbb2
                  by_cases ht0 : t ≤ 0
                  · have e3 : decide (t ≤ 0) = true := decide_eq_true ht0
                    have HT := Lib.hid (And.intro hT (okSh_turn hlt hmt m1 (by rw [← HM.out.2.2.1]; exact m2) (by rw [← ht]; exact ht0)))
                    clear hT ht m1 m2 ht0
                    go_wp2_with fail
                    refine wp_region_ext wr.heap.size (by kernel_rfl) (by kernel_rfl) ?_
                    repeat (go_big_quiet_step ((go_at_call 49; exact calls_ext (Nat.le_refl _) (HT.out.1 _))))
                    refine wpQuiet_nil ?_
                    rintro _ ⟨x9, rfl⟩
                    go_wp2_with fail
                    go_ret
                    exact ⟨ret_bool HT.out.2.symm, below_step HM.out.1 x9.below⟩
                  · have e3 : decide (t ≤ 0) = false := decide_eq_false ht0
                    have HT := Lib.hid (And.intro hT (And.intro ht (Int.not_le.1 ht0)))
                    clear hT ht m1 m2 ht0
                    go_wp2_with fail
                    refine wp_region_ext wr.heap.size (by kernel_rfl) (by kernel_rfl) ?_
                    repeat (go_big_quiet_step ((go_at_call 49; exact calls_ext (Nat.le_refl _) (HT.out.1 _))))
                    refine wpQuiet_nil ?_
                    rintro _ ⟨x9, rfl⟩
                    have HY := Lib.hid (below_step HM.out.1 x9.below)
                    clear hx d1 d2 d3 d4 d5 d6
                    go_wp2_with fail
                    go_roundw
                    case rel =>
                      refine ⟨m + 1, by omega, by go_num, HY.out, fun q hq hqk hqr => ?_⟩
                      rw [← HM.out.2.2.1] at hqr
                      by_cases hqm : q < m
                      · exact HM.out.2.1 q hqm hqk hqr
                      · obtain rfl : q = m := by omega
                        rw [← HT.out.2.1]
                        exact HT.out.2.2
                    case measure => simp [intOf]; omega
            · have hdm : decide ((m : Int) < (L.length : Int)) = false := decide_eq_false (by omega)
              have HM := Lib.hid (And.intro hbm hgm)
              clear hbm hgm
              go_wp2_with fail
              go_roundw
              case rel =>
                refine ⟨k + 1, by omega, by go_num, HM.out.1, fun j hj => ?_⟩
                by_cases hjk : j < k
                · exact HX.out.2.2.1 j hjk
                · obtain rfl : j = k := by omega
                  exact ⟨HX.out.2.2.2, fun q hq => HM.out.2 q (by omega)⟩
              case measure => simp [intOf]; omega
      · obtain rfl : k = L.length := by omega
        have hdn : decide ((L.length : Int) < (L.length : Int)) = false := decide_eq_false (by omega)
        have HX := Lib.hid (And.intro hbl (okSh_all H.out.2.1 hg))
        clear hbl hg
        go_wp2_with fail
        go_ret
        exact ⟨ret_bool HX.out.2.symm, HX.out.1⟩
end Go.Proofs.Ytfkfjkhikgnnaaa
