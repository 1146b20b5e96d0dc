/- The program's shapes: bent to the left, the area, a point in it. -/
import Derived.Test.YtfkfjkhikgnnaaaIs1
namespace Go.Proofs.Ytfkfjkhikgnnaaa
open Go.RowKit

def bentB (q : Nat → Sp) (n : Nat) : Bool := (List.range n).all fun i => (List.range n).all fun k => decide (k = i) || (decide (k = (i + 1) % n) || decide (0 < turnW (q i) (q ((i + 1) % n)) (q k)))
theorem bent_all {q : Nat → Sp} {n : Nat} (h : ∀ j, j < n → ∀ m, m < n → m ≠ j → m ≠ (j + 1) % n → 0 < turnW (q j) (q ((j + 1) % n)) (q m)) : bentB q n = true := by
  simp only [bentB, List.all_eq_true, List.mem_range, Bool.or_eq_true, decide_eq_true_eq]
  intro i hi k hk
  by_cases h1 : k = i
  · exact .inl h1
  · by_cases h2 : k = (i + 1) % n
    · exact .inr (.inl h2)
    · exact .inr (.inr (h i hi k hk h1 h2))
theorem bent_no {q : Nat → Sp} {n k m : Nat} (hk : k < n) (hm : m < n) (h1 : m ≠ k) (h2 : m ≠ (k + 1) % n) (h : turnW (q k) (q ((k + 1) % n)) (q m) ≤ 0) : bentB q n = false := by
  cases hb : bentB q n
  · rfl
  · simp only [bentB, List.all_eq_true, List.mem_range, Bool.or_eq_true, decide_eq_true_eq] at hb
    rcases hb k hk m hm with e | e | e
    · exact absurd e h1
    · exact absurd e h2
    · omega
/-- What the program tests is what makes a shape valid. -/
theorem bent_ok {q : Nat → Sp} {L : List Sp} (hf : Fits q L) (h3 : inR (L.length : Int) 3 8 = true) (hp : ∀ k, k < L.length → inP (ptG L k) = true) : bentB q L.length = okSh L := by
  have hn : 3 ≤ L.length := by
    simp only [inR, Bool.and_eq_true, decide_eq_true_eq] at h3
    omega
  have em : ∀ j, q ((j + 1) % L.length) = ptG L (j + 1) := fun j => by rw [hf _ (Nat.mod_lt _ (by omega)), ptG_mod]
  cases ho : okSh L
  · cases hb : bentB q L.length
    · rfl
    · exfalso
      have : okSh L = true := by
        refine okSh_all h3 fun j hj => ⟨hp j hj, fun m hm h1 h2 => ?_⟩
        simp only [bentB, List.all_eq_true, List.mem_range, Bool.or_eq_true, decide_eq_true_eq] at hb
        rcases hb j hj m hm with e | e | e
        · exact absurd e h1
        · exact absurd e h2
        · rw [em, hf _ hj, hf _ hm] at e
          exact e
      rw [this] at ho
      cases ho
  · refine bent_all fun j hj m hm h1 h2 => ?_
    rw [em, hf _ hj, hf _ hm]
    have hc := (okSh_parts ho).1
    have := (hc.nonneg j m).2 (by rw [Nat.mod_eq_of_lt hj, Nat.mod_eq_of_lt hm]; exact h1) (by rw [Nat.mod_eq_of_lt hm]; exact h2)
    rw [turnW_sm (inP_sm (inP_pt ho _)) (inP_sm (inP_pt ho _)) (inP_sm (inP_pt ho _))]
    exact this
theorem iTurnL_any {c : Array Value} {q : Nat → Sp} {L : List Sp} {n : Nat} (h : ShC c q n) (hf : Fits q L) (hok : okSh L = true) (hn : n = L.length) (i : Nat) (hi : i < n) {p : Sp} (hp : smP p) (w : World) :
    Calls Try.prog 64 #[.agg c, .int .i64 (i : Int), .agg #[.int .i64 p.lo, .int .i64 p.hi]] w fun e w2 => e = .returned (.int .i64 (turnG (ptG L i) (ptG L (i + 1)) p)) ∧ Below w.heap.size w w2 := by
  have n8 := (okSh_parts hok).2.1
  subst hn
  have e : turnW (q i) (q ((i + 1) % L.length)) p = turnG (ptG L i) (ptG L (i + 1)) p := by
    rw [hf _ hi, hf _ (Nat.mod_lt _ (by omega)), ptG_mod, turnW_sm (inP_sm (inP_pt hok _)) (inP_sm (inP_pt hok _)) hp]
  rw [← e]
  exact iTurnAt_any h n8 i _ hi rfl p w
set_option maxHeartbeats 8000000 in
set_option maxRecDepth 100000 in
theorem iBent_any {c : Array Value} {q : Nat → Sp} {n : Nat} (h : ShC c q n) (hn : n ≤ 8) (w : World) :
    Calls Try.prog 63 #[.agg c] w fun e w2 => e = .returned (.bool (bentB q n)) ∧ Below w.heap.size w w2 := by
  obtain ⟨W1, hW1⟩ : ∃ W1, W1 = w.alloc (.cells c 57) := ⟨_, rfl⟩
  have b1 : Below w.heap.size w W1 := by rw [hW1]; exact (Below.refl _ _).alloc (Nat.le_refl _) _
  have s1 : w.heap.size < W1.heap.size := by rw [hW1]; simp
  have g0 : W1.heap[w.heap.size]? = some (.cells c 57 (0, 0)) := by rw [hW1]; exact heap_alloc_new _ _
  obtain ⟨N, hN⟩ : ∃ N, N = w.heap.size := ⟨_, rfl⟩
  have hct := h.ct
  have H := Lib.hid (And.intro b1 g0)
  have HS := Lib.hid h
  clear b1 g0 h
  go_enter Try.func63, Try.ntmps63
  go_wp2_with fail
  rw [← hW1]
  rw [← hN] at H s1 ⊢
  have HN := Lib.hid hN
  clear hN hW1 hct
  go_loopw [7] (fun i wr => ∃ k : Nat, k ≤ n ∧ i = .int .i64 k ∧ Below W1.heap.size W1 wr ∧ ∀ j, j < k → ∀ m, m < n → m ≠ j → m ≠ (j + 1) % n → 0 < turnW (q j) (q ((j + 1) % n)) (q m)) (fun i _ => n - (intOf i).toNat)
  case atStart => exact ⟨0, Nat.zero_le _, rfl, Below.refl _ _, fun j h => absurd h (by omega)⟩
  case round =>
    obtain ⟨k, hk, rfl, hbl, hg⟩ := hrel
    by_cases hlt : k < n
    · have hki : (k : Int) < (n : Int) := by omega
      have z16 := HS.out.count ((hbl.block N s1).trans H.out.2)
      have HX := Lib.hid (And.intro hbl hg)
      clear hbl hg
      go_wp2_with fail
      clear z16
      go_loopw [12] (fun i wq => ∃ m : Nat, m ≤ n ∧ i = .int .i64 m ∧ Below W1.heap.size W1 wq ∧ ∀ j, j < m → j ≠ k → j ≠ (k + 1) % n → 0 < turnW (q k) (q ((k + 1) % n)) (q j)) (fun i _ => n - (intOf i).toNat)
      case atStart => exact ⟨0, Nat.zero_le _, rfl, HX.out.1, fun j h => absurd h (by omega)⟩
      case round =>
        obtain ⟨m, hm, rfl, hbm, hgm⟩ := hrel
        by_cases hmt : m < n
        · have hmi : (m : Int) < (n : Int) := by omega
          obtain ⟨r, hr⟩ : ∃ r, r = (k + 1) % n := ⟨_, rfl⟩
          have g0 := (hbm.block N s1).trans H.out.2
          have hwz := hbm.size
          have hbt : N < wr.heap.size := by omega
          have hX := fun W => iNext_any HS.out k hlt hn W
          rw [← hr] at hX hgm
          have HM := Lib.hid (And.intro hbm (And.intro hgm (And.intro hr (And.intro hX (And.intro (ext_row hbt g0) HS.out.info)))))
          have hx := ext_cell (w := wr) hbt
          clear hbm hgm hX hwz
          by_cases m1 : m = k
          · have e1 : ((m : Int) != (k : Int)) = false := by simp [m1]
            have M1 := Lib.hid m1
            clear m1 hr hx g0
            go_wp2_with fail
            go_quiet (fail)
            go_wp2_with fail
            go_roundw
            case rel =>
              refine ⟨m + 1, by omega, by go_num, below_draws HM.out.1 nq, fun j hj hjk hjr => ?_⟩
              rw [← HM.out.2.2.1] at hjr ⊢
              by_cases hjm : j < m
              · exact HM.out.2.1 j hjm hjk hjr
              · exact absurd (by have := M1.out; omega) hjk
            case measure => simp [intOf]; omega
          · have e1 : ((m : Int) != (k : Int)) = true := by simp; omega
            by_cases m2 : m = r
            · have e2 : ((m : Int) != (r : Int)) = false := by simp [m2]
              have M1 := Lib.hid m2
              clear m1 m2 hr g0
              go_wp2_with fail
              refine wp_region_ext wr.heap.size (by kernel_rfl) (by kernel_rfl) ?_
              repeat (first
                | (go_big_quiet_want
                   refine quiet_load_row 57 _ N 57 c _ rfl rfl HM.out.2.2.2.2.1 Try.underlying57 rfl HM.out.2.2.2.2.2 ?_
                   simp [go_sem]
                   go_big_quiet_on)
                | go_big_quiet_step ((go_at_call 66; exact calls_ext (Nat.le_refl _) (HM.out.2.2.2.1 _))))
              refine wpQuiet_nil ?_
              rintro _ ⟨x9, rfl⟩
              have HY := Lib.hid (x9.below)
              clear hx
              go_wp2_with fail
              go_roundw
              case rel =>
                refine ⟨m + 1, by omega, by go_num, HM.out.1.trans (HY.out.mono HM.out.1.size), fun j hj hjk hjr => ?_⟩
                rw [← HM.out.2.2.1] at hjr ⊢
                by_cases hjm : j < m
                · exact HM.out.2.1 j hjm hjk hjr
                · exact absurd (by have := M1.out; omega) hjr
              case measure => simp [intOf]; omega
            · have e2 : ((m : Int) != (r : Int)) = true := by simp; omega
              obtain ⟨d1, d2⟩ := HS.out.cells g0 m (by omega)
              obtain ⟨t, ht⟩ : ∃ t, t = turnW (q k) (q r) (q m) := ⟨_, rfl⟩
              have hT := fun W => iTurnAt_any HS.out hn k r hlt hr (q m) W
              rw [← ht] at hT
              have hm8 : (m : Int) < 8 := by omega
              by_cases ht0 : t ≤ 0
              · have e3 : decide (t ≤ 0) = true := decide_eq_true ht0
                have HT := Lib.hid (And.intro hT (bent_no hlt hmt m1 (by rw [← hr]; exact m2) (by rw [← hr, ← ht]; exact ht0)))
                clear hT ht m1 m2 ht0 hr g0
                go_wp2_with fail
                refine wp_region_ext wr.heap.size (by kernel_rfl) (by kernel_rfl) ?_
                repeat (first
                  | (go_big_quiet_want
                     refine quiet_load_row 57 _ N 57 c _ rfl rfl HM.out.2.2.2.2.1 Try.underlying57 rfl HM.out.2.2.2.2.2 ?_
                     simp [go_sem]
                     go_big_quiet_on)
                  | go_big_quiet_step (first
                    | (go_at_call 66; exact calls_ext (Nat.le_refl _) (HM.out.2.2.2.1 _))
                    | (go_at_call 64; exact calls_ext (Nat.le_refl _) (HT.out.1 _))))
                refine wpQuiet_nil ?_
                rintro _ ⟨x9, rfl⟩
                have HY := Lib.hid (x9.below)
                clear hx d1 d2
                go_wp2_with fail
                go_ret
                rw [← HN.out]
                exact ⟨ret_bool HT.out.2.symm, H.out.1.trans ((HM.out.1.trans (HY.out.mono HM.out.1.size)).mono (Nat.le_of_lt s1))⟩
              · have e3 : decide (t ≤ 0) = false := decide_eq_false ht0
                have HT := Lib.hid (And.intro hT (And.intro ht (Int.not_le.1 ht0)))
                clear hT ht m1 m2 ht0 hr g0
                go_wp2_with fail
                refine wp_region_ext wr.heap.size (by kernel_rfl) (by kernel_rfl) ?_
                repeat (first
                  | (go_big_quiet_want
                     refine quiet_load_row 57 _ N 57 c _ rfl rfl HM.out.2.2.2.2.1 Try.underlying57 rfl HM.out.2.2.2.2.2 ?_
                     simp [go_sem]
                     go_big_quiet_on)
                  | go_big_quiet_step (first
                    | (go_at_call 66; exact calls_ext (Nat.le_refl _) (HM.out.2.2.2.1 _))
                    | (go_at_call 64; exact calls_ext (Nat.le_refl _) (HT.out.1 _))))
                refine wpQuiet_nil ?_
                rintro _ ⟨x9, rfl⟩
                have HY := Lib.hid (x9.below)
                clear hx d1 d2
                go_wp2_with fail
                go_roundw
                case rel =>
                  refine ⟨m + 1, by omega, by go_num, HM.out.1.trans (HY.out.mono HM.out.1.size), fun j hj hjk hjr => ?_⟩
                  rw [← HM.out.2.2.1] at hjr ⊢
                  by_cases hjm : j < m
                  · exact HM.out.2.1 j hjm hjk hjr
                  · obtain rfl : j = m := by omega
                    rw [← HT.out.2.1]
                    exact HT.out.2.2
                case measure => simp [intOf]; omega
        · have hdm : decide ((m : Int) < (n : Int)) = false := decide_eq_false (by omega)
          have HM := Lib.hid (And.intro hbm hgm)
          clear hbm hgm
          go_wp2_with fail
          go_roundw
          case rel =>
            refine ⟨k + 1, by omega, by go_num, HM.out.1, fun j hj m2 hm2 => ?_⟩
            by_cases hjk : j < k
            · exact HX.out.2 j hjk m2 hm2
            · obtain rfl : j = k := by omega
              exact HM.out.2 m2 (by omega)
          case measure => simp [intOf]; omega
    · obtain rfl : k = n := by omega
      have hdn : decide ((k : Int) < (k : Int)) = false := decide_eq_false (by omega)
      have HX := Lib.hid (And.intro hbl (bent_all hg))
      clear hbl hg
      go_wp2_with fail
      go_ret
      rw [← HN.out]
      exact ⟨ret_bool HX.out.2.symm, H.out.1.trans (HX.out.1.mono (Nat.le_of_lt s1))⟩
set_option maxHeartbeats 8000000 in
set_option maxRecDepth 100000 in
theorem iHas_any {c : Array Value} {q : Nat → Sp} {L : List Sp} {n : Nat} (h : ShC c q n) (hf : Fits q L) (hok : okSh L = true) (hn : n = L.length) {p : Sp} (hp : smP p) (w : World) :
    Calls Try.prog 54 #[.agg c, .agg #[.int .i64 p.lo, .int .i64 p.hi]] w fun e w2 => e = .returned (.bool (hasB L.length (ptG L) p)) ∧ Below w.heap.size w w2 := by
  have n8 := (okSh_parts hok).2.1
  obtain ⟨W1, hW1⟩ : ∃ W1, W1 = (w.alloc (.cells c 57)).alloc (.cells #[.int .i64 p.lo, .int .i64 p.hi] 27) := ⟨_, rfl⟩
  have b1 : Below w.heap.size w W1 := by rw [hW1]; exact ((Below.refl _ _).alloc (Nat.le_refl _) _).alloc (by simp) _
  have s1 : W1.heap.size = w.heap.size + 2 := by rw [hW1]; simp
  have g0 : W1.heap[w.heap.size]? = some (.cells c 57 (0, 0)) := by
    rw [hW1]
    exact (Below.heap_alloc _ _ _ (by simp)).trans (heap_alloc_new _ _)
  have g1 : W1.heap[w.heap.size + 1]? = some (.cells #[.int .i64 p.lo, .int .i64 p.hi] 27 (0, 0)) := by
    rw [hW1]
    exact heap_alloc2_new _ _ _
  obtain ⟨N, hN⟩ : ∃ N, N = w.heap.size := ⟨_, rfl⟩
  have hct := h.ct
  have H := Lib.hid (And.intro b1 (And.intro g0 g1))
  have HS := Lib.hid (And.intro h (And.intro hf (And.intro hok (And.intro hn hp))))
  clear b1 g0 g1 h hf hok hp
  go_enter Try.func54, Try.ntmps54
  go_wp2_with fail
  rw [← hW1]
  rw [← hN] at H s1 ⊢
  have HN := Lib.hid hN
  clear hN hW1 hct
  go_loopw [8] (fun i wr => ∃ k : Nat, k ≤ n ∧ i = .int .i64 k ∧ Below W1.heap.size W1 wr ∧ ∀ j, j < k → 0 ≤ turnG (ptG L j) (ptG L (j + 1)) p) (fun i _ => n - (intOf i).toNat)
  case atStart => exact ⟨0, Nat.zero_le _, rfl, Below.refl _ _, fun j h => absurd h (by omega)⟩
  case round =>
    obtain ⟨k, hk, rfl, hbl, hg⟩ := hrel
    by_cases hlt : k < n
    · have hki : (k : Int) < (n : Int) := by omega
      have g0 := (hbl.block N (by omega)).trans H.out.2.1
      have g1 := (hbl.block (N + 1) (by omega)).trans H.out.2.2
      have d5 := cell_of_row _ _ 0 _ _ _ g1
      have d6 := cell_of_row _ _ 1 _ _ _ g1
      obtain ⟨t, ht⟩ : ∃ t, t = turnG (ptG L k) (ptG L (k + 1)) p := ⟨_, rfl⟩
      have hT := iTurnL_any HS.out.1 HS.out.2.1 HS.out.2.2.1 HS.out.2.2.2.1 k hlt HS.out.2.2.2.2 wr
      rw [← ht] at hT
      by_cases ht0 : t < 0
      · have e3 : decide (t < 0) = true := decide_eq_true ht0
        have hno : hasB L.length (ptG L) p = false := by
          cases hh : hasB L.length (ptG L) p
          · rfl
          · have := hasB_iff.1 hh k (by have := HS.out.2.2.2.1; omega); omega
        have HT := Lib.hid (And.intro hT (And.intro hbl (And.intro hno (And.intro g0 HS.out.1.info))))
        clear hT ht hbl hg ht0 hno g0 g1
        go_wp2_with (first
          | (refine wpList_load_row rfl 57 _ rfl N rfl 57 c _ _ HT.out.2.2.2.1 Try.underlying57 rfl HT.out.2.2.2.2 ?_)
          | (go_at_call 64; go_must (refine HT.out.1.mono ?_); rintro e w4 ⟨rfl, k4⟩))
        go_ret
        rw [← HN.out]
        exact ⟨ret_bool HT.out.2.2.1.symm, H.out.1.trans ((below_step HT.out.2.1 k4).mono (by omega))⟩
      · have e3 : decide (t < 0) = false := decide_eq_false ht0
        have HT := Lib.hid (And.intro hT (And.intro hbl (And.intro hg (And.intro g0 (And.intro HS.out.1.info (And.intro ht (Int.not_lt.1 ht0)))))))
        clear hT ht hbl hg ht0 g0 g1
        go_wp2_with (first
          | (refine wpList_load_row rfl 57 _ rfl N rfl 57 c _ _ HT.out.2.2.2.1 Try.underlying57 rfl HT.out.2.2.2.2.1 ?_)
          | (go_at_call 64; go_must (refine HT.out.1.mono ?_); rintro e w4 ⟨rfl, k4⟩))
        go_roundw
        case rel =>
          refine ⟨k + 1, by omega, by go_num, below_step HT.out.2.1 k4, fun j hj => ?_⟩
          by_cases hjk : j < k
          · exact HT.out.2.2.1 j hjk
          · obtain rfl : j = k := by omega
            rw [← HT.out.2.2.2.2.2.1]
            exact HT.out.2.2.2.2.2.2
        case measure => simp [intOf]; omega
    · have hdn : decide ((k : Int) < (n : Int)) = false := decide_eq_false (by omega)
      have HX := Lib.hid (And.intro hbl (show hasB L.length (ptG L) p = true from hasB_iff.2 fun i hi => hg i (by have := HS.out.2.2.2.1; omega)))
      clear hbl hg
      go_wp2_with fail
      go_ret
      rw [← HN.out]
      exact ⟨ret_bool HX.out.2.symm, H.out.1.trans (HX.out.1.mono (by omega))⟩
theorem part_small {L : List Sp} (h : okSh L = true) : ∀ k : Nat, -(40000 * (k : Int)) ≤ sumG (fun i => turnG (ptG L i) (ptG L (i + 1)) (ptG L 0)) k ∧ sumG (fun i => turnG (ptG L i) (ptG L (i + 1)) (ptG L 0)) k ≤ 40000 * (k : Int)
  | 0 => by simp [sumG]
  | k + 1 => by
    have := part_small h k
    have := turn_small (inP_pt h k) (inP_pt h (k + 1)) (inP_pt h 0)
    show -(40000 * ((k + 1 : Nat) : Int)) ≤ sumG (fun i => turnG (ptG L i) (ptG L (i + 1)) (ptG L 0)) k + turnG (ptG L k) (ptG L (k + 1)) (ptG L 0) ∧ sumG (fun i => turnG (ptG L i) (ptG L (i + 1)) (ptG L 0)) k + turnG (ptG L k) (ptG L (k + 1)) (ptG L 0) ≤ _
    omega
set_option maxHeartbeats 8000000 in
set_option maxRecDepth 100000 in
theorem iArea_any {c : Array Value} {q : Nat → Sp} {L : List Sp} {n : Nat} (h : ShC c q n) (hf : Fits q L) (hok : okSh L = true) (hn : n = L.length) (w : World) :
    Calls Try.prog 48 #[.agg c] w fun e w2 => e = .returned (.int .i64 (areaS L)) ∧ Below w.heap.size w w2 := by
  have n8 := (okSh_parts hok).2.1
  have n3 := (okSh_parts hok).1.three
  obtain ⟨W1, hW1⟩ : ∃ W1, W1 = w.alloc (.cells c 57) := ⟨_, rfl⟩
  have b1 : Below w.heap.size w W1 := by rw [hW1]; exact (Below.refl _ _).alloc (Nat.le_refl _) _
  have s1 : w.heap.size < W1.heap.size := by rw [hW1]; simp
  have g0 : W1.heap[w.heap.size]? = some (.cells c 57 (0, 0)) := by rw [hW1]; exact heap_alloc_new _ _
  have hA : sumG (fun i => turnG (ptG L i) (ptG L (i + 1)) (ptG L 0)) n = areaS L := by
    unfold areaS
    rw [if_pos hok, hn]
    exact areaG_from (by omega) (ptG_per L) _
  obtain ⟨N, hN⟩ : ∃ N, N = w.heap.size := ⟨_, rfl⟩
  have hct := h.ct
  have H := Lib.hid (And.intro b1 (And.intro g0 hA))
  have hq0 := hf 0 (by omega)
  have HS := Lib.hid (And.intro h (And.intro hf (And.intro hok (And.intro hn hq0))))
  clear b1 g0 h hf hok hA hq0
  go_enter Try.func48, Try.ntmps48
  go_wp2_with fail
  rw [← hW1]
  rw [← hN] at H s1 ⊢
  have HN := Lib.hid hN
  clear hN hW1 hct
  go_loopw [3, 7] (fun s i wr => ∃ k : Nat, k ≤ n ∧ i = .int .i64 k ∧ s = .int .i64 (sumG (fun i => turnG (ptG L i) (ptG L (i + 1)) (ptG L 0)) k) ∧ Below W1.heap.size W1 wr) (fun _ i _ => n - (intOf i).toNat)
  case atStart => exact ⟨0, Nat.zero_le _, rfl, rfl, Below.refl _ _⟩
  case round =>
    obtain ⟨k, hk, rfl, rfl, hbl⟩ := hrel
    have hf := part_small HS.out.2.2.1 k
    have hs1 : sumG (fun i => turnG (ptG L i) (ptG L (i + 1)) (ptG L 0)) (k + 1) = sumG (fun i => turnG (ptG L i) (ptG L (i + 1)) (ptG L 0)) k + turnG (ptG L k) (ptG L (k + 1)) (ptG L 0) := rfl
    obtain ⟨s, hs⟩ : ∃ s, s = sumG (fun i => turnG (ptG L i) (ptG L (i + 1)) (ptG L 0)) k := ⟨_, rfl⟩
    rw [← hs] at hf hs1 ⊢
    by_cases hlt : k < n
    · have hki : (k : Int) < (n : Int) := by omega
      have g0 := (hbl.block N s1).trans H.out.2.1
      obtain ⟨d1, d2⟩ := HS.out.1.cells g0 0 (by omega)
      rw [HS.out.2.2.2.2] at d1 d2
      rw [Nat.zero_mul] at d1 d2
      obtain ⟨t, ht⟩ : ∃ t, t = turnG (ptG L k) (ptG L (k + 1)) (ptG L 0) := ⟨_, rfl⟩
      have hts := turn_small (inP_pt HS.out.2.2.1 k) (inP_pt HS.out.2.2.1 (k + 1)) (inP_pt HS.out.2.2.1 0)
      have hT := iTurnL_any HS.out.1 HS.out.2.1 HS.out.2.2.1 HS.out.2.2.2.1 k hlt (inP_sm (inP_pt HS.out.2.2.1 0)) wr
      rw [← ht] at hT hs1 hts
      have HT := Lib.hid (And.intro hT (And.intro hbl (And.intro g0 (And.intro HS.out.1.info hs1))))
      clear hT ht hbl g0 hs1 hs
      have hk8 : k ≤ 8 := by omega
      go_wp2_with (first
        | (refine wpList_load_row rfl 57 _ rfl N rfl 57 c _ _ HT.out.2.2.1 Try.underlying57 rfl HT.out.2.2.2.1 ?_)
        | (go_at_call 64; go_must (refine HT.out.1.mono ?_); rintro e w4 ⟨rfl, k4⟩))
      go_roundw
      case rel => exact ⟨k + 1, by omega, by go_num, by rw [HT.out.2.2.2.2], below_step HT.out.2.1 k4⟩
      case measure => simp [intOf]; omega
    · have hdn : decide ((k : Int) < (n : Int)) = false := decide_eq_false (by omega)
      have hkn : k = n := by omega
      have HX := Lib.hid (And.intro hbl (by rw [← H.out.2.2, hs, hkn] : areaS L = s))
      clear hbl hs hkn hs1
      go_wp2_with fail
      go_ret
      rw [← HN.out]
      exact ⟨ret_int HX.out.2.symm, H.out.1.trans (HX.out.1.mono (Nat.le_of_lt s1))⟩
end Go.Proofs.Ytfkfjkhikgnnaaa
