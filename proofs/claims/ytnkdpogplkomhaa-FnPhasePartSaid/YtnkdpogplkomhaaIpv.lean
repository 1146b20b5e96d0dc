/- The program's phase models are valid ones. -/
import Derived.Test.YtnkdpogplkomhaaPh0
import Derived.Test.YtnkdpogplkomhaaQq
namespace Go.Proofs.Ytnkdpogplkomhaa
open Go.RowKit

set_option maxHeartbeats 1600000 in
set_option maxRecDepth 100000 in
theorem minI_any (A : Option Addr) (ca : Nat) (r : List Int) (w : World) (ha : Reads w w.heap.size 1 A r.length (r.map (Value.int .i64))) (hl : r.length ≤ 1000000000) (h0 : 0 < r.length) :
    Calls Try.prog 109 #[.slice A r.length ca] w fun e w2 => (∃ m, e = .returned (.int .i64 m) ∧ m ∈ r ∧ ∀ x ∈ r, m ≤ x) ∧ w = w2 := by
  obtain ⟨x, hx⟩ : ∃ x, r[0]? = some x := ⟨_, List.getElem?_eq_getElem h0⟩
  obtain ⟨b, off, hA, hbb, c0⟩ := ha.cellE hx
  subst hA
  have h1 : ¬ (r.length : Int) < 1 := by omega
  have h0i : (0 : Int) < (r.length : Int) := by omega
  have HR := Lib.hid ha
  have HX := Lib.hid hx
  clear ha hx
  simp only [Nat.add_zero] at c0
  go_enter Try.func109, Try.ntmps109
  go_wp2_with fail
  go_loopw [3, 4] (fun m i wr => ∃ (k : Nat) (q : Int), 1 ≤ k ∧ k ≤ r.length ∧ i = .int .i64 k ∧ m = .int .i64 q ∧ w = wr ∧ q ∈ r ∧ ∀ (j : Nat) (y : Int), j < k → r[j]? = some y → q ≤ y) (fun _ i _ => r.length - (intOf i).toNat)
  case atStart =>
    refine ⟨1, x, Nat.le_refl _, by omega, rfl, rfl, rfl, List.mem_of_getElem? HX.out, fun j y hj hy => ?_⟩
    obtain rfl : j = 0 := by omega
    rw [HX.out] at hy
    injection hy with hy
    omega
  case round =>
    obtain ⟨k, q, hk1, hk, rfl, rfl, rfl, hq, hg⟩ := hrel
    by_cases hlt : k < r.length
    · have hkl : (k : Int) < (r.length : Int) := by omega
      obtain ⟨y, hy⟩ : ∃ y, r[k]? = some y := ⟨_, List.getElem?_eq_getElem hlt⟩
      obtain ⟨b2, off2, hA2, hbb2, d1⟩ := HR.out.cellE hy
      injection hA2 with hA2
      injection hA2 with e1 e2
      subst e1 e2
      have HK := Lib.hid (And.intro hq (And.intro hg hy))
      clear hq hg hy
      have hgo : ∀ m : Int, m ≤ q → m ≤ y → m ∈ r → ∃ (k2 : Nat) (q2 : Int), 1 ≤ k2 ∧ k2 ≤ r.length ∧ Value.int .i64 ((k : Int) + 1) = .int .i64 k2 ∧ Value.int .i64 m = .int .i64 q2 ∧ True ∧ q2 ∈ r ∧ ∀ (j : Nat) (y : Int), j < k2 → r[j]? = some y → q2 ≤ y := fun m h1 h2 h3 =>
        ⟨k + 1, m, by omega, by omega, by go_num, rfl, trivial, h3, fun j y2 hj hy2 => by
          rcases (by omega : j < k ∨ j = k) with h | h
          · exact Int.le_trans h1 (HK.out.2.1 j y2 h hy2)
          · subst h
            rw [HK.out.2.2] at hy2
            injection hy2 with hy2
            omega⟩
      have HG := Lib.hid hgo
      clear hgo
      by_cases hyq : y < q
      · go_wp2_with fail
        go_roundw
        case rel => exact HG.out y (by omega) (by omega) (List.mem_of_getElem? HK.out.2.2)
        case measure => simp [intOf]; omega
      · go_wp2_with fail
        go_roundw
        case rel => exact HG.out q (by omega) (by omega) HK.out.1
        case measure => simp [intOf]; omega
    · have hkl : ¬ (k : Int) < (r.length : Int) := by omega
      have HK := Lib.hid (And.intro hq (And.intro hg (show k = r.length by omega)))
      clear hq hg
      go_wp2_with fail
      go_ret
      refine ⟨⟨q, rfl, HK.out.1, fun x hx => ?_⟩, rfl⟩
      obtain ⟨j, hj, e⟩ := List.mem_iff_getElem.1 hx
      exact HK.out.2.1 j x (by rw [HK.out.2.2]; exact hj) (by rw [List.getElem?_eq_getElem hj, e])
set_option maxHeartbeats 1600000 in
set_option maxRecDepth 100000 in
theorem maxI_any (A : Option Addr) (ca : Nat) (r : List Int) (w : World) (ha : Reads w w.heap.size 1 A r.length (r.map (Value.int .i64))) (hl : r.length ≤ 1000000000) (h0 : 0 < r.length) :
    Calls Try.prog 110 #[.slice A r.length ca] w fun e w2 => (∃ m, e = .returned (.int .i64 m) ∧ m ∈ r ∧ ∀ x ∈ r, x ≤ m) ∧ w = w2 := by
  obtain ⟨x, hx⟩ : ∃ x, r[0]? = some x := ⟨_, List.getElem?_eq_getElem h0⟩
  obtain ⟨b, off, hA, hbb, c0⟩ := ha.cellE hx
  subst hA
  have h1 : ¬ (r.length : Int) < 1 := by omega
  have h0i : (0 : Int) < (r.length : Int) := by omega
  have HR := Lib.hid ha
  have HX := Lib.hid hx
  clear ha hx
  simp only [Nat.add_zero] at c0
  go_enter Try.func110, Try.ntmps110
  go_wp2_with fail
  go_loopw [3, 4] (fun m i wr => ∃ (k : Nat) (q : Int), 1 ≤ k ∧ k ≤ r.length ∧ i = .int .i64 k ∧ m = .int .i64 q ∧ w = wr ∧ q ∈ r ∧ ∀ (j : Nat) (y : Int), j < k → r[j]? = some y → y ≤ q) (fun _ i _ => r.length - (intOf i).toNat)
  case atStart =>
    refine ⟨1, x, Nat.le_refl _, by omega, rfl, rfl, rfl, List.mem_of_getElem? HX.out, fun j y hj hy => ?_⟩
    obtain rfl : j = 0 := by omega
    rw [HX.out] at hy
    injection hy with hy
    omega
  case round =>
    obtain ⟨k, q, hk1, hk, rfl, rfl, rfl, hq, hg⟩ := hrel
    by_cases hlt : k < r.length
    · have hkl : (k : Int) < (r.length : Int) := by omega
      obtain ⟨y, hy⟩ : ∃ y, r[k]? = some y := ⟨_, List.getElem?_eq_getElem hlt⟩
      obtain ⟨b2, off2, hA2, hbb2, d1⟩ := HR.out.cellE hy
      injection hA2 with hA2
      injection hA2 with e1 e2
      subst e1 e2
      have HK := Lib.hid (And.intro hq (And.intro hg hy))
      clear hq hg hy
      have hgo : ∀ m : Int, q ≤ m → y ≤ m → m ∈ r → ∃ (k2 : Nat) (q2 : Int), 1 ≤ k2 ∧ k2 ≤ r.length ∧ Value.int .i64 ((k : Int) + 1) = .int .i64 k2 ∧ Value.int .i64 m = .int .i64 q2 ∧ True ∧ q2 ∈ r ∧ ∀ (j : Nat) (y : Int), j < k2 → r[j]? = some y → y ≤ q2 := fun m h1 h2 h3 =>
        ⟨k + 1, m, by omega, by omega, by go_num, rfl, trivial, h3, fun j y2 hj hy2 => by
          rcases (by omega : j < k ∨ j = k) with h | h
          · exact Int.le_trans (HK.out.2.1 j y2 h hy2) h1
          · subst h
            rw [HK.out.2.2] at hy2
            injection hy2 with hy2
            omega⟩
      have HG := Lib.hid hgo
      clear hgo
      by_cases hyq : q < y
      · go_wp2_with fail
        go_roundw
        case rel => exact HG.out y (by omega) (by omega) (List.mem_of_getElem? HK.out.2.2)
        case measure => simp [intOf]; omega
      · go_wp2_with fail
        go_roundw
        case rel => exact HG.out q (by omega) (by omega) HK.out.1
        case measure => simp [intOf]; omega
    · have hkl : ¬ (k : Int) < (r.length : Int) := by omega
      have HK := Lib.hid (And.intro hq (And.intro hg (show k = r.length by omega)))
      clear hq hg
      go_wp2_with fail
      go_ret
      refine ⟨⟨q, rfl, HK.out.1, fun x hx => ?_⟩, rfl⟩
      obtain ⟨j, hj, e⟩ := List.mem_iff_getElem.1 hx
      exact HK.out.2.1 j x (by rw [HK.out.2.2]; exact hj) (by rw [List.getElem?_eq_getElem hj, e])
set_option maxHeartbeats 1600000 in
set_option maxRecDepth 100000 in
theorem iWeights_any (A : Option Addr) (ca n : Nat) (L : List (List Int)) (w : World) (ha : Nest (Value.int .i64) w w.heap.size A L.length L) (hl : L.length ≤ 1000000000) (hr : ∀ r ∈ L, r.length ≤ 1000000000) :
    Calls Try.prog 91 #[.slice A L.length ca, .int .i64 (n : Int)] w fun e w2 => e = .returned (.bool (okW L n)) ∧ w = w2 := by
  have HR := Lib.hid hr
  clear hr
  by_cases hLn : L.length = n
  · have HL := Lib.hid hLn
    have e0 : ((L.length : Int) != (n : Int)) = false := by simp [hLn]
    clear hLn
    go_enter Try.func91, Try.ntmps91
    go_wp2_with fail
    go_loopw [13] (fun i wr => ∃ k : Nat, k ≤ L.length ∧ i = .int .i64 k ∧ w = wr ∧ ∀ (j : Nat) (r : List Int), j < k → L[j]? = some r → rowW r = true) (fun i _ => L.length - (intOf i).toNat)
    case atStart => exact ⟨0, Nat.zero_le _, rfl, rfl, fun j r h => absurd h (by omega)⟩
    case round =>
      obtain ⟨k, hk, rfl, rfl, hg⟩ := hrel
      by_cases hlt : k < L.length
      · have hkl : (k : Int) < (L.length : Int) := by omega
        obtain ⟨x, hx⟩ : ∃ x, L[k]? = some x := ⟨_, List.getElem?_eq_getElem hlt⟩
        have hxl := HR.out x (List.mem_of_getElem? hx)
        obtain ⟨b, off, A2, c2, hA, hbb, c1, hc2, hra⟩ := ha.row hx
        subst hA
        by_cases h6 : x.length = 6
        · have e6 : ((x.length : Int) != 6) = false := by simp [h6]
          have hn := minI_any A2 c2 x w hra hxl (by omega)
          have hm := maxI_any A2 c2 x w hra hxl (by omega)
          have HN := Lib.hid hn
          have HM := Lib.hid hm
          have HX := Lib.hid (And.intro hx (And.intro hg h6))
          clear hx hg h6 hra ha hn hm
          have h6x := HX.out.2.2
          by_cases hlow : ∃ y ∈ x, y < 0
          · have HLo := Lib.hid hlow
            clear hlow h6x
            go_wp2_with (first
              | (go_at_call 109; go_must (refine HN.out.mono ?_); rintro e w8 ⟨⟨m1, rfl, hm1, hm2⟩, rfl⟩
                 have t1 : m1 < 0 := by obtain ⟨y, hy, h0⟩ := HLo.out; have := hm2 y hy; omega
                 clear hm1 hm2)
              | (go_at_call 110; go_must (refine HM.out.mono ?_); rintro e w9 ⟨⟨m2, rfl, hm3, hm4⟩, rfl⟩
                 skip
                 clear hm3 hm4))
            go_ret
            refine ⟨ret_bool (okW_not HX.out.1 ?_).symm, rfl⟩
            obtain ⟨y, hy, h0⟩ := HLo.out
            obtain ⟨j, hj, e⟩ := List.mem_iff_getElem.1 hy
            exact rowW_not (k := j) (x := y) (by rw [List.getElem?_eq_getElem hj, e]) (by simp only [inR, Bool.and_eq_false_iff, decide_eq_false_iff_not]; omega)
          · by_cases hhi : ∃ y ∈ x, y > 9
            · have HLo := Lib.hid (And.intro hlow hhi)
              clear hlow h6x hhi
              go_wp2_with (first
              | (go_at_call 109; go_must (refine HN.out.mono ?_); rintro e w8 ⟨⟨m1, rfl, hm1, hm2⟩, rfl⟩
                 have t1 : ¬ m1 < 0 := fun h => HLo.out.1 ⟨m1, hm1, h⟩
                 clear hm1 hm2)
              | (go_at_call 110; go_must (refine HM.out.mono ?_); rintro e w9 ⟨⟨m2, rfl, hm3, hm4⟩, rfl⟩
                 have t2 : m2 > 9 := by obtain ⟨y, hy, h0⟩ := HLo.out.2; have := hm4 y hy; omega
                 clear hm3 hm4))
              go_ret
              refine ⟨ret_bool (okW_not HX.out.1 ?_).symm, rfl⟩
              obtain ⟨y, hy, h0⟩ := HLo.out.2
              obtain ⟨j, hj, e⟩ := List.mem_iff_getElem.1 hy
              exact rowW_not (k := j) (x := y) (by rw [List.getElem?_eq_getElem hj, e]) (by simp only [inR, Bool.and_eq_false_iff, decide_eq_false_iff_not]; omega)
            · have HLo := Lib.hid (And.intro hlow hhi)
              clear hlow h6x hhi
              go_wp2_with (first
              | (go_at_call 109; go_must (refine HN.out.mono ?_); rintro e w8 ⟨⟨m1, rfl, hm1, hm2⟩, rfl⟩
                 have t1 : ¬ m1 < 0 := fun h => HLo.out.1 ⟨m1, hm1, h⟩
                 clear hm1 hm2)
              | (go_at_call 110; go_must (refine HM.out.mono ?_); rintro e w9 ⟨⟨m2, rfl, hm3, hm4⟩, rfl⟩
                 have t2 : ¬ m2 > 9 := fun h => HLo.out.2 ⟨m2, hm3, h⟩
                 clear hm3 hm4))
              go_roundw
              case rel =>
                refine ⟨k + 1, by omega, by go_num, by trivial, fun q r hq hr => ?_⟩
                rcases (by omega : q < k ∨ q = k) with h | h
                · exact HX.out.2.1 q r h hr
                · subst h
                  rw [HX.out.1] at hr
                  injection hr with hr
                  subst hr
                  refine rowW_of HX.out.2.2 fun q y hy => ?_
                  have h1 : ¬ y < 0 := fun h => HLo.out.1 ⟨y, List.mem_of_getElem? hy, h⟩
                  have h2 : ¬ y > 9 := fun h => HLo.out.2 ⟨y, List.mem_of_getElem? hy, h⟩
                  simp only [inR, Bool.and_eq_true, decide_eq_true_eq]
                  omega
              case measure => simp [intOf]; omega
        · have e6 : ((x.length : Int) != 6) = true := by simp; omega
          have HX := Lib.hid (And.intro hx h6)
          clear hx hg h6 hra ha
          go_wp2_with fail
          go_ret
          refine ⟨ret_bool (okW_not HX.out.1 ?_).symm, rfl⟩
          simp [rowW, HX.out.2]
      · have HK := Lib.hid (And.intro (show k = L.length by omega) hg)
        have hkl : ¬ (k : Int) < (L.length : Int) := by omega
        clear hg ha
        go_wp2_with fail
        go_ret
        refine ⟨ret_bool ?_, rfl⟩
        rw [okW_of fun q r hr => HK.out.2 q r (by have h1 := (List.getElem?_eq_some_iff.1 hr).1; rw [HK.out.1]; exact h1) hr, HL.out]
        simp
  · have e0 : ((L.length : Int) != (n : Int)) = true := by simp; omega
    have HL := Lib.hid hLn
    clear hLn ha
    go_enter Try.func91, Try.ntmps91
    go_wp2_with fail
    go_ret
    exact ⟨ret_bool (by simp [okW, HL.out]), rfl⟩
end Go.Proofs.Ytnkdpogplkomhaa
