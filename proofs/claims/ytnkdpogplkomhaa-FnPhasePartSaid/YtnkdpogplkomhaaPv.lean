/- The model's phase models are valid ones. -/
import Derived.Test.YtnkdpogplkomhaaPh0
import Derived.Test.YtnkdpogplkomhaaUu
namespace Go.Proofs.Ytnkdpogplkomhaa
open Go.RowKit

set_option maxHeartbeats 1600000 in
set_option maxRecDepth 100000 in
theorem sWeights_any (A : Option Addr) (ca n : Nat) (L : List (List Int)) (w : World) (ha : Nest (Value.int .i64) w w.heap.size A L.length L) (hl : L.length ≤ 1000000000) (hr : ∀ r ∈ L, r.length ≤ 1000000000) :
    Calls Try.prog 67 #[.slice A L.length ca, .int .i64 (n : Int)] w fun e w2 => e = .returned (.bool (okW L n)) ∧ w = w2 := by
  have HR := Lib.hid hr
  clear hr
  go_enter Try.func67, Try.ntmps67
  go_wp2_with fail
  go_loopw [5] (fun i wr => ∃ k : Nat, k ≤ L.length ∧ i = .int .i64 k ∧ w = wr ∧ ∀ (j : Nat) (r : List Int), j < k → L[j]? = some r → rowW r = true) (fun i _ => L.length - (intOf i).toNat)
  case atStart => exact ⟨0, Nat.zero_le _, rfl, rfl, fun j r h => absurd h (by omega)⟩
  case round =>
    obtain ⟨k, hk, rfl, rfl, hg⟩ := hrel
    by_cases hlt : k < L.length
    · have hkl : (k : Int) < (L.length : Int) := by omega
      obtain ⟨x, hx⟩ : ∃ x, L[k]? = some x := ⟨_, List.getElem?_eq_getElem hlt⟩
      have hxl := HR.out x (List.mem_of_getElem? hx)
      obtain ⟨b, off, A2, c2, hA, hbb, c1, hc2, hra⟩ := ha.row hx
      subst hA
      by_cases h6 : x.length = 6
      · have HX := Lib.hid (And.intro hx (And.intro hg (And.intro h6 hra)))
        have e0 : ((x.length : Int) != 6) = false := by simp [h6]
        have hxn : 6 ≤ x.length := by omega
        have hxz : (6 : Int) ≤ (x.length : Int) := by omega
        clear hx hg h6 hra ha
        go_wp2_with fail
        go_loopw [6] (fun i wr => ∃ j : Nat, j ≤ 6 ∧ i = .int .i64 j ∧ w = wr ∧ ∀ (q : Nat) (y : Int), q < j → x[q]? = some y → inR y 0 9 = true) (fun i _ => 6 - (intOf i).toNat)
        case atStart => exact ⟨0, Nat.zero_le _, rfl, rfl, fun j r h => absurd h (by omega)⟩
        case round =>
          obtain ⟨j, hj, rfl, rfl, hgj⟩ := hrel
          by_cases hjn : j < 6
          · have hji : (j : Int) < 6 := by omega
            have hjx : (j : Int) < (x.length : Int) := by omega
            obtain ⟨y, hy⟩ : ∃ y, x[j]? = some y := ⟨_, List.getElem?_eq_getElem (by omega)⟩
            obtain ⟨b2, off2, hA2, hbb2, d1⟩ := HX.out.2.2.2.cellE hy
            subst hA2
            obtain ⟨t, ht⟩ : ∃ t, inR y 0 9 = t := ⟨_, rfl⟩
            have HI := Lib.hid (l6In_any y 0 9 w)
            rw [ht] at HI
            have HY := Lib.hid (And.intro hy (And.intro hgj ht))
            clear hy hgj ht
            cases t
            · go_wp2_with (go_at_call 50; go_must (refine HI.out.mono ?_); rintro e w9 ⟨rfl, rfl⟩)
              go_ret
              exact ⟨ret_bool (okW_not HX.out.1 (rowW_not HY.out.1 HY.out.2.2)).symm, rfl⟩
            · go_wp2_with (go_at_call 50; go_must (refine HI.out.mono ?_); rintro e w9 ⟨rfl, rfl⟩)
              go_roundw
              case rel =>
                refine ⟨j + 1, by omega, by go_num, by trivial, fun q y2 hq hy2 => ?_⟩
                rcases (by omega : q < j ∨ q = j) with h | h
                · exact HY.out.2.1 q y2 h hy2
                · subst h
                  rw [HY.out.1] at hy2
                  injection hy2 with hy2
                  subst hy2
                  exact HY.out.2.2
              case measure => simp [intOf]; omega
          · have HJ := Lib.hid (And.intro (show j = 6 by omega) hgj)
            have hji : ¬ (j : Int) < 6 := by omega
            clear hgj
            go_wp2_with fail
            go_roundw
            case rel =>
              refine ⟨k + 1, by omega, by go_num, by trivial, fun q r hq hr => ?_⟩
              rcases (by omega : q < k ∨ q = k) with h | h
              · exact HX.out.2.1 q r h hr
              · subst h
                rw [HX.out.1] at hr
                injection hr with hr
                subst hr
                exact rowW_of HX.out.2.2.1 fun q y hy => HJ.out.2 q y (by have h1 := (List.getElem?_eq_some_iff.1 hy).1; rw [HX.out.2.2.1] at h1; rw [HJ.out.1]; exact h1) hy
            case measure => simp [intOf]; omega
      · have HX := Lib.hid (And.intro hx h6)
        have e0 : ((x.length : Int) != 6) = true := by simp; omega
        clear hx hg h6 hra ha
        go_wp2_with fail
        go_ret
        refine ⟨ret_bool (okW_not HX.out.1 ?_).symm, rfl⟩
        simp [rowW, HX.out.2]
    · have HK := Lib.hid (And.intro (show k = L.length by omega) hg)
      have hkl : ¬ (k : Int) < (L.length : Int) := by omega
      obtain ⟨t, ht⟩ : ∃ t, ((L.length : Int) == (n : Int)) = t := ⟨_, rfl⟩
      have HT := Lib.hid ht
      clear hg ha
      go_wp2_with fail
      go_ret
      refine ⟨ret_bool ?_, rfl⟩
      rw [okW_of fun q r hr => HK.out.2 q r (by have h1 := (List.getElem?_eq_some_iff.1 hr).1; rw [HK.out.1]; exact h1) hr]
      first | exact HT.out.symm | (rw [← HT.out]; rfl)
set_option maxHeartbeats 1600000 in
set_option maxRecDepth 100000 in
theorem sPhValid_any (A B C : Option Addr) (ca cb cc : Nat) (ids : List Int) (l : List Ctx) (L : List (List Int)) (w : World) (ha : Reads w w.heap.size 1 A ids.length (cellsI ids)) (hb : Reads w w.heap.size 3 B l.length (cellsC l)) (hc : Nest (Value.int .i64) w w.heap.size C L.length L)
    (hn : ids.length ≤ 1000000000) (hl : l.length ≤ 1000000000) (hm : L.length ≤ 1000000000) (hr : ∀ r ∈ L, r.length ≤ 1000000000) :
    Calls Try.prog 27 #[.slice A ids.length ca, .slice B l.length cb, .slice C L.length cc] w fun e w2 => e = .returned (.bool (phOk ids l L)) ∧ Below w.heap.size w w2 := by
  have hv := sOrdValid_any A B ca cb ids l w ha hb hn hl
  obtain ⟨t, ht⟩ : ∃ t, ordOkG ids l = t := ⟨_, rfl⟩
  rw [ht] at hv
  have HV := Lib.hid hv
  have HW := Lib.hid (fun (w2 : World) (b2 : Below w.heap.size w w2) => sWeights_any C cc ids.length L w2 (hc.step b2) hm hr)
  have HT := Lib.hid ht
  clear hv ht ha hb hc
  go_enter Try.func27, Try.ntmps27
  cases t
  · go_wp2_with (go_at_call 66; go_must (refine HV.out.mono ?_); rintro e w2 ⟨rfl, b2⟩)
    go_ret
    exact ⟨ret_bool (by simp [phOk, HT.out]), b2⟩
  · by_cases h4 : ids.length ≤ 4
    · have h4i : (ids.length : Int) ≤ 4 := by omega
      go_wp2_with (first
        | (go_at_call 66; go_must (refine HV.out.mono ?_); rintro e w2 ⟨rfl, b2⟩)
        | (go_at_call 67; go_must (refine (HW.out w2 b2).mono ?_); rintro e w3 ⟨rfl, rfl⟩))
      go_ret
      exact ⟨ret_bool (by simp [phOk, HT.out, h4]), b2⟩
    · have h4i : ¬ (ids.length : Int) ≤ 4 := by omega
      go_wp2_with (go_at_call 66; go_must (refine HV.out.mono ?_); rintro e w2 ⟨rfl, b2⟩)
      go_ret
      exact ⟨ret_bool (by simp [phOk, h4]), b2⟩
end Go.Proofs.Ytnkdpogplkomhaa
