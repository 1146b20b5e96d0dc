/- What the program's check of a list of contexts returns. -/
import Derived.Test.YtfcjhpgohcbcaaaA
namespace Go.Proofs.Ytfcjhpgohcbcaaa
open Go.RowKit

set_option maxHeartbeats 800000 in
theorem iValid_any (A : Option Addr) (cap : Nat) (l : List Ctx) (w : World) (hr : Reads w w.heap.size 3 A l.length (cellsC l)) (hl : l.length ≤ 1000000000000000) :
    Calls Try.prog 19 #[.slice A l.length cap] w fun e w2 => e = .returned (.bool (validL l)) ∧ Below w.heap.size w w2 := by
  by_cases hlong : 12 < l.length
  · have e0 : decide ((12 : Int) < (l.length : Int)) = true := by simp; omega
    go_enter Try.func19, Try.ntmps19
    go_wp2_with fail
    go_ret
    exact ⟨ret_bool (validL_long hlong).symm, Below.refl _ _⟩
  · go_enter Try.func19, Try.ntmps19
    go_wp2_with fail
    go_loopw [3, 11] (fun t i wr => ∃ k : Nat, k ≤ l.length ∧ i = .int .i64 k ∧ t = .int .i64 (prevId l k) ∧ Below w.heap.size w wr ∧ ∀ j, j < k → goodAt l j = true) (fun _ i _ => l.length - (intOf i).toNat)
    case atStart => exact ⟨0, Nat.zero_le _, rfl, rfl, Below.refl _ _, fun j h => absurd h (by omega)⟩
    case round =>
      obtain ⟨k, hk, rfl, rfl, hb, hg⟩ := hrel
      have HG := Lib.hid hg; clear hg
      by_cases hlt : k < l.length
      · obtain ⟨b, off, rfl, hbl, hc⟩ := (hr.below hb).ctx (by omega)
        have hk0 : l[k]? = some l[k] := List.getElem?_eq_getElem hlt
        have HP := Lib.hid (goodAt_prev hk0)
        have HS := Lib.hid (prevId_succ hk0)
        obtain ⟨c1, c2, c3⟩ := hc k _ hk0
        have hsz := hb.size
        clear hr hk0 hc
        by_cases h1 : okC l[k] = true
        · by_cases h2 : prevId l k < l[k].id
          · have HQ : Hid (goodAt l k = true) := by
              have := HP.out; rw [h1] at this; simp [h2] at this; exact this
            clear HP
            have HB := Lib.hid hb
            go_wp2_with (go_at_call 41; refine (contextValid_any _ _ _ _).mono ?_; rintro e w2 ⟨rfl, hb2⟩; have hc2 := below_cell hb2; clear hb)
            go_roundw
            case rel =>
              refine ⟨k + 1, by omega, by go_num, by rw [HS.out], below_alloc_step HB.out hb2, fun j hj => ?_⟩
              by_cases hj2 : j < k
              · exact HG.out j hj2
              · obtain rfl : j = k := by omega
                exact HQ.out
            case measure => simp [intOf]; omega
          · have HQ : Hid (goodAt l k = false) := by
              have := HP.out; rw [h1] at this; simp [h2] at this; exact this
            clear HP
            have HB := Lib.hid hb
            go_wp2_with (go_at_call 41; refine (contextValid_any _ _ _ _).mono ?_; rintro e w2 ⟨rfl, hb2⟩; have hc2 := below_cell hb2; clear hb)
            go_ret
            exact ⟨ret_bool (validL_no hlt HQ.out).symm, below_alloc_step HB.out hb2⟩
        · simp only [Bool.not_eq_true] at h1
          have HQ : Hid (goodAt l k = false) := by
            have := HP.out; rw [h1] at this; simp at this; exact this
          clear HP
          have HB := Lib.hid hb
          go_wp2_with (go_at_call 41; refine (contextValid_any _ _ _ _).mono ?_; rintro e w2 ⟨rfl, hb2⟩; have hc2 := below_cell hb2; clear hb)
          go_ret
          exact ⟨ret_bool (validL_no hlt HQ.out).symm, below_alloc_step HB.out hb2⟩
      · go_wp2_with fail
        go_ret
        refine ⟨ret_bool ?_, hb⟩
        rw [validL_of (fun j hj => HG.out j (by omega))]
        simp; omega

/-- The place of a number in a list, in the model. -/
theorem sFindIn_any (A : Option Addr) (cap : Nat) (l : List Ctx) (id : Int) (w : World) (hr : Reads w w.heap.size 3 A l.length (cellsC l)) (hl : l.length ≤ 1000000000000000) :
    Calls Try.prog 47 #[.slice A l.length cap, .int .i64 id] w fun e w2 => e = .returned (.int .i64 (findC l id)) ∧ w = w2 := by
  go_enter Try.func47, Try.ntmps47
  go_wp2_with fail
  go_loop [5] (fun i => ∃ k : Nat, k ≤ l.length ∧ i = .int .i64 k ∧ ∀ (j : Nat) (c : Ctx), j < k → l[j]? = some c → c.id ≠ id) (fun i => l.length - (intOf i).toNat)
  case atStart => exact ⟨0, Nat.zero_le _, rfl, fun j c h => absurd h (by omega)⟩
  case round =>
    obtain ⟨k, hk, rfl, hg⟩ := hrel
    have HG := Lib.hid hg; clear hg
    by_cases hlt : k < l.length
    · obtain ⟨b, off, rfl, hbl, hc⟩ := hr.ctx (by omega)
      have hk0 : l[k]? = some l[k] := List.getElem?_eq_getElem hlt
      have HK := Lib.hid hk0
      obtain ⟨c1, c2, c3⟩ := hc k _ hk0
      clear hr hk0 hc c2 c3
      by_cases h1 : l[k].id = id
      · have e1 : (l[k].id == id) = true := by simp [h1]
        have H1 := Lib.hid h1; clear h1
        go_wp2_with fail
        go_ret
        exact ⟨ret_int (findC_at id l k _ HG.out HK.out H1.out).symm, rfl⟩
      · have e1 : (l[k].id == id) = false := by simp [h1]
        have H1 := Lib.hid h1; clear h1
        go_wp2_with fail
        go_round
        case rel =>
          refine ⟨k + 1, by omega, by go_num, fun j c hj hc => ?_⟩
          by_cases hj2 : j < k
          · exact HG.out j c hj2 hc
          · obtain rfl : j = k := by omega
            rw [HK.out] at hc
            injection hc with hc
            exact hc ▸ H1.out
        case measure => simp [intOf]; omega
    · go_wp2_with fail
      go_ret
      exact ⟨ret_int (findC_none id l fun j c hc => HG.out j c (by have := (List.getElem?_eq_some_iff.1 hc).1; omega) hc).symm, rfl⟩

theorem sFind_any (A : Option Addr) (cap : Nat) (l : List Ctx) (id : Int) (w : World) (hr : Reads w w.heap.size 3 A l.length (cellsC l)) (hl : l.length ≤ 1000000000000000) :
    Calls Try.prog 22 #[.slice A l.length cap, .int .i64 id] w fun e w2 => e = .returned (.int .i64 (findL l id)) ∧ Below w.heap.size w w2 := by
  by_cases hv : validL l = true
  · have HV := Lib.hid hv
    go_enter Try.func22, Try.ntmps22
    go_wp2_with (first
      | (go_at_call 20; refine (sValid_any _ _ l _ hr hl).mono ?_; rintro e w2 ⟨rfl, hb2⟩)
      | (go_at_call 47; refine (sFindIn_any _ _ l _ _ (hr.step hb2) hl).mono ?_; rintro e w3 ⟨rfl, rfl⟩))
    go_ret
    exact ⟨ret_int (by simp [findL, HV.out]), hb2⟩
  · simp only [Bool.not_eq_true] at hv
    have HV := Lib.hid hv
    go_enter Try.func22, Try.ntmps22
    go_wp2_with (first
      | (go_at_call 20; refine (sValid_any _ _ l _ hr hl).mono ?_; rintro e w2 ⟨rfl, hb2⟩))
    go_ret
    exact ⟨ret_int (by simp [findL, HV.out]), hb2⟩
end Go.Proofs.Ytfcjhpgohcbcaaa
