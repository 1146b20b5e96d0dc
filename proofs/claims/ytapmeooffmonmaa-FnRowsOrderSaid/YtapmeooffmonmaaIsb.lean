/- Whether the program finds rows serial. -/
import Derived.Test.YtapmeooffmonmaaIsa
namespace Go.Proofs.Ytapmeooffmonmaa
open Go.RowKit

theorem runsS_step (rows : List (List Bool)) (kd : Nat) {k : Nat} {r : List Bool} {x bef : Bool} (hr : rows[k]? = some r) (hx : r[kd]? = some x) (hb : bef = if k = 0 then false else bitS rows (k - 1) kd) :
    runsS (fun i => bitS rows i kd) (k + 1) = runsS (fun i => bitS rows i kd) k + (if (x && !bef) = true then 1 else 0) ∧ x = if k + 1 = 0 then false else bitS rows (k + 1 - 1) kd := by
  have e : runsS (fun i => bitS rows i kd) (k + 1) = runsS (fun i => bitS rows i kd) k + if (bitS rows k kd && (decide (k = 0) || !bitS rows (k - 1) kd)) = true then 1 else 0 := rfl
  have hbx := bitS_at hr hx
  constructor
  · rw [e, hbx, hb]
    by_cases h0 : k = 0
    · simp [h0]
    · simp [h0]
  · rw [if_neg (by omega), show k + 1 - 1 = k from rfl, hbx]
theorem runsS_le (f : Nat → Bool) : ∀ n, runsS f n ≤ n
  | 0 => Nat.le_refl 0
  | n + 1 => by
    have := runsS_le f n
    show runsS f n + _ ≤ n + 1
    split <;> omega
set_option maxHeartbeats 1600000 in
set_option maxRecDepth 100000 in
theorem iRuns_any (A : Option Addr) (cap : Nat) (rows : List (List Bool)) (kd : Nat) (w : World) (hr : Nest encB w w.heap.size A rows.length rows) (hl : rows.length ≤ 1000000000) (hkd : kd < 5) (h5 : ∀ r ∈ rows, r.length = 5) :
    Calls Try.prog 61 #[.slice A rows.length cap, .int .i64 (kd : Int)] w fun e w2 => e = .returned (.int .i64 (runsS (fun i => bitS rows i kd) rows.length : Nat)) ∧ w = w2 := by
  have H := Lib.hid (And.intro hr h5)
  clear hr h5
  go_enter Try.func61, Try.ntmps61
  go_wp2_with fail
  go_loop [5, 6, 11] (fun m b i => ∃ (k : Nat) (bef : Bool), k ≤ rows.length ∧ i = .int .i64 k ∧ m = .int .i64 (runsS (fun i => bitS rows i kd) k : Nat) ∧ b = .bool bef ∧ bef = if k = 0 then false else bitS rows (k - 1) kd) (fun _ _ i => rows.length - (intOf i).toNat)
  case atStart => exact ⟨0, false, Nat.zero_le _, rfl, rfl, rfl, rfl⟩
  case round =>
    obtain ⟨k, bef, hk, rfl, rfl, rfl, hbf⟩ := hrel
    have hrj := runsS_le (fun i => bitS rows i kd) k
    by_cases hlt : k < rows.length
    · have hki : (k : Int) < (rows.length : Int) := by omega
      obtain ⟨r, hx⟩ : ∃ r, rows[k]? = some r := ⟨_, List.getElem?_eq_getElem hlt⟩
      have hr5 := H.out.2 r (List.mem_of_getElem? hx)
      obtain ⟨x, hxk⟩ : ∃ x, r[kd]? = some x := ⟨_, List.getElem?_eq_getElem (by omega)⟩
      obtain ⟨b, off, b2, off2, c2, hA, hb, d1, hb2, d2⟩ := H.out.1.bit hx hxk
      subst hA
      have hkr : (kd : Int) < (r.length : Int) := by omega
      have hst := runsS_step rows kd hx hxk hbf
      obtain ⟨m, hm⟩ : ∃ m, m = runsS (fun i => bitS rows i kd) k := ⟨_, rfl⟩
      rw [← hm] at hst hrj ⊢
      have HS := Lib.hid hst
      clear hst hx hxk hr5 hm hbf
      cases x
      · go_wp2_with fail
        go_round
        case rel => exact ⟨k + 1, false, by omega, by go_num, by rw [HS.out.1]; simp, rfl, HS.out.2⟩
        case measure => simp [intOf]; omega
      · cases bef
        · go_wp2_with fail
          go_round
          case rel => exact ⟨k + 1, true, by omega, by go_num, by rw [HS.out.1]; go_num, rfl, HS.out.2⟩
          case measure => simp [intOf]; omega
        · go_wp2_with fail
          go_round
          case rel => exact ⟨k + 1, true, by omega, by go_num, by rw [HS.out.1]; simp, rfl, HS.out.2⟩
          case measure => simp [intOf]; omega
    · obtain rfl : k = rows.length := by omega
      have hdn : decide ((rows.length : Int) < (rows.length : Int)) = false := decide_eq_false (by omega)
      clear hbf
      go_wp2_with fail
      go_ret
      exact ⟨rfl, rfl⟩
set_option maxHeartbeats 1600000 in
set_option maxRecDepth 100000 in
theorem iSer_any (A : Option Addr) (cap : Nat) (rows : List (List Bool)) (w : World) (hr : Nest encB w w.heap.size A rows.length rows) (hl : rows.length ≤ 1000000000) (h5 : ∀ r ∈ rows, r.length = 5) :
    Calls Try.prog 47 #[.slice A rows.length cap] w fun e w2 => e = .returned (.bool (serS rows)) ∧ w = w2 := by
  have hR := fun (kd : Nat) (hkd : kd < 5) => iRuns_any A cap rows kd w hr hl hkd h5
  have H := Lib.hid hR
  clear hr h5 hR
  go_enter Try.func47, Try.ntmps47
  go_wp2_with fail
  go_loop [4] (fun i => ∃ k : Nat, k ≤ 5 ∧ i = .int .i64 k ∧ ∀ j, j < k → serT rows j = true) (fun i => 5 - (intOf i).toNat)
  case atStart => exact ⟨0, Nat.zero_le _, rfl, fun j h => absurd h (by omega)⟩
  case round =>
    obtain ⟨k, hk, rfl, hg⟩ := hrel
    have HG := Lib.hid hg
    clear hg
    by_cases hk5 : k < 5
    · have hki : (k : Int) < 5 := by omega
      have hR := H.out k hk5
      obtain ⟨m, hm⟩ : ∃ m, m = runsS (fun i => bitS rows i k) rows.length := ⟨_, rfl⟩
      have hT : serT rows k = decide (m ≤ 1) := by rw [hm]; rfl
      have hrj := runsS_le (fun i => bitS rows i k) rows.length
      rw [← hm] at hR hrj
      have HR := Lib.hid (And.intro hR hT)
      clear hR hT hm
      by_cases hm1 : m ≤ 1
      · have e1 : decide ((1 : Int) < (m : Int)) = false := decide_eq_false (by omega)
        have HM := Lib.hid hm1
        clear hm1
        go_wp2_with (go_at_call 61; go_must (refine HR.out.1.mono ?_); rintro e w2 ⟨rfl, rfl⟩)
        go_round
        case rel =>
          refine ⟨k + 1, by omega, by go_num, fun i hi => ?_⟩
          by_cases hik : i < k
          · exact HG.out i hik
          · obtain rfl : i = k := by omega
            rw [HR.out.2]
            exact decide_eq_true HM.out
        case measure => simp [intOf]; omega
      · have e1 : decide ((1 : Int) < (m : Int)) = true := decide_eq_true (by omega)
        have HM := Lib.hid hm1
        clear hm1
        go_wp2_with (go_at_call 61; go_must (refine HR.out.1.mono ?_); rintro e w2 ⟨rfl, rfl⟩)
        go_ret
        refine ⟨ret_bool ?_, rfl⟩
        symm
        unfold serS
        rw [List.all_eq_false]
        exact ⟨k, List.mem_range.2 hk5, by rw [HR.out.2]; simpa using HM.out⟩
    · have hdn : decide ((k : Int) < 5) = false := decide_eq_false (by omega)
      go_wp2_with fail
      go_ret
      refine ⟨ret_bool ?_, rfl⟩
      symm
      unfold serS
      rw [List.all_eq_true]
      exact fun i hi => HG.out i (by have := List.mem_range.1 hi; omega)
set_option maxHeartbeats 800000 in
set_option maxRecDepth 100000 in
theorem iSerial_any (A : Option Addr) (cap : Nat) (rows : List (List Bool)) (w : World) (hr : Nest encB w w.heap.size A rows.length rows) (hl : rows.length ≤ 2000000) (_ : ∀ r ∈ rows, r.length ≤ 2000000) :
    Calls Try.prog 17 #[.slice A rows.length cap] w fun e w2 => e = .returned (.bool (serOk rows)) ∧ Below w.heap.size w w2 := by
  have hV := iRowsVs_any A cap rows w hr (by omega)
  cases h1 : okS rows
  · have HN : Hid (serOk rows = false) := by show serOk rows = false; simp [serOk, h1]
    rw [h1] at hV
    have H := Lib.hid hV
    clear hV h1 hr
    go_enter Try.func17, Try.ntmps17
    go_wp2_with (go_at_call 31; go_must (refine H.out.mono ?_); rintro e w2 ⟨rfl, rfl⟩)
    go_ret
    exact ⟨ret_bool HN.out.symm, Below.refl _ _⟩
  · have HN : Hid (serOk rows = serS rows) := by show serOk rows = serS rows; simp [serOk, h1]
    have hS := iSer_any A cap rows w hr (by omega) (okS_parts h1).1
    rw [h1] at hV
    have H := Lib.hid (And.intro hV hS)
    clear hV h1 hr hS
    go_enter Try.func17, Try.ntmps17
    go_wp2_with (first
      | (go_at_call 31; go_must (refine H.out.1.mono ?_); rintro e w2 ⟨rfl, rfl⟩)
      | (go_at_call 47; go_must (refine H.out.2.mono ?_); rintro e w3 ⟨rfl, rfl⟩))
    go_ret
    exact ⟨ret_bool HN.out.symm, Below.refl _ _⟩
end Go.Proofs.Ytapmeooffmonmaa
