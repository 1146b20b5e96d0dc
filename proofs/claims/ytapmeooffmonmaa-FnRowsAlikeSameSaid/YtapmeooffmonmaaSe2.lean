/- The model's checks of rows, and whether they are serial. -/
import Derived.Test.YtapmeooffmonmaaSe1
import Derived.Test.YtapmeooffmonmaaTw
namespace Go.Proofs.Ytapmeooffmonmaa
open Go.RowKit

theorem l6InS_any (n lo hi : Int) (w : World) :
    Calls Try.prog 49 #[.int .i64 n, .int .i64 lo, .int .i64 hi] w fun e w2 => e = .returned (.bool (inR n lo hi)) ∧ w = w2 := by
  go_enter Try.func49, Try.ntmps49
  go_wp2
  all_goals (go_ret; refine ⟨?_, rfl⟩; simp [inR]; try omega)
/-- A row of a table that is read, and one of its cells. -/
theorem Nest.bit {w : World} {B : Nat} {A : Option Addr} {rows : List (List Bool)} (h : Nest encB w B A rows.length rows) {i k : Nat} {r : List Bool} {x : Bool} (hr : rows[i]? = some r) (hx : r[k]? = some x) :
    ∃ b off b2 off2 c2, A = some ⟨b, off, none⟩ ∧ b < B ∧ w.cell? ⟨b, off + i, none⟩ = some (.slice (some ⟨b2, off2, none⟩) r.length c2) ∧ b2 < B ∧ w.cell? ⟨b2, off2 + k, none⟩ = some (.bool x) := by
  obtain ⟨b, off, A2, c2, hA, hb, hc, _, hr2⟩ := h.row hr
  obtain ⟨b2, off2, hA2, hb2, hc2⟩ := hr2.cellE hx
  subst hA2
  exact ⟨b, off, b2, off2, c2, hA, hb, hc, hb2, hc2⟩
set_option maxHeartbeats 1600000 in
set_option maxRecDepth 100000 in
theorem sRowsV_any (A : Option Addr) (cap : Nat) (rows : List (List Bool)) (w : World) (hr : Nest encB w w.heap.size A rows.length rows) (hl : rows.length ≤ 1000000000000) :
    Calls Try.prog 19 #[.slice A rows.length cap] w fun e w2 => e = .returned (.bool (okS rows)) ∧ w = w2 := by
  go_enter Try.func19, Try.ntmps19
  go_wp2_with fail
  go_loop [3] (fun i => ∃ k : Nat, k ≤ rows.length ∧ i = .int .i64 k ∧ ∀ j r, j < k → rows[j]? = some r → r.length = 5) (fun i => rows.length - (intOf i).toNat)
  case atStart => exact ⟨0, Nat.zero_le _, rfl, fun j r h => absurd h (by omega)⟩
  case round =>
    obtain ⟨k, hk, rfl, hg⟩ := hrel
    have HG := Lib.hid hg
    clear hg
    by_cases hlt : k < rows.length
    · have hki : (k : Int) < (rows.length : Int) := by omega
      obtain ⟨r, hx⟩ : ∃ r, rows[k]? = some r := ⟨_, List.getElem?_eq_getElem hlt⟩
      obtain ⟨b, off, A2, c2, hA, hb, c1, _, _⟩ := hr.row hx
      subst hA
      have HX := Lib.hid hx
      clear hx hr
      by_cases h5 : r.length = 5
      · have e5 : ((r.length : Int) != 5) = false := by simp; omega
        have H5 := Lib.hid h5
        clear h5
        go_wp2_with fail
        go_round
        case rel =>
          refine ⟨k + 1, by omega, by go_num, fun j r2 hj hr2 => ?_⟩
          by_cases hj2 : j < k
          · exact HG.out j r2 hj2 hr2
          · obtain rfl : j = k := by omega
            rw [HX.out] at hr2
            rw [← Option.some.inj hr2]
            exact H5.out
        case measure => simp [intOf]; omega
      · have e5 : ((r.length : Int) != 5) = true := by simp; omega
        have H5 := Lib.hid h5
        clear h5
        go_wp2_with fail
        go_ret
        refine ⟨ret_bool ?_, rfl⟩
        cases ho : okS rows
        · rfl
        · exact absurd ((okS_parts ho).1 r (List.mem_of_getElem? HX.out)) H5.out
    · have hkl : decide ((k : Int) < (rows.length : Int)) = false := decide_eq_false (by omega)
      go_wp2_with (go_at_call 49; refine (l6InS_any _ _ _ _).mono ?_; rintro e w2 ⟨rfl, rfl⟩)
      go_ret
      refine ⟨ret_bool ?_, rfl⟩
      have hall : (rows.all fun r => decide (r.length = 5)) = true := by
        rw [List.all_eq_true]
        intro r hr
        obtain ⟨j, hj, rfl⟩ := List.getElem_of_mem hr
        exact decide_eq_true (HG.out j _ (by omega) (List.getElem?_eq_getElem hj))
      unfold okS inR
      rw [hall, Bool.true_and]
      congr 1 <;> rw [decide_eq_decide] <;> omega
set_option maxHeartbeats 3200000 in
set_option maxRecDepth 100000 in
theorem sSer_any (A : Option Addr) (cap : Nat) (rows : List (List Bool)) (w : World) (hr : Nest encB w w.heap.size A rows.length rows) (hl : rows.length ≤ 1000000000) (h5 : ∀ r ∈ rows, r.length = 5) :
    Calls Try.prog 48 #[.slice A rows.length cap] w fun e w2 => e = .returned (.bool (serS rows)) ∧ w = w2 := by
  have H := Lib.hid (And.intro hr h5)
  clear hr h5
  go_enter Try.func48, Try.ntmps48
  go_wp2_with fail
  go_loop [3] (fun i => ∃ k : Nat, k ≤ 5 ∧ i = .int .i64 k ∧ ∀ j, j < k → serT rows j = true) (fun i => 5 - (intOf i).toNat)
  case atStart => exact ⟨0, Nat.zero_le _, rfl, fun j h => absurd h (by omega)⟩
  case round =>
    obtain ⟨k, hk, rfl, hg⟩ := hrel
    have HG := Lib.hid hg
    clear hg
    by_cases hk5 : k < 5
    · have hki : (k : Int) < 5 := by omega
      go_wp2_with fail
      go_loop [4, 5] (fun m i => ∃ j : Nat, j ≤ rows.length ∧ i = .int .i64 j ∧ m = .int .i64 (runsS (fun i => bitS rows i k) j : Nat)) (fun _ i => rows.length - (intOf i).toNat)
      case atStart => exact ⟨0, Nat.zero_le _, rfl, rfl⟩
      case round =>
        obtain ⟨j, hj, rfl, rfl⟩ := hrel
        have hrj : ∀ n : Nat, runsS (fun i => bitS rows i k) n ≤ n := fun n => by
          induction n with
          | zero => exact Nat.le_refl 0
          | succ n ih =>
            show runsS (fun i => bitS rows i k) n + _ ≤ n + 1
            split <;> omega
        have hrj := hrj j
        by_cases hlt : j < rows.length
        · have hji : (j : Int) < (rows.length : Int) := by omega
          obtain ⟨r, hx⟩ : ∃ r, rows[j]? = some r := ⟨_, List.getElem?_eq_getElem hlt⟩
          have hr5 := H.out.2 r (List.mem_of_getElem? hx)
          obtain ⟨x, hxk⟩ : ∃ x, r[k]? = some x := ⟨_, List.getElem?_eq_getElem (by omega)⟩
          obtain ⟨b, off, b2, off2, c2, hA, hb, d1, hb2, d2⟩ := H.out.1.bit hx hxk
          subst hA
          have hkr : (k : Int) < (r.length : Int) := by omega
          have hbx := bitS_at hx hxk
          have hst : runsS (fun i => bitS rows i k) (j + 1) = runsS (fun i => bitS rows i k) j + if (x && (decide (j = 0) || !bitS rows (j - 1) k)) = true then 1 else 0 := by rw [← hbx]; rfl
          obtain ⟨m, hm⟩ : ∃ m, m = runsS (fun i => bitS rows i k) j := ⟨_, rfl⟩
          rw [← hm] at hst hrj ⊢
          cases x
          · have HS := Lib.hid hst
            clear hst hx hxk hbx hr5 hm
            go_wp2_with fail
            go_round
            case rel => exact ⟨j + 1, by omega, by go_num, by rw [HS.out]; simp⟩
            case measure => simp [intOf]; omega
          · by_cases hj0 : j = 0
            · have e0 : ((j : Int) == 0) = true := by simp [hj0]
              have HS : Hid (runsS (fun i => bitS rows i k) (j + 1) = m + 1) := by
                show runsS (fun i => bitS rows i k) (j + 1) = m + 1
                rw [hst]; simp [hj0]
              clear hst hx hxk hbx hr5 hm hj0
              go_wp2_with fail
              go_round
              case rel => exact ⟨j + 1, by omega, by go_num, by rw [HS.out]; go_num⟩
              case measure => simp [intOf]; omega
            · have e0 : ((j : Int) == 0) = false := by rw [beq_eq_false_iff_ne]; omega
              obtain ⟨r', hx'⟩ : ∃ r, rows[j - 1]? = some r := ⟨_, List.getElem?_eq_getElem (by omega)⟩
              have hr5' := H.out.2 r' (List.mem_of_getElem? hx')
              obtain ⟨y, hyk⟩ : ∃ y, r'[k]? = some y := ⟨_, List.getElem?_eq_getElem (by omega)⟩
              obtain ⟨b', off', b3, off3, c3, hA', _, d3, hb3, d4⟩ := H.out.1.bit hx' hyk
              injection hA' with hA'
              injection hA' with e1 e2 e3
              subst e1 e2
              clear e3
              have hkr' : (k : Int) < (r'.length : Int) := by omega
              rw [bitS_at hx' hyk] at hst
              have hj1 : ((j : Int) - 1) = ((j - 1 : Nat) : Int) := by omega
              have hj2 : ((j - 1 : Nat) : Int) < (rows.length : Int) := by omega
              have hj3 : (0 : Int) ≤ ((j - 1 : Nat) : Int) := by omega
              have HS : Hid (runsS (fun i => bitS rows i k) (j + 1) = if y = true then m else m + 1) := by
                show runsS (fun i => bitS rows i k) (j + 1) = if y = true then m else m + 1
                rw [hst]; cases y <;> simp [hj0]
              clear hst hx hxk hbx hr5 hm hj0 hx' hyk hr5'
              cases y
              · go_wp2_with fail
                go_round
                case rel => exact ⟨j + 1, by omega, by go_num, by rw [HS.out, if_neg (by simp)]; go_num⟩
                case measure => simp [intOf]; omega
              · go_wp2_with fail
                go_round
                case rel => exact ⟨j + 1, by omega, by go_num, by rw [HS.out, if_pos (by trivial)]⟩
                case measure => simp [intOf]; omega
        · obtain rfl : j = rows.length := by omega
          have hdn : decide ((rows.length : Int) < (rows.length : Int)) = false := decide_eq_false (by omega)
          obtain ⟨m, hm⟩ : ∃ m, m = runsS (fun i => bitS rows i k) rows.length := ⟨_, rfl⟩
          have hT : serT rows k = decide (m ≤ 1) := by rw [hm]; rfl
          rw [← hm] at hrj ⊢
          have HT := Lib.hid hT
          clear hm hT
          by_cases hm1 : m ≤ 1
          · have e1 : decide ((1 : Int) < (m : Int)) = false := decide_eq_false (by omega)
            have HM := Lib.hid hm1
            clear hm1
            go_wp2_with fail
            go_round
            case rel =>
              refine ⟨k + 1, by omega, by go_num, fun i hi => ?_⟩
              by_cases hik : i < k
              · exact HG.out i hik
              · obtain rfl : i = k := by omega
                rw [HT.out]
                exact decide_eq_true HM.out
            case measure => simp [intOf]; omega
          · have e1 : decide ((1 : Int) < (m : Int)) = true := decide_eq_true (by omega)
            have HM := Lib.hid hm1
            clear hm1
            go_wp2_with fail
            go_ret
            refine ⟨ret_bool ?_, rfl⟩
            symm
            unfold serS
            rw [List.all_eq_false]
            exact ⟨k, List.mem_range.2 hk5, by rw [HT.out]; simpa using HM.out⟩
    · have hdn : decide ((k : Int) < 5) = false := decide_eq_false (by omega)
      go_wp2_with fail
      go_ret
      refine ⟨ret_bool ?_, rfl⟩
      symm
      unfold serS
      rw [List.all_eq_true]
      exact fun i hi => HG.out i (by have := List.mem_range.1 hi; omega)
set_option maxHeartbeats 800000 in
set_option maxRecDepth 100000 in
theorem sSerial_any (A : Option Addr) (cap : Nat) (rows : List (List Bool)) (w : World) (hr : Nest encB w w.heap.size A rows.length rows) (hl : rows.length ≤ 1000000000) :
    Calls Try.prog 18 #[.slice A rows.length cap] w fun e w2 => e = .returned (.bool (serOk rows)) ∧ w = w2 := by
  have hV := sRowsV_any A cap rows w hr (by omega)
  cases h1 : okS rows
  · have HN : Hid (serOk rows = false) := by show serOk rows = false; simp [serOk, h1]
    rw [h1] at hV
    have H := Lib.hid hV
    clear hV h1 hr
    go_enter Try.func18, Try.ntmps18
    go_wp2_with (go_at_call 19; go_must (refine H.out.mono ?_); rintro e w2 ⟨rfl, rfl⟩)
    go_ret
    exact ⟨ret_bool HN.out.symm, rfl⟩
  · have HN : Hid (serOk rows = serS rows) := by show serOk rows = serS rows; simp [serOk, h1]
    have hS := sSer_any A cap rows w hr hl (okS_parts h1).1
    rw [h1] at hV
    have H := Lib.hid (And.intro hV hS)
    clear hV h1 hr hS
    go_enter Try.func18, Try.ntmps18
    go_wp2_with (first
      | (go_at_call 19; go_must (refine H.out.1.mono ?_); rintro e w2 ⟨rfl, rfl⟩)
      | (go_at_call 48; go_must (refine H.out.2.mono ?_); rintro e w3 ⟨rfl, rfl⟩))
    go_ret
    exact ⟨ret_bool HN.out.symm, rfl⟩
end Go.Proofs.Ytapmeooffmonmaa
