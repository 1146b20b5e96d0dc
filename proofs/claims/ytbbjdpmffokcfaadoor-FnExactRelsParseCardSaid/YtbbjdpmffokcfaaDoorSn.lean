/- What the model's reading of a number and of a word returns. -/
import Derived.Test.YtbbjdpmffokcfaaDoorSp
import Derived.Test.YtbbjdpmffokcfaaDoorA2
import Derived.StillTailTactics
namespace Go.Proofs.YtbbjdpmffokcfaaDoor
open Go.RowKit

def isD (c : UInt8) : Bool := decide (48 ≤ c.toNat) && decide (c.toNat ≤ 57)
def numV (t : List UInt8) : Nat := t.foldl (fun n c => 10 * n + (c.toNat - 48)) 0
def numF (t : List UInt8) : Int := if (decide (1 ≤ t.length) && decide (t.length ≤ 2)) && (!(decide (1 < t.length) && decide (t[0]? = some 48)) && t.all isD) then (numV t : Int) else -1
theorem val_int {k : IntKind} {a b : Int} (h : a = b) : Value.int k a = .int k b := by rw [h]
theorem numV_snoc (t : List UInt8) (c : UInt8) : numV (t ++ [c]) = 10 * numV t + (c.toNat - 48) := by simp [numV]
theorem isD_of {c : UInt8} (h1 : 48 ≤ c.toNat) (h2 : c.toNat ≤ 57) : isD c = true := by simp [isD, h1, h2]
theorem numV_bound : ∀ (t : List UInt8), t.length ≤ 2 → (∀ c ∈ t, isD c = true) → numV t ≤ 99 ∧ (t.length ≤ 1 → numV t ≤ 9)
  | [], _, _ => by simp [numV]
  | [a], _, h => by
    have := h a (by simp)
    simp only [isD, Bool.and_eq_true, decide_eq_true_eq] at this
    simp only [numV, List.foldl_cons, List.foldl_nil]; constructor <;> omega
  | [a, b], _, h => by
    have h1 := h a (by simp)
    have h2 := h b (by simp)
    simp only [isD, Bool.and_eq_true, decide_eq_true_eq] at h1 h2
    simp only [numV, List.foldl_cons, List.foldl_nil, List.length_cons, List.length_nil]; omega
  | _ :: _ :: _ :: _, h, _ => by simp at h

set_option maxHeartbeats 2000000 in
set_option maxRecDepth 100000 in
theorem sNum_any (t : List UInt8) (w : World) (hl : t.length ≤ 2000000) :
    Calls Tryd.prog 45 #[.string (txt t)] w fun e w2 => e = .returned (.int .i64 (numF t)) ∧ w = w2 := by
  have hlen := txt_size t
  by_cases hr : 1 ≤ t.length ∧ t.length ≤ 2
  · have hin : inR ((txt t).size : Int) 1 2 = true := by rw [hlen]; simp [inR]; omega
    by_cases hz : 1 < t.length ∧ t[0]? = some 48
    · have HF : Hid (numF t = -1) := by
        show numF t = -1
        unfold numF
        rw [if_neg]
        simp [hz.1, hz.2]
      have h0 : 0 < (txt t).size := by rw [hlen]; omega
      have h0' : 0 < t.length := by omega
      have e1 : decide ((1 : Int) < ((txt t).size : Int)) = true := by rw [hlen]; simp; omega
      have e1' : decide (1 < (txt t).size) = true := by rw [hlen]; simp; omega
      have e2 : ((((txt t)[0]'h0).toNat : Int) == 48) = true := by
        rw [beq_iff_eq]
        refine (at_nat h0 h0').trans ?_
        have := hz.2
        rw [List.getElem?_eq_getElem h0'] at this
        injection this with this
        rw [this]; rfl
      clear hz hr hlen
      go_enter Tryd.func45, Tryd.ntmps45
      go_wp2_with (go_at_call 41; go_must (refine (l6In_any _ _ _ _).mono ?_; rintro e w2 ⟨rfl, rfl⟩))
      go_ret
      exact ⟨ret_int HF.out.symm, rfl⟩
    · have h0 : 0 < (txt t).size := by rw [hlen]; omega
      have h0' : 0 < t.length := by omega
      have HZ := Lib.hid hz
      have HR := Lib.hid hr
      have HL := Lib.hid hlen
      have hsz2 : (txt t).size ≤ 2 := by rw [hlen]; exact hr.2
      by_cases h1 : 1 < t.length
      · have e1 : decide ((1 : Int) < ((txt t).size : Int)) = true := by rw [hlen]; simp; omega
        have e1' : decide (1 < (txt t).size) = true := by rw [hlen]; simp; omega
        have e2 : ((((txt t)[0]'h0).toNat : Int) == 48) = false := by
          rw [beq_eq_false_iff_ne]
          intro h
          have h2 := (at_nat h0 h0').symm.trans h
          refine hz ⟨h1, ?_⟩
          rw [List.getElem?_eq_getElem h0']
          exact congrArg some (UInt8.toNat_inj.1 (by rw [show (48 : UInt8).toNat = 48 from rfl]; omega))
        clear h1
        clear hz hr hlen
        go_enter Tryd.func45, Tryd.ntmps45
        go_wp2_with (go_at_call 41; go_must (refine (l6In_any _ _ _ _).mono ?_; rintro e w2 ⟨rfl, rfl⟩))

        go_loop [3, 4] (fun vn vi => ∃ k : Nat, k ≤ t.length ∧ vi = .int .i64 k ∧ vn = .int .i64 ((numV (t.take k) : Nat) : Int) ∧ (t.take k).all isD = true) (fun _ vi => t.length - (intOf vi).toNat)
        case atStart => exact ⟨0, Nat.zero_le _, rfl, rfl, rfl⟩
        case round =>
          obtain ⟨k, hk, rfl, rfl, hall⟩ := hrel
          have hb := numV_bound (t.take k) (by rw [List.length_take]; have := HR.out; omega) (fun c hc => List.all_eq_true.1 hall c hc)
          have HA := Lib.hid hall
          clear hall
          by_cases hlt : k < t.length
          · have hls : k < (txt t).size := by rw [HL.out]; exact hlt
            have hlI : (k : Int) < ((txt t).size : Int) := by omega
            obtain ⟨x, hx⟩ : ∃ x : Nat, x = t[k].toNat := ⟨_, rfl⟩
            have hx1 : ((txt t)[k].toNat : Int) = (x : Int) := (at_nat hls hlt).trans (congrArg (fun n : Nat => (n : Int)) hx.symm)
            have hx2 : (txt t)[k].toNat = x := by omega
            have hx256 : x < 256 := by rw [hx]; exact t[k].toNat_lt
            have hk9 : numV (t.take k) ≤ 9 := by have := HR.out; exact hb.2 (by rw [List.length_take]; omega)
            have HT : Hid (t.take (k + 1) = t.take k ++ [t[k]]) := by
              show t.take (k + 1) = _
              rw [List.take_add_one, List.getElem?_eq_getElem hlt]; rfl
            by_cases hd : 48 ≤ x ∧ x ≤ 57
            · have hd1 : (48 : Int) ≤ (x : Int) := by omega
              have hd2 : (x : Int) ≤ 57 := by omega
              have HN : Hid (numV (t.take (k + 1)) = 10 * numV (t.take k) + (x - 48) ∧ (t.take (k + 1)).all isD = true) := by
                show _ ∧ _
                rw [HT.out, numV_snoc, ← hx, List.all_append, HA.out]
                exact ⟨rfl, by simp [isD_of (c := t[k]) (by omega) (by omega)]⟩
              clear hx hb
              go_wp2_with fail
              go_round
              case rel => exact ⟨k + 1, by omega, by go_num, val_int (by rw [HN.out.1]; omega), HN.out.2⟩
              case measure => simp [intOf]; omega
            · have HF : Hid (numF t = -1) := by
                show numF t = -1
                unfold numF
                rw [if_neg]
                intro h
                simp only [Bool.and_eq_true] at h
                have hd2 := List.all_eq_true.1 h.2.2 t[k] (List.getElem_mem hlt)
                simp only [isD, Bool.and_eq_true, decide_eq_true_eq] at hd2
                omega
              rcases Nat.lt_or_ge x 48 with hlo | hhi
              · have hlo2 : (x : Int) < 48 := by omega
                clear hx hb hd hlo
                go_wp2_with fail
                go_ret
                exact ⟨ret_int HF.out.symm, rfl⟩
              · have hd1 : (48 : Int) ≤ (x : Int) := by omega
                have hd2 : (57 : Int) < (x : Int) := by omega
                clear hx hb hd hhi
                go_wp2_with fail
                go_ret
                exact ⟨ret_int HF.out.symm, rfl⟩
          · have HF : Hid (((numV (t.take k) : Nat) : Int) = numF t) := by
              show ((numV (t.take k) : Nat) : Int) = numF t
              have ha := HA.out
              have hkl : k = t.length := by omega
              rw [hkl, List.take_of_length_le (Nat.le_refl _)] at ha ⊢
              have h1 := HR.out
              have h2 := HZ.out
              have e3 : (decide (1 < t.length) && decide (t[0]? = some 48)) = false := by
                rw [Bool.and_eq_false_iff, decide_eq_false_iff_not, decide_eq_false_iff_not]
                by_cases hq : 1 < t.length
                · exact .inr fun h => h2 ⟨hq, h⟩
                · exact .inl hq
              unfold numF
              rw [if_pos]
              rw [e3, ha, decide_eq_true h1.1, decide_eq_true h1.2]; rfl
            have hnl : ¬ k < (txt t).size := by rw [HL.out]; exact hlt
            clear hb
            go_wp2_with fail
            go_ret
            exact ⟨ret_int HF.out, rfl⟩
      · have e1 : decide ((1 : Int) < ((txt t).size : Int)) = false := by rw [hlen]; simp; omega
        have e1' : decide (1 < (txt t).size) = false := by rw [hlen]; simp; omega
        clear h1
        clear hz hr hlen
        go_enter Tryd.func45, Tryd.ntmps45
        go_wp2_with (go_at_call 41; go_must (refine (l6In_any _ _ _ _).mono ?_; rintro e w2 ⟨rfl, rfl⟩))
        go_loop [3, 4] (fun vn vi => ∃ k : Nat, k ≤ t.length ∧ vi = .int .i64 k ∧ vn = .int .i64 ((numV (t.take k) : Nat) : Int) ∧ (t.take k).all isD = true) (fun _ vi => t.length - (intOf vi).toNat)
        case atStart => exact ⟨0, Nat.zero_le _, rfl, rfl, rfl⟩
        case round =>
          obtain ⟨k, hk, rfl, rfl, hall⟩ := hrel
          have hb := numV_bound (t.take k) (by rw [List.length_take]; have := HR.out; omega) (fun c hc => List.all_eq_true.1 hall c hc)
          have HA := Lib.hid hall
          clear hall
          by_cases hlt : k < t.length
          · have hls : k < (txt t).size := by rw [HL.out]; exact hlt
            have hlI : (k : Int) < ((txt t).size : Int) := by omega
            obtain ⟨x, hx⟩ : ∃ x : Nat, x = t[k].toNat := ⟨_, rfl⟩
            have hx1 : ((txt t)[k].toNat : Int) = (x : Int) := (at_nat hls hlt).trans (congrArg (fun n : Nat => (n : Int)) hx.symm)
            have hx2 : (txt t)[k].toNat = x := by omega
            have hx256 : x < 256 := by rw [hx]; exact t[k].toNat_lt
            have hk9 : numV (t.take k) ≤ 9 := by have := HR.out; exact hb.2 (by rw [List.length_take]; omega)
            have HT : Hid (t.take (k + 1) = t.take k ++ [t[k]]) := by
              show t.take (k + 1) = _
              rw [List.take_add_one, List.getElem?_eq_getElem hlt]; rfl
            by_cases hd : 48 ≤ x ∧ x ≤ 57
            · have hd1 : (48 : Int) ≤ (x : Int) := by omega
              have hd2 : (x : Int) ≤ 57 := by omega
              have HN : Hid (numV (t.take (k + 1)) = 10 * numV (t.take k) + (x - 48) ∧ (t.take (k + 1)).all isD = true) := by
                show _ ∧ _
                rw [HT.out, numV_snoc, ← hx, List.all_append, HA.out]
                exact ⟨rfl, by simp [isD_of (c := t[k]) (by omega) (by omega)]⟩
              clear hx hb
              go_wp2_with fail
              go_round
              case rel => exact ⟨k + 1, by omega, by go_num, val_int (by rw [HN.out.1]; omega), HN.out.2⟩
              case measure => simp [intOf]; omega
            · have HF : Hid (numF t = -1) := by
                show numF t = -1
                unfold numF
                rw [if_neg]
                intro h
                simp only [Bool.and_eq_true] at h
                have hd2 := List.all_eq_true.1 h.2.2 t[k] (List.getElem_mem hlt)
                simp only [isD, Bool.and_eq_true, decide_eq_true_eq] at hd2
                omega
              rcases Nat.lt_or_ge x 48 with hlo | hhi
              · have hlo2 : (x : Int) < 48 := by omega
                clear hx hb hd hlo
                go_wp2_with fail
                go_ret
                exact ⟨ret_int HF.out.symm, rfl⟩
              · have hd1 : (48 : Int) ≤ (x : Int) := by omega
                have hd2 : (57 : Int) < (x : Int) := by omega
                clear hx hb hd hhi
                go_wp2_with fail
                go_ret
                exact ⟨ret_int HF.out.symm, rfl⟩
          · have HF : Hid (((numV (t.take k) : Nat) : Int) = numF t) := by
              show ((numV (t.take k) : Nat) : Int) = numF t
              have ha := HA.out
              have hkl : k = t.length := by omega
              rw [hkl, List.take_of_length_le (Nat.le_refl _)] at ha ⊢
              have h1 := HR.out
              have h2 := HZ.out
              have e3 : (decide (1 < t.length) && decide (t[0]? = some 48)) = false := by
                rw [Bool.and_eq_false_iff, decide_eq_false_iff_not, decide_eq_false_iff_not]
                by_cases hq : 1 < t.length
                · exact .inr fun h => h2 ⟨hq, h⟩
                · exact .inl hq
              unfold numF
              rw [if_pos]
              rw [e3, ha, decide_eq_true h1.1, decide_eq_true h1.2]; rfl
            have hnl : ¬ k < (txt t).size := by rw [HL.out]; exact hlt
            clear hb
            go_wp2_with fail
            go_ret
            exact ⟨ret_int HF.out, rfl⟩
  · have hin : inR ((txt t).size : Int) 1 2 = false := by rw [hlen]; simp [inR]; omega
    have HF : Hid (numF t = -1) := by
      show numF t = -1
      unfold numF
      rw [if_neg]
      simp; omega
    clear hr hlen
    go_enter Tryd.func45, Tryd.ntmps45
    go_wp2_with (go_at_call 41; go_must (refine (l6In_any _ _ _ _).mono ?_; rintro e w2 ⟨rfl, rfl⟩))
    go_ret
    exact ⟨ret_int HF.out.symm, rfl⟩
end Go.Proofs.YtbbjdpmffokcfaaDoor
