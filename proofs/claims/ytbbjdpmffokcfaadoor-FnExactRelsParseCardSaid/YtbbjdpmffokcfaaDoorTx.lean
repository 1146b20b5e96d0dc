/- What the model's writing of a number below a hundred in decimals returns. -/
import Derived.Test.YtbbjdpmffokcfaaDoorBase
import Derived.Laws.IdiomStrings
import Derived.Laws.BytesString
import Derived.IntWalk
import Derived.Deep.RegionWith
import Derived.Lib.ItoaNum
import Derived.Lib.Join
namespace Go.Proofs.YtbbjdpmffokcfaaDoor
open Go.RowKit

/-- A text of bytes. -/
def txt (l : List UInt8) : ByteArray := ⟨l.toArray⟩
theorem txt_list (l : List UInt8) : (txt l).data.toList = l := rfl
theorem txt_of (s : ByteArray) : txt s.data.toList = s := rfl
theorem txt_size (l : List UInt8) : (txt l).size = l.length := by simp [txt, ByteArray.size]
theorem txt_append (a b : List UInt8) : txt a ++ txt b = txt (a ++ b) := by
  apply ByteArray.ext
  simp [txt]
theorem ret_str {a b : ByteArray} (h : a = b) : Ending.returned (.string a) = .returned (.string b) := by rw [h]
/-- A digit. -/
def dig (d : Nat) : UInt8 := UInt8.ofNat (48 + d)
theorem dig_nat {d : Nat} (h : d < 10) : (dig d).toNat = 48 + d := by
  simp only [dig, UInt8.toNat_ofNat']
  omega
theorem conv_at (W : World) (g d : Nat) (h : d < 10) (hc : W.cell? ⟨g, 0, none⟩ = some (.int .u8 (48 + (d : Int)))) : (convert 22 9 (.slice (some ⟨g, 0, none⟩) 1 1)).run Tryd.prog W = .ok (.string (txt [dig d])) W := by
  refine run_convert_bytes_back W 22 9 5 ⟨g, 0, none⟩ 1 [dig d] Tryd.underlying22 Tryd.underlying5 Tryd.underlying9 ?_
  intro j hj
  have h0 : j = 0 := by simpa using hj
  subst h0
  have e : ((dig d).toNat : Int) = 48 + (d : Int) := by rw [dig_nat h]; omega
  exact hc.trans (by rw [← e]; rfl)
theorem new_cell (w : World) (d : Nat) : (w.alloc (.cells #[.int .u8 (48 + (d : Int))] 5)).cell? ⟨w.heap.size, 0, none⟩ = some (.int .u8 (48 + (d : Int))) := (cell_of_row _ _ 0 _ _ _ (heap_alloc_new _ _)).trans rfl

set_option maxHeartbeats 1000000 in
set_option maxRecDepth 100000 in
theorem sDec1_any (n : Nat) (h : n < 10) (w : World) :
    Calls Tryd.prog 25 #[.int .i64 n] w fun e w2 => e = .returned (.string (txt [dig n])) ∧ Below w.heap.size w w2 := by
  have e1 : decide ((n : Int) < -9223372036854775807) = false := decide_eq_false (by omega)
  have e2 : decide ((n : Int) < 0) = false := decide_eq_false (by omega)
  have e3 : decide ((n : Int) < 10) = true := decide_eq_true (by omega)
  have hcv := conv_at _ _ n h (new_cell w n)
  go_enter Tryd.func25, Tryd.ntmps25
  go_wp2_with fail
  go_ret
  exact ⟨rfl, (Below.refl _ _).alloc (Nat.le_refl _) _⟩

set_option maxHeartbeats 1000000 in
set_option maxRecDepth 100000 in
theorem sDec2_any (n q m : Nat) (hn : n = 10 * q + m) (hq : q < 10) (hq1 : 1 ≤ q) (hm : m < 10) (w : World) :
    Calls Tryd.prog 25 #[.int .i64 n] w fun e w2 => e = .returned (.string (txt [dig q, dig m])) ∧ Below w.heap.size w w2 := by
  have e1 : decide ((n : Int) < -9223372036854775807) = false := decide_eq_false (by omega)
  have e2 : decide ((n : Int) < 0) = false := decide_eq_false (by omega)
  have e3 : decide ((n : Int) < 10) = false := decide_eq_false (by omega)
  have ht1 : Int.tdiv (n : Int) 10 = (q : Int) := by rw [Int.tdiv_eq_ediv_of_nonneg (by omega)]; omega
  have ht2 : Int.tmod (n : Int) 10 = (m : Int) := by rw [Int.tmod_eq_emod_of_nonneg (by omega)]; omega
  have hw1 : IntKind.i64.wrap (q : Int) = (q : Int) := IntWalk.i64_in _ (by omega)
  have hw2 : IntKind.i64.wrap (48 + (m : Int)) = 48 + (m : Int) := IntWalk.i64_in _ (by omega)
  have hw3 : IntKind.u8.wrap (48 + (m : Int)) = 48 + (m : Int) := IntWalk.u8_in _ (by omega)
  have hcv0 := conv_at (w.alloc (.cells #[.int .u8 (48 + (m : Int))] 5)).drew w.heap.size m hm (new_cell w m)
  have hz1 : (txt [dig q]).size = 1 := rfl
  have hz2 : (txt [dig m]).size = 1 := rfl
  clear hn
  go_enter Tryd.func25, Tryd.ntmps25
  go_wp2_with fail
  go_region_with
    ((first
      | (go_at_call 25
         go_must (refine (sDec1_any q hq _).mono ?_)
         rintro e w2 ⟨rfl, hb2⟩
         have hcv2 := conv_at _ _ m hm (new_cell w2 m)
         try (have hcv3 := conv_at w2 w.heap.size m hm ((Below.cell hb2 (p := ⟨w.heap.size, 0, none⟩) (by simp; done)).trans (new_cell w m))))))
  all_goals
    go_wp2_with fail
    go_ret
    refine ⟨ret_str (txt_append _ _), ?_⟩
    first
      | exact below_step (below_draws (Below.refl _ _) 1) hb2
      | exact (below_step (below_draws (Below.refl _ _) 1) hb2).alloc (below_step (below_draws (Below.refl _ _) 1) hb2).size _
      | exact below_step (below_draws ((Below.refl _ _).alloc (Nat.le_refl _) _) 1) hb2
/-- The decimals of a number. -/
def dec (n : Int) : List UInt8 := Lib.decDigits n.toNat
theorem dec_one {n : Nat} (h : n < 10) : dec (n : Int) = [dig n] := by unfold dec; rw [Int.toNat_natCast, Lib.decDigits_one h]; rfl
theorem dec_two {n : Nat} (h1 : ¬ n < 10) (h2 : n < 100) : dec (n : Int) = [dig (n / 10), dig (n % 10)] := by unfold dec; rw [Int.toNat_natCast, Lib.decDigits_two h1 h2]; rfl
/-- The model's writing of a number from 0 to 99. -/
theorem sDec_any (n : Int) (h0 : 0 ≤ n) (h1 : n < 100) (w : World) :
    Calls Tryd.prog 25 #[.int .i64 n] w fun e w2 => e = .returned (.string (txt (dec n))) ∧ Below w.heap.size w w2 := by
  obtain ⟨m, rfl⟩ : ∃ m : Nat, n = (m : Int) := ⟨n.toNat, by omega⟩
  by_cases h : m < 10
  · rw [dec_one h]; exact sDec1_any m h w
  · rw [dec_two h (by omega)]
    exact sDec2_any m (m / 10) (m % 10) (by omega) (by omega) (by omega) (by omega) w
end Go.Proofs.YtbbjdpmffokcfaaDoor
