/- The model's search of a number in a list; a list of numbers of the call's own. -/
import Derived.Test.YtnkdpogplkomhaaPe
import Derived.Test.YtnkdpogplkomhaaIl
namespace Go.Proofs.Ytnkdpogplkomhaa
open Go.RowKit

def IntsS (w : World) (out : List Int) (e : Ending) (w2 : World) : Prop :=
  ∃ v, e = .returned v ∧ Below w.heap.size w w2 ∧ w2.ownsRow w.heap.size 3 1 v out.length (cellsI out)
theorem sPlace_any (A : Option Addr) (cap : Nat) (l : List Int) (n : Int) (w : World) (hr : Reads w w.heap.size 1 A l.length (cellsI l)) (hl : l.length ≤ 1000000000000) :
    Calls Try.prog 75 #[.slice A l.length cap, .int .i64 n] w fun e w2 => e = .returned (.int .i64 (findI l n)) ∧ w = w2 := by
  go_enter Try.func75, Try.ntmps75
  go_wp2_with fail
  go_loop [5] (fun i => ∃ k : Nat, k ≤ l.length ∧ i = .int .i64 k ∧ ∀ (j : Nat) (c : Int), j < k → l[j]? = some c → c ≠ n) (fun i => l.length - (intOf i).toNat)
  case atStart => exact ⟨0, Nat.zero_le _, rfl, fun j c h => absurd h (by omega)⟩
  case round =>
    obtain ⟨k, hk, rfl, hg⟩ := hrel
    have HG := Lib.hid hg; clear hg
    by_cases hlt : k < l.length
    · obtain ⟨b, off, hA, hbl, hc⟩ := hr.ints (by omega)
      subst hA
      have hk0 : l[k]? = some l[k] := List.getElem?_eq_getElem hlt
      have c1 := hc k _ hk0
      have HK := Lib.hid hk0
      clear hc hk0 hr
      by_cases h0 : l[k] = n
      · have e0 : (l[k] == n) = true := by simp [h0]
        have H0 := Lib.hid h0
        clear h0
        go_wp2_with fail
        go_ret
        exact ⟨ret_int (findI_at l n k HG.out (H0.out ▸ HK.out)).symm, rfl⟩
      · have e0 : (l[k] == n) = false := by simp [h0]
        have H0 := Lib.hid h0
        clear h0
        go_wp2_with fail
        go_round
        case rel =>
          refine ⟨k + 1, by omega, by go_num, fun j c hj hc => ?_⟩
          by_cases hj2 : j < k
          · exact HG.out j c hj2 hc
          · obtain rfl : j = k := by omega
            rw [HK.out] at hc
            injection hc with hc
            exact hc ▸ H0.out
        case measure => simp [intOf]; omega
    · go_wp2_with fail
      go_ret
      exact ⟨ret_int (findI_none l n fun j c hc => HG.out j c (by have := (List.getElem?_eq_some_iff.1 hc).1; omega) hc).symm, rfl⟩
theorem findI_neg (l : List Int) (n : Int) : decide (findI l n < 0) = !decide (n ∈ l) := by
  rw [← findI_mem]
  by_cases h : 0 ≤ findI l n
  · have : ¬ findI l n < 0 := by omega
    simp [h, this]
  · have : findI l n < 0 := by omega
    simp [h, this]
end Go.Proofs.Ytnkdpogplkomhaa
