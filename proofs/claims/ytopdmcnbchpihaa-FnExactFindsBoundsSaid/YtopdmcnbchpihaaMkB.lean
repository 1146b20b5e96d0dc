/- Marks laid into a list of bounds from any number on, and its size where some was taken. -/
import Derived.Test.YtopdmcnbchpihaaTriBound
namespace Go.Proofs.Ytopdmcnbchpihaa
open Go.RowKit

set_option maxHeartbeats 800000 in
set_option maxRecDepth 100000 in
theorem markBoundAt_any (v : Value) (base : Nat) (l : List Ctx) (m : Int) (w : World) (ho : w.ownsRow base 33 3 v l.length (cellsC l)) (hl : l.length ≤ 1000000000000) (hm0 : 0 ≤ m) (hm : m ≤ 1000000000000) :
    Calls Try.prog 45 #[v, .int .i64 m] w fun e w2 => e = .returned (.int .i64 (m + 3 * (l.length : Int))) ∧ w.grownBy w2 v.ownBlock := by
  rcases Nat.eq_zero_or_pos l.length with h0 | hpos
  · obtain ⟨A, c, hv, _, _⟩ := Reads.of_own ho
    have hn : l = [] := List.eq_nil_of_length_eq_zero h0
    subst hn
    subst hv
    clear ho
    go_enter Try.func45, Try.ntmps45
    go_wp2_with fail
    go_loop [1, 5] (fun t i => t = .int .i64 m ∧ i = .int .i64 0) (fun _ _ => 0)
    case atStart => exact ⟨rfl, rfl⟩
    case round =>
      obtain ⟨rfl, rfl⟩ := hrel
      go_wp2_with fail
      go_ret
      exact ⟨ret_int (by simp), World.grownBy.refl _ _⟩
  · obtain ⟨g, cap, hv, hbg, hgl⟩ := ho.form hpos
    subst hv
    go_enter Try.func45, Try.ntmps45
    go_wp2_with fail
    go_loopw [1, 5] (fun t i wr => ∃ (k : Nat) (l2 : List Ctx), k ≤ l.length ∧ i = .int .i64 k ∧ t = .int .i64 (m + 3 * (k : Int)) ∧ w.grownBy wr (some g) ∧ l2.length = l.length ∧ wr.ownsRow base 33 3 (.slice (some ⟨g, 0, none⟩) l.length cap) l.length (cellsC l2)) (fun _ i _ => l.length - (intOf i).toNat)
    case atStart => exact ⟨0, l, Nat.zero_le _, rfl, by simp, World.grownBy.refl _ _, rfl, ho⟩
    case round =>
      obtain ⟨k, l2, hk, rfl, rfl, hg, hl2, hown⟩ := hrel
      clear ho
      by_cases hlt : k < l.length
      · obtain ⟨d, hd⟩ : ∃ d, l2[k]? = some d := ⟨_, List.getElem?_eq_getElem (by omega)⟩
        obtain ⟨d1, d2, d3, d4, d5, d6⟩ := own_cells hown hd
        have hkl : (k : Int) < (l.length : Int) := by omega
        have HL := Lib.hid hl2
        clear hl2 hd
        go_wp2_with fail
        go_roundw
        case rel =>
          refine ⟨k + 1, l2.set k ⟨m + 3 * (k : Int), m + 3 * (k : Int) + 1, m + 3 * (k : Int) + 1 + 1⟩, by omega, by go_num, by rw [show m + 3 * ((k + 1 : Nat) : Int) = m + 3 * (k : Int) + 1 + 1 + 1 from by omega], grown_store (grown_store (grown_store hg)), by rw [List.length_set]; exact HL.out, ?_⟩
          exact own_store3 hown (by rw [HL.out]; exact hlt) ⟨m + 3 * (k : Int), m + 3 * (k : Int) + 1, m + 3 * (k : Int) + 1 + 1⟩
        case measure => simp [intOf]; omega
      · have hkl : k = l.length := by omega
        have HK := Lib.hid hkl
        clear hkl hl2
        go_wp2_with fail
        go_ret
        exact ⟨ret_int (by rw [HK.out]), hg⟩
theorem szBoundAt_any (A : Option Addr) (n cap : Nat) (left : Int) (w : World) (h1 : (n : Int) ≤ left) (h2 : left ≤ 1048576) :
    Calls Try.prog 54 #[.slice A n cap, .int .i64 left] w fun e w2 => e = .returned (.int .i64 (left - (n : Int))) ∧ w = w2 := by
  have e0 : decide (left - (n : Int) < 0) = false := by simp; omega
  go_enter Try.func54, Try.ntmps54
  go_wp2_with fail
  go_ret
  exact ⟨rfl, rfl⟩
theorem szBoundAt_big (A : Option Addr) (n cap : Nat) (left : Int) (w : World) (h1 : left < (n : Int)) (h2 : 0 ≤ left) (h3 : left ≤ 1048576) (hm : n ≤ 9223372036854775807) :
    Calls Try.prog 54 #[.slice A n cap, .int .i64 left] w fun e w2 => e = .returned (.int .i64 (-1)) ∧ w = w2 := by
  have e0 : left - (n : Int) < 0 := by omega
  go_enter Try.func54, Try.ntmps54
  go_wp2_with fail
  go_ret
  exact ⟨rfl, rfl⟩
end Go.Proofs.Ytopdmcnbchpihaa
