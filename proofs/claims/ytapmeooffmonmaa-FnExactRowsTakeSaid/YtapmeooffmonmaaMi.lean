/- Marks laid into a list of numbers from any number on. -/
import Derived.Test.YtapmeooffmonmaaInts
namespace Go.Proofs.Ytapmeooffmonmaa
open Go.RowKit

set_option maxHeartbeats 800000 in
set_option maxRecDepth 100000 in
theorem markIAt_any (v : Value) (base : Nat) (l : List Int) (m : Int) (w : World) (ho : w.ownsRow base 3 1 v l.length (cellsI l)) (hl : l.length ≤ 1000000000000) (hm0 : 0 ≤ m) (hm : m ≤ 1000000000000) :
    Calls Try.prog 37 #[v, .int .i64 m] w fun e w2 => e = .returned (.int .i64 (m + (l.length : Int))) ∧ w.grownBy w2 v.ownBlock := by
  rcases Nat.eq_zero_or_pos l.length with h0 | hpos
  · obtain ⟨A, c, hv, _, _⟩ := Reads.of_own ho
    have hn : l = [] := List.eq_nil_of_length_eq_zero h0
    subst hn
    subst hv
    clear ho
    go_enter Try.func37, Try.ntmps37
    go_wp2_with fail
    go_loop [1, 5] (fun t i => t = .int .i64 m ∧ i = .int .i64 0) (fun _ _ => 0)
    case atStart => exact ⟨rfl, rfl⟩
    case round =>
      obtain ⟨rfl, rfl⟩ := hrel
      go_wp2_with fail
      go_ret
      exact ⟨ret_int (by simp), World.grownBy.refl _ _⟩
  · obtain ⟨g, cap, hv, hbg, hgl⟩ := ho.form hpos
    subst hv
    go_enter Try.func37, Try.ntmps37
    go_wp2_with fail
    go_loopw [1, 5] (fun t i wr => ∃ (k : Nat) (l2 : List Int), k ≤ l.length ∧ i = .int .i64 k ∧ t = .int .i64 (m + (k : Int)) ∧ w.grownBy wr (some g) ∧ l2.length = l.length ∧ wr.ownsRow base 3 1 (.slice (some ⟨g, 0, none⟩) l.length cap) l.length (cellsI l2)) (fun _ i _ => l.length - (intOf i).toNat)
    case atStart => exact ⟨0, l, Nat.zero_le _, rfl, by simp, World.grownBy.refl _ _, rfl, ho⟩
    case round =>
      obtain ⟨k, l2, hk, rfl, rfl, hg, hl2, hown⟩ := hrel
      clear ho
      by_cases hlt : k < l.length
      · obtain ⟨d, hd⟩ : ∃ d, l2[k]? = some d := ⟨_, List.getElem?_eq_getElem (by omega)⟩
        obtain ⟨d1, d4⟩ := own_cellI hown hd
        have hkl : (k : Int) < (l.length : Int) := by omega
        have HL := Lib.hid hl2
        clear hl2 hd
        go_wp2_with fail
        go_roundw
        case rel =>
          exact ⟨k + 1, l2.set k (m + (k : Int)), by omega, by go_num, by rw [show m + ((k + 1 : Nat) : Int) = m + (k : Int) + 1 from by omega], grown_store hg, by rw [List.length_set]; exact HL.out, own_storeI hown k (m + (k : Int))⟩
        case measure => simp [intOf]; omega
      · have hkl : k = l.length := by omega
        have HK := Lib.hid hkl
        clear hkl hl2
        go_wp2_with fail
        go_ret
        exact ⟨ret_int (by rw [HK.out]), hg⟩
end Go.Proofs.Ytapmeooffmonmaa
