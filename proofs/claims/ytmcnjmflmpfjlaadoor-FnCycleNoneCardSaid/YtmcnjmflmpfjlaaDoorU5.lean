/- What the model's walk asks of its paths, and whether one context lies above another. -/
import Derived.Test.YtmcnjmflmpfjlaaDoorUu
import Derived.Test.YtmcnjmflmpfjlaaDoorPe
namespace Go.Proofs.YtmcnjmflmpfjlaaDoor
open Go.RowKit

def encN (n : Nat) : Value := .int .i64 (n : Int)
theorem cells_nat (r : List Nat) : r.map encN = cellsI (r.map Int.ofNat) := by
  unfold cellsI
  rw [List.map_map]
  rfl
theorem metB_no {ps : List (List Nat)} {j : Nat} (h : ∀ (k : Nat) (p : List Nat), ps[k]? = some p → j ∉ p) : metB ps j = false := by
  unfold metB
  rw [List.any_eq_false]
  intro p hp
  obtain ⟨k, hk⟩ := List.mem_iff_getElem?.1 hp
  simp [h k p hk]
theorem metB_yes {ps : List (List Nat)} {j k : Nat} {p : List Nat} (hk : ps[k]? = some p) (h : j ∈ p) : metB ps j = true := by
  unfold metB
  rw [List.any_eq_true]
  exact ⟨p, List.mem_of_getElem? hk, by simp [h]⟩
theorem findN (p : List Nat) (j : Nat) : decide (0 ≤ findI (p.map Int.ofNat) (j : Int)) = decide (j ∈ p) := by
  rw [findI_mem, decide_eq_decide]
  constructor
  · intro h
    obtain ⟨x, hx, e⟩ := List.mem_map.1 h
    have : x = j := Int.ofNat.inj e
    exact this ▸ hx
  · intro h
    exact List.mem_map.2 ⟨j, h, rfl⟩
set_option maxHeartbeats 800000 in
set_option maxRecDepth 100000 in
theorem sMet_any (A : Option Addr) (ca : Nat) (ps : List (List Nat)) (j : Nat) (w : World) (hp : Nest encN w w.heap.size A ps.length ps) (hr : ∀ p ∈ ps, p.length ≤ 1000) (hn : ps.length ≤ 1000000) :
    Calls Tryd.prog 35 #[.slice A ps.length ca, .int .i64 (j : Int)] w fun e w2 => e = .returned (.bool (metB ps j)) ∧ w = w2 := by
  go_enter Tryd.func35, Tryd.ntmps35
  go_wp2_with fail
  go_loop [5] (fun i => ∃ k : Nat, k ≤ ps.length ∧ i = .int .i64 k ∧ ∀ (x : Nat) (p : List Nat), x < k → ps[x]? = some p → j ∉ p) (fun i => ps.length - (intOf i).toNat)
  case atStart => exact ⟨0, Nat.zero_le _, rfl, fun x p h => absurd h (by omega)⟩
  case round =>
    obtain ⟨k, hk, rfl, hg⟩ := hrel
    have HG := Lib.hid hg; clear hg
    by_cases hlt : k < ps.length
    · have hli : (k : Int) < (ps.length : Int) := by omega
      obtain ⟨p, hkp⟩ : ∃ p, ps[k]? = some p := ⟨_, List.getElem?_eq_getElem hlt⟩
      obtain ⟨b, off, A3, c3, hA, hbb, f1, hc3, hrow⟩ := hp.row hkp
      subst hA
      rw [cells_nat] at hrow
      have hpl : p.length ≤ 1000 := hr p (List.mem_of_getElem? hkp)
      have hpx := sPlace_any A3 c3 (p.map Int.ofNat) (j : Int) w (by rw [List.length_map]; exact hrow) (by rw [List.length_map]; omega)
      rw [List.length_map] at hpx
      have hfn := findN p j
      obtain ⟨z, hz⟩ : ∃ z, findI (p.map Int.ofNat) (j : Int) = z := ⟨_, rfl⟩
      rw [hz] at hpx hfn
      have HK := Lib.hid (And.intro hkp hpx)
      clear hrow hz hkp hpx hp hr
      by_cases hm : j ∈ p
      · rw [decide_eq_true hm] at hfn
        have HM := Lib.hid hm
        clear hm
        go_wp2_with (go_at_call 25; go_must (refine HK.out.2.mono ?_); rintro e w2 ⟨rfl, rfl⟩)
        go_ret
        exact ⟨ret_bool (metB_yes HK.out.1 HM.out).symm, rfl⟩
      · rw [decide_eq_false hm] at hfn
        have HM := Lib.hid hm
        clear hm
        go_wp2_with (go_at_call 25; go_must (refine HK.out.2.mono ?_); rintro e w2 ⟨rfl, rfl⟩)
        go_round
        case rel =>
          refine ⟨k + 1, by omega, by go_num, fun x q hx hq => ?_⟩
          by_cases hx2 : x < k
          · exact HG.out x q hx2 hq
          · obtain rfl : x = k := by omega
            rw [HK.out.1] at hq
            injection hq with hq
            exact hq ▸ HM.out
        case measure => simp [intOf]; omega
    · go_wp2_with fail
      go_ret
      exact ⟨ret_bool (metB_no fun x q hq => HG.out x q (by have := (List.getElem?_eq_some_iff.1 hq).1; omega) hq).symm, rfl⟩
end Go.Proofs.YtmcnjmflmpfjlaaDoor
