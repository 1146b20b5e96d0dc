/- What lies directly above a row, as the program finds it. -/
import Derived.Test.YtmcnjmflmpfjlaaDoorV3
namespace Go.Proofs.YtmcnjmflmpfjlaaDoor
open Go.RowKit

theorem any_and (n : Nat) (f g : Nat → Bool) : (((bitN n f &&& bitN n g : Nat) : Int) != 0) = (List.range n).any fun y => f y && g y := by
  rw [bitN_and]
  have h := bitN_any n fun y => f y && g y
  cases ha : (List.range n).any fun y => f y && g y
  · rw [ha] at h
    have : bitN n (fun y => f y && g y) = 0 := by simpa using h
    rw [this]; rfl
  · rw [ha] at h
    have : bitN n (fun y => f y && g y) ≠ 0 := by simpa using h
    simp
    omega
set_option maxHeartbeats 1000000 in
set_option maxRecDepth 100000 in
theorem rowsAbove_any (A : Option Addr) (ca n : Nat) (F : Nat → Nat → Bool) (g : Nat → Bool) (w : World) (ha : Reads w w.heap.size 1 A n (cellsU (rowsN n F))) (hn : n ≤ 12) :
    Calls Tryd.prog 30 #[.slice A n ca, .int .u16 (bitN n g : Nat)] w fun e w2 => e = .returned (.int .u16 (bitN n (fun x => (List.range n).any fun y => F x y && g y) : Nat)) ∧ w = w2 := by
  obtain ⟨h, hh⟩ : ∃ h : Nat → Bool, h = fun x => (List.range n).any fun y => F x y && g y := ⟨_, rfl⟩
  rw [← hh]
  have HA := Lib.hid (And.intro ha hh)
  have hr2 : bitN n g < 65536 := bitN_16 g (by omega)
  have hand := fun i => any_and n (F i) g
  obtain ⟨r, hr⟩ : ∃ r, r = bitN n g := ⟨_, rfl⟩
  rw [← hr] at hr2 hand ⊢
  have HN := Lib.hid hand
  clear ha hh hr hand
  go_enter Tryd.func30, Tryd.ntmps30
  go_wp2_with fail
  go_loop [5, 9] (fun v i => ∃ k : Nat, k ≤ n ∧ i = .int .i64 k ∧ v = .int .u16 (bitN k h : Nat)) (fun _ i => n - (intOf i).toNat)
  case atStart => exact ⟨0, Nat.zero_le _, rfl, rfl⟩
  case round =>
    obtain ⟨k, hk, rfl, rfl⟩ := hrel
    by_cases hlt : k < n
    · have hki : (k : Int) < (n : Int) := by omega
      obtain ⟨b, off, hA, hbb, hc⟩ := HA.out.1.rows (by omega)
      subst hA
      obtain ⟨x, hx⟩ : ∃ x, x = bitN n (F k) := ⟨_, rfl⟩
      have hx2 : x < 65536 := by rw [hx]; exact bitN_16 _ (by omega)
      have c1 := hc k x (by rw [rowsN_at _ hlt, hx])
      have h1 := and_is x r hx2 hr2
      have h2 := HN.out k
      have hhk : h k = (List.range n).any fun y => F k y && g y := by rw [HA.out.2]
      rw [← hhk, ← hx] at h2
      obtain ⟨s, hs⟩ : ∃ s, s = x &&& r := ⟨_, rfl⟩
      rw [← hs] at h1 h2
      clear hc hx hs hhk
      cases ht : h k
      · rw [ht] at h2
        have HB : Hid (bitN (k + 1) h = bitN k h) := by
          show _ = _
          rw [bitN, ht]
          simp
        clear ht
        go_wp2_with fail
        go_round
        case rel => exact ⟨k + 1, by omega, by go_num, by rw [HB.out]⟩
        case measure => simp [intOf]; omega
      · rw [ht] at h2
        have HB : Hid (bitN (k + 1) h = bitN k h ||| 2 ^ k) := by
          show _ = _
          rw [bitN, ht, if_pos rfl]
        have h3 := shl_is k (by omega)
        have h4 := or_is (bitN k h) (2 ^ k) (bitN_16 h (by omega)) (pow_16 (by omega))
        rw [← HB.out] at h4
        obtain ⟨q, hq⟩ : ∃ q, q = 2 ^ k := ⟨_, rfl⟩
        rw [← hq] at h3 h4
        obtain ⟨u, hu⟩ : ∃ u, u = bitN k h := ⟨_, rfl⟩
        rw [← hu] at h4 ⊢
        obtain ⟨t, ht2⟩ : ∃ t, t = bitN (k + 1) h := ⟨_, rfl⟩
        rw [← ht2] at h4
        have HT := Lib.hid ht2
        clear ht hq hu ht2
        go_wp2_with fail
        go_round
        case rel => exact ⟨k + 1, by omega, by go_num, by rw [← HT.out]⟩
        case measure => simp [intOf]; omega
    · have hkl : k = n := by omega
      have HK := Lib.hid hkl
      clear hkl
      go_wp2_with fail
      go_ret
      exact ⟨by rw [HK.out]; rfl, rfl⟩
end Go.Proofs.YtmcnjmflmpfjlaaDoor
