/- The least place of a row, by the library's table, and what lies directly above a row. -/
import Derived.Test.YtpkmnigkcefnpaaDoorV3
import Derived.Lib.TrailingZeros
namespace Go.Proofs.YtpkmnigkcefnpaaDoor
open Go.RowKit

/-- The library's table lies in its variable. -/
def Glob (w : World) : Prop := (∀ j, j < 32 → w.cell? ⟨0, j, none⟩ = some (.int .u8 ((Lib.deBruijn32tab.getD j 0 : Nat) : Int))) ∧ 0 < w.heap.size
theorem Glob.step {w w2 : World} (h : Glob w) (hb : Below w.heap.size w w2) : Glob w2 :=
  ⟨fun j hj => (below_cell hb 0 j h.2).trans (h.1 j hj), Nat.lt_of_lt_of_le h.2 hb.size⟩
theorem neg_16 (x : Nat) (h0 : x ≠ 0) (h : x < 65536) : IntKind.u16.wrap (-(x : Int)) = ((65536 - x : Nat) : Int) := by
  have : IntKind.u16.wrap (-(x : Int)) = (-(x : Int)) % 65536 := by simp [IntKind.wrap, IntKind.bits, IntKind.signed]
  rw [this]; omega
theorem wrap_32 (n : Nat) : IntKind.u32.wrap (n : Int) = ((n % 4294967296 : Nat) : Int) := by
  have : IntKind.u32.wrap (n : Int) = (n : Int) % 4294967296 := by simp [IntKind.wrap, IntKind.bits, IntKind.signed]
  rw [this]; omega
set_option maxHeartbeats 1000000 in
set_option maxRecDepth 100000 in
theorem tz_any (x : Nat) (hx : x < 65536) (h0 : x ≠ 0) (w : World) (hG : Glob w) :
    Calls Tryd.prog 59 #[.int .u16 (x : Int)] w fun e w2 => e = .returned (.int .i64 (Lib.ctz 16 x : Nat)) ∧ w = w2 := by
  obtain ⟨hlow, hk⟩ := Lib.lowest_bit 16 x h0 hx
  obtain ⟨k, hk2⟩ : ∃ k, k = Lib.ctz 16 x := ⟨_, rfl⟩
  rw [← hk2] at hlow hk ⊢
  obtain ⟨hi, htab⟩ := Lib.deBruijn32_at k (by omega)
  have hcell := hG.1 _ hi
  rw [htab] at hcell
  have e0 : ((x : Int) == 0) = false := by rw [beq_eq_false_iff_ne]; omega
  have e1 := neg_16 x h0 hx
  have e2 := and_is x (65536 - x) hx (by omega)
  have hlow2 : x &&& (65536 - x) = 2 ^ k := hlow
  rw [hlow2] at e2
  have hp : 2 ^ k < 65536 := pow_16 hk
  have e3 : IntKind.u32.wrap ((2 ^ k : Nat) : Int) = ((2 ^ k : Nat) : Int) := by rw [wrap_32, Nat.mod_eq_of_lt (by omega)]
  have e4 : IntKind.u32.wrap (((2 ^ k : Nat) : Int) * 125613361) = ((2 ^ k * 125613361 % 4294967296 : Nat) : Int) := by
    rw [← wrap_32, Int.natCast_mul]; rfl
  obtain ⟨p, hpe⟩ : ∃ p, p = 2 ^ k := ⟨_, rfl⟩
  obtain ⟨m, hm⟩ : ∃ m, m = 2 ^ k * 125613361 % 4294967296 := ⟨_, rfl⟩
  rw [← hm] at e4 hi hcell
  rw [← hpe] at e2 e3 e4
  obtain ⟨n, hn⟩ : ∃ n, n = m / 134217728 := ⟨_, rfl⟩
  rw [← hn] at hi hcell
  have e5 : (m : Int) / 134217728 = (n : Int) := by omega
  obtain ⟨s, hs⟩ : ∃ s, s = 65536 - x := ⟨_, rfl⟩
  rw [← hs] at e1 e2
  have hni : (n : Int) < 32 := by omega
  clear hs hn hm hpe hlow hlow2 htab hk2 hp
  go_enter Tryd.func59, Tryd.ntmps59
  go_wp2_with fail
  go_ret
  exact ⟨rfl, rfl⟩
theorem ctz_least {x : Nat} (h0 : x ≠ 0) (hx : x < 65536) : x.testBit (Lib.ctz 16 x) = true ∧ ∀ z, z < Lib.ctz 16 x → x.testBit z = false := by
  obtain ⟨hlow, hk⟩ := Lib.lowest_bit 16 x h0 hx
  obtain ⟨m, hm, _⟩ := Lib.ctzFrom_spec 16 x (by omega) hx
  have hc : Lib.ctz 16 x = Lib.ctzFrom 16 x := by unfold Lib.ctz; rw [if_neg h0]
  rw [← hc] at hm
  obtain ⟨k, hk2⟩ : ∃ k, k = Lib.ctz 16 x := ⟨_, rfl⟩
  rw [← hk2] at hm ⊢
  constructor
  · rw [hm, Nat.testBit_two_pow_mul]
    simp
  · intro z hz
    rw [hm, Nat.testBit_two_pow_mul]
    simp
    omega
theorem least_any (x y : Nat) (hx : x < 65536) (hy : x.testBit y = true) (hy2 : ∀ z, z < y → x.testBit z = false) (w : World) (hG : Glob w) :
    Calls Tryd.prog 48 #[.int .u16 (x : Int)] w fun e w2 => e = .returned (.int .i64 (y : Int)) ∧ w = w2 := by
  have h0 : x ≠ 0 := fun e => by rw [e, Nat.zero_testBit] at hy; cases hy
  have htz := tz_any x hx h0 w hG
  obtain ⟨h1, h2⟩ := ctz_least h0 hx
  rw [least_only (p := x.testBit) h1 h2 hy hy2] at htz
  have HZ := Lib.hid htz
  clear htz hy hy2 h1 h2 h0
  go_enter Tryd.func48, Tryd.ntmps48
  go_wp2_with (go_at_call 59; go_must (refine HZ.out.mono ?_); rintro e w9 ⟨rfl, rfl⟩)
  go_ret
  exact ⟨rfl, rfl⟩
theorem any_and (n : Nat) (f g : Nat → Bool) : (((bitN n f &&& bitN n g : Nat) : Int) != 0) = (List.range n).any fun y => f y && g y := by
  rw [bitN_and]
  have h := bitN_any n fun y => f y && g y
  cases ha : (List.range n).any fun y => f y && g y
  · rw [ha] at h
    have : bitN n (fun y => f y && g y) = 0 := by simpa using h
    rw [this]; rfl
  · rw [ha] at h
    have : bitN n (fun y => f y && g y) ≠ 0 := by simpa using h
    simp
    omega
set_option maxHeartbeats 1000000 in
set_option maxRecDepth 100000 in
theorem rowsAbove_any (A : Option Addr) (ca n : Nat) (F : Nat → Nat → Bool) (g : Nat → Bool) (w : World) (ha : Reads w w.heap.size 1 A n (cellsU (rowsN n F))) (hn : n ≤ 12) :
    Calls Tryd.prog 47 #[.slice A n ca, .int .u16 (bitN n g : Nat)] w fun e w2 => e = .returned (.int .u16 (bitN n (fun x => (List.range n).any fun y => F x y && g y) : Nat)) ∧ w = w2 := by
  obtain ⟨h, hh⟩ : ∃ h : Nat → Bool, h = fun x => (List.range n).any fun y => F x y && g y := ⟨_, rfl⟩
  rw [← hh]
  have HA := Lib.hid (And.intro ha hh)
  have hr2 : bitN n g < 65536 := bitN_16 g (by omega)
  have hand := fun i => any_and n (F i) g
  obtain ⟨r, hr⟩ : ∃ r, r = bitN n g := ⟨_, rfl⟩
  rw [← hr] at hr2 hand ⊢
  have HN := Lib.hid hand
  clear ha hh hr hand
  go_enter Tryd.func47, Tryd.ntmps47
  go_wp2_with fail
  go_loop [5, 9] (fun v i => ∃ k : Nat, k ≤ n ∧ i = .int .i64 k ∧ v = .int .u16 (bitN k h : Nat)) (fun _ i => n - (intOf i).toNat)
  case atStart => exact ⟨0, Nat.zero_le _, rfl, rfl⟩
  case round =>
    obtain ⟨k, hk, rfl, rfl⟩ := hrel
    by_cases hlt : k < n
    · have hki : (k : Int) < (n : Int) := by omega
      obtain ⟨b, off, hA, hbb, hc⟩ := HA.out.1.rows (by omega)
      subst hA
      obtain ⟨x, hx⟩ : ∃ x, x = bitN n (F k) := ⟨_, rfl⟩
      have hx2 : x < 65536 := by rw [hx]; exact bitN_16 _ (by omega)
      have c1 := hc k x (by rw [rowsN_at _ hlt, hx])
      have h1 := and_is x r hx2 hr2
      have h2 := HN.out k
      have hhk : h k = (List.range n).any fun y => F k y && g y := by rw [HA.out.2]
      rw [← hhk, ← hx] at h2
      obtain ⟨s, hs⟩ : ∃ s, s = x &&& r := ⟨_, rfl⟩
      rw [← hs] at h1 h2
      clear hc hx hs hhk
      cases ht : h k
      · rw [ht] at h2
        have HB : Hid (bitN (k + 1) h = bitN k h) := by
          show _ = _
          rw [bitN, ht]
          simp
        clear ht
        go_wp2_with fail
        go_round
        case rel => exact ⟨k + 1, by omega, by go_num, by rw [HB.out]⟩
        case measure => simp [intOf]; omega
      · rw [ht] at h2
        have HB : Hid (bitN (k + 1) h = bitN k h ||| 2 ^ k) := by
          show _ = _
          rw [bitN, ht, if_pos rfl]
        have h3 := shl_is k (by omega)
        have h4 := or_is (bitN k h) (2 ^ k) (bitN_16 h (by omega)) (pow_16 (by omega))
        rw [← HB.out] at h4
        obtain ⟨q, hq⟩ : ∃ q, q = 2 ^ k := ⟨_, rfl⟩
        rw [← hq] at h3 h4
        obtain ⟨u, hu⟩ : ∃ u, u = bitN k h := ⟨_, rfl⟩
        rw [← hu] at h4 ⊢
        obtain ⟨t, ht2⟩ : ∃ t, t = bitN (k + 1) h := ⟨_, rfl⟩
        rw [← ht2] at h4
        have HT := Lib.hid ht2
        clear ht hq hu ht2
        go_wp2_with fail
        go_round
        case rel => exact ⟨k + 1, by omega, by go_num, by rw [← HT.out]⟩
        case measure => simp [intOf]; omega
    · have hkl : k = n := by omega
      have HK := Lib.hid hkl
      clear hkl
      go_wp2_with fail
      go_ret
      exact ⟨by rw [HK.out]; rfl, rfl⟩
end Go.Proofs.YtpkmnigkcefnpaaDoor
