/- The least place of a row, by the library's table, and what lies directly above a row. -/
import Derived.Test.YtmcnjmflmpfjlaaDoorRa
import Derived.Lib.TrailingZeros
namespace Go.Proofs.YtmcnjmflmpfjlaaDoor
open Go.RowKit

/-- The library's table lies in its variable. -/
def Glob (w : World) : Prop := (∀ j, j < 32 → w.cell? ⟨0, j, none⟩ = some (.int .u8 ((Lib.deBruijn32tab.getD j 0 : Nat) : Int))) ∧ 0 < w.heap.size
theorem Glob.step {w w2 : World} (h : Glob w) (hb : Below w.heap.size w w2) : Glob w2 :=
  ⟨fun j hj => (below_cell hb 0 j h.2).trans (h.1 j hj), Nat.lt_of_lt_of_le h.2 hb.size⟩
theorem neg_16 (x : Nat) (h0 : x ≠ 0) (h : x < 65536) : IntKind.u16.wrap (-(x : Int)) = ((65536 - x : Nat) : Int) := by
  have : IntKind.u16.wrap (-(x : Int)) = (-(x : Int)) % 65536 := by simp [IntKind.wrap, IntKind.bits, IntKind.signed]
  rw [this]; omega
theorem wrap_32 (n : Nat) : IntKind.u32.wrap (n : Int) = ((n % 4294967296 : Nat) : Int) := by
  have : IntKind.u32.wrap (n : Int) = (n : Int) % 4294967296 := by simp [IntKind.wrap, IntKind.bits, IntKind.signed]
  rw [this]; omega
set_option maxHeartbeats 1000000 in
set_option maxRecDepth 100000 in
theorem tz_any (x : Nat) (hx : x < 65536) (h0 : x ≠ 0) (w : World) (hG : Glob w) :
    Calls Tryd.prog 43 #[.int .u16 (x : Int)] w fun e w2 => e = .returned (.int .i64 (Lib.ctz 16 x : Nat)) ∧ w = w2 := by
  obtain ⟨hlow, hk⟩ := Lib.lowest_bit 16 x h0 hx
  obtain ⟨k, hk2⟩ : ∃ k, k = Lib.ctz 16 x := ⟨_, rfl⟩
  rw [← hk2] at hlow hk ⊢
  obtain ⟨hi, htab⟩ := Lib.deBruijn32_at k (by omega)
  have hcell := hG.1 _ hi
  rw [htab] at hcell
  have e0 : ((x : Int) == 0) = false := by rw [beq_eq_false_iff_ne]; omega
  have e1 := neg_16 x h0 hx
  have e2 := and_is x (65536 - x) hx (by omega)
  have hlow2 : x &&& (65536 - x) = 2 ^ k := hlow
  rw [hlow2] at e2
  have hp : 2 ^ k < 65536 := pow_16 hk
  have e3 : IntKind.u32.wrap ((2 ^ k : Nat) : Int) = ((2 ^ k : Nat) : Int) := by rw [wrap_32, Nat.mod_eq_of_lt (by omega)]
  have e4 : IntKind.u32.wrap (((2 ^ k : Nat) : Int) * 125613361) = ((2 ^ k * 125613361 % 4294967296 : Nat) : Int) := by
    rw [← wrap_32, Int.natCast_mul]; rfl
  obtain ⟨p, hpe⟩ : ∃ p, p = 2 ^ k := ⟨_, rfl⟩
  obtain ⟨m, hm⟩ : ∃ m, m = 2 ^ k * 125613361 % 4294967296 := ⟨_, rfl⟩
  rw [← hm] at e4 hi hcell
  rw [← hpe] at e2 e3 e4
  obtain ⟨n, hn⟩ : ∃ n, n = m / 134217728 := ⟨_, rfl⟩
  rw [← hn] at hi hcell
  have e5 : (m : Int) / 134217728 = (n : Int) := by omega
  obtain ⟨s, hs⟩ : ∃ s, s = 65536 - x := ⟨_, rfl⟩
  rw [← hs] at e1 e2
  have hni : (n : Int) < 32 := by omega
  clear hs hn hm hpe hlow hlow2 htab hk2 hp
  go_enter Tryd.func43, Tryd.ntmps43
  go_wp2_with fail
  go_ret
  exact ⟨rfl, rfl⟩
theorem ctz_least {x : Nat} (h0 : x ≠ 0) (hx : x < 65536) : x.testBit (Lib.ctz 16 x) = true ∧ ∀ z, z < Lib.ctz 16 x → x.testBit z = false := by
  obtain ⟨hlow, hk⟩ := Lib.lowest_bit 16 x h0 hx
  obtain ⟨m, hm, _⟩ := Lib.ctzFrom_spec 16 x (by omega) hx
  have hc : Lib.ctz 16 x = Lib.ctzFrom 16 x := by unfold Lib.ctz; rw [if_neg h0]
  rw [← hc] at hm
  obtain ⟨k, hk2⟩ : ∃ k, k = Lib.ctz 16 x := ⟨_, rfl⟩
  rw [← hk2] at hm ⊢
  constructor
  · rw [hm, Nat.testBit_two_pow_mul]
    simp
  · intro z hz
    rw [hm, Nat.testBit_two_pow_mul]
    simp
    omega
theorem least_any (x y : Nat) (hx : x < 65536) (hy : x.testBit y = true) (hy2 : ∀ z, z < y → x.testBit z = false) (w : World) (hG : Glob w) :
    Calls Tryd.prog 31 #[.int .u16 (x : Int)] w fun e w2 => e = .returned (.int .i64 (y : Int)) ∧ w = w2 := by
  have h0 : x ≠ 0 := fun e => by rw [e, Nat.zero_testBit] at hy; cases hy
  have htz := tz_any x hx h0 w hG
  obtain ⟨h1, h2⟩ := ctz_least h0 hx
  rw [least_only (p := x.testBit) h1 h2 hy hy2] at htz
  have HZ := Lib.hid htz
  clear htz hy hy2 h1 h2 h0
  go_enter Tryd.func31, Tryd.ntmps31
  go_wp2_with (go_at_call 43; go_must (refine HZ.out.mono ?_); rintro e w9 ⟨rfl, rfl⟩)
  go_ret
  exact ⟨rfl, rfl⟩
end Go.Proofs.YtmcnjmflmpfjlaaDoor
