/- The least place of a row, by the library's table, and what lies directly above a row. -/
import Derived.Test.YtjkjnicgbfpjiaaRa
import Derived.Lib.TrailingZeros
namespace Go.Proofs.Ytjkjnicgbfpjiaa
open Go.RowKit

/-- The library's table lies in its variable. -/
def Glob (w : World) : Prop := (∀ j, j < 32 → w.cell? ⟨0, j, none⟩ = some (.int .u8 ((Lib.deBruijn32tab.getD j 0 : Nat) : Int))) ∧ 0 < w.heap.size
theorem Glob.step {w w2 : World} (h : Glob w) (hb : Below w.heap.size w w2) : Glob w2 :=
  ⟨fun j hj => (below_cell hb 0 j h.2).trans (h.1 j hj), Nat.lt_of_lt_of_le h.2 hb.size⟩
theorem neg_16 (x : Nat) (h0 : x ≠ 0) (h : x < 65536) : IntKind.u16.wrap (-(x : Int)) = ((65536 - x : Nat) : Int) := by
  have : IntKind.u16.wrap (-(x : Int)) = (-(x : Int)) % 65536 := by simp [IntKind.wrap, IntKind.bits, IntKind.signed]
  rw [this]; omega
theorem wrap_32 (n : Nat) : IntKind.u32.wrap (n : Int) = ((n % 4294967296 : Nat) : Int) := by
  have : IntKind.u32.wrap (n : Int) = (n : Int) % 4294967296 := by simp [IntKind.wrap, IntKind.bits, IntKind.signed]
  rw [this]; omega
theorem ctz_least {x : Nat} (h0 : x ≠ 0) (hx : x < 65536) : x.testBit (Lib.ctz 16 x) = true ∧ ∀ z, z < Lib.ctz 16 x → x.testBit z = false := by
  obtain ⟨hlow, hk⟩ := Lib.lowest_bit 16 x h0 hx
  obtain ⟨m, hm, _⟩ := Lib.ctzFrom_spec 16 x (by omega) hx
  have hc : Lib.ctz 16 x = Lib.ctzFrom 16 x := by unfold Lib.ctz; rw [if_neg h0]
  rw [← hc] at hm
  obtain ⟨k, hk2⟩ : ∃ k, k = Lib.ctz 16 x := ⟨_, rfl⟩
  rw [← hk2] at hm ⊢
  constructor
  · rw [hm, Nat.testBit_two_pow_mul]
    simp
  · intro z hz
    rw [hm, Nat.testBit_two_pow_mul]
    simp
    omega
end Go.Proofs.Ytjkjnicgbfpjiaa
