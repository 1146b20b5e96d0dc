/- Rows of bits as values, and what the program's small functions on them are. -/
import Derived.Test.YtjkjnicgbfpjiaaGi
import Derived.Test.YtjkjnicgbfpjiaaIl
import Derived.Test.YtjkjnicgbfpjiaaPe
namespace Go.Proofs.Ytjkjnicgbfpjiaa
open Go.RowKit

theorem ofInt_16 (r : Nat) (h : r < 65536) : (BitVec.ofInt 16 (r : Int)).toNat = r := by
  rw [BitVec.ofInt_natCast, BitVec.toNat_ofNat]; exact Nat.mod_eq_of_lt (by omega)
theorem wrap_16 (r : Nat) (h : r < 65536) : IntKind.u16.wrap (r : Int) = r := by
  have : IntKind.u16.wrap (r : Int) = (r : Int) % 65536 := by simp [IntKind.wrap, IntKind.bits, IntKind.signed]
  rw [this]; omega
theorem pow_16 {p : Nat} (hp : p < 16) : 2 ^ p < 65536 := Nat.pow_lt_pow_right (a := 2) (m := p) (n := 16) (by omega) hp
theorem shl_is (p : Nat) (hp : p < 16) : IntKind.u16.wrap ((2 : Int) ^ p) = ((2 ^ p : Nat) : Int) := by
  rw [← wrap_16 (2 ^ p) (pow_16 hp)]
  congr 1
theorem and_is (a b : Nat) (ha : a < 65536) (hb : b < 65536) : bits .and .u16 (a : Int) (b : Int) = ((a &&& b : Nat) : Int) := by
  have h : a &&& b < 2 ^ 16 := Nat.and_lt_two_pow _ (by omega)
  show IntKind.u16.wrap (((BitVec.ofInt 16 (a : Int) &&& BitVec.ofInt 16 (b : Int)).toNat : Nat) : Int) = _
  rw [BitVec.toNat_and, ofInt_16 a ha, ofInt_16 b hb, wrap_16 _ (by omega)]
theorem or_is (a b : Nat) (ha : a < 65536) (hb : b < 65536) : bits .or .u16 (a : Int) (b : Int) = ((a ||| b : Nat) : Int) := by
  have h : a ||| b < 2 ^ 16 := Nat.or_lt_two_pow (by omega) (by omega)
  show IntKind.u16.wrap (((BitVec.ofInt 16 (a : Int) ||| BitVec.ofInt 16 (b : Int)).toNat : Nat) : Int) = _
  rw [BitVec.toNat_or, ofInt_16 a ha, ofInt_16 b hb, wrap_16 _ (by omega)]
theorem and_pow (r p : Nat) : (((r &&& 2 ^ p : Nat) : Int) != 0) = r.testBit p := by
  cases h : r.testBit p
  · have e : r &&& 2 ^ p = 0 := by
      refine Nat.eq_of_testBit_eq fun j => ?_
      rw [Nat.testBit_and, Nat.testBit_two_pow, Nat.zero_testBit]
      by_cases hj : p = j
      · subst hj
        rw [h]; rfl
      · simp [hj]
    rw [e]; rfl
  · have e : r &&& 2 ^ p ≠ 0 := fun h0 => by
      have h1 : (r &&& 2 ^ p).testBit p = true := by rw [Nat.testBit_and, h, Nat.testBit_two_pow]; simp
      rw [h0, Nat.zero_testBit] at h1
      cases h1
    simp
    omega
def encU (r : Nat) : Value := .int .u16 (r : Int)
def cellsU (l : List Nat) : List Value := l.map encU
theorem infoRow : (Try.prog.info? 74).map (fun i => (i.zero, i.size, i.bytes)) = some (some (.int .u16 0), 1, 2) := by kernel_rfl
theorem Reads.rows {w : World} {B n : Nat} {A : Option Addr} {l : List Nat} (h : Reads w B 1 A n (cellsU l)) (hn : 0 < n) : ∃ b off, A = some ⟨b, off, none⟩ ∧ b < B ∧ ∀ (k : Nat) (x : Nat), l[k]? = some x → w.cell? ⟨b, off + k, none⟩ = some (.int .u16 (x : Int)) := by
  obtain ⟨b, off, e, hb, hc⟩ := h.2 hn
  exact ⟨b, off, e, hb, fun k x hx => hc k _ (by simp [cellsU, hx, encU])⟩

set_option maxHeartbeats 400000 in
set_option maxRecDepth 100000 in
theorem has_any (r p : Nat) (hr : r < 65536) (hp : p < 16) (w : World) :
    Calls Try.prog 67 #[.int .u16 (r : Int), .int .i64 (p : Int)] w fun e w2 => e = .returned (.bool (r.testBit p)) ∧ w = w2 := by
  have h1 := shl_is p hp
  have h2 := and_is r (2 ^ p) hr (pow_16 hp)
  have h3 := and_pow r p
  obtain ⟨s, hs⟩ : ∃ s, s = r &&& 2 ^ p := ⟨_, rfl⟩
  rw [← hs] at h2 h3
  clear hs
  obtain ⟨q, hq⟩ : ∃ q, q = 2 ^ p := ⟨_, rfl⟩
  rw [← hq] at h1 h2
  clear hq
  obtain ⟨t, ht⟩ : ∃ t, t = r.testBit p := ⟨_, rfl⟩
  rw [← ht] at h3 ⊢
  clear ht
  go_enter Try.func67, Try.ntmps67
  go_wp2_with fail
  go_ret
  exact ⟨rfl, rfl⟩

set_option maxHeartbeats 800000 in
set_option maxRecDepth 100000 in
theorem groupRow_any (A : Option Addr) (ca : Nat) (G : List Int) (p : Nat) (w : World) (ha : Reads w w.heap.size 1 A G.length (cellsI G)) (hp : p < G.length) (hn : G.length ≤ 12) :
    Calls Try.prog 101 #[.slice A G.length ca, .int .i64 (p : Int)] w fun e w2 => e = .returned (.int .u16 (bitN G.length (fun j => decide (G[j]? = G[p]?)) : Nat)) ∧ w = w2 := by
  obtain ⟨b, off, hA, hbb, hc⟩ := ha.ints (by omega)
  subst hA
  obtain ⟨y, hy⟩ : ∃ y, G[p]? = some y := ⟨_, List.getElem?_eq_getElem hp⟩
  have c2 := hc p _ hy
  have hpi : (p : Int) < (G.length : Int) := by omega
  obtain ⟨f, hf⟩ : ∃ f : Nat → Bool, f = fun j => decide (G[j]? = G[p]?) := ⟨_, rfl⟩
  rw [← hf]
  have HF := Lib.hid (And.intro hf (And.intro hy hc))
  clear hf hy hc ha
  go_enter Try.func101, Try.ntmps101
  go_wp2_with fail
  go_loop [5, 10] (fun v i => ∃ k : Nat, k ≤ G.length ∧ i = .int .i64 k ∧ v = .int .u16 (bitN k f : Nat)) (fun _ i => G.length - (intOf i).toNat)
  case atStart => exact ⟨0, Nat.zero_le _, rfl, rfl⟩
  case round =>
    obtain ⟨k, hk, rfl, rfl⟩ := hrel
    by_cases hlt : k < G.length
    · obtain ⟨x, hx⟩ : ∃ x, G[k]? = some x := ⟨_, List.getElem?_eq_getElem hlt⟩
      have c1 := HF.out.2.2 k _ hx
      have hki : (k : Int) < (G.length : Int) := by omega
      have hfk : f k = decide (x = y) := by
        rw [HF.out.1]
        simp only [hx, HF.out.2.1]
        rw [decide_eq_decide]
        simp
      by_cases hxy : x = y
      · have e0 : (x == y) = true := by simp [hxy]
        have HN : Hid (bitN (k + 1) f = bitN k f ||| 2 ^ k) := by
          show _ = _
          rw [bitN, hfk, decide_eq_true hxy, if_pos rfl]
        have h1 := shl_is k (by omega)
        have h2 := or_is (bitN k f) (2 ^ k) (bitN_16 f (by omega)) (pow_16 (by omega))
        rw [← HN.out] at h2
        obtain ⟨q, hq⟩ : ∃ q, q = 2 ^ k := ⟨_, rfl⟩
        rw [← hq] at h1 h2
        obtain ⟨s, hs⟩ : ∃ s, s = bitN k f := ⟨_, rfl⟩
        rw [← hs] at h2 ⊢
        obtain ⟨t, ht⟩ : ∃ t, t = bitN (k + 1) f := ⟨_, rfl⟩
        rw [← ht] at h2
        have HT := Lib.hid ht
        clear hx hfk hxy hq hs ht
        go_wp2_with fail
        go_round
        case rel => exact ⟨k + 1, by omega, by go_num, by rw [← HT.out]⟩
        case measure => simp [intOf]; omega
      · have e0 : (x == y) = false := by simp [hxy]
        have HN : Hid (bitN (k + 1) f = bitN k f) := by
          show _ = _
          rw [bitN, hfk, decide_eq_false hxy]
          simp
        clear hx hfk hxy
        go_wp2_with fail
        go_round
        case rel => exact ⟨k + 1, by omega, by go_num, by rw [HN.out]⟩
        case measure => simp [intOf]; omega
    · have hkl : k = G.length := by omega
      have HK := Lib.hid hkl
      clear hkl
      go_wp2_with fail
      go_ret
      exact ⟨by rw [HK.out]; rfl, rfl⟩
end Go.Proofs.Ytjkjnicgbfpjiaa
