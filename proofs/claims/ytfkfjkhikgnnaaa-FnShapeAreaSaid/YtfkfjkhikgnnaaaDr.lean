/- The reader from which the laws draw their inputs: what it picks is in range, and it turns only its own place. -/
import Derived.Test.YtfkfjkhikgnnaaaTri
namespace Go.Proofs.Ytfkfjkhikgnnaaa
open Go.RowKit

/-- A reader in block g, over the bytes z, at the place p. -/
structure Rd (w : World) (g : Nat) (A : Option Addr) (z : List Int) (c p : Nat) : Prop where
  blk : w.heap[g]? = some (.cells #[.slice A z.length c, .int .i64 (p : Int)] 73 (0, 0))
  reads : Reads w g 1 A z.length (cellsB z)
  byte : ∀ b ∈ z, 0 ≤ b ∧ b ≤ 255
  short : z.length ≤ 2000
theorem Rd.lt {w : World} {g c p : Nat} {A : Option Addr} {z : List Int} (h : Rd w g A z c p) : g < w.heap.size := (Array.getElem?_eq_some_iff.1 h.blk).1
theorem Rd.step {w w2 : World} {g c p : Nat} {A : Option Addr} {z : List Int} (h : Rd w g A z c p) (hb : Below w.heap.size w w2) : Rd w2 g A z c p :=
  ⟨(hb.block g h.lt).trans h.blk, h.reads.keep fun b o hlt => hb.cell (p := ⟨b, o, none⟩) (Nat.lt_trans hlt h.lt), h.byte, h.short⟩
/-- Only the reader's place has turned. -/
theorem Rd.next {w w2 : World} {g c p p2 : Nat} {A : Option Addr} {z : List Int} (h : Rd w g A z c p) (hw : w2.heap = (w.setCell ⟨g, 1, none⟩ (.int .i64 (p2 : Int))).heap) (ho : w2.os = w.os) (ht : w2.tape = w.tape) (hu : w2.output = w.output) : Rd w2 g A z c p2 ∧ w.grownBy w2 (some g) := by
  have hg : w2.heap[g]? = some (.cells #[.slice A z.length c, .int .i64 (p2 : Int)] 73 (0, 0)) := by
    rw [hw, heap_setCell_same _ _ _ _ _ _ h.blk]; rfl
  have hf : ∀ k, k ≠ g → w2.heap[k]? = w.heap[k]? := fun k hk => by rw [hw]; exact heap_setCell_other w ⟨g, 1, none⟩ k _ hk
  refine ⟨⟨hg, h.reads.keep fun b o hlt => World.cell?_of_block (w := w) (a := ⟨b, o, none⟩) (hf b (by omega)), h.byte, h.short⟩, ⟨ho, ht, hu, by rw [hw]; simp [World.setCell], fun k _ hk => hf k (fun e => hk (by rw [e]))⟩⟩
def PickPost (w : World) (g : Nat) (A : Option Addr) (z : List Int) (c p : Nat) (n : Int) (e : Ending) (w2 : World) : Prop :=
  ∃ r : Int, e = .returned (.int .i64 r) ∧ 0 ≤ r ∧ (1 ≤ n → r < n) ∧ (n < 1 → r = 0) ∧ Rd w2 g A z c (p + 1) ∧ w.grownBy w2 (some g)

theorem byte_at {w : World} {B n : Nat} {A : Option Addr} {z : List Int} (h : Reads w B 1 A n (cellsB z)) (hn : 0 < n) : ∃ b off, A = some ⟨b, off, none⟩ ∧ b < B ∧ ∀ (k : Nat) (x : Int), z[k]? = some x → w.cell? ⟨b, off + k, none⟩ = some (.int .u8 x) := by
  obtain ⟨b, off, e, hb, hc⟩ := h.2 hn
  exact ⟨b, off, e, hb, fun k x hk => hc k _ (by simp [cellsB, hk])⟩

theorem xor_low (a b : Nat) (ha : a < 1073741824) (hb : b < 1073741824) : 0 ≤ bits .xor .i64 (a : Int) (b : Int) := by
  have hx : a ^^^ b < 2 ^ 30 := Nat.xor_lt_two_pow (by omega) (by omega)
  have ea : (BitVec.ofInt 64 (a : Int)).toNat = a := by rw [BitVec.ofInt_natCast, BitVec.toNat_ofNat]; exact Nat.mod_eq_of_lt (by omega)
  have eb : (BitVec.ofInt 64 (b : Int)).toNat = b := by rw [BitVec.ofInt_natCast, BitVec.toNat_ofNat]; exact Nat.mod_eq_of_lt (by omega)
  show 0 ≤ IntKind.i64.wrap ((BitVec.ofInt 64 (a : Int) ^^^ BitVec.ofInt 64 (b : Int)).toNat : Int)
  rw [BitVec.toNat_xor, ea, eb, IntKind.wrap_i64]
  omega
theorem xor_own (t : Int) (h0 : 0 ≤ t) (h1 : t ≤ 100000000) : 0 ≤ bits .xor .i64 t (t / 64) := by
  obtain ⟨n, rfl⟩ := Int.eq_ofNat_of_zero_le h0
  exact xor_low n (n / 64) (by omega) (by omega)
set_option maxHeartbeats 2000000 in
set_option maxRecDepth 100000 in
theorem pick_any (g c p : Nat) (A : Option Addr) (z : List Int) (n : Int) (w : World) (h : Rd w g A z c p) (hp : p ≤ 1000000) (hn : n ≤ 1000000) :
    Calls Try.prog 55 #[.pointer (some ⟨g, 0, none⟩), .int .i64 n] w (PickPost w g A z c p n) := by
  have hc0 : w.cell? ⟨g, 0, none⟩ = some (.slice A z.length c) := cell_of_row _ _ 0 _ _ _ h.blk
  have hc1 : w.cell? ⟨g, 1, none⟩ = some (.int .i64 (p : Int)) := cell_of_row _ _ 1 _ _ _ h.blk
  have hf1 := frozen_of_row _ _ 1 _ _ h.blk
  have hshort := h.short
  have HD := Lib.hid h
  by_cases h1 : n < 1
  · go_enter Try.func55, Try.ntmps55
    go_wp2_with fail
    go_ret
    exact ⟨0, rfl, by omega, by omega, fun _ => rfl, HD.out.next rfl rfl rfl rfl⟩
  · have e1 : decide (n < 1) = false := by simp; omega
    rcases Nat.eq_zero_or_pos z.length with h0 | hpos
    · have e2 : ((z.length : Int) == 0) = true := by simp [h0]
      clear h0
      go_enter Try.func55, Try.ntmps55
      go_wp2_with fail
      go_ret
      exact ⟨0, rfl, by omega, by omega, fun _ => rfl, HD.out.next rfl rfl rfl rfl⟩
    · have e2 : ((z.length : Int) == 0) = false := by rw [beq_eq_false_iff_ne]; omega
      obtain ⟨b, off, hA, hb, hbyte⟩ := byte_at h.reads hpos
      subst hA
      by_cases hk : p < z.length
      · have hzb := h.byte z[p] (List.getElem_mem hk)
        have cz := hbyte p _ (List.getElem?_eq_getElem hk)
        have e3 : decide (p < z.length) = true := by simp [hk]
        have hne : ¬ b = g := by omega
        clear hbyte h
        obtain ⟨hz1, hz2⟩ := hzb
        go_enter Try.func55, Try.ntmps55
        go_wp2_with fail
        go_ret
        exact ⟨z[p] % n, rfl, Int.emod_nonneg _ (by omega), fun _ => Int.emod_lt_of_pos _ (by omega), by omega, HD.out.next rfl rfl rfl rfl⟩
      · have hm1 : p % z.length < z.length := Nat.mod_lt _ hpos
        have hm2 : (p * 7 + 3) % z.length < z.length := Nat.mod_lt _ hpos
        have hza := h.byte _ (List.getElem_mem hm1)
        have hzb := h.byte _ (List.getElem_mem hm2)
        have ca := hbyte _ _ (List.getElem?_eq_getElem hm1)
        have cb := hbyte _ _ (List.getElem?_eq_getElem hm2)
        obtain ⟨x, hx⟩ : ∃ x, x = z[p % z.length] := ⟨_, rfl⟩
        obtain ⟨y, hy⟩ : ∃ y, y = z[(p * 7 + 3) % z.length] := ⟨_, rfl⟩
        rw [← hx] at ca hza
        rw [← hy] at cb hzb
        obtain ⟨hx1, hx2⟩ := hza
        obtain ⟨hy1, hy2⟩ := hzb
        have e3 : decide (p < z.length) = false := by simp; omega
        have hne : ¬ b = g := by omega
        have hpl : (0 : Int) < (z.length : Int) := by omega
        have hm3 : ((p : Int) % (z.length : Int)) < (z.length : Int) := Int.emod_lt_of_pos _ hpl
        have hm4 : 0 ≤ ((p : Int) % (z.length : Int)) := Int.emod_nonneg _ (by omega)
        have hm5 : (((p : Int) * 7 + 3) % (z.length : Int)) < (z.length : Int) := Int.emod_lt_of_pos _ hpl
        have hm6 : 0 ≤ (((p : Int) * 7 + 3) % (z.length : Int)) := Int.emod_nonneg _ (by omega)
        have hq1 : 0 ≤ ((p : Int) / (z.length : Int)) := Int.ediv_nonneg (by omega) (by omega)
        have hq2 : ((p : Int) / (z.length : Int)) ≤ 1000000 := Int.le_trans (Int.ediv_le_self _ (by omega)) (by omega)
        clear hbyte h hx hy
        go_enter Try.func55, Try.ntmps55
        go_wp2_with fail
        refine wp_region_quiet_lit (by kernel_rfl) (by kernel_rfl) ?_
        repeat (go_big_quiet_step (fail))
        refine wpQuiet_nil ?_
        rintro _ ⟨nq, rfl⟩
        obtain ⟨t, ht⟩ : ∃ t, t = x * 131 + y * 1117 + (p : Int) * 29 + (p : Int) / (z.length : Int) * 53 := ⟨_, rfl⟩
        have ht1 : 0 ≤ t := by omega
        have ht2 : t ≤ 100000000 := by omega
        rw [← ht]
        clear ht
        go_wp2_with fail
        go_ret
        have hx := xor_own t ht1 ht2
        exact ⟨_, rfl, Int.tmod_nonneg _ hx, fun _ => Int.tmod_lt_of_pos _ (by omega), by omega, HD.out.next rfl rfl rfl rfl⟩

theorem Reads.headB {w : World} {B n k : Nat} {A : Option Addr} {z : List Int} (h : Reads w B 1 A n (cellsB z)) (hk : k ≤ n) : Reads w B 1 A k (cellsB (z.take k)) := by
  have hn : z.length = n := by have := h.1; simp [cellsB] at this; omega
  refine ⟨by simp [cellsB]; omega, fun h0 => ?_⟩
  obtain ⟨b, off, e, hb, hc⟩ := h.2 (by omega)
  refine ⟨b, off, e, hb, fun j u hu => hc j u ?_⟩
  rw [cellsB, List.map_take, List.getElem?_take] at hu
  split at hu
  · exact hu
  · cases hu
/-- A reader is opened: a new block, at the place 0. -/
theorem open_any (A : Option Addr) (c : Nat) (z : List Int) (w : World) (hr : Reads w w.heap.size 1 A z.length (cellsB z)) (hb : ∀ b ∈ z, 0 ≤ b ∧ b ≤ 255) (hc : z.length ≤ c) (hm : c ≤ 9223372036854775807) :
    Calls Try.prog 46 #[.slice A z.length c] w fun e w2 => ∃ (g c2 : Nat) (A2 : Option Addr) (z2 : List Int), e = .returned (.pointer (some ⟨g, 0, none⟩)) ∧ w.heap.size ≤ g ∧ Below w.heap.size w w2 ∧ Rd w2 g A2 z2 c2 0 := by
  by_cases h : 2000 < z.length
  · have hk : (2000 : Int) ≤ (c : Int) := by omega
    go_enter Try.func46, Try.ntmps46
    go_wp2_with fail
    go_ret
    have hl : (z.take 2000).length = 2000 := by rw [List.length_take]; omega
    have hb0 := (Below.refl w.heap.size w).alloc (Nat.le_refl _) (.cells #[.slice A 2000 c, .int .i64 0] 73)
    refine ⟨_, c, A, z.take 2000, rfl, Nat.le_refl _, hb0, ⟨?_, ?_, fun b h => hb b (List.mem_of_mem_take h), by omega⟩⟩
    · rw [hl]; exact heap_alloc_new _ _
    · rw [hl]; exact (hr.below hb0).headB (by omega)
  · go_enter Try.func46, Try.ntmps46
    go_wp2_with fail
    go_ret
    refine ⟨_, c, A, z, rfl, Nat.le_refl _, (Below.refl _ _).alloc (Nat.le_refl _) _, ⟨heap_alloc_new _ _, (hr.below ((Below.refl _ _).alloc (Nat.le_refl _) _)), hb, by omega⟩⟩
theorem Rd.set {w : World} {g c p : Nat} {A : Option Addr} {z : List Int} (h : Rd w g A z c p) {q : Addr} (hq : g < q.block) (u : Value) : Rd (w.setCell q u) g A z c p :=
  ⟨(heap_setCell_other w q g u (by omega)).trans h.blk, h.reads.keep fun b o hlt => World.cell?_of_block (w := w) (a := ⟨b, o, none⟩) (heap_setCell_other w q b u (by omega)), h.byte, h.short⟩
/-- Some steps of the reader, from w to w2. -/
structure Drawn (w : World) (g : Nat) (A : Option Addr) (z : List Int) (c p n : Nat) (w2 : World) : Prop where
  rd : ∃ p2, p2 ≤ p + n ∧ Rd w2 g A z c p2
  grown : w.grownBy w2 (some g)
theorem Rd.grownRow {w w2 : World} {g c p base e size n : Nat} {A : Option Addr} {z : List Int} {v : Value} {xs : List Value} (h : Rd w g A z c p) (ho : w.ownsRow base e size v n xs) (hb : g < base) (hg : w.grownBy w2 v.ownBlock) : Rd w2 g A z c p := by
  have hk : ∀ k, k ≤ g → w2.heap[k]? = w.heap[k]? := fun k hk => hg.block k (Nat.lt_of_le_of_lt hk h.lt) (fun e => by have := (ho.lt k e.symm).1; omega)
  exact ⟨(hk g (Nat.le_refl _)).trans h.blk, h.reads.keep fun b o hlt => World.cell?_of_block (w := w) (a := ⟨b, o, none⟩) (hk b (by omega)), h.byte, h.short⟩
/-- The bytes that a law is given. -/
structure Bytes (w : World) (A : Option Addr) (c : Nat) (z : List Int) : Prop where
  cap : z.length ≤ c
  reads : Reads w w.heap.size 1 A z.length (cellsB z)
  byte : ∀ b ∈ z, 0 ≤ b ∧ b ≤ 255
  room : c ≤ 9223372036854775807
theorem Bytes.step {w w2 : World} {A : Option Addr} {c : Nat} {z : List Int} (h : Bytes w A c z) (hb : Below w.heap.size w w2) : Bytes w2 A c z := ⟨h.cap, h.reads.step hb, h.byte, h.room⟩
theorem Bytes.mk_ {w : World} {A : Option Addr} {c : Nat} {z : List Int} (h1 : z.length ≤ c) (h2 : Reads w w.heap.size 1 A z.length (cellsB z)) (h3 : ∀ b ∈ z, 0 ≤ b ∧ b ≤ 255) (h4 : c ≤ maxLen) : Bytes w A c z := by
  unfold maxLen at h4
  exact ⟨h1, h2, h3, h4⟩
end Go.Proofs.Ytfkfjkhikgnnaaa
