/- Texts that lie together in one: Dr, Dc, Dl, Di, Db, Dg, Do, Dh. -/
import Derived.Test.YtnkdpogplkomhaaTri
import Derived.Test.YtnkdpogplkomhaaC2
import Derived.Test.YtnkdpogplkomhaaIl
import Derived.Test.YtnkdpogplkomhaaSs
import Derived.Test.YtnkdpogplkomhaaUu
import Derived.OwnWalk
/- The reader from which the laws draw their inputs: what it picks is in range, and it turns only its own place. -/
namespace Go.Proofs.Ytnkdpogplkomhaa
open Go.RowKit

/-- A reader in block g, over the bytes z, at the place p. -/
structure Rd (w : World) (g : Nat) (A : Option Addr) (z : List Int) (c p : Nat) : Prop where
  blk : w.heap[g]? = some (.cells #[.slice A z.length c, .int .i64 (p : Int)] 119 (0, 0))
  reads : Reads w g 1 A z.length (cellsB z)
  byte : ∀ b ∈ z, 0 ≤ b ∧ b ≤ 255
  short : z.length ≤ 2000
theorem Rd.lt {w : World} {g c p : Nat} {A : Option Addr} {z : List Int} (h : Rd w g A z c p) : g < w.heap.size := (Array.getElem?_eq_some_iff.1 h.blk).1
theorem Rd.step {w w2 : World} {g c p : Nat} {A : Option Addr} {z : List Int} (h : Rd w g A z c p) (hb : Below w.heap.size w w2) : Rd w2 g A z c p :=
  ⟨(hb.block g h.lt).trans h.blk, h.reads.keep fun b o hlt => hb.cell (p := ⟨b, o, none⟩) (Nat.lt_trans hlt h.lt), h.byte, h.short⟩
/-- Only the reader's place has turned. -/
theorem Rd.next {w w2 : World} {g c p p2 : Nat} {A : Option Addr} {z : List Int} (h : Rd w g A z c p) (hw : w2.heap = (w.setCell ⟨g, 1, none⟩ (.int .i64 (p2 : Int))).heap) (ho : w2.os = w.os) (ht : w2.tape = w.tape) (hu : w2.output = w.output) : Rd w2 g A z c p2 ∧ w.grownBy w2 (some g) := by
  have hg : w2.heap[g]? = some (.cells #[.slice A z.length c, .int .i64 (p2 : Int)] 119 (0, 0)) := by
    rw [hw, heap_setCell_same _ _ _ _ _ _ h.blk]; rfl
  have hf : ∀ k, k ≠ g → w2.heap[k]? = w.heap[k]? := fun k hk => by rw [hw]; exact heap_setCell_other w ⟨g, 1, none⟩ k _ hk
  refine ⟨⟨hg, h.reads.keep fun b o hlt => World.cell?_of_block (w := w) (a := ⟨b, o, none⟩) (hf b (by omega)), h.byte, h.short⟩, ⟨ho, ht, hu, by rw [hw]; simp [World.setCell], fun k _ hk => hf k (fun e => hk (by rw [e]))⟩⟩
def PickPost (w : World) (g : Nat) (A : Option Addr) (z : List Int) (c p : Nat) (n : Int) (e : Ending) (w2 : World) : Prop :=
  ∃ r : Int, e = .returned (.int .i64 r) ∧ 0 ≤ r ∧ (1 ≤ n → r < n) ∧ (n < 1 → r = 0) ∧ Rd w2 g A z c (p + 1) ∧ w.grownBy w2 (some g)

theorem byte_at {w : World} {B n : Nat} {A : Option Addr} {z : List Int} (h : Reads w B 1 A n (cellsB z)) (hn : 0 < n) : ∃ b off, A = some ⟨b, off, none⟩ ∧ b < B ∧ ∀ (k : Nat) (x : Int), z[k]? = some x → w.cell? ⟨b, off + k, none⟩ = some (.int .u8 x) := by
  obtain ⟨b, off, e, hb, hc⟩ := h.2 hn
  exact ⟨b, off, e, hb, fun k x hk => hc k _ (by simp [cellsB, hk])⟩

theorem xor_low (a b : Nat) (ha : a < 1073741824) (hb : b < 1073741824) : 0 ≤ bits .xor .i64 (a : Int) (b : Int) := by
  have hx : a ^^^ b < 2 ^ 30 := Nat.xor_lt_two_pow (by omega) (by omega)
  have ea : (BitVec.ofInt 64 (a : Int)).toNat = a := by rw [BitVec.ofInt_natCast, BitVec.toNat_ofNat]; exact Nat.mod_eq_of_lt (by omega)
  have eb : (BitVec.ofInt 64 (b : Int)).toNat = b := by rw [BitVec.ofInt_natCast, BitVec.toNat_ofNat]; exact Nat.mod_eq_of_lt (by omega)
  show 0 ≤ IntKind.i64.wrap ((BitVec.ofInt 64 (a : Int) ^^^ BitVec.ofInt 64 (b : Int)).toNat : Int)
  rw [BitVec.toNat_xor, ea, eb, IntKind.wrap_i64]
  omega
theorem xor_own (t : Int) (h0 : 0 ≤ t) (h1 : t ≤ 100000000) : 0 ≤ bits .xor .i64 t (t / 64) := by
  obtain ⟨n, rfl⟩ := Int.eq_ofNat_of_zero_le h0
  exact xor_low n (n / 64) (by omega) (by omega)
set_option maxHeartbeats 2000000 in
set_option maxRecDepth 100000 in
theorem pick_any (g c p : Nat) (A : Option Addr) (z : List Int) (n : Int) (w : World) (h : Rd w g A z c p) (hp : p ≤ 1000000) (hn : n ≤ 1000000) :
    Calls Try.prog 42 #[.pointer (some ⟨g, 0, none⟩), .int .i64 n] w (PickPost w g A z c p n) := by
  have hc0 : w.cell? ⟨g, 0, none⟩ = some (.slice A z.length c) := cell_of_row _ _ 0 _ _ _ h.blk
  have hc1 : w.cell? ⟨g, 1, none⟩ = some (.int .i64 (p : Int)) := cell_of_row _ _ 1 _ _ _ h.blk
  have hf1 := frozen_of_row _ _ 1 _ _ h.blk
  have hshort := h.short
  have HD := Lib.hid h
  by_cases h1 : n < 1
  · go_enter Try.func42, Try.ntmps42
    go_wp2_with fail
    go_ret
    exact ⟨0, rfl, by omega, by omega, fun _ => rfl, HD.out.next rfl rfl rfl rfl⟩
  · have e1 : decide (n < 1) = false := by simp; omega
    rcases Nat.eq_zero_or_pos z.length with h0 | hpos
    · have e2 : ((z.length : Int) == 0) = true := by simp [h0]
      clear h0
      go_enter Try.func42, Try.ntmps42
      go_wp2_with fail
      go_ret
      exact ⟨0, rfl, by omega, by omega, fun _ => rfl, HD.out.next rfl rfl rfl rfl⟩
    · have e2 : ((z.length : Int) == 0) = false := by rw [beq_eq_false_iff_ne]; omega
      obtain ⟨b, off, hA, hb, hbyte⟩ := byte_at h.reads hpos
      subst hA
      by_cases hk : p < z.length
      · have hzb := h.byte z[p] (List.getElem_mem hk)
        have cz := hbyte p _ (List.getElem?_eq_getElem hk)
        have e3 : decide (p < z.length) = true := by simp [hk]
        have hne : ¬ b = g := by omega
        clear hbyte h
        obtain ⟨hz1, hz2⟩ := hzb
        go_enter Try.func42, Try.ntmps42
        go_wp2_with fail
        go_ret
        exact ⟨z[p] % n, rfl, Int.emod_nonneg _ (by omega), fun _ => Int.emod_lt_of_pos _ (by omega), by omega, HD.out.next rfl rfl rfl rfl⟩
      · have hm1 : p % z.length < z.length := Nat.mod_lt _ hpos
        have hm2 : (p * 7 + 3) % z.length < z.length := Nat.mod_lt _ hpos
        have hza := h.byte _ (List.getElem_mem hm1)
        have hzb := h.byte _ (List.getElem_mem hm2)
        have ca := hbyte _ _ (List.getElem?_eq_getElem hm1)
        have cb := hbyte _ _ (List.getElem?_eq_getElem hm2)
        obtain ⟨x, hx⟩ : ∃ x, x = z[p % z.length] := ⟨_, rfl⟩
        obtain ⟨y, hy⟩ : ∃ y, y = z[(p * 7 + 3) % z.length] := ⟨_, rfl⟩
        rw [← hx] at ca hza
        rw [← hy] at cb hzb
        obtain ⟨hx1, hx2⟩ := hza
        obtain ⟨hy1, hy2⟩ := hzb
        have e3 : decide (p < z.length) = false := by simp; omega
        have hne : ¬ b = g := by omega
        have hpl : (0 : Int) < (z.length : Int) := by omega
        have hm3 : ((p : Int) % (z.length : Int)) < (z.length : Int) := Int.emod_lt_of_pos _ hpl
        have hm4 : 0 ≤ ((p : Int) % (z.length : Int)) := Int.emod_nonneg _ (by omega)
        have hm5 : (((p : Int) * 7 + 3) % (z.length : Int)) < (z.length : Int) := Int.emod_lt_of_pos _ hpl
        have hm6 : 0 ≤ (((p : Int) * 7 + 3) % (z.length : Int)) := Int.emod_nonneg _ (by omega)
        have hq1 : 0 ≤ ((p : Int) / (z.length : Int)) := Int.ediv_nonneg (by omega) (by omega)
        have hq2 : ((p : Int) / (z.length : Int)) ≤ 1000000 := Int.le_trans (Int.ediv_le_self _ (by omega)) (by omega)
        clear hbyte h hx hy
        go_enter Try.func42, Try.ntmps42
        go_wp2_with fail
        refine wp_region_quiet_lit (by kernel_rfl) (by kernel_rfl) ?_
        repeat (go_big_quiet_step (fail))
        refine wpQuiet_nil ?_
        rintro _ ⟨nq, rfl⟩
        obtain ⟨t, ht⟩ : ∃ t, t = x * 131 + y * 1117 + (p : Int) * 29 + (p : Int) / (z.length : Int) * 53 := ⟨_, rfl⟩
        have ht1 : 0 ≤ t := by omega
        have ht2 : t ≤ 100000000 := by omega
        rw [← ht]
        clear ht
        go_wp2_with fail
        go_ret
        have hx := xor_own t ht1 ht2
        exact ⟨_, rfl, Int.tmod_nonneg _ hx, fun _ => Int.tmod_lt_of_pos _ (by omega), by omega, HD.out.next rfl rfl rfl rfl⟩

theorem Reads.headB {w : World} {B n k : Nat} {A : Option Addr} {z : List Int} (h : Reads w B 1 A n (cellsB z)) (hk : k ≤ n) : Reads w B 1 A k (cellsB (z.take k)) := by
  have hn : z.length = n := by have := h.1; simp [cellsB] at this; omega
  refine ⟨by simp [cellsB]; omega, fun h0 => ?_⟩
  obtain ⟨b, off, e, hb, hc⟩ := h.2 (by omega)
  refine ⟨b, off, e, hb, fun j u hu => hc j u ?_⟩
  rw [cellsB, List.map_take, List.getElem?_take] at hu
  split at hu
  · exact hu
  · cases hu
/-- A reader is opened: a new block, at the place 0. -/
theorem open_any (A : Option Addr) (c : Nat) (z : List Int) (w : World) (hr : Reads w w.heap.size 1 A z.length (cellsB z)) (hb : ∀ b ∈ z, 0 ≤ b ∧ b ≤ 255) (hc : z.length ≤ c) (hm : c ≤ 9223372036854775807) :
    Calls Try.prog 40 #[.slice A z.length c] w fun e w2 => ∃ (g c2 : Nat) (A2 : Option Addr) (z2 : List Int), e = .returned (.pointer (some ⟨g, 0, none⟩)) ∧ w.heap.size ≤ g ∧ Below w.heap.size w w2 ∧ Rd w2 g A2 z2 c2 0 := by
  by_cases h : 2000 < z.length
  · have hk : (2000 : Int) ≤ (c : Int) := by omega
    go_enter Try.func40, Try.ntmps40
    go_wp2_with fail
    go_ret
    have hl : (z.take 2000).length = 2000 := by rw [List.length_take]; omega
    have hb0 := (Below.refl w.heap.size w).alloc (Nat.le_refl _) (.cells #[.slice A 2000 c, .int .i64 0] 119)
    refine ⟨_, c, A, z.take 2000, rfl, Nat.le_refl _, hb0, ⟨?_, ?_, fun b h => hb b (List.mem_of_mem_take h), by omega⟩⟩
    · rw [hl]; exact heap_alloc_new _ _
    · rw [hl]; exact (hr.below hb0).headB (by omega)
  · go_enter Try.func40, Try.ntmps40
    go_wp2_with fail
    go_ret
    refine ⟨_, c, A, z, rfl, Nat.le_refl _, (Below.refl _ _).alloc (Nat.le_refl _) _, ⟨heap_alloc_new _ _, (hr.below ((Below.refl _ _).alloc (Nat.le_refl _) _)), hb, by omega⟩⟩
theorem Rd.set {w : World} {g c p : Nat} {A : Option Addr} {z : List Int} (h : Rd w g A z c p) {q : Addr} (hq : g < q.block) (u : Value) : Rd (w.setCell q u) g A z c p :=
  ⟨(heap_setCell_other w q g u (by omega)).trans h.blk, h.reads.keep fun b o hlt => World.cell?_of_block (w := w) (a := ⟨b, o, none⟩) (heap_setCell_other w q b u (by omega)), h.byte, h.short⟩
/-- Some steps of the reader, from w to w2. -/
structure Drawn (w : World) (g : Nat) (A : Option Addr) (z : List Int) (c p n : Nat) (w2 : World) : Prop where
  rd : ∃ p2, p2 ≤ p + n ∧ Rd w2 g A z c p2
  grown : w.grownBy w2 (some g)
theorem Rd.grownRow {w w2 : World} {g c p base e size n : Nat} {A : Option Addr} {z : List Int} {v : Value} {xs : List Value} (h : Rd w g A z c p) (ho : w.ownsRow base e size v n xs) (hb : g < base) (hg : w.grownBy w2 v.ownBlock) : Rd w2 g A z c p := by
  have hk : ∀ k, k ≤ g → w2.heap[k]? = w.heap[k]? := fun k hk => hg.block k (Nat.lt_of_le_of_lt hk h.lt) (fun e => by have := (ho.lt k e.symm).1; omega)
  exact ⟨(hk g (Nat.le_refl _)).trans h.blk, h.reads.keep fun b o hlt => World.cell?_of_block (w := w) (a := ⟨b, o, none⟩) (hk b (by omega)), h.byte, h.short⟩
/-- The bytes that a law is given. -/
structure Bytes (w : World) (A : Option Addr) (c : Nat) (z : List Int) : Prop where
  cap : z.length ≤ c
  reads : Reads w w.heap.size 1 A z.length (cellsB z)
  byte : ∀ b ∈ z, 0 ≤ b ∧ b ≤ 255
  room : c ≤ 9223372036854775807
theorem Bytes.step {w w2 : World} {A : Option Addr} {c : Nat} {z : List Int} (h : Bytes w A c z) (hb : Below w.heap.size w w2) : Bytes w2 A c z := ⟨h.cap, h.reads.step hb, h.byte, h.room⟩
theorem Bytes.mk_ {w : World} {A : Option Addr} {c : Nat} {z : List Int} (h1 : z.length ≤ c) (h2 : Reads w w.heap.size 1 A z.length (cellsB z)) (h3 : ∀ b ∈ z, 0 ≤ b ∧ b ≤ 255) (h4 : c ≤ maxLen) : Bytes w A c z := by
  unfold maxLen at h4
  exact ⟨h1, h2, h3, h4⟩
end Go.Proofs.Ytnkdpogplkomhaa

/- The laws draw a relation. -/
namespace Go.Proofs.Ytnkdpogplkomhaa
open Go.RowKit

set_option maxHeartbeats 4000000 in
set_option maxRecDepth 100000 in
theorem drawR_any (g c p : Nat) (A : Option Addr) (z : List Int) (n : Int) (w : World) (h : Rd w g A z c p) (hp : p ≤ 900000) (hn1 : 1 ≤ n) (hn2 : n ≤ 50) :
    Calls Try.prog 118 #[.pointer (some ⟨g, 0, none⟩), .int .i64 n] w fun e w2 => ∃ x : Ctx, e = .returned (.agg #[.int .i64 x.id, .int .i64 x.kind, .int .i64 x.area]) ∧ Drawn w g A z c p 7 w2 := by
  have hlt := h.lt
  have hn0 : ¬ w.heap.size = g := by omega
  go_enter Try.func118, Try.ntmps118
  go_wp2_with fail
  refine (pick_any g c p A z _ _ (h.step ((Below.refl _ _).alloc (Nat.le_refl _) _)) (by omega) (by omega)).mono ?_
  rintro e w2 ⟨r2, rfl, a2, b2, _, hr2, hg2⟩
  have b2 := b2 (by omega)
  go_wp2_with fail
  refine (pick_any g c _ A z _ _ hr2 (by omega) (by omega)).mono ?_
  rintro e w3 ⟨r3, rfl, a3, b3, _, hr3, hg3⟩
  have b3 := b3 (by omega)
  have g3 : w.grownBy w3 (some g) := ((World.grownBy_alloc w _ _).trans hg2).trans hg3
  have hs3 : w.heap.size < w3.heap.size := by
    have e2 := hg2.size
    have e3 := hg3.size
    simp at e2
    omega
  have hn4 : ¬ w3.heap.size = g := by omega
  have hn04 : ¬ w.heap.size = w3.heap.size := by omega
  have hn40 : ¬ w3.heap.size = w.heap.size := by omega
  rcases Int.lt_trichotomy r2 r3 with hab | rfl | hab
  · have e0 : ((1 + r2) == (1 + r3)) = false := by rw [beq_eq_false_iff_ne]; omega
    have e1 : min (1 + r2) (1 + r3) = 1 + r2 := by omega
    have e2 : max (1 + r2) (1 + r3) = 1 + r3 := by omega
    go_wp2_with fail
    have m03 := row_keep hg3 (row_keep hg2 (heap_alloc_new w (.cells #[.int .i64 0, .int .i64 0, .int .i64 0] 111)) hn0) hn0
    refine (pick_any g c _ A z _ _ (hr3.step ((Below.refl _ _).alloc (Nat.le_refl _) _)) (by omega) (by omega)).mono ?_
    rintro e w5 ⟨r5, rfl, a5, b5, _, hr5, hg5⟩
    have b5 := b5 (by omega)
    have M05 := Lib.hid (row_keep hg5 (row_alloc m03) hn0)
    have M45 := Lib.hid (row_keep hg5 (heap_alloc_new _ _) hn4)
    have G5 := Lib.hid ((grown_alloc g3 _).trans hg5)
    have hs5 : w3.heap.size < w5.heap.size := (Array.getElem?_eq_some_iff.1 M45.out).1
    clear hg5 hg3 hg2 m03 g3 hr2 hr3
    have hc5 : (r5 = 0 ∨ r5 = 1 ∨ r5 = 2) ∨ r5 = 3 ∨ r5 = 4 ∨ 5 ≤ r5 := by omega
    rcases hc5 with hc5 | rfl | rfl | hc5
    · rcases hc5 with rfl | rfl | rfl
      · skip
        have z0 : w5.cell? ⟨w.heap.size, 0, none⟩ = some (.int .i64 0) := cell_of_row _ _ 0 _ _ _ M05.out
        have z1 : w5.cell? ⟨w.heap.size, 1, none⟩ = some (.int .i64 0) := cell_of_row _ _ 1 _ _ _ M05.out
        have z2 : w5.cell? ⟨w.heap.size, 2, none⟩ = some (.int .i64 0) := cell_of_row _ _ 2 _ _ _ M05.out
        have f0 := frozen_of_row _ _ 0 _ _ M05.out
        have f1 := frozen_of_row _ _ 1 _ _ M05.out
        have f2 := frozen_of_row _ _ 2 _ _ M05.out
        have y0 : w5.cell? ⟨w3.heap.size, 0, none⟩ = some (.int .i64 (1 + r2)) := cell_of_row _ _ 0 _ _ _ M45.out
        have y1 : w5.cell? ⟨w3.heap.size, 1, none⟩ = some (.int .i64 (1 + r3)) := cell_of_row _ _ 1 _ _ _ M45.out
        have y2 : w5.cell? ⟨w3.heap.size, 2, none⟩ = some (.int .i64 1) := cell_of_row _ _ 2 _ _ _ M45.out
        have x0 := frozen_of_row _ _ 0 _ _ M45.out
        have x1 := frozen_of_row _ _ 1 _ _ M45.out
        have x2 := frozen_of_row _ _ 2 _ _ M45.out
        go_wp2_with fail
        refine bodyPost_ret (v := .agg #[.int .i64 (1 + r2), .int .i64 (1 + r3), .int .i64 2]) (by simp [results, Try.results118, go_sem, *]) rfl ⟨⟨(1 + r2), (1 + r3), 2⟩, rfl, ⟨⟨_, by omega, ((((((((hr5).set (by simp; omega) _)).set (by simp; omega) _)).set (by simp; omega) _)).set (by simp; omega) _)⟩, (grown_new (grown_new (grown_new (grown_new G5.out (by simp; omega) _) (by simp) _) (by simp) _) (by simp) _)⟩⟩
      · skip
        have z0 : w5.cell? ⟨w.heap.size, 0, none⟩ = some (.int .i64 0) := cell_of_row _ _ 0 _ _ _ M05.out
        have z1 : w5.cell? ⟨w.heap.size, 1, none⟩ = some (.int .i64 0) := cell_of_row _ _ 1 _ _ _ M05.out
        have z2 : w5.cell? ⟨w.heap.size, 2, none⟩ = some (.int .i64 0) := cell_of_row _ _ 2 _ _ _ M05.out
        have f0 := frozen_of_row _ _ 0 _ _ M05.out
        have f1 := frozen_of_row _ _ 1 _ _ M05.out
        have f2 := frozen_of_row _ _ 2 _ _ M05.out
        have y0 : w5.cell? ⟨w3.heap.size, 0, none⟩ = some (.int .i64 (1 + r2)) := cell_of_row _ _ 0 _ _ _ M45.out
        have y1 : w5.cell? ⟨w3.heap.size, 1, none⟩ = some (.int .i64 (1 + r3)) := cell_of_row _ _ 1 _ _ _ M45.out
        have y2 : w5.cell? ⟨w3.heap.size, 2, none⟩ = some (.int .i64 1) := cell_of_row _ _ 2 _ _ _ M45.out
        have x0 := frozen_of_row _ _ 0 _ _ M45.out
        have x1 := frozen_of_row _ _ 1 _ _ M45.out
        have x2 := frozen_of_row _ _ 2 _ _ M45.out
        go_wp2_with fail
        refine bodyPost_ret (v := .agg #[.int .i64 (1 + r2), .int .i64 (1 + r3), .int .i64 2]) (by simp [results, Try.results118, go_sem, *]) rfl ⟨⟨(1 + r2), (1 + r3), 2⟩, rfl, ⟨⟨_, by omega, ((((((((hr5).set (by simp; omega) _)).set (by simp; omega) _)).set (by simp; omega) _)).set (by simp; omega) _)⟩, (grown_new (grown_new (grown_new (grown_new G5.out (by simp; omega) _) (by simp) _) (by simp) _) (by simp) _)⟩⟩
      · skip
        have z0 : w5.cell? ⟨w.heap.size, 0, none⟩ = some (.int .i64 0) := cell_of_row _ _ 0 _ _ _ M05.out
        have z1 : w5.cell? ⟨w.heap.size, 1, none⟩ = some (.int .i64 0) := cell_of_row _ _ 1 _ _ _ M05.out
        have z2 : w5.cell? ⟨w.heap.size, 2, none⟩ = some (.int .i64 0) := cell_of_row _ _ 2 _ _ _ M05.out
        have f0 := frozen_of_row _ _ 0 _ _ M05.out
        have f1 := frozen_of_row _ _ 1 _ _ M05.out
        have f2 := frozen_of_row _ _ 2 _ _ M05.out
        have y0 : w5.cell? ⟨w3.heap.size, 0, none⟩ = some (.int .i64 (1 + r2)) := cell_of_row _ _ 0 _ _ _ M45.out
        have y1 : w5.cell? ⟨w3.heap.size, 1, none⟩ = some (.int .i64 (1 + r3)) := cell_of_row _ _ 1 _ _ _ M45.out
        have y2 : w5.cell? ⟨w3.heap.size, 2, none⟩ = some (.int .i64 1) := cell_of_row _ _ 2 _ _ _ M45.out
        have x0 := frozen_of_row _ _ 0 _ _ M45.out
        have x1 := frozen_of_row _ _ 1 _ _ M45.out
        have x2 := frozen_of_row _ _ 2 _ _ M45.out
        go_wp2_with fail
        refine bodyPost_ret (v := .agg #[.int .i64 (1 + r2), .int .i64 (1 + r3), .int .i64 2]) (by simp [results, Try.results118, go_sem, *]) rfl ⟨⟨(1 + r2), (1 + r3), 2⟩, rfl, ⟨⟨_, by omega, ((((((((hr5).set (by simp; omega) _)).set (by simp; omega) _)).set (by simp; omega) _)).set (by simp; omega) _)⟩, (grown_new (grown_new (grown_new (grown_new G5.out (by simp; omega) _) (by simp) _) (by simp) _) (by simp) _)⟩⟩
    · skip
      have z0 : w5.cell? ⟨w.heap.size, 0, none⟩ = some (.int .i64 0) := cell_of_row _ _ 0 _ _ _ M05.out
      have z1 : w5.cell? ⟨w.heap.size, 1, none⟩ = some (.int .i64 0) := cell_of_row _ _ 1 _ _ _ M05.out
      have z2 : w5.cell? ⟨w.heap.size, 2, none⟩ = some (.int .i64 0) := cell_of_row _ _ 2 _ _ _ M05.out
      have f0 := frozen_of_row _ _ 0 _ _ M05.out
      have f1 := frozen_of_row _ _ 1 _ _ M05.out
      have f2 := frozen_of_row _ _ 2 _ _ M05.out
      have y0 : w5.cell? ⟨w3.heap.size, 0, none⟩ = some (.int .i64 (1 + r2)) := cell_of_row _ _ 0 _ _ _ M45.out
      have y1 : w5.cell? ⟨w3.heap.size, 1, none⟩ = some (.int .i64 (1 + r3)) := cell_of_row _ _ 1 _ _ _ M45.out
      have y2 : w5.cell? ⟨w3.heap.size, 2, none⟩ = some (.int .i64 1) := cell_of_row _ _ 2 _ _ _ M45.out
      have x0 := frozen_of_row _ _ 0 _ _ M45.out
      have x1 := frozen_of_row _ _ 1 _ _ M45.out
      have x2 := frozen_of_row _ _ 2 _ _ M45.out
      go_wp2_with fail
      refine bodyPost_ret (v := .agg #[.int .i64 (1 + r3), .int .i64 (1 + r2), .int .i64 1]) (by simp [results, Try.results118, go_sem, *]) rfl ⟨⟨(1 + r3), (1 + r2), 1⟩, rfl, ⟨⟨_, by omega, ((((((hr5).set (by simp; omega) _)).set (by simp; omega) _)).set (by simp; omega) _)⟩, (grown_new (grown_new (grown_new G5.out (by simp) _) (by simp) _) (by simp) _)⟩⟩
    · skip
      go_wp2_with fail
      refine (pick_any g c _ A z _ _ hr5 (by omega) (by omega)).mono ?_
      rintro e w6 ⟨r6, rfl, a6, b6, _, hr6, hg6⟩
      have b6 := b6 (by omega)
      have M06 := Lib.hid (row_keep hg6 M05.out hn0)
      have M46 := Lib.hid (row_keep hg6 M45.out hn4)
      have G6 := Lib.hid (G5.out.trans hg6)
      have hs6 : w3.heap.size < w6.heap.size := (Array.getElem?_eq_some_iff.1 M46.out).1
      clear hg6
      by_cases c6 : r6 = 0
      · have e6 : (r6 == 0) = true := by simp [c6]
        clear c6
        go_wp2_with fail
        refine (pick_any g c _ A z _ _ hr6 (by omega) (by omega)).mono ?_
        rintro e w7 ⟨r7, rfl, a7, b7, _, hr7, hg7⟩
        have b7 := b7 (by omega)
        have M07 := Lib.hid (row_keep hg7 M06.out hn0)
        have M47 := Lib.hid (row_keep hg7 M46.out hn4)
        have G7 := Lib.hid (G6.out.trans hg7)
        have hs7 : w3.heap.size < w7.heap.size := (Array.getElem?_eq_some_iff.1 M47.out).1
        clear hg7
        go_wp2_with fail
        refine (pick_any g c _ A z _ _ hr7 (by omega) (by omega)).mono ?_
        rintro e w8 ⟨r8, rfl, a8, b8, _, hr8, hg8⟩
        have b8 := b8 (by omega)
        have M08 := Lib.hid (row_keep hg8 M07.out hn0)
        have M48 := Lib.hid (row_keep hg8 M47.out hn4)
        have G8 := Lib.hid (G7.out.trans hg8)
        have hs8 : w3.heap.size < w8.heap.size := (Array.getElem?_eq_some_iff.1 M48.out).1
        clear hg8
        go_wp2_with fail
        refine (pick_any g c _ A z _ _ hr8 (by omega) (by omega)).mono ?_
        rintro e w9 ⟨r9, rfl, a9, b9, _, hr9, hg9⟩
        have b9 := b9 (by omega)
        have M09 := Lib.hid (row_keep hg9 M08.out hn0)
        have M49 := Lib.hid (row_keep hg9 M48.out hn4)
        have G9 := Lib.hid (G8.out.trans hg9)
        have hs9 : w3.heap.size < w9.heap.size := (Array.getElem?_eq_some_iff.1 M49.out).1
        clear hg9
        have z0 : w9.cell? ⟨w.heap.size, 0, none⟩ = some (.int .i64 0) := cell_of_row _ _ 0 _ _ _ M09.out
        have z1 : w9.cell? ⟨w.heap.size, 1, none⟩ = some (.int .i64 0) := cell_of_row _ _ 1 _ _ _ M09.out
        have z2 : w9.cell? ⟨w.heap.size, 2, none⟩ = some (.int .i64 0) := cell_of_row _ _ 2 _ _ _ M09.out
        have f0 := frozen_of_row _ _ 0 _ _ M09.out
        have f1 := frozen_of_row _ _ 1 _ _ M09.out
        have f2 := frozen_of_row _ _ 2 _ _ M09.out
        have y0 : w9.cell? ⟨w3.heap.size, 0, none⟩ = some (.int .i64 (1 + r2)) := cell_of_row _ _ 0 _ _ _ M49.out
        have y1 : w9.cell? ⟨w3.heap.size, 1, none⟩ = some (.int .i64 (1 + r3)) := cell_of_row _ _ 1 _ _ _ M49.out
        have y2 : w9.cell? ⟨w3.heap.size, 2, none⟩ = some (.int .i64 1) := cell_of_row _ _ 2 _ _ _ M49.out
        have x0 := frozen_of_row _ _ 0 _ _ M49.out
        have x1 := frozen_of_row _ _ 1 _ _ M49.out
        have x2 := frozen_of_row _ _ 2 _ _ M49.out
        go_wp2_with fail
        refine bodyPost_ret (v := .agg #[.int .i64 (r7 * 33), .int .i64 (r8 * 50), .int .i64 r9]) (by simp [results, Try.results118, go_sem, *]) rfl ⟨⟨(r7 * 33), (r8 * 50), r9⟩, rfl, ⟨⟨_, by omega, ((((((hr9).set (by simp; omega) _)).set (by simp; omega) _)).set (by simp; omega) _)⟩, (grown_new (grown_new (grown_new G9.out (by simp) _) (by simp) _) (by simp) _)⟩⟩
      · have e6 : (r6 == 0) = false := by simp [c6]
        clear c6
        have z0 : w6.cell? ⟨w.heap.size, 0, none⟩ = some (.int .i64 0) := cell_of_row _ _ 0 _ _ _ M06.out
        have z1 : w6.cell? ⟨w.heap.size, 1, none⟩ = some (.int .i64 0) := cell_of_row _ _ 1 _ _ _ M06.out
        have z2 : w6.cell? ⟨w.heap.size, 2, none⟩ = some (.int .i64 0) := cell_of_row _ _ 2 _ _ _ M06.out
        have f0 := frozen_of_row _ _ 0 _ _ M06.out
        have f1 := frozen_of_row _ _ 1 _ _ M06.out
        have f2 := frozen_of_row _ _ 2 _ _ M06.out
        have y0 : w6.cell? ⟨w3.heap.size, 0, none⟩ = some (.int .i64 (1 + r2)) := cell_of_row _ _ 0 _ _ _ M46.out
        have y1 : w6.cell? ⟨w3.heap.size, 1, none⟩ = some (.int .i64 (1 + r3)) := cell_of_row _ _ 1 _ _ _ M46.out
        have y2 : w6.cell? ⟨w3.heap.size, 2, none⟩ = some (.int .i64 1) := cell_of_row _ _ 2 _ _ _ M46.out
        have x0 := frozen_of_row _ _ 0 _ _ M46.out
        have x1 := frozen_of_row _ _ 1 _ _ M46.out
        have x2 := frozen_of_row _ _ 2 _ _ M46.out
        go_wp2_with fail
        refine bodyPost_ret (v := .agg #[.int .i64 (1 + r2), .int .i64 (1 + r3), .int .i64 1]) (by simp [results, Try.results118, go_sem, *]) rfl ⟨⟨(1 + r2), (1 + r3), 1⟩, rfl, ⟨⟨_, by omega, ((((((hr6).set (by simp; omega) _)).set (by simp; omega) _)).set (by simp; omega) _)⟩, (grown_new (grown_new (grown_new G6.out (by simp) _) (by simp) _) (by simp) _)⟩⟩
    · skip
      have q0 : (r5 == 0) = false := by simp; omega
      have q1 : (r5 == 1) = false := by simp; omega
      have q2 : (r5 == 2) = false := by simp; omega
      have q3 : (r5 == 3) = false := by simp; omega
      have q4 : (r5 == 4) = false := by simp; omega
      have z0 : w5.cell? ⟨w.heap.size, 0, none⟩ = some (.int .i64 0) := cell_of_row _ _ 0 _ _ _ M05.out
      have z1 : w5.cell? ⟨w.heap.size, 1, none⟩ = some (.int .i64 0) := cell_of_row _ _ 1 _ _ _ M05.out
      have z2 : w5.cell? ⟨w.heap.size, 2, none⟩ = some (.int .i64 0) := cell_of_row _ _ 2 _ _ _ M05.out
      have f0 := frozen_of_row _ _ 0 _ _ M05.out
      have f1 := frozen_of_row _ _ 1 _ _ M05.out
      have f2 := frozen_of_row _ _ 2 _ _ M05.out
      have y0 : w5.cell? ⟨w3.heap.size, 0, none⟩ = some (.int .i64 (1 + r2)) := cell_of_row _ _ 0 _ _ _ M45.out
      have y1 : w5.cell? ⟨w3.heap.size, 1, none⟩ = some (.int .i64 (1 + r3)) := cell_of_row _ _ 1 _ _ _ M45.out
      have y2 : w5.cell? ⟨w3.heap.size, 2, none⟩ = some (.int .i64 1) := cell_of_row _ _ 2 _ _ _ M45.out
      have x0 := frozen_of_row _ _ 0 _ _ M45.out
      have x1 := frozen_of_row _ _ 1 _ _ M45.out
      have x2 := frozen_of_row _ _ 2 _ _ M45.out
      go_wp2_with fail
      refine bodyPost_ret (v := .agg #[.int .i64 (1 + r2), .int .i64 (1 + r3), .int .i64 1]) (by simp [results, Try.results118, go_sem, *]) rfl ⟨⟨(1 + r2), (1 + r3), 1⟩, rfl, ⟨⟨_, by omega, ((((((hr5).set (by simp; omega) _)).set (by simp; omega) _)).set (by simp; omega) _)⟩, (grown_new (grown_new (grown_new G5.out (by simp) _) (by simp) _) (by simp) _)⟩⟩
  · skip
    go_wp2_with fail
    have m03 := row_keep hg3 (row_keep hg2 (heap_alloc_new w (.cells #[.int .i64 0, .int .i64 0, .int .i64 0] 111)) hn0) hn0
    refine (pick_any g c _ A z _ _ (hr3.step ((Below.refl _ _).alloc (Nat.le_refl _) _)) (by omega) (by omega)).mono ?_
    rintro e w5 ⟨r5, rfl, a5, b5, _, hr5, hg5⟩
    have b5 := b5 (by omega)
    have M05 := Lib.hid (row_keep hg5 (row_alloc m03) hn0)
    have M45 := Lib.hid (row_keep hg5 (heap_alloc_new _ _) hn4)
    have G5 := Lib.hid ((grown_alloc g3 _).trans hg5)
    have hs5 : w3.heap.size < w5.heap.size := (Array.getElem?_eq_some_iff.1 M45.out).1
    clear hg5 hg3 hg2 m03 g3 hr2 hr3
    have hc5 : (r5 = 0 ∨ r5 = 1 ∨ r5 = 2) ∨ r5 = 3 ∨ r5 = 4 ∨ 5 ≤ r5 := by omega
    rcases hc5 with hc5 | rfl | rfl | hc5
    · rcases hc5 with rfl | rfl | rfl
      · skip
        have z0 : w5.cell? ⟨w.heap.size, 0, none⟩ = some (.int .i64 0) := cell_of_row _ _ 0 _ _ _ M05.out
        have z1 : w5.cell? ⟨w.heap.size, 1, none⟩ = some (.int .i64 0) := cell_of_row _ _ 1 _ _ _ M05.out
        have z2 : w5.cell? ⟨w.heap.size, 2, none⟩ = some (.int .i64 0) := cell_of_row _ _ 2 _ _ _ M05.out
        have f0 := frozen_of_row _ _ 0 _ _ M05.out
        have f1 := frozen_of_row _ _ 1 _ _ M05.out
        have f2 := frozen_of_row _ _ 2 _ _ M05.out
        have y0 : w5.cell? ⟨w3.heap.size, 0, none⟩ = some (.int .i64 (1 + r2)) := cell_of_row _ _ 0 _ _ _ M45.out
        have y1 : w5.cell? ⟨w3.heap.size, 1, none⟩ = some (.int .i64 (1 + r2 + 1)) := cell_of_row _ _ 1 _ _ _ M45.out
        have y2 : w5.cell? ⟨w3.heap.size, 2, none⟩ = some (.int .i64 1) := cell_of_row _ _ 2 _ _ _ M45.out
        have x0 := frozen_of_row _ _ 0 _ _ M45.out
        have x1 := frozen_of_row _ _ 1 _ _ M45.out
        have x2 := frozen_of_row _ _ 2 _ _ M45.out
        go_wp2_with fail
        refine bodyPost_ret (v := .agg #[.int .i64 (1 + r2), .int .i64 (1 + r2 + 1), .int .i64 2]) (by simp [results, Try.results118, go_sem, *]) rfl ⟨⟨(1 + r2), (1 + r2 + 1), 2⟩, rfl, ⟨⟨_, by omega, ((((((((hr5).set (by simp; omega) _)).set (by simp; omega) _)).set (by simp; omega) _)).set (by simp; omega) _)⟩, (grown_new (grown_new (grown_new (grown_new G5.out (by simp; omega) _) (by simp) _) (by simp) _) (by simp) _)⟩⟩
      · skip
        have z0 : w5.cell? ⟨w.heap.size, 0, none⟩ = some (.int .i64 0) := cell_of_row _ _ 0 _ _ _ M05.out
        have z1 : w5.cell? ⟨w.heap.size, 1, none⟩ = some (.int .i64 0) := cell_of_row _ _ 1 _ _ _ M05.out
        have z2 : w5.cell? ⟨w.heap.size, 2, none⟩ = some (.int .i64 0) := cell_of_row _ _ 2 _ _ _ M05.out
        have f0 := frozen_of_row _ _ 0 _ _ M05.out
        have f1 := frozen_of_row _ _ 1 _ _ M05.out
        have f2 := frozen_of_row _ _ 2 _ _ M05.out
        have y0 : w5.cell? ⟨w3.heap.size, 0, none⟩ = some (.int .i64 (1 + r2)) := cell_of_row _ _ 0 _ _ _ M45.out
        have y1 : w5.cell? ⟨w3.heap.size, 1, none⟩ = some (.int .i64 (1 + r2 + 1)) := cell_of_row _ _ 1 _ _ _ M45.out
        have y2 : w5.cell? ⟨w3.heap.size, 2, none⟩ = some (.int .i64 1) := cell_of_row _ _ 2 _ _ _ M45.out
        have x0 := frozen_of_row _ _ 0 _ _ M45.out
        have x1 := frozen_of_row _ _ 1 _ _ M45.out
        have x2 := frozen_of_row _ _ 2 _ _ M45.out
        go_wp2_with fail
        refine bodyPost_ret (v := .agg #[.int .i64 (1 + r2), .int .i64 (1 + r2 + 1), .int .i64 2]) (by simp [results, Try.results118, go_sem, *]) rfl ⟨⟨(1 + r2), (1 + r2 + 1), 2⟩, rfl, ⟨⟨_, by omega, ((((((((hr5).set (by simp; omega) _)).set (by simp; omega) _)).set (by simp; omega) _)).set (by simp; omega) _)⟩, (grown_new (grown_new (grown_new (grown_new G5.out (by simp; omega) _) (by simp) _) (by simp) _) (by simp) _)⟩⟩
      · skip
        have z0 : w5.cell? ⟨w.heap.size, 0, none⟩ = some (.int .i64 0) := cell_of_row _ _ 0 _ _ _ M05.out
        have z1 : w5.cell? ⟨w.heap.size, 1, none⟩ = some (.int .i64 0) := cell_of_row _ _ 1 _ _ _ M05.out
        have z2 : w5.cell? ⟨w.heap.size, 2, none⟩ = some (.int .i64 0) := cell_of_row _ _ 2 _ _ _ M05.out
        have f0 := frozen_of_row _ _ 0 _ _ M05.out
        have f1 := frozen_of_row _ _ 1 _ _ M05.out
        have f2 := frozen_of_row _ _ 2 _ _ M05.out
        have y0 : w5.cell? ⟨w3.heap.size, 0, none⟩ = some (.int .i64 (1 + r2)) := cell_of_row _ _ 0 _ _ _ M45.out
        have y1 : w5.cell? ⟨w3.heap.size, 1, none⟩ = some (.int .i64 (1 + r2 + 1)) := cell_of_row _ _ 1 _ _ _ M45.out
        have y2 : w5.cell? ⟨w3.heap.size, 2, none⟩ = some (.int .i64 1) := cell_of_row _ _ 2 _ _ _ M45.out
        have x0 := frozen_of_row _ _ 0 _ _ M45.out
        have x1 := frozen_of_row _ _ 1 _ _ M45.out
        have x2 := frozen_of_row _ _ 2 _ _ M45.out
        go_wp2_with fail
        refine bodyPost_ret (v := .agg #[.int .i64 (1 + r2), .int .i64 (1 + r2 + 1), .int .i64 2]) (by simp [results, Try.results118, go_sem, *]) rfl ⟨⟨(1 + r2), (1 + r2 + 1), 2⟩, rfl, ⟨⟨_, by omega, ((((((((hr5).set (by simp; omega) _)).set (by simp; omega) _)).set (by simp; omega) _)).set (by simp; omega) _)⟩, (grown_new (grown_new (grown_new (grown_new G5.out (by simp; omega) _) (by simp) _) (by simp) _) (by simp) _)⟩⟩
    · skip
      have z0 : w5.cell? ⟨w.heap.size, 0, none⟩ = some (.int .i64 0) := cell_of_row _ _ 0 _ _ _ M05.out
      have z1 : w5.cell? ⟨w.heap.size, 1, none⟩ = some (.int .i64 0) := cell_of_row _ _ 1 _ _ _ M05.out
      have z2 : w5.cell? ⟨w.heap.size, 2, none⟩ = some (.int .i64 0) := cell_of_row _ _ 2 _ _ _ M05.out
      have f0 := frozen_of_row _ _ 0 _ _ M05.out
      have f1 := frozen_of_row _ _ 1 _ _ M05.out
      have f2 := frozen_of_row _ _ 2 _ _ M05.out
      have y0 : w5.cell? ⟨w3.heap.size, 0, none⟩ = some (.int .i64 (1 + r2)) := cell_of_row _ _ 0 _ _ _ M45.out
      have y1 : w5.cell? ⟨w3.heap.size, 1, none⟩ = some (.int .i64 (1 + r2 + 1)) := cell_of_row _ _ 1 _ _ _ M45.out
      have y2 : w5.cell? ⟨w3.heap.size, 2, none⟩ = some (.int .i64 1) := cell_of_row _ _ 2 _ _ _ M45.out
      have x0 := frozen_of_row _ _ 0 _ _ M45.out
      have x1 := frozen_of_row _ _ 1 _ _ M45.out
      have x2 := frozen_of_row _ _ 2 _ _ M45.out
      go_wp2_with fail
      refine bodyPost_ret (v := .agg #[.int .i64 (1 + r2 + 1), .int .i64 (1 + r2), .int .i64 1]) (by simp [results, Try.results118, go_sem, *]) rfl ⟨⟨(1 + r2 + 1), (1 + r2), 1⟩, rfl, ⟨⟨_, by omega, ((((((hr5).set (by simp; omega) _)).set (by simp; omega) _)).set (by simp; omega) _)⟩, (grown_new (grown_new (grown_new G5.out (by simp) _) (by simp) _) (by simp) _)⟩⟩
    · skip
      go_wp2_with fail
      refine (pick_any g c _ A z _ _ hr5 (by omega) (by omega)).mono ?_
      rintro e w6 ⟨r6, rfl, a6, b6, _, hr6, hg6⟩
      have b6 := b6 (by omega)
      have M06 := Lib.hid (row_keep hg6 M05.out hn0)
      have M46 := Lib.hid (row_keep hg6 M45.out hn4)
      have G6 := Lib.hid (G5.out.trans hg6)
      have hs6 : w3.heap.size < w6.heap.size := (Array.getElem?_eq_some_iff.1 M46.out).1
      clear hg6
      by_cases c6 : r6 = 0
      · have e6 : (r6 == 0) = true := by simp [c6]
        clear c6
        go_wp2_with fail
        refine (pick_any g c _ A z _ _ hr6 (by omega) (by omega)).mono ?_
        rintro e w7 ⟨r7, rfl, a7, b7, _, hr7, hg7⟩
        have b7 := b7 (by omega)
        have M07 := Lib.hid (row_keep hg7 M06.out hn0)
        have M47 := Lib.hid (row_keep hg7 M46.out hn4)
        have G7 := Lib.hid (G6.out.trans hg7)
        have hs7 : w3.heap.size < w7.heap.size := (Array.getElem?_eq_some_iff.1 M47.out).1
        clear hg7
        go_wp2_with fail
        refine (pick_any g c _ A z _ _ hr7 (by omega) (by omega)).mono ?_
        rintro e w8 ⟨r8, rfl, a8, b8, _, hr8, hg8⟩
        have b8 := b8 (by omega)
        have M08 := Lib.hid (row_keep hg8 M07.out hn0)
        have M48 := Lib.hid (row_keep hg8 M47.out hn4)
        have G8 := Lib.hid (G7.out.trans hg8)
        have hs8 : w3.heap.size < w8.heap.size := (Array.getElem?_eq_some_iff.1 M48.out).1
        clear hg8
        go_wp2_with fail
        refine (pick_any g c _ A z _ _ hr8 (by omega) (by omega)).mono ?_
        rintro e w9 ⟨r9, rfl, a9, b9, _, hr9, hg9⟩
        have b9 := b9 (by omega)
        have M09 := Lib.hid (row_keep hg9 M08.out hn0)
        have M49 := Lib.hid (row_keep hg9 M48.out hn4)
        have G9 := Lib.hid (G8.out.trans hg9)
        have hs9 : w3.heap.size < w9.heap.size := (Array.getElem?_eq_some_iff.1 M49.out).1
        clear hg9
        have z0 : w9.cell? ⟨w.heap.size, 0, none⟩ = some (.int .i64 0) := cell_of_row _ _ 0 _ _ _ M09.out
        have z1 : w9.cell? ⟨w.heap.size, 1, none⟩ = some (.int .i64 0) := cell_of_row _ _ 1 _ _ _ M09.out
        have z2 : w9.cell? ⟨w.heap.size, 2, none⟩ = some (.int .i64 0) := cell_of_row _ _ 2 _ _ _ M09.out
        have f0 := frozen_of_row _ _ 0 _ _ M09.out
        have f1 := frozen_of_row _ _ 1 _ _ M09.out
        have f2 := frozen_of_row _ _ 2 _ _ M09.out
        have y0 : w9.cell? ⟨w3.heap.size, 0, none⟩ = some (.int .i64 (1 + r2)) := cell_of_row _ _ 0 _ _ _ M49.out
        have y1 : w9.cell? ⟨w3.heap.size, 1, none⟩ = some (.int .i64 (1 + r2 + 1)) := cell_of_row _ _ 1 _ _ _ M49.out
        have y2 : w9.cell? ⟨w3.heap.size, 2, none⟩ = some (.int .i64 1) := cell_of_row _ _ 2 _ _ _ M49.out
        have x0 := frozen_of_row _ _ 0 _ _ M49.out
        have x1 := frozen_of_row _ _ 1 _ _ M49.out
        have x2 := frozen_of_row _ _ 2 _ _ M49.out
        go_wp2_with fail
        refine bodyPost_ret (v := .agg #[.int .i64 (r7 * 33), .int .i64 (r8 * 50), .int .i64 r9]) (by simp [results, Try.results118, go_sem, *]) rfl ⟨⟨(r7 * 33), (r8 * 50), r9⟩, rfl, ⟨⟨_, by omega, ((((((hr9).set (by simp; omega) _)).set (by simp; omega) _)).set (by simp; omega) _)⟩, (grown_new (grown_new (grown_new G9.out (by simp) _) (by simp) _) (by simp) _)⟩⟩
      · have e6 : (r6 == 0) = false := by simp [c6]
        clear c6
        have z0 : w6.cell? ⟨w.heap.size, 0, none⟩ = some (.int .i64 0) := cell_of_row _ _ 0 _ _ _ M06.out
        have z1 : w6.cell? ⟨w.heap.size, 1, none⟩ = some (.int .i64 0) := cell_of_row _ _ 1 _ _ _ M06.out
        have z2 : w6.cell? ⟨w.heap.size, 2, none⟩ = some (.int .i64 0) := cell_of_row _ _ 2 _ _ _ M06.out
        have f0 := frozen_of_row _ _ 0 _ _ M06.out
        have f1 := frozen_of_row _ _ 1 _ _ M06.out
        have f2 := frozen_of_row _ _ 2 _ _ M06.out
        have y0 : w6.cell? ⟨w3.heap.size, 0, none⟩ = some (.int .i64 (1 + r2)) := cell_of_row _ _ 0 _ _ _ M46.out
        have y1 : w6.cell? ⟨w3.heap.size, 1, none⟩ = some (.int .i64 (1 + r2 + 1)) := cell_of_row _ _ 1 _ _ _ M46.out
        have y2 : w6.cell? ⟨w3.heap.size, 2, none⟩ = some (.int .i64 1) := cell_of_row _ _ 2 _ _ _ M46.out
        have x0 := frozen_of_row _ _ 0 _ _ M46.out
        have x1 := frozen_of_row _ _ 1 _ _ M46.out
        have x2 := frozen_of_row _ _ 2 _ _ M46.out
        go_wp2_with fail
        refine bodyPost_ret (v := .agg #[.int .i64 (1 + r2), .int .i64 (1 + r2 + 1), .int .i64 1]) (by simp [results, Try.results118, go_sem, *]) rfl ⟨⟨(1 + r2), (1 + r2 + 1), 1⟩, rfl, ⟨⟨_, by omega, ((((((hr6).set (by simp; omega) _)).set (by simp; omega) _)).set (by simp; omega) _)⟩, (grown_new (grown_new (grown_new G6.out (by simp) _) (by simp) _) (by simp) _)⟩⟩
    · skip
      have q0 : (r5 == 0) = false := by simp; omega
      have q1 : (r5 == 1) = false := by simp; omega
      have q2 : (r5 == 2) = false := by simp; omega
      have q3 : (r5 == 3) = false := by simp; omega
      have q4 : (r5 == 4) = false := by simp; omega
      have z0 : w5.cell? ⟨w.heap.size, 0, none⟩ = some (.int .i64 0) := cell_of_row _ _ 0 _ _ _ M05.out
      have z1 : w5.cell? ⟨w.heap.size, 1, none⟩ = some (.int .i64 0) := cell_of_row _ _ 1 _ _ _ M05.out
      have z2 : w5.cell? ⟨w.heap.size, 2, none⟩ = some (.int .i64 0) := cell_of_row _ _ 2 _ _ _ M05.out
      have f0 := frozen_of_row _ _ 0 _ _ M05.out
      have f1 := frozen_of_row _ _ 1 _ _ M05.out
      have f2 := frozen_of_row _ _ 2 _ _ M05.out
      have y0 : w5.cell? ⟨w3.heap.size, 0, none⟩ = some (.int .i64 (1 + r2)) := cell_of_row _ _ 0 _ _ _ M45.out
      have y1 : w5.cell? ⟨w3.heap.size, 1, none⟩ = some (.int .i64 (1 + r2 + 1)) := cell_of_row _ _ 1 _ _ _ M45.out
      have y2 : w5.cell? ⟨w3.heap.size, 2, none⟩ = some (.int .i64 1) := cell_of_row _ _ 2 _ _ _ M45.out
      have x0 := frozen_of_row _ _ 0 _ _ M45.out
      have x1 := frozen_of_row _ _ 1 _ _ M45.out
      have x2 := frozen_of_row _ _ 2 _ _ M45.out
      go_wp2_with fail
      refine bodyPost_ret (v := .agg #[.int .i64 (1 + r2), .int .i64 (1 + r2 + 1), .int .i64 1]) (by simp [results, Try.results118, go_sem, *]) rfl ⟨⟨(1 + r2), (1 + r2 + 1), 1⟩, rfl, ⟨⟨_, by omega, ((((((hr5).set (by simp; omega) _)).set (by simp; omega) _)).set (by simp; omega) _)⟩, (grown_new (grown_new (grown_new G5.out (by simp) _) (by simp) _) (by simp) _)⟩⟩
  · have e0 : ((1 + r2) == (1 + r3)) = false := by rw [beq_eq_false_iff_ne]; omega
    have e1 : min (1 + r2) (1 + r3) = 1 + r3 := by omega
    have e2 : max (1 + r2) (1 + r3) = 1 + r2 := by omega
    go_wp2_with fail
    have m03 := row_keep hg3 (row_keep hg2 (heap_alloc_new w (.cells #[.int .i64 0, .int .i64 0, .int .i64 0] 111)) hn0) hn0
    refine (pick_any g c _ A z _ _ (hr3.step ((Below.refl _ _).alloc (Nat.le_refl _) _)) (by omega) (by omega)).mono ?_
    rintro e w5 ⟨r5, rfl, a5, b5, _, hr5, hg5⟩
    have b5 := b5 (by omega)
    have M05 := Lib.hid (row_keep hg5 (row_alloc m03) hn0)
    have M45 := Lib.hid (row_keep hg5 (heap_alloc_new _ _) hn4)
    have G5 := Lib.hid ((grown_alloc g3 _).trans hg5)
    have hs5 : w3.heap.size < w5.heap.size := (Array.getElem?_eq_some_iff.1 M45.out).1
    clear hg5 hg3 hg2 m03 g3 hr2 hr3
    have hc5 : (r5 = 0 ∨ r5 = 1 ∨ r5 = 2) ∨ r5 = 3 ∨ r5 = 4 ∨ 5 ≤ r5 := by omega
    rcases hc5 with hc5 | rfl | rfl | hc5
    · rcases hc5 with rfl | rfl | rfl
      · skip
        have z0 : w5.cell? ⟨w.heap.size, 0, none⟩ = some (.int .i64 0) := cell_of_row _ _ 0 _ _ _ M05.out
        have z1 : w5.cell? ⟨w.heap.size, 1, none⟩ = some (.int .i64 0) := cell_of_row _ _ 1 _ _ _ M05.out
        have z2 : w5.cell? ⟨w.heap.size, 2, none⟩ = some (.int .i64 0) := cell_of_row _ _ 2 _ _ _ M05.out
        have f0 := frozen_of_row _ _ 0 _ _ M05.out
        have f1 := frozen_of_row _ _ 1 _ _ M05.out
        have f2 := frozen_of_row _ _ 2 _ _ M05.out
        have y0 : w5.cell? ⟨w3.heap.size, 0, none⟩ = some (.int .i64 (1 + r3)) := cell_of_row _ _ 0 _ _ _ M45.out
        have y1 : w5.cell? ⟨w3.heap.size, 1, none⟩ = some (.int .i64 (1 + r2)) := cell_of_row _ _ 1 _ _ _ M45.out
        have y2 : w5.cell? ⟨w3.heap.size, 2, none⟩ = some (.int .i64 1) := cell_of_row _ _ 2 _ _ _ M45.out
        have x0 := frozen_of_row _ _ 0 _ _ M45.out
        have x1 := frozen_of_row _ _ 1 _ _ M45.out
        have x2 := frozen_of_row _ _ 2 _ _ M45.out
        go_wp2_with fail
        refine bodyPost_ret (v := .agg #[.int .i64 (1 + r3), .int .i64 (1 + r2), .int .i64 2]) (by simp [results, Try.results118, go_sem, *]) rfl ⟨⟨(1 + r3), (1 + r2), 2⟩, rfl, ⟨⟨_, by omega, ((((((((hr5).set (by simp; omega) _)).set (by simp; omega) _)).set (by simp; omega) _)).set (by simp; omega) _)⟩, (grown_new (grown_new (grown_new (grown_new G5.out (by simp; omega) _) (by simp) _) (by simp) _) (by simp) _)⟩⟩
      · skip
        have z0 : w5.cell? ⟨w.heap.size, 0, none⟩ = some (.int .i64 0) := cell_of_row _ _ 0 _ _ _ M05.out
        have z1 : w5.cell? ⟨w.heap.size, 1, none⟩ = some (.int .i64 0) := cell_of_row _ _ 1 _ _ _ M05.out
        have z2 : w5.cell? ⟨w.heap.size, 2, none⟩ = some (.int .i64 0) := cell_of_row _ _ 2 _ _ _ M05.out
        have f0 := frozen_of_row _ _ 0 _ _ M05.out
        have f1 := frozen_of_row _ _ 1 _ _ M05.out
        have f2 := frozen_of_row _ _ 2 _ _ M05.out
        have y0 : w5.cell? ⟨w3.heap.size, 0, none⟩ = some (.int .i64 (1 + r3)) := cell_of_row _ _ 0 _ _ _ M45.out
        have y1 : w5.cell? ⟨w3.heap.size, 1, none⟩ = some (.int .i64 (1 + r2)) := cell_of_row _ _ 1 _ _ _ M45.out
        have y2 : w5.cell? ⟨w3.heap.size, 2, none⟩ = some (.int .i64 1) := cell_of_row _ _ 2 _ _ _ M45.out
        have x0 := frozen_of_row _ _ 0 _ _ M45.out
        have x1 := frozen_of_row _ _ 1 _ _ M45.out
        have x2 := frozen_of_row _ _ 2 _ _ M45.out
        go_wp2_with fail
        refine bodyPost_ret (v := .agg #[.int .i64 (1 + r3), .int .i64 (1 + r2), .int .i64 2]) (by simp [results, Try.results118, go_sem, *]) rfl ⟨⟨(1 + r3), (1 + r2), 2⟩, rfl, ⟨⟨_, by omega, ((((((((hr5).set (by simp; omega) _)).set (by simp; omega) _)).set (by simp; omega) _)).set (by simp; omega) _)⟩, (grown_new (grown_new (grown_new (grown_new G5.out (by simp; omega) _) (by simp) _) (by simp) _) (by simp) _)⟩⟩
      · skip
        have z0 : w5.cell? ⟨w.heap.size, 0, none⟩ = some (.int .i64 0) := cell_of_row _ _ 0 _ _ _ M05.out
        have z1 : w5.cell? ⟨w.heap.size, 1, none⟩ = some (.int .i64 0) := cell_of_row _ _ 1 _ _ _ M05.out
        have z2 : w5.cell? ⟨w.heap.size, 2, none⟩ = some (.int .i64 0) := cell_of_row _ _ 2 _ _ _ M05.out
        have f0 := frozen_of_row _ _ 0 _ _ M05.out
        have f1 := frozen_of_row _ _ 1 _ _ M05.out
        have f2 := frozen_of_row _ _ 2 _ _ M05.out
        have y0 : w5.cell? ⟨w3.heap.size, 0, none⟩ = some (.int .i64 (1 + r3)) := cell_of_row _ _ 0 _ _ _ M45.out
        have y1 : w5.cell? ⟨w3.heap.size, 1, none⟩ = some (.int .i64 (1 + r2)) := cell_of_row _ _ 1 _ _ _ M45.out
        have y2 : w5.cell? ⟨w3.heap.size, 2, none⟩ = some (.int .i64 1) := cell_of_row _ _ 2 _ _ _ M45.out
        have x0 := frozen_of_row _ _ 0 _ _ M45.out
        have x1 := frozen_of_row _ _ 1 _ _ M45.out
        have x2 := frozen_of_row _ _ 2 _ _ M45.out
        go_wp2_with fail
        refine bodyPost_ret (v := .agg #[.int .i64 (1 + r3), .int .i64 (1 + r2), .int .i64 2]) (by simp [results, Try.results118, go_sem, *]) rfl ⟨⟨(1 + r3), (1 + r2), 2⟩, rfl, ⟨⟨_, by omega, ((((((((hr5).set (by simp; omega) _)).set (by simp; omega) _)).set (by simp; omega) _)).set (by simp; omega) _)⟩, (grown_new (grown_new (grown_new (grown_new G5.out (by simp; omega) _) (by simp) _) (by simp) _) (by simp) _)⟩⟩
    · skip
      have z0 : w5.cell? ⟨w.heap.size, 0, none⟩ = some (.int .i64 0) := cell_of_row _ _ 0 _ _ _ M05.out
      have z1 : w5.cell? ⟨w.heap.size, 1, none⟩ = some (.int .i64 0) := cell_of_row _ _ 1 _ _ _ M05.out
      have z2 : w5.cell? ⟨w.heap.size, 2, none⟩ = some (.int .i64 0) := cell_of_row _ _ 2 _ _ _ M05.out
      have f0 := frozen_of_row _ _ 0 _ _ M05.out
      have f1 := frozen_of_row _ _ 1 _ _ M05.out
      have f2 := frozen_of_row _ _ 2 _ _ M05.out
      have y0 : w5.cell? ⟨w3.heap.size, 0, none⟩ = some (.int .i64 (1 + r3)) := cell_of_row _ _ 0 _ _ _ M45.out
      have y1 : w5.cell? ⟨w3.heap.size, 1, none⟩ = some (.int .i64 (1 + r2)) := cell_of_row _ _ 1 _ _ _ M45.out
      have y2 : w5.cell? ⟨w3.heap.size, 2, none⟩ = some (.int .i64 1) := cell_of_row _ _ 2 _ _ _ M45.out
      have x0 := frozen_of_row _ _ 0 _ _ M45.out
      have x1 := frozen_of_row _ _ 1 _ _ M45.out
      have x2 := frozen_of_row _ _ 2 _ _ M45.out
      go_wp2_with fail
      refine bodyPost_ret (v := .agg #[.int .i64 (1 + r2), .int .i64 (1 + r3), .int .i64 1]) (by simp [results, Try.results118, go_sem, *]) rfl ⟨⟨(1 + r2), (1 + r3), 1⟩, rfl, ⟨⟨_, by omega, ((((((hr5).set (by simp; omega) _)).set (by simp; omega) _)).set (by simp; omega) _)⟩, (grown_new (grown_new (grown_new G5.out (by simp) _) (by simp) _) (by simp) _)⟩⟩
    · skip
      go_wp2_with fail
      refine (pick_any g c _ A z _ _ hr5 (by omega) (by omega)).mono ?_
      rintro e w6 ⟨r6, rfl, a6, b6, _, hr6, hg6⟩
      have b6 := b6 (by omega)
      have M06 := Lib.hid (row_keep hg6 M05.out hn0)
      have M46 := Lib.hid (row_keep hg6 M45.out hn4)
      have G6 := Lib.hid (G5.out.trans hg6)
      have hs6 : w3.heap.size < w6.heap.size := (Array.getElem?_eq_some_iff.1 M46.out).1
      clear hg6
      by_cases c6 : r6 = 0
      · have e6 : (r6 == 0) = true := by simp [c6]
        clear c6
        go_wp2_with fail
        refine (pick_any g c _ A z _ _ hr6 (by omega) (by omega)).mono ?_
        rintro e w7 ⟨r7, rfl, a7, b7, _, hr7, hg7⟩
        have b7 := b7 (by omega)
        have M07 := Lib.hid (row_keep hg7 M06.out hn0)
        have M47 := Lib.hid (row_keep hg7 M46.out hn4)
        have G7 := Lib.hid (G6.out.trans hg7)
        have hs7 : w3.heap.size < w7.heap.size := (Array.getElem?_eq_some_iff.1 M47.out).1
        clear hg7
        go_wp2_with fail
        refine (pick_any g c _ A z _ _ hr7 (by omega) (by omega)).mono ?_
        rintro e w8 ⟨r8, rfl, a8, b8, _, hr8, hg8⟩
        have b8 := b8 (by omega)
        have M08 := Lib.hid (row_keep hg8 M07.out hn0)
        have M48 := Lib.hid (row_keep hg8 M47.out hn4)
        have G8 := Lib.hid (G7.out.trans hg8)
        have hs8 : w3.heap.size < w8.heap.size := (Array.getElem?_eq_some_iff.1 M48.out).1
        clear hg8
        go_wp2_with fail
        refine (pick_any g c _ A z _ _ hr8 (by omega) (by omega)).mono ?_
        rintro e w9 ⟨r9, rfl, a9, b9, _, hr9, hg9⟩
        have b9 := b9 (by omega)
        have M09 := Lib.hid (row_keep hg9 M08.out hn0)
        have M49 := Lib.hid (row_keep hg9 M48.out hn4)
        have G9 := Lib.hid (G8.out.trans hg9)
        have hs9 : w3.heap.size < w9.heap.size := (Array.getElem?_eq_some_iff.1 M49.out).1
        clear hg9
        have z0 : w9.cell? ⟨w.heap.size, 0, none⟩ = some (.int .i64 0) := cell_of_row _ _ 0 _ _ _ M09.out
        have z1 : w9.cell? ⟨w.heap.size, 1, none⟩ = some (.int .i64 0) := cell_of_row _ _ 1 _ _ _ M09.out
        have z2 : w9.cell? ⟨w.heap.size, 2, none⟩ = some (.int .i64 0) := cell_of_row _ _ 2 _ _ _ M09.out
        have f0 := frozen_of_row _ _ 0 _ _ M09.out
        have f1 := frozen_of_row _ _ 1 _ _ M09.out
        have f2 := frozen_of_row _ _ 2 _ _ M09.out
        have y0 : w9.cell? ⟨w3.heap.size, 0, none⟩ = some (.int .i64 (1 + r3)) := cell_of_row _ _ 0 _ _ _ M49.out
        have y1 : w9.cell? ⟨w3.heap.size, 1, none⟩ = some (.int .i64 (1 + r2)) := cell_of_row _ _ 1 _ _ _ M49.out
        have y2 : w9.cell? ⟨w3.heap.size, 2, none⟩ = some (.int .i64 1) := cell_of_row _ _ 2 _ _ _ M49.out
        have x0 := frozen_of_row _ _ 0 _ _ M49.out
        have x1 := frozen_of_row _ _ 1 _ _ M49.out
        have x2 := frozen_of_row _ _ 2 _ _ M49.out
        go_wp2_with fail
        refine bodyPost_ret (v := .agg #[.int .i64 (r7 * 33), .int .i64 (r8 * 50), .int .i64 r9]) (by simp [results, Try.results118, go_sem, *]) rfl ⟨⟨(r7 * 33), (r8 * 50), r9⟩, rfl, ⟨⟨_, by omega, ((((((hr9).set (by simp; omega) _)).set (by simp; omega) _)).set (by simp; omega) _)⟩, (grown_new (grown_new (grown_new G9.out (by simp) _) (by simp) _) (by simp) _)⟩⟩
      · have e6 : (r6 == 0) = false := by simp [c6]
        clear c6
        have z0 : w6.cell? ⟨w.heap.size, 0, none⟩ = some (.int .i64 0) := cell_of_row _ _ 0 _ _ _ M06.out
        have z1 : w6.cell? ⟨w.heap.size, 1, none⟩ = some (.int .i64 0) := cell_of_row _ _ 1 _ _ _ M06.out
        have z2 : w6.cell? ⟨w.heap.size, 2, none⟩ = some (.int .i64 0) := cell_of_row _ _ 2 _ _ _ M06.out
        have f0 := frozen_of_row _ _ 0 _ _ M06.out
        have f1 := frozen_of_row _ _ 1 _ _ M06.out
        have f2 := frozen_of_row _ _ 2 _ _ M06.out
        have y0 : w6.cell? ⟨w3.heap.size, 0, none⟩ = some (.int .i64 (1 + r3)) := cell_of_row _ _ 0 _ _ _ M46.out
        have y1 : w6.cell? ⟨w3.heap.size, 1, none⟩ = some (.int .i64 (1 + r2)) := cell_of_row _ _ 1 _ _ _ M46.out
        have y2 : w6.cell? ⟨w3.heap.size, 2, none⟩ = some (.int .i64 1) := cell_of_row _ _ 2 _ _ _ M46.out
        have x0 := frozen_of_row _ _ 0 _ _ M46.out
        have x1 := frozen_of_row _ _ 1 _ _ M46.out
        have x2 := frozen_of_row _ _ 2 _ _ M46.out
        go_wp2_with fail
        refine bodyPost_ret (v := .agg #[.int .i64 (1 + r3), .int .i64 (1 + r2), .int .i64 1]) (by simp [results, Try.results118, go_sem, *]) rfl ⟨⟨(1 + r3), (1 + r2), 1⟩, rfl, ⟨⟨_, by omega, ((((((hr6).set (by simp; omega) _)).set (by simp; omega) _)).set (by simp; omega) _)⟩, (grown_new (grown_new (grown_new G6.out (by simp) _) (by simp) _) (by simp) _)⟩⟩
    · skip
      have q0 : (r5 == 0) = false := by simp; omega
      have q1 : (r5 == 1) = false := by simp; omega
      have q2 : (r5 == 2) = false := by simp; omega
      have q3 : (r5 == 3) = false := by simp; omega
      have q4 : (r5 == 4) = false := by simp; omega
      have z0 : w5.cell? ⟨w.heap.size, 0, none⟩ = some (.int .i64 0) := cell_of_row _ _ 0 _ _ _ M05.out
      have z1 : w5.cell? ⟨w.heap.size, 1, none⟩ = some (.int .i64 0) := cell_of_row _ _ 1 _ _ _ M05.out
      have z2 : w5.cell? ⟨w.heap.size, 2, none⟩ = some (.int .i64 0) := cell_of_row _ _ 2 _ _ _ M05.out
      have f0 := frozen_of_row _ _ 0 _ _ M05.out
      have f1 := frozen_of_row _ _ 1 _ _ M05.out
      have f2 := frozen_of_row _ _ 2 _ _ M05.out
      have y0 : w5.cell? ⟨w3.heap.size, 0, none⟩ = some (.int .i64 (1 + r3)) := cell_of_row _ _ 0 _ _ _ M45.out
      have y1 : w5.cell? ⟨w3.heap.size, 1, none⟩ = some (.int .i64 (1 + r2)) := cell_of_row _ _ 1 _ _ _ M45.out
      have y2 : w5.cell? ⟨w3.heap.size, 2, none⟩ = some (.int .i64 1) := cell_of_row _ _ 2 _ _ _ M45.out
      have x0 := frozen_of_row _ _ 0 _ _ M45.out
      have x1 := frozen_of_row _ _ 1 _ _ M45.out
      have x2 := frozen_of_row _ _ 2 _ _ M45.out
      go_wp2_with fail
      refine bodyPost_ret (v := .agg #[.int .i64 (1 + r3), .int .i64 (1 + r2), .int .i64 1]) (by simp [results, Try.results118, go_sem, *]) rfl ⟨⟨(1 + r3), (1 + r2), 1⟩, rfl, ⟨⟨_, by omega, ((((((hr5).set (by simp; omega) _)).set (by simp; omega) _)).set (by simp; omega) _)⟩, (grown_new (grown_new (grown_new G5.out (by simp) _) (by simp) _) (by simp) _)⟩⟩
end Go.Proofs.Ytnkdpogplkomhaa

/- The laws draw a list of relations. -/
namespace Go.Proofs.Ytnkdpogplkomhaa
open Go.RowKit

def DrawRsPost (w : World) (g c p : Nat) (A : Option Addr) (z : List Int) (e : Ending) (w2 : World) : Prop :=
  ∃ (v : Value) (l : List Ctx), e = .returned v ∧ w2.ownsRow w.heap.size 111 3 v l.length (cellsC l) ∧ l.length ≤ 31 ∧ Drawn w g A z c p 690 w2

set_option maxHeartbeats 9000000 in
set_option maxRecDepth 100000 in
theorem drawRs_any (g c p : Nat) (A : Option Addr) (z : List Int) (n : Int) (w : World) (h : Rd w g A z c p) (hp : p ≤ 800000) (hn1 : 1 ≤ n) (hn2 : n ≤ 50) :
    Calls Try.prog 113 #[.pointer (some ⟨g, 0, none⟩), .int .i64 n] w (DrawRsPost w g c p A z) := by
  obtain ⟨i0, hi0, hz0, hz1, hz2⟩ := info_parts infoRel
  have hlt := h.lt
  have h1 := h.step ((Below.refl _ _).alloc (Nat.le_refl _) (.cells #[] 111))
  have ho1 : (w.alloc (.cells #[] 111)).ownsRow w.heap.size 111 3 (.slice (some ⟨w.heap.size, 0, none⟩) 0 0) 0 [] := own_empty (Nat.le_refl _) rfl
  have hg1 := World.grownBy_alloc w (.cells #[] 111) (some g)
  go_enter Try.func113, Try.ntmps113
  go_wp2_with fail
  refine (pick_any g c p A z _ _ h1 (by omega) (by omega)).mono ?_
  rintro e w2 ⟨r2, rfl, a2, b2, _, hr2, hg2⟩
  have b2 := b2 (by omega)
  have ho2 := own_drawn (w0 := w) ho1 hg2 hlt
  have hg12 := hg1.trans hg2
  go_wp2_with fail
  refine (pick_any g c _ A z _ _ hr2 (by omega) (by omega)).mono ?_
  rintro e w3 ⟨r3, rfl, a3, b3, _, hr3, hg3⟩
  have ho3 := own_drawn (w0 := w) ho2 hg3 hlt
  have hg13 := hg12.trans hg3
  have K3 := Lib.hid (And.intro ho3 (And.intro hr3 hg13))
  clear h1 ho1 hg1 hr2 hg2 ho2 hg12 hr3 hg3 ho3 hg13 b3
  by_cases c3 : r3 = 0
  · have e3 : (r3 == 0) = true := by simp [c3]
    clear c3
    go_wp2_with fail
    go_loopw [5, 7] (fun v i wr => ∃ (k : Nat) (l : List Ctx) (p2 : Nat), (k : Int) ≤ 90 ∧ i = .int .i64 k ∧ l.length ≤ 30 ∧ wr.ownsRow w.heap.size 111 3 v l.length (cellsC l) ∧ p2 ≤ p + 2 + 7 * k ∧ Rd wr g A z c p2 ∧ w.grownBy wr (some g)) (fun _ i _ => (90 - intOf i).toNat)
    case atStart => exact ⟨0, [], p + 1 + 1, by omega, rfl, by simp, K3.out.1, by omega, K3.out.2.1, K3.out.2.2⟩
    case round =>
      obtain ⟨k, l, p2, hk, rfl, hl, hown, hp2, hrd, hgr⟩ := hrel
      clear K3
      obtain ⟨Al, cl, hv, hcap, hrl⟩ := own_slice hown
      subst hv
      by_cases hkN : (k : Int) < 90
      · have G := Lib.hid hgr
        have hgs := hgr.size
        clear hgr
        go_wp2_with fail
        refine (drawR_any g c p2 A z n _ hrd (by omega) hn1 hn2).mono ?_
        rintro e w4 ⟨x, rfl, ⟨p4, hp4, hr4⟩, hg4⟩
        have ho4 := own_drawn (w0 := w) hown hg4 hlt
        have g4 := (G.out).trans hg4
        go_wp2_with fail
        refine (sAddR_any _ _ l x _ (own_reads ho4) (by omega) hcap).mono ?_
        rintro e w5 ⟨v5, rfl, hb5, ho5⟩
        have hr5 := hr4.step hb5
        have G5 : Hid (w.grownBy w5 (some g)) := by exact g4.trans (grown_of_below hb5 _)
        have H5 := Lib.hid (And.intro ho4 (And.intro hb5 ho5))
        have G4 := Lib.hid g4
        clear g4 hg4 ho4 ho5 hb5 hown hrl
        cases hok : addOkR l x
        · go_wp2_with fail
          go_roundw
          case rel => exact ⟨k + 1, l, p4, by omega, by go_num, hl, own_below H5.out.1 H5.out.2.1, by omega, hr5, G5.out⟩
          case measure => simp [intOf]; omega
        · have hlen := (addR_len hok).2
          go_wp2_with fail
          go_roundw
          case rel => exact ⟨k + 1, addR l x, p4, by omega, by go_num, hlen, own_less H5.out.2.2 (by have := G4.out.size; omega), by omega, hr5, G5.out⟩
          case measure => simp [intOf]; omega
      · have G := Lib.hid hgr
        have hgs := hgr.size
        clear hgr
        by_cases h0 : l.length = 0
        · have e0 : decide ((0 : Int) < (l.length : Int)) = false := decide_eq_false (by omega)
          have e00 : decide (0 < l.length) = false := decide_eq_false (by omega)
          clear h0
          go_wp2_with fail
          go_ret
          exact ⟨_, l, rfl, hown, by omega, ⟨⟨p2, by omega, hrd⟩, G.out⟩⟩
        · have e0 : decide ((0 : Int) < (l.length : Int)) = true := decide_eq_true (by omega)
          have e00 : decide (0 < l.length) = true := decide_eq_true (by omega)
          have hpos : 0 < l.length := by omega
          clear h0
          go_wp2_with fail
          refine (pick_any g c _ A z _ _ hrd (by omega) (by omega)).mono ?_
          rintro e w6 ⟨r6, rfl, a6, b6, _, hr6, hg6⟩
          have ho6 := own_drawn (w0 := w) hown hg6 hlt
          have G6 : Hid (w.grownBy w6 (some g)) := by exact (G.out).trans hg6
          have O6 := Lib.hid ho6
          clear hown hrl hg6 ho6
          by_cases c6 : r6 = 0
          · have e6 : (r6 == 0) = true := by simp [c6]
            clear c6
            go_wp2_with fail
            refine (pick_any g c _ A z _ _ hr6 (by omega) (by omega)).mono ?_
            rintro e w7 ⟨r7, rfl, a7, b7, _, hr7, hg7⟩
            have b7 := b7 (by omega)
            have ho7 := own_drawn (w0 := w) O6.out hg7 hlt
            have G7 : Hid (w.grownBy w7 (some g)) := by exact (G6.out).trans hg7
            have hs7 := G7.out.size
            obtain ⟨m, rfl⟩ := Int.eq_ofNat_of_zero_le a7
            have hm : m < l.length := by omega
            obtain ⟨bb, off, hA, hbb, hc⟩ := (own_reads ho7).ctx hpos
            subst hA
            obtain ⟨c1, c2, c3⟩ := hc m _ (List.getElem?_eq_getElem hm)
            have R7 := Lib.hid hr7
            clear hc hg7 hr7 hr6 hrd
            go_wp2_with (at_builtin
                         go_must (refine wpList_append_reads _ rfl (.tmp 39) (.tmp 47) _ rfl w.heap.size 111 i0 _ 3 24 Try.underlying24 hi0 hz0 hz1 hz2 rfl (by omega) (.slice (some ⟨bb, off, none⟩) l.length cl) l.length _ rfl (ho7.alloc _) (w7.heap.size + 1) _ 1 1 (cellsC [l[m]]) rfl (reads_one (by omega)) (cellsC_one _) (by simp only [maxLen]; omega) (by omega) (by simp; omega) ?_)
                         intro v8 w8 hown8 hg8 hat8)
            go_ret
            refine ⟨v8, l ++ [l[m]], rfl, ?_, by simp; omega, ⟨⟨_, by omega, (R7.out.step ((Below.refl _ _).alloc (Nat.le_refl _) _)).grownRow (ho7.alloc _) hlt hg8⟩, grown_row (grown_alloc G7.out _) (ho7.alloc _) (Nat.le_refl _) hg8⟩⟩
            rw [List.length_append, cellsC_append]
            exact hown8
          · have e6 : (r6 == 0) = false := by simp [c6]
            clear c6
            go_wp2_with fail
            go_ret
            exact ⟨_, l, rfl, O6.out, by omega, ⟨⟨_, by omega, hr6⟩, G6.out⟩⟩
  · have e3 : (r3 == 0) = false := by simp [c3]
    clear c3
    go_wp2_with fail
    go_loopw [5, 7] (fun v i wr => ∃ (k : Nat) (l : List Ctx) (p2 : Nat), (k : Int) ≤ r2 ∧ i = .int .i64 k ∧ l.length ≤ 30 ∧ wr.ownsRow w.heap.size 111 3 v l.length (cellsC l) ∧ p2 ≤ p + 2 + 7 * k ∧ Rd wr g A z c p2 ∧ w.grownBy wr (some g)) (fun _ i _ => (r2 - intOf i).toNat)
    case atStart => exact ⟨0, [], p + 1 + 1, by omega, rfl, by simp, K3.out.1, by omega, K3.out.2.1, K3.out.2.2⟩
    case round =>
      obtain ⟨k, l, p2, hk, rfl, hl, hown, hp2, hrd, hgr⟩ := hrel
      clear K3
      obtain ⟨Al, cl, hv, hcap, hrl⟩ := own_slice hown
      subst hv
      by_cases hkN : (k : Int) < r2
      · have G := Lib.hid hgr
        have hgs := hgr.size
        clear hgr
        go_wp2_with fail
        refine (drawR_any g c p2 A z n _ hrd (by omega) hn1 hn2).mono ?_
        rintro e w4 ⟨x, rfl, ⟨p4, hp4, hr4⟩, hg4⟩
        have ho4 := own_drawn (w0 := w) hown hg4 hlt
        have g4 := (G.out).trans hg4
        go_wp2_with fail
        refine (sAddR_any _ _ l x _ (own_reads ho4) (by omega) hcap).mono ?_
        rintro e w5 ⟨v5, rfl, hb5, ho5⟩
        have hr5 := hr4.step hb5
        have G5 : Hid (w.grownBy w5 (some g)) := by exact g4.trans (grown_of_below hb5 _)
        have H5 := Lib.hid (And.intro ho4 (And.intro hb5 ho5))
        have G4 := Lib.hid g4
        clear g4 hg4 ho4 ho5 hb5 hown hrl
        cases hok : addOkR l x
        · go_wp2_with fail
          go_roundw
          case rel => exact ⟨k + 1, l, p4, by omega, by go_num, hl, own_below H5.out.1 H5.out.2.1, by omega, hr5, G5.out⟩
          case measure => simp [intOf]; omega
        · have hlen := (addR_len hok).2
          go_wp2_with fail
          go_roundw
          case rel => exact ⟨k + 1, addR l x, p4, by omega, by go_num, hlen, own_less H5.out.2.2 (by have := G4.out.size; omega), by omega, hr5, G5.out⟩
          case measure => simp [intOf]; omega
      · have G := Lib.hid hgr
        have hgs := hgr.size
        clear hgr
        by_cases h0 : l.length = 0
        · have e0 : decide ((0 : Int) < (l.length : Int)) = false := decide_eq_false (by omega)
          have e00 : decide (0 < l.length) = false := decide_eq_false (by omega)
          clear h0
          go_wp2_with fail
          go_ret
          exact ⟨_, l, rfl, hown, by omega, ⟨⟨p2, by omega, hrd⟩, G.out⟩⟩
        · have e0 : decide ((0 : Int) < (l.length : Int)) = true := decide_eq_true (by omega)
          have e00 : decide (0 < l.length) = true := decide_eq_true (by omega)
          have hpos : 0 < l.length := by omega
          clear h0
          go_wp2_with fail
          refine (pick_any g c _ A z _ _ hrd (by omega) (by omega)).mono ?_
          rintro e w6 ⟨r6, rfl, a6, b6, _, hr6, hg6⟩
          have ho6 := own_drawn (w0 := w) hown hg6 hlt
          have G6 : Hid (w.grownBy w6 (some g)) := by exact (G.out).trans hg6
          have O6 := Lib.hid ho6
          clear hown hrl hg6 ho6
          by_cases c6 : r6 = 0
          · have e6 : (r6 == 0) = true := by simp [c6]
            clear c6
            go_wp2_with fail
            refine (pick_any g c _ A z _ _ hr6 (by omega) (by omega)).mono ?_
            rintro e w7 ⟨r7, rfl, a7, b7, _, hr7, hg7⟩
            have b7 := b7 (by omega)
            have ho7 := own_drawn (w0 := w) O6.out hg7 hlt
            have G7 : Hid (w.grownBy w7 (some g)) := by exact (G6.out).trans hg7
            have hs7 := G7.out.size
            obtain ⟨m, rfl⟩ := Int.eq_ofNat_of_zero_le a7
            have hm : m < l.length := by omega
            obtain ⟨bb, off, hA, hbb, hc⟩ := (own_reads ho7).ctx hpos
            subst hA
            obtain ⟨c1, c2, c3⟩ := hc m _ (List.getElem?_eq_getElem hm)
            have R7 := Lib.hid hr7
            clear hc hg7 hr7 hr6 hrd
            go_wp2_with (at_builtin
                         go_must (refine wpList_append_reads _ rfl (.tmp 39) (.tmp 47) _ rfl w.heap.size 111 i0 _ 3 24 Try.underlying24 hi0 hz0 hz1 hz2 rfl (by omega) (.slice (some ⟨bb, off, none⟩) l.length cl) l.length _ rfl (ho7.alloc _) (w7.heap.size + 1) _ 1 1 (cellsC [l[m]]) rfl (reads_one (by omega)) (cellsC_one _) (by simp only [maxLen]; omega) (by omega) (by simp; omega) ?_)
                         intro v8 w8 hown8 hg8 hat8)
            go_ret
            refine ⟨v8, l ++ [l[m]], rfl, ?_, by simp; omega, ⟨⟨_, by omega, (R7.out.step ((Below.refl _ _).alloc (Nat.le_refl _) _)).grownRow (ho7.alloc _) hlt hg8⟩, grown_row (grown_alloc G7.out _) (ho7.alloc _) (Nat.le_refl _) hg8⟩⟩
            rw [List.length_append, cellsC_append]
            exact hown8
          · have e6 : (r6 == 0) = false := by simp [c6]
            clear c6
            go_wp2_with fail
            go_ret
            exact ⟨_, l, rfl, O6.out, by omega, ⟨⟨_, by omega, hr6⟩, G6.out⟩⟩
end Go.Proofs.Ytnkdpogplkomhaa

/- The laws draw numbers of contexts. -/
namespace Go.Proofs.Ytnkdpogplkomhaa
open Go.RowKit

theorem cellsI_app (l m : List Int) : cellsI (l ++ m) = cellsI l ++ cellsI m := by simp [cellsI]
def DrawIsPost (w : World) (g c p : Nat) (A : Option Addr) (z : List Int) (e : Ending) (w2 : World) : Prop :=
  ∃ (v : Value) (l : List Int), e = .returned v ∧ w2.ownsRow w.heap.size 3 1 v l.length (cellsI l) ∧ l.length ≤ 13 ∧ Drawn w g A z c p 15 w2

set_option maxHeartbeats 4000000 in
set_option maxRecDepth 100000 in
theorem drawIs_any (g c p : Nat) (A : Option Addr) (z : List Int) (w : World) (h : Rd w g A z c p) (hp : p ≤ 800000) :
    Calls Try.prog 112 #[.pointer (some ⟨g, 0, none⟩)] w (DrawIsPost w g c p A z) := by
  obtain ⟨i0, hi0, hz0, hz1, hz2⟩ := info_parts infoInt
  have hlt := h.lt
  have h1 := h.step ((Below.refl _ _).alloc (Nat.le_refl _) (.cells #[] 3))
  have ho1 : (w.alloc (.cells #[] 3)).ownsRow w.heap.size 3 1 (.slice (some ⟨w.heap.size, 0, none⟩) 0 0) 0 [] := own_empty (Nat.le_refl _) rfl
  have hg1 := World.grownBy_alloc w (.cells #[] 3) (some g)
  go_enter Try.func112, Try.ntmps112
  go_wp2_with fail
  refine (pick_any g c p A z _ _ h1 (by omega) (by omega)).mono ?_
  rintro e w2 ⟨r2, rfl, a2, b2, _, hr2, hg2⟩
  have b2 := b2 (by omega)
  have ho2 := own_drawn (w0 := w) ho1 hg2 hlt
  have hg12 := hg1.trans hg2
  have K2 := Lib.hid (And.intro ho2 (And.intro hr2 hg12))
  clear h1 ho1 hg1 hr2 hg2 ho2 hg12 h
  go_wp2_with fail
  go_loopw [3, 5] (fun v i wr => ∃ (k : Nat) (l : List Int) (p2 : Nat), (k : Int) ≤ 4 + r2 ∧ i = .int .i64 (1 + (k : Int)) ∧ l.length ≤ k ∧ wr.ownsRow w.heap.size 3 1 v l.length (cellsI l) ∧ p2 ≤ p + 1 + k ∧ Rd wr g A z c p2 ∧ w.grownBy wr (some g)) (fun _ i _ => (20 - intOf i).toNat)
  case atStart => exact ⟨0, [], p + 1, by omega, by simp, by simp, K2.out.1, by omega, K2.out.2.1, K2.out.2.2⟩
  case round =>
    obtain ⟨k, l, p2, hk, rfl, hl, hown, hp2, hrd, hgr⟩ := hrel
    clear K2
    have G := Lib.hid hgr
    have hgs := hgr.size
    clear hgr
    by_cases hkN : (k : Int) < 4 + r2
    · have e1 : decide ((1 : Int) + (k : Int) ≤ 4 + r2) = true := by simp; omega
      have O := Lib.hid hown
      clear hown
      go_wp2_with fail
      refine (pick_any g c p2 A z _ _ hrd (by omega) (by omega)).mono ?_
      rintro e w4 ⟨r4, rfl, a4, b4, _, hr4, hg4⟩
      have ho4 := own_drawn (w0 := w) O.out hg4 hlt
      have G4 := Lib.hid ((G.out).trans hg4)
      have hs4 := G4.out.size
      clear hg4 hrd
      by_cases c4 : r4 = 0
      · have e4 : decide (0 < r4) = false := by simp; omega
        clear c4
        go_wp2_with fail
        go_roundw
        case rel => exact ⟨k + 1, l, p2 + 1, by omega, by go_num, by omega, ho4, by omega, hr4, G4.out⟩
        case measure => simp [intOf]; omega
      · have e4 : decide (0 < r4) = true := by simp; omega
        clear c4
        have R4 := Lib.hid hr4
        clear hr4
        go_wp2_with (at_builtin
                     go_must (refine wpList_append_reads _ rfl (.tmp 18) (.tmp 20) _ rfl w.heap.size 3 i0 _ 1 8 Try.underlying23 hi0 hz0 hz1 hz2 rfl (by omega) u3 l.length _ rfl (ho4.alloc _) (w4.heap.size + 1) _ 1 1 (cellsI [1 + (k : Int)]) rfl (reads_int (by omega)) (cellsI_one _) (by simp only [maxLen]; omega) (by omega) (by simp; omega) ?_)
                     intro v8 w8 hown8 hg8 hat8)
        go_roundw
        case rel =>
          refine ⟨k + 1, l ++ [1 + (k : Int)], p2 + 1, by omega, by go_num, by simp; omega, ?_, by omega, (R4.out.step ((Below.refl _ _).alloc (Nat.le_refl _) _)).grownRow (ho4.alloc _) hlt hg8, grown_row (grown_alloc G4.out _) (ho4.alloc _) (Nat.le_refl _) hg8⟩
          rw [List.length_append, cellsI_app]
          exact hown8
        case measure => simp [intOf]; omega
    · have e1 : decide ((1 : Int) + (k : Int) ≤ 4 + r2) = false := by simp; omega
      have O := Lib.hid hown
      clear hown
      go_wp2_with fail
      refine (pick_any g c p2 A z _ _ hrd (by omega) (by omega)).mono ?_
      rintro e w4 ⟨r4, rfl, a4, b4, _, hr4, hg4⟩
      have ho4 := own_drawn (w0 := w) O.out hg4 hlt
      have G4 := Lib.hid ((G.out).trans hg4)
      have hs4 := G4.out.size
      clear hg4 hrd
      by_cases c0 : r4 = 0
      · have R4 := Lib.hid hr4
        subst c0
        clear hr4
        go_wp2_with (at_builtin
                     go_must (refine wpList_append_reads _ rfl (.tmp 26) (.tmp 27) _ rfl w.heap.size 3 i0 _ 1 8 Try.underlying23 hi0 hz0 hz1 hz2 rfl (by omega) u3 l.length _ rfl (ho4.alloc _) (w4.heap.size + 1) _ 1 1 (cellsI [3]) rfl (reads_int (by omega)) (cellsI_one _) (by simp only [maxLen]; omega) (by omega) (by simp; omega) ?_)
                     intro v8 w8 hown8 hg8 hat8)
        go_ret
        refine ⟨v8, l ++ [3], rfl, ?_, by simp; omega, ⟨⟨_, by omega, (R4.out.step ((Below.refl _ _).alloc (Nat.le_refl _) _)).grownRow (ho4.alloc _) hlt hg8⟩, grown_row (grown_alloc G4.out _) (ho4.alloc _) (Nat.le_refl _) hg8⟩⟩
        rw [List.length_append, cellsI_app]
        exact hown8
      · by_cases c1 : r4 = 1
        · subst c1
          have hr5 := hr4.step ((Below.refl _ _).alloc (Nat.le_refl _) (.cells #[.int .i64 0, .int .i64 99, .int .i64 100] 3))
          have ho5 := ho4.alloc (.cells #[.int .i64 0, .int .i64 99, .int .i64 100] 3)
          have hrow : (w4.alloc (.cells #[.int .i64 0, .int .i64 99, .int .i64 100] 3)).heap[w4.heap.size]? = some (.cells #[.int .i64 0, .int .i64 99, .int .i64 100] 3 (0, 0)) := heap_alloc_new _ _
          have G5 := Lib.hid (grown_alloc G4.out (.cells #[.int .i64 0, .int .i64 99, .int .i64 100] 3))
          have hgl : g < w4.heap.size := hr4.lt
          clear c0 hr4
          go_wp2_with fail
          refine (pick_any g c _ A z _ _ hr5 (by omega) (by omega)).mono ?_
          rintro e w6 ⟨r6, rfl, a6, b6, _, hr6, hg6⟩
          have b6 := b6 (by omega)
          have hrow6 := row_keep hg6 hrow (by omega)
          have ho6 := own_drawn (w0 := w) ho5 hg6 hlt
          have G6 := Lib.hid (G5.out.trans hg6)
          have hs6 := G6.out.size
          have d0 := cell_of_row _ _ 0 _ _ _ hrow6
          have d1 := cell_of_row _ _ 1 _ _ _ hrow6
          have d2 := cell_of_row _ _ 2 _ _ _ hrow6
          have R6 := Lib.hid hr6
          obtain ⟨m, rfl⟩ := Int.eq_ofNat_of_zero_le a6
          obtain ⟨x, hx⟩ : ∃ x, w6.cell? ⟨w4.heap.size, m, none⟩ = some (.int .i64 x) := by
            have : m = 0 ∨ m = 1 ∨ m = 2 := by omega
            rcases this with rfl | rfl | rfl
            · exact ⟨_, d0⟩
            · exact ⟨_, d1⟩
            · exact ⟨_, d2⟩
          clear hr6 hg6 hrow hrow6 d0 d1 d2 hr5 ho5
          have hm3 : (m : Int) < 3 := by omega
          go_wp2_with (at_builtin
                       go_must (refine wpList_append_reads _ rfl (.tmp 31) (.tmp 37) _ rfl w.heap.size 3 i0 _ 1 8 Try.underlying23 hi0 hz0 hz1 hz2 rfl (by omega) u3 l.length _ rfl (ho6.alloc _) (w6.heap.size + 1) _ 1 1 (cellsI [x]) rfl (reads_int (by omega)) (cellsI_one _) (by simp only [maxLen]; omega) (by omega) (by simp; omega) ?_)
                       intro v8 w8 hown8 hg8 hat8)
          go_ret
          refine ⟨v8, l ++ [x], rfl, ?_, by simp; omega, ⟨⟨_, by omega, (R6.out.step ((Below.refl _ _).alloc (Nat.le_refl _) _)).grownRow (ho6.alloc _) hlt hg8⟩, grown_row (grown_alloc G6.out _) (ho6.alloc _) (Nat.le_refl _) hg8⟩⟩
          rw [List.length_append, cellsI_app]
          exact hown8
        · by_cases c2 : r4 = 2
          · subst c2
            clear c0 c1
            have hr5 := hr4.step ((Below.refl _ _).alloc (Nat.le_refl _) (.cells #[] 3))
            have hs0 := hs4
            go_wp2_with fail
            go_ret
            exact ⟨_, [], rfl, own_empty hs0 rfl, by simp, ⟨⟨_, by omega, hr5⟩, grown_alloc G4.out _⟩⟩
          · have e0 : (r4 == 0) = false := by simp [c0]
            have e1 : (r4 == 1) = false := by simp [c1]
            have e2 : (r4 == 2) = false := by simp [c2]
            clear c0 c1 c2
            go_wp2_with fail
            go_ret
            exact ⟨_, l, rfl, ho4, by omega, ⟨⟨_, by omega, hr4⟩, G4.out⟩⟩
end Go.Proofs.Ytnkdpogplkomhaa

/- The laws draw numbers of contexts and relations of these, mostly. -/
namespace Go.Proofs.Ytnkdpogplkomhaa
open Go.RowKit

def DrawBothPost (w : World) (g c p : Nat) (A : Option Addr) (z : List Int) (e : Ending) (w2 : World) : Prop :=
  ∃ (v1 v2 : Value) (ids : List Int) (l : List Ctx), e = .returned (.tuple #[v1, v2]) ∧ w2.ownsRow w.heap.size 3 1 v1 ids.length (cellsI ids) ∧ w2.ownsRow w.heap.size 111 3 v2 l.length (cellsC l) ∧ ids.length ≤ 13 ∧ l.length ≤ 31 ∧ Drawn w g A z c p 740 w2
theorem Reads.ctx_at {w : World} {B n b off k : Nat} {l : List Ctx} {c : Ctx} (h : Reads w B 3 (some ⟨b, off, none⟩) n (cellsC l)) (hn : 0 < n) (hk : l[k]? = some c) :
    w.cell? ⟨b, off + k * 3, none⟩ = some (.int .i64 c.id) ∧ w.cell? ⟨b, off + k * 3 + 1, none⟩ = some (.int .i64 c.kind) ∧ w.cell? ⟨b, off + k * 3 + 2, none⟩ = some (.int .i64 c.area) := by
  obtain ⟨b2, off2, e, _, hc⟩ := h.ctx hn
  injection e with e
  injection e with e1 e2 _
  subst e1 e2
  exact hc k c hk
theorem findI_le (l : List Int) (n : Int) : decide (0 ≤ findI l n) = decide (n ∈ l) := findI_mem l n
set_option maxHeartbeats 4000000 in
set_option maxRecDepth 100000 in
theorem drawBoth_any (g c p : Nat) (A : Option Addr) (z : List Int) (w : World) (h : Rd w g A z c p) (hp : p ≤ 100000) :
    Calls Try.prog 94 #[.pointer (some ⟨g, 0, none⟩)] w (DrawBothPost w g c p A z) := by
  obtain ⟨i0, hi0, hz0, hz1, hz2⟩ := info_parts infoRel
  have hlt := h.lt
  go_enter Try.func94, Try.ntmps94
  go_wp2_with fail
  refine (drawIs_any g c p A z _ h (by omega)).mono ?_
  rintro e w2 ⟨v1, ids, rfl, ho1, hl1, ⟨p2, hp2, hr2⟩, hg2⟩
  have hs2 := hg2.size
  obtain ⟨A1, c1, rfl, _, hrd1⟩ := own_slice ho1
  have hr3 := hr2.step ((Below.refl _ _).alloc (Nat.le_refl _) (.cells #[] 111))
  have ho1a := ho1.alloc (.cells #[] 111)
  have ho3 : (w2.alloc (.cells #[] 111)).ownsRow w.heap.size 111 3 (.slice (some ⟨w2.heap.size, 0, none⟩) 0 0) 0 [] := own_empty hs2 rfl
  have hg3 := grown_alloc hg2 (.cells #[] 111)
  have hne : ∀ b, (Value.slice A1 ids.length c1).ownBlock = some b → (Value.slice (some ⟨w2.heap.size, 0, none⟩) 0 0).ownBlock ≠ some b := fun b hb hb2 => by
    have h1 := (ho1.lt b hb).2
    have h2 : w2.heap.size = b := by injection hb2
    omega
  have K3 := Lib.hid (And.intro ho1a (And.intro ho3 (And.intro hg3 hne)))
  clear ho1 hrd1 hr2 hg2 ho1a ho3 hg3 hne
  go_wp2_with fail
  refine (drawRs_any g c p2 A z _ _ hr3 (by omega) (by omega) (by omega)).mono ?_
  rintro e w4 ⟨v4, l, rfl, ho4, hl4, ⟨p4, hp4, hr4⟩, hg4⟩
  obtain ⟨A4, c4, rfl, _, hrd4⟩ := own_slice ho4
  have hs4 := hg4.size
  have hs24 : w.heap.size ≤ w4.heap.size := by have h := hs4; simp at h; omega
  have hLb : w.heap.size ≤ (w2.alloc (.cells #[] 111)).heap.size := by simp; omega
  have hi4 := own_drawn (w0 := w) K3.out.1 hg4 hlt
  have hv4 := own_drawn (w0 := w) K3.out.2.1 hg4 hlt
  have hne4 := own_far2 K3.out.2.1 ho4 (Nat.le_refl _)
  have K4 := Lib.hid (And.intro hi4 (And.intro hv4 (And.intro (own_less ho4 hLb) (And.intro (K3.out.2.2.1.trans hg4) hne4))))
  clear hg4 ho4 hrd4 hi4 hv4 hne4 hr3 h hs4 hLb
  go_wp2_with fail
  go_loopw [5, 7] (fun v i wr => ∃ (k : Nat) (l2 : List Ctx) (p3 : Nat), k ≤ l.length ∧ i = .int .i64 k ∧ l2.length ≤ k ∧ wr.ownsRow w.heap.size 111 3 v l2.length (cellsC l2) ∧ wr.ownsRow w.heap.size 3 1 (.slice A1 ids.length c1) ids.length (cellsI ids) ∧
    wr.ownsRow w.heap.size 111 3 (.slice A4 l.length c4) l.length (cellsC l) ∧ (∀ b, (Value.slice A1 ids.length c1).ownBlock = some b → v.ownBlock ≠ some b) ∧ (∀ b, (Value.slice A4 l.length c4).ownBlock = some b → v.ownBlock ≠ some b) ∧ p3 ≤ p4 + k ∧ Rd wr g A z c p3 ∧ w.grownBy wr (some g)) (fun _ i _ => l.length - (intOf i).toNat)
  case atStart => exact ⟨0, [], p4, by omega, rfl, by simp, K4.out.2.1, K4.out.1, K4.out.2.2.1, K3.out.2.2.2, K4.out.2.2.2.2, by omega, hr4, K4.out.2.2.2.1⟩
  case round =>
    obtain ⟨k, l2, p3, hk, rfl, hl2, hown, hoi, hol, hn1, hn2, hp3, hrd, hgr⟩ := hrel
    have hsz := hgr.size
    by_cases hkl : k < l.length
    · obtain ⟨b, off, hA4, hbb, hc⟩ := (own_reads hol).ctx (by omega)
      subst hA4
      have hk0 : l[k]? = some l[k] := List.getElem?_eq_getElem hkl
      obtain ⟨c1', c2', c3'⟩ := hc k _ hk0
      have hkli : (k : Int) < (l.length : Int) := by omega
      have HK := Lib.hid hk0
      have HN := Lib.hid (And.intro hn1 hn2)
      have HO := Lib.hid (And.intro hown (And.intro hoi hol))
      have HR := Lib.hid (And.intro hrd hgr)
      have HI := Lib.hid (own_reads hoi)
      have n1 := findI_le ids l[k].id
      have n2 := findI_le ids l[k].kind
      clear hc hk0 hn1 hn2 hown hoi hol hrd hgr K4 hr4
      by_cases h1 : l[k].id ∈ ids
      · have e1 : decide (0 ≤ findI ids l[k].id) = true := by rw [n1]; simp [h1]
        by_cases h2 : l[k].kind ∈ ids
        · have e2 : decide (0 ≤ findI ids l[k].kind) = true := by rw [n2]; simp [h2]
          clear h1 h2 n1 n2
          go_wp2_with (first
            | (go_at_call 75; go_must (refine (sPlace_any _ _ ids _ _ HI.out (by omega)).mono ?_); rintro e w9 ⟨rfl, rfl⟩)
            | (at_builtin
               go_must (refine wpList_append_reads _ rfl (.tmp 42) (.tmp 47) _ rfl w.heap.size 111 i0 _ 3 24 Try.underlying24 hi0 hz0 hz1 hz2 rfl (by omega) u5 l2.length _ rfl (HO.out.1.alloc _) (wr.heap.size + 1) _ 1 1 (cellsC [l[k]]) rfl (reads_one (by omega)) (cellsC_one _) (by simp only [maxLen]; omega) (by omega) (by simp; omega) ?_)
               intro v8 w8 hown8 hg8 hat8))
          go_roundw
          case rel =>
            obtain ⟨i1, i2⟩ := app_both HO.out.1 HO.out.2.1 HN.out.1 hg8 hat8
            obtain ⟨j1, j2⟩ := app_both HO.out.1 HO.out.2.2 HN.out.2 hg8 hat8
            refine ⟨k + 1, l2 ++ [l[k]], p3, by omega, by go_num, by simp; omega, ?_, i1, j1, i2, j2, by omega, (HR.out.1.step ((Below.refl _ _).alloc (Nat.le_refl _) _)).grownRow (HO.out.1.alloc _) hlt hg8, grown_row (grown_alloc HR.out.2 _) (HO.out.1.alloc _) (Nat.le_refl _) hg8⟩
            rw [List.length_append, cellsC_append]
            exact hown8
          case measure => simp [intOf]; omega
        · have e2 : decide (0 ≤ findI ids l[k].kind) = false := by rw [n2]; simp [h2]
          clear h1 h2 n1 n2
          go_wp2_with (go_at_call 75; go_must (refine (sPlace_any _ _ ids _ _ HI.out (by omega)).mono ?_); rintro e w9 ⟨rfl, rfl⟩)
          refine (pick_any g c p3 A z _ _ HR.out.1 (by omega) (by omega)).mono ?_
          rintro e w5 ⟨r5, rfl, a5, b5, _, hr5, hg5⟩
          have O5 := Lib.hid (And.intro (own_drawn (w0 := w) HO.out.1 hg5 hlt) (And.intro (own_drawn (w0 := w) HO.out.2.1 hg5 hlt) (And.intro (own_drawn (w0 := w) HO.out.2.2 hg5 hlt) (And.intro hr5 (HR.out.2.trans hg5)))))
          have hs5 := O5.out.2.2.2.2.size
          obtain ⟨d1, d2, d3⟩ := (own_reads O5.out.2.2.1).ctx_at (by omega) HK.out
          clear hr5 hg5
          by_cases c5 : r5 = 0
          · have e5 : (r5 == 0) = true := by simp [c5]
            clear c5
            go_wp2_with (at_builtin
                         go_must (refine wpList_append_reads _ rfl (.tmp 42) (.tmp 47) _ rfl w.heap.size 111 i0 _ 3 24 Try.underlying24 hi0 hz0 hz1 hz2 rfl (by omega) u5 l2.length _ rfl (O5.out.1.alloc _) (w5.heap.size + 1) _ 1 1 (cellsC [l[k]]) rfl (reads_one (by omega)) (cellsC_one _) (by simp only [maxLen]; omega) (by omega) (by simp; omega) ?_)
                         intro v8 w8 hown8 hg8 hat8)
            go_roundw
            case rel =>
              obtain ⟨i1, i2⟩ := app_both O5.out.1 O5.out.2.1 HN.out.1 hg8 hat8
              obtain ⟨j1, j2⟩ := app_both O5.out.1 O5.out.2.2.1 HN.out.2 hg8 hat8
              refine ⟨k + 1, l2 ++ [l[k]], p3 + 1, by omega, by go_num, by simp; omega, ?_, i1, j1, i2, j2, by omega, (O5.out.2.2.2.1.step ((Below.refl _ _).alloc (Nat.le_refl _) _)).grownRow (O5.out.1.alloc _) hlt hg8, grown_row (grown_alloc O5.out.2.2.2.2 _) (O5.out.1.alloc _) (Nat.le_refl _) hg8⟩
              rw [List.length_append, cellsC_append]
              exact hown8
            case measure => simp [intOf]; omega
          · have e5 : (r5 == 0) = false := by simp [c5]
            clear c5
            go_wp2_with fail
            go_roundw
            case rel => exact ⟨k + 1, l2, p3 + 1, by omega, by go_num, by omega, O5.out.1, O5.out.2.1, O5.out.2.2.1, HN.out.1, HN.out.2, by omega, O5.out.2.2.2.1, O5.out.2.2.2.2⟩
            case measure => simp [intOf]; omega
      · have e1 : decide (0 ≤ findI ids l[k].id) = false := by rw [n1]; simp [h1]
        clear h1 n1 n2
        go_wp2_with (go_at_call 75; go_must (refine (sPlace_any _ _ ids _ _ HI.out (by omega)).mono ?_); rintro e w9 ⟨rfl, rfl⟩)
        refine (pick_any g c p3 A z _ _ HR.out.1 (by omega) (by omega)).mono ?_
        rintro e w5 ⟨r5, rfl, a5, b5, _, hr5, hg5⟩
        have O5 := Lib.hid (And.intro (own_drawn (w0 := w) HO.out.1 hg5 hlt) (And.intro (own_drawn (w0 := w) HO.out.2.1 hg5 hlt) (And.intro (own_drawn (w0 := w) HO.out.2.2 hg5 hlt) (And.intro hr5 (HR.out.2.trans hg5)))))
        have hs5 := O5.out.2.2.2.2.size
        obtain ⟨d1, d2, d3⟩ := (own_reads O5.out.2.2.1).ctx_at (by omega) HK.out
        clear hr5 hg5
        by_cases c5 : r5 = 0
        · have e5 : (r5 == 0) = true := by simp [c5]
          clear c5
          go_wp2_with (at_builtin
                       go_must (refine wpList_append_reads _ rfl (.tmp 42) (.tmp 47) _ rfl w.heap.size 111 i0 _ 3 24 Try.underlying24 hi0 hz0 hz1 hz2 rfl (by omega) u5 l2.length _ rfl (O5.out.1.alloc _) (w5.heap.size + 1) _ 1 1 (cellsC [l[k]]) rfl (reads_one (by omega)) (cellsC_one _) (by simp only [maxLen]; omega) (by omega) (by simp; omega) ?_)
                       intro v8 w8 hown8 hg8 hat8)
          go_roundw
          case rel =>
            obtain ⟨i1, i2⟩ := app_both O5.out.1 O5.out.2.1 HN.out.1 hg8 hat8
            obtain ⟨j1, j2⟩ := app_both O5.out.1 O5.out.2.2.1 HN.out.2 hg8 hat8
            refine ⟨k + 1, l2 ++ [l[k]], p3 + 1, by omega, by go_num, by simp; omega, ?_, i1, j1, i2, j2, by omega, (O5.out.2.2.2.1.step ((Below.refl _ _).alloc (Nat.le_refl _) _)).grownRow (O5.out.1.alloc _) hlt hg8, grown_row (grown_alloc O5.out.2.2.2.2 _) (O5.out.1.alloc _) (Nat.le_refl _) hg8⟩
            rw [List.length_append, cellsC_append]
            exact hown8
          case measure => simp [intOf]; omega
        · have e5 : (r5 == 0) = false := by simp [c5]
          clear c5
          go_wp2_with fail
          go_roundw
          case rel => exact ⟨k + 1, l2, p3 + 1, by omega, by go_num, by omega, O5.out.1, O5.out.2.1, O5.out.2.2.1, HN.out.1, HN.out.2, by omega, O5.out.2.2.2.1, O5.out.2.2.2.2⟩
          case measure => simp [intOf]; omega
    · have HE := Lib.hid (And.intro hown (And.intro hoi (And.intro hrd hgr)))
      clear hown hoi hol hn1 hn2 hrd hgr K4 hr4
      go_wp2_with fail
      go_ret2
      exact ⟨_, _, ids, l2, rfl, HE.out.2.1, HE.out.1, hl1, by omega, ⟨⟨p3, by omega, HE.out.2.2.1⟩, HE.out.2.2.2⟩⟩
end Go.Proofs.Ytnkdpogplkomhaa

/- The laws' draws of their inputs on groups. -/
namespace Go.Proofs.Ytnkdpogplkomhaa
open Go.RowKit

def DrewI (w : World) (v : Value) (l : List Int) (w2 : World) : Prop := w2.ownsRow w.heap.size 3 1 v l.length (cellsI l) ∧ l.length ≤ 13 ∧ Below w.heap.size w w2
def DrewB (w : World) (v1 v2 : Value) (ids : List Int) (l : List Ctx) (w2 : World) : Prop :=
  w2.ownsRow w.heap.size 3 1 v1 ids.length (cellsI ids) ∧ w2.ownsRow w.heap.size 111 3 v2 l.length (cellsC l) ∧ ids.length ≤ 13 ∧ l.length ≤ 31 ∧ Below w.heap.size w w2
end Go.Proofs.Ytnkdpogplkomhaa

/- The laws' draws of their inputs on orders: those that draw both lists as they come. -/
namespace Go.Proofs.Ytnkdpogplkomhaa
open Go.RowKit

end Go.Proofs.Ytnkdpogplkomhaa

/- The laws draw contexts and relations that often have a valid order. -/
namespace Go.Proofs.Ytnkdpogplkomhaa
open Go.RowKit

def GoodPost (w : World) (g c p : Nat) (A : Option Addr) (z : List Int) (e : Ending) (w2 : World) : Prop :=
  ∃ (v1 v2 : Value) (ids : List Int) (l : List Ctx), e = .returned (.tuple #[v1, v2]) ∧ w2.ownsRow w.heap.size 3 1 v1 ids.length (cellsI ids) ∧ w2.ownsRow w.heap.size 111 3 v2 l.length (cellsC l) ∧ ids.length ≤ 13 ∧ l.length ≤ 31 ∧ Drawn w g A z c p 741 w2
set_option maxHeartbeats 4000000 in
set_option maxRecDepth 100000 in
theorem drawGood_any (g c p : Nat) (A : Option Addr) (z : List Int) (w : World) (h : Rd w g A z c p) (hp : p ≤ 100000) :
    Calls Try.prog 73 #[.pointer (some ⟨g, 0, none⟩)] w (GoodPost w g c p A z) := by
  obtain ⟨i0, hi0, hz0, hz1, hz2⟩ := info_parts infoRel
  have hlt := h.lt
  go_enter Try.func73, Try.ntmps73
  go_wp2_with fail
  refine (drawBoth_any g c p A z _ h (by omega)).mono ?_
  rintro e w2 ⟨v1, v2, ids, l, rfl, ho1, ho2, hl1, hl2, ⟨p3, hp3, hr3⟩, hg3⟩
  have hs2 := hg3.size
  obtain ⟨A1, c1, rfl, _, _⟩ := own_slice ho1
  obtain ⟨A2, c2, rfl, _, _⟩ := own_slice ho2
  have hb3 : Below w2.heap.size w2 (w2.alloc (.cells #[] 111)) := (Below.refl _ _).alloc (Nat.le_refl _) _
  have O3 := Lib.hid (And.intro (own_below ho1 hb3) (And.intro (own_below ho2 hb3) (And.intro (grown_alloc hg3 (.cells #[] 111)) (own_lit (w := w2) (base := w.heap.size) (e := 111) hs2 rfl))))
  have hr4 := hr3.step hb3
  clear ho1 ho2 hg3 hb3 hr3
  go_wp2_with fail
  refine (pick_any g c p3 A z _ _ hr4 (by omega) (by omega)).mono ?_
  rintro e w5 ⟨r5, rfl, a5, b5, _, hr5, hg5⟩
  have O5 := Lib.hid (And.intro (own_drawn (w0 := w) O3.out.1 hg5 hlt) (And.intro (own_drawn (w0 := w) O3.out.2.1 hg5 hlt) (And.intro (own_drawn (w0 := w) O3.out.2.2.2 hg5 hlt) (O3.out.2.2.1.trans hg5))))
  have hs5 := O5.out.2.2.2.size
  obtain ⟨keep, hkeep⟩ : ∃ x, (r5 == 0) = x := ⟨_, rfl⟩
  have K5 := Lib.hid (And.intro hr5 hp3)
  clear hr5 hg5 O3 hr4 a5 b5 h
  go_wp2_with fail
  go_loopw [6, 8] (fun v i wr => ∃ (k : Nat) (l2 : List Ctx), k ≤ l.length ∧ i = .int .i64 k ∧ l2.length ≤ k ∧ wr.ownsRow w.heap.size 111 3 v l2.length (cellsC l2) ∧ wr.ownsRow w.heap.size 3 1 (.slice A1 ids.length c1) ids.length (cellsI ids) ∧
    wr.ownsRow w.heap.size 111 3 (.slice A2 l.length c2) l.length (cellsC l) ∧ Rd wr g A z c (p3 + 1) ∧ w.grownBy wr (some g)) (fun _ i _ => l.length - (intOf i).toNat)
  case atStart => exact ⟨0, [], by omega, rfl, by simp, O5.out.2.2.1, O5.out.1, O5.out.2.1, K5.out.1, O5.out.2.2.2⟩
  case round =>
    obtain ⟨k, l2, hk, rfl, hl2, hown, hoi, hol, hrd, hgr⟩ := hrel
    have hsz := hgr.size
    obtain ⟨Av, cv, rfl, _, hrv⟩ := own_slice hown
    by_cases hkl : k < l.length
    · obtain ⟨b, off, hA2, hbb, hc⟩ := (own_reads hol).ctx (by omega)
      subst hA2
      obtain ⟨r, hr0⟩ : ∃ r, l[k]? = some r := ⟨_, List.getElem?_eq_getElem hkl⟩
      obtain ⟨c1', c2', c3'⟩ := hc k _ hr0
      have hkli : (k : Int) < (l.length : Int) := by omega
      have hbD := below_draws (Below.refl wr.heap.size wr) 1
      have bA : Below wr.heap.size wr ((wr.drewN 1).alloc (.cells #[] 111)) := hbD.alloc hbD.size _
      have bD : Below wr.heap.size wr ((wr.drewN 1).alloc (.cells #[.int .i64 r.id, .int .i64 r.kind, .int .i64 r.area] 111)) := hbD.alloc hbD.size _
      have bB : Below wr.heap.size wr (((wr.drewN 1).alloc (.cells #[] 111)).alloc (.cells #[.int .i64 r.id, .int .i64 r.kind, .int .i64 r.area] 111)) := bA.alloc bA.size _
      have bC : Below wr.heap.size wr (((wr.drewN 1).alloc (.cells #[.int .i64 r.id, .int .i64 r.kind, .int .i64 r.area] 111)).alloc (.cells #[] 111)) := bD.alloc bD.size _
      have oA : ((wr.drewN 1).alloc (.cells #[] 111)).ownsRow wr.heap.size 111 3 (.slice (some ⟨wr.heap.size, 0, none⟩) 0 0) 0 [] := own_empty hbD.size rfl
      have oB : (((wr.drewN 1).alloc (.cells #[] 111)).alloc (.cells #[.int .i64 r.id, .int .i64 r.kind, .int .i64 r.area] 111)).ownsRow wr.heap.size 111 3 (.slice (some ⟨wr.heap.size, 0, none⟩) 0 0) 0 [] := oA.alloc _
      have oC : (((wr.drewN 1).alloc (.cells #[.int .i64 r.id, .int .i64 r.kind, .int .i64 r.area] 111)).alloc (.cells #[] 111)).ownsRow wr.heap.size 111 3 (.slice (some ⟨wr.heap.size + 1, 0, none⟩) 0 0) 0 [] := own_empty bD.size (by simp [World.drewN])
      have nB : (((wr.drewN 1).alloc (.cells #[] 111)).alloc (.cells #[.int .i64 r.id, .int .i64 r.kind, .int .i64 r.area] 111)).heap[wr.heap.size + 1]? = some (.cells #[.int .i64 r.id, .int .i64 r.kind, .int .i64 r.area] 111 (0, 0)) := by
        have := heap_alloc_new ((wr.drewN 1).alloc (.cells #[] 111)) (.cells #[.int .i64 r.id, .int .i64 r.kind, .int .i64 r.area] 111)
        simpa using this
      have nC : (((wr.drewN 1).alloc (.cells #[.int .i64 r.id, .int .i64 r.kind, .int .i64 r.area] 111)).alloc (.cells #[] 111)).heap[wr.heap.size]? = some (.cells #[.int .i64 r.id, .int .i64 r.kind, .int .i64 r.area] 111 (0, 0)) := (Below.heap_alloc _ _ _ (by simp)).trans (heap_alloc_new (wr.drewN 1) (.cells #[.int .i64 r.id, .int .i64 r.kind, .int .i64 r.area] 111))
      have XA := Lib.hid (And.intro bA (And.intro oA (hrv.step bA)))
      have XB := Lib.hid (And.intro bB (And.intro oB (And.intro (hrv.step bB) nB)))
      have XC := Lib.hid (And.intro bC (And.intro oC (And.intro (hrv.step bC) nC)))
      have cells : ∀ W : World, Below wr.heap.size wr W → W.cell? ⟨b, off + k * 3, none⟩ = some (.int .i64 r.id) ∧ W.cell? ⟨b, off + k * 3 + 1, none⟩ = some (.int .i64 r.kind) ∧ W.cell? ⟨b, off + k * 3 + 2, none⟩ = some (.int .i64 r.area) := fun W hW =>
        ⟨(hW.cell hbb).trans c1', (hW.cell hbb).trans c2', (hW.cell hbb).trans c3'⟩
      have HS := Lib.hid (And.intro (cells _ bA) (And.intro (cells _ bD) (And.intro (cells _ bB) (cells _ bC))))
      have HC := Lib.hid cells
      have HI := Lib.hid (And.intro hown (And.intro hoi (And.intro hol (And.intro hrd hgr))))
      have HK := Lib.hid hr0
      clear bA bB bC bD oA oB oC nB nC hrv hown hoi hol hrd hgr cells hr0 hc hbD
      go_wp2_with fail
      go_region_held3 (fun w' => w'.cell? ⟨b, off + k * 3, none⟩ = some (.int .i64 r.id) ∧ w'.cell? ⟨b, off + k * 3 + 1, none⟩ = some (.int .i64 r.kind) ∧ w'.cell? ⟨b, off + k * 3 + 2, none⟩ = some (.int .i64 r.area))
        (first
          | assumption
          | exact ⟨c1', c2', c3'⟩
          | exact h8
          | exact h9
          | exact HS.out.1
          | exact HS.out.2.1
          | exact HS.out.2.2.1
          | exact HS.out.2.2.2
          | exact HC.out _ b8a)
        (first
          | (refine step_append_want ((wr.drewN 1).alloc (.cells #[] 111)) (by rfl) (.tmp 25) (.tmp 26) _ (by rfl) wr.heap.size 111 i0 _ 3 24 Try.underlying24 hi0 hz0 hz1 hz2 rfl (by omega) (.slice (some ⟨wr.heap.size, 0, none⟩) 0 0) 0 [] (by rfl) XA.out.2.1 _ _ l2.length _ (cellsC l2) (by rfl) XA.out.2.2 (cellsC_one _) (by simp only [maxLen]; omega) (by omega) XA.out.1.size ?_
             intro v8 w8 hown8 hg8 hat8
             have b8 := below_grown XA.out.2.1 hg8 XA.out.1 (Nat.le_refl _)
             have b8a : Below wr.heap.size wr (w8.alloc (.cells #[.int .i64 r.id, .int .i64 r.kind, .int .i64 r.area] 111)) := b8.alloc b8.size _
             have h8 := HC.out _ b8)
          | (refine step_append_want (((wr.drewN 1).alloc (.cells #[] 111)).alloc (.cells #[.int .i64 r.id, .int .i64 r.kind, .int .i64 r.area] 111)) (by rfl) (.tmp 25) (.tmp 26) _ (by rfl) wr.heap.size 111 i0 _ 3 24 Try.underlying24 hi0 hz0 hz1 hz2 rfl (by omega) (.slice (some ⟨wr.heap.size, 0, none⟩) 0 0) 0 [] (by rfl) XB.out.2.1 _ _ l2.length _ (cellsC l2) (by rfl) XB.out.2.2.1 (cellsC_one _) (by simp only [maxLen]; omega) (by omega) XB.out.1.size ?_
             intro v8 w8 hown8 hg8 hat8
             have b8 := below_grown XB.out.2.1 hg8 XB.out.1 (Nat.le_refl _)
             have hN := reads_new XB.out.2.2.2 hg8 (by simp [Value.ownBlock])
             have h8 := HC.out _ b8)
          | (refine step_append_want (((wr.drewN 1).alloc (.cells #[.int .i64 r.id, .int .i64 r.kind, .int .i64 r.area] 111)).alloc (.cells #[] 111)) (by rfl) (.tmp 25) (.tmp 26) _ (by rfl) wr.heap.size 111 i0 _ 3 24 Try.underlying24 hi0 hz0 hz1 hz2 rfl (by omega) (.slice (some ⟨wr.heap.size + 1, 0, none⟩) 0 0) 0 [] (by rfl) XC.out.2.1 _ _ l2.length _ (cellsC l2) (by rfl) XC.out.2.2.1 (cellsC_one _) (by simp only [maxLen]; omega) (by omega) XC.out.1.size ?_
             intro v8 w8 hown8 hg8 hat8
             have b8 := below_grown XC.out.2.1 hg8 XC.out.1 (Nat.le_refl _)
             have hN := reads_new XC.out.2.2.2 hg8 (by simp [Value.ownBlock])
             have h8 := HC.out _ b8)
          | (refine step_append_want (w8.alloc (.cells #[.int .i64 r.id, .int .i64 r.kind, .int .i64 r.area] 111)) (by rfl) (.tmp 27) (.tmp 32) _ (by rfl) wr.heap.size 111 i0 _ 3 24 Try.underlying24 hi0 hz0 hz1 hz2 rfl (by omega) v8 (0 + l2.length) ([] ++ cellsC l2) (by rfl) (hown8.alloc _) _ _ 1 _ (cellsC [r]) (by rfl) (reads_one (B := w8.heap.size + 1) (by omega)) (cellsC_one _) (by simp only [maxLen]; omega) (by omega) b8a.size ?_
             intro v9 w9 hown9 hg9 hat9
             have b9 := below_grown (hown8.alloc _) hg9 b8a (Nat.le_refl _)
             have h9 := HC.out _ b9)
          | (refine step_append_want w8 (by rfl) (.tmp 27) (.tmp 32) _ (by rfl) wr.heap.size 111 i0 _ 3 24 Try.underlying24 hi0 hz0 hz1 hz2 rfl (by omega) v8 (0 + l2.length) ([] ++ cellsC l2) (by rfl) hown8 _ _ 1 _ (cellsC [r]) (by rfl) hN (cellsC_one _) (by simp only [maxLen]; omega) (by omega) b8.size ?_
             intro v9 w9 hown9 hg9 hat9
             have b9 := below_grown hown8 hg9 b8 (Nat.le_refl _)
             have h9 := HC.out _ b9))
      all_goals
        obtain ⟨L, hL⟩ : ∃ L, L = l2 ++ [r] := ⟨_, rfl⟩
        have ho9 : w9.ownsRow wr.heap.size 111 3 v9 L.length (cellsC L) := by
          rw [hL, cellsC_append, List.length_append]
          simpa using hown9
        have hLl : L.length ≤ k + 1 := by rw [hL]; simp; omega
        obtain ⟨A9, c9, rfl, _, hr9⟩ := own_slice ho9
        have fin : ∀ W : World, Below w9.heap.size w9 W → W.ownsRow w.heap.size 111 3 (.slice Av l2.length cv) l2.length (cellsC l2) ∧ W.ownsRow w.heap.size 111 3 (.slice A9 L.length c9) L.length (cellsC L) ∧ W.ownsRow w.heap.size 3 1 (.slice A1 ids.length c1) ids.length (cellsI ids) ∧
            W.ownsRow w.heap.size 111 3 (.slice (some ⟨b, off, none⟩) l.length c2) l.length (cellsC l) ∧ Rd W g A z c (p3 + 1) ∧ w.grownBy W (some g) := fun W hW =>
          ⟨own_below HI.out.1 (below_step b9 hW), own_less (own_below ho9 hW) hsz, own_below HI.out.2.1 (below_step b9 hW), own_below HI.out.2.2.1 (below_step b9 hW), HI.out.2.2.2.1.step (below_step b9 hW), HI.out.2.2.2.2.trans (grown_of_below (below_step b9 hW) _)⟩
        have HF := Lib.hid fin
        have hv9 := sOrdValid_any A1 A9 c1 c9 ids L w9 (own_reads (own_below HI.out.2.1 b9)) hr9 (by omega) (by omega)
        obtain ⟨ok, hok⟩ : ∃ x, ordOkG ids L = x := ⟨_, rfl⟩
        rw [hok] at hv9
        have HV := Lib.hid hv9
        clear hL fin hv9 hok hown9 ho9 hr9 hown8 b9 h9 h8 c1' c2' c3'
        cases keep
        · cases ok
          · go_wp2_with (go_at_call 66; go_must (refine HV.out.mono ?_); rintro e wa ⟨rfl, ba⟩)
            go_roundw
            case rel =>
              obtain ⟨f1, f2, f3, f4, f5, f6⟩ := HF.out _ ba
              exact ⟨k + 1, l2, by omega, by go_num, by omega, f1, f3, f4, f5, f6⟩
            case measure => simp [intOf]; omega
          · go_wp2_with (go_at_call 66; go_must (refine HV.out.mono ?_); rintro e wa ⟨rfl, ba⟩)
            go_roundw
            case rel =>
              obtain ⟨f1, f2, f3, f4, f5, f6⟩ := HF.out _ ba
              exact ⟨k + 1, L, by omega, by go_num, by omega, f2, f3, f4, f5, f6⟩
            case measure => simp [intOf]; omega
        · go_wp2_with fail
          go_roundw
          case rel =>
            obtain ⟨f1, f2, f3, f4, f5, f6⟩ := HF.out _ (Below.refl _ _)
            exact ⟨k + 1, L, by omega, by go_num, by omega, f2, f3, f4, f5, f6⟩
          case measure => simp [intOf]; omega
    · have HI := Lib.hid (And.intro hown (And.intro hoi (And.intro hrd hgr)))
      clear hown hoi hol hrd hgr hrv
      go_wp2_with fail
      go_ret2
      exact ⟨_, _, ids, l2, rfl, HI.out.2.1, HI.out.1, hl1, by omega, ⟨p3 + 1, by omega, HI.out.2.2.1⟩, HI.out.2.2.2⟩
end Go.Proofs.Ytnkdpogplkomhaa
