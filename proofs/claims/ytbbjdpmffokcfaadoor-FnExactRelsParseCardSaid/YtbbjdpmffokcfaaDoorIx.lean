/- What the library's search for a sign returns at a word of any bytes. -/
import Derived.Test.YtbbjdpmffokcfaaDoorRd
import Derived.Laws.Runes
import Derived.Deep.RegionWith
import Derived.StillTailTactics
import Derived.Laws.RangeAny
import Derived.Laws.RangeString
namespace Go.Proofs.YtbbjdpmffokcfaaDoor
open Go.RowKit

theorem valid_eq {r : Nat} (h : Lib.validRune (r : Int) = true) : Utf8.valid (r : Int) = true := by
  unfold Lib.validRune at h
  unfold Utf8.valid
  simp at h ⊢
  omega
theorem below_iter (w : World) (s : ByteArray) (p : Nat) : Below w.heap.size w (w.iter s p) := (Below.refl _ _).alloc (Nat.le_refl _) _
theorem ib_none (em : ByteArray) (hem : em.size = 0) (c : Int) (w : World) : Calls Tryd.prog 73 #[.string em, .int .u8 c] w fun e w2 => e = .returned (.int .i64 (-1)) ∧ w2 = w :=
  (Any.strings_IndexByte { Tryd.lays153 with } em c w).mono fun _ _ ⟨h1, h2⟩ => ⟨h1.trans (by
    have hn : em.data.toList = [] := List.length_eq_zero_iff.1 (by rw [← Lib.size_eq]; exact hem)
    rw [hn]
    rfl), h2⟩
set_option maxHeartbeats 2000000 in
set_option maxRecDepth 100000 in
theorem ixRune_any (r : Nat) (h0 : 128 ≤ r) (h1 : r ≤ 2147483647) (w : World) :
    Calls Tryd.prog 57 #[.string ⟨#[62, 61]⟩, .int .i32 (r : Int)] w fun e w2 => (∃ o, e = .returned (.int .i64 o)) ∧ Below w.heap.size w w2 := by
  have e0 : decide ((r : Int) < 128) = false := decide_eq_false (by omega)
  have e1 : decide ((0 : Int) ≤ (r : Int)) = true := decide_eq_true (by omega)
  have hsz : (⟨#[62, 61]⟩ : ByteArray).size = 2 := rfl
  by_cases hr : r = 65533
  · have e2 : ((r : Int) == 65533) = true := by rw [beq_iff_eq]; omega
    go_enter Tryd.func57, Tryd.ntmps57
    go_wp2_with fail
    go_loopg [5, 6] 2 (fun g _ _ wx => ∃ i : Nat, i + g = 2 ∧ wx = w.iter ⟨#[62, 61]⟩ i)
    case atStart => exact ⟨0, by omega, rfl⟩
    case round =>
      obtain ⟨i, hig, rfl⟩ := hrel
      cases gk with
      | zero =>
        obtain rfl : i = 2 := by omega
        have hnx := run_next_end (P := Tryd.prog) w ⟨#[62, 61]⟩ 2
        go_wp2
        go_ret
        exact ⟨⟨_, rfl⟩, below_iter w _ 2⟩
      | succ g =>
        have hi : i < (⟨#[62, 61]⟩ : ByteArray).size := by rw [hsz]; omega
        have hx128 : ((⟨#[62, 61]⟩ : ByteArray)[i]'hi).toNat < 128 := by
          have hi2 : i = 0 ∨ i = 1 := by omega
          rcases hi2 with rfl | rfl
          · show (62 : UInt8).toNat < 128
            decide
          · show (61 : UInt8).toNat < 128
            decide
        have hnx := fun ty => run_next_ascii (P := Tryd.prog) w ⟨#[62, 61]⟩ i ty hi hx128
        obtain ⟨x, hx⟩ : ∃ x : UInt8, (⟨#[62, 61]⟩ : ByteArray)[i]'hi = x := ⟨_, rfl⟩
        rw [hx] at hnx hx128
        have e5 : ((x.toNat : Int) == 65533) = false := by rw [beq_eq_false_iff_ne]; omega
        clear hx
        go_wp2
        go_roundg g
        case measure => omega
        case rel => exact ⟨i + 1, by omega, rfl⟩
  · have e2 : ((r : Int) == 65533) = false := by rw [beq_eq_false_iff_ne]; omega
    cases hv : Lib.validRune (r : Int)
    · go_enter Tryd.func57, Tryd.ntmps57
      go_wp2_with (first
        | (go_at_call 74; go_must (refine (Any.utf8_ValidRune { Tryd.lays153 with } (r : Int) w).mono ?_); rw [hv]; rintro e w2 ⟨rfl, rfl⟩))
      go_ret
      exact ⟨⟨_, rfl⟩, Below.refl _ _⟩
    · obtain ⟨q1, q2, q3⟩ := encode_facts (r : Int) (valid_eq hv) (by omega)
      obtain ⟨q, hq⟩ : ∃ q, q = Utf8.encode (r : Int) := ⟨_, rfl⟩
      rw [← hq] at q1 q2 q3
      have hconv : ∀ W : World, (convert 21 9 (.int .i32 (r : Int))).run Tryd.prog W = .ok (.string q) W := fun W => by
        rw [run_convert_int_string W 21 9 .i32 (r : Int) (by rw [Tryd.underlying21]; rfl) Tryd.underlying9, ← hq]
      clear hq
      obtain ⟨ch, hch⟩ : ∃ ch : ByteArray, ch = ⟨#[62, 61]⟩ := ⟨_, rfl⟩
      have h5 : (1 : Nat) < ch.size := by subst hch; decide
      have e7 : ((ch[1]'h5).toNat : Int) = 61 := by subst hch; rfl
      have hsz2 : ch.size = 2 := by subst hch; rfl
      rw [← hch]
      clear hch hsz
      go_enter Tryd.func57, Tryd.ntmps57
      go_wp2_with (first
        | (go_at_call 74; go_must (refine (Any.utf8_ValidRune { Tryd.lays153 with } (r : Int) w).mono ?_); rw [hv]; rintro e w2 ⟨rfl, rfl⟩))
      by_cases h2 : q.size = 2
      · have h3 : 128 ≤ (q[1]'(by omega)).toNat := by
          have := q3 (by omega)
          simpa [h2] using this
        have h4 : (1 : Nat) < q.size := by omega
        have hw2 : IntKind.i64.wrap 2 = 2 := rfl
        have e6 : (((ch[1]'h5).toNat : Int) != ((q[1]'h4).toNat : Int)) = true := by rw [bne_iff_ne]; omega
        clear e7 h3
        clear q3 q1 q2
        go_step3
        go_wp2
        go_loopw [9] (fun vi wr => vi = .int .i64 1 ∧ wr = w2) (fun _ _ => 0)
        case atStart => exact ⟨rfl, rfl⟩
        case round =>
          obtain ⟨rfl, rfl⟩ := hrel
          go_wp2
          go_step3
          go_wp2_with fail
          go_quiet (fail)
          go_wp2_with fail
          go_quiet ((go_at_call 73; go_must (exact (ib_none ByteArray.empty rfl _ _).mono fun _ _ ⟨he, hm⟩ => ⟨he, _, hm⟩)))
          go_wp2_with fail
          rw [Exit.noGoto_ret]
          go_wp2
          try rw [Exit.noGoto_ret]
          go_ret
          exact ⟨⟨_, rfl⟩, below_draws (Below.refl _ _) _⟩
      · have e4 : decide ((q.size : Int) - 1 < 2) = false := decide_eq_false (by omega)
        go_step3
        go_wp2
        go_loopw [9] (fun vi wr => vi = .int .i64 ((q.size : Int) - 1) ∧ wr = w2) (fun _ _ => 0)
        case atStart => exact ⟨rfl, rfl⟩
        case round =>
          obtain ⟨rfl, rfl⟩ := hrel
          go_wp2
          rw [Exit.noGoto_ret]
          go_ret
          exact ⟨⟨_, rfl⟩, Below.refl _ _⟩
end Go.Proofs.YtbbjdpmffokcfaaDoor
