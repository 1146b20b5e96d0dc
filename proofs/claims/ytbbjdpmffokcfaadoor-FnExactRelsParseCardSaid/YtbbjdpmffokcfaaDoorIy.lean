/- The library's search for a sign in a word of any bytes. -/
import Derived.Test.YtbbjdpmffokcfaaDoorIx
import Derived.Lib.OthersKept
namespace Go.Proofs.YtbbjdpmffokcfaaDoor
open Go.RowKit Go.Lib

theorem ixr_any (r : Nat) (h1 : r ≤ 2147483647) (w : World) :
    Calls Tryd.prog 57 #[.string ⟨#[62, 61]⟩, .int .i32 (r : Int)] w fun e w2 => (∃ o, e = .returned (.int .i64 o)) ∧ Below w.heap.size w w2 := by
  by_cases h : 128 ≤ r
  · exact ixRune_any r h h1 w
  · refine (Any.strings_IndexRune_ascii { Tryd.lays153 with } ⟨#[62, 61]⟩ (r : Int) w (by omega) (by omega)).mono ?_
    rintro e w2 ⟨he, rfl⟩
    exact ⟨⟨_, he⟩, Below.refl _ _⟩
theorem dec_pos (s : ByteArray) (i : Nat) (h : i < s.size) : 1 ≤ (Utf8.decode s i).2 := by
  by_cases ha : (s[i]'h).toNat < 128
  · rw [decode_ascii s i h ha]; exact Nat.le_refl _
  · exact (decode_high s i h (by omega)).2

set_option maxHeartbeats 4000000 in
set_option maxRecDepth 100000 in
theorem idx_short (s : ByteArray) (w : World) (h8 : s.size ≤ 8) :
    Calls Tryd.prog 43 #[.string s, .string ⟨#[62, 61]⟩] w fun e w2 => (∃ i : Int, e = .returned (.int .i64 i) ∧ i < (s.size : Int)) ∧ Below w.heap.size w w2 := by
  have h8z : decide ((8 : Int) < (s.size : Int)) = false := decide_eq_false (by omega)
  obtain ⟨ch, hch⟩ : ∃ ch : ByteArray, ch = ⟨#[62, 61]⟩ := ⟨_, rfl⟩
  have hemp : ch.toList.isEmpty = false := by rw [hch, Lib.toList_data]; rfl
  have hsz : ch.size = 2 := by rw [hch]; rfl
  have hix : ∀ (r : Nat) (_ : r ≤ 2147483647) (w : World), Calls Tryd.prog 57 #[.string ch, .int .i32 (r : Int)] w fun e w2 => (∃ o, e = .returned (.int .i64 o)) ∧ Below w.heap.size w w2 := by
    rw [hch]; exact ixr_any
  have HI := Lib.hid hix
  rw [← hch]
  clear hch hix
  have b0 := below_iter w s 0
  have i0 : (w.iter s 0).heap[w.heap.size]? = some (.stringIter s 0) := World.iter_heap w s 0
  have H0 := Lib.hid (And.intro b0 i0)
  clear b0 i0
  go_enter Tryd.func43, Tryd.ntmps43
  go_wp2_with (first
    | (go_at_call 58; go_must (refine (Any.strings_shouldUseASCIISet { Tryd.lays153 with } _ _).mono ?_); rintro e w2 ⟨rfl, hw⟩; rw [hw, h8z]))
  go_loopg [9, 10] s.size (fun g _ _ wx => ∃ i : Nat, s.size ≤ i + g ∧ wx.heap[w.heap.size]? = some (.stringIter s i) ∧ Below w.heap.size w wx)
  case atStart => exact ⟨0, by omega, H0.out.2, H0.out.1⟩
  case round =>
    obtain ⟨i, hig, hit, hb⟩ := hrel
    by_cases hi : i < s.size
    · cases gk with
      | zero => omega
      | succ g =>
        obtain ⟨d, hd⟩ : ∃ d, d = (Utf8.decode s i).1 := ⟨_, rfl⟩
        obtain ⟨n, hn⟩ : ∃ n, n = (Utf8.decode s i).2 := ⟨_, rfl⟩
        have hnx := fun ty => run_next_any_at (P := Tryd.prog) wr w.heap.size s i ty hit hi
        rw [← hd, ← hn] at hnx
        have hdl : d ≤ 2147483647 := by rw [hd]; exact decode_le s i
        have hnp : 1 ≤ n := by rw [hn]; exact dec_pos s i hi
        have hit2 := iterAt_heap wr w.heap.size s i (i + n) hit
        have hb2 := below_iterAt hb (Nat.le_refl _) s (i + n)
        have hiI : (i : Int) < (s.size : Int) := by omega
        have HH := Lib.hid (And.intro hit2 hb2)
        clear hd hn hit hb hit2 hb2
        go_wp2_with (first
          | (go_at_call 57; go_must (refine (HI.out d hdl _).mono ?_); rintro e w3 ⟨⟨o, rfl⟩, hb3⟩))
        · go_ret
          exact ⟨⟨_, rfl, hiI⟩, below_step HH.out.2 hb3⟩
        · go_roundg g
          case measure => omega
          case rel => exact ⟨i + n, by omega, (hb3.block _ (Array.getElem?_eq_some_iff.1 HH.out.1).1).trans HH.out.1, below_step HH.out.2 hb3⟩
    · have hnx := fun ty => run_next_end_at (P := Tryd.prog) wr w.heap.size s i ty hit hi
      go_wp2_with fail
      go_ret
      exact ⟨⟨_, rfl, by omega⟩, hb⟩

/-- At a word of any bytes: a place before its end, or below 0; at ASCII words the first sign's. -/
theorem idx_gen (t : List UInt8) (hl : t.length ≤ 2000000) (w : World) :
    Calls Tryd.prog 43 #[.string (txt t), .string ⟨#[62, 61]⟩] w fun e w2 => (∃ i : Int, e = .returned (.int .i64 i) ∧ i < (t.length : Int) ∧ ((∀ b ∈ t, b.toNat < 128) → Lib.indexAny t [62, 61] = i)) ∧ Below w.heap.size w w2 := by
  by_cases ha : ∀ b ∈ t, b.toNat < 128
  · refine (idx_any t hl ha w).mono ?_
    rintro e w2 ⟨he, hb⟩
    exact ⟨⟨_, he, idx_lt t [62, 61], fun _ => rfl⟩, hb⟩
  · by_cases h8 : t.length ≤ 8
    · refine (idx_short (txt t) w (by rw [txt_size]; exact h8)).mono ?_
      rintro e w2 ⟨⟨i, he, hi⟩, hb⟩
      exact ⟨⟨i, he, by rw [txt_size] at hi; exact hi, fun h => absurd h ha⟩, hb⟩
    · refine (Any.strings_IndexAny_long Tryd.lays153 (zero_of_info infoSet).1 (zero_of_info infoSet).2 (txt t) ⟨#[62, 61]⟩ w (by decide) (by rw [txt_size]; omega) (by rw [txt_size]; omega) (by decide) (fun j b hb => by
        have hm : b ∈ [(62 : UInt8), 61] := List.mem_of_getElem? hb
        simp at hm
        rcases hm with rfl | rfl <;> decide)).mono ?_
      rintro e w2 ⟨he, rfl⟩
      exact ⟨⟨_, he, idx_lt t [62, 61], fun h => absurd h ha⟩, ((Below.refl _ w).alloc (Nat.le_refl _) _).alloc (by simp) _⟩
end Go.Proofs.YtbbjdpmffokcfaaDoor
