/- What the program's numbers of contexts above each one are. -/
import Derived.Test.YtjkjnicgbfpjiaaOp
import Derived.Test.YtjkjnicgbfpjiaaHh
namespace Go.Proofs.Ytjkjnicgbfpjiaa
open Go.RowKit

theorem zero_nats (n : Nat) : (madeCells (Value.int .i64 0).cells (n * 1)).toList = (List.replicate n 0).map encN := by
  rw [zero_cellsI, cells_nat]
  congr 1
  simp
theorem has_row (F : Nat → Nat → Bool) (n i j : Nat) (hn : n ≤ 12) (hj : j < n) (w : World) : Calls Try.prog 67 #[.int .u16 (bitN n (F i) : Nat), .int .i64 (j : Int)] w fun e w2 => e = .returned (.bool (F i j)) ∧ w = w2 := by
  have h := has_any (bitN n (F i)) j (bitN_16 _ (by omega)) (by omega) w
  rw [bitN_test, decide_eq_true hj, Bool.true_and] at h
  exact h
set_option maxHeartbeats 4000000 in
set_option maxRecDepth 100000 in
theorem upC_any (A : Option Addr) (ca n : Nat) (F : Nat → Nat → Bool) (w : World) (ha : Reads w w.heap.size 1 A n (cellsU (rowsN n F))) (hn : n ≤ 12) :
    Calls Try.prog 92 #[.slice A n ca] w fun e w2 => ∃ v, e = .returned v ∧ Below w.heap.size w w2 ∧ w2.ownsRow w.heap.size 3 1 v n ((waitL F n fun _ => false).map encN) := by
  obtain ⟨i0, hi0, hz0, hz1, hz2⟩ := info_parts infoInt
  have HA := Lib.hid ha
  clear ha
  go_enter Try.func92, Try.ntmps92
  go_wp2_with (at_make
               go_must (refine wpList_make_full _ rfl (.tmp 8) (.tmp 8) _ rfl w.heap.size 3 i0 _ 1 Try.underlying23 hi0 hz0 hz1 _ _ _ _ n rfl rfl rfl rfl (by rw [hz2]; omega) (by simp only [maxLen]; omega) (Nat.le_refl _) ?_)
               intro w5 hown hg5
               rw [zero_nats, ← cntL_zero F n] at hown)
  have hb5 : Below w.heap.size w w5 := (Below.refl _ _).grown hg5 (Nat.le_refl _) (fun k hk => by cases hk)
  have H5 := Lib.hid (And.intro hb5 hown)
  clear hown hg5 hb5
  go_loopw [12] (fun i wr => ∃ k : Nat, k ≤ n ∧ i = .int .i64 k ∧ Below w.heap.size w wr ∧ wr.ownsRow w.heap.size 3 1 (.slice (some ⟨w.heap.size, 0, none⟩) n n) n ((cntL F n k).map encN)) (fun i _ => n - (intOf i).toNat)
  case atStart => exact ⟨0, Nat.zero_le _, rfl, H5.out.1, H5.out.2⟩
  case round =>
    obtain ⟨k, hk, rfl, hbl, hown⟩ := hrel
    by_cases hlt : k < n
    · have hlti : (k : Int) < (n : Int) := by omega
      obtain ⟨b, off, hA, hbb, hc⟩ := (HA.out.below hbl).rows (by omega)
      subst hA
      obtain ⟨x, hx⟩ : ∃ x, x = bitN n (F k) := ⟨_, rfl⟩
      have c1 := hc k x (by rw [rowsN_at _ hlt, hx])
      have hht := fun (j : Nat) (hj : j < n) (W : World) => has_row F n k j hn hj W
      rw [← hx] at hht
      have hlen : (cntL F n (k + 1)).length = (cntL F n k).length := by rw [cntL_len, cntL_len]
      have hln0 : (cntL F n k).length = n := cntL_len _ _ _
      have HL := Lib.hid (And.intro hlen (And.intro hln0 hht))
      have HK := Lib.hid (And.intro hbl hown)
      clear hbl hown hlen hln0 hc hx hht
      go_wp2_with fail
      go_loopw [18] (fun i w3 => ∃ i0 : Nat, i0 ≤ n ∧ i = .int .i64 i0 ∧ Below w.heap.size w w3 ∧ w3.ownsRow w.heap.size 3 1 (.slice (some ⟨w.heap.size, 0, none⟩) n n) n ((mixL (cntL F n (k + 1)) (cntL F n k) i0).map encN)) (fun i _ => n - (intOf i).toNat)
      case atStart => exact ⟨0, Nat.zero_le _, rfl, HK.out.1, by rw [mixL_zero]; exact HK.out.2⟩
      case round =>
        obtain ⟨i1, hi1, rfl, hbi, hoi⟩ := hrel
        by_cases hli : i1 < n
        · have hlii : (i1 : Int) < (n : Int) := by omega
          obtain ⟨y, hy⟩ : ∃ y, y = cntK F k i1 := ⟨_, rfl⟩
          have hy12 : y ≤ 12 := by rw [hy]; have := cntK_le F k i1; omega
          have hat : (mixL (cntL F n (k + 1)) (cntL F n k) i1)[i1]? = some y := by rw [mixL_old HL.out.1 (Nat.le_refl _), cntL_at hli, hy]
          obtain ⟨f1, f2⟩ := nat_cell hoi hat hli
          have hnx := cntK_next F k i1
          have hht := HL.out.2.2 i1 hli wr
          rw [← hy] at hnx
          cases hw : F k i1
          · rw [hw] at hht hnx
            have hnw : (cntL F n (k + 1))[i1]? = (cntL F n k)[i1]? := by
              rw [cntL_at hli, cntL_at hli, hnx, ← hy]
              rfl
            have HI := Lib.hid (And.intro hbi (And.intro hoi hnw))
            have HH := Lib.hid hht
            clear hht hw hy hnw hbi hoi hat hnx
            go_wp2_with (go_at_call 67; go_must (refine HH.out.mono ?_); rintro e w9 ⟨rfl, rfl⟩)
            go_roundw
            case rel => exact ⟨i1 + 1, by omega, by go_num, HI.out.1, by rw [mixL_same HL.out.1 HI.out.2.2]; exact HI.out.2.1⟩
            case measure => simp [intOf]; omega
          · rw [hw] at hht hnx
            have hnw : (cntL F n (k + 1))[i1]? = some (y + 1) := by
              rw [cntL_at hli, hnx]
              rfl
            have HI := Lib.hid (And.intro hbi (And.intro hoi hnw))
            have HH := Lib.hid hht
            clear hht hw hy hnw hbi hoi hat hnx
            go_wp2_with (go_at_call 67; go_must (refine HH.out.mono ?_); rintro e w9 ⟨rfl, rfl⟩)
            go_roundw
            case rel =>
              have h9 := nat_store HI.out.2.1 i1 (y + 1)
              rw [mixL_set HL.out.1 HI.out.2.2] at h9
              exact ⟨i1 + 1, by omega, by go_num, HI.out.1.setCell (by simp) _, by simpa using h9⟩
            case measure => simp [intOf]; omega
        · have hin : i1 = n := by omega
          have HI := Lib.hid (And.intro hin (And.intro hbi hoi))
          clear hin hbi hoi
          go_wp2_with fail
          go_roundw
          case rel =>
            obtain ⟨hin, hbi, hoi⟩ := HI.out
            rw [hin] at hoi
            have h9 := mixL_all HL.out.1
            rw [HL.out.2.1] at h9
            rw [h9] at hoi
            exact ⟨k + 1, by omega, by go_num, hbi, hoi⟩
          case measure => simp [intOf]; omega
    · have hkn : k = n := by omega
      have HK := Lib.hid (And.intro hkn (And.intro hbl hown))
      clear hkn hbl hown
      go_wp2_with fail
      go_ret
      obtain ⟨hkn, hbl, hown⟩ := HK.out
      rw [hkn, cntL_wait] at hown
      exact ⟨_, rfl, hbl, hown⟩
end Go.Proofs.Ytjkjnicgbfpjiaa
