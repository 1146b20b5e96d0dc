/- What the program's rows of all that lies above are. -/
import Derived.Test.YtjkjnicgbfpjiaaV2
import Derived.Test.YtjkjnicgbfpjiaaSs
namespace Go.Proofs.Ytjkjnicgbfpjiaa
open Go.RowKit

theorem way_row (F : Nat → Nat → Bool) (k j : Nat) : wayB F (k + 1) k j = wayB F k k j := by
  rw [wayB]
  cases wayB F k k j <;> simp
set_option maxHeartbeats 4000000 in
set_option maxRecDepth 100000 in
theorem iAboveR_any (A B : Option Addr) (ca cb : Nat) (ids : List Int) (l : List Ctx) (w : World) (ha : Reads w w.heap.size 1 A ids.length (cellsI ids)) (hb : Reads w w.heap.size 3 B l.length (cellsC l)) (hn : ids.length ≤ 1000000000) (hl : l.length ≤ 1000000000) :
    Calls Try.prog 54 #[.slice A ids.length ca, .slice B l.length cb] w (RowsPost w (szG ids l) (clos (dirA ids (groupsG ids l) l) (szG ids l)) (okG ids l)) := by
  have hdi := iDirect_any A B ca cb ids l w ha hb hn hl
  obtain ⟨n, hn0⟩ : ∃ n, n = szG ids l := ⟨_, rfl⟩
  obtain ⟨F, hF⟩ : ∃ F, F = dirA ids (groupsG ids l) l := ⟨_, rfl⟩
  obtain ⟨ok, hok⟩ : ∃ ok, ok = okG ids l := ⟨_, rfl⟩
  have hn12 : n ≤ 12 := by rw [hn0]; exact szG_le ids l
  rw [← hn0, ← hF, ← hok] at hdi ⊢
  clear hn0 hF hok ha hb
  go_enter Try.func54, Try.ntmps54
  go_wp2_with fail
  refine hdi.mono ?_
  rintro e w2 ⟨v2, rfl, hb2, ho2⟩
  obtain ⟨A2, c2, rfl, _, _⟩ := Reads.of_own ho2
  have hs2 := hb2.size
  have H2 := Lib.hid (And.intro hb2 ho2)
  clear hdi hb2 ho2
  go_wp2_with fail
  go_loopw [18] (fun i wr => ∃ k : Nat, k ≤ n ∧ i = .int .i64 k ∧ Below w.heap.size w wr ∧ wr.ownsRow w.heap.size 74 1 (.slice A2 n c2) n (cellsU (rowsN n (wayB F k)))) (fun i _ => n - (intOf i).toNat)
  case atStart => exact ⟨0, Nat.zero_le _, rfl, H2.out.1, H2.out.2⟩
  case round =>
    obtain ⟨k, hk, rfl, hbl, hown⟩ := hrel
    by_cases hlt : k < n
    · have hlti : (k : Int) < (n : Int) := by omega
      have hlen : (rowsN n (wayB F (k + 1))).length = (rowsN n (wayB F k)).length := by rw [rowsN_len, rowsN_len]
      have hln0 : (rowsN n (wayB F k)).length = n := rowsN_len _ _
      have HL := Lib.hid (And.intro hlen hln0)
      have HK := Lib.hid (And.intro hbl hown)
      clear hbl hown hlen hln0
      go_wp2_with fail
      go_loopw [23] (fun i w3 => ∃ i0 : Nat, i0 ≤ n ∧ i = .int .i64 i0 ∧ Below w.heap.size w w3 ∧ w3.ownsRow w.heap.size 74 1 (.slice A2 n c2) n (cellsU (mixL (rowsN n (wayB F (k + 1))) (rowsN n (wayB F k)) i0))) (fun i _ => n - (intOf i).toNat)
      case atStart => exact ⟨0, Nat.zero_le _, rfl, HK.out.1, by rw [mixL_zero]; exact HK.out.2⟩
      case round =>
        obtain ⟨i1, hi1, rfl, hbi, hoi⟩ := hrel
        have hszi := hbi.size
        by_cases hli : i1 < n
        · have hlii : (i1 : Int) < (n : Int) := by omega
          obtain ⟨g, cap, hv, hbg, hgl⟩ := hoi.form (by omega)
          injection hv with hA2 _ hc2
          subst hA2 hc2
          obtain ⟨x, hx⟩ : ∃ x, x = bitN n (wayB F k i1) := ⟨_, rfl⟩
          have hx2 : x < 65536 := by rw [hx]; exact bitN_16 _ (by omega)
          have hat : (mixL (rowsN n (wayB F (k + 1))) (rowsN n (wayB F k)) i1)[i1]? = some x := by
            rw [mixL_old HL.out.1 (Nat.le_refl _), rowsN_at _ hli, hx]
          obtain ⟨f1, f2⟩ := rows_cell hoi hat hli
          have hha := fun (W : World) => has_any x k hx2 (by omega) W
          have htb : x.testBit k = wayB F k i1 k := by rw [hx, bitN_test, decide_eq_true hlt, Bool.true_and]
          rw [htb] at hha
          clear htb hat
          cases hw : wayB F k i1 k
          · rw [hw] at hha
            have hnw : (rowsN n (wayB F (k + 1)))[i1]? = (rowsN n (wayB F k))[i1]? := by
              rw [rowsN_at _ hli, rowsN_at _ hli]
              congr 1
              refine bitN_ext fun j _ => ?_
              rw [wayB, hw, Bool.false_and, Bool.or_false]
            have HI := Lib.hid (And.intro hbi (And.intro hoi hnw))
            have HH := Lib.hid hha
            clear hha hw hx hnw hbi hoi
            go_wp2_with (go_at_call 67; go_must (refine (HH.out _).mono ?_); rintro e w9 ⟨rfl, rfl⟩)
            go_roundw
            case rel => exact ⟨i1 + 1, by omega, by go_num, HI.out.1, by rw [mixL_same HL.out.1 HI.out.2.2]; exact HI.out.2.1⟩
            case measure => simp [intOf]; omega
          · rw [hw] at hha
            obtain ⟨z, hz⟩ : ∃ z, z = bitN n (wayB F k k) := ⟨_, rfl⟩
            have hz2 : z < 65536 := by rw [hz]; exact bitN_16 _ (by omega)
            obtain ⟨y, hy⟩ : ∃ y, y = x ||| z := ⟨_, rfl⟩
            have h2 := or_is x z hx2 hz2
            rw [← hy] at h2
            have hak : (mixL (rowsN n (wayB F (k + 1))) (rowsN n (wayB F k)) i1)[k]? = some z := by
              rcases Nat.lt_or_ge k i1 with h | h
              · rw [mixL_new HL.out.1 h, rowsN_at _ hlt, hz]
                congr 1
                exact bitN_ext fun j _ => way_row F k j
              · rw [mixL_old HL.out.1 h, rowsN_at _ hlt, hz]
            obtain ⟨f3, _⟩ := rows_cell hoi hak hlt
            have hnw : (rowsN n (wayB F (k + 1)))[i1]? = some y := by
              rw [rowsN_at _ hli, hy, hx, hz, bitN_or]
              congr 1
              refine bitN_ext fun j _ => ?_
              rw [wayB, hw, Bool.true_and]
            have HI := Lib.hid (And.intro hbi (And.intro hoi hnw))
            have HH := Lib.hid hha
            clear hha hw hx hy hz hak hnw hbi hoi
            go_wp2_with (go_at_call 67; go_must (refine (HH.out _).mono ?_); rintro e w9 ⟨rfl, rfl⟩)
            refine region_still_tail2 10 (by kernel_rfl) (by kernel_rfl) ?_
            intro W hW hz hbw
            simp only [List.take_succ_cons, List.take_zero, List.drop_succ_cons, List.drop_zero]
            repeat still_step
            refine wpStill_nil ?_
            have w1' := (World.cell?_of_block (w := wr) (a := ⟨g, i1, none⟩) (hbw.block g hgl)).trans f1
            have w2' := (World.frozen?_of_block (w := wr) (a := ⟨g, i1, none⟩) (hbw.block g hgl)).trans f2
            have HW := Lib.hid hbw
            clear hW hz hbw f1 f2 f3
            go_wp2_with fail
            go_roundw
            case rel =>
              have h9 := rows_store (own_below HI.out.2.1 HW.out) i1 y
              rw [mixL_set HL.out.1 HI.out.2.2] at h9
              exact ⟨i1 + 1, by omega, by go_num, (below_step HI.out.1 HW.out).setCell (by simpa using hbg) _, h9⟩
            case measure => simp [intOf]; omega
        · have hin : i1 = n := by omega
          have HI := Lib.hid (And.intro hin (And.intro hbi hoi))
          clear hin hbi hoi
          go_wp2_with fail
          go_roundw
          case rel =>
            obtain ⟨hin, hbi, hoi⟩ := HI.out
            rw [hin] at hoi
            have h9 := mixL_all HL.out.1
            rw [HL.out.2] at h9
            rw [h9] at hoi
            exact ⟨k + 1, by omega, by go_num, hbi, hoi⟩
          case measure => simp [intOf]; omega
    · have hkn : k = n := by omega
      have HK := Lib.hid (And.intro hkn (And.intro hbl hown))
      clear hkn hbl hown
      go_wp2_with fail
      go_ret2
      obtain ⟨hkn, hbl, hown⟩ := HK.out
      rw [hkn] at hown
      exact ⟨_, rfl, hbl, hown⟩
end Go.Proofs.Ytjkjnicgbfpjiaa
