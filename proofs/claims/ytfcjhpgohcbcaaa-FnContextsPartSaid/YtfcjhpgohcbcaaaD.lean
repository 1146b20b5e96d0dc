/- The program's linked list of contexts: listed in a slice, and a context put in its place. -/
import Derived.Test.YtfcjhpgohcbcaaaC
import Derived.Deep.RegionHeld3
namespace Go.Proofs.Ytfcjhpgohcbcaaa
open Go.RowKit

theorem ctx_info : (Try.prog.info? 25).map (fun i => (i.zero, i.size, i.bytes)) = some (some (.agg #[.int .i64 0, .int .i64 0, .int .i64 0]), 3, 24) := by kernel_rfl
def lenOfV : Value → Nat
  | .slice _ n _ => n
  | _ => 0
theorem own_len {w : World} {base e size n : Nat} {v : Value} {xs : List Value} (h : w.ownsRow base e size v n xs) : lenOfV v = n := by
  obtain ⟨A, c, rfl, _⟩ := Reads.of_own h
  rfl
theorem reads_one {w : World} {c : Ctx} {t : TypeId} {B : Nat} (hB : w.heap.size < B) : Reads (w.alloc (.cells #[.int .i64 c.id, .int .i64 c.kind, .int .i64 c.area] t)) B 3 (some ⟨w.heap.size, 0, none⟩) 1 (cellsC [c]) := by
  refine ⟨by rw [length_cellsC]; rfl, fun _ => ⟨_, 0, rfl, hB, fun j u hu => ?_⟩⟩
  rw [cell_of_row _ _ _ _ _ _ (heap_alloc_new _ _)]
  simpa [cellsC, cells3] using hu

set_option maxHeartbeats 400000 in
theorem unlink_any (S : Nat → Prop) (p : Option Addr) (l : List Ctx) (w : World) (hr : LkAt w S p l) (hS : ∀ g, S g → g < w.heap.size) (hl : l.length ≤ 1000000000000) :
    Calls Try.prog 44 #[.pointer p] w fun e w2 => ∃ v, e = .returned v ∧ Below w.heap.size w w2 ∧ w2.ownsRow w.heap.size 25 3 v l.length (cellsC l) := by
  obtain ⟨i0, hi0, hz0, hz1, hz2⟩ := info_parts ctx_info
  go_enter Try.func44, Try.ntmps44
  go_wp2_with fail
  go_loopw [3, 4] (fun v n wr => ∃ (k : Nat) (q : Option Addr), k ≤ l.length ∧ n = .pointer q ∧ Below w.heap.size w wr ∧ LkAt wr S q (l.drop k) ∧ wr.ownsRow w.heap.size 25 3 v k (cellsC (l.take k))) (fun v _ _ => l.length - lenOfV v)
  case atStart => exact ⟨0, p, Nat.zero_le _, rfl, Below.refl _ _, by simpa using hr, by simpa [cellsC] using World.ownsRow_nil w w.heap.size _ 3⟩
  case round =>
    obtain ⟨k, q, hk, rfl, hb, hq, hown⟩ := hrel
    have hsz := hb.size
    by_cases hlt : k < l.length
    · rw [List.drop_eq_getElem_cons hlt] at hq
      obtain ⟨g, q2, rfl, hg, c1, c2, c3, c4, hq2⟩ := hq.node
      have hgl := hS g hg
      have HQ := Lib.hid hq2
      have HT : Hid (l.take (k+1) = l.take k ++ [l[k]]) := by rw [List.take_add_one, List.getElem?_eq_getElem hlt]; rfl
      have HL : Hid (lenOfV u3 = k) := own_len hown
      have HB := Lib.hid hb
      clear hq hq2 hr
      go_wp2_with (at_builtin
                   go_must (refine wpList_append_reads _ rfl (.tmp 12) (.tmp 17) _ rfl w.heap.size 25 i0 _ 3 24 Try.underlying23 hi0 hz0 hz1 hz2 rfl (by omega) u3 k _ rfl (hown.alloc _) (wr.heap.size + 1) _ 1 1 (cellsC [l[k]]) rfl (reads_one (by omega)) (cellsC_one _) (by simp only [maxLen]; omega) (by omega) (by simp; omega) ?_)
                   intro v2 w2 hown2 hg2 hat2
                   have hb2 := app_below hown (Nat.le_refl _) hsz hg2
                   have hc2 := below_cell hb2)
      go_roundw
      case rel =>
        refine ⟨k + 1, _, by omega, rfl, HB.out.trans hb2, HQ.out.keep (fun g2 hg3 => hb2.block g2 (hS g2 hg3)), ?_⟩
        rw [HT.out, cellsC_append]
        exact hown2
      case measure => rw [HL.out, own_len hown2]; omega
    · rw [List.drop_eq_nil_of_le (by omega)] at hq
      obtain rfl : q = none := hq
      have hkl : k = l.length := by omega
      have HK := Lib.hid hkl; clear hkl
      go_wp2_with fail
      go_ret
      refine ⟨u3, rfl, hb, ?_⟩
      rw [HK.out] at hown
      simpa using hown
end Go.Proofs.Ytfcjhpgohcbcaaa
