/- What the laws' functions on lists of Span return. -/
import Derived.Test.YtnkdpogplkomhaaDuo
namespace Go.Proofs.Ytnkdpogplkomhaa
open Go.RowKit

theorem infoSpan : (Try.prog.info? 33).map (fun i => (i.zero, i.size, i.bytes)) = some (some (.agg #[.int .i64 0, .int .i64 0]), 2, 16) := by kernel_rfl
set_option maxHeartbeats 800000 in
set_option maxRecDepth 100000 in
theorem sameSpan_any (A B : Option Addr) (ca cb : Nat) (l m : List Sp) (w : World) (ha : Reads w w.heap.size 2 A l.length (cellsS l)) (hb : Reads w w.heap.size 2 B m.length (cellsS m)) (hl : l.length ≤ 1000000000000) :
    Calls Try.prog 16 #[.slice A l.length ca, .slice B m.length cb] w fun e w2 => e = .returned (.bool (eqLS l m)) ∧ Below w.heap.size w w2 := by
  by_cases hlen : l.length = m.length
  · have e0 : ((l.length : Int) != (m.length : Int)) = false := by simp [hlen]
    have HL := Lib.hid hlen
    clear hlen
    go_enter Try.func16, Try.ntmps16
    go_wp2_with fail
    go_loopw [5] (fun i wr => ∃ k : Nat, k ≤ l.length ∧ i = .int .i64 k ∧ Below w.heap.size w wr ∧ l.take k = m.take k) (fun i _ => l.length - (intOf i).toNat)
    case atStart => exact ⟨0, Nat.zero_le _, rfl, Below.refl _ _, rfl⟩
    case round =>
      obtain ⟨k, hk, rfl, hbl, heq⟩ := hrel
      have HE := Lib.hid heq
      clear heq
      by_cases hlt : k < l.length
      · have hlt2 : k < m.length := by have := HL.out; omega
        have hkm : (k : Int) < (m.length : Int) := by omega
        have hkl : (k : Int) < (l.length : Int) := by omega
        obtain ⟨b, off, hA, hbb, hc⟩ := (ha.below hbl).sp (by omega)
        obtain ⟨b2, off2, hB, hbb2, hc2⟩ := (hb.below hbl).sp (by omega)
        subst hA hB
        have hk0 : l[k]? = some l[k] := List.getElem?_eq_getElem hlt
        have hk2 : m[k]? = some m[k] := List.getElem?_eq_getElem hlt2
        obtain ⟨c1, c2⟩ := hc k _ hk0
        obtain ⟨d1, d2⟩ := hc2 k _ hk2
        have HK := Lib.hid hk0
        have HK2 := Lib.hid hk2
        clear hc hc2 hk0 hk2 ha hb
        by_cases h1 : l[k].lo = m[k].lo
        · have e1 : (l[k].lo == m[k].lo) = true := by simp [h1]
          have H1 := Lib.hid h1
          clear h1
          by_cases h2 : l[k].hi = m[k].hi
          · have e2 : (l[k].hi == m[k].hi) = true := by simp [h2]
            have H2 := Lib.hid h2
            clear h2
            go_wp2_with fail
            go_quiet (fail)
            go_wp2_with fail
            go_roundw
            case rel =>
              refine ⟨k + 1, by omega, by go_num, below_draws hbl _, ?_⟩
              rw [List.take_add_one, List.take_add_one, HE.out, HK.out, HK2.out, Sp.ext_ H1.out H2.out]
            case measure => simp [intOf]; omega
          · have e2 : (l[k].hi == m[k].hi) = false := by simp [h2]
            have HN : Hid (l[k].hi ≠ m[k].hi) := h2
            clear h2
            go_wp2_with fail
            go_quiet (fail)
            go_wp2_with fail
            go_ret
            exact ⟨ret_bool (eqLS_no (sp_ne_at HK.out HK2.out (fun h => by rw [h] at HN; exact absurd rfl HN.out))).symm, below_draws hbl nq⟩
        · have e1 : (l[k].lo == m[k].lo) = false := by simp [h1]
          have HN : Hid (l[k].lo ≠ m[k].lo) := h1
          clear h1
          go_wp2_with fail
          go_quiet (fail)
          go_wp2_with fail
          go_ret
          exact ⟨ret_bool (eqLS_no (sp_ne_at HK.out HK2.out (fun h => by rw [h] at HN; exact absurd rfl HN.out))).symm, below_draws hbl nq⟩
      · have hkl : k = l.length := by omega
        have HK := Lib.hid hkl
        clear hkl
        go_wp2_with fail
        go_ret
        refine ⟨ret_bool ?_, hbl⟩
        have h := HE.out
        rw [HK.out, List.take_length, List.take_of_length_le (by have := HL.out; omega)] at h
        exact ((eqLS_iff l m).2 h).symm
  · have e0 : ((l.length : Int) != (m.length : Int)) = true := by simp; omega
    have HL := Lib.hid hlen
    clear hlen
    go_enter Try.func16, Try.ntmps16
    go_wp2_with fail
    go_ret
    exact ⟨ret_bool (eqLS_no (fun h => HL.out (by rw [h]))).symm, Below.refl _ _⟩
end Go.Proofs.Ytnkdpogplkomhaa
