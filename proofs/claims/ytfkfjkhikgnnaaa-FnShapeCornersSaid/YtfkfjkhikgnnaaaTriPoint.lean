/- What the laws' functions on lists of Point return. -/
import Derived.Test.YtfkfjkhikgnnaaaDuo
namespace Go.Proofs.Ytfkfjkhikgnnaaa
open Go.RowKit

theorem infoPoint : (Try.prog.info? 27).map (fun i => (i.zero, i.size, i.bytes)) = some (some (.agg #[.int .i64 0, .int .i64 0]), 2, 16) := by kernel_rfl
theorem eqPoint_any (a b a2 b2 : Int) (w : World) :
    Calls Try.prog 44 #[.agg #[.int .i64 a, .int .i64 b], .agg #[.int .i64 a2, .int .i64 b2]] w fun e w2 => e = .returned (.bool (eqS ⟨a, b⟩ ⟨a2, b2⟩)) ∧ Below w.heap.size w w2 := by
  have hb := ((Below.refl w.heap.size w).alloc (Nat.le_refl _) (.cells #[.int .i64 a, .int .i64 b] 27)).alloc (by simp) (.cells #[.int .i64 a2, .int .i64 b2] 27)
  by_cases h1 : a = a2
  · by_cases h2 : b = b2
    · subst h1 h2
      go_enter Try.func44, Try.ntmps44
      go_wp2_with fail
      go_ret
      exact ⟨ret_bool (by simp [eqS]), hb⟩
    · subst h1
      have e3 : (b != b2) = true := by simp [h2]
      have H3 := Lib.hid h2
      clear h2
      go_enter Try.func44, Try.ntmps44
      go_wp2_with fail
      go_ret
      exact ⟨ret_bool (by simp [eqS, H3.out]), hb⟩
  · have e3 : (a != a2) = true := by simp [h1]
    have H3 := Lib.hid h1
    clear h1
    go_enter Try.func44, Try.ntmps44
    go_wp2_with fail
    go_ret
    exact ⟨ret_bool (by simp [eqS, H3.out]), hb⟩
set_option maxHeartbeats 800000 in
set_option maxRecDepth 100000 in
theorem samePoint_any (A B : Option Addr) (ca cb : Nat) (l m : List Sp) (w : World) (ha : Reads w w.heap.size 2 A l.length (cellsS l)) (hb : Reads w w.heap.size 2 B m.length (cellsS m)) (hl : l.length ≤ 1000000000000) :
    Calls Try.prog 34 #[.slice A l.length ca, .slice B m.length cb] w fun e w2 => e = .returned (.bool (eqLS l m)) ∧ Below w.heap.size w w2 := by
  by_cases hlen : l.length = m.length
  · have e0 : ((l.length : Int) != (m.length : Int)) = false := by simp [hlen]
    have HL := Lib.hid hlen
    clear hlen
    go_enter Try.func34, Try.ntmps34
    go_wp2_with fail
    go_loopw [5] (fun i wr => ∃ k : Nat, k ≤ l.length ∧ i = .int .i64 k ∧ Below w.heap.size w wr ∧ l.take k = m.take k) (fun i _ => l.length - (intOf i).toNat)
    case atStart => exact ⟨0, Nat.zero_le _, rfl, Below.refl _ _, rfl⟩
    case round =>
      obtain ⟨k, hk, rfl, hbl, heq⟩ := hrel
      have HE := Lib.hid heq
      clear heq
      by_cases hlt : k < l.length
      · have hlt2 : k < m.length := by have := HL.out; omega
        have hkm : (k : Int) < (m.length : Int) := by omega
        have hkl : (k : Int) < (l.length : Int) := by omega
        obtain ⟨b, off, hA, hbb, hc⟩ := (ha.below hbl).sp (by omega)
        obtain ⟨b2, off2, hB, hbb2, hc2⟩ := (hb.below hbl).sp (by omega)
        subst hA hB
        have hk0 : l[k]? = some l[k] := List.getElem?_eq_getElem hlt
        have hk2 : m[k]? = some m[k] := List.getElem?_eq_getElem hlt2
        obtain ⟨c1, c2⟩ := hc k _ hk0
        obtain ⟨d1, d2⟩ := hc2 k _ hk2
        have HK := Lib.hid hk0
        have HK2 := Lib.hid hk2
        clear hc hc2 hk0 hk2 ha hb
        by_cases h1 : l[k].lo = m[k].lo
        · have e1 : (l[k].lo == m[k].lo) = true := by simp [h1]
          have H1 := Lib.hid h1
          clear h1
          by_cases h2 : l[k].hi = m[k].hi
          · have e2 : (l[k].hi == m[k].hi) = true := by simp [h2]
            have H2 := Lib.hid h2
            clear h2
            go_wp2_with fail
            go_quiet (fail)
            go_wp2_with fail
            go_roundw
            case rel =>
              refine ⟨k + 1, by omega, by go_num, below_draws hbl _, ?_⟩
              rw [List.take_add_one, List.take_add_one, HE.out, HK.out, HK2.out, Sp.ext_ H1.out H2.out]
            case measure => simp [intOf]; omega
          · have e2 : (l[k].hi == m[k].hi) = false := by simp [h2]
            have HN : Hid (l[k].hi ≠ m[k].hi) := h2
            clear h2
            go_wp2_with fail
            go_quiet (fail)
            go_wp2_with fail
            go_ret
            exact ⟨ret_bool (eqLS_no (sp_ne_at HK.out HK2.out (fun h => by rw [h] at HN; exact absurd rfl HN.out))).symm, below_draws hbl nq⟩
        · have e1 : (l[k].lo == m[k].lo) = false := by simp [h1]
          have HN : Hid (l[k].lo ≠ m[k].lo) := h1
          clear h1
          go_wp2_with fail
          go_quiet (fail)
          go_wp2_with fail
          go_ret
          exact ⟨ret_bool (eqLS_no (sp_ne_at HK.out HK2.out (fun h => by rw [h] at HN; exact absurd rfl HN.out))).symm, below_draws hbl nq⟩
      · have hkl : k = l.length := by omega
        have HK := Lib.hid hkl
        clear hkl
        go_wp2_with fail
        go_ret
        refine ⟨ret_bool ?_, hbl⟩
        have h := HE.out
        rw [HK.out, List.take_length, List.take_of_length_le (by have := HL.out; omega)] at h
        exact ((eqLS_iff l m).2 h).symm
  · have e0 : ((l.length : Int) != (m.length : Int)) = true := by simp; omega
    have HL := Lib.hid hlen
    clear hlen
    go_enter Try.func34, Try.ntmps34
    go_wp2_with fail
    go_ret
    exact ⟨ret_bool (eqLS_no (fun h => HL.out (by rw [h]))).symm, Below.refl _ _⟩
set_option maxHeartbeats 800000 in
set_option maxRecDepth 100000 in
theorem eqSPoint_any (A B : Option Addr) (ca cb : Nat) (l m : List Sp) (w : World) (ha : Reads w w.heap.size 2 A l.length (cellsS l)) (hb : Reads w w.heap.size 2 B m.length (cellsS m)) (hl : l.length ≤ 1000000000000) :
    Calls Try.prog 40 #[.slice A l.length ca, .slice B m.length cb] w fun e w2 => e = .returned (.bool (eqLS l m)) ∧ Below w.heap.size w w2 := by
  by_cases hlen : l.length = m.length
  · have e0 : ((l.length : Int) != (m.length : Int)) = false := by simp [hlen]
    have HL := Lib.hid hlen
    clear hlen
    go_enter Try.func40, Try.ntmps40
    go_wp2_with fail
    go_loopw [5] (fun i wr => ∃ k : Nat, k ≤ l.length ∧ i = .int .i64 k ∧ Below w.heap.size w wr ∧ l.take k = m.take k) (fun i _ => l.length - (intOf i).toNat)
    case atStart => exact ⟨0, Nat.zero_le _, rfl, Below.refl _ _, rfl⟩
    case round =>
      obtain ⟨k, hk, rfl, hbl, heq⟩ := hrel
      have HE := Lib.hid heq
      clear heq
      by_cases hlt : k < l.length
      · have hlt2 : k < m.length := by have := HL.out; omega
        have hkm : (k : Int) < (m.length : Int) := by omega
        have hkl : (k : Int) < (l.length : Int) := by omega
        obtain ⟨b, off, hA, hbb, hc⟩ := (ha.below hbl).sp (by omega)
        obtain ⟨b2, off2, hB, hbb2, hc2⟩ := (hb.below hbl).sp (by omega)
        subst hA hB
        have hk0 : l[k]? = some l[k] := List.getElem?_eq_getElem hlt
        have hk2 : m[k]? = some m[k] := List.getElem?_eq_getElem hlt2
        obtain ⟨c1, c2⟩ := hc k _ hk0
        obtain ⟨d1, d2⟩ := hc2 k _ hk2
        have HK := Lib.hid hk0
        have HK2 := Lib.hid hk2
        have hx := ext_cell (w := wr) hbb
        have hx2 := ext_cell (w := wr) hbb2
        clear hc hc2 hk0 hk2 ha hb
        by_cases h1 : l[k] = m[k]
        · have e1 : eqS ⟨l[k].lo, l[k].hi⟩ ⟨m[k].lo, m[k].hi⟩ = true := by rw [h1]; exact eqS_self _
          have H1 := Lib.hid h1
          clear h1
          go_wp2_with fail
          refine wp_region_ext w.heap.size (by kernel_rfl) (by kernel_rfl) ?_
          repeat (go_big_quiet_step ((go_at_call 44; exact calls_ext hbl.size (eqPoint_any _ _ _ _ _))))
          refine wpQuiet_nil ?_
          rintro _ ⟨x, rfl⟩
          go_wp2_with fail
          go_roundw
          case rel =>
            refine ⟨k + 1, by omega, by go_num, hbl.trans x.below, ?_⟩
            rw [List.take_add_one, List.take_add_one, HE.out, HK.out, HK2.out, H1.out]
          case measure => simp [intOf]; omega
        · have e1 : eqS ⟨l[k].lo, l[k].hi⟩ ⟨m[k].lo, m[k].hi⟩ = false := eqS_no h1
          have HN : Hid (l[k] ≠ m[k]) := h1
          clear h1
          go_wp2_with fail
          refine wp_region_ext w.heap.size (by kernel_rfl) (by kernel_rfl) ?_
          repeat (go_big_quiet_step ((go_at_call 44; exact calls_ext hbl.size (eqPoint_any _ _ _ _ _))))
          refine wpQuiet_nil ?_
          rintro _ ⟨x, rfl⟩
          go_wp2_with fail
          go_ret
          exact ⟨ret_bool (eqLS_no (sp_ne_at HK.out HK2.out HN.out)).symm, hbl.trans x.below⟩
      · have hkl : k = l.length := by omega
        have HK := Lib.hid hkl
        clear hkl
        go_wp2_with fail
        go_ret
        refine ⟨ret_bool ?_, hbl⟩
        have h := HE.out
        rw [HK.out, List.take_length, List.take_of_length_le (by have := HL.out; omega)] at h
        exact ((eqLS_iff l m).2 h).symm
  · have e0 : ((l.length : Int) != (m.length : Int)) = true := by simp; omega
    have HL := Lib.hid hlen
    clear hlen
    go_enter Try.func40, Try.ntmps40
    go_wp2_with fail
    go_ret
    exact ⟨ret_bool (eqLS_no (fun h => HL.out (by rw [h]))).symm, Below.refl _ _⟩
set_option maxHeartbeats 800000 in
set_option maxRecDepth 100000 in
theorem markPoint_any (v : Value) (base : Nat) (l : List Sp) (w : World) (ho : w.ownsRow base 27 2 v l.length (cellsS l)) (hl : l.length ≤ 1000000000000) :
    Calls Try.prog 42 #[v, .int .i64 1] w fun e w2 => e = .returned (.int .i64 (1 + 2 * (l.length : Int))) ∧ w.grownBy w2 v.ownBlock ∧ w2.ownsRow base 27 2 v l.length (cellsS (markS l.length)) := by
  rcases Nat.eq_zero_or_pos l.length with h0 | hpos
  · obtain ⟨A, c, hv, _, _⟩ := Reads.of_own ho
    have hn : l = [] := List.eq_nil_of_length_eq_zero h0
    subst hn
    subst hv
    have HO := Lib.hid ho
    clear ho
    go_enter Try.func42, Try.ntmps42
    go_wp2_with fail
    go_loop [1, 5] (fun t i => t = .int .i64 1 ∧ i = .int .i64 0) (fun _ _ => 0)
    case atStart => exact ⟨rfl, rfl⟩
    case round =>
      obtain ⟨rfl, rfl⟩ := hrel
      go_wp2_with fail
      go_ret
      exact ⟨rfl, World.grownBy.refl _ _, HO.out⟩
  · obtain ⟨g, cap, hv, hbg, hgl⟩ := ho.form hpos
    subst hv
    go_enter Try.func42, Try.ntmps42
    go_wp2_with fail
    go_loopw [1, 5] (fun t i wr => ∃ k : Nat, k ≤ l.length ∧ i = .int .i64 k ∧ t = .int .i64 (1 + 2 * (k : Int)) ∧ w.grownBy wr (some g) ∧ wr.ownsRow base 27 2 (.slice (some ⟨g, 0, none⟩) l.length cap) l.length (cellsS (halfS l k))) (fun _ i _ => l.length - (intOf i).toNat)
    case atStart => exact ⟨0, Nat.zero_le _, rfl, rfl, World.grownBy.refl _ _, by simpa [halfS, markS] using ho⟩
    case round =>
      obtain ⟨k, hk, rfl, rfl, hg, hown⟩ := hrel
      clear ho
      by_cases hlt : k < l.length
      · obtain ⟨d1, d2, d3, d4⟩ := own_cellsS hown (halfS_at hlt)
        have hkl : (k : Int) < (l.length : Int) := by omega
        have HS := Lib.hid (halfS_set hlt)
        go_wp2_with fail
        go_roundw
        case rel =>
          refine ⟨k + 1, by omega, by go_num, by rw [show (1 : Int) + 2 * ((k + 1 : Nat) : Int) = 1 + 2 * (k : Int) + 1 + 1 from by omega], grown_store (grown_store hg), ?_⟩
          have := own_store2 hown (by rw [halfS_len hk]; exact hlt) ⟨1 + 2 * (k : Int), 1 + 2 * (k : Int) + 1⟩
          rw [HS.out] at this
          exact this
        case measure => simp [intOf]; omega
      · have hkl : k = l.length := by omega
        have HK := Lib.hid hkl
        clear hkl
        go_wp2_with fail
        go_ret
        refine ⟨ret_int (by rw [HK.out]), hg, ?_⟩
        have := hown
        rw [HK.out, show halfS l l.length = markS l.length from by simp [halfS]] at this
        exact this
set_option maxHeartbeats 800000 in
set_option maxRecDepth 100000 in
theorem heldPoint_any (A : Option Addr) (cap n : Nat) (w : World) (hr : Reads w w.heap.size 2 A n (cellsS (markS n))) (hl : n ≤ 1000000000000) :
    Calls Try.prog 43 #[.slice A n cap, .int .i64 1] w fun e w2 => e = .returned (.int .i64 (1 + 2 * (n : Int))) ∧ w = w2 := by
  go_enter Try.func43, Try.ntmps43
  go_wp2_with fail
  go_loop [1, 5] (fun t i => ∃ k : Nat, k ≤ n ∧ i = .int .i64 k ∧ t = .int .i64 (1 + 2 * (k : Int))) (fun _ i => n - (intOf i).toNat)
  case atStart => exact ⟨0, Nat.zero_le _, rfl, rfl⟩
  case round =>
    obtain ⟨k, hk, rfl, rfl⟩ := hrel
    by_cases hlt : k < n
    · obtain ⟨b, off, hA, hbb, hc⟩ := hr.sp (by omega)
      subst hA
      obtain ⟨c1, c2⟩ := hc k _ (markS_at hlt)
      have hkl : (k : Int) < (n : Int) := by omega
      clear hc hr
      go_wp2_with fail
      go_round
      case rel => exact ⟨k + 1, by omega, by go_num, by rw [show (1 : Int) + 2 * ((k + 1 : Nat) : Int) = 1 + 2 * (k : Int) + 1 + 1 from by omega]⟩
      case measure => simp [intOf]; omega
    · have hkl : k = n := by omega
      have HK := Lib.hid hkl
      clear hkl
      go_wp2_with fail
      go_ret
      exact ⟨ret_int (by rw [HK.out]), rfl⟩
end Go.Proofs.Ytfkfjkhikgnnaaa
