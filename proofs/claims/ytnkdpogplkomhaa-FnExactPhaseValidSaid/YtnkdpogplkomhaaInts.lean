/- What the laws' functions on lists of numbers return. -/
import Derived.Test.YtnkdpogplkomhaaIl
namespace Go.Proofs.Ytnkdpogplkomhaa
open Go.RowKit

theorem int_info_ : (Try.prog.info? 3).map (fun i => (i.zero, i.size, i.bytes)) = some (some (.int .i64 0), 1, 8) := by kernel_rfl
set_option maxHeartbeats 800000 in
set_option maxRecDepth 100000 in
theorem sameInts_any (A B : Option Addr) (ca cb : Nat) (l m : List Int) (w : World) (ha : Reads w w.heap.size 1 A l.length (cellsI l)) (hb : Reads w w.heap.size 1 B m.length (cellsI m)) (hl : l.length ≤ 1000000000000) :
    Calls Try.prog 24 #[.slice A l.length ca, .slice B m.length cb] w fun e w2 => e = .returned (.bool (eqLI l m)) ∧ Below w.heap.size w w2 := by
  by_cases hlen : l.length = m.length
  · have e0 : ((l.length : Int) != (m.length : Int)) = false := by simp [hlen]
    have HL := Lib.hid hlen
    clear hlen
    go_enter Try.func24, Try.ntmps24
    go_wp2_with fail
    go_loopw [5] (fun i wr => ∃ k : Nat, k ≤ l.length ∧ i = .int .i64 k ∧ Below w.heap.size w wr ∧ l.take k = m.take k) (fun i _ => l.length - (intOf i).toNat)
    case atStart => exact ⟨0, Nat.zero_le _, rfl, Below.refl _ _, rfl⟩
    case round =>
      obtain ⟨k, hk, rfl, hbl, heq⟩ := hrel
      have HE := Lib.hid heq
      clear heq
      by_cases hlt : k < l.length
      · have hlt2 : k < m.length := by have := HL.out; omega
        have hkm : (k : Int) < (m.length : Int) := by omega
        have hkl : (k : Int) < (l.length : Int) := by omega
        obtain ⟨b, off, hA, hbb, hc⟩ := (ha.below hbl).ints (by omega)
        obtain ⟨b2, off2, hB, hbb2, hc2⟩ := (hb.below hbl).ints (by omega)
        subst hA hB
        have hk0 : l[k]? = some l[k] := List.getElem?_eq_getElem hlt
        have hk2 : m[k]? = some m[k] := List.getElem?_eq_getElem hlt2
        have c1 := hc k _ hk0
        have d1 := hc2 k _ hk2
        have HK := Lib.hid hk0
        have HK2 := Lib.hid hk2
        clear hc hc2 hk0 hk2 ha hb
        by_cases h1 : l[k] = m[k]
        · have e1 : (l[k] != m[k]) = false := by simp [h1]
          have H1 := Lib.hid h1
          clear h1
          go_wp2_with fail
          go_quiet (fail)
          go_wp2_with fail
          go_roundw
          case rel =>
            refine ⟨k + 1, by omega, by go_num, below_draws hbl _, ?_⟩
            rw [List.take_add_one, List.take_add_one, HE.out, HK.out, HK2.out, H1.out]
          case measure => simp [intOf]; omega
        · have e1 : (l[k] != m[k]) = true := by simp [h1]
          have HN : Hid (l[k] ≠ m[k]) := h1
          clear h1
          go_wp2_with fail
          go_quiet (fail)
          go_wp2_with fail
          go_ret
          exact ⟨ret_bool (eqLI_no (int_ne_at HK.out HK2.out HN.out)).symm, below_draws hbl nq⟩
      · have hkl : k = l.length := by omega
        have HK := Lib.hid hkl
        clear hkl
        go_wp2_with fail
        go_ret
        refine ⟨ret_bool ?_, hbl⟩
        have h := HE.out
        rw [HK.out, List.take_length, List.take_of_length_le (by have := HL.out; omega)] at h
        rw [h, eqLI_self]
  · have e0 : ((l.length : Int) != (m.length : Int)) = true := by simp; omega
    have HL := Lib.hid hlen
    clear hlen
    go_enter Try.func24, Try.ntmps24
    go_wp2_with fail
    go_ret
    exact ⟨ret_bool (eqLI_no (fun h => HL.out (by rw [h]))).symm, Below.refl _ _⟩
set_option maxHeartbeats 800000 in
set_option maxRecDepth 100000 in
theorem eqIS_any (A B : Option Addr) (ca cb : Nat) (l m : List Int) (w : World) (ha : Reads w w.heap.size 1 A l.length (cellsI l)) (hb : Reads w w.heap.size 1 B m.length (cellsI m)) (hl : l.length ≤ 1000000000000) :
    Calls Try.prog 34 #[.slice A l.length ca, .slice B m.length cb] w fun e w2 => e = .returned (.bool (eqLI l m)) ∧ Below w.heap.size w w2 := by
  by_cases hlen : l.length = m.length
  · have e0 : ((l.length : Int) != (m.length : Int)) = false := by simp [hlen]
    have HL := Lib.hid hlen
    clear hlen
    go_enter Try.func34, Try.ntmps34
    go_wp2_with fail
    go_loopw [5] (fun i wr => ∃ k : Nat, k ≤ l.length ∧ i = .int .i64 k ∧ Below w.heap.size w wr ∧ l.take k = m.take k) (fun i _ => l.length - (intOf i).toNat)
    case atStart => exact ⟨0, Nat.zero_le _, rfl, Below.refl _ _, rfl⟩
    case round =>
      obtain ⟨k, hk, rfl, hbl, heq⟩ := hrel
      have HE := Lib.hid heq
      clear heq
      by_cases hlt : k < l.length
      · have hlt2 : k < m.length := by have := HL.out; omega
        have hkm : (k : Int) < (m.length : Int) := by omega
        have hkl : (k : Int) < (l.length : Int) := by omega
        obtain ⟨b, off, hA, hbb, hc⟩ := (ha.below hbl).ints (by omega)
        obtain ⟨b2, off2, hB, hbb2, hc2⟩ := (hb.below hbl).ints (by omega)
        subst hA hB
        have hk0 : l[k]? = some l[k] := List.getElem?_eq_getElem hlt
        have hk2 : m[k]? = some m[k] := List.getElem?_eq_getElem hlt2
        have c1 := hc k _ hk0
        have d1 := hc2 k _ hk2
        have HK := Lib.hid hk0
        have HK2 := Lib.hid hk2
        clear hc hc2 hk0 hk2 ha hb
        by_cases h1 : l[k] = m[k]
        · have e1 : (l[k] != m[k]) = false := by simp [h1]
          have H1 := Lib.hid h1
          clear h1
          go_wp2_with fail
          go_quiet (fail)
          go_wp2_with fail
          go_roundw
          case rel =>
            refine ⟨k + 1, by omega, by go_num, below_draws hbl _, ?_⟩
            rw [List.take_add_one, List.take_add_one, HE.out, HK.out, HK2.out, H1.out]
          case measure => simp [intOf]; omega
        · have e1 : (l[k] != m[k]) = true := by simp [h1]
          have HN : Hid (l[k] ≠ m[k]) := h1
          clear h1
          go_wp2_with fail
          go_quiet (fail)
          go_wp2_with fail
          go_ret
          exact ⟨ret_bool (eqLI_no (int_ne_at HK.out HK2.out HN.out)).symm, below_draws hbl nq⟩
      · have hkl : k = l.length := by omega
        have HK := Lib.hid hkl
        clear hkl
        go_wp2_with fail
        go_ret
        refine ⟨ret_bool ?_, hbl⟩
        have h := HE.out
        rw [HK.out, List.take_length, List.take_of_length_le (by have := HL.out; omega)] at h
        rw [h, eqLI_self]
  · have e0 : ((l.length : Int) != (m.length : Int)) = true := by simp; omega
    have HL := Lib.hid hlen
    clear hlen
    go_enter Try.func34, Try.ntmps34
    go_wp2_with fail
    go_ret
    exact ⟨ret_bool (eqLI_no (fun h => HL.out (by rw [h]))).symm, Below.refl _ _⟩
set_option maxHeartbeats 800000 in
set_option maxRecDepth 100000 in
theorem toIS_any (A : Option Addr) (cap : Nat) (l : List Int) (w : World) (hr : Reads w w.heap.size 1 A l.length (cellsI l)) (hl : l.length ≤ 1000000000000) :
    Calls Try.prog 31 #[.slice A l.length cap] w fun e w2 => ∃ g, e = .returned (.slice (some ⟨g, 0, none⟩) l.length l.length) ∧ Below w.heap.size w w2 ∧ w2.ownsRow w.heap.size 3 1 (.slice (some ⟨g, 0, none⟩) l.length l.length) l.length (cellsI l) := by
  obtain ⟨i0, hi0, hz0, hz1, hz2⟩ := info_parts infoInt
  go_enter Try.func31, Try.ntmps31
  go_wp2_with (at_make
               go_must (refine wpList_make_full _ rfl (.tmp 6) (.tmp 6) _ rfl w.heap.size 3 i0 _ 1 Try.underlying23 hi0 hz0 hz1 _ _ _ _ l.length rfl rfl rfl rfl (by rw [hz2]; omega) (by simp only [maxLen]; omega) (Nat.le_refl _) ?_)
               intro w1 hown hg)
  have hb1 : Below w.heap.size w w1 := (Below.refl _ _).grown hg (Nat.le_refl _) (fun k hk => by cases hk)
  rw [zero_cellsI] at hown
  have hown0 : w1.ownsRow w.heap.size 3 1 (.slice (some ⟨w.heap.size, 0, none⟩) l.length l.length) l.length (cellsI (fillI l 0)) := by simpa [fillI] using hown
  clear hown hg
  go_loopw [4] (fun i wr => ∃ k : Nat, k ≤ l.length ∧ i = .int .i64 k ∧ Below w.heap.size w wr ∧ wr.ownsRow w.heap.size 3 1 (.slice (some ⟨w.heap.size, 0, none⟩) l.length l.length) l.length (cellsI (fillI l k))) (fun i _ => l.length - (intOf i).toNat)
  case atStart => exact ⟨0, Nat.zero_le _, rfl, hb1, hown0⟩
  case round =>
    obtain ⟨k, hk, rfl, hb, hown⟩ := hrel
    clear hown0 hb1
    by_cases hlt : k < l.length
    · obtain ⟨b, off, hA, hbb, hc⟩ := (hr.below hb).ints (by omega)
      subst hA
      have hk0 : l[k]? = some l[k] := List.getElem?_eq_getElem hlt
      have c1 := hc k _ hk0
      have hkl : (k : Int) < (l.length : Int) := by omega
      have HB := Lib.hid hb
      have HF := Lib.hid (fillI_set hk0)
      obtain ⟨d1, d2⟩ := own_cell0 hown rfl hlt
      clear hc hk0 hr hb
      go_wp2_with fail
      go_roundw
      case rel =>
        refine ⟨k + 1, by omega, by go_num, HB.out.setCell (by simp) _, ?_⟩
        have := own_storeI hown k l[k]
        rw [HF.out] at this
        exact this
      case measure => simp [intOf]; omega
    · have hkl : k = l.length := by omega
      have HK := Lib.hid hkl
      clear hkl
      go_wp2_with fail
      go_ret
      refine ⟨_, rfl, hb, ?_⟩
      have := hown
      rw [HK.out, fillI_all] at this
      exact this
end Go.Proofs.Ytnkdpogplkomhaa
