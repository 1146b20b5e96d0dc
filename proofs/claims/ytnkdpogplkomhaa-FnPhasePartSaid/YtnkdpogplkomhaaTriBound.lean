/- What the laws' functions on lists of Bound return. -/
import Derived.Test.YtnkdpogplkomhaaTri
namespace Go.Proofs.Ytnkdpogplkomhaa
open Go.RowKit

theorem infoBound : (Try.prog.info? 44).map (fun i => (i.zero, i.size, i.bytes)) = some (some (.agg #[.int .i64 0, .int .i64 0, .int .i64 0]), 3, 24) := by kernel_rfl
theorem eqBound_any (a b c a2 b2 c2 : Int) (w : World) :
    Calls Try.prog 71 #[.agg #[.int .i64 a, .int .i64 b, .int .i64 c], .agg #[.int .i64 a2, .int .i64 b2, .int .i64 c2]] w fun e w2 => e = .returned (.bool (eqC ⟨a, b, c⟩ ⟨a2, b2, c2⟩)) ∧ Below w.heap.size w w2 := by
  have hb := ((Below.refl w.heap.size w).alloc (Nat.le_refl _) (.cells #[.int .i64 a, .int .i64 b, .int .i64 c] 44)).alloc (by simp) (.cells #[.int .i64 a2, .int .i64 b2, .int .i64 c2] 44)
  by_cases h1 : a = a2
  · by_cases h2 : b = b2
    · by_cases h3 : c = c2
      · subst h1 h2 h3
        go_enter Try.func71, Try.ntmps71
        go_wp2_with fail
        go_ret
        exact ⟨ret_bool (by simp [eqC]), hb⟩
      · subst h1 h2
        have e3 : (c != c2) = true := by simp [h3]
        have H3 := Lib.hid h3
        clear h3
        go_enter Try.func71, Try.ntmps71
        go_wp2_with fail
        go_ret
        exact ⟨ret_bool (by simp [eqC, H3.out]), hb⟩
    · subst h1
      have e3 : (b != b2) = true := by simp [h2]
      have H3 := Lib.hid h2
      clear h2
      go_enter Try.func71, Try.ntmps71
      go_wp2_with fail
      go_ret
      exact ⟨ret_bool (by simp [eqC, H3.out]), hb⟩
  · have e3 : (a != a2) = true := by simp [h1]
    have H3 := Lib.hid h1
    clear h1
    go_enter Try.func71, Try.ntmps71
    go_wp2_with fail
    go_ret
    exact ⟨ret_bool (by simp [eqC, H3.out]), hb⟩
set_option maxHeartbeats 800000 in
set_option maxRecDepth 100000 in
theorem eqSBound_any (A B : Option Addr) (ca cb : Nat) (l m : List Ctx) (w : World) (ha : Reads w w.heap.size 3 A l.length (cellsC l)) (hb : Reads w w.heap.size 3 B m.length (cellsC m)) (hl : l.length ≤ 1000000000000) :
    Calls Try.prog 36 #[.slice A l.length ca, .slice B m.length cb] w fun e w2 => e = .returned (.bool (eqLC l m)) ∧ Below w.heap.size w w2 := by
  by_cases hlen : l.length = m.length
  · have e0 : ((l.length : Int) != (m.length : Int)) = false := by simp [hlen]
    have HL := Lib.hid hlen
    clear hlen
    go_enter Try.func36, Try.ntmps36
    go_wp2_with fail
    go_loopw [5] (fun i wr => ∃ k : Nat, k ≤ l.length ∧ i = .int .i64 k ∧ Below w.heap.size w wr ∧ l.take k = m.take k) (fun i _ => l.length - (intOf i).toNat)
    case atStart => exact ⟨0, Nat.zero_le _, rfl, Below.refl _ _, rfl⟩
    case round =>
      obtain ⟨k, hk, rfl, hbl, heq⟩ := hrel
      have HE := Lib.hid heq
      clear heq
      by_cases hlt : k < l.length
      · have hlt2 : k < m.length := by have := HL.out; omega
        have hkm : (k : Int) < (m.length : Int) := by omega
        have hkl : (k : Int) < (l.length : Int) := by omega
        obtain ⟨b, off, hA, hbb, hc⟩ := (ha.below hbl).ctx (by omega)
        obtain ⟨b2, off2, hB, hbb2, hc2⟩ := (hb.below hbl).ctx (by omega)
        subst hA hB
        have hk0 : l[k]? = some l[k] := List.getElem?_eq_getElem hlt
        have hk2 : m[k]? = some m[k] := List.getElem?_eq_getElem hlt2
        obtain ⟨c1, c2, c3⟩ := hc k _ hk0
        obtain ⟨d1, d2, d3⟩ := hc2 k _ hk2
        have HK := Lib.hid hk0
        have HK2 := Lib.hid hk2
        have hx := ext_cell (w := wr) hbb
        have hx2 := ext_cell (w := wr) hbb2
        clear hc hc2 hk0 hk2 ha hb
        by_cases h1 : l[k] = m[k]
        · have e1 : eqC ⟨l[k].id, l[k].kind, l[k].area⟩ ⟨m[k].id, m[k].kind, m[k].area⟩ = true := by rw [h1]; exact eqC_self _
          have H1 := Lib.hid h1
          clear h1
          go_wp2_with fail
          refine wp_region_ext w.heap.size (by kernel_rfl) (by kernel_rfl) ?_
          repeat (go_big_quiet_step ((go_at_call 71; exact calls_ext hbl.size (eqBound_any _ _ _ _ _ _ _))))
          refine wpQuiet_nil ?_
          rintro _ ⟨x, rfl⟩
          go_wp2_with fail
          go_roundw
          case rel =>
            refine ⟨k + 1, by omega, by go_num, hbl.trans x.below, ?_⟩
            rw [List.take_add_one, List.take_add_one, HE.out, HK.out, HK2.out, H1.out]
          case measure => simp [intOf]; omega
        · have e1 : eqC ⟨l[k].id, l[k].kind, l[k].area⟩ ⟨m[k].id, m[k].kind, m[k].area⟩ = false := eqC_no h1
          have HN : Hid (l[k] ≠ m[k]) := h1
          clear h1
          go_wp2_with fail
          refine wp_region_ext w.heap.size (by kernel_rfl) (by kernel_rfl) ?_
          repeat (go_big_quiet_step ((go_at_call 71; exact calls_ext hbl.size (eqBound_any _ _ _ _ _ _ _))))
          refine wpQuiet_nil ?_
          rintro _ ⟨x, rfl⟩
          go_wp2_with fail
          go_ret
          exact ⟨ret_bool (eqLC_no (ctx_ne_at HK.out HK2.out HN.out)).symm, hbl.trans x.below⟩
      · have hkl : k = l.length := by omega
        have HK := Lib.hid hkl
        clear hkl
        go_wp2_with fail
        go_ret
        refine ⟨ret_bool ?_, hbl⟩
        have h := HE.out
        rw [HK.out, List.take_length, List.take_of_length_le (by have := HL.out; omega)] at h
        exact ((eqLC_iff l m).2 h).symm
  · have e0 : ((l.length : Int) != (m.length : Int)) = true := by simp; omega
    have HL := Lib.hid hlen
    clear hlen
    go_enter Try.func36, Try.ntmps36
    go_wp2_with fail
    go_ret
    exact ⟨ret_bool (eqLC_no (fun h => HL.out (by rw [h]))).symm, Below.refl _ _⟩
theorem szBound_any (A : Option Addr) (n cap : Nat) (w : World) (hn : n ≤ 1048576) :
    Calls Try.prog 30 #[.slice A n cap, .int .i64 1048576] w fun e w2 => e = .returned (.int .i64 (1048576 - (n : Int))) ∧ w = w2 := by
  have e0 : decide ((1048576 : Int) - (n : Int) < 0) = false := by simp; omega
  go_enter Try.func30, Try.ntmps30
  go_wp2_with fail
  go_ret
  exact ⟨rfl, rfl⟩
theorem szBound_big (A : Option Addr) (n cap : Nat) (w : World) (hn : 1048576 < n) (hm : n ≤ 9223372036854775807) :
    Calls Try.prog 30 #[.slice A n cap, .int .i64 1048576] w fun e w2 => e = .returned (.int .i64 (-1)) ∧ w = w2 := by
  have e0 : (1048576 : Int) - (n : Int) < 0 := by omega
  go_enter Try.func30, Try.ntmps30
  go_wp2_with fail
  go_ret
  exact ⟨rfl, rfl⟩
theorem toBound_any (a b c : Int) (w : World) :
    Calls Try.prog 69 #[.agg #[.int .i64 a, .int .i64 b, .int .i64 c]] w fun e w2 => e = .returned (.agg #[.int .i64 a, .int .i64 b, .int .i64 c]) ∧ Below w.heap.size w w2 := by
  go_enter Try.func69, Try.ntmps69
  go_wp2_with fail
  refine bodyPost_ret (v := .agg #[.int .i64 a, .int .i64 b, .int .i64 c]) (by simp [results, Try.results69, go_sem]) rfl ⟨rfl, ?_⟩
  exact (((Below.refl _ _).alloc (Nat.le_refl _) _).alloc (by simp) _).alloc (by simp; omega) _
set_option maxHeartbeats 800000 in
set_option maxRecDepth 100000 in
theorem toSBound_any (A : Option Addr) (cap : Nat) (l : List Ctx) (w : World) (hr : Reads w w.heap.size 3 A l.length (cellsC l)) (hl : l.length ≤ 1000000000000) :
    Calls Try.prog 33 #[.slice A l.length cap] w fun e w2 => ∃ g, e = .returned (.slice (some ⟨g, 0, none⟩) l.length l.length) ∧ Below w.heap.size w w2 ∧ w2.ownsRow w.heap.size 44 3 (.slice (some ⟨g, 0, none⟩) l.length l.length) l.length (cellsC l) := by
  obtain ⟨i0, hi0, hz0, hz1, hz2⟩ := info_parts infoBound
  go_enter Try.func33, Try.ntmps33
  go_wp2_with (at_make
               go_must (refine wpList_make_full _ rfl (.tmp 6) (.tmp 6) _ rfl w.heap.size 44 i0 _ 3 Try.underlying25 hi0 hz0 hz1 _ _ _ _ l.length rfl rfl rfl rfl (by rw [hz2]; omega) (by simp only [maxLen]; omega) (Nat.le_refl _) ?_)
               intro w1 hown hg)
  have hb1 : Below w.heap.size w w1 := (Below.refl _ _).grown hg (Nat.le_refl _) (fun k hk => by cases hk)
  rw [zero_cells] at hown
  have hown0 : w1.ownsRow w.heap.size 44 3 (.slice (some ⟨w.heap.size, 0, none⟩) l.length l.length) l.length (cellsC (fillC l 0)) := by simpa [fillC] using hown
  clear hown hg
  go_loopw [4] (fun i wr => ∃ k : Nat, k ≤ l.length ∧ i = .int .i64 k ∧ Below w.heap.size w wr ∧ wr.ownsRow w.heap.size 44 3 (.slice (some ⟨w.heap.size, 0, none⟩) l.length l.length) l.length (cellsC (fillC l k))) (fun i _ => l.length - (intOf i).toNat)
  case atStart => exact ⟨0, Nat.zero_le _, rfl, hb1, hown0⟩
  case round =>
    obtain ⟨k, hk, rfl, hb, hown⟩ := hrel
    clear hown0 hb1
    by_cases hlt : k < l.length
    · obtain ⟨b, off, hA, hbb, hc⟩ := (hr.below hb).ctx (by omega)
      subst hA
      have hk0 : l[k]? = some l[k] := List.getElem?_eq_getElem hlt
      obtain ⟨c1, c2, c3⟩ := hc k _ hk0
      have hkl : (k : Int) < (l.length : Int) := by omega
      have HB := Lib.hid hb
      have hsz := hb.size
      have HF := Lib.hid (fillC_set hlt)
      clear hc hk0 hr hb
      go_wp2_with (go_at_call 69
                   go_must (refine (toBound_any _ _ _ _).mono ?_)
                   rintro e w2 ⟨rfl, hb2⟩
                   have hown2 := own_below hown hb2
                   obtain ⟨d1, d2, d3, d4, d5, d6⟩ := own_cells hown2 (fillC_at hlt)
                   simp only [zeroC] at d1 d2 d3)
      go_roundw
      case rel =>
        refine ⟨k + 1, by omega, by go_num, (((HB.out.trans (hb2.mono hsz)).setCell (by simp) _).setCell (by simp) _).setCell (by simp) _, ?_⟩
        have := own_store3 hown2 (by rw [fillC_len hk]; exact hlt) l[k]
        rw [HF.out] at this
        exact this
      case measure => simp [intOf]; omega
    · have hkl : k = l.length := by omega
      have HK := Lib.hid hkl
      clear hkl
      go_wp2_with fail
      go_ret
      refine ⟨_, rfl, hb, ?_⟩
      have := hown
      rw [HK.out, show fillC l l.length = l from by simp [fillC]] at this
      exact this
end Go.Proofs.Ytnkdpogplkomhaa
