/- What the laws' small functions on lists of numbers return, and the exact comparison of contexts. -/
import Derived.Test.YtfcjhpgohcbcaaaI
namespace Go.Proofs.Ytfcjhpgohcbcaaa
open Go.RowKit

theorem length_cellsI (l : List Int) : (cellsI l).length = l.length := by simp [cellsI]
theorem Reads.ints {w : World} {B n : Nat} {A : Option Addr} {l : List Int} (h : Reads w B 1 A n (cellsI l)) (hn : 0 < n) : ∃ b off, A = some ⟨b, off, none⟩ ∧ b < B ∧
    ∀ k x, l[k]? = some x → w.cell? ⟨b, off + k, none⟩ = some (.int .i64 x) := by
  obtain ⟨b, off, e, hb, hc⟩ := h.2 hn
  exact ⟨b, off, e, hb, fun k x hk => hc k _ (by simp [cellsI, hk])⟩
def eqLI (a b : List Int) : Bool := decide (a = b)
theorem eqLI_no {a b : List Int} (h : a ≠ b) : eqLI a b = false := by simp [eqLI, h]
theorem eqLI_self (a : List Int) : eqLI a a = true := by simp [eqLI]
theorem int_ne_at {a b : List Int} {k : Nat} {c d : Int} (hc : a[k]? = some c) (hd : b[k]? = some d) (h : c ≠ d) : a ≠ b := by
  rintro rfl; rw [hc] at hd; injection hd with hd; exact h hd

set_option maxHeartbeats 800000 in
theorem sameInts_any (A B : Option Addr) (ca cb : Nat) (l m : List Int) (w : World) (ha : Reads w w.heap.size 1 A l.length (cellsI l)) (hb : Reads w w.heap.size 1 B m.length (cellsI m)) (hl : l.length ≤ 1000000000000) :
    Calls Try.prog 26 #[.slice A l.length ca, .slice B m.length cb] w fun e w2 => e = .returned (.bool (eqLI l m)) ∧ Below w.heap.size w w2 := by
  by_cases hlen : l.length = m.length
  · have e0 : ((l.length : Int) != (m.length : Int)) = false := by simp [hlen]
    have HL := Lib.hid hlen
    clear hlen
    go_enter Try.func26, Try.ntmps26
    go_wp2_with fail
    go_loopw [5] (fun i wr => ∃ k : Nat, k ≤ l.length ∧ i = .int .i64 k ∧ Below w.heap.size w wr ∧ l.take k = m.take k) (fun i _ => l.length - (intOf i).toNat)
    case atStart => exact ⟨0, Nat.zero_le _, rfl, Below.refl _ _, rfl⟩
    case round =>
      obtain ⟨k, hk, rfl, hbl, heq⟩ := hrel
      have HE := Lib.hid heq
      clear heq
      by_cases hlt : k < l.length
      · have hlt2 : k < m.length := by have := HL.out; omega
        have hkm : (k : Int) < (m.length : Int) := by omega
        have hkl : (k : Int) < (l.length : Int) := by omega
        obtain ⟨b, off, hA, hbb, hc⟩ := (ha.below hbl).ints (by omega)
        obtain ⟨b2, off2, hB, hbb2, hc2⟩ := (hb.below hbl).ints (by omega)
        subst hA hB
        have hk0 : l[k]? = some l[k] := List.getElem?_eq_getElem hlt
        have hk2 : m[k]? = some m[k] := List.getElem?_eq_getElem hlt2
        have c1 := hc k _ hk0
        have d1 := hc2 k _ hk2
        have HK := Lib.hid hk0
        have HK2 := Lib.hid hk2
        clear hc hc2 hk0 hk2 ha hb
        by_cases h1 : l[k] = m[k]
        · have e1 : (l[k] != m[k]) = false := by simp [h1]
          have H1 := Lib.hid h1
          clear h1
          go_wp2_with fail
          go_quiet (fail)
          go_wp2_with fail
          go_roundw
          case rel =>
            refine ⟨k + 1, by omega, by go_num, below_draws hbl _, ?_⟩
            rw [List.take_add_one, List.take_add_one, HE.out, HK.out, HK2.out, H1.out]
          case measure => simp [intOf]; omega
        · have e1 : (l[k] != m[k]) = true := by simp [h1]
          have HN : Hid (l[k] ≠ m[k]) := h1
          clear h1
          go_wp2_with fail
          go_quiet (fail)
          go_wp2_with fail
          go_ret
          exact ⟨ret_bool (eqLI_no (int_ne_at HK.out HK2.out HN.out)).symm, below_draws hbl nq⟩
      · have hkl : k = l.length := by omega
        have HK := Lib.hid hkl
        clear hkl
        go_wp2_with fail
        go_ret
        refine ⟨ret_bool ?_, hbl⟩
        have h := HE.out
        rw [HK.out, List.take_length, List.take_of_length_le (by have := HL.out; omega)] at h
        rw [h, eqLI_self]
  · have e0 : ((l.length : Int) != (m.length : Int)) = true := by simp; omega
    have HL := Lib.hid hlen
    clear hlen
    go_enter Try.func26, Try.ntmps26
    go_wp2_with fail
    go_ret
    exact ⟨ret_bool (eqLI_no (fun h => HL.out (by rw [h]))).symm, Below.refl _ _⟩

theorem hasInt_any (A : Option Addr) (cap : Nat) (l : List Int) (x : Int) (w : World) (hr : Reads w w.heap.size 1 A l.length (cellsI l)) (hl : l.length ≤ 1000000000000) :
    Calls Try.prog 27 #[.slice A l.length cap, .int .i64 x] w fun e w2 => e = .returned (.bool (decide (x ∈ l))) ∧ w = w2 := by
  go_enter Try.func27, Try.ntmps27
  go_wp2_with fail
  go_loop [5] (fun i => ∃ k : Nat, k ≤ l.length ∧ i = .int .i64 k ∧ ∀ (j : Nat) (y : Int), j < k → l[j]? = some y → y ≠ x) (fun i => l.length - (intOf i).toNat)
  case atStart => exact ⟨0, Nat.zero_le _, rfl, fun j c h => absurd h (by omega)⟩
  case round =>
    obtain ⟨k, hk, rfl, hg⟩ := hrel
    have HG := Lib.hid hg; clear hg
    by_cases hlt : k < l.length
    · obtain ⟨b, off, hA, hbl, hc⟩ := hr.ints (by omega)
      subst hA
      have hk0 : l[k]? = some l[k] := List.getElem?_eq_getElem hlt
      have HK := Lib.hid hk0
      have c1 := hc k _ hk0
      clear hr hk0 hc
      by_cases h1 : l[k] = x
      · have e1 : (l[k] == x) = true := by simp [h1]
        have H1 := Lib.hid h1; clear h1
        go_wp2_with fail
        go_ret
        refine ⟨ret_bool ?_, rfl⟩
        have : x ∈ l := H1.out ▸ List.getElem_mem hlt
        simp [this]
      · have e1 : (l[k] == x) = false := by simp [h1]
        have H1 := Lib.hid h1; clear h1
        go_wp2_with fail
        go_round
        case rel =>
          refine ⟨k + 1, by omega, by go_num, fun j c hj hc => ?_⟩
          by_cases hj2 : j < k
          · exact HG.out j c hj2 hc
          · obtain rfl : j = k := by omega
            rw [HK.out] at hc
            injection hc with hc
            exact hc ▸ H1.out
        case measure => simp [intOf]; omega
    · go_wp2_with fail
      go_ret
      refine ⟨ret_bool ?_, rfl⟩
      have : x ∉ l := fun hx => by
        obtain ⟨j, hj⟩ := List.mem_iff_getElem?.1 hx
        exact HG.out j x (by have := (List.getElem?_eq_some_iff.1 hj).1; omega) hj rfl
      simp [this]

set_option maxHeartbeats 800000 in
theorem eqS_any (A B : Option Addr) (ca cb : Nat) (l m : List Ctx) (w : World) (ha : Reads w w.heap.size 3 A l.length (cellsC l)) (hb : Reads w w.heap.size 3 B m.length (cellsC m)) (hl : l.length ≤ 1000000000000) :
    Calls Try.prog 31 #[.slice A l.length ca, .slice B m.length cb] w fun e w2 => e = .returned (.bool (eqLC l m)) ∧ Below w.heap.size w w2 := by
  by_cases hlen : l.length = m.length
  · have e0 : ((l.length : Int) != (m.length : Int)) = false := by simp [hlen]
    have HL := Lib.hid hlen
    clear hlen
    go_enter Try.func31, Try.ntmps31
    go_wp2_with fail
    go_loopw [5] (fun i wr => ∃ k : Nat, k ≤ l.length ∧ i = .int .i64 k ∧ Below w.heap.size w wr ∧ l.take k = m.take k) (fun i _ => l.length - (intOf i).toNat)
    case atStart => exact ⟨0, Nat.zero_le _, rfl, Below.refl _ _, rfl⟩
    case round =>
      obtain ⟨k, hk, rfl, hbl, heq⟩ := hrel
      have HE := Lib.hid heq
      clear heq
      by_cases hlt : k < l.length
      · have hlt2 : k < m.length := by have := HL.out; omega
        have hkm : (k : Int) < (m.length : Int) := by omega
        have hkl : (k : Int) < (l.length : Int) := by omega
        obtain ⟨b, off, hA, hbb, hc⟩ := (ha.below hbl).ctx (by omega)
        obtain ⟨b2, off2, hB, hbb2, hc2⟩ := (hb.below hbl).ctx (by omega)
        subst hA hB
        have hk0 : l[k]? = some l[k] := List.getElem?_eq_getElem hlt
        have hk2 : m[k]? = some m[k] := List.getElem?_eq_getElem hlt2
        obtain ⟨c1, c2, c3⟩ := hc k _ hk0
        obtain ⟨d1, d2, d3⟩ := hc2 k _ hk2
        have HK := Lib.hid hk0
        have HK2 := Lib.hid hk2
        have hx := ext_cell (w := wr) hbb
        have hx2 := ext_cell (w := wr) hbb2
        clear hc hc2 hk0 hk2 ha hb
        by_cases h1 : l[k] = m[k]
        · have e1 : eqC ⟨l[k].id, l[k].kind, l[k].area⟩ ⟨m[k].id, m[k].kind, m[k].area⟩ = true := by rw [h1]; exact eqC_self _
          have H1 := Lib.hid h1
          clear h1
          go_wp2_with fail
          refine wp_region_ext w.heap.size (by kernel_rfl) (by kernel_rfl) ?_
          repeat (go_big_quiet_step ((go_at_call 49; exact calls_ext hbl.size (eqContext_any _ _ _ _ _ _ _))))
          refine wpQuiet_nil ?_
          rintro _ ⟨x, rfl⟩
          go_wp2_with fail
          go_roundw
          case rel =>
            refine ⟨k + 1, by omega, by go_num, hbl.trans x.below, ?_⟩
            rw [List.take_add_one, List.take_add_one, HE.out, HK.out, HK2.out, H1.out]
          case measure => simp [intOf]; omega
        · have e1 : eqC ⟨l[k].id, l[k].kind, l[k].area⟩ ⟨m[k].id, m[k].kind, m[k].area⟩ = false := eqC_no h1
          have HN : Hid (l[k] ≠ m[k]) := h1
          clear h1
          go_wp2_with fail
          refine wp_region_ext w.heap.size (by kernel_rfl) (by kernel_rfl) ?_
          repeat (go_big_quiet_step ((go_at_call 49; exact calls_ext hbl.size (eqContext_any _ _ _ _ _ _ _))))
          refine wpQuiet_nil ?_
          rintro _ ⟨x, rfl⟩
          go_wp2_with fail
          go_ret
          exact ⟨ret_bool (eqLC_no (ctx_ne_at HK.out HK2.out HN.out)).symm, hbl.trans x.below⟩
      · have hkl : k = l.length := by omega
        have HK := Lib.hid hkl
        clear hkl
        go_wp2_with fail
        go_ret
        refine ⟨ret_bool ?_, hbl⟩
        have h := HE.out
        rw [HK.out, List.take_length, List.take_of_length_le (by have := HL.out; omega)] at h
        exact ((eqLC_iff l m).2 h).symm
  · have e0 : ((l.length : Int) != (m.length : Int)) = true := by simp; omega
    have HL := Lib.hid hlen
    clear hlen
    go_enter Try.func31, Try.ntmps31
    go_wp2_with fail
    go_ret
    exact ⟨ret_bool (eqLC_no (fun h => HL.out (by rw [h]))).symm, Below.refl _ _⟩

theorem sz_any (A : Option Addr) (n cap : Nat) (w : World) (hn : n ≤ 1048576) :
    Calls Try.prog 29 #[.slice A n cap, .int .i64 1048576] w fun e w2 => e = .returned (.int .i64 (1048576 - (n : Int))) ∧ w = w2 := by
  have e0 : decide ((1048576 : Int) - (n : Int) < 0) = false := by simp; omega
  go_enter Try.func29, Try.ntmps29
  go_wp2_with fail
  go_ret
  exact ⟨rfl, rfl⟩
theorem sz_big (A : Option Addr) (n cap : Nat) (w : World) (hn : 1048576 < n) (hm : n ≤ 9223372036854775807) :
    Calls Try.prog 29 #[.slice A n cap, .int .i64 1048576] w fun e w2 => e = .returned (.int .i64 (-1)) ∧ w = w2 := by
  have e0 : (1048576 : Int) - (n : Int) < 0 := by omega
  go_enter Try.func29, Try.ntmps29
  go_wp2_with fail
  go_ret
  exact ⟨rfl, rfl⟩
end Go.Proofs.Ytfcjhpgohcbcaaa
