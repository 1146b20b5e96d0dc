/- The laws' marks in a list of numbers, and their exact comparison. -/
import Derived.Test.YtfcjhpgohcbcaaaK
namespace Go.Proofs.Ytfcjhpgohcbcaaa
open Go.RowKit

set_option maxHeartbeats 800000 in
theorem eqIS_any (A B : Option Addr) (ca cb : Nat) (l m : List Int) (w : World) (ha : Reads w w.heap.size 1 A l.length (cellsI l)) (hb : Reads w w.heap.size 1 B m.length (cellsI m)) (hl : l.length ≤ 1000000000000) :
    Calls Try.prog 35 #[.slice A l.length ca, .slice B m.length cb] w fun e w2 => e = .returned (.bool (eqLI l m)) ∧ Below w.heap.size w w2 := by
  by_cases hlen : l.length = m.length
  · have e0 : ((l.length : Int) != (m.length : Int)) = false := by simp [hlen]
    have HL := Lib.hid hlen
    clear hlen
    go_enter Try.func35, Try.ntmps35
    go_wp2_with fail
    go_loopw [5] (fun i wr => ∃ k : Nat, k ≤ l.length ∧ i = .int .i64 k ∧ Below w.heap.size w wr ∧ l.take k = m.take k) (fun i _ => l.length - (intOf i).toNat)
    case atStart => exact ⟨0, Nat.zero_le _, rfl, Below.refl _ _, rfl⟩
    case round =>
      obtain ⟨k, hk, rfl, hbl, heq⟩ := hrel
      have HE := Lib.hid heq
      clear heq
      by_cases hlt : k < l.length
      · have hlt2 : k < m.length := by have := HL.out; omega
        have hkm : (k : Int) < (m.length : Int) := by omega
        have hkl : (k : Int) < (l.length : Int) := by omega
        obtain ⟨b, off, hA, hbb, hc⟩ := (ha.below hbl).ints (by omega)
        obtain ⟨b2, off2, hB, hbb2, hc2⟩ := (hb.below hbl).ints (by omega)
        subst hA hB
        have hk0 : l[k]? = some l[k] := List.getElem?_eq_getElem hlt
        have hk2 : m[k]? = some m[k] := List.getElem?_eq_getElem hlt2
        have c1 := hc k _ hk0
        have d1 := hc2 k _ hk2
        have HK := Lib.hid hk0
        have HK2 := Lib.hid hk2
        clear hc hc2 hk0 hk2 ha hb
        by_cases h1 : l[k] = m[k]
        · have e1 : (l[k] != m[k]) = false := by simp [h1]
          have H1 := Lib.hid h1
          clear h1
          go_wp2_with fail
          go_quiet (fail)
          go_wp2_with fail
          go_roundw
          case rel =>
            refine ⟨k + 1, by omega, by go_num, below_draws hbl _, ?_⟩
            rw [List.take_add_one, List.take_add_one, HE.out, HK.out, HK2.out, H1.out]
          case measure => simp [intOf]; omega
        · have e1 : (l[k] != m[k]) = true := by simp [h1]
          have HN : Hid (l[k] ≠ m[k]) := h1
          clear h1
          go_wp2_with fail
          go_quiet (fail)
          go_wp2_with fail
          go_ret
          exact ⟨ret_bool (eqLI_no (int_ne_at HK.out HK2.out HN.out)).symm, below_draws hbl nq⟩
      · have hkl : k = l.length := by omega
        have HK := Lib.hid hkl
        clear hkl
        go_wp2_with fail
        go_ret
        refine ⟨ret_bool ?_, hbl⟩
        have h := HE.out
        rw [HK.out, List.take_length, List.take_of_length_le (by have := HL.out; omega)] at h
        rw [h, eqLI_self]
  · have e0 : ((l.length : Int) != (m.length : Int)) = true := by simp; omega
    have HL := Lib.hid hlen
    clear hlen
    go_enter Try.func35, Try.ntmps35
    go_wp2_with fail
    go_ret
    exact ⟨ret_bool (eqLI_no (fun h => HL.out (by rw [h]))).symm, Below.refl _ _⟩


theorem own_storeI {w : World} {base g n cap : Nat} {l : List Int} (h : w.ownsRow base 3 1 (.slice (some ⟨g, 0, none⟩) n cap) n (cellsI l)) (k : Nat) (x : Int) :
    (w.setCell ⟨g, k, none⟩ (.int .i64 x)).ownsRow base 3 1 (.slice (some ⟨g, 0, none⟩) n cap) n (cellsI (l.set k x)) := by
  have h1 := (h.stored k (.int .i64 x)).1
  rw [show (cellsI l).set k (.int .i64 x) = cellsI (l.set k x) from by simp [cellsI, List.map_set]] at h1
  exact h1
theorem own_cellI {w : World} {base g n cap : Nat} {l : List Int} (h : w.ownsRow base 3 1 (.slice (some ⟨g, 0, none⟩) n cap) n (cellsI l)) {k : Nat} {x : Int} (hk : l[k]? = some x) :
    w.cell? ⟨g, k, none⟩ = some (.int .i64 x) ∧ w.frozen? ⟨g, k, none⟩ = false := by
  have hl : l.length = n := by have := h.1; rw [length_cellsI] at this; omega
  have hkl : k < l.length := (List.getElem?_eq_some_iff.1 hk).1
  exact ⟨(h.cellAt _ (by omega)).trans (by simp [cellsI, hk]), h.frozenAt _⟩
/-- The marks 1, 2, 3 .. laid into n numbers. -/
def markI (n : Nat) : List Int := (List.range n).map fun (i : Nat) => 1 + (i : Int)
def halfI (l : List Int) (k : Nat) : List Int := markI k ++ l.drop k
theorem markI_len (n : Nat) : (markI n).length = n := by simp [markI]
theorem halfI_at {l : List Int} {k : Nat} (hk : k < l.length) : (halfI l k)[k]? = some l[k] := by
  unfold halfI
  rw [List.getElem?_append_right (by simp [markI_len]), markI_len, Nat.sub_self, List.getElem?_drop, Nat.add_zero, List.getElem?_eq_getElem hk]
theorem halfI_set {l : List Int} {k : Nat} (hk : k < l.length) : (halfI l k).set k (1 + (k : Int)) = halfI l (k+1) := by
  unfold halfI
  rw [List.set_append_right _ _ (by simp [markI_len]), markI_len, Nat.sub_self, List.drop_eq_getElem_cons hk, List.set_cons_zero]
  simp only [markI, List.range_succ, List.map_append, List.map_cons, List.map_nil, List.append_assoc, List.cons_append, List.nil_append]
theorem markI_at {n k : Nat} (hk : k < n) : (markI n)[k]? = some (1 + (k : Int)) := by simp [markI, hk]

set_option maxHeartbeats 800000 in
theorem markI_any (v : Value) (base : Nat) (l : List Int) (w : World) (ho : w.ownsRow base 3 1 v l.length (cellsI l)) (hl : l.length ≤ 1000000000000) :
    Calls Try.prog 36 #[v, .int .i64 1] w fun e w2 => e = .returned (.int .i64 (1 + (l.length : Int))) ∧ w.grownBy w2 v.ownBlock ∧ w2.ownsRow base 3 1 v l.length (cellsI (markI l.length)) := by
  rcases Nat.eq_zero_or_pos l.length with h0 | hpos
  · obtain ⟨A, c, hv, _, _⟩ := Reads.of_own ho
    have hn : l = [] := List.eq_nil_of_length_eq_zero h0
    subst hn
    subst hv
    have HO := Lib.hid ho
    clear ho
    go_enter Try.func36, Try.ntmps36
    go_wp2_with fail
    go_loop [1, 5] (fun t i => t = .int .i64 1 ∧ i = .int .i64 0) (fun _ _ => 0)
    case atStart => exact ⟨rfl, rfl⟩
    case round =>
      obtain ⟨rfl, rfl⟩ := hrel
      go_wp2_with fail
      go_ret
      exact ⟨rfl, World.grownBy.refl _ _, HO.out⟩
  · obtain ⟨g, cap, hv, hbg, hgl⟩ := ho.form hpos
    subst hv
    go_enter Try.func36, Try.ntmps36
    go_wp2_with fail
    go_loopw [1, 5] (fun t i wr => ∃ k : Nat, k ≤ l.length ∧ i = .int .i64 k ∧ t = .int .i64 (1 + (k : Int)) ∧ w.grownBy wr (some g) ∧ wr.ownsRow base 3 1 (.slice (some ⟨g, 0, none⟩) l.length cap) l.length (cellsI (halfI l k))) (fun _ i _ => l.length - (intOf i).toNat)
    case atStart => exact ⟨0, Nat.zero_le _, rfl, rfl, World.grownBy.refl _ _, by simpa [halfI, markI] using ho⟩
    case round =>
      obtain ⟨k, hk, rfl, rfl, hg, hown⟩ := hrel
      clear ho
      by_cases hlt : k < l.length
      · obtain ⟨d1, d4⟩ := own_cellI hown (halfI_at hlt)
        have hkl : (k : Int) < (l.length : Int) := by omega
        have HS := Lib.hid (halfI_set hlt)
        go_wp2_with fail
        go_roundw
        case rel =>
          refine ⟨k + 1, by omega, by go_num, by rw [show (1 : Int) + ((k + 1 : Nat) : Int) = 1 + (k : Int) + 1 from by omega], grown_store hg, ?_⟩
          have := own_storeI hown k (1 + (k : Int))
          rw [HS.out] at this
          exact this
        case measure => simp [intOf]; omega
      · have hkl : k = l.length := by omega
        have HK := Lib.hid hkl
        clear hkl
        go_wp2_with fail
        go_ret
        refine ⟨ret_int (by rw [HK.out]), hg, ?_⟩
        have := hown
        rw [HK.out, show halfI l l.length = markI l.length from by simp [halfI]] at this
        exact this

set_option maxHeartbeats 800000 in
theorem heldI_any (A : Option Addr) (cap n : Nat) (w : World) (hr : Reads w w.heap.size 1 A n (cellsI (markI n))) (hl : n ≤ 1000000000000) :
    Calls Try.prog 37 #[.slice A n cap, .int .i64 1] w fun e w2 => e = .returned (.int .i64 (1 + (n : Int))) ∧ w = w2 := by
  go_enter Try.func37, Try.ntmps37
  go_wp2_with fail
  go_loop [1, 5] (fun t i => ∃ k : Nat, k ≤ n ∧ i = .int .i64 k ∧ t = .int .i64 (1 + (k : Int))) (fun _ i => n - (intOf i).toNat)
  case atStart => exact ⟨0, Nat.zero_le _, rfl, rfl⟩
  case round =>
    obtain ⟨k, hk, rfl, rfl⟩ := hrel
    by_cases hlt : k < n
    · obtain ⟨b, off, hA, hbb, hc⟩ := hr.ints (by omega)
      subst hA
      have c1 := hc k _ (markI_at hlt)
      have hkl : (k : Int) < (n : Int) := by omega
      clear hc hr
      go_wp2_with fail
      go_round
      case rel => exact ⟨k + 1, by omega, by go_num, by rw [show (1 : Int) + ((k + 1 : Nat) : Int) = 1 + (k : Int) + 1 from by omega]⟩
      case measure => simp [intOf]; omega
    · have hkl : k = n := by omega
      have HK := Lib.hid hkl
      clear hkl
      go_wp2_with fail
      go_ret
      exact ⟨ret_int (by rw [HK.out]), rfl⟩
end Go.Proofs.Ytfcjhpgohcbcaaa
