/- Copies of rows as the library makes them: of numbers, of Booleans; whether a number is in a list. -/
import Derived.Test.YtapmeooffmonmaaTw
import Derived.Test.YtapmeooffmonmaaPc
import Derived.Lib.SliceRun
namespace Go.Proofs.Ytapmeooffmonmaa
open Go.RowKit

theorem bools_oneC (r : List Bool) : ∀ u ∈ r.map encB, u.oneCell' = true := by
  intro u hu
  obtain ⟨b, _, rfl⟩ := List.mem_map.1 hu
  rfl
set_option maxHeartbeats 1600000 in
set_option maxRecDepth 100000 in
theorem cloneB_any (A : Option Addr) (c : Nat) (r : List Bool) (w : World) (hr : Reads w w.heap.size 1 A r.length (r.map encB)) (hl : r.length ≤ 1000000000) :
    Calls Try.prog 65 #[.slice A r.length c] w fun e w2 => ∃ v, e = .returned v ∧ Below w.heap.size w w2 ∧ w2.ownsRow w.heap.size 4 1 v r.length (r.map encB) := by
  obtain ⟨ib, hib, hbz, hbs, hbb⟩ := info_parts infoBool
  have qT : ∀ (W : World) (a : Option Addr) (n c n' c' : Nat), (binOp .eql 26 (.slice a n c) (.slice none n' c')).run Try.prog W = .ok (.bool a.isNone) W := fun W a n c n' c' => Lib.run_eql_slice_nil W _ _ a n c n' c' Try.underlying26
  have hE : (w.alloc (.cells #[] 4)).ownsRow w.heap.size 4 1 (.slice (some ⟨w.heap.size, 0, none⟩) 0 0) 0 [] := own_empty (Nat.le_refl _) rfl
  have b1 : Below w.heap.size w (w.alloc (.cells #[] 4)) := (Below.refl _ _).alloc (Nat.le_refl _) _
  have H := Lib.hid (And.intro hr (And.intro hE b1))
  clear hr hE b1
  rcases A with _ | ad
  · have h0 : r = [] := by
      have h1 := H.out.1
      rcases Nat.eq_zero_or_pos r.length with h | h
      · exact List.eq_nil_of_length_eq_zero h
      · obtain ⟨b, off, e, _⟩ := h1.2 h
        cases e
    have H0 := Lib.hid h0
    clear h0
    go_enter Try.func65, Try.ntmps65
    go_wp2_with fail
    go_ret
    refine ⟨_, rfl, Below.refl _ _, ?_⟩
    rw [H0.out]
    exact World.ownsRow_nil _ _ _ _
  · go_enter Try.func65, Try.ntmps65
    go_wp2_with (at_builtin
                 go_must (refine wpList_append_reads _ rfl (.tmp 5) (.tmp 6) _ rfl w.heap.size 4 ib _ 1 1 Try.underlying26 hib hbz hbs hbb rfl (by omega) (.slice (some ⟨w.heap.size, 0, none⟩) 0 0) 0 [] rfl H.out.2.1 w.heap.size (some ad) r.length c (r.map encB) rfl (H.out.1.below H.out.2.2) (bools_oneC r) (by simp only [maxLen]; omega) (by omega) (by simp) ?_)
                 intro v5 w5 hown5 hg5 hat5)
    go_ret
    rw [List.nil_append, Nat.zero_add] at hown5
    exact ⟨_, rfl, H.out.2.2.grown hg5 (by simp) (fun j hj => by simp [Value.ownBlock] at hj; omega), hown5⟩
set_option maxHeartbeats 1600000 in
set_option maxRecDepth 100000 in
theorem cloneI_any (A : Option Addr) (c : Nat) (r : List Int) (w : World) (hr : Reads w w.heap.size 1 A r.length (cellsI r)) (hl : r.length ≤ 1000000000) :
    Calls Try.prog 63 #[.slice A r.length c] w fun e w2 => ∃ v, e = .returned v ∧ Below w.heap.size w w2 ∧ w2.ownsRow w.heap.size 3 1 v r.length (cellsI r) := by
  obtain ⟨ib, hib, hbz, hbs, hbb⟩ := info_parts infoInt
  have qT : ∀ (W : World) (a : Option Addr) (n c n' c' : Nat), (binOp .eql 28 (.slice a n c) (.slice none n' c')).run Try.prog W = .ok (.bool a.isNone) W := fun W a n c n' c' => Lib.run_eql_slice_nil W _ _ a n c n' c' Try.underlying28
  have hE : (w.alloc (.cells #[] 3)).ownsRow w.heap.size 3 1 (.slice (some ⟨w.heap.size, 0, none⟩) 0 0) 0 [] := own_empty (Nat.le_refl _) rfl
  have b1 : Below w.heap.size w (w.alloc (.cells #[] 3)) := (Below.refl _ _).alloc (Nat.le_refl _) _
  have H := Lib.hid (And.intro hr (And.intro hE b1))
  clear hr hE b1
  rcases A with _ | ad
  · have h0 : r = [] := by
      have h1 := H.out.1
      rcases Nat.eq_zero_or_pos r.length with h | h
      · exact List.eq_nil_of_length_eq_zero h
      · obtain ⟨b, off, e, _⟩ := h1.2 h
        cases e
    have H0 := Lib.hid h0
    clear h0
    go_enter Try.func63, Try.ntmps63
    go_wp2_with fail
    go_ret
    refine ⟨_, rfl, Below.refl _ _, ?_⟩
    rw [H0.out]
    exact World.ownsRow_nil _ _ _ _
  · go_enter Try.func63, Try.ntmps63
    go_wp2_with (at_builtin
                 go_must (refine wpList_append_reads _ rfl (.tmp 5) (.tmp 6) _ rfl w.heap.size 3 ib _ 1 8 Try.underlying28 hib hbz hbs hbb rfl (by omega) (.slice (some ⟨w.heap.size, 0, none⟩) 0 0) 0 [] rfl H.out.2.1 w.heap.size (some ad) r.length c (cellsI r) rfl (H.out.1.below H.out.2.2) (cellsI_one _) (by simp only [maxLen]; omega) (by omega) (by simp) ?_)
                 intro v5 w5 hown5 hg5 hat5)
    go_ret
    rw [List.nil_append, Nat.zero_add] at hown5
    exact ⟨_, rfl, H.out.2.2.grown hg5 (by simp) (fun j hj => by simp [Value.ownBlock] at hj; omega), hown5⟩
theorem indexIs_any (A : Option Addr) (cap : Nat) (l : List Int) (n : Int) (w : World) (hr : Reads w w.heap.size 1 A l.length (cellsI l)) (hl : l.length ≤ 1000000000000) :
    Calls Try.prog 64 #[.slice A l.length cap, .int .i64 n] w fun e w2 => e = .returned (.int .i64 (findI l n)) ∧ w = w2 := by
  go_enter Try.func64, Try.ntmps64
  go_wp2_with fail
  go_loop [8] (fun i => ∃ k : Nat, k ≤ l.length ∧ i = .int .i64 k ∧ ∀ (j : Nat) (c : Int), j < k → l[j]? = some c → c ≠ n) (fun i => l.length - (intOf i).toNat)
  case atStart => exact ⟨0, Nat.zero_le _, rfl, fun j c h => absurd h (by omega)⟩
  case round =>
    obtain ⟨k, hk, rfl, hg⟩ := hrel
    have HG := Lib.hid hg; clear hg
    by_cases hlt : k < l.length
    · obtain ⟨b, off, hA, hbl, hc⟩ := hr.ints (by omega)
      subst hA
      have hk0 : l[k]? = some l[k] := List.getElem?_eq_getElem hlt
      have c1 := hc k _ hk0
      have HK := Lib.hid hk0
      clear hc hk0 hr
      by_cases h0 : l[k] = n
      · have e0 : (n == l[k]) = true := by simp [h0]
        have H0 := Lib.hid h0
        clear h0
        go_wp2_with fail
        go_ret
        exact ⟨ret_int (findI_at l n k HG.out (H0.out ▸ HK.out)).symm, rfl⟩
      · have e0 : (n == l[k]) = false := by simp; exact fun e => h0 e.symm
        have H0 := Lib.hid h0
        clear h0
        go_wp2_with fail
        go_round
        case rel =>
          refine ⟨k + 1, by omega, by go_num, fun j c hj hc => ?_⟩
          by_cases hj2 : j < k
          · exact HG.out j c hj2 hc
          · obtain rfl : j = k := by omega
            rw [HK.out] at hc
            injection hc with hc
            exact hc ▸ H0.out
        case measure => simp [intOf]; omega
    · go_wp2_with fail
      go_ret
      exact ⟨ret_int (findI_none l n fun j c hc => HG.out j c (by have := (List.getElem?_eq_some_iff.1 hc).1; omega) hc).symm, rfl⟩
theorem containsIs_any (A : Option Addr) (cap : Nat) (l : List Int) (n : Int) (w : World) (hr : Reads w w.heap.size 1 A l.length (cellsI l)) (hl : l.length ≤ 1000000000000) :
    Calls Try.prog 53 #[.slice A l.length cap, .int .i64 n] w fun e w2 => e = .returned (.bool (decide (n ∈ l))) ∧ w = w2 := by
  go_enter Try.func53, Try.ntmps53
  go_wp2_with fail
  refine (indexIs_any A cap l n w hr hl).mono ?_
  rintro e w2 ⟨rfl, rfl⟩
  go_wp2_with fail
  go_ret
  exact ⟨ret_bool (findI_mem l n), rfl⟩
end Go.Proofs.Ytapmeooffmonmaa
