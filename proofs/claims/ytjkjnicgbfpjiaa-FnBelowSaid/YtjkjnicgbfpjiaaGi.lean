/- What the program's checks of contexts and of their relations return. -/
import Derived.Test.YtjkjnicgbfpjiaaP2
import Derived.Test.YtjkjnicgbfpjiaaPe
import Derived.StillTailTactics
namespace Go.Proofs.Ytjkjnicgbfpjiaa
open Go.RowKit

theorem indexI_any (A : Option Addr) (cap : Nat) (l : List Int) (n : Int) (w : World) (hr : Reads w w.heap.size 1 A l.length (cellsI l)) (hl : l.length ≤ 1000000000000) :
    Calls Try.prog 70 #[.slice A l.length cap, .int .i64 n] w fun e w2 => e = .returned (.int .i64 (findI l n)) ∧ w = w2 := by
  go_enter Try.func70, Try.ntmps70
  go_wp2_with fail
  go_loop [8] (fun i => ∃ k : Nat, k ≤ l.length ∧ i = .int .i64 k ∧ ∀ (j : Nat) (c : Int), j < k → l[j]? = some c → c ≠ n) (fun i => l.length - (intOf i).toNat)
  case atStart => exact ⟨0, Nat.zero_le _, rfl, fun j c h => absurd h (by omega)⟩
  case round =>
    obtain ⟨k, hk, rfl, hg⟩ := hrel
    have HG := Lib.hid hg; clear hg
    by_cases hlt : k < l.length
    · obtain ⟨b, off, hA, hbl, hc⟩ := hr.ints (by omega)
      subst hA
      have hk0 : l[k]? = some l[k] := List.getElem?_eq_getElem hlt
      have c1 := hc k _ hk0
      have HK := Lib.hid hk0
      clear hc hk0 hr
      by_cases h0 : l[k] = n
      · have e0 : (n == l[k]) = true := by simp [h0]
        have H0 := Lib.hid h0
        clear h0
        go_wp2_with fail
        go_ret
        exact ⟨ret_int (findI_at l n k HG.out (H0.out ▸ HK.out)).symm, rfl⟩
      · have e0 : (n == l[k]) = false := by simp; exact fun e => h0 e.symm
        have H0 := Lib.hid h0
        clear h0
        go_wp2_with fail
        go_round
        case rel =>
          refine ⟨k + 1, by omega, by go_num, fun j c hj hc => ?_⟩
          by_cases hj2 : j < k
          · exact HG.out j c hj2 hc
          · obtain rfl : j = k := by omega
            rw [HK.out] at hc
            injection hc with hc
            exact hc ▸ H0.out
        case measure => simp [intOf]; omega
    · go_wp2_with fail
      go_ret
      exact ⟨ret_int (findI_none l n fun j c hc => HG.out j c (by have := (List.getElem?_eq_some_iff.1 hc).1; omega) hc).symm, rfl⟩

theorem containsI_any (A : Option Addr) (cap : Nat) (l : List Int) (n : Int) (w : World) (hr : Reads w w.heap.size 1 A l.length (cellsI l)) (hl : l.length ≤ 1000000000000) :
    Calls Try.prog 90 #[.slice A l.length cap, .int .i64 n] w fun e w2 => e = .returned (.bool (decide (n ∈ l))) ∧ w = w2 := by
  go_enter Try.func90, Try.ntmps90
  go_wp2_with fail
  refine (indexI_any A cap l n w hr hl).mono ?_
  rintro e w2 ⟨rfl, rfl⟩
  go_wp2_with fail
  go_ret
  exact ⟨ret_bool (findI_mem l n), rfl⟩

theorem goodI_next {l : List Int} {k : Nat} {c d : Int} (hk : l[k]? = some c) (h : inR c 1 99 = true) (hd : (k = 0 ∧ d = 0) ∨ (0 < k ∧ l[k-1]? = some d)) (hlt : d < c) : goodO okI lessI l k = true := by
  rcases hd with ⟨h0, _⟩ | ⟨_, hd⟩
  · exact goodO_first h0 hk h
  · exact goodO_next hk hd h (by simp [lessI, hlt])
theorem goodI_less {l : List Int} {k : Nat} {c d : Int} (hk : l[k]? = some c) (hd : (k = 0 ∧ d = 0) ∨ (0 < k ∧ l[k-1]? = some d)) (hle : c ≤ d) : goodO okI lessI l k = false := by
  rcases hd with ⟨h0, hd⟩ | ⟨hp, hd⟩
  · refine goodO_bad hk ?_
    simp [okI, inR]; omega
  · exact goodO_less hp hk hd (by simp [lessI]; omega)
set_option maxHeartbeats 800000 in
set_option maxRecDepth 100000 in
theorem iIds_any (A : Option Addr) (cap : Nat) (l : List Int) (w : World) (hr : Reads w w.heap.size 1 A l.length (cellsI l)) (hl : l.length ≤ 1000000000000) :
    Calls Try.prog 62 #[.slice A l.length cap] w fun e w2 => e = .returned (.bool (validI l)) ∧ w = w2 := by
  by_cases hlen : l.length ≤ 12
  · have e12 : decide ((12 : Int) < (l.length : Int)) = false := by simp; omega
    go_enter Try.func62, Try.ntmps62
    go_wp2_with fail
    go_loop [3, 11] (fun d i => ∃ (k : Nat) (x : Int), k ≤ l.length ∧ i = .int .i64 k ∧ d = .int .i64 x ∧ ((k = 0 ∧ x = 0) ∨ (0 < k ∧ l[k-1]? = some x)) ∧ ∀ j, j < k → goodO okI lessI l j = true) (fun _ i => l.length - (intOf i).toNat)
    case atStart => exact ⟨0, 0, Nat.zero_le _, rfl, rfl, .inl ⟨rfl, rfl⟩, fun j h => absurd h (by omega)⟩
    case round =>
      obtain ⟨k, x, hk, rfl, rfl, hd, hg⟩ := hrel
      have HG := Lib.hid hg; clear hg
      have HD := Lib.hid hd; clear hd
      by_cases hlt : k < l.length
      · obtain ⟨b, off, hA, hbl, hc⟩ := hr.ints (by omega)
        subst hA
        have hk0 : l[k]? = some l[k] := List.getElem?_eq_getElem hlt
        have c1 := hc k _ hk0
        have HK := Lib.hid hk0
        clear hc hk0 hr
        cases h1 : inR l[k] 1 99
        · have H1 := Lib.hid h1
          clear h1
          have h1 := H1.out
          go_wp2_with (go_at_call 89; refine (iIn_any _ _ _ _).mono ?_; rintro e w2 ⟨rfl, rfl⟩)
          go_ret
          exact ⟨ret_bool (validO_no hlt (goodO_bad HK.out H1.out)).symm, rfl⟩
        · by_cases h2 : l[k] ≤ x
          · have e2 : decide (l[k] ≤ x) = true := by simp [h2]
            have H2 := Lib.hid h2
            clear h2
            go_wp2_with (go_at_call 89; refine (iIn_any _ _ _ _).mono ?_; rintro e w2 ⟨rfl, rfl⟩)
            go_ret
            exact ⟨ret_bool (validO_no hlt (goodI_less HK.out HD.out H2.out)).symm, rfl⟩
          · have e2 : decide (l[k] ≤ x) = false := by simp; omega
            have H1 := Lib.hid h1
            have H2 := Lib.hid (Int.not_le.1 h2)
            clear h2
            go_wp2_with (go_at_call 89; refine (iIn_any _ _ _ _).mono ?_; rintro e w2 ⟨rfl, rfl⟩)
            go_round
            case rel =>
              refine ⟨k + 1, l[k], by omega, by go_num, rfl, .inr ⟨by omega, by rw [Nat.add_sub_cancel]; exact HK.out⟩, fun j hj => ?_⟩
              by_cases hj2 : j < k
              · exact HG.out j hj2
              · obtain rfl : j = k := by omega
                exact goodI_next HK.out H1.out HD.out H2.out
            case measure => simp [intOf]; omega
      · go_wp2_with fail
        go_ret
        refine ⟨ret_bool ?_, rfl⟩
        show _ = validI l
        unfold validI
        rw [validO_of (fun j hj => HG.out j (by omega)), eq_comm, decide_eq_true_eq]
        exact hlen
  · have e12 : decide ((12 : Int) < (l.length : Int)) = true := by simp; omega
    go_enter Try.func62, Try.ntmps62
    go_wp2_with fail
    go_ret
    exact ⟨ret_bool (validO_long (by omega)).symm, rfl⟩

theorem amongR_no {ids : List Int} {l : List Ctx} {k : Nat} (hk : k < l.length) (h : l[k].id ∉ ids ∨ l[k].kind ∉ ids) : amongR ids l = false := by
  unfold amongR
  rw [List.all_eq_false]
  refine ⟨l[k], List.getElem_mem hk, ?_⟩
  rcases h with h | h <;> simp [h]
theorem amongR_of {ids : List Int} {l : List Ctx} (h : ∀ j (hj : j < l.length), l[j].id ∈ ids ∧ l[j].kind ∈ ids) : amongR ids l = true := by
  unfold amongR
  rw [List.all_eq_true]
  intro r hr
  obtain ⟨j, hj, rfl⟩ := List.mem_iff_getElem.1 hr
  simp [h j hj]
set_option maxHeartbeats 800000 in
set_option maxRecDepth 100000 in
theorem iAmong_any (A B : Option Addr) (ca cb : Nat) (ids : List Int) (l : List Ctx) (w : World) (ha : Reads w w.heap.size 1 A ids.length (cellsI ids)) (hb : Reads w w.heap.size 3 B l.length (cellsC l)) (hn : ids.length ≤ 1000000000000) (hl : l.length ≤ 1000000000000) :
    Calls Try.prog 63 #[.slice A ids.length ca, .slice B l.length cb] w fun e w2 => e = .returned (.bool (amongR ids l)) ∧ Below w.heap.size w w2 := by
  go_enter Try.func63, Try.ntmps63
  go_wp2_with fail
  go_loopw [9] (fun i wr => ∃ k : Nat, k ≤ l.length ∧ i = .int .i64 k ∧ Below w.heap.size w wr ∧ ∀ j (hj : j < l.length), j < k → l[j].id ∈ ids ∧ l[j].kind ∈ ids) (fun i _ => l.length - (intOf i).toNat)
  case atStart => exact ⟨0, Nat.zero_le _, rfl, Below.refl _ _, fun j _ h => absurd h (by omega)⟩
  case round =>
    obtain ⟨k, hk, rfl, hbl, hg⟩ := hrel
    have HG := Lib.hid hg; clear hg
    by_cases hlt : k < l.length
    · obtain ⟨b, off, hB, hbb, hc⟩ := (hb.below hbl).ctx (by omega)
      subst hB
      have hk0 : l[k]? = some l[k] := List.getElem?_eq_getElem hlt
      obtain ⟨c1, c2, c3⟩ := hc k _ hk0
      have ha2 : ∀ t, Reads (wr.alloc (.cells #[.int .i64 l[k].id, .int .i64 l[k].kind, .int .i64 l[k].area] t)) (wr.alloc (.cells #[.int .i64 l[k].id, .int .i64 l[k].kind, .int .i64 l[k].area] t)).heap.size 1 A ids.length (cellsI ids) := fun t => ha.step (hbl.alloc hbl.size _)
      clear hc hk0 ha
      have HB := Lib.hid hbl
      clear hbl
      by_cases h1 : l[k].id ∈ ids
      · have e1 : decide (l[k].id ∈ ids) = true := by simp [h1]
        by_cases h2 : l[k].kind ∈ ids
        · have e2 : decide (l[k].kind ∈ ids) = true := by simp [h2]
          have H12 := Lib.hid (And.intro h1 h2)
          clear h1 h2
          go_wp2_with (go_at_call 90; go_must (refine (containsI_any A ca ids _ _ (ha2 _) hn).mono ?_); rintro e w2 ⟨rfl, rfl⟩)
          go_roundw
          case rel =>
            refine ⟨k + 1, by omega, by go_num, HB.out.alloc HB.out.size _, fun j hj hjk => ?_⟩
            by_cases hj2 : j < k
            · exact HG.out j hj hj2
            · obtain rfl : j = k := by omega
              exact H12.out
          case measure => simp [intOf]; omega
        · have e2 : decide (l[k].kind ∈ ids) = false := by simp [h2]
          have H2 := Lib.hid h2
          clear h1 h2
          go_wp2_with (go_at_call 90; go_must (refine (containsI_any A ca ids _ _ (ha2 _) hn).mono ?_); rintro e w2 ⟨rfl, rfl⟩)
          go_ret
          exact ⟨ret_bool (amongR_no hlt (.inr H2.out)).symm, HB.out.alloc HB.out.size _⟩
      · have e1 : decide (l[k].id ∈ ids) = false := by simp [h1]
        have H1 := Lib.hid h1
        clear h1
        go_wp2_with (go_at_call 90; go_must (refine (containsI_any A ca ids _ _ (ha2 _) hn).mono ?_); rintro e w2 ⟨rfl, rfl⟩)
        go_ret
        exact ⟨ret_bool (amongR_no hlt (.inl H1.out)).symm, HB.out.alloc HB.out.size _⟩
    · go_wp2_with fail
      go_ret
      exact ⟨ret_bool (amongR_of fun j hj => HG.out j hj (by omega)).symm, hbl⟩
end Go.Proofs.Ytjkjnicgbfpjiaa
