/- What the model's checks of contexts and of their relations return. -/
import Derived.Test.YtmcnjmflmpfjlaaA2
import Derived.Test.YtmcnjmflmpfjlaaSel
namespace Go.Proofs.Ytmcnjmflmpfjlaa
open Go.RowKit

theorem l6In_quiet (n lo hi : Int) {B : Nat} {w : World} (x : Ext B w) : Calls Try.prog 95 #[.int .i64 n, .int .i64 lo, .int .i64 hi] x.val fun e w2 => e = .returned (.bool (inR n lo hi)) ∧ ∃ y : Ext B w, w2 = y.val :=
  calls_ext_same (l6In_any n lo hi x.val)
set_option maxHeartbeats 800000 in
set_option maxRecDepth 100000 in
theorem sIds_any (A : Option Addr) (cap : Nat) (l : List Int) (w : World) (hr : Reads w w.heap.size 1 A l.length (cellsI l)) (hl : l.length ≤ 1000000000000) :
    Calls Try.prog 61 #[.slice A l.length cap] w fun e w2 => e = .returned (.bool (validI l)) ∧ Below w.heap.size w w2 := by
  go_enter Try.func61, Try.ntmps61
  go_wp2_with fail
  go_loopw [3] (fun i wr => ∃ k : Nat, k ≤ l.length ∧ i = .int .i64 k ∧ Below w.heap.size w wr ∧ ∀ j, j < k → goodO okI lessI l j = true) (fun i _ => l.length - (intOf i).toNat)
  case atStart => exact ⟨0, Nat.zero_le _, rfl, Below.refl _ _, fun j h => absurd h (by omega)⟩
  case round =>
    obtain ⟨k, hk, rfl, hb, hg⟩ := hrel
    have HG := Lib.hid hg; clear hg
    by_cases hlt : k < l.length
    · obtain ⟨b, off, hA, hbl, hc⟩ := (hr.below hb).ints (by omega)
      subst hA
      have hk0 : l[k]? = some l[k] := List.getElem?_eq_getElem hlt
      have HK := Lib.hid hk0
      have c1 := hc k _ hk0
      have hx := ext_cell (w := wr) hbl
      clear hr hk0
      cases h1 : inR l[k] 1 99
      · have HO := Lib.hid h1
        clear hc
        go_wp2_with fail
        refine wp_region_ext w.heap.size (by kernel_rfl) (by kernel_rfl) ?_
        repeat (go_big_quiet_step ((go_at_call 95; exact l6In_quiet _ _ _ _)))
        refine wpQuiet_nil ?_
        rintro _ ⟨x, rfl⟩
        go_wp2_with fail
        go_ret
        exact ⟨ret_bool (validO_no hlt (goodO_bad HK.out HO.out)).symm, hb.trans x.below⟩
      · rcases Nat.eq_zero_or_pos k with h0 | hpos
        · clear hc
          have HO := Lib.hid h1
          have e0 : decide (0 < k) = false := by simp; omega
          have H0 := Lib.hid h0; clear h0
          go_wp2_with fail
          refine wp_region_ext w.heap.size (by kernel_rfl) (by kernel_rfl) ?_
          repeat (go_big_quiet_step ((go_at_call 95; exact l6In_quiet _ _ _ _)))
          refine wpQuiet_nil ?_
          rintro _ ⟨x, rfl⟩
          go_wp2_with fail
          go_roundw
          case rel =>
            refine ⟨k + 1, by omega, by go_num, hb.trans x.below, fun j hj => ?_⟩
            by_cases hj2 : j < k
            · exact HG.out j hj2
            · obtain rfl : j = k := by omega
              exact goodO_first H0.out HK.out HO.out
          case measure => simp [intOf]; omega
        · have hk1 : l[k-1]? = some l[k-1] := List.getElem?_eq_getElem (by omega)
          have HK1 := Lib.hid hk1
          have d1 := hc (k-1) _ hk1
          clear hc hk1
          have HO := Lib.hid h1
          have e0 : decide (0 < k) = true := by simp; omega
          have e1 : ((k : Int) - 1).toNat = k - 1 := by omega
          by_cases h2 : l[k] ≤ l[k-1]
          · have e2 : decide (l[k] ≤ l[k-1]) = true := by simp [h2]
            have H2 : Hid (lessI l[k-1] l[k] = false) := by show lessI l[k-1] l[k] = false; simp [lessI]; omega
            clear h2
            go_wp2_with fail
            refine wp_region_ext w.heap.size (by kernel_rfl) (by kernel_rfl) ?_
            repeat (go_big_quiet_step ((go_at_call 95; exact l6In_quiet _ _ _ _)))
            refine wpQuiet_nil ?_
            rintro _ ⟨x, rfl⟩
            go_wp2_with fail
            go_ret
            exact ⟨ret_bool (validO_no hlt (goodO_less hpos HK.out HK1.out H2.out)).symm, hb.trans x.below⟩
          · have e2 : decide (l[k] ≤ l[k-1]) = false := by simp; omega
            have H2 : Hid (lessI l[k-1] l[k] = true) := by show lessI l[k-1] l[k] = true; simp [lessI]; omega
            clear h2
            go_wp2_with fail
            refine wp_region_ext w.heap.size (by kernel_rfl) (by kernel_rfl) ?_
            repeat (go_big_quiet_step ((go_at_call 95; exact l6In_quiet _ _ _ _)))
            refine wpQuiet_nil ?_
            rintro _ ⟨x, rfl⟩
            go_wp2_with fail
            go_roundw
            case rel =>
              refine ⟨k + 1, by omega, by go_num, hb.trans x.below, fun j hj => ?_⟩
              by_cases hj2 : j < k
              · exact HG.out j hj2
              · obtain rfl : j = k := by omega
                exact goodO_next HK.out HK1.out HO.out H2.out
            case measure => simp [intOf]; omega
    · have hkl : k = l.length := by omega
      have HK := Lib.hid hkl
      clear hkl
      go_wp2_with fail
      go_ret
      refine ⟨ret_bool ?_, hb⟩
      show _ = validI l
      unfold validI
      rw [validO_of (fun j hj => HG.out j (by rw [HK.out]; exact hj)), decide_eq_decide]
      omega

theorem sPlace_any (A : Option Addr) (cap : Nat) (l : List Int) (n : Int) (w : World) (hr : Reads w w.heap.size 1 A l.length (cellsI l)) (hl : l.length ≤ 1000000000000) :
    Calls Try.prog 79 #[.slice A l.length cap, .int .i64 n] w fun e w2 => e = .returned (.int .i64 (findI l n)) ∧ w = w2 := by
  go_enter Try.func79, Try.ntmps79
  go_wp2_with fail
  go_loop [5] (fun i => ∃ k : Nat, k ≤ l.length ∧ i = .int .i64 k ∧ ∀ (j : Nat) (c : Int), j < k → l[j]? = some c → c ≠ n) (fun i => l.length - (intOf i).toNat)
  case atStart => exact ⟨0, Nat.zero_le _, rfl, fun j c h => absurd h (by omega)⟩
  case round =>
    obtain ⟨k, hk, rfl, hg⟩ := hrel
    have HG := Lib.hid hg; clear hg
    by_cases hlt : k < l.length
    · obtain ⟨b, off, hA, hbl, hc⟩ := hr.ints (by omega)
      subst hA
      have hk0 : l[k]? = some l[k] := List.getElem?_eq_getElem hlt
      have c1 := hc k _ hk0
      have HK := Lib.hid hk0
      clear hc hk0 hr
      by_cases h0 : l[k] = n
      · have e0 : (l[k] == n) = true := by simp [h0]
        have H0 := Lib.hid h0
        clear h0
        go_wp2_with fail
        go_ret
        exact ⟨ret_int (findI_at l n k HG.out (H0.out ▸ HK.out)).symm, rfl⟩
      · have e0 : (l[k] == n) = false := by simp [h0]
        have H0 := Lib.hid h0
        clear h0
        go_wp2_with fail
        go_round
        case rel =>
          refine ⟨k + 1, by omega, by go_num, fun j c hj hc => ?_⟩
          by_cases hj2 : j < k
          · exact HG.out j c hj2 hc
          · obtain rfl : j = k := by omega
            rw [HK.out] at hc
            injection hc with hc
            exact hc ▸ H0.out
        case measure => simp [intOf]; omega
    · go_wp2_with fail
      go_ret
      exact ⟨ret_int (findI_none l n fun j c hc => HG.out j c (by have := (List.getElem?_eq_some_iff.1 hc).1; omega) hc).symm, rfl⟩
theorem findI_neg (l : List Int) (n : Int) : decide (findI l n < 0) = !decide (n ∈ l) := by
  rw [← findI_mem]
  by_cases h : 0 ≤ findI l n
  · have : ¬ findI l n < 0 := by omega
    simp [h, this]
  · have : findI l n < 0 := by omega
    simp [h, this]
theorem amongS_no {ids : List Int} {l : List Ctx} {k : Nat} (hk : k < l.length) (h : l[k].id ∉ ids ∨ l[k].kind ∉ ids) : amongR ids l = false := by
  unfold amongR
  rw [List.all_eq_false]
  refine ⟨l[k], List.getElem_mem hk, ?_⟩
  rcases h with h | h <;> simp [h]
theorem amongS_of {ids : List Int} {l : List Ctx} (h : ∀ j (hj : j < l.length), l[j].id ∈ ids ∧ l[j].kind ∈ ids) : amongR ids l = true := by
  unfold amongR
  rw [List.all_eq_true]
  intro r hr
  obtain ⟨j, hj, rfl⟩ := List.mem_iff_getElem.1 hr
  simp [h j hj]
set_option maxHeartbeats 800000 in
set_option maxRecDepth 100000 in
theorem sOk_any (A B : Option Addr) (ca cb : Nat) (ids : List Int) (l : List Ctx) (w : World) (ha : Reads w w.heap.size 1 A ids.length (cellsI ids)) (hb : Reads w w.heap.size 3 B l.length (cellsC l)) (hn : ids.length ≤ 1000000000000) (hl : l.length ≤ 1000000000000) :
    Calls Try.prog 60 #[.slice A ids.length ca, .slice B l.length cb] w fun e w2 => e = .returned (.bool (okG ids l)) ∧ Below w.heap.size w w2 := by
  cases h1 : validI ids
  · go_enter Try.func60, Try.ntmps60
    go_wp2_with (go_at_call 61; go_must (refine (sIds_any _ _ ids _ ha hn).mono ?_); rintro e w2 ⟨rfl, k2⟩)
    go_ret
    exact ⟨ret_bool (by simp [okG, h1]), k2⟩
  · cases h2 : validR l
    · go_enter Try.func60, Try.ntmps60
      go_wp2_with (first
        | (go_at_call 61; go_must (refine (sIds_any _ _ ids _ ha hn).mono ?_); rintro e w2 ⟨rfl, k2⟩)
        | (go_at_call 94; go_must (refine (sValidR_any _ _ l _ (hb.step k2) (by omega)).mono ?_); rintro e w3 ⟨rfl, k3⟩))
      go_ret
      exact ⟨ret_bool (by simp [okG, h2]), below_step k2 k3⟩
    · have HK : Hid (okG ids l = amongR ids l) := by show okG ids l = amongR ids l; simp [okG, h1, h2]
      go_enter Try.func60, Try.ntmps60
      go_wp2_with (first
        | (go_at_call 61; go_must (refine (sIds_any _ _ ids _ ha hn).mono ?_); rintro e w2 ⟨rfl, k2⟩)
        | (go_at_call 94; go_must (refine (sValidR_any _ _ l _ (hb.step k2) (by omega)).mono ?_); rintro e w3 ⟨rfl, k3⟩))
      have ha3 := ha.step (below_step k2 k3)
      have hb3 := hb.step (below_step k2 k3)
      clear ha hb
      go_loop [5] (fun i => ∃ k : Nat, k ≤ l.length ∧ i = .int .i64 k ∧ ∀ j (hj : j < l.length), j < k → l[j].id ∈ ids ∧ l[j].kind ∈ ids) (fun i => l.length - (intOf i).toNat)
      case atStart => exact ⟨0, Nat.zero_le _, rfl, fun j _ h => absurd h (by omega)⟩
      case round =>
        obtain ⟨k, hk, rfl, hg⟩ := hrel
        have HG := Lib.hid hg; clear hg
        by_cases hlt : k < l.length
        · obtain ⟨b, off, hB, hbb, hc⟩ := hb3.ctx (by omega)
          subst hB
          have hk0 : l[k]? = some l[k] := List.getElem?_eq_getElem hlt
          obtain ⟨c1, c2, c3⟩ := hc k _ hk0
          have hkl : (k : Int) < (l.length : Int) := by omega
          have n1 := findI_neg ids l[k].id
          have n2 := findI_neg ids l[k].kind
          clear hc hk0 hb3
          by_cases h1 : l[k].id ∈ ids
          · have e1 : decide (findI ids l[k].id < 0) = false := by rw [n1]; simp [h1]
            by_cases h2 : l[k].kind ∈ ids
            · have e2 : decide (findI ids l[k].kind < 0) = false := by rw [n2]; simp [h2]
              have H12 := Lib.hid (And.intro h1 h2)
              clear h1 h2 n1 n2
              go_wp2_with (go_at_call 79; go_must (refine (sPlace_any A ca ids _ _ ha3 hn).mono ?_); rintro e w4 ⟨rfl, rfl⟩)
              go_round
              case rel =>
                refine ⟨k + 1, by omega, by go_num, fun j hj hjk => ?_⟩
                by_cases hj2 : j < k
                · exact HG.out j hj hj2
                · obtain rfl : j = k := by omega
                  exact H12.out
              case measure => simp [intOf]; omega
            · have e2 : decide (findI ids l[k].kind < 0) = true := by rw [n2]; simp [h2]
              have H2 := Lib.hid h2
              clear h1 h2 n1 n2
              go_wp2_with (go_at_call 79; go_must (refine (sPlace_any A ca ids _ _ ha3 hn).mono ?_); rintro e w4 ⟨rfl, rfl⟩)
              go_ret
              exact ⟨ret_bool (HK.out.trans (amongS_no hlt (.inr H2.out))).symm, below_step k2 k3⟩
          · have e1 : decide (findI ids l[k].id < 0) = true := by rw [n1]; simp [h1]
            have H1 := Lib.hid h1
            clear h1 n1 n2
            go_wp2_with (go_at_call 79; go_must (refine (sPlace_any A ca ids _ _ ha3 hn).mono ?_); rintro e w4 ⟨rfl, rfl⟩)
            go_ret
            exact ⟨ret_bool (HK.out.trans (amongS_no hlt (.inl H1.out))).symm, below_step k2 k3⟩
        · go_wp2_with fail
          go_ret
          exact ⟨ret_bool (HK.out.trans (amongS_of fun j hj => HG.out j hj (by omega))).symm, below_step k2 k3⟩
end Go.Proofs.Ytmcnjmflmpfjlaa
