/- What the laws' functions on rows of Booleans do besides comparing and marking: the size, the copies. -/
import Derived.Test.YtapmeooffmonmaaMb
namespace Go.Proofs.Ytapmeooffmonmaa
open Go.RowKit

theorem sumL_mono {L : List (List Bool)} {i j : Nat} (h : i ≤ j) : sumL L i ≤ sumL L j := by
  induction j with
  | zero => rw [Nat.le_zero.1 h]; exact Nat.le_refl _
  | succ j ih =>
    rcases Nat.lt_or_ge j i with h1 | h1
    · rw [show i = j + 1 by omega]; exact Nat.le_refl _
    · refine Nat.le_trans (ih h1) ?_
      cases hr : L[j]? with
      | none =>
        have hl := List.getElem?_eq_none_iff.1 hr
        unfold sumL
        rw [List.take_of_length_le hl, List.take_of_length_le (by omega)]
        exact Nat.le_refl _
      | some r => rw [sumL_next hr]; omega
theorem sumL_row {L : List (List Bool)} {r : List Bool} (h : r ∈ L) : r.length ≤ sumL L L.length := by
  obtain ⟨i, hi, rfl⟩ := List.mem_iff_getElem.1 h
  have h1 := sumL_next (List.getElem?_eq_getElem hi)
  have h2 := sumL_mono (L := L) (i := i + 1) (j := L.length) hi
  omega
theorem szBS_any (A : Option Addr) (n cap left : Nat) (w : World) (hn : n ≤ maxLen) (hl : left ≤ 1048576) :
    Calls Try.prog 58 #[.slice A n cap, .int .i64 left] w fun e w2 => e = .returned (.int .i64 (if n ≤ left then ((left - n : Nat) : Int) else -1)) ∧ w = w2 := by
  have h63 : n ≤ 9223372036854775807 := by simp only [maxLen] at hn; omega
  clear hn
  go_enter Try.func58, Try.ntmps58
  by_cases h : n ≤ left
  · rw [if_pos h]
    have e1 : (left : Int) - (n : Int) = ((left - n : Nat) : Int) := by omega
    have e2 : decide (((left - n : Nat) : Int) < 0) = false := decide_eq_false (by omega)
    go_wp2_with fail
    go_ret
    exact ⟨ret_int (by omega), rfl⟩
  · rw [if_neg h]
    have e2 : decide ((left : Int) - (n : Int) < 0) = true := decide_eq_true (by omega)
    go_wp2_with fail
    go_ret
    exact ⟨rfl, rfl⟩
set_option maxHeartbeats 800000 in
set_option maxRecDepth 100000 in
theorem szBT_any (A : Option Addr) (cap left : Nat) (T : List (List Bool)) (w : World) (hn : Nest encB w w.heap.size A T.length T) (hT : T.length ≤ maxLen) (hr : ∀ r ∈ T, r.length ≤ maxLen) (hl : left ≤ 1048576) :
    Calls Try.prog 32 #[.slice A T.length cap, .int .i64 left] w fun e w2 => ∃ x : Int, e = .returned (.int .i64 x) ∧ w = w2 ∧ (0 ≤ x → T.length ≤ left ∧ sumL T T.length ≤ left) := by
  have h63 : T.length ≤ 9223372036854775807 := by simp only [maxLen] at hT; omega
  clear hT
  go_enter Try.func32, Try.ntmps32
  by_cases h : T.length ≤ left
  · have e2 : decide ((left : Int) - (T.length : Int) < 0) = false := decide_eq_false (by omega)
    go_wp2_with fail
    go_loop [1, 5] (fun t i => ∃ k : Nat, k ≤ T.length ∧ i = .int .i64 k ∧ t = .int .i64 ((left - T.length - sumL T k : Nat) : Int) ∧ T.length + sumL T k ≤ left) (fun _ i => T.length - (intOf i).toNat)
    case atStart => exact ⟨0, Nat.zero_le _, rfl, by simp [sumL]; omega, by simp [sumL]; omega⟩
    case round =>
      obtain ⟨k, hk, rfl, rfl, hle⟩ := hrel
      by_cases hlt : k < T.length
      · obtain ⟨x, hx⟩ : ∃ x, T[k]? = some x := ⟨_, List.getElem?_eq_getElem hlt⟩
        obtain ⟨b, off, A2, c2, hA, hbb, hcell, hc2, hrow⟩ := hn.row hx
        subst hA
        have hxl := hr x (List.mem_of_getElem? hx)
        obtain ⟨lf, hlf⟩ : ∃ lf, lf = left - T.length - sumL T k := ⟨_, rfl⟩
        rw [← hlf]
        have hsz := szBS_any A2 x.length c2 lf w hxl (by omega)
        obtain ⟨y, hy⟩ : ∃ y, y = (if x.length ≤ lf then ((lf - x.length : Nat) : Int) else -1) := ⟨_, rfl⟩
        rw [← hy] at hsz
        have hkl : (k : Int) < (T.length : Int) := by omega
        have HX := Lib.hid (And.intro hx (And.intro hsz (And.intro hlf hy)))
        clear hx hrow hsz hlf hy e2
        by_cases h0 : y < 0
        · have e3 : decide (y < 0) = true := decide_eq_true h0
          go_wp2_with fail
          refine HX.out.2.1.mono ?_
          rintro e w5 ⟨rfl, rfl⟩
          go_wp2_with fail
          go_ret
          exact ⟨_, rfl, rfl, fun h => absurd h (by omega)⟩
        · have e3 : decide (y < 0) = false := decide_eq_false h0
          go_wp2_with fail
          refine HX.out.2.1.mono ?_
          rintro e w5 ⟨rfl, rfl⟩
          go_wp2_with fail
          go_round
          case rel =>
            obtain ⟨h1, _, h2, h3⟩ := HX.out
            have h4 : x.length ≤ lf := by
              by_cases h5 : x.length ≤ lf
              · exact h5
              · rw [if_neg h5] at h3; omega
            rw [if_pos h4] at h3
            have h5 := sumL_next h1
            exact ⟨k + 1, by omega, by go_num, by rw [h3]; congr 2; omega, by omega⟩
          case measure => simp [intOf]; omega
      · have hkl : k = T.length := by omega
        have HK := Lib.hid hkl
        clear hkl
        go_wp2_with fail
        go_ret
        exact ⟨_, rfl, rfl, fun _ => by rw [HK.out] at hle; omega⟩
  · have e2 : decide ((left : Int) - (T.length : Int) < 0) = true := decide_eq_true (by omega)
    go_wp2_with fail
    go_ret
    exact ⟨_, rfl, rfl, fun h => absurd h (by omega)⟩
/-- Rows of the call's own that lie apart from these values are as they were. -/
def KeepsRows (w w2 : World) (vs : List Value) : Prop := ∀ (base : Nat) (e : TypeId) (size n : Nat) (v : Value) (xs : List Value), w.ownsRow base e size v n xs → (∀ g, v.ownBlock = some g → ∀ u ∈ vs, u.ownBlock ≠ some g) → w2.ownsRow base e size v n xs
set_option maxHeartbeats 800000 in
set_option maxRecDepth 100000 in
theorem markBW_any (v : Value) (vs : List Value) (base : Nat) (L : List (List Bool)) (m : Int) (w : World) (ho : OwnV encB w base 4 26 v vs L) (hbase : base ≤ w.heap.size) (hl : L.length ≤ 2000000) (hS : sumL L L.length ≤ 2000000) (hm0 : 0 ≤ m) (hm : m ≤ 1000000) :
    Calls Try.prog 36 #[v, .int .i64 m] w fun e w2 => e = .returned (.int .i64 (m + (sumL L L.length : Int))) ∧ Below base w w2 ∧ KeepsRows w w2 vs ∧ OwnV encB w2 base 4 26 v vs (mkTab m L) := by
  obtain ⟨A, c, hv, _, _⟩ := ho.nest
  have hml : (mkTab m L).length = L.length := mkTab_len _ _
  have HR := Lib.hid (And.intro hml (And.intro ho hv))
  clear hml
  rw [hv]
  clear ho hv
  go_enter Try.func36, Try.ntmps36
  go_wp2_with fail
  go_loopw [1, 5] (fun t i wr => ∃ k : Nat, k ≤ L.length ∧ i = .int .i64 k ∧ t = .int .i64 (m + (sumL L k : Int)) ∧ Below base w wr ∧ KeepsRows w wr vs ∧ OwnV encB wr base 4 26 v vs (mixL (mkTab m L) L k)) (fun _ i _ => L.length - (intOf i).toNat)
  case atStart => exact ⟨0, Nat.zero_le _, rfl, by simp [sumL], (Below.refl _ _).mono hbase, fun _ _ _ _ _ _ h _ => h, by rw [mixL_zero]; exact HR.out.2.1⟩
  case round =>
    obtain ⟨k, hk, rfl, rfl, hg, hkp, hown⟩ := hrel
    have HK0 := Lib.hid hkp
    clear hkp
    by_cases hlt : k < L.length
    · obtain ⟨x, hx⟩ : ∃ x, L[k]? = some x := ⟨_, List.getElem?_eq_getElem hlt⟩
      have hat : (mixL (mkTab m L) L k)[k]? = some x := by rw [mixL_old HR.out.1 (Nat.le_refl _), hx]
      obtain ⟨u, hu, hox⟩ := hown.row k x hat
      have hlk : (mixL (mkTab m L) L k).length = L.length := mixL_len HR.out.1 hk
      obtain ⟨go, capo, hvo, hgo1, hgo2, hou⟩ := hown.outer (by omega)
      have hcell := hou k u hu
      have hA2 := HR.out.2.2.symm.trans hvo
      injection hA2 with hA2 e2 e3
      clear e2 e3
      subst hA2
      have hxl := sumL_row (List.mem_of_getElem? hx)
      have hsl : sumL L k ≤ 2000000 := Nat.le_trans (sumL_mono hk) hS
      obtain ⟨A3, c3, hu3, _, _⟩ := Reads.of_own hox
      have hmk := markB_any u base x (m + (sumL L k : Int)) wr hox (by omega) (by omega) (by omega)
      rw [hu3] at hcell hmk
      obtain ⟨sm, hsm⟩ : ∃ sm, sm = sumL L k := ⟨_, rfl⟩
      rw [← hsm] at hmk hsl ⊢
      have HX := Lib.hid (And.intro hx (And.intro hg (And.intro hown (And.intro hu (And.intro hat (And.intro hox (And.intro hu3 (And.intro hmk hsm))))))))
      have hkl : (k : Int) < (L.length : Int) := by omega
      clear hx hg hown hat hu hlk hvo hou hox hu3 hmk hsm
      go_wp2_with fail
      refine HX.out.2.2.2.2.2.2.2.1.mono ?_
      rintro e w5 ⟨rfl, hg5, ho5⟩
      go_wp2_with fail
      go_roundw
      case rel =>
        obtain ⟨hx, hg, hown, hu, hat, hox, hu3, _, hsm⟩ := HX.out
        rw [← hu3] at hg5 ho5
        have h9 := hown.swap (s := mkRow (m + (sm : Int)) x.length) hu hat (by rw [mkRow_len]; exact ho5) hg5
        rw [hsm, mixL_set HR.out.1 (mkTab_at hx)] at h9
        exact ⟨k + 1, by omega, by go_num, by rw [sumL_next hx, hsm, Int.natCast_add, Int.add_assoc], hg.trans (app_below0 hox (Nat.le_refl _) (Nat.le_trans hbase hg.size) hg5), fun b1 e1 s1 n1 v1 xs1 h1 h2 => own_other (HK0.out b1 e1 s1 n1 v1 xs1 h1 h2) hox (fun g h3 => h2 g h3 u (List.mem_of_getElem? hu)) hg5, h9⟩
      case measure => simp [intOf]; omega
    · have hkl : k = L.length := by omega
      have HK := Lib.hid (And.intro hkl (And.intro hg hown))
      clear hkl hg hown
      go_wp2_with fail
      go_ret
      obtain ⟨hkl, hg, hown⟩ := HK.out
      rw [hkl, mixL_all HR.out.1] at hown
      exact ⟨ret_int (by rw [hkl]), hg, HK0.out, by rw [← HR.out.2.2]; exact hown⟩
theorem OwnV.old {α : Type} {enc : α → Value} {w : World} {base : Nat} {e1 e2 : TypeId} {v : Value} {vs : List Value} {L : List (List α)} (h : OwnV enc w base e1 e2 v vs L) : ∀ g, w.heap.size ≤ g → ∀ u ∈ vs, u.ownBlock ≠ some g := by
  intro g hg u hu he
  obtain ⟨i, hi⟩ := List.mem_iff_getElem?.1 hu
  obtain ⟨r, _, ho⟩ := h.at_ hi
  have := (ho.lt g he).2
  omega
theorem OwnV.kept {α : Type} {enc : α → Value} {w w2 : World} {base : Nat} {e1 e2 : TypeId} {v : Value} {vs us : List Value} {L : List (List α)} (h : OwnV enc w base e1 e2 v vs L) (K : KeepsRows w w2 us) (hf : ∀ g, base ≤ g → ∀ u ∈ us, u.ownBlock ≠ some g) : OwnV enc w2 base e1 e2 v vs L := by
  refine ⟨h.len, K _ _ _ _ _ _ h.out (fun g hg => hf g (h.out.lt g hg).1), fun i r hr => ?_, h.far, h.apart⟩
  obtain ⟨u, hu, ho⟩ := h.row i r hr
  exact ⟨u, hu, K _ _ _ _ _ _ ho (fun g hg => hf g (ho.lt g hg).1)⟩
theorem OwnV.other {α : Type} {enc : α → Value} {w w2 : World} {base b3 e3 s3 n3 : Nat} {e1 e2 : TypeId} {v v3 : Value} {vs xs : List Value} {L : List (List α)} (h : OwnV enc w base e1 e2 v vs L) (h3 : w.ownsRow b3 e3 s3 v3 n3 xs) (hf : ∀ g, base ≤ g → v3.ownBlock ≠ some g) (hg : w.grownBy w2 v3.ownBlock) : OwnV enc w2 base e1 e2 v vs L := by
  refine ⟨h.len, own_other h.out h3 (fun g hg => hf g (h.out.lt g hg).1) hg, fun i r hr => ?_, h.far, h.apart⟩
  obtain ⟨u, hu, ho⟩ := h.row i r hr
  exact ⟨u, hu, own_other ho h3 (fun g hg => hf g (ho.lt g hg).1) hg⟩
set_option maxHeartbeats 800000 in
set_option maxRecDepth 100000 in
theorem heldBW_any (A : Option Addr) (cap : Nat) (L : List (List Bool)) (m : Int) (w : World) (hn : Nest encB w w.heap.size A L.length (mkTab m L)) (hl : L.length ≤ 2000000) (hS : sumL L L.length ≤ 2000000) (hm0 : 0 ≤ m) (hm : m ≤ 1000000) :
    Calls Try.prog 42 #[.slice A L.length cap, .int .i64 m] w fun e w2 => e = .returned (.int .i64 (m + (sumL L L.length : Int))) ∧ w = w2 := by
  go_enter Try.func42, Try.ntmps42
  go_wp2_with fail
  go_loop [1, 5] (fun t i => ∃ k : Nat, k ≤ L.length ∧ i = .int .i64 k ∧ t = .int .i64 (m + (sumL L k : Int))) (fun _ i => L.length - (intOf i).toNat)
  case atStart => exact ⟨0, Nat.zero_le _, rfl, by simp [sumL]⟩
  case round =>
    obtain ⟨k, hk, rfl, rfl⟩ := hrel
    by_cases hlt : k < L.length
    · obtain ⟨x, hx⟩ : ∃ x, L[k]? = some x := ⟨_, List.getElem?_eq_getElem hlt⟩
      obtain ⟨b, off, A2, c2, hA, hbb, hcell, hc2, hrow⟩ := hn.row (mkTab_at (m := m) hx)
      rw [mkRow_len] at hcell hrow
      subst hA
      have hxl := sumL_row (List.mem_of_getElem? hx)
      have hsl : sumL L k ≤ 2000000 := Nat.le_trans (sumL_mono hk) hS
      have hhe := heldB_any A2 c2 x.length (m + (sumL L k : Int)) w hrow (by omega) (by omega) (by omega)
      obtain ⟨sm, hsm⟩ : ∃ sm, sm = sumL L k := ⟨_, rfl⟩
      rw [← hsm] at hhe hsl ⊢
      have hkl : (k : Int) < (L.length : Int) := by omega
      have HX := Lib.hid (And.intro hx (And.intro hhe hsm))
      have e3 : decide (m + (sm : Int) + (x.length : Int) < 0) = false := by simp; omega
      clear hx hn hrow hhe hsm
      go_wp2_with fail
      refine HX.out.2.1.mono ?_
      rintro e w5 ⟨rfl, rfl⟩
      go_wp2_with fail
      go_round
      case rel => exact ⟨k + 1, by omega, by go_num, by rw [sumL_next HX.out.1, ← HX.out.2.2, Int.natCast_add, Int.add_assoc]⟩
      case measure => simp [intOf]; omega
    · have hkl : k = L.length := by omega
      have HK := Lib.hid hkl
      clear hkl
      go_wp2_with fail
      go_ret
      exact ⟨ret_int (by rw [HK.out]), rfl⟩
set_option maxHeartbeats 800000 in
set_option maxRecDepth 100000 in
theorem toBS_any (A : Option Addr) (cap : Nat) (l : List Bool) (w : World) (hr : Reads w w.heap.size 1 A l.length (l.map encB)) (hl : l.length ≤ 2000000) :
    Calls Try.prog 39 #[.slice A l.length cap] w fun e w2 => ∃ g, e = .returned (.slice (some ⟨g, 0, none⟩) l.length l.length) ∧ Below w.heap.size w w2 ∧ w2.ownsRow w.heap.size 4 1 (.slice (some ⟨g, 0, none⟩) l.length l.length) l.length (l.map encB) := by
  obtain ⟨i0, hi0, hz0, hz1, hz2⟩ := info_parts infoBool
  have hml : l.length = (rowN l.length fun _ => false).length := (rowN_len _ _).symm
  have HL := Lib.hid hml
  clear hml
  go_enter Try.func39, Try.ntmps39
  go_wp2_with (at_make
               go_must (refine wpList_make_full _ rfl (.tmp 6) (.tmp 6) _ rfl w.heap.size 4 i0 _ 1 Try.underlying26 hi0 hz0 hz1 _ _ _ _ l.length rfl rfl rfl rfl (by rw [hz2]; omega) (by simp only [maxLen]; omega) (Nat.le_refl _) ?_)
               intro w1 hown hg)
  have hb1 : Below w.heap.size w w1 := (Below.refl _ _).grown hg (Nat.le_refl _) (fun k hk => by cases hk)
  rw [zero_bools] at hown
  have hown0 : w1.ownsRow w.heap.size 4 1 (.slice (some ⟨w.heap.size, 0, none⟩) l.length l.length) l.length ((mixL l (rowN l.length fun _ => false) 0).map encB) := by rw [mixL_zero]; exact hown
  clear hown hg
  go_loopw [4] (fun i wr => ∃ k : Nat, k ≤ l.length ∧ i = .int .i64 k ∧ Below w.heap.size w wr ∧ wr.ownsRow w.heap.size 4 1 (.slice (some ⟨w.heap.size, 0, none⟩) l.length l.length) l.length ((mixL l (rowN l.length fun _ => false) k).map encB)) (fun i _ => l.length - (intOf i).toNat)
  case atStart => exact ⟨0, Nat.zero_le _, rfl, hb1, hown0⟩
  case round =>
    obtain ⟨k, hk, rfl, hb, hown⟩ := hrel
    clear hown0 hb1
    by_cases hlt : k < l.length
    · have hrb := hr.below hb
      obtain ⟨b, off, hA, hbb, hc⟩ := hrb.2 (by omega)
      subst hA
      obtain ⟨x, hx⟩ : ∃ x, l[k]? = some x := ⟨_, List.getElem?_eq_getElem hlt⟩
      have c1 := hc k (.bool x) (by rw [List.getElem?_map, hx]; rfl)
      have d1 := (hown.cellAt k (by omega)).trans (by rw [List.getElem?_map, mixL_old HL.out (Nat.le_refl _), rowN_at _ hlt]; rfl : ((mixL l (rowN l.length fun _ => false) k).map encB)[k]? = some (encB false))
      have d4 := hown.frozenAt k
      simp only [encB] at d1
      have hkl : (k : Int) < (l.length : Int) := by omega
      have HB := Lib.hid (And.intro hb (And.intro hx hown))
      clear hc hr hb hrb hx hown
      go_wp2_with fail
      go_roundw
      case rel =>
        refine ⟨k + 1, by omega, by go_num, HB.out.1.setCell (by simp) _, ?_⟩
        have h9 := bool_store HB.out.2.2 k x
        rw [mixL_set HL.out HB.out.2.1] at h9
        exact h9
      case measure => simp [intOf]; omega
    · have hkl : k = l.length := by omega
      have HK := Lib.hid (And.intro hkl (And.intro hb hown))
      clear hkl hb hown
      go_wp2_with fail
      go_ret
      obtain ⟨hkl, hb, hown⟩ := HK.out
      refine ⟨_, rfl, hb, ?_⟩
      rw [hkl, show mixL l (rowN l.length fun _ => false) l.length = l from by simp [mixL, rowN_len]] at hown
      exact hown
set_option maxHeartbeats 1600000 in
set_option maxRecDepth 100000 in
theorem toBT_any (A : Option Addr) (cap : Nat) (T : List (List Bool)) (w : World) (hn : Nest encB w w.heap.size A T.length T) (hl : T.length ≤ 2000000) (hr : ∀ r ∈ T, r.length ≤ 2000000) :
    Calls Try.prog 33 #[.slice A T.length cap] w fun e w2 => ∃ v vs, e = .returned v ∧ Below w.heap.size w w2 ∧ OwnV encB w2 w.heap.size 4 26 v vs T := by
  obtain ⟨ir, hir, hrz, hrs, hrb⟩ := info_parts infoBools
  have hTZ : T.length = (List.replicate T.length ([] : List Bool)).length := by simp
  have HT := Lib.hid hTZ
  clear hTZ
  go_enter Try.func33, Try.ntmps33
  go_wp2_with (at_make
               go_must (refine wpList_make_full _ rfl (.tmp 6) (.tmp 6) _ rfl w.heap.size 26 ir _ 1 Try.underlying23 hir hrz hrs _ _ _ _ T.length rfl rfl rfl rfl (by rw [hrb]; omega) (by simp only [maxLen]; omega) (Nat.le_refl _) ?_)
               intro w5 hown hg5)
  rw [zero_nils] at hown
  have hb5 : Below w.heap.size w w5 := (Below.refl _ _).grown hg5 (Nat.le_refl _) (fun k hk => by cases hk)
  have hv5 : OwnV encB w5 w.heap.size 4 26 (.slice (some ⟨w.heap.size, 0, none⟩) T.length T.length) (List.replicate T.length (Value.slice none 0 0)) (List.replicate T.length []) := OwnV.nils hown
  have H5 := Lib.hid (And.intro hb5 hv5)
  clear hown hg5 hb5 hv5
  go_loopw [4] (fun i wr => ∃ (k : Nat) (vs : List Value), k ≤ T.length ∧ i = .int .i64 k ∧ Below w.heap.size w wr ∧ OwnV encB wr w.heap.size 4 26 (.slice (some ⟨w.heap.size, 0, none⟩) T.length T.length) vs (mixL T (List.replicate T.length []) k)) (fun i _ => T.length - (intOf i).toNat)
  case atStart => exact ⟨0, _, Nat.zero_le _, rfl, H5.out.1, by rw [mixL_zero]; exact H5.out.2⟩
  case round =>
    obtain ⟨k, vs, hk, rfl, hbl, hown⟩ := hrel
    have hsz := hbl.size
    by_cases hlt : k < T.length
    · have hlti : (k : Int) < (T.length : Int) := by omega
      obtain ⟨x, hx⟩ : ∃ x, T[k]? = some x := ⟨_, List.getElem?_eq_getElem hlt⟩
      obtain ⟨b, off, A2, c2, hA, hbb, hcell, hc2, hrow⟩ := (hn.below hbl).row hx
      subst hA
      have hxl := hr x (List.mem_of_getElem? hx)
      have hmk : (mixL T (List.replicate T.length []) k).length = T.length := by rw [mixL_len HT.out (by rw [← HT.out]; exact hk), ← HT.out]
      have hout := hown.out
      have hvl := hown.len
      rw [hmk] at hout hvl
      have hcz : wr.frozen? ⟨w.heap.size, k, none⟩ = false := hout.frozenAt k
      obtain ⟨u0, hu0⟩ : ∃ u0, vs[k]? = some u0 := ⟨_, List.getElem?_eq_getElem (by omega)⟩
      have hc0 := (hout.cellAt k (by omega)).trans hu0
      have hol := (hout.lt _ rfl).2
      have hcp := toBS_any A2 c2 x wr (hrow.more (by omega)) hxl
      have HX := Lib.hid (And.intro hbl (And.intro hown (And.intro hx hcp)))
      clear hbl hown hx hout hu0 hvl hmk hn hrow hcp
      go_wp2_with fail
      refine HX.out.2.2.2.mono ?_
      rintro e w6 ⟨g6, rfl, b6, ho6⟩
      have f1 := (World.cell?_of_block (w := wr) (a := ⟨w.heap.size, k, none⟩) (b6.block _ hol)).trans hc0
      have f2 := (World.frozen?_of_block (w := wr) (a := ⟨w.heap.size, k, none⟩) (b6.block _ hol)).trans hcz
      have HP := Lib.hid (And.intro b6 ho6)
      clear b6 ho6 hcell hc0 hcz
      go_wp2_with fail
      go_roundw
      case rel =>
        obtain ⟨hbl, hown, hx, _⟩ := HX.out
        obtain ⟨b6, ho6⟩ := HP.out
        have hp := (hown.below b6).put (r := x) (u := .slice (some ⟨g6, 0, none⟩) x.length x.length) (own_less ho6 hsz) (hown.fresh ho6 (Nat.le_refl _)) k
        rw [mixL_set HT.out hx] at hp
        exact ⟨k + 1, _, by omega, by go_num, (below_step hbl b6).setCell (by simp) _, hp⟩
      case measure => simp [intOf]; omega
    · have hkl : k = T.length := by omega
      have HK := Lib.hid (And.intro hkl (And.intro hbl hown))
      clear hkl hbl hown
      go_wp2_with fail
      go_ret
      obtain ⟨hkl, hbl, hown⟩ := HK.out
      rw [hkl, show mixL T (List.replicate T.length []) T.length = T from by simp [mixL]] at hown
      exact ⟨_, _, rfl, hbl, hown⟩
end Go.Proofs.Ytapmeooffmonmaa
