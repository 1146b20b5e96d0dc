/- What the laws' functions on tables of numbers do besides comparing and marking: the size, the copies. (written by gen_si8.py) -/
import Derived.Test.YtnkdpogplkomhaaTw
import Derived.Test.YtnkdpogplkomhaaInts
namespace Go.Proofs.Ytnkdpogplkomhaa
open Go.RowKit

theorem infoIntsR : (Try.prog.info? 23).map (fun i => (i.zero, i.size, i.bytes)) = some (some (.slice none 0 0), 1, 24) := by kernel_rfl
def sumLI (L : List (List Int)) (k : Nat) : Nat := ((L.take k).map List.length).sum
theorem sumLI_next {L : List (List Int)} {k : Nat} {r : List Int} (hr : L[k]? = some r) : sumLI L (k + 1) = sumLI L k + r.length := by
  unfold sumLI
  rw [List.take_add_one, hr]
  simp
theorem sumLI_mono {L : List (List Int)} {i j : Nat} (h : i ≤ j) : sumLI L i ≤ sumLI L j := by
  induction j with
  | zero => rw [Nat.le_zero.1 h]; exact Nat.le_refl _
  | succ j ih =>
    rcases Nat.lt_or_ge j i with h1 | h1
    · rw [show i = j + 1 by omega]; exact Nat.le_refl _
    · refine Nat.le_trans (ih h1) ?_
      cases hr : L[j]? with
      | none =>
        have hl := List.getElem?_eq_none_iff.1 hr
        unfold sumLI
        rw [List.take_of_length_le hl, List.take_of_length_le (by omega)]
        exact Nat.le_refl _
      | some r => rw [sumLI_next hr]; omega
theorem sumLI_row {L : List (List Int)} {r : List Int} (h : r ∈ L) : r.length ≤ sumLI L L.length := by
  obtain ⟨i, hi, rfl⟩ := List.mem_iff_getElem.1 h
  have h1 := sumLI_next (List.getElem?_eq_getElem hi)
  have h2 := sumLI_mono (L := L) (i := i + 1) (j := L.length) hi
  omega
theorem szIS_any (A : Option Addr) (n cap left : Nat) (w : World) (hn : n ≤ maxLen) (hl : left ≤ 1048576) :
    Calls Try.prog 72 #[.slice A n cap, .int .i64 left] w fun e w2 => e = .returned (.int .i64 (if n ≤ left then ((left - n : Nat) : Int) else -1)) ∧ w = w2 := by
  have h63 : n ≤ 9223372036854775807 := by simp only [maxLen] at hn; omega
  clear hn
  go_enter Try.func72, Try.ntmps72
  by_cases h : n ≤ left
  · rw [if_pos h]
    have e1 : (left : Int) - (n : Int) = ((left - n : Nat) : Int) := by omega
    have e2 : decide (((left - n : Nat) : Int) < 0) = false := decide_eq_false (by omega)
    go_wp2_with fail
    go_ret
    exact ⟨ret_int (by omega), rfl⟩
  · rw [if_neg h]
    have e2 : decide ((left : Int) - (n : Int) < 0) = true := decide_eq_true (by omega)
    go_wp2_with fail
    go_ret
    exact ⟨rfl, rfl⟩
set_option maxHeartbeats 800000 in
set_option maxRecDepth 100000 in
theorem szIT_any (A : Option Addr) (cap left : Nat) (T : List (List Int)) (w : World) (hn : Nest (Value.int .i64) w w.heap.size A T.length T) (hT : T.length ≤ maxLen) (hr : ∀ r ∈ T, r.length ≤ maxLen) (hl : left ≤ 1048576) :
    Calls Try.prog 37 #[.slice A T.length cap, .int .i64 left] w fun e w2 => ∃ x : Int, e = .returned (.int .i64 x) ∧ w = w2 ∧ (0 ≤ x → T.length ≤ left ∧ sumLI T T.length ≤ left) := by
  have h63 : T.length ≤ 9223372036854775807 := by simp only [maxLen] at hT; omega
  clear hT
  go_enter Try.func37, Try.ntmps37
  by_cases h : T.length ≤ left
  · have e2 : decide ((left : Int) - (T.length : Int) < 0) = false := decide_eq_false (by omega)
    go_wp2_with fail
    go_loop [1, 5] (fun t i => ∃ k : Nat, k ≤ T.length ∧ i = .int .i64 k ∧ t = .int .i64 ((left - T.length - sumLI T k : Nat) : Int) ∧ T.length + sumLI T k ≤ left) (fun _ i => T.length - (intOf i).toNat)
    case atStart => exact ⟨0, Nat.zero_le _, rfl, by simp [sumLI]; omega, by simp [sumLI]; omega⟩
    case round =>
      obtain ⟨k, hk, rfl, rfl, hle⟩ := hrel
      by_cases hlt : k < T.length
      · obtain ⟨x, hx⟩ : ∃ x, T[k]? = some x := ⟨_, List.getElem?_eq_getElem hlt⟩
        obtain ⟨b, off, A2, c2, hA, hbb, hcell, hc2, hrow⟩ := hn.row hx
        subst hA
        have hxl := hr x (List.mem_of_getElem? hx)
        obtain ⟨lf, hlf⟩ : ∃ lf, lf = left - T.length - sumLI T k := ⟨_, rfl⟩
        rw [← hlf]
        have hsz := szIS_any A2 x.length c2 lf w hxl (by omega)
        obtain ⟨y, hy⟩ : ∃ y, y = (if x.length ≤ lf then ((lf - x.length : Nat) : Int) else -1) := ⟨_, rfl⟩
        rw [← hy] at hsz
        have hkl : (k : Int) < (T.length : Int) := by omega
        have HX := Lib.hid (And.intro hx (And.intro hsz (And.intro hlf hy)))
        clear hx hrow hsz hlf hy e2
        by_cases h0 : y < 0
        · have e3 : decide (y < 0) = true := decide_eq_true h0
          go_wp2_with fail
          refine HX.out.2.1.mono ?_
          rintro e w5 ⟨rfl, rfl⟩
          go_wp2_with fail
          go_ret
          exact ⟨_, rfl, rfl, fun h => absurd h (by omega)⟩
        · have e3 : decide (y < 0) = false := decide_eq_false h0
          go_wp2_with fail
          refine HX.out.2.1.mono ?_
          rintro e w5 ⟨rfl, rfl⟩
          go_wp2_with fail
          go_round
          case rel =>
            obtain ⟨h1, _, h2, h3⟩ := HX.out
            have h4 : x.length ≤ lf := by
              by_cases h5 : x.length ≤ lf
              · exact h5
              · rw [if_neg h5] at h3; omega
            rw [if_pos h4] at h3
            have h5 := sumLI_next h1
            exact ⟨k + 1, by omega, by go_num, by rw [h3]; congr 2; omega, by omega⟩
          case measure => simp [intOf]; omega
      · have hkl : k = T.length := by omega
        have HK := Lib.hid hkl
        clear hkl
        go_wp2_with fail
        go_ret
        exact ⟨_, rfl, rfl, fun _ => by rw [HK.out] at hle; omega⟩
  · have e2 : decide ((left : Int) - (T.length : Int) < 0) = true := decide_eq_true (by omega)
    go_wp2_with fail
    go_ret
    exact ⟨_, rfl, rfl, fun h => absurd h (by omega)⟩
set_option maxHeartbeats 1600000 in
set_option maxRecDepth 100000 in
theorem toIT_any (A : Option Addr) (cap : Nat) (T : List (List Int)) (w : World) (hn : Nest (Value.int .i64) w w.heap.size A T.length T) (hl : T.length ≤ 2000000) (hr : ∀ r ∈ T, r.length ≤ 2000000) :
    Calls Try.prog 38 #[.slice A T.length cap] w fun e w2 => ∃ v vs, e = .returned v ∧ Below w.heap.size w w2 ∧ OwnV (Value.int .i64) w2 w.heap.size 3 23 v vs T := by
  obtain ⟨ir, hir, hrz, hrs, hrb⟩ := info_parts infoIntsR
  have hTZ : T.length = (List.replicate T.length ([] : List Int)).length := by simp
  have HT := Lib.hid hTZ
  clear hTZ
  go_enter Try.func38, Try.ntmps38
  go_wp2_with (at_make
               go_must (refine wpList_make_full _ rfl (.tmp 6) (.tmp 6) _ rfl w.heap.size 23 ir _ 1 Try.underlying47 hir hrz hrs _ _ _ _ T.length rfl rfl rfl rfl (by rw [hrb]; omega) (by simp only [maxLen]; omega) (Nat.le_refl _) ?_)
               intro w5 hown hg5)
  rw [zero_nils] at hown
  have hb5 : Below w.heap.size w w5 := (Below.refl _ _).grown hg5 (Nat.le_refl _) (fun k hk => by cases hk)
  have hv5 : OwnV (Value.int .i64) w5 w.heap.size 3 23 (.slice (some ⟨w.heap.size, 0, none⟩) T.length T.length) (List.replicate T.length (Value.slice none 0 0)) (List.replicate T.length []) := OwnV.nils hown
  have H5 := Lib.hid (And.intro hb5 hv5)
  clear hown hg5 hb5 hv5
  go_loopw [4] (fun i wr => ∃ (k : Nat) (vs : List Value), k ≤ T.length ∧ i = .int .i64 k ∧ Below w.heap.size w wr ∧ OwnV (Value.int .i64) wr w.heap.size 3 23 (.slice (some ⟨w.heap.size, 0, none⟩) T.length T.length) vs (mixL T (List.replicate T.length []) k)) (fun i _ => T.length - (intOf i).toNat)
  case atStart => exact ⟨0, _, Nat.zero_le _, rfl, H5.out.1, by rw [mixL_zero]; exact H5.out.2⟩
  case round =>
    obtain ⟨k, vs, hk, rfl, hbl, hown⟩ := hrel
    have hsz := hbl.size
    by_cases hlt : k < T.length
    · have hlti : (k : Int) < (T.length : Int) := by omega
      obtain ⟨x, hx⟩ : ∃ x, T[k]? = some x := ⟨_, List.getElem?_eq_getElem hlt⟩
      obtain ⟨b, off, A2, c2, hA, hbb, hcell, hc2, hrow⟩ := (hn.below hbl).row hx
      subst hA
      have hxl := hr x (List.mem_of_getElem? hx)
      have hmk : (mixL T (List.replicate T.length []) k).length = T.length := by rw [mixL_len HT.out (by rw [← HT.out]; exact hk), ← HT.out]
      have hout := hown.out
      have hvl := hown.len
      rw [hmk] at hout hvl
      have hcz : wr.frozen? ⟨w.heap.size, k, none⟩ = false := hout.frozenAt k
      obtain ⟨u0, hu0⟩ : ∃ u0, vs[k]? = some u0 := ⟨_, List.getElem?_eq_getElem (by omega)⟩
      have hc0 := (hout.cellAt k (by omega)).trans hu0
      have hol := (hout.lt _ rfl).2
      have hcp := toIS_any A2 c2 x wr (hrow.more (by omega)) (by omega)
      have HX := Lib.hid (And.intro hbl (And.intro hown (And.intro hx hcp)))
      clear hbl hown hx hout hu0 hvl hmk hn hrow hcp
      go_wp2_with fail
      refine HX.out.2.2.2.mono ?_
      rintro e w6 ⟨g6, rfl, b6, ho6⟩
      have f1 := (World.cell?_of_block (w := wr) (a := ⟨w.heap.size, k, none⟩) (b6.block _ hol)).trans hc0
      have f2 := (World.frozen?_of_block (w := wr) (a := ⟨w.heap.size, k, none⟩) (b6.block _ hol)).trans hcz
      have HP := Lib.hid (And.intro b6 ho6)
      clear b6 ho6 hcell hc0 hcz
      go_wp2_with fail
      go_roundw
      case rel =>
        obtain ⟨hbl, hown, hx, _⟩ := HX.out
        obtain ⟨b6, ho6⟩ := HP.out
        have hp := (hown.below b6).put (r := x) (u := .slice (some ⟨g6, 0, none⟩) x.length x.length) (own_less ho6 hsz) (hown.fresh ho6 (Nat.le_refl _)) k
        rw [mixL_set HT.out hx] at hp
        exact ⟨k + 1, _, by omega, by go_num, (below_step hbl b6).setCell (by simp) _, hp⟩
      case measure => simp [intOf]; omega
    · have hkl : k = T.length := by omega
      have HK := Lib.hid (And.intro hkl (And.intro hbl hown))
      clear hkl hbl hown
      go_wp2_with fail
      go_ret
      obtain ⟨hkl, hbl, hown⟩ := HK.out
      rw [hkl, show mixL T (List.replicate T.length []) T.length = T from by simp [mixL]] at hown
      exact ⟨_, _, rfl, hbl, hown⟩
end Go.Proofs.Ytnkdpogplkomhaa
