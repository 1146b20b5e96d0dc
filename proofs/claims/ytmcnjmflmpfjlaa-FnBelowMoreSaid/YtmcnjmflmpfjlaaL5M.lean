/-
  Whatever bytes are given: of contexts, relations and a set drawn from the first ones, what the program lists below the set is what the model lists, and what it lists below the set without any one context is part of it. No condition.
-/
import Derived.Test.YtmcnjmflmpfjlaaEnt
import Derived.Test.YtmcnjmflmpfjlaaLif
import Derived.Test.YtmcnjmflmpfjlaaMak
import Derived.Test.YtmcnjmflmpfjlaaDz
import Derived.Test.YtmcnjmflmpfjlaaIa
import Derived.Test.YtmcnjmflmpfjlaaSa
import Derived.Test.YtmcnjmflmpfjlaaMm
import Derived.Test.YtmcnjmflmpfjlaaLw
import Derived.Test.YtmcnjmflmpfjlaaHo
import Derived.Deep.RegionLaw
import Derived.Deep.RegionHeld3
namespace Go.Proofs.Ytmcnjmflmpfjlaa.lawBelowMore
open Go.ChangeShapes Go.WideShapes Go.ChangeAt Go.RowKit

set_option maxHeartbeats 2000000 in
set_option maxRecDepth 100000 in
theorem walk_short (A : Option Addr) (c : Nat) (z : List Int) (B : Option Addr) (cb : Nat) (y : List Int) (w : World) (h : Bytes w A c z) (_ : Bytes w B cb y) (hn : z.length ≤ 1048576) (hy : y.length ≤ 1048576) :
    Calls Try.prog 6 #[.slice A z.length c, .slice B y.length cb] w fun e w2 => e = .returned (.bool true) ∧ Below w.heap.size w w2 := by
  have e0 : decide ((1048576 : Int) < (z.length : Int)) = false := decide_eq_false (by omega)
  have e1 : decide ((1048576 : Int) < (y.length : Int)) = false := decide_eq_false (by omega)
  go_enter Try.func6, Try.ntmps6
  go_wp2_with fail
  refine (dBlwAll_any A c z _ h).mono ?_
  rintro e w2 ⟨v1, v2, v3, ids, l, st, rfl, ho1, ho2, ho3, hl1, hl2, hl3, hb2⟩
  obtain ⟨A1, c1, hv1, hcap1, hr1⟩ := own_slice ho1
  obtain ⟨A2, c2, hv2, hcap2, hr2⟩ := own_slice ho2
  obtain ⟨A5, c5, hv5, hcap5, hr5⟩ := own_slice ho3
  subst hv1 hv2 hv5
  have HR := Lib.hid (And.intro hb2 (And.intro hr1 (And.intro hr2 hr5)))
  clear ho1 ho2 ho3 hb2 h hr1 hr2 hr5
  obtain ⟨C, hC⟩ : ∃ C, C = setG ids l st true := ⟨_, rfl⟩
  have hCl : C.length ≤ ids.length := by rw [hC]; exact setG_len true
  have q := eqLI_self C
  have HC := Lib.hid hC
  clear hC
  go_wp2_with fail
  refine (iBlwAll_any _ _ _ _ _ _ ids l st _ HR.out.2.1 HR.out.2.2.1 HR.out.2.2.2 (by omega) (by omega) (by omega)).mono ?_
  rintro e w3 ⟨v3, rfl, hb3, ho3⟩
  rw [← HC.out] at ho3
  obtain ⟨A3, c3, hv3, hcap3, hr3⟩ := own_slice ho3
  subst hv3
  have H3 := Lib.hid (And.intro hb3 hr3)
  clear hb3 ho3 hr3
  go_wp2_with fail
  refine (sBlwAll_any _ _ _ _ _ _ ids l st _ (HR.out.2.1.step H3.out.1) (HR.out.2.2.1.step H3.out.1) (HR.out.2.2.2.step H3.out.1) (by omega) (by omega) (by omega)).mono ?_
  rintro e w4 ⟨v4, rfl, hb4, ho4⟩
  rw [← HC.out] at ho4
  obtain ⟨A4, c4, hv4, hcap4, hr4⟩ := own_slice ho4
  subst hv4
  have H4 := Lib.hid (And.intro hb4 hr4)
  clear hb4 ho4 hr4
  rcases Nat.eq_zero_or_pos st.length with h0 | hpos
  · have e2 : ((st.length : Int) == 0) = true := by simp [h0]
    clear h0
    go_wp2_with fail
    refine (sameInts_any _ _ _ _ C C _ (H3.out.2.step H4.out.1) H4.out.2 (by omega)).mono ?_
    rintro e w5 ⟨rfl, hb5⟩
    have k5 := below_step H4.out.1 hb5
    have k25 := below_step H3.out.1 k5
    have R := Lib.hid (And.intro (HR.out.2.1.step k25) (And.intro (HR.out.2.2.1.step k25) (And.intro (HR.out.2.2.2.step k25) (And.intro (H3.out.2.step k5) (below_step HR.out.1 k25)))))
    have R4 := Lib.hid (H4.out.2.step hb5)
    clear hb5 k5 k25
    go_wp2_with fail
    refine (sameInts_any _ _ _ _ C C _ R.out.2.2.2.1 R4.out (by omega)).mono ?_
    rintro e w6 ⟨rfl, hb6⟩
    go_wp2_with fail
    go_ret
    exact ⟨rfl, below_step R.out.2.2.2.2 hb6⟩
  · have e2 : ((st.length : Int) == 0) = false := by rw [beq_eq_false_iff_ne]; omega
    obtain ⟨i0, hi0, hz0, hz1, hz2⟩ := info_parts infoInt
    have hpi : (0 : Int) < (st.length : Int) := by omega
    have hkl : y.length % st.length < st.length := Nat.mod_lt _ hpos
    obtain ⟨k, hke⟩ : ∃ k : Nat, k = y.length % st.length := ⟨_, rfl⟩
    have hki : (y.length : Int) % (st.length : Int) = (k : Int) := by rw [hke]; rfl
    rw [← hke] at hkl
    have hk0 : (0 : Int) ≤ (k : Int) := by omega
    have hk1 : (0 : Int) ≤ (k : Int) + 1 := by omega
    have hk2 : ((k : Int) + 1).toNat = k + 1 := by omega
    have hkw : IntKind.i64.wrap ((k : Int) + 1) = (k : Int) + 1 := IntWalk.i64_in _ (by omega)
    have hkc : (k : Int) ≤ (c5 : Int) := by omega
    have hkc2 : (k : Int) + 1 ≤ (c5 : Int) := by omega
    have hkl2 : (k : Int) ≤ (st.length : Int) := by omega
    have hkl3 : (k : Int) + 1 ≤ (st.length : Int) := by omega
    have hne : ¬ c5 = k := by omega
    clear hke
    go_wp2_with fail
    refine (sameInts_any _ _ _ _ C C _ (H3.out.2.step H4.out.1) H4.out.2 (by omega)).mono ?_
    rintro e w5 ⟨rfl, hb5⟩
    have k5 := below_step H4.out.1 hb5
    have k25 := below_step H3.out.1 k5
    have R := Lib.hid (And.intro (HR.out.2.1.step k25) (And.intro (HR.out.2.2.1.step k25) (And.intro (HR.out.2.2.2.step k25) (And.intro (H3.out.2.step k5) (below_step HR.out.1 k25)))))
    have R4 := Lib.hid (H4.out.2.step hb5)
    clear hb5 k5 k25
    obtain ⟨b, off, hA5, hbb, _⟩ := R.out.2.2.1.ints hpos
    subst hA5
    obtain ⟨xs, hxs⟩ : ∃ xs, xs = st.take k ++ st.drop (k + 1) := ⟨_, rfl⟩
    have hsub : xs.Sublist st := by
      rw [hxs]
      have h1 := List.Sublist.append (List.Sublist.refl (st.take k)) (List.drop_sublist 1 (st.drop k))
      rw [List.drop_drop, List.take_append_drop] at h1
      exact h1
    have hxl : xs.length ≤ 13 := Nat.le_trans hsub.length_le hl3
    obtain ⟨D, hD⟩ : ∃ D, D = setG ids l xs true := ⟨_, rfl⟩
    have hDl : D.length ≤ ids.length := by rw [hD]; exact setG_len true
    have hin : validI st = true → ∀ x, x ∈ D → x ∈ C := fun hv x hx => by
      rw [hD] at hx
      rw [HC.out]
      exact below_more hsub hv hx
    have Hxs := Lib.hid (And.intro hxs (And.intro hD hin))
    clear hxs hsub hD hin
    have hid : ∀ W : World, Below w5.heap.size w5 W → Calls Try.prog 25 #[.slice (some ⟨b, off, none⟩) st.length c5] W fun e w2 => e = .returned (.bool (validI st)) ∧ W = w2 := fun W hW => iIds_any _ _ st W (R.out.2.2.1.step hW) (by omega)
    obtain ⟨v, hv⟩ : ∃ v, v = validI st := ⟨_, rfl⟩
    rw [← hv] at hid
    have HK := Lib.hid (And.intro hid hv)
    clear hid hv
    have HT2 : Hid ((some ⟨b, off + k, none⟩ : Option Addr) = (some ⟨b, off, none⟩ : Option Addr).map (·.add k)) := by
      show _ = _
      simp only [Option.map, Addr.add]
      split
      · rename_i h0; rw [h0]; rfl
      · rfl
    have hO : ((w5.drewN 1).alloc (.cells #[] 3)).ownsRow w5.heap.size 3 1 (.slice (some ⟨w5.heap.size, 0, none⟩) 0 0) 0 [] := own_empty (w := w5.drewN 1) (Nat.le_refl _) rfl
    have hB : Below w5.heap.size w5 ((w5.drewN 1).alloc (.cells #[] 3)) := (below_draws (Below.refl _ _) 1).alloc (Nat.le_refl _) _
    have hRr : Reads ((w5.drewN 1).alloc (.cells #[] 3)) w5.heap.size 1 (some ⟨b, off, none⟩) st.length (cellsI st) := (R.out.2.2.1).below hB
    have w5X := Lib.hid (And.intro hO (And.intro hB hRr))
    clear hO hB hRr
    by_cases hcc : c5 = k + 1
    · have HT : Hid (0 < st.length - (k + 1) → (some ⟨b, off, none⟩ : Option Addr) = (some ⟨b, off, none⟩ : Option Addr).map (·.add (k + 1))) := by
        show 0 < st.length - (k + 1) → _
        intro h0
        omega
      have hcc2 : (c5 = k + 1) = True := eq_true hcc
      clear hcc
      go_wp2_with fail
      go_region_law
        (first
          | (refine step_append_want ((w5.drewN 1).alloc (.cells #[] 3)) (by rfl) (.tmp 54) (.tmp 57) _ (by rfl) w5.heap.size 3 i0 _ 1 8 Try.underlying23 hi0 hz0 hz1 hz2 rfl (by omega) (.slice (some ⟨w5.heap.size, 0, none⟩) 0 0) 0 [] (by rfl) w5X.out.1 _ _ k _ (cellsI (st.take k)) (by rfl) (w5X.out.2.2.headI (by omega)) (cellsI_one _) (by simp only [maxLen]; omega) (by omega) (by simp) ?_
             intro v6 w6 o6 w6g w6t
             have b6 : Below w5.heap.size w5 w6 := w5X.out.2.1.grown w6g (by simp) (fun j hj => by simp [Value.ownBlock] at hj; omega))
          | (refine step_append_want w6 (by rfl) (.tmp 58) (.tmp 62) _ (by rfl) w5.heap.size 3 i0 _ 1 8 Try.underlying23 hi0 hz0 hz1 hz2 rfl (by omega) v6 (0 + k) ([] ++ cellsI (st.take k)) (by rfl) o6 _ _ (st.length - (k + 1)) _ (cellsI (st.drop (k + 1))) (by rfl) (((R.out.2.2.1).below b6).tailI (by omega) HT.out) (cellsI_one _) (by simp only [maxLen]; omega) (by omega) b6.size ?_
             intro v7 w7 o7 w7g w7t
             have b7 : Below w5.heap.size w5 w7 := b6.trans (app_below0 o6 (Nat.le_refl _) b6.size w7g)
             rw [List.nil_append, ← cellsI_join, ← Hxs.out.1, show 0 + k + (st.length - (k + 1)) = xs.length from by rw [Hxs.out.1, List.length_append, List.length_take, List.length_drop]; omega] at o7
             obtain ⟨A7, c7, hv7, _, hr7⟩ := own_slice o7
             subst hv7
             have H7 := Lib.hid (And.intro b7 hr7)
             clear o7 b7 hr7)
          | (go_simp
             go_at_call 29
             refine (iBlwAll_any _ _ _ _ _ _ ids l xs _ (R.out.1.step H7.out.1) (R.out.2.1.step H7.out.1) H7.out.2 (by omega) (by omega) (by omega)).mono ?_
             rintro e w8 ⟨v8, rfl, hb8, ho8⟩
             rw [← Hxs.out.2.1] at ho8
             obtain ⟨A8, c8, hv8, _, hr8⟩ := own_slice ho8
             subst hv8
             have H8 := Lib.hid (And.intro (below_step H7.out.1 hb8) hr8)
             clear hb8 ho8 hr8))
      cases v
      · go_wp2_with fail
        go_loop [12] (fun i => i = .int .i64 0) (fun _ => 0)
        case atStart => rfl
        case round =>
          obtain rfl := hrel
          rcases Nat.eq_zero_or_pos D.length with h0 | h0
          · have e3 : decide ((0 : Int) < (D.length : Int)) = false := decide_eq_false (by omega)
            have e4 : decide (0 < D.length) = false := decide_eq_false (by omega)
            clear h0
            go_wp2_with fail
            go_ret
            exact ⟨rfl, below_step R.out.2.2.2.2 H8.out.1⟩
          · have e3 : decide ((0 : Int) < (D.length : Int)) = true := decide_eq_true (by omega)
            have e4 : decide (0 < D.length) = true := decide_eq_true (by omega)
            clear h0
            go_wp2_with (go_at_call 25; go_must (refine (HK.out.1 _ H8.out.1).mono ?_); rintro e w9 ⟨rfl, rfl⟩)
            go_ret
            exact ⟨rfl, below_step R.out.2.2.2.2 H8.out.1⟩
      · go_wp2_with fail
        go_loop [12] (fun i => ∃ k : Nat, k ≤ D.length ∧ i = .int .i64 k) (fun i => D.length - (intOf i).toNat)
        case atStart => exact ⟨0, Nat.zero_le _, rfl⟩
        case round =>
          obtain ⟨j, hj, rfl⟩ := hrel
          by_cases hjj : j < D.length
          · have hji : (j : Int) < (D.length : Int) := by omega
            obtain ⟨x, hx⟩ : ∃ x, D[j]? = some x := ⟨_, List.getElem?_eq_getElem hjj⟩
            obtain ⟨b8, o8, hA8, hbb8, hc8⟩ := H8.out.2.ints (by omega)
            subst hA8
            have g8 := hc8 j _ hx
            have hht := hasInt_any A3 c3 C x w8 (R.out.2.2.2.1.step H8.out.1) (by omega)
            rw [decide_eq_true (Hxs.out.2.2 HK.out.2.symm x (List.mem_of_getElem? hx))] at hht
            have HTT := Lib.hid hht
            clear hc8 hx hht
            go_wp2_with (first
              | (go_at_call 25; go_must (refine (HK.out.1 _ H8.out.1).mono ?_); rintro e w9 ⟨rfl, rfl⟩)
              | (go_at_call 27; go_must (refine HTT.out.mono ?_); rintro e w9 ⟨rfl, rfl⟩))
            go_round
            case rel => exact ⟨j + 1, by omega, by go_num⟩
            case measure => simp [intOf]; omega
          · go_wp2_with fail
            go_ret
            exact ⟨rfl, below_step R.out.2.2.2.2 H8.out.1⟩
    · have HT : Hid (0 < st.length - (k + 1) → (some ⟨b, off + (k + 1), none⟩ : Option Addr) = (some ⟨b, off, none⟩ : Option Addr).map (·.add (k + 1))) := by
        show 0 < st.length - (k + 1) → _
        intro _
        simp [Option.map, Addr.add]
      have hcc2 : (c5 = k + 1) = False := eq_false hcc
      clear hcc
      go_wp2_with fail
      go_region_law
        (first
          | (refine step_append_want ((w5.drewN 1).alloc (.cells #[] 3)) (by rfl) (.tmp 54) (.tmp 57) _ (by rfl) w5.heap.size 3 i0 _ 1 8 Try.underlying23 hi0 hz0 hz1 hz2 rfl (by omega) (.slice (some ⟨w5.heap.size, 0, none⟩) 0 0) 0 [] (by rfl) w5X.out.1 _ _ k _ (cellsI (st.take k)) (by rfl) (w5X.out.2.2.headI (by omega)) (cellsI_one _) (by simp only [maxLen]; omega) (by omega) (by simp) ?_
             intro v6 w6 o6 w6g w6t
             have b6 : Below w5.heap.size w5 w6 := w5X.out.2.1.grown w6g (by simp) (fun j hj => by simp [Value.ownBlock] at hj; omega))
          | (refine step_append_want w6 (by rfl) (.tmp 58) (.tmp 62) _ (by rfl) w5.heap.size 3 i0 _ 1 8 Try.underlying23 hi0 hz0 hz1 hz2 rfl (by omega) v6 (0 + k) ([] ++ cellsI (st.take k)) (by rfl) o6 _ _ (st.length - (k + 1)) _ (cellsI (st.drop (k + 1))) (by rfl) (((R.out.2.2.1).below b6).tailI (by omega) HT.out) (cellsI_one _) (by simp only [maxLen]; omega) (by omega) b6.size ?_
             intro v7 w7 o7 w7g w7t
             have b7 : Below w5.heap.size w5 w7 := b6.trans (app_below0 o6 (Nat.le_refl _) b6.size w7g)
             rw [List.nil_append, ← cellsI_join, ← Hxs.out.1, show 0 + k + (st.length - (k + 1)) = xs.length from by rw [Hxs.out.1, List.length_append, List.length_take, List.length_drop]; omega] at o7
             obtain ⟨A7, c7, hv7, _, hr7⟩ := own_slice o7
             subst hv7
             have H7 := Lib.hid (And.intro b7 hr7)
             clear o7 b7 hr7)
          | (go_simp
             go_at_call 29
             refine (iBlwAll_any _ _ _ _ _ _ ids l xs _ (R.out.1.step H7.out.1) (R.out.2.1.step H7.out.1) H7.out.2 (by omega) (by omega) (by omega)).mono ?_
             rintro e w8 ⟨v8, rfl, hb8, ho8⟩
             rw [← Hxs.out.2.1] at ho8
             obtain ⟨A8, c8, hv8, _, hr8⟩ := own_slice ho8
             subst hv8
             have H8 := Lib.hid (And.intro (below_step H7.out.1 hb8) hr8)
             clear hb8 ho8 hr8))
      cases v
      · go_wp2_with fail
        go_loop [12] (fun i => i = .int .i64 0) (fun _ => 0)
        case atStart => rfl
        case round =>
          obtain rfl := hrel
          rcases Nat.eq_zero_or_pos D.length with h0 | h0
          · have e3 : decide ((0 : Int) < (D.length : Int)) = false := decide_eq_false (by omega)
            have e4 : decide (0 < D.length) = false := decide_eq_false (by omega)
            clear h0
            go_wp2_with fail
            go_ret
            exact ⟨rfl, below_step R.out.2.2.2.2 H8.out.1⟩
          · have e3 : decide ((0 : Int) < (D.length : Int)) = true := decide_eq_true (by omega)
            have e4 : decide (0 < D.length) = true := decide_eq_true (by omega)
            clear h0
            go_wp2_with (go_at_call 25; go_must (refine (HK.out.1 _ H8.out.1).mono ?_); rintro e w9 ⟨rfl, rfl⟩)
            go_ret
            exact ⟨rfl, below_step R.out.2.2.2.2 H8.out.1⟩
      · go_wp2_with fail
        go_loop [12] (fun i => ∃ k : Nat, k ≤ D.length ∧ i = .int .i64 k) (fun i => D.length - (intOf i).toNat)
        case atStart => exact ⟨0, Nat.zero_le _, rfl⟩
        case round =>
          obtain ⟨j, hj, rfl⟩ := hrel
          by_cases hjj : j < D.length
          · have hji : (j : Int) < (D.length : Int) := by omega
            obtain ⟨x, hx⟩ : ∃ x, D[j]? = some x := ⟨_, List.getElem?_eq_getElem hjj⟩
            obtain ⟨b8, o8, hA8, hbb8, hc8⟩ := H8.out.2.ints (by omega)
            subst hA8
            have g8 := hc8 j _ hx
            have hht := hasInt_any A3 c3 C x w8 (R.out.2.2.2.1.step H8.out.1) (by omega)
            rw [decide_eq_true (Hxs.out.2.2 HK.out.2.symm x (List.mem_of_getElem? hx))] at hht
            have HTT := Lib.hid hht
            clear hc8 hx hht
            go_wp2_with (first
              | (go_at_call 25; go_must (refine (HK.out.1 _ H8.out.1).mono ?_); rintro e w9 ⟨rfl, rfl⟩)
              | (go_at_call 27; go_must (refine HTT.out.mono ?_); rintro e w9 ⟨rfl, rfl⟩))
            go_round
            case rel => exact ⟨j + 1, by omega, by go_num⟩
            case measure => simp [intOf]; omega
          · go_wp2_with fail
            go_ret
            exact ⟨rfl, below_step R.out.2.2.2.2 H8.out.1⟩

theorem walk (A : Option Addr) (c : Nat) (z : List Int) (B : Option Addr) (cb : Nat) (y : List Int) (w : World) (h1 : z.length ≤ c) (h2 : Reads w w.heap.size 1 A z.length (cellsB z)) (h3 : ∀ b ∈ z, 0 ≤ b ∧ b ≤ 255) (h4 : c ≤ maxLen) (k1 : y.length ≤ cb) (k2 : Reads w w.heap.size 1 B y.length (cellsB y)) (k3 : ∀ b ∈ y, 0 ≤ b ∧ b ≤ 255) (k4 : cb ≤ maxLen) :
    Calls Try.prog 6 #[.slice A z.length c, .slice B y.length cb] w fun e w2 => e = .returned (.bool true) ∧ Below w.heap.size w w2 := by
  by_cases hn : z.length ≤ 1048576
  · by_cases hy : y.length ≤ 1048576
    · exact walk_short A c z B cb y w (Bytes.mk_ h1 h2 h3 h4) (Bytes.mk_ k1 k2 k3 k4) hn hy
    · have e0 : decide ((1048576 : Int) < (z.length : Int)) = false := decide_eq_false (by omega)
      have e1 : decide ((1048576 : Int) < (y.length : Int)) = true := decide_eq_true (by omega)
      go_enter Try.func6, Try.ntmps6
      go_wp2_with fail
      go_ret
      exact ⟨rfl, Below.refl _ _⟩
  · have e0 : decide ((1048576 : Int) < (z.length : Int)) = true := decide_eq_true (by omega)
    go_enter Try.func6, Try.ntmps6
    go_wp2_with fail
    go_ret
    exact ⟨rfl, Below.refl _ _⟩

set_option linter.unusedVariables false
set_option maxRecDepth 100000 in
theorem lifted (os : Os) (started : os.Started) (H : Type) (enc : TypeId × Value → H) :
    ReturnsInHanded {} Try.checked os 6 .any (Rows.fnBelowMoreSpec.pre6 enc Try.prog Try.f6 Rows.fnBelowMoreRow.domain false) (Rows.fnBelowMoreSpec.post enc Try.prog Try.f6 false true false false) := by
  refine returnsInHanded_of_change (C := Try.checked) lawOwn started (by kernel_rfl) Try.func6
    (ChangeSpec.witness6 (enc := enc) (C := Try.checked) false ⟨#[], #[.slice none 0 0, .slice none 0 0], []⟩ 8 (by kernel_rfl) (by kernel_rfl) (by kernel_rfl) (by kernel_rfl)) ?_
  intro W base args ds gs before hval0 hW hcnd _
  have hval : ∀ (j : Nat) t v, Try.f6.params[j]? = some t → args[j]? = some v → Value.okWide Try.prog W .any base t v := hval0
  have hW' := hW
  obtain ⟨p, q, hA0, hV, rfl, hfz, hnd⟩ := hW
  have hA : DataW.TrodAll enc Try.prog W 0 (fun _ => true) true Try.f6.params.toList args.toList ds p := hA0
  rw [Try.params6] at hA hval
  obtain ⟨v0, vs0, d0, ds0, p0, q0, hargs, rfl, rfl, h0, r0⟩ := trodAll_cons hA
  obtain ⟨v1, vs1, d1, ds1, p1, q1, rfl, rfl, rfl, h1, r1⟩ := trodAll_cons r0
  obtain ⟨rfl, rfl, rfl⟩ := trodAll_nil r1
  obtain rfl : args = #[v0, v1] := by cases args; simp_all
  obtain ⟨rfl, rfl⟩ := trodVars_none hV
  have k0 := h0
  have lt0 : ∀ x ∈ p0, x.block < W.heap.size := by obtain ⟨m, hm⟩ := k0; exact DataW.trod_lt m _ _ _ hm
  obtain ⟨a0, len0, cap0, rfl⟩ := okWide_slice Try.underlying22 (hval 0 22 v0 rfl rfl)
  obtain ⟨z0, hl0, hc0, hr0, hb0, hm0⟩ : ∃ z : List Int, len0 = z.length ∧ len0 ≤ cap0 ∧ Reads W W.heap.size 1 a0 len0 (cellsB z) ∧ (∀ b ∈ z, 0 ≤ b ∧ b ≤ 255) ∧ cap0 ≤ maxLen := by
    obtain ⟨fuel, hf⟩ := h0
    exact open_bytes Try.underlying22 Try.underlying5 (by kernel_rfl) (by simpa [Value.cells] using hf)
  subst hl0
  have k1 := h1
  have lt1 : ∀ x ∈ p1, x.block < W.heap.size := by obtain ⟨m, hm⟩ := k1; exact DataW.trod_lt m _ _ _ hm
  obtain ⟨a1, len1, cap1, rfl⟩ := okWide_slice Try.underlying22 (hval 1 22 v1 rfl rfl)
  obtain ⟨z1, hl1, hc1, hr1, hb1, hm1⟩ : ∃ z : List Int, len1 = z.length ∧ len1 ≤ cap1 ∧ Reads W W.heap.size 1 a1 len1 (cellsB z) ∧ (∀ b ∈ z, 0 ≤ b ∧ b ≤ 255) ∧ cap1 ≤ maxLen := by
    obtain ⟨fuel, hf⟩ := h1
    exact open_bytes Try.underlying22 Try.underlying5 (by kernel_rfl) (by simpa [Value.cells] using hf)
  subst hl1
  clear hA0 hval0
  refine (walk a0 cap0 z0 a1 cap1 z1 W hc0 hr0 hb0 hm0 hc1 hr1 hb1 hm1).mono fun e W' ⟨he, bel⟩ => ?_
  subst he
  exact ⟨_, rfl, _, _, _, [], _, [], hW', trodAll_mk1 (shut_bool Try.underlying4 _), (trodAll_cons_mk (Below.trod lawLaid (by kernel_rfl) (of_decide_eq_true (by kernel_rfl)) k0 bel lt0) (trodAll_cons_mk (Below.trod lawLaid (by kernel_rfl) (of_decide_eq_true (by kernel_rfl)) k1 bel lt1) trodAll_mk0)), rfl, bel.frame _, fun h => by cases h⟩

theorem closed : joinedFacts Try.checked.prog 6 Try.f6 Rows.fnBelowMoreSpec Rows.fnBelowMoreRow = true := by
  unfold joinedFacts
  repeat (refine and_t ?_ (by first | (with_reducible exact ent) | (with_reducible refine lif_c ?_; kernel_rfl) | (with_reducible refine mak_c ?_; kernel_rfl) | kernel_rfl))
  kernel_rfl
theorem proved : Rows.FnBelowMoreSaid :=
  OpenClaim.holds_of_wide 6 Try.f6 rfl rfl rfl rfl rfl rfl rfl ⟨rfl, rfl, rfl, rfl, rfl⟩ rfl rfl rfl rfl rfl (by kernel_rfl) Try.func6 closed
    (of_decide_eq_true (by kernel_rfl)) (by unfold Func.isWrapper; rw [if_neg (of_decide_eq_false (by kernel_rfl))]; exact ⟨rfl, rfl⟩)
    (fun os started H enc _ => lifted os started H enc)
#print axioms proved
end Go.Proofs.Ytmcnjmflmpfjlaa.lawBelowMore
