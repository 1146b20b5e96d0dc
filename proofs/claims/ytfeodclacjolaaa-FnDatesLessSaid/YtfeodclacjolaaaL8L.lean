/-
  Whatever bytes are given: of contexts, relations and bounds drawn from them, spans of fewer bounds are no narrower; the program's dates are the model's. No condition.
-/
import Derived.Test.YtfeodclacjolaaaEnt
import Derived.Test.YtfeodclacjolaaaLif
import Derived.Test.YtfeodclacjolaaaMak
import Derived.Test.YtfeodclacjolaaaZz
import Derived.Test.YtfeodclacjolaaaId
import Derived.Test.YtfeodclacjolaaaOpen
import Derived.Deep.RegionHeld3
import Derived.Deep.RegionLaw
namespace Go.Proofs.Ytfeodclacjolaaa.lawDatesLess
open Go.ChangeShapes Go.WideShapes Go.ChangeAt Go.RowKit

set_option maxHeartbeats 2000000 in
set_option maxRecDepth 100000 in
theorem walk_short (A : Option Addr) (c : Nat) (z : List Int) (B : Option Addr) (cb : Nat) (y : List Int) (w : World) (h : Bytes w A c z) (_ : Bytes w B cb y) (hn : z.length ≤ 1048576) (hy : y.length ≤ 1048576) :
    Calls Try.prog 7 #[.slice A z.length c, .slice B y.length cb] w fun e w2 => e = .returned (.bool true) ∧ Below w.heap.size w w2 := by
  have e0 : decide ((1048576 : Int) < (z.length : Int)) = false := decide_eq_false (by omega)
  have e1 : decide ((1048576 : Int) < (y.length : Int)) = false := decide_eq_false (by omega)
  go_enter Try.func7, Try.ntmps7
  go_wp2_with fail
  refine (dDates_any A c z _ h).mono ?_
  rintro e w2 ⟨v1, v2, v3, ids, l, bs, rfl, ho1, ho2, ho3, hl1, hl2, hl3, hb2⟩
  obtain ⟨A1, c1, hv1, hcap1, hr1⟩ := own_slice ho1
  obtain ⟨A2, c2, hv2, hcap2, hr2⟩ := own_slice ho2
  obtain ⟨A3, c3, hv3, hcap3, hr3⟩ := own_slice ho3
  subst hv1 hv2 hv3
  have HR := Lib.hid (And.intro hb2 (And.intro hr1 (And.intro hr2 hr3)))
  clear ho1 ho2 ho3 hb2 h hr1 hr2 hr3
  obtain ⟨i0, hi0, hz0, hz1, hz2⟩ := info_parts infoBound
  obtain ⟨M, hM⟩ : ∃ M, M = datesD ids l bs := ⟨_, rfl⟩
  obtain ⟨o, ho⟩ : ∃ o, o = okD ids l bs := ⟨_, rfl⟩
  have hMl : M.length ≤ 13 := by rw [hM]; exact Nat.le_trans (datesD_len ids l bs) (by omega)
  have q2 := eqLS_self M
  have eb : (o != o) = false := by simp
  have ec : (o == o) = true := by simp
  have HC := Lib.hid (And.intro hM ho)
  clear hM ho
  go_wp2_with fail
  refine (iDatesOf_any _ _ _ _ _ _ ids l bs _ HR.out.2.1 HR.out.2.2.1 HR.out.2.2.2 (by omega) (by omega) (by omega)).mono ?_
  rintro e w3 ⟨v4, rfl, hb3, ho4⟩
  rw [← HC.out.1] at ho4
  rw [← HC.out.2]
  obtain ⟨A4, c4, hv4, hcap4, hr4⟩ := own_slice ho4
  subst hv4
  have H3 := Lib.hid (And.intro hb3 hr4)
  clear hb3 ho4 hr4
  go_wp2_with fail
  refine (sDatesOf_any _ _ _ _ _ _ ids l bs _ (HR.out.2.1.step H3.out.1) (HR.out.2.2.1.step H3.out.1) (HR.out.2.2.2.step H3.out.1) (by omega) (by omega) (by omega)).mono ?_
  rintro e w4 ⟨v5, rfl, hb4, ho5⟩
  rw [← HC.out.1] at ho5
  rw [← HC.out.2]
  obtain ⟨A5, c5, hv5, hcap5, hr5⟩ := own_slice ho5
  subst hv5
  have H4 := Lib.hid (And.intro hb4 hr5)
  clear hb4 ho5 hr5
  go_wp2_with fail
  refine (sameSpan_any _ _ _ _ M M _ (H3.out.2.step H4.out.1) H4.out.2 (by omega)).mono ?_
  rintro e w5 ⟨rfl, hb5⟩
  have k5 := below_step H4.out.1 hb5
  have k25 := below_step H3.out.1 k5
  have R := Lib.hid (And.intro (HR.out.2.1.step k25) (And.intro (HR.out.2.2.1.step k25) (And.intro (HR.out.2.2.2.step k25) (And.intro (H3.out.2.step k5) (below_step HR.out.1 k25)))))
  have R4 := Lib.hid (H4.out.2.step hb5)
  clear hb5 k5 k25
  cases o
  · clear eb ec
    go_wp2_with fail
    refine (sameSpan_any _ _ _ _ M M _ R.out.2.2.2.1 R4.out (by omega)).mono ?_
    rintro e w6 ⟨rfl, hb6⟩
    go_wp2_with fail
    go_ret
    exact ⟨rfl, below_step R.out.2.2.2.2 hb6⟩
  · clear eb ec
    by_cases hb0 : bs.length = 0
    · have e9 : ((bs.length : Int) == 0) = true := by simp [hb0]
      have e99 : bs = [] := List.eq_nil_of_length_eq_zero hb0
      have H99 := Lib.hid e99
      clear hb0 e99
      go_wp2_with fail
      refine (sameSpan_any _ _ _ _ M M _ R.out.2.2.2.1 R4.out (by omega)).mono ?_
      rintro e w6 ⟨rfl, hb6⟩
      go_wp2_with fail
      go_ret
      exact ⟨rfl, below_step R.out.2.2.2.2 hb6⟩
    · have e9 : ((bs.length : Int) == 0) = false := by rw [beq_eq_false_iff_ne]; omega
      have hbp : 0 < bs.length := by omega
      clear hb0
      have hkl : y.length % bs.length < bs.length := Nat.mod_lt _ hbp
      have hpi : (0 : Int) < (bs.length : Int) := by omega
      have hok : okD ids l bs = true := HC.out.2.symm
      have hMe : M = allD ids l bs := by rw [HC.out.1, datesD_ok hok]
      have hMn : M.length = ids.length := by rw [hMe, allD_len]
      have hn12 : ids.length ≤ 12 := validO_len (okG_parts (ordOk_okG (argsD_parts (okD_parts hok).1).1)).1
      have hat : ∀ i, i < M.length → M[i]? = some ⟨lowD ids l bs i, highD ids l bs i⟩ := fun i hi => by rw [hMe]; exact allD_at (by omega)
      have hsub : ∀ k, (bs.take k ++ bs.drop (k + 1)).Sublist bs := fun k => part_sub bs k
      have hless := fun k => dates_less (hsub k) hok
      have HG := Lib.hid (And.intro hok (And.intro hMe (And.intro hMn (And.intro hat hless))))
      clear hok hMe hMn hat hless hsub
      go_wp2_with fail
      obtain ⟨k, hke⟩ : ∃ k : Nat, k = y.length % bs.length := ⟨_, rfl⟩
      have hki : (y.length : Int) % (bs.length : Int) = (k : Int) := by rw [hke]; rfl
      rw [hki]
      rw [← hke] at hkl
      obtain ⟨b, off, hA, hbb, _⟩ := R.out.2.2.1.ctx hbp
      subst hA
      have hk0 : (0 : Int) ≤ (k : Int) := by omega
      have hk1 : (0 : Int) ≤ (k : Int) + 1 := by omega
      have hk2 : ((k : Int) + 1).toNat = k + 1 := by omega
      have hkw : IntKind.i64.wrap ((k : Int) + 1) = (k : Int) + 1 := IntWalk.i64_in _ (by omega)
      have hkc : (k : Int) ≤ (c3 : Int) := by omega
      have hkc2 : (k : Int) + 1 ≤ (c3 : Int) := by omega
      have hkl2 : (k : Int) ≤ (bs.length : Int) := by omega
      have hkl3 : (k : Int) + 1 ≤ (bs.length : Int) := by omega
      have hne : ¬ c3 = k := by omega
      clear hke hki
      obtain ⟨hok2, hl2⟩ := HG.out.2.2.2.2 k
      obtain ⟨xs, hxs⟩ : ∃ xs, xs = bs.take k ++ bs.drop (k + 1) := ⟨_, rfl⟩
      have hxl : xs.length ≤ 1000 := by rw [hxs, List.length_append, List.length_take, List.length_drop]; omega
      rw [← hxs] at hok2
      simp only [← hxs] at hl2
      have hD0 := datesD_ok hok2
      have hDl := allD_len ids l xs
      have hDa : ∀ i, i < ids.length → (allD ids l xs)[i]? = some ⟨lowD ids l xs i, highD ids l xs i⟩ := fun i hi => allD_at hi
      obtain ⟨D, hD⟩ : ∃ D, D = allD ids l xs := ⟨_, rfl⟩
      rw [← hD] at hD0 hDl
      simp only [← hD] at hDa
      have hF : (∀ i, i < D.length → ∃ p q : Sp, D[i]? = some p ∧ M[i]? = some q ∧ p.lo ≤ q.lo ∧ q.hi ≤ p.hi) ∧ D.length = M.length := by
        have hMn := HG.out.2.2.1
        refine ⟨fun i hi => ⟨_, _, hDa i (by omega), HG.out.2.2.2.1 i (by omega), (hl2 i).1, (hl2 i).2⟩, by omega⟩
      have Hxs := Lib.hid (And.intro hxs (And.intro hD0 hok2))
      have HF := Lib.hid hF
      have eln : ((D.length : Int) == (M.length : Int)) = true := by simp [hF.2]
      have hD13 : D.length ≤ 13 := by omega
      clear hxs hok2 hl2 hD0 hDl hDa hD hF
      by_cases hcc : c3 = k + 1
      · have HT : Hid (0 < bs.length - (k + 1) → (some ⟨b, off, none⟩ : Option Addr) = (some ⟨b, off, none⟩ : Option Addr).map (·.add ((k + 1) * 3))) := by
          show 0 < bs.length - (k + 1) → _
          intro h0
          omega
        have hcc2 : (c3 = k + 1) = True := eq_true hcc
        clear hcc
        go_wp2_with fail
        have hO : ((w5.drewN 1).alloc (.cells #[] 52)).ownsRow w5.heap.size 52 3 (.slice (some ⟨w5.heap.size, 0, none⟩) 0 0) 0 [] := own_empty (w := w5.drewN 1) (Nat.le_refl _) rfl
        have hB : Below w5.heap.size w5 ((w5.drewN 1).alloc (.cells #[] 52)) := (below_draws (Below.refl _ _) 1).alloc (Nat.le_refl _) _
        have hR : Reads ((w5.drewN 1).alloc (.cells #[] 52)) w5.heap.size 3 (some ⟨b, off, none⟩) bs.length (cellsC bs) := (R.out.2.2.1).below hB
        have w5X := Lib.hid (And.intro hO (And.intro hB hR))
        clear hO hB hR
        go_region_law
          (first
            | (refine step_append_want ((w5.drewN 1).alloc (.cells #[] 52)) (by rfl) (.tmp 78) (.tmp 81) _ (by rfl) w5.heap.size 52 i0 _ 3 24 Try.underlying25 hi0 hz0 hz1 hz2 rfl (by omega) (.slice (some ⟨w5.heap.size, 0, none⟩) 0 0) 0 [] (by rfl) w5X.out.1 _ _ k _ (cellsC (bs.take k)) (by rfl) (w5X.out.2.2.headC (by omega)) (cellsC_one _) (by simp only [maxLen]; omega) (by omega) (by simp) ?_
               intro v6 w6 o6 w6g w6t
               have b6 : Below w5.heap.size w5 w6 := w5X.out.2.1.grown w6g (by simp) (fun j hj => by simp [Value.ownBlock] at hj; omega))
            | (refine step_append_want w6 (by rfl) (.tmp 82) (.tmp 86) _ (by rfl) w5.heap.size 52 i0 _ 3 24 Try.underlying25 hi0 hz0 hz1 hz2 rfl (by omega) v6 (0 + k) ([] ++ cellsC (bs.take k)) (by rfl) o6 _ _ (bs.length - (k + 1)) _ (cellsC (bs.drop (k + 1))) (by rfl) (((R.out.2.2.1).below b6).tailC (by omega) HT.out) (cellsC_one _) (by simp only [maxLen]; omega) (by omega) b6.size ?_
               intro v7 w7 o7 w7g w7t
               have b7 : Below w5.heap.size w5 w7 := b6.trans (app_below0 o6 (Nat.le_refl _) b6.size w7g)
               rw [List.nil_append, ← cellsC_append, ← Hxs.out.1, show 0 + k + (bs.length - (k + 1)) = xs.length from by rw [Hxs.out.1, List.length_append, List.length_take, List.length_drop]; omega] at o7
               obtain ⟨A7, c7, hv7, _, hr7⟩ := own_slice o7
               subst hv7
               have H7 := Lib.hid (And.intro b7 hr7)
               clear o7 b7 hr7)
            | (go_simp
               go_at_call 21
               refine (iDatesOf_any _ _ _ _ _ _ ids l xs _ (R.out.1.step H7.out.1) (R.out.2.1.step H7.out.1) H7.out.2 (by omega) (by omega) (by omega)).mono ?_
               rw [Hxs.out.2.1, Hxs.out.2.2]
               rintro e w8 ⟨v8, rfl, hb8, ho8⟩
               obtain ⟨A8, c8, hv8, _, hr8⟩ := own_slice ho8
               subst hv8
               have H8 := Lib.hid (And.intro (below_step H7.out.1 hb8) hr8)
               clear hb8 ho8 hr8))
        go_wp2_with fail
        go_loopw [15] (fun i wr => ∃ k : Nat, k ≤ D.length ∧ i = .int .i64 k ∧ Below w8.heap.size w8 wr) (fun i _ => D.length - (intOf i).toNat)
        case atStart => exact ⟨0, Nat.zero_le _, rfl, Below.refl _ _⟩
        case round =>
          obtain ⟨j, hj, rfl, hbl⟩ := hrel
          by_cases hlt : j < D.length
          · have hjM : j < M.length := by have := HF.out.2; omega
            have hjd : (j : Int) < (D.length : Int) := by omega
            have hjm : (j : Int) < (M.length : Int) := by omega
            obtain ⟨p, q, h1, h2, h3, h4⟩ := HF.out.1 j hlt
            obtain ⟨bd, od, hAd, hbd, hcd⟩ := (H8.out.2.step hbl).sp (by omega)
            subst hAd
            obtain ⟨f1, f2⟩ := hcd j p h1
            obtain ⟨bm, om, hAm, hbm, hcm⟩ := (R.out.2.2.2.1.step (below_step H8.out.1 hbl)).sp (by omega)
            subst hAm
            obtain ⟨f3, f4⟩ := hcm j q h2
            have e1 : decide (q.lo < p.lo) = false := decide_eq_false (by omega)
            have e2 : decide (p.hi < q.hi) = false := decide_eq_false (by omega)
            have HX := Lib.hid hbl
            clear hbl hcd hcm h1 h2 h3 h4
            go_wp2_with fail
            go_quiet (fail)
            go_wp2_with fail
            go_roundw
            case rel => exact ⟨j + 1, by omega, by go_num, below_draws HX.out nq⟩
            case measure => simp [intOf]; omega
          · have hjd : decide ((j : Int) < (D.length : Int)) = false := decide_eq_false (by omega)
            have hjn : ¬ j < M.length := by have := HF.out.2; omega
            have hjm : decide ((j : Int) < (M.length : Int)) = false := decide_eq_false (by omega)
            have HX := Lib.hid hbl
            clear hbl
            go_wp2_with fail
            go_ret
            exact ⟨rfl, below_step R.out.2.2.2.2 (below_step H8.out.1 HX.out)⟩

      · have HT : Hid (0 < bs.length - (k + 1) → (some ⟨b, off + (k + 1) * 3, none⟩ : Option Addr) = (some ⟨b, off, none⟩ : Option Addr).map (·.add ((k + 1) * 3))) := by
          show 0 < bs.length - (k + 1) → _
          intro h0
          simp [Addr.add]
        have hcc2 : (c3 = k + 1) = False := eq_false hcc
        clear hcc
        go_wp2_with fail
        have hO : ((w5.drewN 1).alloc (.cells #[] 52)).ownsRow w5.heap.size 52 3 (.slice (some ⟨w5.heap.size, 0, none⟩) 0 0) 0 [] := own_empty (w := w5.drewN 1) (Nat.le_refl _) rfl
        have hB : Below w5.heap.size w5 ((w5.drewN 1).alloc (.cells #[] 52)) := (below_draws (Below.refl _ _) 1).alloc (Nat.le_refl _) _
        have hR : Reads ((w5.drewN 1).alloc (.cells #[] 52)) w5.heap.size 3 (some ⟨b, off, none⟩) bs.length (cellsC bs) := (R.out.2.2.1).below hB
        have w5X := Lib.hid (And.intro hO (And.intro hB hR))
        clear hO hB hR
        go_region_law
          (first
            | (refine step_append_want ((w5.drewN 1).alloc (.cells #[] 52)) (by rfl) (.tmp 78) (.tmp 81) _ (by rfl) w5.heap.size 52 i0 _ 3 24 Try.underlying25 hi0 hz0 hz1 hz2 rfl (by omega) (.slice (some ⟨w5.heap.size, 0, none⟩) 0 0) 0 [] (by rfl) w5X.out.1 _ _ k _ (cellsC (bs.take k)) (by rfl) (w5X.out.2.2.headC (by omega)) (cellsC_one _) (by simp only [maxLen]; omega) (by omega) (by simp) ?_
               intro v6 w6 o6 w6g w6t
               have b6 : Below w5.heap.size w5 w6 := w5X.out.2.1.grown w6g (by simp) (fun j hj => by simp [Value.ownBlock] at hj; omega))
            | (refine step_append_want w6 (by rfl) (.tmp 82) (.tmp 86) _ (by rfl) w5.heap.size 52 i0 _ 3 24 Try.underlying25 hi0 hz0 hz1 hz2 rfl (by omega) v6 (0 + k) ([] ++ cellsC (bs.take k)) (by rfl) o6 _ _ (bs.length - (k + 1)) _ (cellsC (bs.drop (k + 1))) (by rfl) (((R.out.2.2.1).below b6).tailC (by omega) HT.out) (cellsC_one _) (by simp only [maxLen]; omega) (by omega) b6.size ?_
               intro v7 w7 o7 w7g w7t
               have b7 : Below w5.heap.size w5 w7 := b6.trans (app_below0 o6 (Nat.le_refl _) b6.size w7g)
               rw [List.nil_append, ← cellsC_append, ← Hxs.out.1, show 0 + k + (bs.length - (k + 1)) = xs.length from by rw [Hxs.out.1, List.length_append, List.length_take, List.length_drop]; omega] at o7
               obtain ⟨A7, c7, hv7, _, hr7⟩ := own_slice o7
               subst hv7
               have H7 := Lib.hid (And.intro b7 hr7)
               clear o7 b7 hr7)
            | (go_simp
               go_at_call 21
               refine (iDatesOf_any _ _ _ _ _ _ ids l xs _ (R.out.1.step H7.out.1) (R.out.2.1.step H7.out.1) H7.out.2 (by omega) (by omega) (by omega)).mono ?_
               rw [Hxs.out.2.1, Hxs.out.2.2]
               rintro e w8 ⟨v8, rfl, hb8, ho8⟩
               obtain ⟨A8, c8, hv8, _, hr8⟩ := own_slice ho8
               subst hv8
               have H8 := Lib.hid (And.intro (below_step H7.out.1 hb8) hr8)
               clear hb8 ho8 hr8))
        go_wp2_with fail
        go_loopw [15] (fun i wr => ∃ k : Nat, k ≤ D.length ∧ i = .int .i64 k ∧ Below w8.heap.size w8 wr) (fun i _ => D.length - (intOf i).toNat)
        case atStart => exact ⟨0, Nat.zero_le _, rfl, Below.refl _ _⟩
        case round =>
          obtain ⟨j, hj, rfl, hbl⟩ := hrel
          by_cases hlt : j < D.length
          · have hjM : j < M.length := by have := HF.out.2; omega
            have hjd : (j : Int) < (D.length : Int) := by omega
            have hjm : (j : Int) < (M.length : Int) := by omega
            obtain ⟨p, q, h1, h2, h3, h4⟩ := HF.out.1 j hlt
            obtain ⟨bd, od, hAd, hbd, hcd⟩ := (H8.out.2.step hbl).sp (by omega)
            subst hAd
            obtain ⟨f1, f2⟩ := hcd j p h1
            obtain ⟨bm, om, hAm, hbm, hcm⟩ := (R.out.2.2.2.1.step (below_step H8.out.1 hbl)).sp (by omega)
            subst hAm
            obtain ⟨f3, f4⟩ := hcm j q h2
            have e1 : decide (q.lo < p.lo) = false := decide_eq_false (by omega)
            have e2 : decide (p.hi < q.hi) = false := decide_eq_false (by omega)
            have HX := Lib.hid hbl
            clear hbl hcd hcm h1 h2 h3 h4
            go_wp2_with fail
            go_quiet (fail)
            go_wp2_with fail
            go_roundw
            case rel => exact ⟨j + 1, by omega, by go_num, below_draws HX.out nq⟩
            case measure => simp [intOf]; omega
          · have hjd : decide ((j : Int) < (D.length : Int)) = false := decide_eq_false (by omega)
            have hjn : ¬ j < M.length := by have := HF.out.2; omega
            have hjm : decide ((j : Int) < (M.length : Int)) = false := decide_eq_false (by omega)
            have HX := Lib.hid hbl
            clear hbl
            go_wp2_with fail
            go_ret
            exact ⟨rfl, below_step R.out.2.2.2.2 (below_step H8.out.1 HX.out)⟩

theorem walk (A : Option Addr) (c : Nat) (z : List Int) (B : Option Addr) (cb : Nat) (y : List Int) (w : World) (h1 : z.length ≤ c) (h2 : Reads w w.heap.size 1 A z.length (cellsB z)) (h3 : ∀ b ∈ z, 0 ≤ b ∧ b ≤ 255) (h4 : c ≤ maxLen) (k1 : y.length ≤ cb) (k2 : Reads w w.heap.size 1 B y.length (cellsB y)) (k3 : ∀ b ∈ y, 0 ≤ b ∧ b ≤ 255) (k4 : cb ≤ maxLen) :
    Calls Try.prog 7 #[.slice A z.length c, .slice B y.length cb] w fun e w2 => e = .returned (.bool true) ∧ Below w.heap.size w w2 := by
  by_cases hn : z.length ≤ 1048576
  · by_cases hy : y.length ≤ 1048576
    · exact walk_short A c z B cb y w (Bytes.mk_ h1 h2 h3 h4) (Bytes.mk_ k1 k2 k3 k4) hn hy
    · have e0 : decide ((1048576 : Int) < (z.length : Int)) = false := decide_eq_false (by omega)
      have e1 : decide ((1048576 : Int) < (y.length : Int)) = true := decide_eq_true (by omega)
      go_enter Try.func7, Try.ntmps7
      go_wp2_with fail
      go_ret
      exact ⟨rfl, Below.refl _ _⟩
  · have e0 : decide ((1048576 : Int) < (z.length : Int)) = true := decide_eq_true (by omega)
    go_enter Try.func7, Try.ntmps7
    go_wp2_with fail
    go_ret
    exact ⟨rfl, Below.refl _ _⟩

set_option linter.unusedVariables false
set_option maxRecDepth 100000 in
theorem lifted (os : Os) (started : os.Started) (H : Type) (enc : TypeId × Value → H) :
    ReturnsInHanded {} Try.checked os 7 .any (Rows.fnDatesLessSpec.pre6 enc Try.prog Try.f7 Rows.fnDatesLessRow.domain false) (Rows.fnDatesLessSpec.post enc Try.prog Try.f7 false true false false) := by
  refine returnsInHanded_of_change (C := Try.checked) lawOwn started (by kernel_rfl) Try.func7
    (ChangeSpec.witness6 (enc := enc) (C := Try.checked) false ⟨#[], #[.slice none 0 0, .slice none 0 0], []⟩ 8 (by kernel_rfl) (by kernel_rfl) (by kernel_rfl) (by kernel_rfl)) ?_
  intro W base args ds gs before hval0 hW hcnd _
  have hval : ∀ (j : Nat) t v, Try.f7.params[j]? = some t → args[j]? = some v → Value.okWide Try.prog W .any base t v := hval0
  have hW' := hW
  obtain ⟨p, q, hA0, hV, rfl, hfz, hnd⟩ := hW
  have hA : DataW.TrodAll enc Try.prog W 0 (fun _ => true) true Try.f7.params.toList args.toList ds p := hA0
  rw [Try.params7] at hA hval
  obtain ⟨v0, vs0, d0, ds0, p0, q0, hargs, rfl, rfl, h0, r0⟩ := trodAll_cons hA
  obtain ⟨v1, vs1, d1, ds1, p1, q1, rfl, rfl, rfl, h1, r1⟩ := trodAll_cons r0
  obtain ⟨rfl, rfl, rfl⟩ := trodAll_nil r1
  obtain rfl : args = #[v0, v1] := by cases args; simp_all
  obtain ⟨rfl, rfl⟩ := trodVars_none hV
  have k0 := h0
  have lt0 : ∀ x ∈ p0, x.block < W.heap.size := by obtain ⟨m, hm⟩ := k0; exact DataW.trod_lt m _ _ _ hm
  obtain ⟨a0, len0, cap0, rfl⟩ := okWide_slice Try.underlying22 (hval 0 22 v0 rfl rfl)
  obtain ⟨z0, hl0, hc0, hr0, hb0, hm0⟩ : ∃ z : List Int, len0 = z.length ∧ len0 ≤ cap0 ∧ Reads W W.heap.size 1 a0 len0 (cellsB z) ∧ (∀ b ∈ z, 0 ≤ b ∧ b ≤ 255) ∧ cap0 ≤ maxLen := by
    obtain ⟨fuel, hf⟩ := h0
    exact open_bytes Try.underlying22 Try.underlying5 (by kernel_rfl) (by simpa [Value.cells] using hf)
  subst hl0
  have k1 := h1
  have lt1 : ∀ x ∈ p1, x.block < W.heap.size := by obtain ⟨m, hm⟩ := k1; exact DataW.trod_lt m _ _ _ hm
  obtain ⟨a1, len1, cap1, rfl⟩ := okWide_slice Try.underlying22 (hval 1 22 v1 rfl rfl)
  obtain ⟨z1, hl1, hc1, hr1, hb1, hm1⟩ : ∃ z : List Int, len1 = z.length ∧ len1 ≤ cap1 ∧ Reads W W.heap.size 1 a1 len1 (cellsB z) ∧ (∀ b ∈ z, 0 ≤ b ∧ b ≤ 255) ∧ cap1 ≤ maxLen := by
    obtain ⟨fuel, hf⟩ := h1
    exact open_bytes Try.underlying22 Try.underlying5 (by kernel_rfl) (by simpa [Value.cells] using hf)
  subst hl1
  clear hA0 hval0
  refine (walk a0 cap0 z0 a1 cap1 z1 W hc0 hr0 hb0 hm0 hc1 hr1 hb1 hm1).mono fun e W' ⟨he, bel⟩ => ?_
  subst he
  exact ⟨_, rfl, _, _, _, [], _, [], hW', trodAll_mk1 (shut_bool Try.underlying4 _), (trodAll_cons_mk (Below.trod lawLaid (by kernel_rfl) (of_decide_eq_true (by kernel_rfl)) k0 bel lt0) (trodAll_cons_mk (Below.trod lawLaid (by kernel_rfl) (of_decide_eq_true (by kernel_rfl)) k1 bel lt1) trodAll_mk0)), rfl, bel.frame _, fun h => by cases h⟩

theorem closed : joinedFacts Try.checked.prog 7 Try.f7 Rows.fnDatesLessSpec Rows.fnDatesLessRow = true := by
  unfold joinedFacts
  repeat (refine and_t ?_ (by first | (with_reducible exact ent) | (with_reducible refine lif_c ?_; kernel_rfl) | (with_reducible refine mak_c ?_; kernel_rfl) | kernel_rfl))
  kernel_rfl
theorem proved : Rows.FnDatesLessSaid :=
  OpenClaim.holds_of_wide 7 Try.f7 rfl rfl rfl rfl rfl rfl rfl ⟨rfl, rfl, rfl, rfl, rfl⟩ rfl rfl rfl rfl rfl (by kernel_rfl) Try.func7 closed
    (of_decide_eq_true (by kernel_rfl)) (by unfold Func.isWrapper; rw [if_neg (of_decide_eq_false (by kernel_rfl))]; exact ⟨rfl, rfl⟩)
    (fun os started H enc _ => lifted os started H enc)
#print axioms proved
end Go.Proofs.Ytfeodclacjolaaa.lawDatesLess
