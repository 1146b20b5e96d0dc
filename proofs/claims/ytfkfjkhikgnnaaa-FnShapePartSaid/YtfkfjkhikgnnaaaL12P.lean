/-
  Whatever bytes are given: a shape turned round is no shape, and one without a corner is a lesser shape. No condition.
-/
import Derived.Test.YtfkfjkhikgnnaaaEnt
import Derived.Test.YtfkfjkhikgnnaaaLif
import Derived.Test.YtfkfjkhikgnnaaaMak
import Derived.Test.YtfkfjkhikgnnaaaOpen
import Derived.Test.YtfkfjkhikgnnaaaIsh
import Derived.Test.YtfkfjkhikgnnaaaGe5
import Derived.Test.YtfkfjkhikgnnaaaSd3
import Derived.Test.YtfkfjkhikgnnaaaPt2
namespace Go.Proofs.Ytfkfjkhikgnnaaa.lawShapePart
open Go.ChangeShapes Go.WideShapes Go.ChangeAt Go.RowKit

set_option maxHeartbeats 8000000 in
set_option maxRecDepth 100000 in
theorem walk_short (A : Option Addr) (c : Nat) (z : List Int) (A1 : Option Addr) (c1 : Nat) (z1 : List Int) (w : World) (h : Bytes w A c z) (hn : z.length ≤ 1048576) (hn1 : z1.length ≤ 1048576) :
    Calls Try.prog 12 #[.slice A z.length c, .slice A1 z1.length c1] w fun e w2 => e = .returned (.bool true) ∧ Below w.heap.size w w2 := by
  have e0 : decide ((1048576 : Int) < (z.length : Int)) = false := decide_eq_false (by omega)
  have e01 : decide ((1048576 : Int) < (z1.length : Int)) = false := decide_eq_false (by omega)
  go_enter Try.func12, Try.ntmps12
  go_wp2_with fail
  obtain ⟨i0, hi0, hz0, hz1, hz2⟩ := info_parts infoPoint
  refine (dShValid_any A c z _ h).mono ?_
  rintro e w2 ⟨v1, L, rfl, ⟨A2, c2, hv1, hc2, hr2⟩, hL, hb2⟩
  subst hv1
  go_wp2_with fail
  refine (iShValid_any _ _ L _ hr2 (by omega)).mono ?_
  rintro e w3 ⟨rfl, hb3⟩
  go_wp2_with fail
  refine (sShValid_any _ _ L _ (hr2.step hb3) (by omega)).mono ?_
  rintro e w3' ⟨rfl, hb4⟩
  have K4 := Lib.hid (And.intro (below_step (below_step hb2 hb3) hb4) (hr2.step (below_step hb3 hb4)))
  clear hb2 hb3 hb4 hr2 h
  cases hok : okSh L
  · go_wp2_with fail
    go_ret
    exact ⟨rfl, K4.out.1⟩
  · have hbad := back_bad hok
    have h3 := (okSh_parts hok).1.three
    have hpos : 0 < L.length := by omega
    have hpi : (0 : Int) < (L.length : Int) := by omega
    have e1 : ((L.length : Int) == 0) = false := by rw [beq_eq_false_iff_ne]; omega
    have HO := Lib.hid (And.intro hok hbad)
    have jE : Below w3'.heap.size w3' (w3'.alloc (.cells #[] 27)) := (Below.refl _ _).alloc (Nat.le_refl _) _
    have oE : (w3'.alloc (.cells #[] 27)).ownsRow w3'.heap.size 27 2 (.slice (some ⟨w3'.heap.size, 0, none⟩) 0 0) ([] : List Sp).length (cellsS []) := own_empty (Nat.le_refl _) rfl
    have HE := Lib.hid (And.intro jE oE)
    clear hok hbad jE oE
    obtain ⟨nn, hnn⟩ : ∃ nn, (L.length : Int) - 1 = nn := ⟨_, rfl⟩
    go_wp2_with fail
    go_loopw [8, 9] (fun v i wr => ∃ (j : Nat) (Y : List Sp), j ≤ L.length ∧ i = .int .i64 ((j : Int) - 1) ∧ Y = (L.drop j).reverse ∧ Below w3'.heap.size w3' wr ∧ wr.ownsRow w3'.heap.size 27 2 v Y.length (cellsS Y)) (fun _ i _ => (intOf i + 1).toNat)
    case atStart => exact ⟨L.length, [], Nat.le_refl _, by rw [← hnn], by simp, HE.out.1, HE.out.2⟩
    case round =>
      obtain ⟨j, Y, hj, rfl, hY, hbl, hown⟩ := hrel
      have hYl : Y.length = L.length - j := by rw [hY]; simp
      have hYb : Y.length ≤ 1000 := by omega
      obtain ⟨AY, cY, hvY, hcY, hrY⟩ := own_slice hown
      subst hvY
      by_cases hj0 : j = 0
      · subst hj0
        have hYe : Y = L.reverse := by rw [hY]; rfl
        have eneg : decide ((0 : Int) ≤ (((0 : Nat) : Int) - 1)) = false := by decide
        obtain ⟨m1, hm1⟩ : ∃ m1, (((0 : Nat) : Int) - 1) = m1 := ⟨_, rfl⟩
        have em1 : decide ((0 : Int) ≤ m1) = false := by rw [← hm1]; decide
        rw [hm1]
        have HY := Lib.hid (show okSh Y = false by rw [hYe]; exact HO.out.2)
        obtain ⟨w4, hw4⟩ : ∃ w4, w4 = wr := ⟨_, rfl⟩
        subst hw4
        have R4 := Lib.hid (And.intro (below_step K4.out.1 hbl) (And.intro (K4.out.2.step hbl) hrY))
        have hkl : z1.length % L.length < L.length := Nat.mod_lt _ hpos
        obtain ⟨k, hke⟩ : ∃ k : Nat, k = z1.length % L.length := ⟨_, rfl⟩
        have hki : (z1.length : Int) % (L.length : Int) = (k : Int) := by rw [hke]; rfl
        rw [← hke] at hkl
        obtain ⟨b, off, hA, hbb, _⟩ := R4.out.2.1.corner hpos
        subst hA
        obtain ⟨xs, hxs⟩ : ∃ xs, xs = L.take k ++ L.drop (k + 1) := ⟨_, rfl⟩
        have hcut : L.length ≠ 3 → okSh xs = true ∧ areaS xs < areaS L := fun h33 => by rw [hxs]; exact cut_ok HO.out.1 hkl h33
        have hxl : xs.length ≤ 1000 := by rw [hxs, List.length_append, List.length_take, List.length_drop]; omega
        have Hxs := Lib.hid (And.intro hxs hcut)
        clear hxs hcut hke hY hYl hYe hown hrY hbl
        have hk0 : (0 : Int) ≤ (k : Int) := by omega
        have hk1 : (0 : Int) ≤ (k : Int) + 1 := by omega
        have hk2 : ((k : Int) + 1).toNat = k + 1 := by omega
        have hkw : IntKind.i64.wrap ((k : Int) + 1) = (k : Int) + 1 := IntWalk.i64_in _ (by omega)
        have hkc : (k : Int) ≤ (c2 : Int) := by omega
        have hkc2 : (k : Int) + 1 ≤ (c2 : Int) := by omega
        have hkl2 : (k : Int) ≤ (L.length : Int) := by omega
        have hkl3 : (k : Int) + 1 ≤ (L.length : Int) := by omega
        have hne : ¬ c2 = k := by omega
        by_cases hcc : c2 = k + 1
        · skip
          have HT : Hid (0 < L.length - (k + 1) → (some ⟨b, off, none⟩ : Option Addr) = (some ⟨b, off, none⟩ : Option Addr).map (·.add ((k + 1) * 2))) := by
            show 0 < L.length - (k + 1) → _
            intro h0
            omega
          have hcc2 : (c2 = k + 1) = True := eq_true hcc
          clear hcc
          go_wp2_with fail
          have hO : ((w4.drewN 1).alloc (.cells #[] 27)).ownsRow w4.heap.size 27 2 (.slice (some ⟨w4.heap.size, 0, none⟩) 0 0) 0 [] := own_empty (w := w4.drewN 1) (Nat.le_refl _) rfl
          have hB : Below w4.heap.size w4 ((w4.drewN 1).alloc (.cells #[] 27)) := (below_draws (Below.refl _ _) 1).alloc (Nat.le_refl _) _
          have hR : Reads ((w4.drewN 1).alloc (.cells #[] 27)) w4.heap.size 2 (some ⟨b, off, none⟩) L.length (cellsS L) := (R4.out.2.1).below hB
          have w5X := Lib.hid (And.intro hO (And.intro hB hR))
          clear hO hB hR
          go_region_held3 (fun _ => True) (trivial)
            (first
              | (refine step_append_want ((w4.drewN 1).alloc (.cells #[] 27)) (by rfl) (.tmp 56) (.tmp 59) _ (by rfl) w4.heap.size 27 i0 _ 2 16 Try.underlying23 hi0 hz0 hz1 hz2 rfl (by omega) (.slice (some ⟨w4.heap.size, 0, none⟩) 0 0) 0 [] (by rfl) w5X.out.1 _ _ k _ (cellsS (L.take k)) (by rfl) (w5X.out.2.2.headS (by omega)) (cellsS_one _) (by simp only [maxLen]; omega) (by omega) (by simp) ?_
                 intro v5 w5 o5 w5g w5t
                 have b5 : Below w4.heap.size w4 w5 := w5X.out.2.1.grown w5g (by simp) (fun j hj => by simp [Value.ownBlock] at hj; omega))
              | (refine step_append_want w5 (by rfl) (.tmp 60) (.tmp 64) _ (by rfl) w4.heap.size 27 i0 _ 2 16 Try.underlying23 hi0 hz0 hz1 hz2 rfl (by omega) v5 (0 + k) ([] ++ cellsS (L.take k)) (by rfl) o5 _ _ (L.length - (k + 1)) _ (cellsS (L.drop (k + 1))) (by rfl) (((R4.out.2.1).below b5).tailS (by omega) HT.out) (cellsS_one _) (by simp only [maxLen]; omega) (by omega) b5.size ?_
                 intro v6 w6 o6 w6g w6t
                 have b6 : Below w4.heap.size w4 w6 := b5.trans (app_below0 o5 (Nat.le_refl _) b5.size w6g)
                 rw [List.nil_append, ← cellsS_append, ← Hxs.out.1, show 0 + k + (L.length - (k + 1)) = xs.length from by rw [Hxs.out.1, List.length_append, List.length_take, List.length_drop]; omega] at o6
                 have o6H := Lib.hid o6
                 clear o6))
          obtain ⟨A6, c6, hv6, _, hr6⟩ := own_slice o6H.out
          subst hv6
          have K6 := Lib.hid (And.intro (below_step R4.out.1 b6) (And.intro (R4.out.2.1.step b6) (And.intro (R4.out.2.2.step b6) hr6)))
          clear hr6
          go_wp2_with fail
          refine (iShValid_any _ _ Y _ K6.out.2.2.1 (by omega)).mono ?_
          rw [HY.out]
          rintro e w7 ⟨rfl, hb7⟩
          have K7 := Lib.hid (And.intro (below_step K6.out.1 hb7) (And.intro (K6.out.2.1.step hb7) (K6.out.2.2.2.step hb7)))
          clear hb7 K6
          by_cases h33 : L.length = 3
          · have e33 : ((L.length : Int) == 3) = true := by rw [beq_iff_eq]; omega
            clear h33
            go_wp2_with fail
            go_ret
            exact ⟨rfl, K7.out.1⟩
          · have e33 : ((L.length : Int) == 3) = false := by rw [beq_eq_false_iff_ne]; omega
            obtain ⟨xok, xar⟩ := Hxs.out.2 h33
            obtain ⟨ar, har⟩ : ∃ ar, ar = areaS L := ⟨_, rfl⟩
            obtain ⟨br, hbr⟩ : ∃ br, br = areaS xs := ⟨_, rfl⟩
            rw [← har, ← hbr] at xar
            have elt : decide (br < ar) = true := decide_eq_true xar
            have HX := Lib.hid (And.intro xok (And.intro har hbr))
            clear xok har hbr h33
            go_wp2_with fail
            refine (iShValid_any _ _ xs _ K7.out.2.2 (by omega)).mono ?_
            rw [HX.out.1]
            rintro e w8 ⟨rfl, hb8⟩
            have K8 := Lib.hid (And.intro (below_step K7.out.1 hb8) (And.intro (K7.out.2.1.step hb8) (K7.out.2.2.step hb8)))
            clear hb8
            go_wp2_with fail
            refine (iShArea_any _ _ xs _ K8.out.2.2 (by omega)).mono ?_
            rw [← HX.out.2.2]
            rintro e w9 ⟨rfl, hb9⟩
            have K9 := Lib.hid (And.intro (below_step K8.out.1 hb9) (K8.out.2.1.step hb9))
            clear hb9
            go_wp2_with fail
            refine (iShArea_any _ _ L _ K9.out.2 (by omega)).mono ?_
            rw [← HX.out.2.1]
            rintro e w10 ⟨rfl, hb10⟩
            have KE := Lib.hid (below_step K9.out.1 hb10)
            clear hb10
            go_wp2_with fail
            go_ret
            exact ⟨rfl, KE.out⟩
        · skip
          have HT : Hid (0 < L.length - (k + 1) → (some ⟨b, off + (k + 1) * 2, none⟩ : Option Addr) = (some ⟨b, off, none⟩ : Option Addr).map (·.add ((k + 1) * 2))) := by
            show 0 < L.length - (k + 1) → _
            intro _
            simp only [Option.map, Addr.add]
            rw [if_neg (by omega)]
          go_wp2_with fail
          have hO : ((w4.drewN 1).alloc (.cells #[] 27)).ownsRow w4.heap.size 27 2 (.slice (some ⟨w4.heap.size, 0, none⟩) 0 0) 0 [] := own_empty (w := w4.drewN 1) (Nat.le_refl _) rfl
          have hB : Below w4.heap.size w4 ((w4.drewN 1).alloc (.cells #[] 27)) := (below_draws (Below.refl _ _) 1).alloc (Nat.le_refl _) _
          have hR : Reads ((w4.drewN 1).alloc (.cells #[] 27)) w4.heap.size 2 (some ⟨b, off, none⟩) L.length (cellsS L) := (R4.out.2.1).below hB
          have w5X := Lib.hid (And.intro hO (And.intro hB hR))
          clear hO hB hR
          go_region_held3 (fun _ => True) (trivial)
            (first
              | (refine step_append_want ((w4.drewN 1).alloc (.cells #[] 27)) (by rfl) (.tmp 56) (.tmp 59) _ (by rfl) w4.heap.size 27 i0 _ 2 16 Try.underlying23 hi0 hz0 hz1 hz2 rfl (by omega) (.slice (some ⟨w4.heap.size, 0, none⟩) 0 0) 0 [] (by rfl) w5X.out.1 _ _ k _ (cellsS (L.take k)) (by rfl) (w5X.out.2.2.headS (by omega)) (cellsS_one _) (by simp only [maxLen]; omega) (by omega) (by simp) ?_
                 intro v5 w5 o5 w5g w5t
                 have b5 : Below w4.heap.size w4 w5 := w5X.out.2.1.grown w5g (by simp) (fun j hj => by simp [Value.ownBlock] at hj; omega))
              | (refine step_append_want w5 (by rfl) (.tmp 60) (.tmp 64) _ (by rfl) w4.heap.size 27 i0 _ 2 16 Try.underlying23 hi0 hz0 hz1 hz2 rfl (by omega) v5 (0 + k) ([] ++ cellsS (L.take k)) (by rfl) o5 _ _ (L.length - (k + 1)) _ (cellsS (L.drop (k + 1))) (by rfl) (((R4.out.2.1).below b5).tailS (by omega) HT.out) (cellsS_one _) (by simp only [maxLen]; omega) (by omega) b5.size ?_
                 intro v6 w6 o6 w6g w6t
                 have b6 : Below w4.heap.size w4 w6 := b5.trans (app_below0 o5 (Nat.le_refl _) b5.size w6g)
                 rw [List.nil_append, ← cellsS_append, ← Hxs.out.1, show 0 + k + (L.length - (k + 1)) = xs.length from by rw [Hxs.out.1, List.length_append, List.length_take, List.length_drop]; omega] at o6
                 have o6H := Lib.hid o6
                 clear o6))
          obtain ⟨A6, c6, hv6, _, hr6⟩ := own_slice o6H.out
          subst hv6
          have K6 := Lib.hid (And.intro (below_step R4.out.1 b6) (And.intro (R4.out.2.1.step b6) (And.intro (R4.out.2.2.step b6) hr6)))
          clear hr6
          go_wp2_with fail
          refine (iShValid_any _ _ Y _ K6.out.2.2.1 (by omega)).mono ?_
          rw [HY.out]
          rintro e w7 ⟨rfl, hb7⟩
          have K7 := Lib.hid (And.intro (below_step K6.out.1 hb7) (And.intro (K6.out.2.1.step hb7) (K6.out.2.2.2.step hb7)))
          clear hb7 K6
          by_cases h33 : L.length = 3
          · have e33 : ((L.length : Int) == 3) = true := by rw [beq_iff_eq]; omega
            clear h33
            go_wp2_with fail
            go_ret
            exact ⟨rfl, K7.out.1⟩
          · have e33 : ((L.length : Int) == 3) = false := by rw [beq_eq_false_iff_ne]; omega
            obtain ⟨xok, xar⟩ := Hxs.out.2 h33
            obtain ⟨ar, har⟩ : ∃ ar, ar = areaS L := ⟨_, rfl⟩
            obtain ⟨br, hbr⟩ : ∃ br, br = areaS xs := ⟨_, rfl⟩
            rw [← har, ← hbr] at xar
            have elt : decide (br < ar) = true := decide_eq_true xar
            have HX := Lib.hid (And.intro xok (And.intro har hbr))
            clear xok har hbr h33
            go_wp2_with fail
            refine (iShValid_any _ _ xs _ K7.out.2.2 (by omega)).mono ?_
            rw [HX.out.1]
            rintro e w8 ⟨rfl, hb8⟩
            have K8 := Lib.hid (And.intro (below_step K7.out.1 hb8) (And.intro (K7.out.2.1.step hb8) (K7.out.2.2.step hb8)))
            clear hb8
            go_wp2_with fail
            refine (iShArea_any _ _ xs _ K8.out.2.2 (by omega)).mono ?_
            rw [← HX.out.2.2]
            rintro e w9 ⟨rfl, hb9⟩
            have K9 := Lib.hid (And.intro (below_step K8.out.1 hb9) (K8.out.2.1.step hb9))
            clear hb9
            go_wp2_with fail
            refine (iShArea_any _ _ L _ K9.out.2 (by omega)).mono ?_
            rw [← HX.out.2.1]
            rintro e w10 ⟨rfl, hb10⟩
            have KE := Lib.hid (below_step K9.out.1 hb10)
            clear hb10
            go_wp2_with fail
            go_ret
            exact ⟨rfl, KE.out⟩
      · obtain ⟨k, rfl⟩ : ∃ k, j = k + 1 := ⟨j - 1, by omega⟩
        have hkk : (((k + 1 : Nat) : Int) - 1) = (k : Int) := by omega
        rw [hkk]
        have hki : (k : Int) < (L.length : Int) := by omega
        have hk0 : (0 : Int) ≤ (k : Int) := by omega
        have e9 : decide ((0 : Int) ≤ (k : Int)) = true := decide_eq_true hk0
        obtain ⟨b, off, hA, hbb, hc⟩ := (K4.out.2.step hbl).corner hpos
        subst hA
        obtain ⟨d1, d2⟩ := hc k (by omega)
        obtain ⟨p, hp⟩ : ∃ p, p = ptG L k := ⟨_, rfl⟩
        rw [← hp] at d1 d2
        obtain ⟨nk, hnk⟩ : ∃ nk, (k : Int) - 1 = nk := ⟨_, rfl⟩
        have hnw : IntKind.i64.wrap nk = nk := by rw [IntKind.wrap_i64]; omega
        have HR := Lib.hid (And.intro hown (And.intro hbl (show Y ++ [p] = (L.drop k).reverse by
          rw [hY, List.drop_eq_getElem_cons (show k < L.length by omega), List.reverse_cons, hp]
          have := ptG_get (show k < L.length by omega)
          rw [List.getElem?_eq_getElem (show k < L.length by omega)] at this
          injection this with this
          rw [this])))
        have hs3 := hbl.size
        clear hown hbl hY hYl hp hc hrY
        go_wp2_with (at_builtin
                     go_must (refine wpList_append_reads _ rfl (.tmp 44) (.tmp 49) _ rfl w3'.heap.size 27 i0 _ 2 16 Try.underlying23 hi0 hz0 hz1 hz2 rfl (by omega) (.slice AY Y.length cY) Y.length _ rfl (HR.out.1.alloc _) (wr.heap.size + 1) _ 1 1 (cellsS [p]) rfl (readsS_one (by omega)) (cellsS_one _) (by simp only [maxLen]; omega) (by omega) (by simp; omega) ?_)
                     intro v8 w8 hown8 hg8 hat8)
        go_roundw
        case rel =>
          refine ⟨k, Y ++ [p], by omega, by rw [← hnk], HR.out.2.2, ?_, ?_⟩
          · exact (HR.out.2.1.alloc (by omega) _).grown hg8 (by simp; omega) (fun q hq => (HR.out.1.lt q hq).1)
          · rw [List.length_append, cellsS_append]
            exact hown8
        case measure => simp [intOf]; omega
theorem walk (A : Option Addr) (c : Nat) (z : List Int) (A1 : Option Addr) (c1 : Nat) (z1 : List Int) (w : World) (h1 : z.length ≤ c) (h2 : Reads w w.heap.size 1 A z.length (cellsB z)) (h3 : ∀ b ∈ z, 0 ≤ b ∧ b ≤ 255) (h4 : c ≤ maxLen) (_ : z1.length ≤ c1) (_ : Reads w w.heap.size 1 A1 z1.length (cellsB z1)) (_ : ∀ b ∈ z1, 0 ≤ b ∧ b ≤ 255) (_ : c1 ≤ maxLen) :
    Calls Try.prog 12 #[.slice A z.length c, .slice A1 z1.length c1] w fun e w2 => e = .returned (.bool true) ∧ Below w.heap.size w w2 := by
  by_cases hn : z.length ≤ 1048576
  · by_cases hn1 : z1.length ≤ 1048576
    · exact walk_short A c z A1 c1 z1 w (Bytes.mk_ h1 h2 h3 h4) hn hn1
    · have e0 : decide ((1048576 : Int) < (z.length : Int)) = false := decide_eq_false (by omega)
      have e01 : decide ((1048576 : Int) < (z1.length : Int)) = true := decide_eq_true (by omega)
      go_enter Try.func12, Try.ntmps12
      go_wp2_with fail
      go_ret
      exact ⟨rfl, Below.refl _ _⟩
  · have e0 : decide ((1048576 : Int) < (z.length : Int)) = true := decide_eq_true (by omega)
    go_enter Try.func12, Try.ntmps12
    go_wp2_with fail
    go_ret
    exact ⟨rfl, Below.refl _ _⟩

set_option linter.unusedVariables false
set_option maxRecDepth 100000 in
theorem lifted (os : Os) (started : os.Started) (H : Type) (enc : TypeId × Value → H) :
    ReturnsInHanded {} Try.checked os 12 .any (Rows.fnShapePartSpec.pre6 enc Try.prog Try.f12 Rows.fnShapePartRow.domain false) (Rows.fnShapePartSpec.post enc Try.prog Try.f12 false true false false) := by
  refine returnsInHanded_of_change (C := Try.checked) lawOwn started (by kernel_rfl) Try.func12
    (ChangeSpec.witness6 (enc := enc) (C := Try.checked) false ⟨#[], #[.slice none 0 0, .slice none 0 0], []⟩ 8 (by kernel_rfl) (by kernel_rfl) (by kernel_rfl) (by kernel_rfl)) ?_
  intro W base args ds gs before hval0 hW hcnd _
  have hval : ∀ (j : Nat) t v, Try.f12.params[j]? = some t → args[j]? = some v → Value.okWide Try.prog W .any base t v := hval0
  have hW' := hW
  obtain ⟨p, q, hA0, hV, rfl, hfz, hnd⟩ := hW
  have hA : DataW.TrodAll enc Try.prog W 0 (fun _ => true) true Try.f12.params.toList args.toList ds p := hA0
  rw [Try.params12] at hA hval
  obtain ⟨v0, vs0, d0, ds0, p0, q0, hargs, rfl, rfl, h0, r0⟩ := trodAll_cons hA
  obtain ⟨v1, vs1, d1, ds1, p1, q1, rfl, rfl, rfl, h1, r1⟩ := trodAll_cons r0
  obtain ⟨rfl, rfl, rfl⟩ := trodAll_nil r1
  obtain rfl : args = #[v0, v1] := by cases args; simp_all
  obtain ⟨rfl, rfl⟩ := trodVars_none hV
  have k0 := h0
  have lt0 : ∀ x ∈ p0, x.block < W.heap.size := by obtain ⟨m, hm⟩ := k0; exact DataW.trod_lt m _ _ _ hm
  obtain ⟨a0, len0, cap0, rfl⟩ := okWide_slice Try.underlying22 (hval 0 22 v0 rfl rfl)
  obtain ⟨z0, hl0, hc0, hr0, hb0, hm0⟩ : ∃ z : List Int, len0 = z.length ∧ len0 ≤ cap0 ∧ Reads W W.heap.size 1 a0 len0 (cellsB z) ∧ (∀ b ∈ z, 0 ≤ b ∧ b ≤ 255) ∧ cap0 ≤ maxLen := by
    obtain ⟨fuel, hf⟩ := h0
    exact open_bytes Try.underlying22 Try.underlying5 (by kernel_rfl) (by simpa [Value.cells] using hf)
  subst hl0
  have k1 := h1
  have lt1 : ∀ x ∈ p1, x.block < W.heap.size := by obtain ⟨m, hm⟩ := k1; exact DataW.trod_lt m _ _ _ hm
  obtain ⟨a1, len1, cap1, rfl⟩ := okWide_slice Try.underlying22 (hval 1 22 v1 rfl rfl)
  obtain ⟨z1, hl1, hc1, hr1, hb1, hm1⟩ : ∃ z : List Int, len1 = z.length ∧ len1 ≤ cap1 ∧ Reads W W.heap.size 1 a1 len1 (cellsB z) ∧ (∀ b ∈ z, 0 ≤ b ∧ b ≤ 255) ∧ cap1 ≤ maxLen := by
    obtain ⟨fuel, hf⟩ := h1
    exact open_bytes Try.underlying22 Try.underlying5 (by kernel_rfl) (by simpa [Value.cells] using hf)
  subst hl1
  clear hA0 hval0
  refine (walk a0 cap0 z0 a1 cap1 z1 W hc0 hr0 hb0 hm0 hc1 hr1 hb1 hm1).mono fun e W' ⟨he, bel⟩ => ?_
  subst he
  exact ⟨_, rfl, _, _, _, [], _, [], hW', trodAll_mk1 (shut_bool Try.underlying4 _), (trodAll_cons_mk (Below.trod lawLaid (by kernel_rfl) (of_decide_eq_true (by kernel_rfl)) k0 bel lt0) (trodAll_cons_mk (Below.trod lawLaid (by kernel_rfl) (of_decide_eq_true (by kernel_rfl)) k1 bel lt1) trodAll_mk0)), rfl, bel.frame _, fun h => by cases h⟩

theorem closed : joinedFacts Try.checked.prog 12 Try.f12 Rows.fnShapePartSpec Rows.fnShapePartRow = true := by
  unfold joinedFacts
  repeat (refine and_t ?_ (by first | (with_reducible exact ent) | (with_reducible refine lif_c ?_; kernel_rfl) | (with_reducible refine mak_c ?_; kernel_rfl) | kernel_rfl))
  kernel_rfl
theorem proved : Rows.FnShapePartSaid :=
  OpenClaim.holds_of_wide 12 Try.f12 rfl rfl rfl rfl rfl rfl rfl ⟨rfl, rfl, rfl, rfl, rfl⟩ rfl rfl rfl rfl rfl (by kernel_rfl) Try.func12 closed
    (of_decide_eq_true (by kernel_rfl)) (by unfold Func.isWrapper; rw [if_neg (of_decide_eq_false (by kernel_rfl))]; exact ⟨rfl, rfl⟩)
    (fun os started H enc _ => lifted os started H enc)
#print axioms proved
end Go.Proofs.Ytfkfjkhikgnnaaa.lawShapePart
