/-
  Whatever bytes are given: of contexts and relations drawn from them, contexts that have one head without one of the relations have one head with it; the program's groups are the model's. No condition.
-/
import Derived.Test.YtgnhdclhligngaaDg
import Derived.Test.YtgnhdclhligngaaGx
import Derived.Test.YtgnhdclhligngaaS5
import Derived.Test.YtgnhdclhligngaaGf
import Derived.Test.YtgnhdclhligngaaOpen
import Derived.Deep.RegionHeld3
namespace Go.Proofs.Ytgnhdclhligngaa.lawDrop
open Go.ChangeShapes Go.WideShapes Go.ChangeAt Go.RowKit

set_option maxHeartbeats 4000000 in
theorem walk_short (A : Option Addr) (c : Nat) (z : List Int) (A9 : Option Addr) (c9 : Nat) (z9 : List Int) (w : World) (h : Bytes w A c z) (hn : z.length ≤ 1048576) (hn9 : z9.length ≤ 1048576) :
    Calls Try.prog 6 #[.slice A z.length c, .slice A9 z9.length c9] w fun e w2 => e = .returned (.bool true) ∧ Below w.heap.size w w2 := by
  have e0 : decide ((1048576 : Int) < (z.length : Int)) = false := decide_eq_false (by omega)
  have e09 : decide ((1048576 : Int) < (z9.length : Int)) = false := decide_eq_false (by omega)
  go_enter Try.func6, Try.ntmps6
  go_wp2_with fail
  refine (dGroups_any A c z _ h).mono ?_
  rintro e w2 ⟨v1, v2, ids, l, rfl, ho1, ho2, hl1, hl2, hb2⟩
  obtain ⟨A1, c1, hv1, hcap1, hr1⟩ := own_slice ho1
  obtain ⟨A2, c2, hv2, hcap2, hr2⟩ := own_slice ho2
  subst hv1 hv2
  have HB2 := Lib.hid hb2
  clear ho1 ho2 hb2 h
  cases hok : okG ids l
  · go_wp2_with fail
    refine (iGroups_any _ _ _ _ ids l _ hr1 hr2 (by omega) (by omega)).mono ?_
    rintro e w3 ⟨v3, rfl, hb3, ho3⟩
    rw [hok]
    rw [groupsOfG, hok] at ho3
    obtain ⟨A3, c3, hv3, _, hr3⟩ := own_slice ho3
    subst hv3
    go_wp2_with fail
    refine (sGroupsOf_any _ _ _ _ ids l _ (hr1.step hb3) (hr2.step hb3) (by omega) (by omega)).mono ?_
    rintro e w4 ⟨v4, rfl, hb4, ho4⟩
    rw [hok]
    rw [groupsOfG, hok] at ho4
    obtain ⟨A4, c4, hv4, _, hr4⟩ := own_slice ho4
    subst hv4
    have k4 := below_step (below_step HB2.out hb3) hb4
    have q := eqLI_self []
    have R3 := Lib.hid (hr3.step hb4)
    have R4 := Lib.hid hr4
    have K4 := Lib.hid k4
    clear hr3 hr4 hb3 hb4 ho3 ho4 k4 hr1 hr2
    go_wp2_with fail
    refine (sameInts_any _ _ _ _ [] [] _ R3.out R4.out (by simp)).mono ?_
    rintro e w5 ⟨rfl, hb5⟩
    go_wp2_with fail
    refine (sameInts_any _ _ _ _ [] [] _ (R3.out.step hb5) (R4.out.step hb5) (by simp)).mono ?_
    rintro e w6 ⟨rfl, hb6⟩
    go_wp2_with fail
    go_ret
    exact ⟨rfl, below_step (below_step K4.out hb5) hb6⟩
  · obtain ⟨G, hG⟩ : ∃ G, G = groupsG ids l := ⟨_, rfl⟩
    have hGl : G.length = ids.length := by rw [hG, groupsG_len]
    have hof : groupsOfG ids l = G := by rw [groupsOfG, if_pos hok, hG]
    have HG := Lib.hid (And.intro hok (And.intro hG hGl))
    have hgn : G.length ≤ 13 := by omega
    have eln : ((G.length : Int) != (ids.length : Int)) = false := by simp [hGl]
    have q := eqLI_self G
    clear hG hGl
    go_wp2_with fail
    refine (iGroups_any _ _ _ _ ids l _ hr1 hr2 (by omega) (by omega)).mono ?_
    rintro e w3 ⟨v3, rfl, hb3, ho3⟩
    rw [hok]
    rw [hof] at ho3
    obtain ⟨A3, c3, hv3, _, hr3⟩ := own_slice ho3
    subst hv3
    go_wp2_with fail
    refine (sGroupsOf_any _ _ _ _ ids l _ (hr1.step hb3) (hr2.step hb3) (by omega) (by omega)).mono ?_
    rintro e w4 ⟨v4, rfl, hb4, ho4⟩
    rw [hok]
    rw [hof] at ho4
    obtain ⟨A4, c4, hv4, _, hr4⟩ := own_slice ho4
    subst hv4
    have R3 := Lib.hid (hr3.step hb4)
    have R4 := Lib.hid hr4
    have R12 := Lib.hid (And.intro (hr1.step (below_step hb3 hb4)) (hr2.step (below_step hb3 hb4)))
    have K4 := Lib.hid (below_step (below_step HB2.out hb3) hb4)
    clear hr3 hr4 hb3 hb4 ho3 ho4 hr1 hr2 hok hof
    go_wp2_with fail
    refine (sameInts_any _ _ _ _ G G _ R3.out R4.out (by omega)).mono ?_
    rintro e w5 ⟨rfl, hb5⟩
    have R := Lib.hid (And.intro (R12.out.1.step hb5) (And.intro (R12.out.2.step hb5) (R3.out.step hb5)))
    have K5 := Lib.hid (below_step K4.out hb5)
    have RW := Lib.hid (R4.out.step hb5)
    clear R12 R3 R4 K4 hb5
    obtain ⟨i0, hi0, hz0, hz1, hz2⟩ := info_parts infoRel
    rcases Nat.eq_zero_or_pos l.length with h0 | hpos
    · have e1 : ((l.length : Int) == 0) = true := by simp [h0]
      clear h0
      go_wp2_with fail
      refine (sameInts_any _ _ _ _ G G _ R.out.2.2 RW.out (by omega)).mono ?_
      rintro e w6 ⟨rfl, hb6⟩
      go_wp2_with fail
      go_ret
      exact ⟨rfl, below_step K5.out hb6⟩
    · have e1 : ((l.length : Int) == 0) = false := by rw [beq_eq_false_iff_ne]; omega
      have hkl : z9.length % l.length < l.length := Nat.mod_lt _ hpos
      have hpi : (0 : Int) < (l.length : Int) := by omega
      go_wp2_with fail
      obtain ⟨k, hke⟩ : ∃ k : Nat, k = z9.length % l.length := ⟨_, rfl⟩
      have hki : (z9.length : Int) % (l.length : Int) = (k : Int) := by rw [hke]; rfl
      rw [hki]
      rw [← hke] at hkl
      obtain ⟨b, off, hA, hbb, _⟩ := R.out.2.1.ctx hpos
      subst hA
      have hk0 : (0 : Int) ≤ (k : Int) := by omega
      have hk1 : (0 : Int) ≤ (k : Int) + 1 := by omega
      have hk2 : ((k : Int) + 1).toNat = k + 1 := by omega
      have hkw : IntKind.i64.wrap ((k : Int) + 1) = (k : Int) + 1 := IntWalk.i64_in _ (by omega)
      have hkc : (k : Int) ≤ (c2 : Int) := by omega
      have hkc2 : (k : Int) + 1 ≤ (c2 : Int) := by omega
      have hkl2 : (k : Int) ≤ (l.length : Int) := by omega
      have hkl3 : (k : Int) + 1 ≤ (l.length : Int) := by omega
      have hne : ¬ c2 = k := by omega
      clear hke hki
      obtain ⟨xs, hxs⟩ : ∃ xs, xs = l.take k ++ l.drop (k + 1) := ⟨_, rfl⟩
      obtain ⟨X, hX⟩ : ∃ X, X = groupsG ids xs := ⟨_, rfl⟩
      have hxo : okG ids xs = true := by rw [hxs]; exact okG_sub HG.out.1 (part_sub l k)
      have hxg : groupsOfG ids xs = X := by rw [groupsOfG, if_pos hxo, hX]
      have hxl : xs.length ≤ 31 := by rw [hxs, List.length_append, List.length_take, List.length_drop]; omega
      have hXl : X.length = ids.length := by rw [hX, groupsG_len]
      have hfine : ∀ (i j : Nat) (p : Int), X[i]? = some p → X[j]? = some p → G[i]? = G[j]? := by
        rw [hX]
        refine groupsG_least hxo (by rw [HG.out.2.2]) fun r hr ha => ?_
        rw [HG.out.2.1]
        exact groupsG_equal HG.out.1 r (by rw [hxs] at hr; exact (part_sub l k).subset hr) ha
      have eln2 : ((X.length : Int) != (ids.length : Int)) = false := by simp [hXl]
      have Hxs := Lib.hid (And.intro hxs (And.intro hxo hxg))
      have HX := Lib.hid (And.intro hXl hfine)
      have hXb : X.length ≤ 13 := by omega
      clear hxs hX hxo hxg hXl hfine
      by_cases hcc : c2 = k + 1
      · have HT : Hid (0 < l.length - (k + 1) → (some ⟨b, off, none⟩ : Option Addr) = (some ⟨b, off, none⟩ : Option Addr).map (·.add ((k + 1) * 3))) := by
          show 0 < l.length - (k + 1) → _
          intro h0
          omega
        have hcc2 : (c2 = k + 1) = True := eq_true hcc
        clear hcc
        go_wp2_with fail
        have hO : ((w5.drewN 1).alloc (.cells #[] 35)).ownsRow w5.heap.size 35 3 (.slice (some ⟨w5.heap.size, 0, none⟩) 0 0) 0 [] := own_empty (w := w5.drewN 1) (Nat.le_refl _) rfl
        have hB : Below w5.heap.size w5 ((w5.drewN 1).alloc (.cells #[] 35)) := (below_draws (Below.refl _ _) 1).alloc (Nat.le_refl _) _
        have hR : Reads ((w5.drewN 1).alloc (.cells #[] 35)) w5.heap.size 3 (some ⟨b, off, none⟩) l.length (cellsC l) := (R.out.2.1).below hB
        have w5X := Lib.hid (And.intro hO (And.intro hB hR))
        clear hO hB hR
        go_region_held3 (fun _ => True) (trivial)
          (first
            | (refine step_append_want ((w5.drewN 1).alloc (.cells #[] 35)) (by rfl) (.tmp 74) (.tmp 77) _ (by rfl) w5.heap.size 35 i0 _ 3 24 Try.underlying27 hi0 hz0 hz1 hz2 rfl (by omega) (.slice (some ⟨w5.heap.size, 0, none⟩) 0 0) 0 [] (by rfl) w5X.out.1 _ _ k _ (cellsC (l.take k)) (by rfl) (w5X.out.2.2.headC (by omega)) (cellsC_one _) (by simp only [maxLen]; omega) (by omega) (by simp) ?_
               intro v5 w6 o6 w6g w6t
               have b6 : Below w5.heap.size w5 w6 := w5X.out.2.1.grown w6g (by simp) (fun j hj => by simp [Value.ownBlock] at hj; omega))
            | (refine step_append_want w6 (by rfl) (.tmp 78) (.tmp 82) _ (by rfl) w5.heap.size 35 i0 _ 3 24 Try.underlying27 hi0 hz0 hz1 hz2 rfl (by omega) v5 (0 + k) ([] ++ cellsC (l.take k)) (by rfl) o6 _ _ (l.length - (k + 1)) _ (cellsC (l.drop (k + 1))) (by rfl) (((R.out.2.1).below b6).tailC (by omega) HT.out) (cellsC_one _) (by simp only [maxLen]; omega) (by omega) b6.size ?_
               intro v7 w7 o7 w7g w7t
               have b7 : Below w5.heap.size w5 w7 := b6.trans (app_below0 o6 (Nat.le_refl _) b6.size w7g)
               rw [List.nil_append, ← cellsC_append, ← Hxs.out.1, show 0 + k + (l.length - (k + 1)) = xs.length from by rw [Hxs.out.1, List.length_append, List.length_take, List.length_drop]; omega] at o7
               obtain ⟨A7, c7, hv7, _, hr7⟩ := own_slice o7
               subst hv7
               have R7 := Lib.hid (And.intro b7 hr7)
               clear o7 hr7)
            | (go_at_call 18
               go_must (refine (iGroups_any _ _ _ _ ids xs _ (R.out.1.step R7.out.1) R7.out.2 (by omega) (by omega)).mono ?_)
               rintro e w8 ⟨v8, rfl, hb8, ho8⟩
               rw [Hxs.out.2.1]
               rw [Hxs.out.2.2] at ho8
               obtain ⟨A8, c8, hv8, _, hr8⟩ := own_slice ho8
               subst hv8
               have R8 := Lib.hid (And.intro (below_step R7.out.1 hb8) hr8)
               clear ho8 hr8 hb8))
        go_wp2_with fail
        go_loopw [14] (fun i wr => ∃ i0 : Nat, i0 ≤ ids.length ∧ i = .int .i64 i0 ∧ Below w8.heap.size w8 wr) (fun i _ => ids.length - (intOf i).toNat)
        case atStart => exact ⟨0, Nat.zero_le _, rfl, Below.refl _ _⟩
        case round =>
          obtain ⟨i, hi, rfl, hbi⟩ := hrel
          have HBI := Lib.hid hbi
          clear hbi
          by_cases hlt : i < ids.length
          · have hli : (i : Int) < (ids.length : Int) := by omega
            go_wp2_with fail
            go_loopw [15] (fun i wr => ∃ i0 : Nat, i0 ≤ ids.length ∧ i = .int .i64 i0 ∧ Below w8.heap.size w8 wr) (fun i _ => ids.length - (intOf i).toNat)
            case atStart => exact ⟨0, Nat.zero_le _, rfl, HBI.out⟩
            case round =>
              obtain ⟨j, hj, rfl, hbl⟩ := hrel
              have HL := Lib.hid hbl
              by_cases hlt2 : j < ids.length
              · have hlj : (j : Int) < (ids.length : Int) := by omega
                have hiX : i < X.length := by rw [HX.out.1]; exact hlt
                have hjX : j < X.length := by rw [HX.out.1]; exact hlt2
                have hiG : i < G.length := by rw [HG.out.2.2]; exact hlt
                have hjG : j < G.length := by rw [HG.out.2.2]; exact hlt2
                have rX := R8.out.2.step hbl
                have rG := (R.out.2.2.step R8.out.1).step hbl
                obtain ⟨b8, off8, hA8, hbb8, hc8⟩ := rX.ints (by omega)
                obtain ⟨b3, off3, hA3, hbb3, hc3⟩ := rG.ints (by omega)
                subst hA8 hA3
                obtain ⟨p, hp⟩ : ∃ p, X[i]? = some p := ⟨_, List.getElem?_eq_getElem hiX⟩
                obtain ⟨p2, hp2⟩ : ∃ p2, X[j]? = some p2 := ⟨_, List.getElem?_eq_getElem hjX⟩
                obtain ⟨u, hu⟩ : ∃ u, G[i]? = some u := ⟨_, List.getElem?_eq_getElem hiG⟩
                obtain ⟨u2, hu2⟩ : ∃ u2, G[j]? = some u2 := ⟨_, List.getElem?_eq_getElem hjG⟩
                have g1 := hc8 i _ hp
                have g2 := hc8 j _ hp2
                have g3 := hc3 i _ hu
                have g4 := hc3 j _ hu2
                have hiXi : (i : Int) < (X.length : Int) := by omega
                have hjXi : (j : Int) < (X.length : Int) := by omega
                have hiGi : (i : Int) < (G.length : Int) := by omega
                have hjGi : (j : Int) < (G.length : Int) := by omega
                have hx8 := ext_cell (w := wr) (B := wr.heap.size) hbb8
                have hx3 := ext_cell (w := wr) (B := wr.heap.size) hbb3
                by_cases hpp : p = p2
                · have huu : u = u2 := by
                    have h9 := HX.out.2 i j p hp (hpp ▸ hp2)
                    rw [hu, hu2] at h9
                    injection h9
                  subst hpp huu
                  have e5 : (p == p) = true := by simp
                  have e6 : (u != u) = false := by simp
                  clear hc8 hc3 hp hp2 hu hu2 rX rG hbl
                  go_wp2_with fail
                  refine wp_region_ext wr.heap.size (by kernel_rfl) (by kernel_rfl) ?_
                  repeat (go_big_quiet_step (fail))
                  refine wpQuiet_nil ?_
                  rintro _ ⟨x9, rfl⟩
                  have hb9 := below_step HL.out x9.below
                  clear hx8 hx3 g1 g2 g3 g4
                  go_wp2_with fail
                  go_roundw
                  case rel => exact ⟨j + 1, by omega, by go_num, hb9⟩
                  case measure => simp [intOf]; omega
                · have e5 : (p == p2) = false := by simp [hpp]
                  clear hc8 hc3 hp hp2 hu hu2 rX rG hbl hpp
                  go_wp2_with fail
                  refine wp_region_ext wr.heap.size (by kernel_rfl) (by kernel_rfl) ?_
                  repeat (go_big_quiet_step (fail))
                  refine wpQuiet_nil ?_
                  rintro _ ⟨x9, rfl⟩
                  have hb9 := below_step HL.out x9.below
                  clear hx8 hx3 g1 g2 g3 g4
                  go_wp2_with fail
                  go_roundw
                  case rel => exact ⟨j + 1, by omega, by go_num, hb9⟩
                  case measure => simp [intOf]; omega
              · clear hbl
                go_wp2_with fail
                go_roundw
                case rel => exact ⟨i + 1, by omega, by go_num, HL.out⟩
                case measure => simp [intOf]; omega
          · go_wp2_with fail
            go_ret
            exact ⟨rfl, below_step (below_step K5.out R8.out.1) HBI.out⟩
      · have HT : Hid (0 < l.length - (k + 1) → (some ⟨b, off + (k + 1) * 3, none⟩ : Option Addr) = (some ⟨b, off, none⟩ : Option Addr).map (·.add ((k + 1) * 3))) := by
          show 0 < l.length - (k + 1) → _
          intro _
          simp only [Option.map, Addr.add]
          rw [if_neg (by omega)]
        go_wp2_with fail
        have hO : ((w5.drewN 1).alloc (.cells #[] 35)).ownsRow w5.heap.size 35 3 (.slice (some ⟨w5.heap.size, 0, none⟩) 0 0) 0 [] := own_empty (w := w5.drewN 1) (Nat.le_refl _) rfl
        have hB : Below w5.heap.size w5 ((w5.drewN 1).alloc (.cells #[] 35)) := (below_draws (Below.refl _ _) 1).alloc (Nat.le_refl _) _
        have hR : Reads ((w5.drewN 1).alloc (.cells #[] 35)) w5.heap.size 3 (some ⟨b, off, none⟩) l.length (cellsC l) := (R.out.2.1).below hB
        have w5X := Lib.hid (And.intro hO (And.intro hB hR))
        clear hO hB hR
        go_region_held3 (fun _ => True) (trivial)
          (first
            | (refine step_append_want ((w5.drewN 1).alloc (.cells #[] 35)) (by rfl) (.tmp 74) (.tmp 77) _ (by rfl) w5.heap.size 35 i0 _ 3 24 Try.underlying27 hi0 hz0 hz1 hz2 rfl (by omega) (.slice (some ⟨w5.heap.size, 0, none⟩) 0 0) 0 [] (by rfl) w5X.out.1 _ _ k _ (cellsC (l.take k)) (by rfl) (w5X.out.2.2.headC (by omega)) (cellsC_one _) (by simp only [maxLen]; omega) (by omega) (by simp) ?_
               intro v5 w6 o6 w6g w6t
               have b6 : Below w5.heap.size w5 w6 := w5X.out.2.1.grown w6g (by simp) (fun j hj => by simp [Value.ownBlock] at hj; omega))
            | (refine step_append_want w6 (by rfl) (.tmp 78) (.tmp 82) _ (by rfl) w5.heap.size 35 i0 _ 3 24 Try.underlying27 hi0 hz0 hz1 hz2 rfl (by omega) v5 (0 + k) ([] ++ cellsC (l.take k)) (by rfl) o6 _ _ (l.length - (k + 1)) _ (cellsC (l.drop (k + 1))) (by rfl) (((R.out.2.1).below b6).tailC (by omega) HT.out) (cellsC_one _) (by simp only [maxLen]; omega) (by omega) b6.size ?_
               intro v7 w7 o7 w7g w7t
               have b7 : Below w5.heap.size w5 w7 := b6.trans (app_below0 o6 (Nat.le_refl _) b6.size w7g)
               rw [List.nil_append, ← cellsC_append, ← Hxs.out.1, show 0 + k + (l.length - (k + 1)) = xs.length from by rw [Hxs.out.1, List.length_append, List.length_take, List.length_drop]; omega] at o7
               obtain ⟨A7, c7, hv7, _, hr7⟩ := own_slice o7
               subst hv7
               have R7 := Lib.hid (And.intro b7 hr7)
               clear o7 hr7)
            | (go_at_call 18
               go_must (refine (iGroups_any _ _ _ _ ids xs _ (R.out.1.step R7.out.1) R7.out.2 (by omega) (by omega)).mono ?_)
               rintro e w8 ⟨v8, rfl, hb8, ho8⟩
               rw [Hxs.out.2.1]
               rw [Hxs.out.2.2] at ho8
               obtain ⟨A8, c8, hv8, _, hr8⟩ := own_slice ho8
               subst hv8
               have R8 := Lib.hid (And.intro (below_step R7.out.1 hb8) hr8)
               clear ho8 hr8 hb8))
        go_wp2_with fail
        go_loopw [14] (fun i wr => ∃ i0 : Nat, i0 ≤ ids.length ∧ i = .int .i64 i0 ∧ Below w8.heap.size w8 wr) (fun i _ => ids.length - (intOf i).toNat)
        case atStart => exact ⟨0, Nat.zero_le _, rfl, Below.refl _ _⟩
        case round =>
          obtain ⟨i, hi, rfl, hbi⟩ := hrel
          have HBI := Lib.hid hbi
          clear hbi
          by_cases hlt : i < ids.length
          · have hli : (i : Int) < (ids.length : Int) := by omega
            go_wp2_with fail
            go_loopw [15] (fun i wr => ∃ i0 : Nat, i0 ≤ ids.length ∧ i = .int .i64 i0 ∧ Below w8.heap.size w8 wr) (fun i _ => ids.length - (intOf i).toNat)
            case atStart => exact ⟨0, Nat.zero_le _, rfl, HBI.out⟩
            case round =>
              obtain ⟨j, hj, rfl, hbl⟩ := hrel
              have HL := Lib.hid hbl
              by_cases hlt2 : j < ids.length
              · have hlj : (j : Int) < (ids.length : Int) := by omega
                have hiX : i < X.length := by rw [HX.out.1]; exact hlt
                have hjX : j < X.length := by rw [HX.out.1]; exact hlt2
                have hiG : i < G.length := by rw [HG.out.2.2]; exact hlt
                have hjG : j < G.length := by rw [HG.out.2.2]; exact hlt2
                have rX := R8.out.2.step hbl
                have rG := (R.out.2.2.step R8.out.1).step hbl
                obtain ⟨b8, off8, hA8, hbb8, hc8⟩ := rX.ints (by omega)
                obtain ⟨b3, off3, hA3, hbb3, hc3⟩ := rG.ints (by omega)
                subst hA8 hA3
                obtain ⟨p, hp⟩ : ∃ p, X[i]? = some p := ⟨_, List.getElem?_eq_getElem hiX⟩
                obtain ⟨p2, hp2⟩ : ∃ p2, X[j]? = some p2 := ⟨_, List.getElem?_eq_getElem hjX⟩
                obtain ⟨u, hu⟩ : ∃ u, G[i]? = some u := ⟨_, List.getElem?_eq_getElem hiG⟩
                obtain ⟨u2, hu2⟩ : ∃ u2, G[j]? = some u2 := ⟨_, List.getElem?_eq_getElem hjG⟩
                have g1 := hc8 i _ hp
                have g2 := hc8 j _ hp2
                have g3 := hc3 i _ hu
                have g4 := hc3 j _ hu2
                have hiXi : (i : Int) < (X.length : Int) := by omega
                have hjXi : (j : Int) < (X.length : Int) := by omega
                have hiGi : (i : Int) < (G.length : Int) := by omega
                have hjGi : (j : Int) < (G.length : Int) := by omega
                have hx8 := ext_cell (w := wr) (B := wr.heap.size) hbb8
                have hx3 := ext_cell (w := wr) (B := wr.heap.size) hbb3
                by_cases hpp : p = p2
                · have huu : u = u2 := by
                    have h9 := HX.out.2 i j p hp (hpp ▸ hp2)
                    rw [hu, hu2] at h9
                    injection h9
                  subst hpp huu
                  have e5 : (p == p) = true := by simp
                  have e6 : (u != u) = false := by simp
                  clear hc8 hc3 hp hp2 hu hu2 rX rG hbl
                  go_wp2_with fail
                  refine wp_region_ext wr.heap.size (by kernel_rfl) (by kernel_rfl) ?_
                  repeat (go_big_quiet_step (fail))
                  refine wpQuiet_nil ?_
                  rintro _ ⟨x9, rfl⟩
                  have hb9 := below_step HL.out x9.below
                  clear hx8 hx3 g1 g2 g3 g4
                  go_wp2_with fail
                  go_roundw
                  case rel => exact ⟨j + 1, by omega, by go_num, hb9⟩
                  case measure => simp [intOf]; omega
                · have e5 : (p == p2) = false := by simp [hpp]
                  clear hc8 hc3 hp hp2 hu hu2 rX rG hbl hpp
                  go_wp2_with fail
                  refine wp_region_ext wr.heap.size (by kernel_rfl) (by kernel_rfl) ?_
                  repeat (go_big_quiet_step (fail))
                  refine wpQuiet_nil ?_
                  rintro _ ⟨x9, rfl⟩
                  have hb9 := below_step HL.out x9.below
                  clear hx8 hx3 g1 g2 g3 g4
                  go_wp2_with fail
                  go_roundw
                  case rel => exact ⟨j + 1, by omega, by go_num, hb9⟩
                  case measure => simp [intOf]; omega
              · clear hbl
                go_wp2_with fail
                go_roundw
                case rel => exact ⟨i + 1, by omega, by go_num, HL.out⟩
                case measure => simp [intOf]; omega
          · go_wp2_with fail
            go_ret
            exact ⟨rfl, below_step (below_step K5.out R8.out.1) HBI.out⟩

theorem walk (A : Option Addr) (c : Nat) (z : List Int) (A1 : Option Addr) (c1 : Nat) (z1 : List Int) (w : World) (h1 : z.length ≤ c) (h2 : Reads w w.heap.size 1 A z.length (cellsB z)) (h3 : ∀ b ∈ z, 0 ≤ b ∧ b ≤ 255) (h4 : c ≤ maxLen)
    (_ : z1.length ≤ c1) (_ : Reads w w.heap.size 1 A1 z1.length (cellsB z1)) (_ : ∀ b ∈ z1, 0 ≤ b ∧ b ≤ 255) (_ : c1 ≤ maxLen) :
    Calls Try.prog 6 #[.slice A z.length c, .slice A1 z1.length c1] w fun e w2 => e = .returned (.bool true) ∧ Below w.heap.size w w2 := by
  by_cases hn : z.length ≤ 1048576
  · by_cases hn1 : z1.length ≤ 1048576
    · exact walk_short A c z A1 c1 z1 w (Bytes.mk_ h1 h2 h3 h4) hn hn1
    · have e0 : decide ((1048576 : Int) < (z.length : Int)) = false := decide_eq_false (by omega)
      have e1 : decide ((1048576 : Int) < (z1.length : Int)) = true := decide_eq_true (by omega)
      go_enter Try.func6, Try.ntmps6
      go_wp2_with fail
      go_ret
      exact ⟨rfl, Below.refl _ _⟩
  · have e0 : decide ((1048576 : Int) < (z.length : Int)) = true := decide_eq_true (by omega)
    go_enter Try.func6, Try.ntmps6
    go_wp2_with fail
    go_ret
    exact ⟨rfl, Below.refl _ _⟩

set_option linter.unusedVariables false
set_option maxRecDepth 100000 in
theorem lifted (os : Os) (started : os.Started) (H : Type) (enc : TypeId × Value → H) :
    ReturnsInHanded {} Try.checked os 6 .any (Rows.fnGroupsDropSpec.pre6 enc Try.prog Try.f6 Rows.fnGroupsDropRow.domain false) (Rows.fnGroupsDropSpec.post enc Try.prog Try.f6 false true false false) := by
  refine returnsInHanded_of_change (C := Try.checked) lawOwn started (by kernel_rfl) Try.func6
    (ChangeSpec.witness6 (enc := enc) (C := Try.checked) false ⟨#[], #[.slice none 0 0, .slice none 0 0], []⟩ 8 (by kernel_rfl) (by kernel_rfl) (by kernel_rfl) (by kernel_rfl)) ?_
  intro W base args ds gs before hval0 hW hcnd _
  have hval : ∀ (j : Nat) t v, Try.f6.params[j]? = some t → args[j]? = some v → Value.okWide Try.prog W .any base t v := hval0
  have hW' := hW
  obtain ⟨p, q, hA0, hV, rfl, hfz, hnd⟩ := hW
  have hA : DataW.TrodAll enc Try.prog W 0 (fun _ => true) true Try.f6.params.toList args.toList ds p := hA0
  rw [Try.params6] at hA hval
  obtain ⟨v0, vs0, d0, ds0, p0, q0, hargs, rfl, rfl, h0, r0⟩ := trodAll_cons hA
  obtain ⟨v1, vs1, d1, ds1, p1, q1, rfl, rfl, rfl, h1, r1⟩ := trodAll_cons r0
  obtain ⟨rfl, rfl, rfl⟩ := trodAll_nil r1
  obtain rfl : args = #[v0, v1] := by cases args; simp_all
  obtain ⟨rfl, rfl⟩ := trodVars_none hV
  have k0 := h0
  have lt0 : ∀ x ∈ p0, x.block < W.heap.size := by obtain ⟨m, hm⟩ := k0; exact DataW.trod_lt m _ _ _ hm
  obtain ⟨a0, len0, cap0, rfl⟩ := okWide_slice Try.underlying22 (hval 0 22 v0 rfl rfl)
  obtain ⟨z0, hl0, hc0, hr0, hb0, hm0⟩ : ∃ z : List Int, len0 = z.length ∧ len0 ≤ cap0 ∧ Reads W W.heap.size 1 a0 len0 (cellsB z) ∧ (∀ b ∈ z, 0 ≤ b ∧ b ≤ 255) ∧ cap0 ≤ maxLen := by
    obtain ⟨fuel, hf⟩ := h0
    exact open_bytes Try.underlying22 Try.underlying5 (by kernel_rfl) (by simpa [Value.cells] using hf)
  subst hl0
  have k1 := h1
  have lt1 : ∀ x ∈ p1, x.block < W.heap.size := by obtain ⟨m, hm⟩ := k1; exact DataW.trod_lt m _ _ _ hm
  obtain ⟨a1, len1, cap1, rfl⟩ := okWide_slice Try.underlying22 (hval 1 22 v1 rfl rfl)
  obtain ⟨z1, hl1, hc1, hr1, hb1, hm1⟩ : ∃ z : List Int, len1 = z.length ∧ len1 ≤ cap1 ∧ Reads W W.heap.size 1 a1 len1 (cellsB z) ∧ (∀ b ∈ z, 0 ≤ b ∧ b ≤ 255) ∧ cap1 ≤ maxLen := by
    obtain ⟨fuel, hf⟩ := h1
    exact open_bytes Try.underlying22 Try.underlying5 (by kernel_rfl) (by simpa [Value.cells] using hf)
  subst hl1
  clear hA0 hval0
  refine (walk a0 cap0 z0 a1 cap1 z1 W hc0 hr0 hb0 hm0 hc1 hr1 hb1 hm1).mono fun e W' ⟨he, bel⟩ => ?_
  subst he
  exact ⟨_, rfl, _, _, _, [], _, [], hW', trodAll_mk1 (shut_bool Try.underlying4 _), (trodAll_cons_mk (Below.trod lawLaid (by kernel_rfl) (of_decide_eq_true (by kernel_rfl)) k0 bel lt0) (trodAll_cons_mk (Below.trod lawLaid (by kernel_rfl) (of_decide_eq_true (by kernel_rfl)) k1 bel lt1) trodAll_mk0)), rfl, bel.frame _, fun h => by cases h⟩

theorem proved : Rows.FnGroupsDropSaid :=
  OpenClaim.holds_of_wide 6 Try.f6 rfl rfl rfl rfl rfl rfl rfl ⟨rfl, rfl, rfl, rfl, rfl⟩ rfl rfl rfl rfl rfl (by kernel_rfl) Try.func6 (by kernel_rfl)
    (of_decide_eq_true (by kernel_rfl)) (by unfold Func.isWrapper; rw [if_neg (of_decide_eq_false (by kernel_rfl))]; exact ⟨rfl, rfl⟩)
    (fun os started H enc _ => lifted os started H enc)
#print axioms proved
end Go.Proofs.Ytgnhdclhligngaa.lawDrop
