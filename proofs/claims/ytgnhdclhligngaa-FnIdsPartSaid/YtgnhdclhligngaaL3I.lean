/-
  Whatever bytes are given: valid numbers of contexts drawn from them are valid without one of them, and not valid with one of them told twice; the program's check is the model's. No condition.
-/
import Derived.Test.YtgnhdclhligngaaDg
import Derived.Test.YtgnhdclhligngaaGi
import Derived.Test.YtgnhdclhligngaaHo
import Derived.Test.YtgnhdclhligngaaOpen
import Derived.Deep.RegionHeld3
namespace Go.Proofs.Ytgnhdclhligngaa.lawIds
open Go.ChangeShapes Go.WideShapes Go.ChangeAt Go.RowKit

theorem part_valid {l : List Int} (h : validI l = true) (k : Nat) : validI (l.take k ++ l.drop (k + 1)) = true := validO_sub lessI_tr h (part_sub l k)
theorem twice_bad {l : List Int} {k : Nat} (hk : k < l.length) : validI (l.take (k + 1) ++ l.drop k) = false := twiceO_bad lessI_ir hk

set_option maxHeartbeats 4000000 in
theorem walk_short (A : Option Addr) (c : Nat) (z : List Int) (A1 : Option Addr) (c1 : Nat) (z1 : List Int) (w : World) (h : Bytes w A c z) (hn : z.length ≤ 1048576) (hn1 : z1.length ≤ 1048576) :
    Calls Try.prog 3 #[.slice A z.length c, .slice A1 z1.length c1] w fun e w2 => e = .returned (.bool true) ∧ Below w.heap.size w w2 := by
  obtain ⟨i0, hi0, hz0, hz1, hz2⟩ := info_parts infoInt
  have e0 : decide ((1048576 : Int) < (z.length : Int)) = false := decide_eq_false (by omega)
  have e01 : decide ((1048576 : Int) < (z1.length : Int)) = false := decide_eq_false (by omega)
  go_enter Try.func3, Try.ntmps3
  go_wp2_with fail
  refine (dIds_any A c z _ h).mono ?_
  rintro e w2 ⟨v, l, rfl, ho2, hl, hb2⟩
  obtain ⟨Al, cl, hv, hcap, hrl⟩ := own_slice ho2
  subst hv
  go_wp2_with fail
  refine (iIds_any _ _ l _ hrl (by omega)).mono ?_
  rintro e w3 ⟨rfl, rfl⟩
  go_wp2_with fail
  refine (sIds_any _ _ l _ hrl (by omega)).mono ?_
  rintro e w4 ⟨rfl, hb4⟩
  have k4 := below_step hb2 hb4
  have r4 := hrl.step hb4
  have K4 := Lib.hid k4
  clear hb2 hb4 ho2 hrl k4
  cases hvl : validI l
  · go_wp2_with fail
    go_ret
    exact ⟨rfl, K4.out⟩
  · rcases Nat.eq_zero_or_pos l.length with h0 | hpos
    · have e1 : ((l.length : Int) == 0) = true := by simp [h0]
      clear h0
      go_wp2_with fail
      go_ret
      exact ⟨rfl, K4.out⟩
    · have e1 : ((l.length : Int) == 0) = false := by rw [beq_eq_false_iff_ne]; omega
      have hkl : z1.length % l.length < l.length := Nat.mod_lt _ hpos
      have hpi : (0 : Int) < (l.length : Int) := by omega
      have HV := Lib.hid hvl
      clear hvl
      go_wp2_with fail
      obtain ⟨k, hke⟩ : ∃ k : Nat, k = z1.length % l.length := ⟨_, rfl⟩
      have hki : (z1.length : Int) % (l.length : Int) = (k : Int) := by rw [hke]; rfl
      rw [hki]
      rw [← hke] at hkl
      obtain ⟨b, off, hA, hbb, _⟩ := r4.ints hpos
      subst hA
      have R4 := Lib.hid r4
      have hk0 : (0 : Int) ≤ (k : Int) := by omega
      have hk1 : (0 : Int) ≤ (k : Int) + 1 := by omega
      have hk2 : ((k : Int) + 1).toNat = k + 1 := by omega
      have hkw : IntKind.i64.wrap ((k : Int) + 1) = (k : Int) + 1 := IntWalk.i64_in _ (by omega)
      have hkc : (k : Int) ≤ (cl : Int) := by omega
      have hkc2 : (k : Int) + 1 ≤ (cl : Int) := by omega
      have hkl2 : (k : Int) ≤ (l.length : Int) := by omega
      have hkl3 : (k : Int) + 1 ≤ (l.length : Int) := by omega
      have hne : ¬ cl = k := by omega
      have HT2 : Hid ((some ⟨b, off + k, none⟩ : Option Addr) = (some ⟨b, off, none⟩ : Option Addr).map (·.add k)) := by
        show _ = _
        simp only [Option.map, Addr.add]
        split
        · rename_i h0; rw [h0]; rfl
        · rfl
      clear hke hki r4
      obtain ⟨xs, hxs⟩ : ∃ xs, xs = l.take k ++ l.drop (k + 1) := ⟨_, rfl⟩
      obtain ⟨ys, hys⟩ : ∃ ys, ys = l.take (k + 1) ++ l.drop k := ⟨_, rfl⟩
      have hxv : validI xs = true := by rw [hxs]; exact part_valid HV.out k
      have hyv : validI ys = false := by rw [hys]; exact twice_bad hkl
      have hxl : xs.length ≤ 1000000000000 := by rw [hxs, List.length_append, List.length_take, List.length_drop]; omega
      have hyl : ys.length ≤ 1000000000000 := by rw [hys, List.length_append, List.length_take, List.length_drop]; omega
      have Hxs := Lib.hid hxs
      have Hys := Lib.hid hys
      clear hxs hys
      by_cases hcc : cl = k + 1
      · have HT : Hid (0 < l.length - (k + 1) → (some ⟨b, off, none⟩ : Option Addr) = (some ⟨b, off, none⟩ : Option Addr).map (·.add (k + 1))) := by
          show 0 < l.length - (k + 1) → _
          intro h0
          omega
        have hcc2 : (cl = k + 1) = True := eq_true hcc
        clear hcc
        go_wp2_with fail
        have hO : ((w4.drewN 1).alloc (.cells #[] 3)).ownsRow w4.heap.size 3 1 (.slice (some ⟨w4.heap.size, 0, none⟩) 0 0) 0 [] := own_empty (w := w4.drewN 1) (Nat.le_refl _) rfl
        have hB : Below w4.heap.size w4 ((w4.drewN 1).alloc (.cells #[] 3)) := (below_draws (Below.refl _ _) 1).alloc (Nat.le_refl _) _
        have hR : Reads ((w4.drewN 1).alloc (.cells #[] 3)) w4.heap.size 1 (some ⟨b, off, none⟩) l.length (cellsI l) := (R4.out).below hB
        have w5X := Lib.hid (And.intro hO (And.intro hB hR))
        clear hO hB hR
        go_region_held3 (fun _ => True) (trivial)
          (first
            | (refine step_append_want ((w4.drewN 1).alloc (.cells #[] 3)) (by rfl) (.tmp 45) (.tmp 48) _ (by rfl) w4.heap.size 3 i0 _ 1 8 Try.underlying23 hi0 hz0 hz1 hz2 rfl (by omega) (.slice (some ⟨w4.heap.size, 0, none⟩) 0 0) 0 [] (by rfl) w5X.out.1 _ _ k _ (cellsI (l.take k)) (by rfl) (w5X.out.2.2.headI (by omega)) (cellsI_one _) (by simp only [maxLen]; omega) (by omega) (by simp) ?_
               intro v5 w5 o5 w5g w5t
               have b5 : Below w4.heap.size w4 w5 := w5X.out.2.1.grown w5g (by simp) (fun j hj => by simp [Value.ownBlock] at hj; omega))
            | (refine step_append_want w5 (by rfl) (.tmp 49) (.tmp 53) _ (by rfl) w4.heap.size 3 i0 _ 1 8 Try.underlying23 hi0 hz0 hz1 hz2 rfl (by omega) v5 (0 + k) ([] ++ cellsI (l.take k)) (by rfl) o5 _ _ (l.length - (k + 1)) _ (cellsI (l.drop (k + 1))) (by rfl) (((R4.out).below b5).tailI (by omega) HT.out) (cellsI_one _) (by simp only [maxLen]; omega) (by omega) b5.size ?_
               intro v6 w6 o6 w6g w6t
               have b6 : Below w4.heap.size w4 w6 := b5.trans (app_below0 o5 (Nat.le_refl _) b5.size w6g)
               rw [List.nil_append, ← cellsI_join, ← Hxs.out, show 0 + k + (l.length - (k + 1)) = xs.length from by rw [Hxs.out, List.length_append, List.length_take, List.length_drop]; omega] at o6
               have o6H := Lib.hid o6
               clear o6))
        go_wp2_with fail
        have hO : ((w6.drewN 1).alloc (.cells #[] 3)).ownsRow w6.heap.size 3 1 (.slice (some ⟨w6.heap.size, 0, none⟩) 0 0) 0 [] := own_empty (w := w6.drewN 1) (Nat.le_refl _) rfl
        have hB : Below w6.heap.size w6 ((w6.drewN 1).alloc (.cells #[] 3)) := (below_draws (Below.refl _ _) 1).alloc (Nat.le_refl _) _
        have hR : Reads ((w6.drewN 1).alloc (.cells #[] 3)) w6.heap.size 1 (some ⟨b, off, none⟩) l.length (cellsI l) := (R4.out.step b6).below hB
        have w7X := Lib.hid (And.intro hO (And.intro hB hR))
        clear hO hB hR
        go_region_held3 (fun _ => True) (trivial)
          (first
            | (refine step_append_want ((w6.drewN 1).alloc (.cells #[] 3)) (by rfl) (.tmp 55) (.tmp 59) _ (by rfl) w6.heap.size 3 i0 _ 1 8 Try.underlying23 hi0 hz0 hz1 hz2 rfl (by omega) (.slice (some ⟨w6.heap.size, 0, none⟩) 0 0) 0 [] (by rfl) w7X.out.1 _ _ (k + 1) _ (cellsI (l.take (k + 1))) (by rfl) (w7X.out.2.2.headI (by omega)) (cellsI_one _) (by simp only [maxLen]; omega) (by omega) (by simp) ?_
               intro v7 w7 o7 w7g w7t
               have b7 : Below w6.heap.size w6 w7 := w7X.out.2.1.grown w7g (by simp) (fun j hj => by simp [Value.ownBlock] at hj; omega))
            | (refine step_append_want w7 (by rfl) (.tmp 60) (.tmp 63) _ (by rfl) w6.heap.size 3 i0 _ 1 8 Try.underlying23 hi0 hz0 hz1 hz2 rfl (by omega) v7 (0 + (k + 1)) ([] ++ cellsI (l.take (k + 1))) (by rfl) o7 _ _ (l.length - k) _ (cellsI (l.drop k)) (by rfl) (((R4.out.step b6).below b7).tailI (by omega) (fun _ => HT2.out)) (cellsI_one _) (by simp only [maxLen]; omega) (by omega) b7.size ?_
               intro v8 w8 o8 w8g w8t
               have b8 : Below w6.heap.size w6 w8 := b7.trans (app_below0 o7 (Nat.le_refl _) b7.size w8g)
               rw [List.nil_append, ← cellsI_join, ← Hys.out, show 0 + (k + 1) + (l.length - k) = ys.length from by rw [Hys.out, List.length_append, List.length_take, List.length_drop]; omega] at o8
               have o8H := Lib.hid o8
               clear o8))
        obtain ⟨A6, c6, hv6, _, hr6⟩ := own_slice o6H.out
        obtain ⟨A8, c8, hv8, _, hr8⟩ := own_slice o8H.out
        subst hv6 hv8
        go_wp2_with fail
        refine (iIds_any _ _ xs _ (hr6.step b8) hxl).mono ?_
        rw [hxv]
        rintro e w9 ⟨rfl, rfl⟩
        go_wp2_with fail
        refine (iIds_any _ _ ys _ hr8 hyl).mono ?_
        rw [hyv]
        rintro e w10 ⟨rfl, rfl⟩
        go_wp2_with fail
        go_ret
        exact ⟨rfl, below_step (below_step K4.out b6) b8⟩
      · have HT : Hid (0 < l.length - (k + 1) → (some ⟨b, off + (k + 1), none⟩ : Option Addr) = (some ⟨b, off, none⟩ : Option Addr).map (·.add (k + 1))) := by
          show 0 < l.length - (k + 1) → _
          intro _
          simp only [Option.map, Addr.add]
          rw [if_neg (by omega)]
        go_wp2_with fail
        have hO : ((w4.drewN 1).alloc (.cells #[] 3)).ownsRow w4.heap.size 3 1 (.slice (some ⟨w4.heap.size, 0, none⟩) 0 0) 0 [] := own_empty (w := w4.drewN 1) (Nat.le_refl _) rfl
        have hB : Below w4.heap.size w4 ((w4.drewN 1).alloc (.cells #[] 3)) := (below_draws (Below.refl _ _) 1).alloc (Nat.le_refl _) _
        have hR : Reads ((w4.drewN 1).alloc (.cells #[] 3)) w4.heap.size 1 (some ⟨b, off, none⟩) l.length (cellsI l) := (R4.out).below hB
        have w5X := Lib.hid (And.intro hO (And.intro hB hR))
        clear hO hB hR
        go_region_held3 (fun _ => True) (trivial)
          (first
            | (refine step_append_want ((w4.drewN 1).alloc (.cells #[] 3)) (by rfl) (.tmp 45) (.tmp 48) _ (by rfl) w4.heap.size 3 i0 _ 1 8 Try.underlying23 hi0 hz0 hz1 hz2 rfl (by omega) (.slice (some ⟨w4.heap.size, 0, none⟩) 0 0) 0 [] (by rfl) w5X.out.1 _ _ k _ (cellsI (l.take k)) (by rfl) (w5X.out.2.2.headI (by omega)) (cellsI_one _) (by simp only [maxLen]; omega) (by omega) (by simp) ?_
               intro v5 w5 o5 w5g w5t
               have b5 : Below w4.heap.size w4 w5 := w5X.out.2.1.grown w5g (by simp) (fun j hj => by simp [Value.ownBlock] at hj; omega))
            | (refine step_append_want w5 (by rfl) (.tmp 49) (.tmp 53) _ (by rfl) w4.heap.size 3 i0 _ 1 8 Try.underlying23 hi0 hz0 hz1 hz2 rfl (by omega) v5 (0 + k) ([] ++ cellsI (l.take k)) (by rfl) o5 _ _ (l.length - (k + 1)) _ (cellsI (l.drop (k + 1))) (by rfl) (((R4.out).below b5).tailI (by omega) HT.out) (cellsI_one _) (by simp only [maxLen]; omega) (by omega) b5.size ?_
               intro v6 w6 o6 w6g w6t
               have b6 : Below w4.heap.size w4 w6 := b5.trans (app_below0 o5 (Nat.le_refl _) b5.size w6g)
               rw [List.nil_append, ← cellsI_join, ← Hxs.out, show 0 + k + (l.length - (k + 1)) = xs.length from by rw [Hxs.out, List.length_append, List.length_take, List.length_drop]; omega] at o6
               have o6H := Lib.hid o6
               clear o6))
        go_wp2_with fail
        have hO : ((w6.drewN 1).alloc (.cells #[] 3)).ownsRow w6.heap.size 3 1 (.slice (some ⟨w6.heap.size, 0, none⟩) 0 0) 0 [] := own_empty (w := w6.drewN 1) (Nat.le_refl _) rfl
        have hB : Below w6.heap.size w6 ((w6.drewN 1).alloc (.cells #[] 3)) := (below_draws (Below.refl _ _) 1).alloc (Nat.le_refl _) _
        have hR : Reads ((w6.drewN 1).alloc (.cells #[] 3)) w6.heap.size 1 (some ⟨b, off, none⟩) l.length (cellsI l) := (R4.out.step b6).below hB
        have w7X := Lib.hid (And.intro hO (And.intro hB hR))
        clear hO hB hR
        go_region_held3 (fun _ => True) (trivial)
          (first
            | (refine step_append_want ((w6.drewN 1).alloc (.cells #[] 3)) (by rfl) (.tmp 55) (.tmp 59) _ (by rfl) w6.heap.size 3 i0 _ 1 8 Try.underlying23 hi0 hz0 hz1 hz2 rfl (by omega) (.slice (some ⟨w6.heap.size, 0, none⟩) 0 0) 0 [] (by rfl) w7X.out.1 _ _ (k + 1) _ (cellsI (l.take (k + 1))) (by rfl) (w7X.out.2.2.headI (by omega)) (cellsI_one _) (by simp only [maxLen]; omega) (by omega) (by simp) ?_
               intro v7 w7 o7 w7g w7t
               have b7 : Below w6.heap.size w6 w7 := w7X.out.2.1.grown w7g (by simp) (fun j hj => by simp [Value.ownBlock] at hj; omega))
            | (refine step_append_want w7 (by rfl) (.tmp 60) (.tmp 63) _ (by rfl) w6.heap.size 3 i0 _ 1 8 Try.underlying23 hi0 hz0 hz1 hz2 rfl (by omega) v7 (0 + (k + 1)) ([] ++ cellsI (l.take (k + 1))) (by rfl) o7 _ _ (l.length - k) _ (cellsI (l.drop k)) (by rfl) (((R4.out.step b6).below b7).tailI (by omega) (fun _ => HT2.out)) (cellsI_one _) (by simp only [maxLen]; omega) (by omega) b7.size ?_
               intro v8 w8 o8 w8g w8t
               have b8 : Below w6.heap.size w6 w8 := b7.trans (app_below0 o7 (Nat.le_refl _) b7.size w8g)
               rw [List.nil_append, ← cellsI_join, ← Hys.out, show 0 + (k + 1) + (l.length - k) = ys.length from by rw [Hys.out, List.length_append, List.length_take, List.length_drop]; omega] at o8
               have o8H := Lib.hid o8
               clear o8))
        obtain ⟨A6, c6, hv6, _, hr6⟩ := own_slice o6H.out
        obtain ⟨A8, c8, hv8, _, hr8⟩ := own_slice o8H.out
        subst hv6 hv8
        go_wp2_with fail
        refine (iIds_any _ _ xs _ (hr6.step b8) hxl).mono ?_
        rw [hxv]
        rintro e w9 ⟨rfl, rfl⟩
        go_wp2_with fail
        refine (iIds_any _ _ ys _ hr8 hyl).mono ?_
        rw [hyv]
        rintro e w10 ⟨rfl, rfl⟩
        go_wp2_with fail
        go_ret
        exact ⟨rfl, below_step (below_step K4.out b6) b8⟩

theorem walk (A : Option Addr) (c : Nat) (z : List Int) (A1 : Option Addr) (c1 : Nat) (z1 : List Int) (w : World) (h1 : z.length ≤ c) (h2 : Reads w w.heap.size 1 A z.length (cellsB z)) (h3 : ∀ b ∈ z, 0 ≤ b ∧ b ≤ 255) (h4 : c ≤ maxLen)
    (_ : z1.length ≤ c1) (_ : Reads w w.heap.size 1 A1 z1.length (cellsB z1)) (_ : ∀ b ∈ z1, 0 ≤ b ∧ b ≤ 255) (_ : c1 ≤ maxLen) :
    Calls Try.prog 3 #[.slice A z.length c, .slice A1 z1.length c1] w fun e w2 => e = .returned (.bool true) ∧ Below w.heap.size w w2 := by
  by_cases hn : z.length ≤ 1048576
  · by_cases hn1 : z1.length ≤ 1048576
    · exact walk_short A c z A1 c1 z1 w (Bytes.mk_ h1 h2 h3 h4) hn hn1
    · have e0 : decide ((1048576 : Int) < (z.length : Int)) = false := decide_eq_false (by omega)
      have e1 : decide ((1048576 : Int) < (z1.length : Int)) = true := decide_eq_true (by omega)
      go_enter Try.func3, Try.ntmps3
      go_wp2_with fail
      go_ret
      exact ⟨rfl, Below.refl _ _⟩
  · have e0 : decide ((1048576 : Int) < (z.length : Int)) = true := decide_eq_true (by omega)
    go_enter Try.func3, Try.ntmps3
    go_wp2_with fail
    go_ret
    exact ⟨rfl, Below.refl _ _⟩

set_option linter.unusedVariables false
set_option maxRecDepth 100000 in
theorem lifted (os : Os) (started : os.Started) (H : Type) (enc : TypeId × Value → H) :
    ReturnsInHanded {} Try.checked os 3 .any (Rows.fnIdsPartSpec.pre6 enc Try.prog Try.f3 Rows.fnIdsPartRow.domain false) (Rows.fnIdsPartSpec.post enc Try.prog Try.f3 false true false false) := by
  refine returnsInHanded_of_change (C := Try.checked) lawOwn started (by kernel_rfl) Try.func3
    (ChangeSpec.witness6 (enc := enc) (C := Try.checked) false ⟨#[], #[.slice none 0 0, .slice none 0 0], []⟩ 8 (by kernel_rfl) (by kernel_rfl) (by kernel_rfl) (by kernel_rfl)) ?_
  intro W base args ds gs before hval0 hW hcnd _
  have hval : ∀ (j : Nat) t v, Try.f3.params[j]? = some t → args[j]? = some v → Value.okWide Try.prog W .any base t v := hval0
  have hW' := hW
  obtain ⟨p, q, hA0, hV, rfl, hfz, hnd⟩ := hW
  have hA : DataW.TrodAll enc Try.prog W 0 (fun _ => true) true Try.f3.params.toList args.toList ds p := hA0
  rw [Try.params3] at hA hval
  obtain ⟨v0, vs0, d0, ds0, p0, q0, hargs, rfl, rfl, h0, r0⟩ := trodAll_cons hA
  obtain ⟨v1, vs1, d1, ds1, p1, q1, rfl, rfl, rfl, h1, r1⟩ := trodAll_cons r0
  obtain ⟨rfl, rfl, rfl⟩ := trodAll_nil r1
  obtain rfl : args = #[v0, v1] := by cases args; simp_all
  obtain ⟨rfl, rfl⟩ := trodVars_none hV
  have k0 := h0
  have lt0 : ∀ x ∈ p0, x.block < W.heap.size := by obtain ⟨m, hm⟩ := k0; exact DataW.trod_lt m _ _ _ hm
  obtain ⟨a0, len0, cap0, rfl⟩ := okWide_slice Try.underlying22 (hval 0 22 v0 rfl rfl)
  obtain ⟨z0, hl0, hc0, hr0, hb0, hm0⟩ : ∃ z : List Int, len0 = z.length ∧ len0 ≤ cap0 ∧ Reads W W.heap.size 1 a0 len0 (cellsB z) ∧ (∀ b ∈ z, 0 ≤ b ∧ b ≤ 255) ∧ cap0 ≤ maxLen := by
    obtain ⟨fuel, hf⟩ := h0
    exact open_bytes Try.underlying22 Try.underlying5 (by kernel_rfl) (by simpa [Value.cells] using hf)
  subst hl0
  have k1 := h1
  have lt1 : ∀ x ∈ p1, x.block < W.heap.size := by obtain ⟨m, hm⟩ := k1; exact DataW.trod_lt m _ _ _ hm
  obtain ⟨a1, len1, cap1, rfl⟩ := okWide_slice Try.underlying22 (hval 1 22 v1 rfl rfl)
  obtain ⟨z1, hl1, hc1, hr1, hb1, hm1⟩ : ∃ z : List Int, len1 = z.length ∧ len1 ≤ cap1 ∧ Reads W W.heap.size 1 a1 len1 (cellsB z) ∧ (∀ b ∈ z, 0 ≤ b ∧ b ≤ 255) ∧ cap1 ≤ maxLen := by
    obtain ⟨fuel, hf⟩ := h1
    exact open_bytes Try.underlying22 Try.underlying5 (by kernel_rfl) (by simpa [Value.cells] using hf)
  subst hl1
  clear hA0 hval0
  refine (walk a0 cap0 z0 a1 cap1 z1 W hc0 hr0 hb0 hm0 hc1 hr1 hb1 hm1).mono fun e W' ⟨he, bel⟩ => ?_
  subst he
  exact ⟨_, rfl, _, _, _, [], _, [], hW', trodAll_mk1 (shut_bool Try.underlying4 _), (trodAll_cons_mk (Below.trod lawLaid (by kernel_rfl) (of_decide_eq_true (by kernel_rfl)) k0 bel lt0) (trodAll_cons_mk (Below.trod lawLaid (by kernel_rfl) (of_decide_eq_true (by kernel_rfl)) k1 bel lt1) trodAll_mk0)), rfl, bel.frame _, fun h => by cases h⟩

theorem proved : Rows.FnIdsPartSaid :=
  OpenClaim.holds_of_wide 3 Try.f3 rfl rfl rfl rfl rfl rfl rfl ⟨rfl, rfl, rfl, rfl, rfl⟩ rfl rfl rfl rfl rfl (by kernel_rfl) Try.func3 (by kernel_rfl)
    (of_decide_eq_true (by kernel_rfl)) (by unfold Func.isWrapper; rw [if_neg (of_decide_eq_false (by kernel_rfl))]; exact ⟨rfl, rfl⟩)
    (fun os started H enc _ => lifted os started H enc)
#print axioms proved
end Go.Proofs.Ytgnhdclhligngaa.lawIds
