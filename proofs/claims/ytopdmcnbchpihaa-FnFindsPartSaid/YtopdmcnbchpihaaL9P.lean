/-
  Whatever bytes are given: finds drawn from them are finds without one of them, too, and are none where one of them has no type; the program's check is the model's. No condition.
-/
import Derived.Test.YtopdmcnbchpihaaEnt
import Derived.Test.YtopdmcnbchpihaaLif
import Derived.Test.YtopdmcnbchpihaaMak
import Derived.Test.YtopdmcnbchpihaaFdb
import Derived.Test.YtopdmcnbchpihaaIfa
import Derived.Test.YtopdmcnbchpihaaFna
import Derived.Test.YtopdmcnbchpihaaTriFind
import Derived.Test.YtopdmcnbchpihaaOpen
import Derived.Deep.RegionHeld3
namespace Go.Proofs.Ytopdmcnbchpihaa.lawFindsPart
open Go.ChangeShapes Go.WideShapes Go.ChangeAt Go.RowKit

theorem part_valid {l : List Ctx} (h : validF l = true) (k : Nat) : validF (l.take k ++ l.drop (k + 1)) = true := validF_sub h (part_sub l k)
theorem set_same {α : Type} {L : List α} {i : Nat} {u : α} (h : L[i]? = some u) : L.set i u = L := by
  apply List.ext_getElem?
  intro j
  rw [List.getElem?_set]
  split
  · rename_i e
    subst e
    have := (List.getElem?_eq_some_iff.1 h).1
    rw [if_pos this, h]
  · rfl
theorem cellsC_setK {l : List Ctx} {k : Nat} (hk : k < l.length) (a : Int) : (cellsC l).set (k * 3 + 1) (.int .i64 a) = cellsC (l.set k ⟨l[k].id, a, l[k].area⟩) := by
  rw [← cellsC_set l k hk ⟨l[k].id, a, l[k].area⟩]
  obtain ⟨h1, _, h3⟩ := cellsC_at l k l[k] (List.getElem?_eq_getElem hk)
  dsimp only
  rw [set_same h1]
  refine (set_same ?_).symm
  rw [List.getElem?_set_ne (by omega), h3]
theorem own_storeK {w : World} {base e g n cap : Nat} {l : List Ctx} (h : w.ownsRow base e 3 (.slice (some ⟨g, 0, none⟩) n cap) n (cellsC l)) {k : Nat} (hk : k < l.length) (a : Int) :
    (w.setCell ⟨g, k * 3 + 1, none⟩ (.int .i64 a)).ownsRow base e 3 (.slice (some ⟨g, 0, none⟩) n cap) n (cellsC (l.set k ⟨l[k].id, a, l[k].area⟩)) := by
  have h1 := (h.stored (k * 3 + 1) (.int .i64 a)).1
  rw [cellsC_setK hk] at h1
  exact h1
theorem no_type {l : List Ctx} {k : Nat} (hk : k < l.length) : validF (l.set k ⟨l[k].id, 0, l[k].area⟩) = false := by
  refine validF_bad (f := ⟨l[k].id, 0, l[k].area⟩) (List.mem_of_getElem? (i := k) (by simp [hk])) ?_
  cases h : okF ⟨l[k].id, 0, l[k].area⟩
  · rfl
  · have := (okF_parts h).2.1.1
    simp at this

set_option maxHeartbeats 4000000 in
set_option maxRecDepth 100000 in
theorem walk_short (A : Option Addr) (c : Nat) (z : List Int) (A1 : Option Addr) (c1 : Nat) (z1 : List Int) (w : World) (h : Bytes w A c z) (hn : z.length ≤ 1048576) (hn1 : z1.length ≤ 1048576) :
    Calls Try.prog 10 #[.slice A z.length c, .slice A1 z1.length c1] w fun e w2 => e = .returned (.bool true) ∧ Below w.heap.size w w2 := by
  obtain ⟨i0, hi0, hz0, hz1, hz2⟩ := info_parts infoFind
  have e0 : decide ((1048576 : Int) < (z.length : Int)) = false := decide_eq_false (by omega)
  have e01 : decide ((1048576 : Int) < (z1.length : Int)) = false := decide_eq_false (by omega)
  go_enter Try.func10, Try.ntmps10
  go_wp2_with fail
  refine (dValidFd_any A c z _ h).mono ?_
  rintro e w2 ⟨v, l, rfl, ho2, hl, hb2⟩
  obtain ⟨Al, cl, hv, hcap, hrl⟩ := own_slice ho2
  subst hv
  go_wp2_with fail
  refine (iFindsValid_any _ _ l _ hrl (by omega)).mono ?_
  rintro e w3 ⟨rfl, hb3⟩
  go_wp2_with fail
  refine (sValidF_any _ _ l _ (hrl.step hb3) (by omega)).mono ?_
  rintro e w4 ⟨rfl, hb4⟩
  have k4 := below_step (below_step hb2 hb3) hb4
  have r4 := hrl.step (below_step hb3 hb4)
  have K4 := Lib.hid k4
  clear hb2 hb3 hb4 ho2 hrl k4
  cases hvl : validF l
  · go_wp2_with fail
    go_ret
    exact ⟨rfl, K4.out⟩
  · rcases Nat.eq_zero_or_pos l.length with h0 | hpos
    · have e1 : ((l.length : Int) == 0) = true := by simp [h0]
      clear h0
      go_wp2_with fail
      go_ret
      exact ⟨rfl, K4.out⟩
    · have e1 : ((l.length : Int) == 0) = false := by rw [beq_eq_false_iff_ne]; omega
      have hkl : z1.length % l.length < l.length := Nat.mod_lt _ hpos
      have hpi : (0 : Int) < (l.length : Int) := by omega
      have HV := Lib.hid hvl
      clear hvl
      go_wp2_with fail
      obtain ⟨k, hke⟩ : ∃ k : Nat, k = z1.length % l.length := ⟨_, rfl⟩
      have hki : (z1.length : Int) % (l.length : Int) = (k : Int) := by rw [hke]; rfl
      rw [hki]
      rw [← hke] at hkl
      obtain ⟨b, off, hA, hbb, _⟩ := r4.ctx hpos
      subst hA
      have R4 := Lib.hid r4
      have hk0 : (0 : Int) ≤ (k : Int) := by omega
      have hk1 : (0 : Int) ≤ (k : Int) + 1 := by omega
      have hk2 : ((k : Int) + 1).toNat = k + 1 := by omega
      have hkw : IntKind.i64.wrap ((k : Int) + 1) = (k : Int) + 1 := IntWalk.i64_in _ (by omega)
      have hkc : (k : Int) ≤ (cl : Int) := by omega
      have hkc2 : (k : Int) + 1 ≤ (cl : Int) := by omega
      have hkl2 : (k : Int) ≤ (l.length : Int) := by omega
      have hkl3 : (k : Int) + 1 ≤ (l.length : Int) := by omega
      have hne : ¬ cl = k := by omega
      have HT2 : Hid ((some ⟨b, off + k * 3, none⟩ : Option Addr) = (some ⟨b, off, none⟩ : Option Addr).map (·.add (k * 3))) := by
        show _ = _
        simp only [Option.map, Addr.add]
        split
        · rename_i h0; rw [h0]; rfl
        · rfl
      clear hke hki r4
      obtain ⟨xs, hxs⟩ : ∃ xs, xs = l.take k ++ l.drop (k + 1) := ⟨_, rfl⟩
      have hxv : validF xs = true := by rw [hxs]; exact part_valid HV.out k
      have hxl : xs.length ≤ 1000000000000 := by rw [hxs, List.length_append, List.length_take, List.length_drop]; omega
      have Hxs := Lib.hid hxs
      clear hxs
      by_cases hcc : cl = k + 1
      · have HT : Hid (0 < l.length - (k + 1) → (some ⟨b, off, none⟩ : Option Addr) = (some ⟨b, off, none⟩ : Option Addr).map (·.add ((k + 1) * 3))) := by
          show 0 < l.length - (k + 1) → _
          intro h0
          omega
        have hcc2 : (cl = k + 1) = True := eq_true hcc
        clear hcc
        go_wp2_with fail
        have hO : ((w4.drewN 1).alloc (.cells #[] 31)).ownsRow w4.heap.size 31 3 (.slice (some ⟨w4.heap.size, 0, none⟩) 0 0) 0 [] := own_empty (w := w4.drewN 1) (Nat.le_refl _) rfl
        have hB : Below w4.heap.size w4 ((w4.drewN 1).alloc (.cells #[] 31)) := (below_draws (Below.refl _ _) 1).alloc (Nat.le_refl _) _
        have hR : Reads ((w4.drewN 1).alloc (.cells #[] 31)) w4.heap.size 3 (some ⟨b, off, none⟩) l.length (cellsC l) := (R4.out).below hB
        have w5X := Lib.hid (And.intro hO (And.intro hB hR))
        clear hO hB hR
        go_region_held3 (fun _ => True) (trivial)
          (first
            | (refine step_append_want ((w4.drewN 1).alloc (.cells #[] 31)) (by rfl) (.tmp 45) (.tmp 48) _ (by rfl) w4.heap.size 31 i0 _ 3 24 Try.underlying23 hi0 hz0 hz1 hz2 rfl (by omega) (.slice (some ⟨w4.heap.size, 0, none⟩) 0 0) 0 [] (by rfl) w5X.out.1 _ _ k _ (cellsC (l.take k)) (by rfl) (w5X.out.2.2.headC (by omega)) (cellsC_one _) (by simp only [maxLen]; omega) (by omega) (by simp) ?_
               intro v5 w5 o5 w5g w5t
               have b5 : Below w4.heap.size w4 w5 := w5X.out.2.1.grown w5g (by simp) (fun j hj => by simp [Value.ownBlock] at hj; omega))
            | (refine step_append_want w5 (by rfl) (.tmp 49) (.tmp 53) _ (by rfl) w4.heap.size 31 i0 _ 3 24 Try.underlying23 hi0 hz0 hz1 hz2 rfl (by omega) v5 (0 + k) ([] ++ cellsC (l.take k)) (by rfl) o5 _ _ (l.length - (k + 1)) _ (cellsC (l.drop (k + 1))) (by rfl) (((R4.out).below b5).tailC (by omega) HT.out) (cellsC_one _) (by simp only [maxLen]; omega) (by omega) b5.size ?_
               intro v6 w6 o6 w6g w6t
               have b6 : Below w4.heap.size w4 w6 := b5.trans (app_below0 o5 (Nat.le_refl _) b5.size w6g)
               rw [List.nil_append, ← cellsC_append, ← Hxs.out, show 0 + k + (l.length - (k + 1)) = xs.length from by rw [Hxs.out, List.length_append, List.length_take, List.length_drop]; omega] at o6
               have o6H := Lib.hid o6
               clear o6))
        obtain ⟨A6, c6, hv6, _, hr6⟩ := own_slice o6H.out
        subst hv6
        have rl6 := R4.out.step b6
        go_wp2_with (at_builtin
                     go_must (refine wpList_append_reads _ rfl (.tmp 55) (.tmp 56) _ rfl w6.heap.size 31 i0 _ 3 24 Try.underlying23 hi0 hz0 hz1 hz2 rfl (by omega) (.slice (some ⟨w6.heap.size, 0, none⟩) 0 0) 0 [] rfl (own_empty (Nat.le_refl _) rfl) _ _ l.length _ (cellsC l) rfl (rl6.below ((Below.refl _ _).alloc (Nat.le_refl _) _)) (cellsC_one _) (by simp only [maxLen]; omega) (by omega) (by simp) ?_)
                     intro v8 w8 o8 w8g w8t
                     have b8 := ((Below.refl w6.heap.size w6).alloc (Nat.le_refl _) (.cells #[] 31)).grown w8g (by simp) (fun k hk => by simp [Value.ownBlock] at hk; omega)
                     rw [List.nil_append, Nat.zero_add] at o8
                     obtain ⟨gg, cap8, hv8, hbg, hgg⟩ := o8.form hpos
                     subst hv8
                     have O8 := Lib.hid o8
                     obtain ⟨d0, d1, d2, f0, f1, f2⟩ := own_cells o8 (List.getElem?_eq_getElem hkl)
                     clear o8)
        have b9 : Below w6.heap.size w6 (w8.setCell ⟨gg, k * 3 + 1, none⟩ (.int .i64 0)) := b8.setCell hbg _
        have o9 := own_storeK O8.out hkl 0
        have hyv := no_type hkl
        have hyl : (l.set k ⟨l[k].id, 0, l[k].area⟩).length = l.length := List.length_set
        obtain ⟨ys, hys⟩ : ∃ ys, ys = l.set k ⟨l[k].id, 0, l[k].area⟩ := ⟨_, rfl⟩
        rw [← hys] at o9 hyv hyl
        have r9 := Lib.hid (own_reads o9)
        clear o9 hys
        refine (iFindsValid_any _ _ xs _ (hr6.step b9) (by omega)).mono ?_
        rw [hxv]
        rintro e w10 ⟨rfl, hb10⟩
        have hcall := iFindsValid_any (some ⟨gg, 0, none⟩) cap8 ys w10 (by rw [hyl]; exact r9.out.step hb10) (by omega)
        rw [hyl, hyv] at hcall
        have HC := Lib.hid hcall
        clear hcall
        go_wp2_with fail
        refine HC.out.mono ?_
        rintro e w11 ⟨rfl, hb11⟩
        go_wp2_with fail
        go_ret
        exact ⟨rfl, below_step (below_step (below_step (below_step K4.out b6) b9) hb10) hb11⟩
      · have HT : Hid (0 < l.length - (k + 1) → (some ⟨b, off + (k + 1) * 3, none⟩ : Option Addr) = (some ⟨b, off, none⟩ : Option Addr).map (·.add ((k + 1) * 3))) := by
          show 0 < l.length - (k + 1) → _
          intro _
          simp only [Option.map, Addr.add]
          rw [if_neg (by omega)]
        go_wp2_with fail
        have hO : ((w4.drewN 1).alloc (.cells #[] 31)).ownsRow w4.heap.size 31 3 (.slice (some ⟨w4.heap.size, 0, none⟩) 0 0) 0 [] := own_empty (w := w4.drewN 1) (Nat.le_refl _) rfl
        have hB : Below w4.heap.size w4 ((w4.drewN 1).alloc (.cells #[] 31)) := (below_draws (Below.refl _ _) 1).alloc (Nat.le_refl _) _
        have hR : Reads ((w4.drewN 1).alloc (.cells #[] 31)) w4.heap.size 3 (some ⟨b, off, none⟩) l.length (cellsC l) := (R4.out).below hB
        have w5X := Lib.hid (And.intro hO (And.intro hB hR))
        clear hO hB hR
        go_region_held3 (fun _ => True) (trivial)
          (first
            | (refine step_append_want ((w4.drewN 1).alloc (.cells #[] 31)) (by rfl) (.tmp 45) (.tmp 48) _ (by rfl) w4.heap.size 31 i0 _ 3 24 Try.underlying23 hi0 hz0 hz1 hz2 rfl (by omega) (.slice (some ⟨w4.heap.size, 0, none⟩) 0 0) 0 [] (by rfl) w5X.out.1 _ _ k _ (cellsC (l.take k)) (by rfl) (w5X.out.2.2.headC (by omega)) (cellsC_one _) (by simp only [maxLen]; omega) (by omega) (by simp) ?_
               intro v5 w5 o5 w5g w5t
               have b5 : Below w4.heap.size w4 w5 := w5X.out.2.1.grown w5g (by simp) (fun j hj => by simp [Value.ownBlock] at hj; omega))
            | (refine step_append_want w5 (by rfl) (.tmp 49) (.tmp 53) _ (by rfl) w4.heap.size 31 i0 _ 3 24 Try.underlying23 hi0 hz0 hz1 hz2 rfl (by omega) v5 (0 + k) ([] ++ cellsC (l.take k)) (by rfl) o5 _ _ (l.length - (k + 1)) _ (cellsC (l.drop (k + 1))) (by rfl) (((R4.out).below b5).tailC (by omega) HT.out) (cellsC_one _) (by simp only [maxLen]; omega) (by omega) b5.size ?_
               intro v6 w6 o6 w6g w6t
               have b6 : Below w4.heap.size w4 w6 := b5.trans (app_below0 o5 (Nat.le_refl _) b5.size w6g)
               rw [List.nil_append, ← cellsC_append, ← Hxs.out, show 0 + k + (l.length - (k + 1)) = xs.length from by rw [Hxs.out, List.length_append, List.length_take, List.length_drop]; omega] at o6
               have o6H := Lib.hid o6
               clear o6))
        obtain ⟨A6, c6, hv6, _, hr6⟩ := own_slice o6H.out
        subst hv6
        have rl6 := R4.out.step b6
        go_wp2_with (at_builtin
                     go_must (refine wpList_append_reads _ rfl (.tmp 55) (.tmp 56) _ rfl w6.heap.size 31 i0 _ 3 24 Try.underlying23 hi0 hz0 hz1 hz2 rfl (by omega) (.slice (some ⟨w6.heap.size, 0, none⟩) 0 0) 0 [] rfl (own_empty (Nat.le_refl _) rfl) _ _ l.length _ (cellsC l) rfl (rl6.below ((Below.refl _ _).alloc (Nat.le_refl _) _)) (cellsC_one _) (by simp only [maxLen]; omega) (by omega) (by simp) ?_)
                     intro v8 w8 o8 w8g w8t
                     have b8 := ((Below.refl w6.heap.size w6).alloc (Nat.le_refl _) (.cells #[] 31)).grown w8g (by simp) (fun k hk => by simp [Value.ownBlock] at hk; omega)
                     rw [List.nil_append, Nat.zero_add] at o8
                     obtain ⟨gg, cap8, hv8, hbg, hgg⟩ := o8.form hpos
                     subst hv8
                     have O8 := Lib.hid o8
                     obtain ⟨d0, d1, d2, f0, f1, f2⟩ := own_cells o8 (List.getElem?_eq_getElem hkl)
                     clear o8)
        have b9 : Below w6.heap.size w6 (w8.setCell ⟨gg, k * 3 + 1, none⟩ (.int .i64 0)) := b8.setCell hbg _
        have o9 := own_storeK O8.out hkl 0
        have hyv := no_type hkl
        have hyl : (l.set k ⟨l[k].id, 0, l[k].area⟩).length = l.length := List.length_set
        obtain ⟨ys, hys⟩ : ∃ ys, ys = l.set k ⟨l[k].id, 0, l[k].area⟩ := ⟨_, rfl⟩
        rw [← hys] at o9 hyv hyl
        have r9 := Lib.hid (own_reads o9)
        clear o9 hys
        refine (iFindsValid_any _ _ xs _ (hr6.step b9) (by omega)).mono ?_
        rw [hxv]
        rintro e w10 ⟨rfl, hb10⟩
        have hcall := iFindsValid_any (some ⟨gg, 0, none⟩) cap8 ys w10 (by rw [hyl]; exact r9.out.step hb10) (by omega)
        rw [hyl, hyv] at hcall
        have HC := Lib.hid hcall
        clear hcall
        go_wp2_with fail
        refine HC.out.mono ?_
        rintro e w11 ⟨rfl, hb11⟩
        go_wp2_with fail
        go_ret
        exact ⟨rfl, below_step (below_step (below_step (below_step K4.out b6) b9) hb10) hb11⟩

theorem walk (A : Option Addr) (c : Nat) (z : List Int) (A1 : Option Addr) (c1 : Nat) (z1 : List Int) (w : World) (h1 : z.length ≤ c) (h2 : Reads w w.heap.size 1 A z.length (cellsB z)) (h3 : ∀ b ∈ z, 0 ≤ b ∧ b ≤ 255) (h4 : c ≤ maxLen)
    (_ : z1.length ≤ c1) (_ : Reads w w.heap.size 1 A1 z1.length (cellsB z1)) (_ : ∀ b ∈ z1, 0 ≤ b ∧ b ≤ 255) (_ : c1 ≤ maxLen) :
    Calls Try.prog 10 #[.slice A z.length c, .slice A1 z1.length c1] w fun e w2 => e = .returned (.bool true) ∧ Below w.heap.size w w2 := by
  by_cases hn : z.length ≤ 1048576
  · by_cases hn1 : z1.length ≤ 1048576
    · exact walk_short A c z A1 c1 z1 w (Bytes.mk_ h1 h2 h3 h4) hn hn1
    · have e0 : decide ((1048576 : Int) < (z.length : Int)) = false := decide_eq_false (by omega)
      have e1 : decide ((1048576 : Int) < (z1.length : Int)) = true := decide_eq_true (by omega)
      go_enter Try.func10, Try.ntmps10
      go_wp2_with fail
      go_ret
      exact ⟨rfl, Below.refl _ _⟩
  · have e0 : decide ((1048576 : Int) < (z.length : Int)) = true := decide_eq_true (by omega)
    go_enter Try.func10, Try.ntmps10
    go_wp2_with fail
    go_ret
    exact ⟨rfl, Below.refl _ _⟩

set_option linter.unusedVariables false
set_option maxRecDepth 100000 in
theorem lifted (os : Os) (started : os.Started) (H : Type) (enc : TypeId × Value → H) :
    ReturnsInHanded {} Try.checked os 10 .any (Rows.fnFindsPartSpec.pre6 enc Try.prog Try.f10 Rows.fnFindsPartRow.domain false) (Rows.fnFindsPartSpec.post enc Try.prog Try.f10 false true false false) := by
  refine returnsInHanded_of_change (C := Try.checked) lawOwn started (by kernel_rfl) Try.func10
    (ChangeSpec.witness6 (enc := enc) (C := Try.checked) false ⟨#[], #[.slice none 0 0, .slice none 0 0], []⟩ 8 (by kernel_rfl) (by kernel_rfl) (by kernel_rfl) (by kernel_rfl)) ?_
  intro W base args ds gs before hval0 hW hcnd _
  have hval : ∀ (j : Nat) t v, Try.f10.params[j]? = some t → args[j]? = some v → Value.okWide Try.prog W .any base t v := hval0
  have hW' := hW
  obtain ⟨p, q, hA0, hV, rfl, hfz, hnd⟩ := hW
  have hA : DataW.TrodAll enc Try.prog W 0 (fun _ => true) true Try.f10.params.toList args.toList ds p := hA0
  rw [Try.params10] at hA hval
  obtain ⟨v0, vs0, d0, ds0, p0, q0, hargs, rfl, rfl, h0, r0⟩ := trodAll_cons hA
  obtain ⟨v1, vs1, d1, ds1, p1, q1, rfl, rfl, rfl, h1, r1⟩ := trodAll_cons r0
  obtain ⟨rfl, rfl, rfl⟩ := trodAll_nil r1
  obtain rfl : args = #[v0, v1] := by cases args; simp_all
  obtain ⟨rfl, rfl⟩ := trodVars_none hV
  have k0 := h0
  have lt0 : ∀ x ∈ p0, x.block < W.heap.size := by obtain ⟨m, hm⟩ := k0; exact DataW.trod_lt m _ _ _ hm
  obtain ⟨a0, len0, cap0, rfl⟩ := okWide_slice Try.underlying22 (hval 0 22 v0 rfl rfl)
  obtain ⟨z0, hl0, hc0, hr0, hb0, hm0⟩ : ∃ z : List Int, len0 = z.length ∧ len0 ≤ cap0 ∧ Reads W W.heap.size 1 a0 len0 (cellsB z) ∧ (∀ b ∈ z, 0 ≤ b ∧ b ≤ 255) ∧ cap0 ≤ maxLen := by
    obtain ⟨fuel, hf⟩ := h0
    exact open_bytes Try.underlying22 Try.underlying5 (by kernel_rfl) (by simpa [Value.cells] using hf)
  subst hl0
  have k1 := h1
  have lt1 : ∀ x ∈ p1, x.block < W.heap.size := by obtain ⟨m, hm⟩ := k1; exact DataW.trod_lt m _ _ _ hm
  obtain ⟨a1, len1, cap1, rfl⟩ := okWide_slice Try.underlying22 (hval 1 22 v1 rfl rfl)
  obtain ⟨z1, hl1, hc1, hr1, hb1, hm1⟩ : ∃ z : List Int, len1 = z.length ∧ len1 ≤ cap1 ∧ Reads W W.heap.size 1 a1 len1 (cellsB z) ∧ (∀ b ∈ z, 0 ≤ b ∧ b ≤ 255) ∧ cap1 ≤ maxLen := by
    obtain ⟨fuel, hf⟩ := h1
    exact open_bytes Try.underlying22 Try.underlying5 (by kernel_rfl) (by simpa [Value.cells] using hf)
  subst hl1
  clear hA0 hval0
  refine (walk a0 cap0 z0 a1 cap1 z1 W hc0 hr0 hb0 hm0 hc1 hr1 hb1 hm1).mono fun e W' ⟨he, bel⟩ => ?_
  subst he
  exact ⟨_, rfl, _, _, _, [], _, [], hW', trodAll_mk1 (shut_bool Try.underlying4 _), (trodAll_cons_mk (Below.trod lawLaid (by kernel_rfl) (of_decide_eq_true (by kernel_rfl)) k0 bel lt0) (trodAll_cons_mk (Below.trod lawLaid (by kernel_rfl) (of_decide_eq_true (by kernel_rfl)) k1 bel lt1) trodAll_mk0)), rfl, bel.frame _, fun h => by cases h⟩

theorem closed : joinedFacts Try.checked.prog 10 Try.f10 Rows.fnFindsPartSpec Rows.fnFindsPartRow = true := by
  unfold joinedFacts
  repeat (refine and_t ?_ (by first | (with_reducible exact ent) | (with_reducible refine lif_c ?_; kernel_rfl) | (with_reducible refine mak_c ?_; kernel_rfl) | kernel_rfl))
  kernel_rfl
theorem proved : Rows.FnFindsPartSaid :=
  OpenClaim.holds_of_wide 10 Try.f10 rfl rfl rfl rfl rfl rfl rfl ⟨rfl, rfl, rfl, rfl, rfl⟩ rfl rfl rfl rfl rfl (by kernel_rfl) Try.func10 closed
    (of_decide_eq_true (by kernel_rfl)) (by unfold Func.isWrapper; rw [if_neg (of_decide_eq_false (by kernel_rfl))]; exact ⟨rfl, rfl⟩)
    (fun os started H enc _ => lifted os started H enc)
#print axioms proved
end Go.Proofs.Ytopdmcnbchpihaa.lawFindsPart
