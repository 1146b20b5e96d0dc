/-
  Whatever bytes are given: of contexts and relations drawn from them, the order is valid exactly if the model says so, and a valid one stays valid without a relation that tells what lies above what. No condition.
-/
import Derived.Test.YtmcnjmflmpfjlaaEnt
import Derived.Test.YtmcnjmflmpfjlaaLif
import Derived.Test.YtmcnjmflmpfjlaaMak
import Derived.Test.YtmcnjmflmpfjlaaLw
import Derived.Test.YtmcnjmflmpfjlaaUu
import Derived.Deep.RegionHeld3
namespace Go.Proofs.Ytmcnjmflmpfjlaa.lawOrderDrop
open Go.ChangeShapes Go.WideShapes Go.ChangeAt Go.RowKit

theorem ord_drop {ids : List Int} {l : List Ctx} (h : ordOkG ids l = true) {k : Nat} {r : Ctx} (hr : l[k]? = some r) (ha : r.area ≠ 2) : ordOkG ids (l.take k ++ l.drop (k + 1)) = true := by
  unfold ordOkG at h ⊢
  rw [Bool.and_eq_true] at h ⊢
  refine ⟨okG_sub h.1 (part_sub l k), List.all_eq_true.2 fun a hm => ?_⟩
  have h2 := List.all_eq_true.1 h.2 a hm
  cases hu : upG ids (l.take k ++ l.drop (k + 1)) a a
  · rfl
  · rw [upG_drop h.1 hr ha hu] at h2
    cases h2
set_option maxHeartbeats 4000000 in
set_option maxRecDepth 100000 in
theorem walk_short (A : Option Addr) (c : Nat) (z : List Int) (A9 : Option Addr) (c9 : Nat) (z9 : List Int) (w : World) (h : Bytes w A c z) (hn : z.length ≤ 1048576) (hn9 : z9.length ≤ 1048576) :
    Calls Try.prog 18 #[.slice A z.length c, .slice A9 z9.length c9] w fun e w2 => e = .returned (.bool true) ∧ Below w.heap.size w w2 := by
  have e0 : decide ((1048576 : Int) < (z.length : Int)) = false := decide_eq_false (by omega)
  have e09 : decide ((1048576 : Int) < (z9.length : Int)) = false := decide_eq_false (by omega)
  go_enter Try.func18, Try.ntmps18
  go_wp2_with fail
  refine (dOrdV_any A c z _ h).mono ?_
  rintro e w2 ⟨v1, v2, ids, l, rfl, ho1, ho2, hl1, hl2, hb2⟩
  obtain ⟨A1, c1, hv1, hcap1, hr1⟩ := own_slice ho1
  obtain ⟨A2, c2, hv2, hcap2, hr2⟩ := own_slice ho2
  subst hv1 hv2
  obtain ⟨t, ht⟩ : ∃ t, t = ordOkG ids l := ⟨_, rfl⟩
  have HT := Lib.hid ht
  have HR := Lib.hid (And.intro hb2 (And.intro hr1 hr2))
  clear ho1 ho2 hb2 h hr1 hr2 ht
  go_wp2_with fail
  refine (iOrdValid_any _ _ _ _ ids l _ HR.out.2.1 HR.out.2.2 (by omega) (by omega)).mono ?_
  rintro e w3 ⟨rfl, hb3⟩
  rw [← HT.out]
  have H3 := Lib.hid hb3
  clear hb3
  go_wp2_with fail
  refine (sOrdValid_any _ _ _ _ ids l _ (HR.out.2.1.step H3.out) (HR.out.2.2.step H3.out) (by omega) (by omega)).mono ?_
  rintro e w4 ⟨rfl, hb4⟩
  rw [← HT.out]
  have k4 := below_step H3.out hb4
  have R := Lib.hid (And.intro (HR.out.2.1.step k4) (And.intro (HR.out.2.2.step k4) (below_step HR.out.1 k4)))
  clear hb4 k4
  cases t
  · go_wp2_with fail
    go_ret
    exact ⟨rfl, R.out.2.2⟩
  · obtain ⟨i0, hi0, hz0, hz1, hz2⟩ := info_parts infoRel
    rcases Nat.eq_zero_or_pos l.length with h0 | hpos
    · have e1 : ((l.length : Int) == 0) = true := by simp [h0]
      clear h0
      go_wp2_with fail
      go_ret
      exact ⟨rfl, R.out.2.2⟩
    · have e1 : ((l.length : Int) == 0) = false := by rw [beq_eq_false_iff_ne]; omega
      have hkl : z9.length % l.length < l.length := Nat.mod_lt _ hpos
      have hpi : (0 : Int) < (l.length : Int) := by omega
      go_wp2_with fail
      obtain ⟨k, hke⟩ : ∃ k : Nat, k = z9.length % l.length := ⟨_, rfl⟩
      have hki : (z9.length : Int) % (l.length : Int) = (k : Int) := by rw [hke]; rfl
      rw [hki]
      rw [← hke] at hkl
      obtain ⟨b, off, hA, hbb, hc⟩ := R.out.2.1.ctx hpos
      subst hA
      have hk0 : (0 : Int) ≤ (k : Int) := by omega
      have hk1 : (0 : Int) ≤ (k : Int) + 1 := by omega
      have hk2 : ((k : Int) + 1).toNat = k + 1 := by omega
      have hkw : IntKind.i64.wrap ((k : Int) + 1) = (k : Int) + 1 := IntWalk.i64_in _ (by omega)
      have hkc : (k : Int) ≤ (c2 : Int) := by omega
      have hkc2 : (k : Int) + 1 ≤ (c2 : Int) := by omega
      have hkl2 : (k : Int) ≤ (l.length : Int) := by omega
      have hkl3 : (k : Int) + 1 ≤ (l.length : Int) := by omega
      have hkl4 : (k : Int) < (l.length : Int) := by omega
      have hne : ¬ c2 = k := by omega
      clear hke hki
      obtain ⟨xs, hxs⟩ : ∃ xs, xs = l.take k ++ l.drop (k + 1) := ⟨_, rfl⟩
      have hxl : xs.length ≤ 31 := by rw [hxs, List.length_append, List.length_take, List.length_drop]; omega
      have hxo : ∀ (k2 : Nat) (r : Ctx), k2 = k → l[k2]? = some r → r.area = 1 → ordOkG ids xs = true := by
        rintro _ r rfl hr ha
        rw [hxs]
        exact ord_drop HT.out.symm hr (by omega)
      have Hxs := Lib.hid (And.intro hxs hxo)
      clear hxs hxo
      by_cases hcc : c2 = k + 1
      · have HT : Hid (0 < l.length - (k + 1) → (some ⟨b, off, none⟩ : Option Addr) = (some ⟨b, off, none⟩ : Option Addr).map (·.add ((k + 1) * 3))) := by
          show 0 < l.length - (k + 1) → _
          intro h0
          omega
        have hcc2 : (c2 = k + 1) = True := eq_true hcc
        clear hcc
        go_wp2_with fail
        have hO : ((w4.drewN 1).alloc (.cells #[] 44)).ownsRow w4.heap.size 44 3 (.slice (some ⟨w4.heap.size, 0, none⟩) 0 0) 0 [] := own_empty (w := w4.drewN 1) (Nat.le_refl _) rfl
        have hB : Below w4.heap.size w4 ((w4.drewN 1).alloc (.cells #[] 44)) := (below_draws (Below.refl _ _) 1).alloc (Nat.le_refl _) _
        have hR : Reads ((w4.drewN 1).alloc (.cells #[] 44)) w4.heap.size 3 (some ⟨b, off, none⟩) l.length (cellsC l) := (R.out.2.1).below hB
        have w5X := Lib.hid (And.intro hO (And.intro hB hR))
        clear hO hB hR
        go_region_held3 (fun _ => True) (trivial)
          (first
            | (refine step_append_want ((w4.drewN 1).alloc (.cells #[] 44)) (by rfl) (.tmp 50) (.tmp 53) _ (by rfl) w4.heap.size 44 i0 _ 3 24 Try.underlying24 hi0 hz0 hz1 hz2 rfl (by omega) (.slice (some ⟨w4.heap.size, 0, none⟩) 0 0) 0 [] (by rfl) w5X.out.1 _ _ k _ (cellsC (l.take k)) (by rfl) (w5X.out.2.2.headC (by omega)) (cellsC_one _) (by simp only [maxLen]; omega) (by omega) (by simp [World.drewN]) ?_
               intro v5 w6 o6 w6g w6t
               have b6 : Below w4.heap.size w4 w6 := w5X.out.2.1.grown w6g (by simp) (fun j hj => by simp [Value.ownBlock] at hj; omega))
            | (refine step_append_want w6 (by rfl) (.tmp 54) (.tmp 58) _ (by rfl) w4.heap.size 44 i0 _ 3 24 Try.underlying24 hi0 hz0 hz1 hz2 rfl (by omega) v5 (0 + k) ([] ++ cellsC (l.take k)) (by rfl) o6 _ _ (l.length - (k + 1)) _ (cellsC (l.drop (k + 1))) (by rfl) (((R.out.2.1).below b6).tailC (by omega) HT.out) (cellsC_one _) (by simp only [maxLen]; omega) (by omega) b6.size ?_
               intro v7 w7 o7 w7g w7t
               have b7 : Below w4.heap.size w4 w7 := b6.trans (app_below0 o6 (Nat.le_refl _) b6.size w7g)
               rw [List.nil_append, ← cellsC_append, ← Hxs.out.1, show 0 + k + (l.length - (k + 1)) = xs.length from by rw [Hxs.out.1, List.length_append, List.length_take, List.length_drop]; omega] at o7
               obtain ⟨A7, c7, hv7, _, hr7⟩ := own_slice o7
               subst hv7
               have R7 := Lib.hid (And.intro b7 hr7)
               clear o7 hr7))
        obtain ⟨⟨xa, xb, xc⟩, hr⟩ : ∃ r, l[k]? = some r := ⟨_, List.getElem?_eq_getElem hkl⟩
        have hbb7 : w7.cell? ⟨b, off + k * 3 + 2, none⟩ = some (.int .i64 xc) := (below_cell R7.out.1 _ _ hbb).trans (hc k _ hr).2.2
        by_cases h1 : xc = 1
        · have e3 : (xc != 1) = false := by simp [h1]
          have hxo := Hxs.out.2 k _ rfl hr h1
          clear hr h1 hc
          go_wp2_with fail
          refine (iOrdValid_any _ _ _ _ ids xs _ (R.out.1.step R7.out.1) R7.out.2 (by omega) (by omega)).mono ?_
          rintro e w8 ⟨rfl, hb8⟩
          rw [hxo]
          go_wp2_with fail
          go_ret
          exact ⟨rfl, below_step R.out.2.2 (below_step R7.out.1 hb8)⟩
        · have e3 : (xc != 1) = true := by simp [h1]
          clear hr h1 hc
          go_wp2_with fail
          go_ret
          exact ⟨rfl, below_step R.out.2.2 R7.out.1⟩
      · have HT : Hid (0 < l.length - (k + 1) → (some ⟨b, off + (k + 1) * 3, none⟩ : Option Addr) = (some ⟨b, off, none⟩ : Option Addr).map (·.add ((k + 1) * 3))) := by
          show 0 < l.length - (k + 1) → _
          intro _
          simp only [Option.map, Addr.add]
          rw [if_neg (by omega)]
        go_wp2_with fail
        have hO : ((w4.drewN 1).alloc (.cells #[] 44)).ownsRow w4.heap.size 44 3 (.slice (some ⟨w4.heap.size, 0, none⟩) 0 0) 0 [] := own_empty (w := w4.drewN 1) (Nat.le_refl _) rfl
        have hB : Below w4.heap.size w4 ((w4.drewN 1).alloc (.cells #[] 44)) := (below_draws (Below.refl _ _) 1).alloc (Nat.le_refl _) _
        have hR : Reads ((w4.drewN 1).alloc (.cells #[] 44)) w4.heap.size 3 (some ⟨b, off, none⟩) l.length (cellsC l) := (R.out.2.1).below hB
        have w5X := Lib.hid (And.intro hO (And.intro hB hR))
        clear hO hB hR
        go_region_held3 (fun _ => True) (trivial)
          (first
            | (refine step_append_want ((w4.drewN 1).alloc (.cells #[] 44)) (by rfl) (.tmp 50) (.tmp 53) _ (by rfl) w4.heap.size 44 i0 _ 3 24 Try.underlying24 hi0 hz0 hz1 hz2 rfl (by omega) (.slice (some ⟨w4.heap.size, 0, none⟩) 0 0) 0 [] (by rfl) w5X.out.1 _ _ k _ (cellsC (l.take k)) (by rfl) (w5X.out.2.2.headC (by omega)) (cellsC_one _) (by simp only [maxLen]; omega) (by omega) (by simp [World.drewN]) ?_
               intro v5 w6 o6 w6g w6t
               have b6 : Below w4.heap.size w4 w6 := w5X.out.2.1.grown w6g (by simp) (fun j hj => by simp [Value.ownBlock] at hj; omega))
            | (refine step_append_want w6 (by rfl) (.tmp 54) (.tmp 58) _ (by rfl) w4.heap.size 44 i0 _ 3 24 Try.underlying24 hi0 hz0 hz1 hz2 rfl (by omega) v5 (0 + k) ([] ++ cellsC (l.take k)) (by rfl) o6 _ _ (l.length - (k + 1)) _ (cellsC (l.drop (k + 1))) (by rfl) (((R.out.2.1).below b6).tailC (by omega) HT.out) (cellsC_one _) (by simp only [maxLen]; omega) (by omega) b6.size ?_
               intro v7 w7 o7 w7g w7t
               have b7 : Below w4.heap.size w4 w7 := b6.trans (app_below0 o6 (Nat.le_refl _) b6.size w7g)
               rw [List.nil_append, ← cellsC_append, ← Hxs.out.1, show 0 + k + (l.length - (k + 1)) = xs.length from by rw [Hxs.out.1, List.length_append, List.length_take, List.length_drop]; omega] at o7
               obtain ⟨A7, c7, hv7, _, hr7⟩ := own_slice o7
               subst hv7
               have R7 := Lib.hid (And.intro b7 hr7)
               clear o7 hr7))
        obtain ⟨⟨xa, xb, xc⟩, hr⟩ : ∃ r, l[k]? = some r := ⟨_, List.getElem?_eq_getElem hkl⟩
        have hbb7 : w7.cell? ⟨b, off + k * 3 + 2, none⟩ = some (.int .i64 xc) := (below_cell R7.out.1 _ _ hbb).trans (hc k _ hr).2.2
        by_cases h1 : xc = 1
        · have e3 : (xc != 1) = false := by simp [h1]
          have hxo := Hxs.out.2 k _ rfl hr h1
          clear hr h1 hc
          go_wp2_with fail
          refine (iOrdValid_any _ _ _ _ ids xs _ (R.out.1.step R7.out.1) R7.out.2 (by omega) (by omega)).mono ?_
          rintro e w8 ⟨rfl, hb8⟩
          rw [hxo]
          go_wp2_with fail
          go_ret
          exact ⟨rfl, below_step R.out.2.2 (below_step R7.out.1 hb8)⟩
        · have e3 : (xc != 1) = true := by simp [h1]
          clear hr h1 hc
          go_wp2_with fail
          go_ret
          exact ⟨rfl, below_step R.out.2.2 R7.out.1⟩

theorem walk (A : Option Addr) (c : Nat) (z : List Int) (A1 : Option Addr) (c1 : Nat) (z1 : List Int) (w : World) (h1 : z.length ≤ c) (h2 : Reads w w.heap.size 1 A z.length (cellsB z)) (h3 : ∀ b ∈ z, 0 ≤ b ∧ b ≤ 255) (h4 : c ≤ maxLen)
    (_ : z1.length ≤ c1) (_ : Reads w w.heap.size 1 A1 z1.length (cellsB z1)) (_ : ∀ b ∈ z1, 0 ≤ b ∧ b ≤ 255) (_ : c1 ≤ maxLen) :
    Calls Try.prog 18 #[.slice A z.length c, .slice A1 z1.length c1] w fun e w2 => e = .returned (.bool true) ∧ Below w.heap.size w w2 := by
  by_cases hn : z.length ≤ 1048576
  · by_cases hn1 : z1.length ≤ 1048576
    · exact walk_short A c z A1 c1 z1 w (Bytes.mk_ h1 h2 h3 h4) hn hn1
    · have e0 : decide ((1048576 : Int) < (z.length : Int)) = false := decide_eq_false (by omega)
      have e1 : decide ((1048576 : Int) < (z1.length : Int)) = true := decide_eq_true (by omega)
      go_enter Try.func18, Try.ntmps18
      go_wp2_with fail
      go_ret
      exact ⟨rfl, Below.refl _ _⟩
  · have e0 : decide ((1048576 : Int) < (z.length : Int)) = true := decide_eq_true (by omega)
    go_enter Try.func18, Try.ntmps18
    go_wp2_with fail
    go_ret
    exact ⟨rfl, Below.refl _ _⟩

set_option linter.unusedVariables false
set_option maxRecDepth 100000 in
theorem lifted (os : Os) (started : os.Started) (H : Type) (enc : TypeId × Value → H) :
    ReturnsInHanded {} Try.checked os 18 .any (Rows.fnOrderDropSpec.pre6 enc Try.prog Try.f18 Rows.fnOrderDropRow.domain false) (Rows.fnOrderDropSpec.post enc Try.prog Try.f18 false true false false) := by
  refine returnsInHanded_of_change (C := Try.checked) lawOwn started (by kernel_rfl) Try.func18
    (ChangeSpec.witness6 (enc := enc) (C := Try.checked) false ⟨#[], #[.slice none 0 0, .slice none 0 0], []⟩ 8 (by kernel_rfl) (by kernel_rfl) (by kernel_rfl) (by kernel_rfl)) ?_
  intro W base args ds gs before hval0 hW hcnd _
  have hval : ∀ (j : Nat) t v, Try.f18.params[j]? = some t → args[j]? = some v → Value.okWide Try.prog W .any base t v := hval0
  have hW' := hW
  obtain ⟨p, q, hA0, hV, rfl, hfz, hnd⟩ := hW
  have hA : DataW.TrodAll enc Try.prog W 0 (fun _ => true) true Try.f18.params.toList args.toList ds p := hA0
  rw [Try.params18] at hA hval
  obtain ⟨v0, vs0, d0, ds0, p0, q0, hargs, rfl, rfl, h0, r0⟩ := trodAll_cons hA
  obtain ⟨v1, vs1, d1, ds1, p1, q1, rfl, rfl, rfl, h1, r1⟩ := trodAll_cons r0
  obtain ⟨rfl, rfl, rfl⟩ := trodAll_nil r1
  obtain rfl : args = #[v0, v1] := by cases args; simp_all
  obtain ⟨rfl, rfl⟩ := trodVars_none hV
  have k0 := h0
  have lt0 : ∀ x ∈ p0, x.block < W.heap.size := by obtain ⟨m, hm⟩ := k0; exact DataW.trod_lt m _ _ _ hm
  obtain ⟨a0, len0, cap0, rfl⟩ := okWide_slice Try.underlying22 (hval 0 22 v0 rfl rfl)
  obtain ⟨z0, hl0, hc0, hr0, hb0, hm0⟩ : ∃ z : List Int, len0 = z.length ∧ len0 ≤ cap0 ∧ Reads W W.heap.size 1 a0 len0 (cellsB z) ∧ (∀ b ∈ z, 0 ≤ b ∧ b ≤ 255) ∧ cap0 ≤ maxLen := by
    obtain ⟨fuel, hf⟩ := h0
    exact open_bytes Try.underlying22 Try.underlying5 (by kernel_rfl) (by simpa [Value.cells] using hf)
  subst hl0
  have k1 := h1
  have lt1 : ∀ x ∈ p1, x.block < W.heap.size := by obtain ⟨m, hm⟩ := k1; exact DataW.trod_lt m _ _ _ hm
  obtain ⟨a1, len1, cap1, rfl⟩ := okWide_slice Try.underlying22 (hval 1 22 v1 rfl rfl)
  obtain ⟨z1, hl1, hc1, hr1, hb1, hm1⟩ : ∃ z : List Int, len1 = z.length ∧ len1 ≤ cap1 ∧ Reads W W.heap.size 1 a1 len1 (cellsB z) ∧ (∀ b ∈ z, 0 ≤ b ∧ b ≤ 255) ∧ cap1 ≤ maxLen := by
    obtain ⟨fuel, hf⟩ := h1
    exact open_bytes Try.underlying22 Try.underlying5 (by kernel_rfl) (by simpa [Value.cells] using hf)
  subst hl1
  clear hA0 hval0
  refine (walk a0 cap0 z0 a1 cap1 z1 W hc0 hr0 hb0 hm0 hc1 hr1 hb1 hm1).mono fun e W' ⟨he, bel⟩ => ?_
  subst he
  exact ⟨_, rfl, _, _, _, [], _, [], hW', trodAll_mk1 (shut_bool Try.underlying4 _), (trodAll_cons_mk (Below.trod lawLaid (by kernel_rfl) (of_decide_eq_true (by kernel_rfl)) k0 bel lt0) (trodAll_cons_mk (Below.trod lawLaid (by kernel_rfl) (of_decide_eq_true (by kernel_rfl)) k1 bel lt1) trodAll_mk0)), rfl, bel.frame _, fun h => by cases h⟩

theorem closed : joinedFacts Try.checked.prog 18 Try.f18 Rows.fnOrderDropSpec Rows.fnOrderDropRow = true := by
  unfold joinedFacts
  repeat (refine and_t ?_ (by first | (with_reducible exact ent) | (with_reducible refine lif_c ?_; kernel_rfl) | (with_reducible refine mak_c ?_; kernel_rfl) | kernel_rfl))
  kernel_rfl
theorem proved : Rows.FnOrderDropSaid :=
  OpenClaim.holds_of_wide 18 Try.f18 rfl rfl rfl rfl rfl rfl rfl ⟨rfl, rfl, rfl, rfl, rfl⟩ rfl rfl rfl rfl rfl (by kernel_rfl) Try.func18 closed
    (of_decide_eq_true (by kernel_rfl)) (by unfold Func.isWrapper; rw [if_neg (of_decide_eq_false (by kernel_rfl))]; exact ⟨rfl, rfl⟩)
    (fun os started H enc _ => lifted os started H enc)
#print axioms proved
end Go.Proofs.Ytmcnjmflmpfjlaa.lawOrderDrop
