/-
  Whatever bytes are given: where the program adds a context to contexts drawn from them, the others are those that were there, in their order; its answer is the model's. No condition.
-/
import Derived.Test.YtfcjhpgohcbcaaaCl
import Derived.Deep.RegionHeld3
namespace Go.Proofs.Ytfcjhpgohcbcaaa.lawKept
open Go.ChangeShapes Go.WideShapes Go.ChangeAt Go.RowKit

set_option maxHeartbeats 2000000 in
theorem walk_short (A : Option Addr) (c : Nat) (z : List Int) (w : World) (h : Bytes w A c z) (hn : z.length ≤ 1048576) :
    Calls Try.prog 4 #[.slice A z.length c] w fun e w2 => e = .returned (.bool true) ∧ Below w.heap.size w w2 := by
  obtain ⟨i0, hi0, hz0, hz1, hz2⟩ := info_parts ctx_info
  have e0 : decide ((1048576 : Int) < (z.length : Int)) = false := decide_eq_false (by omega)
  go_enter Try.func4, Try.ntmps4
  go_wp2_with fail
  refine (dAdd_any A c z _ h).mono ?_
  rintro e w2 ⟨v, l, x, rfl, ho2, hl, hb2⟩
  obtain ⟨Al, cl, hv, hcap, hrl⟩ := own_slice ho2
  subst hv
  have a2 : Aft w2 x (w2.alloc (.cells #[.int .i64 x.id, .int .i64 x.kind, .int .i64 x.area] 25)) := Below.refl _ _
  obtain ⟨s0, s1, s2⟩ := a2.cells
  go_wp2_with fail
  refine (iAdd_any _ _ l x _ (a2.list hrl) (by omega)).mono ?_
  rintro e w3 ⟨v3, rfl, hb3, ho3⟩
  have a3 := a2.step hb3
  obtain ⟨s0, s1, s2⟩ := a3.cells
  go_wp2_with fail
  refine (sAdd_any _ _ l x _ (a3.list hrl) (by omega) hcap).mono ?_
  rintro e w4 ⟨v4, rfl, hb4, ho4⟩
  have a4 := a3.step hb4
  obtain ⟨s0, s1, s2⟩ := a4.cells
  obtain ⟨A3, c3, hv3, hcap3, hr3⟩ := own_slice ho3
  obtain ⟨A4, c4, hv4, _, hr4⟩ := own_slice ho4
  subst hv3 hv4
  have hq := eqLC_self (addL l x)
  have hal : (addL l x).length ≤ l.length + 1 := by
    unfold addL
    split
    · split
      · rw [insC_length]; omega
      · omega
    · simp
  go_wp2_with fail
  refine (same_any _ _ _ _ (addL l x) (addL l x) _ (hr3.step hb4) hr4 (by omega)).mono ?_
  rintro e w5 ⟨rfl, hb5⟩
  have a5 := a4.step hb5
  obtain ⟨s0, s1, s2⟩ := a5.cells
  have r35 := hr3.step (below_step hb4 hb5)
  have r45 := hr4.step hb5
  have HB2 := Lib.hid hb2
  cases hok : addOk l x
  · go_wp2_with fail
    refine (same_any _ _ _ _ (addL l x) (addL l x) _ r35 r45 (by omega)).mono ?_
    rintro e w9 ⟨rfl, hb9⟩
    go_wp2_with fail
    go_ret
    exact ⟨rfl, below_step (below_step HB2.out (a5).below) hb9⟩
  · obtain ⟨k, hf, hk, hkl, hlen, hcut⟩ := add_find hok
    have hvv := add_valid hok
    have HF := Lib.hid hf
    have HL := Lib.hid hlen
    have HC := Lib.hid hcut
    clear hf hlen hcut
    go_wp2_with fail
    refine (iFind_any _ _ (addL l x) x.id _ r35 (by omega)).mono ?_
    rw [HF.out]
    rintro e w6 ⟨rfl, hb6⟩
    have a6 := a5.step hb6
    have r36 := r35.step hb6
    obtain ⟨s0, s1, s2⟩ := a6.cells
    obtain ⟨b, off, hA, hbb, hc⟩ := r36.ctx (by omega)
    subst hA
    have e1 : decide (k < (addL l x).length) = true := decide_eq_true hkl
    have hki : (k : Int) < ((addL l x).length : Int) := by omega
    have hki2 : (k : Int) + 1 ≤ ((addL l x).length : Int) := by omega
    have hkc : (k : Int) ≤ (c3 : Int) := by omega
    have hkc2 : (k : Int) + 1 ≤ (c3 : Int) := by omega
    have hk0 : (0 : Int) ≤ (k : Int) := by omega
    have hk1 : (0 : Int) ≤ (k : Int) + 1 := by omega
    have hk2 : ((k : Int) + 1).toNat = k + 1 := by omega
    have hll := eqLC_self l
    have hkw : IntKind.i64.wrap ((k : Int) + 1) = (k : Int) + 1 := IntWalk.i64_in _ (by omega)
    have R36 := Lib.hid r36
    have A6 := Lib.hid a6
    clear hc hk r36 a6 r35 r45 hvv
    by_cases hcc : c3 = k + 1
    · have HT : Hid (0 < (addL l x).length - (k + 1) → (some ⟨b, off, none⟩ : Option Addr) = (some ⟨b, off, none⟩ : Option Addr).map (·.add ((k + 1) * 3))) := by
        show 0 < (addL l x).length - (k + 1) → _
        intro h0
        omega
      have hcc2 : (c3 = k + 1) = True := eq_true hcc
      clear hcc
      have hO : ((w6.drewN 1).alloc (.cells #[] 25)).ownsRow w6.heap.size 25 3 (.slice (some ⟨w6.heap.size, 0, none⟩) 0 0) 0 [] := own_empty (w := w6.drewN 1) (Nat.le_refl _) rfl
      have b6 : Below w6.heap.size w6 ((w6.drewN 1).alloc (.cells #[] 25)) := (below_draws (Below.refl _ _) 1).alloc (Nat.le_refl _) _
      have hR : Reads ((w6.drewN 1).alloc (.cells #[] 25)) w6.heap.size 3 (some ⟨b, off, none⟩) (addL l x).length (cellsC (addL l x)) := R36.out.below b6
      have X := Lib.hid (And.intro hO (And.intro b6 hR))
      clear hO b6 hR
      go_wp2_with fail
      go_region_held3 (fun _ => True) (trivial)
        (first
          | (refine step_append_want ((w6.drewN 1).alloc (.cells #[] 25)) (by rfl) (.tmp 64) (.tmp 67) _ (by rfl) w6.heap.size 25 i0 _ 3 24 Try.underlying23 hi0 hz0 hz1 hz2 rfl (by omega) (.slice (some ⟨w6.heap.size, 0, none⟩) 0 0) 0 [] (by rfl) X.out.1 _ _ k _ (cellsC ((addL l x).take k)) (by rfl) (X.out.2.2.headC (Nat.le_of_lt hkl)) (cellsC_one _) (by simp only [maxLen]; omega) (by omega) (by simp) ?_
             intro v7 w7 hown7 hg7 hat7
             have b7 : Below w6.heap.size w6 w7 := X.out.2.1.grown hg7 (by simp) (fun j hj => by simp [Value.ownBlock] at hj; omega))
          | (refine step_append_want w7 (by rfl) (.tmp 68) (.tmp 72) _ (by rfl) w6.heap.size 25 i0 _ 3 24 Try.underlying23 hi0 hz0 hz1 hz2 rfl (by omega) v7 (0 + k) ([] ++ cellsC ((addL l x).take k)) (by rfl) hown7 _ _ ((addL l x).length - (k + 1)) _ (cellsC ((addL l x).drop (k + 1))) (by rfl) ((R36.out.below b7).tailC (by omega) HT.out) (cellsC_one _) (by simp only [maxLen]; omega) (by omega) b7.size ?_
             intro v8 w8 hown8 hg8 hat8
             have b8 : Below w6.heap.size w6 w8 := b7.trans (app_below0 hown7 (Nat.le_refl _) b7.size hg8)
             rw [List.nil_append, ← cellsC_append, HC.out, show 0 + k + ((addL l x).length - (k + 1)) = l.length from by have := HL.out; omega] at hown8
             obtain ⟨A8, c8, hv8, _, hr8⟩ := own_slice hown8
             subst hv8)
          | (go_at_call 17
             go_must (refine (same_any _ _ _ _ l l _ hr8 ((A6.out.step b8).list hrl) (by omega)).mono ?_)
             rintro e w9 ⟨rfl, hb9⟩))
      go_wp2_with fail
      go_ret
      exact ⟨rfl, below_step HB2.out ((A6.out.step b8).step hb9).below⟩
    · have HT : Hid (0 < (addL l x).length - (k + 1) → (some ⟨b, off + (k + 1) * 3, none⟩ : Option Addr) = (some ⟨b, off, none⟩ : Option Addr).map (·.add ((k + 1) * 3))) := by
        show 0 < (addL l x).length - (k + 1) → _
        intro _
        simp only [Option.map, Addr.add]
        rw [if_neg (by omega)]
      have hO : ((w6.drewN 1).alloc (.cells #[] 25)).ownsRow w6.heap.size 25 3 (.slice (some ⟨w6.heap.size, 0, none⟩) 0 0) 0 [] := own_empty (w := w6.drewN 1) (Nat.le_refl _) rfl
      have b6 : Below w6.heap.size w6 ((w6.drewN 1).alloc (.cells #[] 25)) := (below_draws (Below.refl _ _) 1).alloc (Nat.le_refl _) _
      have hR : Reads ((w6.drewN 1).alloc (.cells #[] 25)) w6.heap.size 3 (some ⟨b, off, none⟩) (addL l x).length (cellsC (addL l x)) := R36.out.below b6
      have X := Lib.hid (And.intro hO (And.intro b6 hR))
      clear hO b6 hR
      go_wp2_with fail
      go_region_held3 (fun _ => True) (trivial)
        (first
          | (refine step_append_want ((w6.drewN 1).alloc (.cells #[] 25)) (by rfl) (.tmp 64) (.tmp 67) _ (by rfl) w6.heap.size 25 i0 _ 3 24 Try.underlying23 hi0 hz0 hz1 hz2 rfl (by omega) (.slice (some ⟨w6.heap.size, 0, none⟩) 0 0) 0 [] (by rfl) X.out.1 _ _ k _ (cellsC ((addL l x).take k)) (by rfl) (X.out.2.2.headC (Nat.le_of_lt hkl)) (cellsC_one _) (by simp only [maxLen]; omega) (by omega) (by simp) ?_
             intro v7 w7 hown7 hg7 hat7
             have b7 : Below w6.heap.size w6 w7 := X.out.2.1.grown hg7 (by simp) (fun j hj => by simp [Value.ownBlock] at hj; omega))
          | (refine step_append_want w7 (by rfl) (.tmp 68) (.tmp 72) _ (by rfl) w6.heap.size 25 i0 _ 3 24 Try.underlying23 hi0 hz0 hz1 hz2 rfl (by omega) v7 (0 + k) ([] ++ cellsC ((addL l x).take k)) (by rfl) hown7 _ _ ((addL l x).length - (k + 1)) _ (cellsC ((addL l x).drop (k + 1))) (by rfl) ((R36.out.below b7).tailC (by omega) HT.out) (cellsC_one _) (by simp only [maxLen]; omega) (by omega) b7.size ?_
             intro v8 w8 hown8 hg8 hat8
             have b8 : Below w6.heap.size w6 w8 := b7.trans (app_below0 hown7 (Nat.le_refl _) b7.size hg8)
             rw [List.nil_append, ← cellsC_append, HC.out, show 0 + k + ((addL l x).length - (k + 1)) = l.length from by have := HL.out; omega] at hown8
             obtain ⟨A8, c8, hv8, _, hr8⟩ := own_slice hown8
             subst hv8)
          | (go_at_call 17
             go_must (refine (same_any _ _ _ _ l l _ hr8 ((A6.out.step b8).list hrl) (by omega)).mono ?_)
             rintro e w9 ⟨rfl, hb9⟩))
      go_wp2_with fail
      go_ret
      exact ⟨rfl, below_step HB2.out ((A6.out.step b8).step hb9).below⟩

theorem walk (A : Option Addr) (c : Nat) (z : List Int) (w : World) (h1 : z.length ≤ c) (h2 : Reads w w.heap.size 1 A z.length (cellsB z)) (h3 : ∀ b ∈ z, 0 ≤ b ∧ b ≤ 255) (h4 : c ≤ maxLen) :
    Calls Try.prog 4 #[.slice A z.length c] w fun e w2 => e = .returned (.bool true) ∧ Below w.heap.size w w2 := by
  by_cases hn : z.length ≤ 1048576
  · exact walk_short A c z w (Bytes.mk_ h1 h2 h3 h4) hn
  · have e0 : decide ((1048576 : Int) < (z.length : Int)) = true := decide_eq_true (by omega)
    go_enter Try.func4, Try.ntmps4
    go_wp2_with fail
    go_ret
    exact ⟨rfl, Below.refl _ _⟩

set_option linter.unusedVariables false
set_option maxRecDepth 100000 in
theorem lifted (os : Os) (started : os.Started) (H : Type) (enc : TypeId × Value → H) :
    ReturnsInHanded {} Try.checked os 4 .any (Rows.fnContextsKeptSpec.pre6 enc Try.prog Try.f4 Rows.fnContextsKeptRow.domain false) (Rows.fnContextsKeptSpec.post enc Try.prog Try.f4 false true false false) := by
  refine returnsInHanded_of_change (C := Try.checked) lawOwn started (by kernel_rfl) Try.func4
    (ChangeSpec.witness6 (enc := enc) (C := Try.checked) false ⟨#[], #[.slice none 0 0], []⟩ 8 (by kernel_rfl) (by kernel_rfl) (by kernel_rfl) (by kernel_rfl)) ?_
  intro W base args ds gs before hval0 hW hcnd _
  have hval : ∀ (j : Nat) t v, Try.f4.params[j]? = some t → args[j]? = some v → Value.okWide Try.prog W .any base t v := hval0
  have hW' := hW
  obtain ⟨p, q, hA0, hV, rfl, hfz, hnd⟩ := hW
  have hA : DataW.TrodAll enc Try.prog W 0 (fun _ => true) true Try.f4.params.toList args.toList ds p := hA0
  rw [Try.params4] at hA hval
  obtain ⟨v0, vs0, d0, ds0, p0, q0, hargs, rfl, rfl, h0, r0⟩ := trodAll_cons hA
  obtain ⟨rfl, rfl, rfl⟩ := trodAll_nil r0
  obtain rfl : args = #[v0] := by cases args; simp_all
  obtain ⟨rfl, rfl⟩ := trodVars_none hV
  have k0 := h0
  have lt0 : ∀ x ∈ p0, x.block < W.heap.size := by obtain ⟨m, hm⟩ := k0; exact DataW.trod_lt m _ _ _ hm
  obtain ⟨a0, len0, cap0, rfl⟩ := okWide_slice Try.underlying22 (hval 0 22 v0 rfl rfl)
  obtain ⟨z0, hl0, hc0, hr0, hb0, hm0⟩ : ∃ z : List Int, len0 = z.length ∧ len0 ≤ cap0 ∧ Reads W W.heap.size 1 a0 len0 (cellsB z) ∧ (∀ b ∈ z, 0 ≤ b ∧ b ≤ 255) ∧ cap0 ≤ maxLen := by
    obtain ⟨fuel, hf⟩ := h0
    exact open_bytes Try.underlying22 Try.underlying5 (by kernel_rfl) (by simpa [Value.cells] using hf)
  subst hl0
  clear hA0 hval0
  refine (walk a0 cap0 z0 W hc0 hr0 hb0 hm0).mono fun e W' ⟨he, bel⟩ => ?_
  subst he
  exact ⟨_, rfl, _, _, _, [], _, [], hW', trodAll_mk1 (shut_bool Try.underlying4 _), (trodAll_cons_mk (Below.trod lawLaid (by kernel_rfl) (of_decide_eq_true (by kernel_rfl)) k0 bel lt0) trodAll_mk0), rfl, bel.frame _, fun h => by cases h⟩

theorem proved : Rows.FnContextsKeptSaid :=
  OpenClaim.holds_of_wide 4 Try.f4 rfl rfl rfl rfl rfl rfl rfl ⟨rfl, rfl, rfl, rfl, rfl⟩ rfl rfl rfl rfl rfl (by kernel_rfl) Try.func4 (by kernel_rfl)
    (of_decide_eq_true (by kernel_rfl)) (by unfold Func.isWrapper; rw [if_neg (of_decide_eq_false (by kernel_rfl))]; exact ⟨rfl, rfl⟩)
    (fun os started H enc _ => lifted os started H enc)
#print axioms proved
end Go.Proofs.Ytfcjhpgohcbcaaa.lawKept
