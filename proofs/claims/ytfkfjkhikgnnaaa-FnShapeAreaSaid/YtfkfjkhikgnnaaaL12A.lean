/-
  Whatever bytes are given: a shape has an area, and the same one from the next corner on. No condition.
-/
import Derived.Test.YtfkfjkhikgnnaaaEnt
import Derived.Test.YtfkfjkhikgnnaaaLif
import Derived.Test.YtfkfjkhikgnnaaaMak
import Derived.Test.YtfkfjkhikgnnaaaOpen
import Derived.Test.YtfkfjkhikgnnaaaIsh
import Derived.Test.YtfkfjkhikgnnaaaGe5
import Derived.Test.YtfkfjkhikgnnaaaSd3
import Derived.Test.YtfkfjkhikgnnaaaPt2
namespace Go.Proofs.Ytfkfjkhikgnnaaa.lawShapeArea
open Go.ChangeShapes Go.WideShapes Go.ChangeAt Go.RowKit

set_option maxHeartbeats 8000000 in
set_option maxRecDepth 100000 in
theorem walk_short (A : Option Addr) (c : Nat) (z : List Int) (w : World) (h : Bytes w A c z) (hn : z.length ≤ 1048576) :
    Calls Try.prog 3 #[.slice A z.length c] w fun e w2 => e = .returned (.bool true) ∧ Below w.heap.size w w2 := by
  have e0 : decide ((1048576 : Int) < (z.length : Int)) = false := decide_eq_false (by omega)
  go_enter Try.func3, Try.ntmps3
  go_wp2_with fail
  obtain ⟨i0, hi0, hz0, hz1, hz2⟩ := info_parts infoPoint
  refine (dShArea_any A c z _ h).mono ?_
  rintro e w2 ⟨v1, L, rfl, ⟨A2, c2, hv1, hc2, hr2⟩, hL, hb2⟩
  subst hv1
  obtain ⟨ar, har⟩ : ∃ ar, ar = areaS L := ⟨_, rfl⟩
  have HAR := Lib.hid har
  clear har
  have ear : (ar != ar) = false := by simp
  have ear2 : (ar == ar) = true := by simp
  go_wp2_with fail
  refine (iShArea_any _ _ L _ hr2 (by omega)).mono ?_
  rw [← HAR.out]
  rintro e w3 ⟨rfl, hb3⟩
  go_wp2_with fail
  refine (sShArea_any _ _ L _ (hr2.step hb3) (by omega)).mono ?_
  rw [← HAR.out]
  rintro e w4 ⟨rfl, hb4⟩
  have K4 := Lib.hid (And.intro (below_step (below_step hb2 hb3) hb4) (hr2.step (below_step hb3 hb4)))
  clear hb2 hb3 hb4 hr2 h
  cases hok : okSh L
  · have hneg : ar = -1 := by rw [HAR.out]; unfold areaS; rw [if_neg (by rw [hok]; decide)]
    have hng : decide (ar < 0) = true := decide_eq_true (by omega)
    clear hneg hok
    go_wp2_with fail
    go_ret
    exact ⟨rfl, K4.out.1⟩
  · obtain ⟨rok, rar, rpos⟩ := rot_ok hok
    have h3 := (okSh_parts hok).1.three
    rw [← HAR.out] at rar rpos
    have hng : decide (ar < 0) = false := decide_eq_false (by omega)
    have hps : decide (0 < ar) = true := decide_eq_true (by omega)
    obtain ⟨b, off, hA, hbb, hc⟩ := K4.out.2.corner (by omega)
    subst hA
    obtain ⟨f1, f2⟩ := hc 0 (by omega)
    rw [Nat.zero_mul, Nat.add_zero] at f1 f2
    obtain ⟨F, hF⟩ : ∃ F, F = ptG L 0 := ⟨_, rfl⟩
    rw [← hF] at f1 f2 rok rar
    obtain ⟨xs, hxs⟩ : ∃ xs, xs = L.drop 1 ++ [F] := ⟨_, rfl⟩
    rw [← hxs] at rok rar
    have hxl : xs.length = (L.length - 1) + 1 := by rw [hxs]; simp
    have hxb : xs.length ≤ 1000 := by omega
    have HXL := Lib.hid hxl
    have HXS := Lib.hid hxs
    have HX := Lib.hid rar
    have hne : ¬ c2 = 1 := by omega
    have hne2 : (c2 = 1) = False := eq_false hne
    have hl0 : (0 : Int) < (L.length : Int) := by omega
    have hl00 : 0 < L.length := by omega
    have hl1 : (1 : Int) ≤ (L.length : Int) := by omega
    have hc1 : (1 : Int) ≤ (c2 : Int) := by omega
    have HT : Hid (0 < L.length - 1 → (some ⟨b, off + 1 * 2, none⟩ : Option Addr) = (some ⟨b, off, none⟩ : Option Addr).map (·.add (1 * 2))) := by
      show 0 < L.length - 1 → _
      intro _
      simp [Option.map, Addr.add]
    have R4 := Lib.hid (K4.out.2.tailS (k := 1) (by omega) HT.out)
    clear hc hok rok rar hF hxs hxl HT
    go_wp2_with fail
    have aA : Below w4.heap.size w4 ((w4.drewN 1).alloc (.cells #[] 27)) := (below_draws (Below.refl _ _) 1).alloc (Nat.le_refl _) _
    have aB : Below w4.heap.size w4 (((w4.drewN 1).alloc (.cells #[] 27)).alloc (.cells #[.int .i64 F.lo, .int .i64 F.hi] 27)) := aA.alloc aA.size _
    have aC : Below w4.heap.size w4 (((w4.drewN 1).alloc (.cells #[.int .i64 F.lo, .int .i64 F.hi] 27)).alloc (.cells #[] 27)) := ((below_draws (Below.refl _ _) 1).alloc (Nat.le_refl _) (.cells #[.int .i64 F.lo, .int .i64 F.hi] 27)).alloc (by simp) _
    have oA : ((w4.drewN 1).alloc (.cells #[] 27)).ownsRow w4.heap.size 27 2 (.slice (some ⟨w4.heap.size, 0, none⟩) 0 0) 0 [] := own_empty (w := (w4.drewN 1)) (Nat.le_refl _) rfl
    have oB : (((w4.drewN 1).alloc (.cells #[] 27)).alloc (.cells #[.int .i64 F.lo, .int .i64 F.hi] 27)).ownsRow w4.heap.size 27 2 (.slice (some ⟨w4.heap.size, 0, none⟩) 0 0) 0 [] := oA.alloc _
    have oC : (((w4.drewN 1).alloc (.cells #[.int .i64 F.lo, .int .i64 F.hi] 27)).alloc (.cells #[] 27)).ownsRow w4.heap.size 27 2 (.slice (some ⟨w4.heap.size + 1, 0, none⟩) 0 0) 0 [] := own_empty (by simp) (by simp)
    have rA := (R4.out).below aA
    have rB := (R4.out).below aB
    have rC := (R4.out).below aC
    have nB : (((w4.drewN 1).alloc (.cells #[] 27)).alloc (.cells #[.int .i64 F.lo, .int .i64 F.hi] 27)).heap[w4.heap.size + 1]? = some (.cells #[.int .i64 F.lo, .int .i64 F.hi] 27 (0, 0)) := by
      have := heap_alloc_new ((w4.drewN 1).alloc (.cells #[] 27)) (.cells #[.int .i64 F.lo, .int .i64 F.hi] 27)
      simpa using this
    have nC : (((w4.drewN 1).alloc (.cells #[.int .i64 F.lo, .int .i64 F.hi] 27)).alloc (.cells #[] 27)).heap[w4.heap.size]? = some (.cells #[.int .i64 F.lo, .int .i64 F.hi] 27 (0, 0)) := (Below.heap_alloc _ _ _ (by simp)).trans (heap_alloc_new (w4.drewN 1) (.cells #[.int .i64 F.lo, .int .i64 F.hi] 27))
    have XA := Lib.hid (And.intro aA (And.intro oA (And.intro rA True.intro)))
    have XB := Lib.hid (And.intro aB (And.intro oB (And.intro rB nB)))
    have XC := Lib.hid (And.intro aC (And.intro oC (And.intro rC nC)))
    have HF0 := Lib.hid (And.intro hbb (And.intro f1 f2))
    clear aA aB aC oA oB oC rA rB rC nB nC
    go_region_held3 (fun w' => w'.cell? ⟨b, off, none⟩ = some (.int .i64 F.lo) ∧ w'.cell? ⟨b, off + 1, none⟩ = some (.int .i64 F.hi))
      (first
        | assumption
        | exact ⟨f1, f2⟩
        | exact ⟨s0, s1⟩
        | (refine ⟨?_, ?_⟩ <;> (first
            | assumption
            | (rw [World.cell?_alloc_lt _ _ _ (by first | omega | (simp; omega))]; first | assumption | (go_simp; done))
            | (go_simp; done))))
      (first
        | (refine step_append_want ((w4.drewN 1).alloc (.cells #[] 27)) (by rfl) (.tmp 26) (.tmp 28) _ (by rfl) w4.heap.size 27 i0 _ 2 16 Try.underlying23 hi0 hz0 hz1 hz2 rfl (by omega) (.slice (some ⟨w4.heap.size, 0, none⟩) 0 0) 0 [] (by rfl) XA.out.2.1 _ _ (L.length - 1) _ (cellsS (L.drop 1)) (by rfl) XA.out.2.2.1 (cellsS_one _) (by simp only [maxLen]; omega) (by omega) XA.out.1.size ?_
           intro v6 w6 o6 g6 t6
           have b6 : Below w4.heap.size w4 w6 := XA.out.1.grown g6 XA.out.1.size (fun j hj => by simp [Value.ownBlock] at hj; omega)
           skip
           have s0 := (below_cell b6 _ _ HF0.out.1).trans HF0.out.2.1
           have s1 := (below_cell b6 _ _ HF0.out.1).trans HF0.out.2.2
           have z6 := b6.size)
        | (refine step_append_want (((w4.drewN 1).alloc (.cells #[] 27)).alloc (.cells #[.int .i64 F.lo, .int .i64 F.hi] 27)) (by rfl) (.tmp 26) (.tmp 28) _ (by rfl) w4.heap.size 27 i0 _ 2 16 Try.underlying23 hi0 hz0 hz1 hz2 rfl (by omega) (.slice (some ⟨w4.heap.size, 0, none⟩) 0 0) 0 [] (by rfl) XB.out.2.1 _ _ (L.length - 1) _ (cellsS (L.drop 1)) (by rfl) XB.out.2.2.1 (cellsS_one _) (by simp only [maxLen]; omega) (by omega) XB.out.1.size ?_
           intro v6 w6 o6 g6 t6
           have b6 : Below w4.heap.size w4 w6 := XB.out.1.grown g6 XB.out.1.size (fun j hj => by simp [Value.ownBlock] at hj; omega)
           have hN := reads_newS XB.out.2.2.2 g6 (by simp [Value.ownBlock])
           have s0 := (below_cell b6 _ _ HF0.out.1).trans HF0.out.2.1
           have s1 := (below_cell b6 _ _ HF0.out.1).trans HF0.out.2.2
           have z6 := b6.size)
        | (refine step_append_want (((w4.drewN 1).alloc (.cells #[.int .i64 F.lo, .int .i64 F.hi] 27)).alloc (.cells #[] 27)) (by rfl) (.tmp 26) (.tmp 28) _ (by rfl) w4.heap.size 27 i0 _ 2 16 Try.underlying23 hi0 hz0 hz1 hz2 rfl (by omega) (.slice (some ⟨w4.heap.size + 1, 0, none⟩) 0 0) 0 [] (by rfl) XC.out.2.1 _ _ (L.length - 1) _ (cellsS (L.drop 1)) (by rfl) XC.out.2.2.1 (cellsS_one _) (by simp only [maxLen]; omega) (by omega) XC.out.1.size ?_
           intro v6 w6 o6 g6 t6
           have b6 : Below w4.heap.size w4 w6 := XC.out.1.grown g6 XC.out.1.size (fun j hj => by simp [Value.ownBlock] at hj; omega)
           have hN := reads_newS XC.out.2.2.2 g6 (by simp [Value.ownBlock])
           have s0 := (below_cell b6 _ _ HF0.out.1).trans HF0.out.2.1
           have s1 := (below_cell b6 _ _ HF0.out.1).trans HF0.out.2.2
           have z6 := b6.size)
        | (refine step_append_want (w6.alloc (.cells #[.int .i64 F.lo, .int .i64 F.hi] 27)) (by rfl) (.tmp 29) (.tmp 33) _ (by rfl) w4.heap.size 27 i0 _ 2 16 Try.underlying23 hi0 hz0 hz1 hz2 rfl (by omega) v6 (0 + (L.length - 1)) ([] ++ cellsS (L.drop 1)) (by rfl) (o6.alloc _) _ _ 1 _ (cellsS [F]) (by rfl) (readsS_one (B := w6.heap.size + 1) (by omega)) (cellsS_one _) (by simp only [maxLen]; omega) (by omega) (by simp; omega) ?_
           intro v7 w7 o7 g7 t7
           have b7 : Below w4.heap.size w4 w7 := (b6.alloc z6 _).trans (app_below0 (o6.alloc _) (Nat.le_refl _) (by simp; omega) g7)
           rw [List.nil_append, ← cellsS_append, ← HXS.out, show 0 + (L.length - 1) + 1 = xs.length from by have := HXL.out; omega] at o7
           obtain ⟨A7, c7, hv7, _, hr7⟩ := own_slice o7
           subst hv7
           have H7 := Lib.hid (And.intro b7 hr7)
           have s0 := (below_cell b7 _ _ HF0.out.1).trans HF0.out.2.1
           have s1 := (below_cell b7 _ _ HF0.out.1).trans HF0.out.2.2
           clear o7 b7 hr7)
        | (refine step_append_want w6 (by rfl) (.tmp 29) (.tmp 33) _ (by rfl) w4.heap.size 27 i0 _ 2 16 Try.underlying23 hi0 hz0 hz1 hz2 rfl (by omega) v6 (0 + (L.length - 1)) ([] ++ cellsS (L.drop 1)) (by rfl) o6 _ _ 1 _ (cellsS [F]) (by rfl) hN (cellsS_one _) (by simp only [maxLen]; omega) (by omega) z6 ?_
           intro v7 w7 o7 g7 t7
           have b7 : Below w4.heap.size w4 w7 := b6.trans (app_below0 o6 (Nat.le_refl _) z6 g7)
           rw [List.nil_append, ← cellsS_append, ← HXS.out, show 0 + (L.length - 1) + 1 = xs.length from by have := HXL.out; omega] at o7
           obtain ⟨A7, c7, hv7, _, hr7⟩ := own_slice o7
           subst hv7
           have H7 := Lib.hid (And.intro b7 hr7)
           have s0 := (below_cell b7 _ _ HF0.out.1).trans HF0.out.2.1
           have s1 := (below_cell b7 _ _ HF0.out.1).trans HF0.out.2.2
           clear o7 b7 hr7))
    all_goals
      go_wp2_with fail
      refine (iShArea_any _ _ xs _ H7.out.2 (by omega)).mono ?_
      rw [HX.out]
      rintro e w8 ⟨rfl, hb8⟩
      have KE := Lib.hid (below_step (below_step K4.out.1 H7.out.1) hb8)
      clear hb8
      go_wp2_with fail
      go_ret
      exact ⟨rfl, KE.out⟩
theorem walk (A : Option Addr) (c : Nat) (z : List Int) (w : World) (h1 : z.length ≤ c) (h2 : Reads w w.heap.size 1 A z.length (cellsB z)) (h3 : ∀ b ∈ z, 0 ≤ b ∧ b ≤ 255) (h4 : c ≤ maxLen) :
    Calls Try.prog 3 #[.slice A z.length c] w fun e w2 => e = .returned (.bool true) ∧ Below w.heap.size w w2 := by
  by_cases hn : z.length ≤ 1048576
  · exact walk_short A c z w (Bytes.mk_ h1 h2 h3 h4) hn
  · have e0 : decide ((1048576 : Int) < (z.length : Int)) = true := decide_eq_true (by omega)
    go_enter Try.func3, Try.ntmps3
    go_wp2_with fail
    go_ret
    exact ⟨rfl, Below.refl _ _⟩

set_option linter.unusedVariables false
set_option maxRecDepth 100000 in
theorem lifted (os : Os) (started : os.Started) (H : Type) (enc : TypeId × Value → H) :
    ReturnsInHanded {} Try.checked os 3 .any (Rows.fnShapeAreaSpec.pre6 enc Try.prog Try.f3 Rows.fnShapeAreaRow.domain false) (Rows.fnShapeAreaSpec.post enc Try.prog Try.f3 false true false false) := by
  refine returnsInHanded_of_change (C := Try.checked) lawOwn started (by kernel_rfl) Try.func3
    (ChangeSpec.witness6 (enc := enc) (C := Try.checked) false ⟨#[], #[.slice none 0 0], []⟩ 8 (by kernel_rfl) (by kernel_rfl) (by kernel_rfl) (by kernel_rfl)) ?_
  intro W base args ds gs before hval0 hW hcnd _
  have hval : ∀ (j : Nat) t v, Try.f3.params[j]? = some t → args[j]? = some v → Value.okWide Try.prog W .any base t v := hval0
  have hW' := hW
  obtain ⟨p, q, hA0, hV, rfl, hfz, hnd⟩ := hW
  have hA : DataW.TrodAll enc Try.prog W 0 (fun _ => true) true Try.f3.params.toList args.toList ds p := hA0
  rw [Try.params3] at hA hval
  obtain ⟨v0, vs0, d0, ds0, p0, q0, hargs, rfl, rfl, h0, r0⟩ := trodAll_cons hA
  obtain ⟨rfl, rfl, rfl⟩ := trodAll_nil r0
  obtain rfl : args = #[v0] := by cases args; simp_all
  obtain ⟨rfl, rfl⟩ := trodVars_none hV
  have k0 := h0
  have lt0 : ∀ x ∈ p0, x.block < W.heap.size := by obtain ⟨m, hm⟩ := k0; exact DataW.trod_lt m _ _ _ hm
  obtain ⟨a0, len0, cap0, rfl⟩ := okWide_slice Try.underlying22 (hval 0 22 v0 rfl rfl)
  obtain ⟨z0, hl0, hc0, hr0, hb0, hm0⟩ : ∃ z : List Int, len0 = z.length ∧ len0 ≤ cap0 ∧ Reads W W.heap.size 1 a0 len0 (cellsB z) ∧ (∀ b ∈ z, 0 ≤ b ∧ b ≤ 255) ∧ cap0 ≤ maxLen := by
    obtain ⟨fuel, hf⟩ := h0
    exact open_bytes Try.underlying22 Try.underlying5 (by kernel_rfl) (by simpa [Value.cells] using hf)
  subst hl0
  clear hA0 hval0
  refine (walk a0 cap0 z0 W hc0 hr0 hb0 hm0).mono fun e W' ⟨he, bel⟩ => ?_
  subst he
  exact ⟨_, rfl, _, _, _, [], _, [], hW', trodAll_mk1 (shut_bool Try.underlying4 _), (trodAll_cons_mk (Below.trod lawLaid (by kernel_rfl) (of_decide_eq_true (by kernel_rfl)) k0 bel lt0) trodAll_mk0), rfl, bel.frame _, fun h => by cases h⟩

theorem closed : joinedFacts Try.checked.prog 3 Try.f3 Rows.fnShapeAreaSpec Rows.fnShapeAreaRow = true := by
  unfold joinedFacts
  repeat (refine and_t ?_ (by first | (with_reducible exact ent) | (with_reducible refine lif_c ?_; kernel_rfl) | (with_reducible refine mak_c ?_; kernel_rfl) | kernel_rfl))
  kernel_rfl
theorem proved : Rows.FnShapeAreaSaid :=
  OpenClaim.holds_of_wide 3 Try.f3 rfl rfl rfl rfl rfl rfl rfl ⟨rfl, rfl, rfl, rfl, rfl⟩ rfl rfl rfl rfl rfl (by kernel_rfl) Try.func3 closed
    (of_decide_eq_true (by kernel_rfl)) (by unfold Func.isWrapper; rw [if_neg (of_decide_eq_false (by kernel_rfl))]; exact ⟨rfl, rfl⟩)
    (fun os started H enc _ => lifted os started H enc)
#print axioms proved
end Go.Proofs.Ytfkfjkhikgnnaaa.lawShapeArea
