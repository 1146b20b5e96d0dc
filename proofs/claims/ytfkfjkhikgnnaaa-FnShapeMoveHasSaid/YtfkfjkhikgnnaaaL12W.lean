/-
  Whatever bytes are given: a corner and the box move with the shape. No condition.
-/
import Derived.Test.YtfkfjkhikgnnaaaEnt
import Derived.Test.YtfkfjkhikgnnaaaLif
import Derived.Test.YtfkfjkhikgnnaaaMak
import Derived.Test.YtfkfjkhikgnnaaaOpen
import Derived.Test.YtfkfjkhikgnnaaaIsh
import Derived.Test.YtfkfjkhikgnnaaaGe5
import Derived.Test.YtfkfjkhikgnnaaaSd3
import Derived.Test.YtfkfjkhikgnnaaaToP
namespace Go.Proofs.Ytfkfjkhikgnnaaa.lawShapeMoveHas
open Go.ChangeShapes Go.WideShapes Go.ChangeAt Go.RowKit

set_option maxHeartbeats 8000000 in
set_option maxRecDepth 100000 in
theorem walk_short (A : Option Addr) (c : Nat) (z : List Int) (w : World) (h : Bytes w A c z) (hn : z.length ≤ 1048576) :
    Calls Try.prog 10 #[.slice A z.length c] w fun e w2 => e = .returned (.bool true) ∧ Below w.heap.size w w2 := by
  have e0 : decide ((1048576 : Int) < (z.length : Int)) = false := decide_eq_false (by omega)
  go_enter Try.func10, Try.ntmps10
  go_wp2_with fail
  refine (dShMove_any A c z _ h).mono ?_
  rintro e w2 ⟨v1, L, x, y, rfl, ⟨⟨A2, c2, hv1, hc2, hr2⟩, hL, hb2⟩, hx1, hx2, hy1, hy2⟩
  subst hv1
  obtain ⟨M, hM⟩ : ∃ M, M = moveG L x y := ⟨_, rfl⟩
  obtain ⟨ok, hok⟩ : ∃ ok, ok = moveOk L x y := ⟨_, rfl⟩
  have hML : M.length ≤ L.length := by
    rw [hM]
    unfold moveG
    split
    · rw [moveL_len]; omega
    · simp
  have eok : (ok != ok) = false := by simp
  have eok2 : (ok == ok) = true := by simp
  have HM := Lib.hid (And.intro hM hok)
  clear hM hok
  have hq := eqLS_self M
  go_wp2_with fail
  refine (iShMove_any _ _ L x y _ hr2 (by omega)).mono ?_
  rw [← HM.out.1, ← HM.out.2]
  rintro e w3 ⟨v3, rfl, hb3, ho3⟩
  obtain ⟨A3, c3, hv3, _, hr3⟩ := own_slice ho3
  subst hv3
  go_wp2_with fail
  refine (sShMove_any _ _ L x y _ (hr2.step hb3) (by omega)).mono ?_
  rw [← HM.out.1, ← HM.out.2]
  rintro e w4 ⟨v4, rfl, hb4, ho4⟩
  obtain ⟨A4, c4, hv4, _, hr4⟩ := own_slice ho4
  subst hv4
  have K4 := Lib.hid (And.intro (below_step (below_step hb2 hb3) hb4) (And.intro (hr2.step (below_step hb3 hb4)) (And.intro (hr3.step hb4) hr4)))
  clear hb2 hb3 hb4 hr2 hr3 hr4 ho3 ho4 h
  go_wp2_with fail
  refine (samePoint_any _ _ _ _ M M _ K4.out.2.2.1 K4.out.2.2.2 (by omega)).mono ?_
  rintro e w5 ⟨rfl, hb5⟩
  have K5 := Lib.hid (And.intro (below_step K4.out.1 hb5) (And.intro (K4.out.2.1.step hb5) (And.intro (K4.out.2.2.1.step hb5) (K4.out.2.2.2.step hb5))))
  clear hb5 K4
  cases hv : ok
  · subst hv
    go_wp2_with fail
    refine (samePoint_any _ _ _ _ M M _ K5.out.2.2.1 K5.out.2.2.2 (by omega)).mono ?_
    rintro e w6 ⟨rfl, hb6⟩
    have KE := Lib.hid (below_step K5.out.1 hb6)
    clear hb6
    go_wp2_with fail
    go_ret
    exact ⟨rfl, KE.out⟩
  · subst hv
    have hmo : moveOk L x y = true := HM.out.2.symm
    have hMe : M = moveL L x y := by rw [HM.out.1]; unfold moveG; rw [if_pos hmo]
    have hpa := moveOk_parts hmo
    have h3 := (okSh_parts hpa.1).1.three
    have hhas := has_moved hmo (L.length - 1)
    obtain ⟨bm1, bm2⟩ := box_move hmo
    have hal : boxA L = boxLo L := by unfold boxA; rw [if_pos hpa.1]
    have hbl : boxB L = boxHi L := by unfold boxB; rw [if_pos hpa.1]
    have ham : boxA M = boxLo M := by rw [hMe]; unfold boxA; rw [if_pos hpa.2.2.2]
    have hbm : boxB M = boxHi M := by rw [hMe]; unfold boxB; rw [if_pos hpa.2.2.2]
    have hoM : okSh M = true := by rw [hMe]; exact hpa.2.2.2
    have rg := box_range hpa.1
    have rp := inP_iff.1 (inP_pt hpa.1 (L.length - 1))
    rw [← hMe] at bm1 bm2 hhas
    rw [bm1] at ham
    rw [bm2] at hbm
    have rb := box_in hpa.1 0
    obtain ⟨k, hk⟩ : ∃ k, k = L.length - 1 := ⟨_, rfl⟩
    rw [← hk] at hhas rp
    obtain ⟨p, hp⟩ : ∃ p, p = ptG L k := ⟨_, rfl⟩
    obtain ⟨a, ha⟩ : ∃ a, a = boxLo L := ⟨_, rfl⟩
    obtain ⟨b, hb⟩ : ∃ b, b = boxHi L := ⟨_, rfl⟩
    rw [← hp] at hhas rp
    rw [← ha] at hal ham rg rb
    rw [← hb] at hbl hbm rg rb
    obtain ⟨cx, hcx⟩ : ∃ u, a.lo + x = u := ⟨_, rfl⟩
    obtain ⟨cy, hcy⟩ : ∃ u, a.hi + y = u := ⟨_, rfl⟩
    obtain ⟨dx, hdx⟩ : ∃ u, b.lo + x = u := ⟨_, rfl⟩
    obtain ⟨dy, hdy⟩ : ∃ u, b.hi + y = u := ⟨_, rfl⟩
    obtain ⟨px, hpx⟩ : ∃ u, p.lo + x = u := ⟨_, rfl⟩
    obtain ⟨py, hpy⟩ : ∃ u, p.hi + y = u := ⟨_, rfl⟩
    rw [hcx, hcy] at ham
    rw [hdx, hdy] at hbm
    rw [hpx, hpy] at hhas
    have w1 : IntKind.i64.wrap cx = cx := by rw [IntKind.wrap_i64]; omega
    have w2' : IntKind.i64.wrap cy = cy := by rw [IntKind.wrap_i64]; omega
    have w3' : IntKind.i64.wrap dx = dx := by rw [IntKind.wrap_i64]; omega
    have w4' : IntKind.i64.wrap dy = dy := by rw [IntKind.wrap_i64]; omega
    have w5' : IntKind.i64.wrap px = px := by rw [IntKind.wrap_i64]; omega
    have w6' : IntKind.i64.wrap py = py := by rw [IntKind.wrap_i64]; omega
    have hkl : k < L.length := by omega
    have hki : (L.length : Int) - 1 = (k : Int) := by omega
    have hkii : (k : Int) < (L.length : Int) := by omega
    have hk0 : (0 : Int) ≤ (k : Int) := by omega
    obtain ⟨g, off, hA, hbb, hc⟩ := K5.out.2.1.corner (by omega)
    subst hA
    obtain ⟨d1, d2⟩ := hc k hkl
    rw [← hp] at d1 d2
    have jP : Below w5.heap.size w5 (w5.alloc (.cells #[.int .i64 p.lo, .int .i64 p.hi] 27)) := (Below.refl _ _).alloc (Nat.le_refl _) _
    have HX := Lib.hid (And.intro (show okSh L = true from hpa.1) (And.intro hal (And.intro hbl (And.intro hoM (And.intro ham (And.intro hbm (And.intro hhas (And.intro jP (PtAt.new w5 p)))))))))
    clear hpa hal hbl hoM ham hbm hhas hc jP hMe bm1 bm2 ha hb hk hp hmo
    go_wp2_with fail
    generalize w5.alloc (.cells #[.int .i64 p.lo, .int .i64 p.hi] 27) = V5 at HX ⊢
    refine (iShBox_any _ _ L _ (K5.out.2.1.step HX.out.2.2.2.2.2.2.2.1) (by omega)).mono ?_
    rw [HX.out.1, HX.out.2.1, HX.out.2.2.1]
    rintro e w6 ⟨rfl, hb6⟩
    obtain ⟨j6, pa, pb⟩ := pts_two w6 a b
    have K6 := Lib.hid (And.intro (below_step (below_step (below_step K5.out.1 HX.out.2.2.2.2.2.2.2.1) hb6) j6) (And.intro ((K5.out.2.2.1.step (below_step HX.out.2.2.2.2.2.2.2.1 hb6)).step j6) (And.intro ((HX.out.2.2.2.2.2.2.2.2.step hb6).step j6) (And.intro pa pb))))
    clear j6 pa pb hb6
    go_wp2_with fail
    generalize (w6.alloc (.cells #[.int .i64 a.lo, .int .i64 a.hi] 27)).alloc (.cells #[.int .i64 b.lo, .int .i64 b.hi] 27) = V6 at K6 ⊢
    refine (iShBox_any _ _ M _ K6.out.2.1 (by omega)).mono ?_
    rw [HX.out.2.2.2.1, HX.out.2.2.2.2.1, HX.out.2.2.2.2.2.1]
    rintro e w7 ⟨rfl, hb7⟩
    obtain ⟨j7, pc, pd⟩ := pts_two w7 ⟨cx, cy⟩ ⟨dx, dy⟩
    have K7 := Lib.hid (And.intro (below_step (below_step K6.out.1 hb7) j7) (And.intro ((K6.out.2.1.step hb7).step j7) (And.intro ((K6.out.2.2.1.step hb7).step j7) (And.intro ((K6.out.2.2.2.1.step hb7).step j7) (And.intro ((K6.out.2.2.2.2.step hb7).step j7) (And.intro pc pd))))))
    clear j7 pc pd hb7
    obtain ⟨p1, p2⟩ := K7.out.2.2.1.cells
    obtain ⟨a1, a2⟩ := K7.out.2.2.2.1.cells
    obtain ⟨b1, b2⟩ := K7.out.2.2.2.2.1.cells
    obtain ⟨c1', c2'⟩ := K7.out.2.2.2.2.2.1.cells
    obtain ⟨d1', d2'⟩ := K7.out.2.2.2.2.2.2.cells
    go_wp2_with fail
    generalize (w7.alloc (.cells #[.int .i64 cx, .int .i64 cy] 27)).alloc (.cells #[.int .i64 dx, .int .i64 dy] 27) = V7 at K7 ⊢
    refine (iShHas_any _ _ M ⟨px, py⟩ _ K7.out.2.1 (by omega)).mono ?_
    rw [HX.out.2.2.2.2.2.2.1]
    rintro e w8 ⟨rfl, hb8⟩
    obtain ⟨a1, a2⟩ := (K7.out.2.2.2.1.step hb8).cells
    obtain ⟨b1, b2⟩ := (K7.out.2.2.2.2.1.step hb8).cells
    obtain ⟨c1', c2'⟩ := (K7.out.2.2.2.2.2.1.step hb8).cells
    obtain ⟨d1', d2'⟩ := (K7.out.2.2.2.2.2.2.step hb8).cells
    have KE := Lib.hid (below_step K7.out.1 hb8)
    clear hb8
    go_wp2_with fail
    go_ret
    exact ⟨rfl, KE.out⟩
theorem walk (A : Option Addr) (c : Nat) (z : List Int) (w : World) (h1 : z.length ≤ c) (h2 : Reads w w.heap.size 1 A z.length (cellsB z)) (h3 : ∀ b ∈ z, 0 ≤ b ∧ b ≤ 255) (h4 : c ≤ maxLen) :
    Calls Try.prog 10 #[.slice A z.length c] w fun e w2 => e = .returned (.bool true) ∧ Below w.heap.size w w2 := by
  by_cases hn : z.length ≤ 1048576
  · exact walk_short A c z w (Bytes.mk_ h1 h2 h3 h4) hn
  · have e0 : decide ((1048576 : Int) < (z.length : Int)) = true := decide_eq_true (by omega)
    go_enter Try.func10, Try.ntmps10
    go_wp2_with fail
    go_ret
    exact ⟨rfl, Below.refl _ _⟩

set_option linter.unusedVariables false
set_option maxRecDepth 100000 in
theorem lifted (os : Os) (started : os.Started) (H : Type) (enc : TypeId × Value → H) :
    ReturnsInHanded {} Try.checked os 10 .any (Rows.fnShapeMoveHasSpec.pre6 enc Try.prog Try.f10 Rows.fnShapeMoveHasRow.domain false) (Rows.fnShapeMoveHasSpec.post enc Try.prog Try.f10 false true false false) := by
  refine returnsInHanded_of_change (C := Try.checked) lawOwn started (by kernel_rfl) Try.func10
    (ChangeSpec.witness6 (enc := enc) (C := Try.checked) false ⟨#[], #[.slice none 0 0], []⟩ 8 (by kernel_rfl) (by kernel_rfl) (by kernel_rfl) (by kernel_rfl)) ?_
  intro W base args ds gs before hval0 hW hcnd _
  have hval : ∀ (j : Nat) t v, Try.f10.params[j]? = some t → args[j]? = some v → Value.okWide Try.prog W .any base t v := hval0
  have hW' := hW
  obtain ⟨p, q, hA0, hV, rfl, hfz, hnd⟩ := hW
  have hA : DataW.TrodAll enc Try.prog W 0 (fun _ => true) true Try.f10.params.toList args.toList ds p := hA0
  rw [Try.params10] at hA hval
  obtain ⟨v0, vs0, d0, ds0, p0, q0, hargs, rfl, rfl, h0, r0⟩ := trodAll_cons hA
  obtain ⟨rfl, rfl, rfl⟩ := trodAll_nil r0
  obtain rfl : args = #[v0] := by cases args; simp_all
  obtain ⟨rfl, rfl⟩ := trodVars_none hV
  have k0 := h0
  have lt0 : ∀ x ∈ p0, x.block < W.heap.size := by obtain ⟨m, hm⟩ := k0; exact DataW.trod_lt m _ _ _ hm
  obtain ⟨a0, len0, cap0, rfl⟩ := okWide_slice Try.underlying22 (hval 0 22 v0 rfl rfl)
  obtain ⟨z0, hl0, hc0, hr0, hb0, hm0⟩ : ∃ z : List Int, len0 = z.length ∧ len0 ≤ cap0 ∧ Reads W W.heap.size 1 a0 len0 (cellsB z) ∧ (∀ b ∈ z, 0 ≤ b ∧ b ≤ 255) ∧ cap0 ≤ maxLen := by
    obtain ⟨fuel, hf⟩ := h0
    exact open_bytes Try.underlying22 Try.underlying5 (by kernel_rfl) (by simpa [Value.cells] using hf)
  subst hl0
  clear hA0 hval0
  refine (walk a0 cap0 z0 W hc0 hr0 hb0 hm0).mono fun e W' ⟨he, bel⟩ => ?_
  subst he
  exact ⟨_, rfl, _, _, _, [], _, [], hW', trodAll_mk1 (shut_bool Try.underlying4 _), (trodAll_cons_mk (Below.trod lawLaid (by kernel_rfl) (of_decide_eq_true (by kernel_rfl)) k0 bel lt0) trodAll_mk0), rfl, bel.frame _, fun h => by cases h⟩

theorem closed : joinedFacts Try.checked.prog 10 Try.f10 Rows.fnShapeMoveHasSpec Rows.fnShapeMoveHasRow = true := by
  unfold joinedFacts
  repeat (refine and_t ?_ (by first | (with_reducible exact ent) | (with_reducible refine lif_c ?_; kernel_rfl) | (with_reducible refine mak_c ?_; kernel_rfl) | kernel_rfl))
  kernel_rfl
theorem proved : Rows.FnShapeMoveHasSaid :=
  OpenClaim.holds_of_wide 10 Try.f10 rfl rfl rfl rfl rfl rfl rfl ⟨rfl, rfl, rfl, rfl, rfl⟩ rfl rfl rfl rfl rfl (by kernel_rfl) Try.func10 closed
    (of_decide_eq_true (by kernel_rfl)) (by unfold Func.isWrapper; rw [if_neg (of_decide_eq_false (by kernel_rfl))]; exact ⟨rfl, rfl⟩)
    (fun os started H enc _ => lifted os started H enc)
#print axioms proved
end Go.Proofs.Ytfkfjkhikgnnaaa.lawShapeMoveHas
