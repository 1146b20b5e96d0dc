/-
  Whatever bytes are given: the middle of a point of a shape and a corner of it is in the shape. No condition.
-/
import Derived.Test.YtfkfjkhikgnnaaaEnt
import Derived.Test.YtfkfjkhikgnnaaaLif
import Derived.Test.YtfkfjkhikgnnaaaMak
import Derived.Test.YtfkfjkhikgnnaaaOpen
import Derived.Test.YtfkfjkhikgnnaaaIsh
import Derived.Test.YtfkfjkhikgnnaaaGe5
import Derived.Test.YtfkfjkhikgnnaaaSd4
import Derived.Test.YtfkfjkhikgnnaaaToP
namespace Go.Proofs.Ytfkfjkhikgnnaaa.lawShapeMiddle
open Go.ChangeShapes Go.WideShapes Go.ChangeAt Go.RowKit

set_option maxHeartbeats 8000000 in
set_option maxRecDepth 100000 in
theorem walk_short (A : Option Addr) (c : Nat) (z : List Int) (A1 : Option Addr) (c1 : Nat) (z1 : List Int) (w : World) (h : Bytes w A c z) (hn : z.length ≤ 1048576) (hn1 : z1.length ≤ 1048576) :
    Calls Try.prog 6 #[.slice A z.length c, .slice A1 z1.length c1] w fun e w2 => e = .returned (.bool true) ∧ Below w.heap.size w w2 := by
  have e0 : decide ((1048576 : Int) < (z.length : Int)) = false := decide_eq_false (by omega)
  have e01 : decide ((1048576 : Int) < (z1.length : Int)) = false := decide_eq_false (by omega)
  go_enter Try.func6, Try.ntmps6
  go_wp2_with fail
  refine (dShHas_any A c z _ h).mono ?_
  rintro e w2 ⟨v1, L, p, rfl, ⟨A2, c2, hv1, hc2, hr2⟩, hL, hb2⟩
  subst hv1
  have j2 := (Below.refl w2.heap.size w2).alloc (Nat.le_refl _) (.cells #[.int .i64 p.lo, .int .i64 p.hi] 27)
  have hp2 := PtAt.new w2 p
  obtain ⟨p0, p1⟩ := hp2.cells
  obtain ⟨ok, hok⟩ : ∃ ok, ok = hasS L p := ⟨_, rfl⟩
  have HOK := Lib.hid hok
  have HP2 := Lib.hid hp2
  clear hok hp2
  go_wp2_with fail
  generalize w2.alloc (.cells #[.int .i64 p.lo, .int .i64 p.hi] 27) = V2 at j2 HP2 p0 p1 ⊢
  refine (iShHas_any _ _ L p _ (hr2.step j2) (by omega)).mono ?_
  rw [← HOK.out]
  rintro e w3 ⟨rfl, hb3⟩
  have hp3 := HP2.out.step hb3
  obtain ⟨p0, p1⟩ := hp3.cells
  have HP3 := Lib.hid hp3
  clear hp3
  go_wp2_with fail
  refine (sShHas_any _ _ L p _ (hr2.step (below_step j2 hb3)) (by omega)).mono ?_
  rw [← HOK.out]
  rintro e w4 ⟨rfl, hb4⟩
  have K4 := Lib.hid (And.intro (below_step hb2 (below_step (below_step j2 hb3) hb4)) (And.intro (hr2.step (below_step (below_step j2 hb3) hb4)) (HP3.out.step hb4)))
  have hs2 : w2.heap.size < w4.heap.size := (HP3.out.step hb4).lt
  clear hb2 j2 hb3 hb4 hr2 h p0 p1 HP2 HP3
  cases hv : ok
  · go_wp2_with fail
    go_ret
    exact ⟨rfl, K4.out.1⟩
  · subst hv
    have hh := HOK.out.symm
    have hbo : okSh L = true := (hasS_parts hh).1
    have hip := inP_iff.1 (hasS_parts hh).2.1
    have h3 := (okSh_parts hbo).1.three
    have hpos : 0 < L.length := by omega
    have hpi : (0 : Int) < (L.length : Int) := by omega
    have e1 : ((L.length : Int) == 0) = false := by rw [beq_eq_false_iff_ne]; omega
    obtain ⟨k, hke⟩ : ∃ k : Nat, k = z1.length % L.length := ⟨_, rfl⟩
    have hkl : k < L.length := by rw [hke]; exact Nat.mod_lt _ hpos
    have hki : (z1.length : Int) % (L.length : Int) = (k : Int) := by rw [hke]; rfl
    have hkii : (k : Int) < (L.length : Int) := by omega
    have hk0 : (0 : Int) ≤ (k : Int) := by omega
    obtain ⟨q, hq⟩ : ∃ q, q = ptG L k := ⟨_, rfl⟩
    have hiq : (0 ≤ q.lo ∧ q.lo ≤ 99) ∧ 0 ≤ q.hi ∧ q.hi ≤ 99 := by rw [hq]; exact inP_iff.1 (inP_pt hbo k)
    obtain ⟨b, off, hA, hbb, hc⟩ := K4.out.2.1.corner hpos
    subst hA
    obtain ⟨d0, d1⟩ := hc k hkl
    rw [← hq] at d0 d1
    obtain ⟨sx, hsx⟩ : ∃ sx, p.lo + q.lo = sx := ⟨_, rfl⟩
    obtain ⟨sy, hsy⟩ : ∃ sy, p.hi + q.hi = sy := ⟨_, rfl⟩
    have hsx0 : 0 ≤ sx := by omega
    have hsy0 : 0 ≤ sy := by omega
    have hsxw : IntKind.i64.wrap sx = sx := by rw [IntKind.wrap_i64]; omega
    have hsyw : IntKind.i64.wrap sy = sy := by rw [IntKind.wrap_i64]; omega
    have HX := Lib.hid (And.intro hh (And.intro hq (And.intro hbo hsx0)))
    obtain ⟨p0, p1⟩ := K4.out.2.2.cells
    clear hc hh hq hke h3 hbo hpos
    have odd : Below w4.heap.size w4 (w4.alloc (.cells #[.int .i64 q.lo, .int .i64 q.hi] 27)) := (Below.refl _ _).alloc (Nat.le_refl _) _
    have HODD := Lib.hid odd
    clear odd
    obtain ⟨rx, hrx⟩ : ∃ rx, sx % 2 = rx := ⟨_, rfl⟩
    obtain ⟨ry, hry⟩ : ∃ ry, sy % 2 = ry := ⟨_, rfl⟩
    by_cases hx2 : rx = 0
    · subst hx2
      by_cases hy2 : ry = 0
      · subst hy2
        obtain ⟨mx, hmx⟩ : ∃ mx, sx / 2 = mx := ⟨_, rfl⟩
        obtain ⟨my, hmy⟩ : ∃ my, sy / 2 = my := ⟨_, rfl⟩
        have hmid : hasS L ⟨mx, my⟩ = true := has_mid (k := k) HX.out.1 (by rw [← HX.out.2.1]; show 2 * mx = p.lo + q.lo; omega) (by rw [← HX.out.2.1]; show 2 * my = p.hi + q.hi; omega)
        have HM := Lib.hid hmid
        clear hmid
        go_wp2_with fail
        refine (iShHas_any _ _ L ⟨mx, my⟩ _ (K4.out.2.1.step HODD.out) (by omega)).mono ?_
        rw [HM.out]
        rintro e w5 ⟨rfl, hb5⟩
        have KE := Lib.hid (below_step (below_step K4.out.1 HODD.out) hb5)
        clear hb5
        go_wp2_with fail
        go_ret
        exact ⟨rfl, KE.out⟩
      · have e2 : (ry != 0) = true := by rw [bne_iff_ne]; exact hy2
        go_wp2_with fail
        go_ret
        exact ⟨rfl, below_step K4.out.1 HODD.out⟩
    · have e2 : (rx != 0) = true := by rw [bne_iff_ne]; exact hx2
      go_wp2_with fail
      go_ret
      exact ⟨rfl, below_step K4.out.1 HODD.out⟩
theorem walk (A : Option Addr) (c : Nat) (z : List Int) (A1 : Option Addr) (c1 : Nat) (z1 : List Int) (w : World) (h1 : z.length ≤ c) (h2 : Reads w w.heap.size 1 A z.length (cellsB z)) (h3 : ∀ b ∈ z, 0 ≤ b ∧ b ≤ 255) (h4 : c ≤ maxLen) (_ : z1.length ≤ c1) (_ : Reads w w.heap.size 1 A1 z1.length (cellsB z1)) (_ : ∀ b ∈ z1, 0 ≤ b ∧ b ≤ 255) (_ : c1 ≤ maxLen) :
    Calls Try.prog 6 #[.slice A z.length c, .slice A1 z1.length c1] w fun e w2 => e = .returned (.bool true) ∧ Below w.heap.size w w2 := by
  by_cases hn : z.length ≤ 1048576
  · by_cases hn1 : z1.length ≤ 1048576
    · exact walk_short A c z A1 c1 z1 w (Bytes.mk_ h1 h2 h3 h4) hn hn1
    · have e0 : decide ((1048576 : Int) < (z.length : Int)) = false := decide_eq_false (by omega)
      have e01 : decide ((1048576 : Int) < (z1.length : Int)) = true := decide_eq_true (by omega)
      go_enter Try.func6, Try.ntmps6
      go_wp2_with fail
      go_ret
      exact ⟨rfl, Below.refl _ _⟩
  · have e0 : decide ((1048576 : Int) < (z.length : Int)) = true := decide_eq_true (by omega)
    go_enter Try.func6, Try.ntmps6
    go_wp2_with fail
    go_ret
    exact ⟨rfl, Below.refl _ _⟩

set_option linter.unusedVariables false
set_option maxRecDepth 100000 in
theorem lifted (os : Os) (started : os.Started) (H : Type) (enc : TypeId × Value → H) :
    ReturnsInHanded {} Try.checked os 6 .any (Rows.fnShapeMiddleSpec.pre6 enc Try.prog Try.f6 Rows.fnShapeMiddleRow.domain false) (Rows.fnShapeMiddleSpec.post enc Try.prog Try.f6 false true false false) := by
  refine returnsInHanded_of_change (C := Try.checked) lawOwn started (by kernel_rfl) Try.func6
    (ChangeSpec.witness6 (enc := enc) (C := Try.checked) false ⟨#[], #[.slice none 0 0, .slice none 0 0], []⟩ 8 (by kernel_rfl) (by kernel_rfl) (by kernel_rfl) (by kernel_rfl)) ?_
  intro W base args ds gs before hval0 hW hcnd _
  have hval : ∀ (j : Nat) t v, Try.f6.params[j]? = some t → args[j]? = some v → Value.okWide Try.prog W .any base t v := hval0
  have hW' := hW
  obtain ⟨p, q, hA0, hV, rfl, hfz, hnd⟩ := hW
  have hA : DataW.TrodAll enc Try.prog W 0 (fun _ => true) true Try.f6.params.toList args.toList ds p := hA0
  rw [Try.params6] at hA hval
  obtain ⟨v0, vs0, d0, ds0, p0, q0, hargs, rfl, rfl, h0, r0⟩ := trodAll_cons hA
  obtain ⟨v1, vs1, d1, ds1, p1, q1, rfl, rfl, rfl, h1, r1⟩ := trodAll_cons r0
  obtain ⟨rfl, rfl, rfl⟩ := trodAll_nil r1
  obtain rfl : args = #[v0, v1] := by cases args; simp_all
  obtain ⟨rfl, rfl⟩ := trodVars_none hV
  have k0 := h0
  have lt0 : ∀ x ∈ p0, x.block < W.heap.size := by obtain ⟨m, hm⟩ := k0; exact DataW.trod_lt m _ _ _ hm
  obtain ⟨a0, len0, cap0, rfl⟩ := okWide_slice Try.underlying22 (hval 0 22 v0 rfl rfl)
  obtain ⟨z0, hl0, hc0, hr0, hb0, hm0⟩ : ∃ z : List Int, len0 = z.length ∧ len0 ≤ cap0 ∧ Reads W W.heap.size 1 a0 len0 (cellsB z) ∧ (∀ b ∈ z, 0 ≤ b ∧ b ≤ 255) ∧ cap0 ≤ maxLen := by
    obtain ⟨fuel, hf⟩ := h0
    exact open_bytes Try.underlying22 Try.underlying5 (by kernel_rfl) (by simpa [Value.cells] using hf)
  subst hl0
  have k1 := h1
  have lt1 : ∀ x ∈ p1, x.block < W.heap.size := by obtain ⟨m, hm⟩ := k1; exact DataW.trod_lt m _ _ _ hm
  obtain ⟨a1, len1, cap1, rfl⟩ := okWide_slice Try.underlying22 (hval 1 22 v1 rfl rfl)
  obtain ⟨z1, hl1, hc1, hr1, hb1, hm1⟩ : ∃ z : List Int, len1 = z.length ∧ len1 ≤ cap1 ∧ Reads W W.heap.size 1 a1 len1 (cellsB z) ∧ (∀ b ∈ z, 0 ≤ b ∧ b ≤ 255) ∧ cap1 ≤ maxLen := by
    obtain ⟨fuel, hf⟩ := h1
    exact open_bytes Try.underlying22 Try.underlying5 (by kernel_rfl) (by simpa [Value.cells] using hf)
  subst hl1
  clear hA0 hval0
  refine (walk a0 cap0 z0 a1 cap1 z1 W hc0 hr0 hb0 hm0 hc1 hr1 hb1 hm1).mono fun e W' ⟨he, bel⟩ => ?_
  subst he
  exact ⟨_, rfl, _, _, _, [], _, [], hW', trodAll_mk1 (shut_bool Try.underlying4 _), (trodAll_cons_mk (Below.trod lawLaid (by kernel_rfl) (of_decide_eq_true (by kernel_rfl)) k0 bel lt0) (trodAll_cons_mk (Below.trod lawLaid (by kernel_rfl) (of_decide_eq_true (by kernel_rfl)) k1 bel lt1) trodAll_mk0)), rfl, bel.frame _, fun h => by cases h⟩

theorem closed : joinedFacts Try.checked.prog 6 Try.f6 Rows.fnShapeMiddleSpec Rows.fnShapeMiddleRow = true := by
  unfold joinedFacts
  repeat (refine and_t ?_ (by first | (with_reducible exact ent) | (with_reducible refine lif_c ?_; kernel_rfl) | (with_reducible refine mak_c ?_; kernel_rfl) | kernel_rfl))
  kernel_rfl
theorem proved : Rows.FnShapeMiddleSaid :=
  OpenClaim.holds_of_wide 6 Try.f6 rfl rfl rfl rfl rfl rfl rfl ⟨rfl, rfl, rfl, rfl, rfl⟩ rfl rfl rfl rfl rfl (by kernel_rfl) Try.func6 closed
    (of_decide_eq_true (by kernel_rfl)) (by unfold Func.isWrapper; rw [if_neg (of_decide_eq_false (by kernel_rfl))]; exact ⟨rfl, rfl⟩)
    (fun os started H enc _ => lifted os started H enc)
#print axioms proved
end Go.Proofs.Ytfkfjkhikgnnaaa.lawShapeMiddle
