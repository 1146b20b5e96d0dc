/-
  Whatever bytes are given: a point is in a shape where the triangles from it to the sides are as large as the shape. No condition.
-/
import Derived.Test.YtfkfjkhikgnnaaaEnt
import Derived.Test.YtfkfjkhikgnnaaaLif
import Derived.Test.YtfkfjkhikgnnaaaMak
import Derived.Test.YtfkfjkhikgnnaaaOpen
import Derived.Test.YtfkfjkhikgnnaaaIsh
import Derived.Test.YtfkfjkhikgnnaaaGe5
import Derived.Test.YtfkfjkhikgnnaaaSd4
import Derived.Test.YtfkfjkhikgnnaaaToP
namespace Go.Proofs.Ytfkfjkhikgnnaaa.lawShapeHasArea
open Go.ChangeShapes Go.WideShapes Go.ChangeAt Go.RowKit

theorem fan_sum {L : List Sp} {p : Sp} (h : okSh L = true) (hp : inP p = true) : ∀ k : Nat, 0 ≤ sumG (fanS L p) k ∧ sumG (fanS L p) k ≤ 40000 * (k : Int)
  | 0 => by simp [sumG]
  | k + 1 => by
    have ih := fan_sum h hp k
    have tb := turn_small hp (inP_pt h k) (inP_pt h (k + 1))
    have e : fanS L p k = max (turnG p (ptG L k) (ptG L (k + 1))) (0 - turnG p (ptG L k) (ptG L (k + 1))) := rfl
    show 0 ≤ sumG (fanS L p) k + fanS L p k ∧ sumG (fanS L p) k + fanS L p k ≤ _
    omega
set_option maxHeartbeats 8000000 in
set_option maxRecDepth 100000 in
theorem walk_short (A : Option Addr) (c : Nat) (z : List Int) (w : World) (h : Bytes w A c z) (hn : z.length ≤ 1048576) :
    Calls Try.prog 8 #[.slice A z.length c] w fun e w2 => e = .returned (.bool true) ∧ Below w.heap.size w w2 := by
  have e0 : decide ((1048576 : Int) < (z.length : Int)) = false := decide_eq_false (by omega)
  go_enter Try.func8, Try.ntmps8
  go_wp2_with fail
  refine (dShHas_any A c z _ h).mono ?_
  rintro e w2 ⟨v1, L, p, rfl, ⟨A2, c2, hv1, hc2, hr2⟩, hL, hb2⟩
  subst hv1
  have j2 := (Below.refl w2.heap.size w2).alloc (Nat.le_refl _) (.cells #[.int .i64 p.lo, .int .i64 p.hi] 27)
  have hp2 := PtAt.new w2 p
  obtain ⟨p0, p1⟩ := hp2.cells
  obtain ⟨ok, hok⟩ : ∃ ok, ok = hasS L p := ⟨_, rfl⟩
  have HOK := Lib.hid hok
  have HP2 := Lib.hid hp2
  clear hok hp2
  go_wp2_with fail
  generalize w2.alloc (.cells #[.int .i64 p.lo, .int .i64 p.hi] 27) = V2 at j2 HP2 p0 p1 ⊢
  refine (iShHas_any _ _ L p _ (hr2.step j2) (by omega)).mono ?_
  rw [← HOK.out]
  rintro e w3 ⟨rfl, hb3⟩
  have hp3 := HP2.out.step hb3
  obtain ⟨p0, p1⟩ := hp3.cells
  have HP3 := Lib.hid hp3
  clear hp3
  go_wp2_with fail
  refine (sShHas_any _ _ L p _ (hr2.step (below_step j2 hb3)) (by omega)).mono ?_
  rw [← HOK.out]
  rintro e w4 ⟨rfl, hb4⟩
  have K4 := Lib.hid (And.intro (below_step hb2 (below_step (below_step j2 hb3) hb4)) (And.intro (hr2.step (below_step (below_step j2 hb3) hb4)) (HP3.out.step hb4)))
  have hs2 : w2.heap.size < w4.heap.size := (HP3.out.step hb4).lt
  clear hb2 j2 hb3 hb4 hr2 h p0 p1 HP2 HP3
  obtain ⟨ov, hov⟩ : ∃ ov, ov = okSh L := ⟨_, rfl⟩
  have HOV := Lib.hid hov
  clear hov
  obtain ⟨p0, p1⟩ := K4.out.2.2.cells
  have eok : (ok != ok) = false := by simp
  go_wp2_with fail
  refine (sShValid_any _ _ L _ K4.out.2.1 (by omega)).mono ?_
  rw [← HOV.out]
  rintro e w5 ⟨rfl, hb5⟩
  have K5 := Lib.hid (And.intro (below_step K4.out.1 hb5) (And.intro (K4.out.2.1.step hb5) (K4.out.2.2.step hb5)))
  have hs5 : w2.heap.size < w5.heap.size := (K4.out.2.2.step hb5).lt
  clear hb5 p0 p1 K4 hs2
  obtain ⟨p0, p1⟩ := K5.out.2.2.cells
  cases hv : ov
  · go_wp2_with fail
    go_ret
    exact ⟨rfl, K5.out.1⟩
  · subst hv
    by_cases x1 : p.lo < 0
    · go_wp2_with fail
      go_ret
      exact ⟨rfl, K5.out.1⟩
    have x1' : decide (p.lo < 0) = false := decide_eq_false x1
    by_cases x2 : p.hi < 0
    · go_wp2_with fail
      go_ret
      exact ⟨rfl, K5.out.1⟩
    have x2' : decide (p.hi < 0) = false := decide_eq_false x2
    by_cases x3 : 99 < p.lo
    · go_wp2_with fail
      go_ret
      exact ⟨rfl, K5.out.1⟩
    have x3' : decide (99 < p.lo) = false := decide_eq_false x3
    by_cases x4 : 99 < p.hi
    · go_wp2_with fail
      go_ret
      exact ⟨rfl, K5.out.1⟩
    have x4' : decide (99 < p.hi) = false := decide_eq_false x4
    have hbo : okSh L = true := HOV.out.symm
    have hip : inP p = true := inP_iff.2 (by omega)
    have hsum := has_sum hbo hip
    have h8 := (okSh_parts hbo).2.1
    have h3 := (okSh_parts hbo).1.three
    have HX := Lib.hid (And.intro hbo (And.intro hip hsum))
    clear hbo hip hsum
    go_wp2_with fail
    go_loopw [7, 8] (fun s i wr => ∃ k : Nat, k ≤ L.length ∧ i = .int .i64 k ∧ s = .int .i64 (sumG (fanS L p) k) ∧ Below w5.heap.size w5 wr) (fun _ i _ => L.length - (intOf i).toNat)
    case atStart => exact ⟨0, Nat.zero_le _, rfl, rfl, Below.refl _ _⟩
    case round =>
      obtain ⟨k, hk, rfl, rfl, hbl⟩ := hrel
      by_cases hlt : k < L.length
      · have hki : (k : Int) < (L.length : Int) := by omega
        obtain ⟨r, hr⟩ : ∃ r, r = (k + 1) % L.length := ⟨_, rfl⟩
        have hrl : r < L.length := by rw [hr]; exact Nat.mod_lt _ (by omega)
        have hri : (r : Int) < (L.length : Int) := by omega
        have hrm : ((k : Int) + 1) % (L.length : Int) = (r : Int) := by rw [hr]; rfl
        have hpr : ptG L r = ptG L (k + 1) := by rw [hr, ptG_mod]
        have hnz : ((L.length : Int) == 0) = false := by rw [beq_eq_false_iff_ne]; omega
        obtain ⟨b, off, hA, hbb, hc⟩ := (K5.out.2.1.step hbl).corner (by omega)
        subst hA
        obtain ⟨d1, d2⟩ := hc k hlt
        obtain ⟨d3, d4⟩ := hc r hrl
        rw [hpr] at d3 d4
        obtain ⟨a, ha⟩ : ∃ a, a = ptG L k := ⟨_, rfl⟩
        obtain ⟨q, hq⟩ : ∃ q, q = ptG L (k + 1) := ⟨_, rfl⟩
        have ia := inP_iff.1 (inP_pt HX.out.1 k)
        have iq := inP_iff.1 (inP_pt HX.out.1 (k + 1))
        rw [← ha] at d1 d2 ia
        rw [← hq] at d3 d4 iq
        have pp := K5.out.2.2.step hbl
        obtain ⟨p0, p1⟩ := pp.cells
        have hwr : w2.heap.size < wr.heap.size := pp.lt
        obtain ⟨j6, pa, pb⟩ := pts_two wr a q
        have pp2 := pp.step j6
        obtain ⟨p2, p3⟩ := pp2.cells
        obtain ⟨a2, a3⟩ := pa.cells
        obtain ⟨q2, q3⟩ := pb.cells
        obtain ⟨u1, hu1⟩ : ∃ u, a.lo - p.lo = u := ⟨_, rfl⟩
        obtain ⟨u2, hu2⟩ : ∃ u, q.hi - p.hi = u := ⟨_, rfl⟩
        obtain ⟨u3, hu3⟩ : ∃ u, a.hi - p.hi = u := ⟨_, rfl⟩
        obtain ⟨u4, hu4⟩ : ∃ u, q.lo - p.lo = u := ⟨_, rfl⟩
        have n1 := mul_small (u := u1) (v := u2) (K := 200000) (by omega) (by omega) (by omega) (by omega) rfl
        have n2 := mul_small (u := u3) (v := u4) (K := 200000) (by omega) (by omega) (by omega) (by omega) rfl
        have ht : turnG p a q = u1 * u2 - u3 * u4 := by unfold turnG; rw [hu1, hu2, hu3, hu4]
        obtain ⟨m1, hm1⟩ : ∃ m, u1 * u2 = m := ⟨_, rfl⟩
        obtain ⟨m2, hm2⟩ : ∃ m, u3 * u4 = m := ⟨_, rfl⟩
        rw [hm1] at n1 ht
        rw [hm2] at n2 ht
        obtain ⟨t, htt⟩ : ∃ t, m1 - m2 = t := ⟨_, rfl⟩
        rw [htt] at ht
        have tb := turn_small HX.out.2.1 (inP_pt HX.out.1 k) (inP_pt HX.out.1 (k + 1))
        rw [← ha, ← hq, ht] at tb
        have hfan : fanS L p k = max t (0 - t) := by unfold fanS; rw [← ha, ← hq, ht]
        obtain ⟨sm, hsm⟩ : ∃ sm, sm = sumG (fanS L p) k := ⟨_, rfl⟩
        have hsb : 0 ≤ sm ∧ sm ≤ 40000 * k := by rw [hsm]; exact fan_sum HX.out.1 HX.out.2.1 k
        rw [← hsm]
        obtain ⟨tn, htn⟩ : ∃ tn, 0 - t = tn := ⟨_, rfl⟩
        obtain ⟨mm, hmm⟩ : ∃ mm, max t tn = mm := ⟨_, rfl⟩
        have hmm2 : 0 ≤ mm ∧ mm ≤ 40000 := by omega
        obtain ⟨sn, hsn⟩ : ∃ sn, sm + mm = sn := ⟨_, rfl⟩
        have hnext : sumG (fanS L p) (k + 1) = sn := by show sumG (fanS L p) k + fanS L p k = sn; rw [← hsm, hfan, htn, hmm, hsn]
        have w1 : IntKind.i64.wrap u1 = u1 := by rw [IntKind.wrap_i64]; omega
        have w2' : IntKind.i64.wrap u2 = u2 := by rw [IntKind.wrap_i64]; omega
        have w3' : IntKind.i64.wrap u3 = u3 := by rw [IntKind.wrap_i64]; omega
        have w4' : IntKind.i64.wrap u4 = u4 := by rw [IntKind.wrap_i64]; omega
        have w5' : IntKind.i64.wrap m1 = m1 := by rw [IntKind.wrap_i64]; omega
        have w6' : IntKind.i64.wrap m2 = m2 := by rw [IntKind.wrap_i64]; omega
        have w7' : IntKind.i64.wrap t = t := by rw [IntKind.wrap_i64]; omega
        have w8' : IntKind.i64.wrap tn = tn := by rw [IntKind.wrap_i64]; omega
        have w9' : IntKind.i64.wrap sn = sn := by rw [IntKind.wrap_i64]; omega
        have HY := Lib.hid (And.intro hnext (below_step hbl j6))
        clear hnext hbl j6 pp pp2 pa pb hc ht hfan hsm ha hq hr hpr
        go_wp2_with fail
        go_roundw
        case rel =>
          have hif : (if t < tn then tn else t) = mm := by rw [← hmm]; split <;> omega
          exact ⟨k + 1, by omega, by go_num, by rw [HY.out.1, hif, hsn], HY.out.2⟩
        case measure => simp [intOf]; omega
      · obtain rfl : k = L.length := by omega
        have HB := Lib.hid hbl
        clear hbl
        obtain ⟨sm, hsm⟩ : ∃ sm, sm = sumG (fanS L p) L.length := ⟨_, rfl⟩
        obtain ⟨ar, har⟩ : ∃ ar, ar = areaS L := ⟨_, rfl⟩
        have hfin : ok = (sm == ar) := by
          rw [HOK.out, HX.out.2.2, ← hsm, ← har]
          rw [Bool.eq_iff_iff, decide_eq_true_eq, beq_iff_eq]
        rw [← hsm]
        have HF := Lib.hid (And.intro hfin har)
        clear hfin har hsm
        go_wp2_with fail
        refine (iShArea_any _ _ L _ (K5.out.2.1.step HB.out) (by omega)).mono ?_
        rw [← HF.out.2]
        rintro e w6 ⟨rfl, hb6⟩
        have KE := Lib.hid (below_step (below_step K5.out.1 HB.out) hb6)
        clear hb6
        cases hsa : (sm == ar)
        · have ho : ok = false := by rw [HF.out.1, hsa]
          subst ho
          go_wp2_with fail
          go_ret
          exact ⟨rfl, KE.out⟩
        · have ho : ok = true := by rw [HF.out.1, hsa]
          subst ho
          go_wp2_with fail
          go_ret
          exact ⟨rfl, KE.out⟩
theorem walk (A : Option Addr) (c : Nat) (z : List Int) (w : World) (h1 : z.length ≤ c) (h2 : Reads w w.heap.size 1 A z.length (cellsB z)) (h3 : ∀ b ∈ z, 0 ≤ b ∧ b ≤ 255) (h4 : c ≤ maxLen) :
    Calls Try.prog 8 #[.slice A z.length c] w fun e w2 => e = .returned (.bool true) ∧ Below w.heap.size w w2 := by
  by_cases hn : z.length ≤ 1048576
  · exact walk_short A c z w (Bytes.mk_ h1 h2 h3 h4) hn
  · have e0 : decide ((1048576 : Int) < (z.length : Int)) = true := decide_eq_true (by omega)
    go_enter Try.func8, Try.ntmps8
    go_wp2_with fail
    go_ret
    exact ⟨rfl, Below.refl _ _⟩

set_option linter.unusedVariables false
set_option maxRecDepth 100000 in
theorem lifted (os : Os) (started : os.Started) (H : Type) (enc : TypeId × Value → H) :
    ReturnsInHanded {} Try.checked os 8 .any (Rows.fnShapeHasAreaSpec.pre6 enc Try.prog Try.f8 Rows.fnShapeHasAreaRow.domain false) (Rows.fnShapeHasAreaSpec.post enc Try.prog Try.f8 false true false false) := by
  refine returnsInHanded_of_change (C := Try.checked) lawOwn started (by kernel_rfl) Try.func8
    (ChangeSpec.witness6 (enc := enc) (C := Try.checked) false ⟨#[], #[.slice none 0 0], []⟩ 8 (by kernel_rfl) (by kernel_rfl) (by kernel_rfl) (by kernel_rfl)) ?_
  intro W base args ds gs before hval0 hW hcnd _
  have hval : ∀ (j : Nat) t v, Try.f8.params[j]? = some t → args[j]? = some v → Value.okWide Try.prog W .any base t v := hval0
  have hW' := hW
  obtain ⟨p, q, hA0, hV, rfl, hfz, hnd⟩ := hW
  have hA : DataW.TrodAll enc Try.prog W 0 (fun _ => true) true Try.f8.params.toList args.toList ds p := hA0
  rw [Try.params8] at hA hval
  obtain ⟨v0, vs0, d0, ds0, p0, q0, hargs, rfl, rfl, h0, r0⟩ := trodAll_cons hA
  obtain ⟨rfl, rfl, rfl⟩ := trodAll_nil r0
  obtain rfl : args = #[v0] := by cases args; simp_all
  obtain ⟨rfl, rfl⟩ := trodVars_none hV
  have k0 := h0
  have lt0 : ∀ x ∈ p0, x.block < W.heap.size := by obtain ⟨m, hm⟩ := k0; exact DataW.trod_lt m _ _ _ hm
  obtain ⟨a0, len0, cap0, rfl⟩ := okWide_slice Try.underlying22 (hval 0 22 v0 rfl rfl)
  obtain ⟨z0, hl0, hc0, hr0, hb0, hm0⟩ : ∃ z : List Int, len0 = z.length ∧ len0 ≤ cap0 ∧ Reads W W.heap.size 1 a0 len0 (cellsB z) ∧ (∀ b ∈ z, 0 ≤ b ∧ b ≤ 255) ∧ cap0 ≤ maxLen := by
    obtain ⟨fuel, hf⟩ := h0
    exact open_bytes Try.underlying22 Try.underlying5 (by kernel_rfl) (by simpa [Value.cells] using hf)
  subst hl0
  clear hA0 hval0
  refine (walk a0 cap0 z0 W hc0 hr0 hb0 hm0).mono fun e W' ⟨he, bel⟩ => ?_
  subst he
  exact ⟨_, rfl, _, _, _, [], _, [], hW', trodAll_mk1 (shut_bool Try.underlying4 _), (trodAll_cons_mk (Below.trod lawLaid (by kernel_rfl) (of_decide_eq_true (by kernel_rfl)) k0 bel lt0) trodAll_mk0), rfl, bel.frame _, fun h => by cases h⟩

theorem closed : joinedFacts Try.checked.prog 8 Try.f8 Rows.fnShapeHasAreaSpec Rows.fnShapeHasAreaRow = true := by
  unfold joinedFacts
  repeat (refine and_t ?_ (by first | (with_reducible exact ent) | (with_reducible refine lif_c ?_; kernel_rfl) | (with_reducible refine mak_c ?_; kernel_rfl) | kernel_rfl))
  kernel_rfl
theorem proved : Rows.FnShapeHasAreaSaid :=
  OpenClaim.holds_of_wide 8 Try.f8 rfl rfl rfl rfl rfl rfl rfl ⟨rfl, rfl, rfl, rfl, rfl⟩ rfl rfl rfl rfl rfl (by kernel_rfl) Try.func8 closed
    (of_decide_eq_true (by kernel_rfl)) (by unfold Func.isWrapper; rw [if_neg (of_decide_eq_false (by kernel_rfl))]; exact ⟨rfl, rfl⟩)
    (fun os started H enc _ => lifted os started H enc)
#print axioms proved
end Go.Proofs.Ytfkfjkhikgnnaaa.lawShapeHasArea
