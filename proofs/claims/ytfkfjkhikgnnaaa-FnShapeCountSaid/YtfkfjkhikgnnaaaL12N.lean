/-
  Whatever bytes are given: the points of a shape are counted as its area and its sides say. No condition.
-/
import Derived.Test.YtfkfjkhikgnnaaaEnt
import Derived.Test.YtfkfjkhikgnnaaaLif
import Derived.Test.YtfkfjkhikgnnaaaMak
import Derived.Test.YtfkfjkhikgnnaaaOpen
import Derived.Test.YtfkfjkhikgnnaaaIsh
import Derived.Test.YtfkfjkhikgnnaaaGe5
import Derived.Test.YtfkfjkhikgnnaaaSd3
import Derived.Test.YtfkfjkhikgnnaaaToP
namespace Go.Proofs.Ytfkfjkhikgnnaaa.lawShapeCount
open Go.ChangeShapes Go.WideShapes Go.ChangeAt Go.RowKit

theorem side_small {L : List Sp} (h : okSh L = true) (i : Nat) : 0 ≤ sideG (ptG L) i ∧ sideG (ptG L) i ≤ 99 := by
  have h1 := inP_iff.1 (inP_pt h i)
  have h2 := inP_iff.1 (inP_pt h (i + 1))
  unfold sideG
  rcases Nat.eq_zero_or_pos ((ptG L i).lo - (ptG L (i + 1)).lo).natAbs with h0 | h0
  · rw [h0, Nat.gcd_zero_left]; omega
  · have := Nat.gcd_le_left ((ptG L i).hi - (ptG L (i + 1)).hi).natAbs h0
    omega
theorem side_sum {L : List Sp} (h : okSh L = true) : ∀ k : Nat, 0 ≤ sumG (sideG (ptG L)) k ∧ sumG (sideG (ptG L)) k ≤ 99 * (k : Int)
  | 0 => by simp [sumG]
  | k + 1 => by
    have ih := side_sum h k
    have tb := side_small h k
    show 0 ≤ sumG (sideG (ptG L)) k + sideG (ptG L) k ∧ sumG (sideG (ptG L)) k + sideG (ptG L) k ≤ _
    omega
set_option maxHeartbeats 8000000 in
set_option maxRecDepth 100000 in
theorem walk_short (A : Option Addr) (c : Nat) (z : List Int) (w : World) (h : Bytes w A c z) (hn : z.length ≤ 1048576) :
    Calls Try.prog 11 #[.slice A z.length c] w fun e w2 => e = .returned (.bool true) ∧ Below w.heap.size w w2 := by
  have e0 : decide ((1048576 : Int) < (z.length : Int)) = false := decide_eq_false (by omega)
  go_enter Try.func11, Try.ntmps11
  go_wp2_with fail
  refine (dShCount_any A c z _ h).mono ?_
  rintro e w2 ⟨v1, L, rfl, ⟨A2, c2, hv1, hc2, hr2⟩, hL, hb2⟩
  subst hv1
  obtain ⟨ct, hct⟩ : ∃ ct, ct = countS L := ⟨_, rfl⟩
  have HCT := Lib.hid hct
  clear hct
  have ect : (ct != ct) = false := by simp
  have ect2 : (ct == ct) = true := by simp
  go_wp2_with fail
  refine (iShCount_any _ _ L _ hr2 (by omega)).mono ?_
  rw [← HCT.out]
  rintro e w3 ⟨rfl, hb3⟩
  go_wp2_with fail
  refine (sShCount_any _ _ L _ (hr2.step hb3) (by omega)).mono ?_
  rw [← HCT.out]
  rintro e w4 ⟨rfl, hb4⟩
  have K4 := Lib.hid (And.intro (below_step (below_step hb2 hb3) hb4) (hr2.step (below_step hb3 hb4)))
  clear hb2 hb3 hb4 hr2 h
  cases hok : okSh L
  · have hneg : ct = -1 := by rw [HCT.out]; unfold countS; rw [if_neg (by rw [hok]; decide)]
    have hng : decide (ct < 0) = true := decide_eq_true (by omega)
    clear hneg hok
    go_wp2_with fail
    go_ret
    exact ⟨rfl, K4.out.1⟩
  · have hpk := pick_count hok
    have hle := countS_le hok
    have har := area_small hok
    rw [← HCT.out] at hpk hle
    have hng : decide (ct < 0) = false := decide_eq_false (by omega)
    obtain ⟨ar, hare⟩ : ∃ ar, ar = areaS L := ⟨_, rfl⟩
    rw [← hare] at hpk har
    have h3 := (okSh_parts hok).1.three
    have HX := Lib.hid (And.intro hok (And.intro hpk hare))
    clear hok hpk hare
    go_wp2_with fail
    go_loopw [6, 7] (fun s i wr => ∃ k : Nat, k ≤ L.length ∧ i = .int .i64 k ∧ s = .int .i64 (sumG (sideG (ptG L)) k) ∧ Below w4.heap.size w4 wr) (fun _ i _ => L.length - (intOf i).toNat)
    case atStart => exact ⟨0, Nat.zero_le _, rfl, rfl, Below.refl _ _⟩
    case round =>
      obtain ⟨k, hk, rfl, rfl, hbl⟩ := hrel
      have hsb := side_sum HX.out.1 k
      by_cases hlt : k < L.length
      · have hki : (k : Int) < (L.length : Int) := by omega
        obtain ⟨r, hr⟩ : ∃ r, r = (k + 1) % L.length := ⟨_, rfl⟩
        have hrl : r < L.length := by rw [hr]; exact Nat.mod_lt _ (by omega)
        have hri : (r : Int) < (L.length : Int) := by omega
        have hrm : ((k : Int) + 1) % (L.length : Int) = (r : Int) := by rw [hr]; rfl
        have hpr : ptG L r = ptG L (k + 1) := by rw [hr, ptG_mod]
        have hnz : ((L.length : Int) == 0) = false := by rw [beq_eq_false_iff_ne]; omega
        obtain ⟨b, off, hA, hbb, hc⟩ := (K4.out.2.step hbl).corner (by omega)
        subst hA
        obtain ⟨d1, d2⟩ := hc k hlt
        obtain ⟨d3, d4⟩ := hc r hrl
        rw [hpr] at d3 d4
        obtain ⟨a, ha⟩ : ∃ a, a = ptG L k := ⟨_, rfl⟩
        obtain ⟨q, hq⟩ : ∃ q, q = ptG L (k + 1) := ⟨_, rfl⟩
        have ia := inP_iff.1 (inP_pt HX.out.1 k)
        have iq := inP_iff.1 (inP_pt HX.out.1 (k + 1))
        rw [← ha] at d1 d2 ia
        rw [← hq] at d3 d4 iq
        obtain ⟨j6, pa, pb⟩ := pts_two wr a q
        obtain ⟨a2, a3⟩ := pa.cells
        obtain ⟨q2, q3⟩ := pb.cells
        obtain ⟨u1, hu1⟩ : ∃ u, a.lo - q.lo = u := ⟨_, rfl⟩
        obtain ⟨u2, hu2⟩ : ∃ u, q.lo - a.lo = u := ⟨_, rfl⟩
        obtain ⟨u3, hu3⟩ : ∃ u, a.hi - q.hi = u := ⟨_, rfl⟩
        obtain ⟨u4, hu4⟩ : ∃ u, q.hi - a.hi = u := ⟨_, rfl⟩
        have w1 : IntKind.i64.wrap u1 = u1 := by rw [IntKind.wrap_i64]; omega
        have w2' : IntKind.i64.wrap u2 = u2 := by rw [IntKind.wrap_i64]; omega
        have w3' : IntKind.i64.wrap u3 = u3 := by rw [IntKind.wrap_i64]; omega
        have w4' : IntKind.i64.wrap u4 = u4 := by rw [IntKind.wrap_i64]; omega
        have hsd : sideG (ptG L) k = (Nat.gcd u1.natAbs u3.natAbs : Nat) := by unfold sideG; rw [← ha, ← hq, hu1, hu3]
        obtain ⟨sm, hsm⟩ : ∃ sm, sm = sumG (sideG (ptG L)) k := ⟨_, rfl⟩
        rw [← hsm] at hsb ⊢
        have b1 : u1.natAbs ≤ 99 := by omega
        have b3 : u3.natAbs ≤ 99 := by omega
        have E12 := Lib.hid (show u2 = -u1 by omega)
        have E34 := Lib.hid (show u4 = -u3 by omega)
        obtain ⟨G, hG⟩ : ∃ G, G = Nat.gcd u1.natAbs u3.natAbs := ⟨_, rfl⟩
        have HY := Lib.hid (And.intro (below_step hbl j6) (And.intro hG (show sumG (sideG (ptG L)) (k + 1) = sm + G by show sumG (sideG (ptG L)) k + sideG (ptG L) k = _; rw [← hsm, hsd, hG])))
        clear hbl j6 pa pb hc hsd hsm ha hq hr hpr hG
        go_wp2_with fail
        all_goals (
          go_loopw [10, 11] (fun s t W => ∃ x y : Nat, s = .int .i64 x ∧ t = .int .i64 y ∧ x ≤ 99 ∧ y ≤ 99 ∧ Nat.gcd x y = G ∧ Below w4.heap.size w4 W) (fun _ t _ => (intOf t).toNat)
          case atStart => exact ⟨u1.natAbs, u3.natAbs, by congr 1; have := E12.out; omega, by congr 1; have := E34.out; omega, b1, b3, HY.out.2.1.symm, HY.out.1⟩
          case round =>
            obtain ⟨x, y, rfl, rfl, hx9, hy9, hgc, hbW⟩ := hrel
            have HW := Lib.hid (And.intro hbW hgc)
            clear hbW hgc
            by_cases hy0 : (0 : Int) < (y : Int)
            · have e9 : decide ((0 : Int) < (y : Int)) = true := decide_eq_true hy0
              have eny : ((y : Int) == 0) = false := by rw [beq_eq_false_iff_ne]; omega
              have hyp : 0 < y := by omega
              obtain ⟨zz, hzz⟩ : ∃ zz : Nat, zz = x % y := ⟨_, rfl⟩
              have hzl : zz < y := by rw [hzz]; exact Nat.mod_lt _ hyp
              have hzi : (x : Int) % (y : Int) = (zz : Int) := by rw [hzz]; rfl
              have hxi0 : (0 : Int) ≤ (x : Int) := by omega
              have HZ := Lib.hid (show Nat.gcd y zz = G by rw [hzz, Nat.gcd_comm, ← Nat.gcd_rec, Nat.gcd_comm]; exact HW.out.2)
              clear hzz
              go_wp2_with fail
              go_roundw
              case rel => exact ⟨y, zz, by go_num, by go_num, by omega, by omega, HZ.out, HW.out.1⟩
              case measure => simp [intOf]; omega
            · have e9 : decide ((0 : Int) < (y : Int)) = false := decide_eq_false hy0
              obtain rfl : y = 0 := by omega
              have hxG : x = G := by have := HW.out.2; rwa [Nat.gcd_zero_right] at this
              have HXG := Lib.hid hxG
              clear hxG
              have hsn : IntKind.i64.wrap (sm + (x : Int)) = sm + (x : Int) := by rw [IntKind.wrap_i64]; omega
              go_wp2_with fail
              go_roundw
              case rel => exact ⟨k + 1, by omega, by go_num, by rw [HY.out.2.2, HXG.out], HW.out.1⟩
              case measure => simp [intOf]; omega)
      · obtain rfl : k = L.length := by omega
        have HB := Lib.hid hbl
        clear hbl
        obtain ⟨sm, hsm⟩ : ∃ sm, sm = sumG (sideG (ptG L)) L.length := ⟨_, rfl⟩
        have hpk := HX.out.2.1
        rw [← hsm] at hsb hpk ⊢
        clear hsm
        obtain ⟨ct2, hct2⟩ : ∃ u, 2 * ct = u := ⟨_, rfl⟩
        obtain ⟨at2, has⟩ : ∃ u, ar + sm = u := ⟨_, rfl⟩
        have hfin : at2 + 2 = ct2 := by omega
        have q1 : IntKind.i64.wrap ct2 = ct2 := by rw [IntKind.wrap_i64]; omega
        have q2 : IntKind.i64.wrap at2 = at2 := by rw [IntKind.wrap_i64]; omega
        have q3 : (ct2 == ct2) = true := by simp
        clear hpk
        go_wp2_with fail
        refine (iShArea_any _ _ L _ (K4.out.2.step HB.out) (by omega)).mono ?_
        rw [← HX.out.2.2]
        rintro e w6 ⟨rfl, hb6⟩
        have KE := Lib.hid (below_step (below_step K4.out.1 HB.out) hb6)
        clear hb6
        go_wp2_with fail
        go_ret
        exact ⟨rfl, KE.out⟩
theorem walk (A : Option Addr) (c : Nat) (z : List Int) (w : World) (h1 : z.length ≤ c) (h2 : Reads w w.heap.size 1 A z.length (cellsB z)) (h3 : ∀ b ∈ z, 0 ≤ b ∧ b ≤ 255) (h4 : c ≤ maxLen) :
    Calls Try.prog 11 #[.slice A z.length c] w fun e w2 => e = .returned (.bool true) ∧ Below w.heap.size w w2 := by
  by_cases hn : z.length ≤ 1048576
  · exact walk_short A c z w (Bytes.mk_ h1 h2 h3 h4) hn
  · have e0 : decide ((1048576 : Int) < (z.length : Int)) = true := decide_eq_true (by omega)
    go_enter Try.func11, Try.ntmps11
    go_wp2_with fail
    go_ret
    exact ⟨rfl, Below.refl _ _⟩

set_option linter.unusedVariables false
set_option maxRecDepth 100000 in
theorem lifted (os : Os) (started : os.Started) (H : Type) (enc : TypeId × Value → H) :
    ReturnsInHanded {} Try.checked os 11 .any (Rows.fnShapeCountSpec.pre6 enc Try.prog Try.f11 Rows.fnShapeCountRow.domain false) (Rows.fnShapeCountSpec.post enc Try.prog Try.f11 false true false false) := by
  refine returnsInHanded_of_change (C := Try.checked) lawOwn started (by kernel_rfl) Try.func11
    (ChangeSpec.witness6 (enc := enc) (C := Try.checked) false ⟨#[], #[.slice none 0 0], []⟩ 8 (by kernel_rfl) (by kernel_rfl) (by kernel_rfl) (by kernel_rfl)) ?_
  intro W base args ds gs before hval0 hW hcnd _
  have hval : ∀ (j : Nat) t v, Try.f11.params[j]? = some t → args[j]? = some v → Value.okWide Try.prog W .any base t v := hval0
  have hW' := hW
  obtain ⟨p, q, hA0, hV, rfl, hfz, hnd⟩ := hW
  have hA : DataW.TrodAll enc Try.prog W 0 (fun _ => true) true Try.f11.params.toList args.toList ds p := hA0
  rw [Try.params11] at hA hval
  obtain ⟨v0, vs0, d0, ds0, p0, q0, hargs, rfl, rfl, h0, r0⟩ := trodAll_cons hA
  obtain ⟨rfl, rfl, rfl⟩ := trodAll_nil r0
  obtain rfl : args = #[v0] := by cases args; simp_all
  obtain ⟨rfl, rfl⟩ := trodVars_none hV
  have k0 := h0
  have lt0 : ∀ x ∈ p0, x.block < W.heap.size := by obtain ⟨m, hm⟩ := k0; exact DataW.trod_lt m _ _ _ hm
  obtain ⟨a0, len0, cap0, rfl⟩ := okWide_slice Try.underlying22 (hval 0 22 v0 rfl rfl)
  obtain ⟨z0, hl0, hc0, hr0, hb0, hm0⟩ : ∃ z : List Int, len0 = z.length ∧ len0 ≤ cap0 ∧ Reads W W.heap.size 1 a0 len0 (cellsB z) ∧ (∀ b ∈ z, 0 ≤ b ∧ b ≤ 255) ∧ cap0 ≤ maxLen := by
    obtain ⟨fuel, hf⟩ := h0
    exact open_bytes Try.underlying22 Try.underlying5 (by kernel_rfl) (by simpa [Value.cells] using hf)
  subst hl0
  clear hA0 hval0
  refine (walk a0 cap0 z0 W hc0 hr0 hb0 hm0).mono fun e W' ⟨he, bel⟩ => ?_
  subst he
  exact ⟨_, rfl, _, _, _, [], _, [], hW', trodAll_mk1 (shut_bool Try.underlying4 _), (trodAll_cons_mk (Below.trod lawLaid (by kernel_rfl) (of_decide_eq_true (by kernel_rfl)) k0 bel lt0) trodAll_mk0), rfl, bel.frame _, fun h => by cases h⟩

theorem closed : joinedFacts Try.checked.prog 11 Try.f11 Rows.fnShapeCountSpec Rows.fnShapeCountRow = true := by
  unfold joinedFacts
  repeat (refine and_t ?_ (by first | (with_reducible exact ent) | (with_reducible refine lif_c ?_; kernel_rfl) | (with_reducible refine mak_c ?_; kernel_rfl) | kernel_rfl))
  kernel_rfl
theorem proved : Rows.FnShapeCountSaid :=
  OpenClaim.holds_of_wide 11 Try.f11 rfl rfl rfl rfl rfl rfl rfl ⟨rfl, rfl, rfl, rfl, rfl⟩ rfl rfl rfl rfl rfl (by kernel_rfl) Try.func11 closed
    (of_decide_eq_true (by kernel_rfl)) (by unfold Func.isWrapper; rw [if_neg (of_decide_eq_false (by kernel_rfl))]; exact ⟨rfl, rfl⟩)
    (fun os started H enc _ => lifted os started H enc)
#print axioms proved
end Go.Proofs.Ytfkfjkhikgnnaaa.lawShapeCount
