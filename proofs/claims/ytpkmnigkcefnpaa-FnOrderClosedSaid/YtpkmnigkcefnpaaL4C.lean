/-
  Whatever bytes are given: of contexts and relations drawn from them, the program's order is the model's; what lies above what lies above something lies above it, and contexts of one group lie above the same ones. No condition.
-/
import Derived.Test.YtpkmnigkcefnpaaLw
import Derived.Test.YtpkmnigkcefnpaaU4
import Derived.Deep.RegionHeld3
namespace Go.Proofs.Ytpkmnigkcefnpaa.lawOrderClosed
open Go.ChangeShapes Go.WideShapes Go.ChangeAt Go.RowKit

set_option maxHeartbeats 4000000 in
set_option maxRecDepth 100000 in
theorem walk_short (A : Option Addr) (c : Nat) (z : List Int) (w : World) (h : Bytes w A c z) (hn : z.length ≤ 1048576) :
    Calls Try.prog 4 #[.slice A z.length c] w fun e w2 => e = .returned (.bool true) ∧ Below w.heap.size w w2 := by
  have e0 : decide ((1048576 : Int) < (z.length : Int)) = false := decide_eq_false (by omega)
  go_enter Try.func4, Try.ntmps4
  go_wp2_with fail
  refine (dOrd_any A c z _ h).mono ?_
  rintro e w2 ⟨v1, v2, ids, l, rfl, ho1, ho2, hl1, hl2, hb2⟩
  obtain ⟨A1, c1, hv1, hcap1, hr1⟩ := own_slice ho1
  obtain ⟨A2, c2, hv2, hcap2, hr2⟩ := own_slice ho2
  subst hv1 hv2
  obtain ⟨T, hT⟩ : ∃ T, T = ordOfG ids l := ⟨_, rfl⟩
  obtain ⟨hTl, hTr⟩ := ordT_small ids l
  rw [← hT] at hTl hTr
  have HT := Lib.hid (And.intro hT hTr)
  have HR := Lib.hid (And.intro hb2 (And.intro hr1 hr2))
  clear ho1 ho2 hb2 h hr1 hr2 hT hTr
  go_wp2_with fail
  refine (iOrderOf_any _ _ _ _ ids l _ HR.out.2.1 HR.out.2.2 (by omega) (by omega)).mono ?_
  rintro e w3 ⟨v3, vs3, rfl, hb3, ho3⟩
  rw [← HT.out.1] at ho3
  obtain ⟨A3, c3, hv3, hcap3, hr3⟩ := ho3.nest
  subst hv3
  have H3 := Lib.hid (And.intro hb3 hr3)
  clear hb3 ho3 hr3
  go_wp2_with fail
  refine (sOrderOf_any _ _ _ _ ids l _ (HR.out.2.1.step H3.out.1) (HR.out.2.2.step H3.out.1) (by omega) (by omega)).mono ?_
  rintro e w4 ⟨v4, vs4, rfl, hb4, ho4⟩
  rw [← HT.out.1] at ho4
  obtain ⟨A4, c4, hv4, hcap4, hr4⟩ := ho4.nest
  subst hv4
  have H4 := Lib.hid (And.intro hb4 hr4)
  clear hb4 ho4 hr4
  by_cases h0 : T.length = 0
  · have e1 : ((T.length : Int) == 0) = true := by simp [h0]
    clear h0
    go_wp2_with fail
    refine (sameT_self _ _ _ _ T _ (H3.out.2.step H4.out.1) H4.out.2 (by omega) (fun r hr => by have := HT.out.2 r hr; omega)).mono ?_
    rintro e w5 ⟨rfl, hb5⟩
    have H5 := Lib.hid hb5
    clear hb5
    go_wp2_with fail
    refine (sameT_self _ _ _ _ T _ (H3.out.2.step (below_step H4.out.1 H5.out)) (H4.out.2.step H5.out) (by omega) (fun r hr => by have := HT.out.2 r hr; omega)).mono ?_
    rintro e w6 ⟨rfl, hb6⟩
    go_wp2_with fail
    go_ret
    exact ⟨rfl, below_step (below_step (below_step (below_step HR.out.1 H3.out.1) H4.out.1) H5.out) hb6⟩
  · have e1 : ((T.length : Int) == 0) = false := by rw [beq_eq_false_iff_ne]; omega
    obtain ⟨hok, hTo⟩ := ordT_ok (by rw [← HT.out.1]; exact h0)
    rw [← HT.out.1] at hTo
    have hTn : T.length = ids.length := by rw [hTo, ordG_len]
    have HO := Lib.hid (And.intro hok (And.intro hTo hTn))
    clear h0 hok hTo hTn
    go_wp2_with fail
    refine (sameT_self _ _ _ _ T _ (H3.out.2.step H4.out.1) H4.out.2 (by omega) (fun r hr => by have := HT.out.2 r hr; omega)).mono ?_
    rintro e w5 ⟨rfl, hb5⟩
    have k5 := below_step H4.out.1 hb5
    have R := Lib.hid (And.intro (HR.out.2.1.step (below_step H3.out.1 k5)) (And.intro (HR.out.2.2.step (below_step H3.out.1 k5)) (And.intro (H3.out.2.step k5) (below_step HR.out.1 (below_step H3.out.1 k5)))))
    clear hb5 k5
    go_wp2_with fail
    refine (iGroups_any _ _ _ _ ids l _ R.out.1 R.out.2.1 (by omega) (by omega)).mono ?_
    rintro e w6 ⟨v6, rfl, hb6, ho6⟩
    rw [HO.out.1]
    obtain ⟨G, hG⟩ : ∃ G, G = groupsG ids l := ⟨_, rfl⟩
    have hGl : G.length = ids.length := by rw [hG, groupsG_len]
    have hof : groupsOfG ids l = G := by rw [groupsOfG, if_pos HO.out.1, hG]
    rw [hof] at ho6
    obtain ⟨A6, c6, hv6, _, hr6⟩ := own_slice ho6
    subst hv6
    have eln : ((G.length : Int) != (ids.length : Int)) = false := by simp [hGl]
    have hGb : G.length ≤ 13 := by omega
    have H6 := Lib.hid (And.intro hb6 (And.intro hr6 (And.intro hG hGl)))
    have R6 := Lib.hid (And.intro (R.out.2.2.1.step hb6) hr6)
    clear hb6 ho6 hr6 hG hGl hof
    go_wp2_with fail
    go_loopw [9] (fun i wr => ∃ k : Nat, k ≤ ids.length ∧ i = .int .i64 k ∧ Below w6.heap.size w6 wr) (fun i _ => ids.length - (intOf i).toNat)
    case atStart => exact ⟨0, Nat.zero_le _, rfl, Below.refl _ _⟩
    case round =>
      obtain ⟨i, hi, rfl, hbl⟩ := hrel
      have HB := Lib.hid hbl
      clear hbl
      by_cases hii : i < ids.length
      · have hiii : (i : Int) < (ids.length : Int) := by omega
        go_wp2_with fail
        go_loopw [10] (fun i wr => ∃ k : Nat, k ≤ ids.length ∧ i = .int .i64 k ∧ Below w6.heap.size w6 wr) (fun i _ => ids.length - (intOf i).toNat)
        case atStart => exact ⟨0, Nat.zero_le _, rfl, HB.out⟩
        case round =>
          obtain ⟨j, hj, rfl, hbl⟩ := hrel
          have HC := Lib.hid hbl
          clear hbl
          by_cases hjj : j < ids.length
          · have hjji : (j : Int) < (ids.length : Int) := by omega
            go_wp2_with fail
            go_loopw [11] (fun i wr => ∃ k : Nat, k ≤ ids.length ∧ i = .int .i64 k ∧ Below w6.heap.size w6 wr) (fun i _ => ids.length - (intOf i).toNat)
            case atStart => exact ⟨0, Nat.zero_le _, rfl, HC.out⟩
            case round =>
              obtain ⟨k, hk, rfl, hbl⟩ := hrel
              by_cases hkk : k < ids.length
              · have hkki : (k : Int) < (ids.length : Int) := by omega
                obtain ⟨a, ha⟩ : ∃ a, ids[i]? = some a := ⟨_, List.getElem?_eq_getElem hii⟩
                obtain ⟨b, hb⟩ : ∃ b, ids[j]? = some b := ⟨_, List.getElem?_eq_getElem hjj⟩
                obtain ⟨c, hc⟩ : ∃ c, ids[k]? = some c := ⟨_, List.getElem?_eq_getElem hkk⟩
                obtain ⟨p, hp⟩ : ∃ p, G[i]? = some p := ⟨_, List.getElem?_eq_getElem (by rw [H6.out.2.2.2]; exact hii)⟩
                obtain ⟨q, hq⟩ : ∃ q, G[j]? = some q := ⟨_, List.getElem?_eq_getElem (by rw [H6.out.2.2.2]; exact hjj)⟩
                obtain ⟨ri, r1, r2, r3⟩ := ordG_at (l := l) ha hb
                obtain ⟨rj, s1, s2, s3⟩ := ordG_at (l := l) hb hc
                obtain ⟨rk, t1, t2, t3⟩ := ordG_at (l := l) ha hc
                rw [r1] at t1
                injection t1 with t1
                subst t1
                rw [← HO.out.2.1] at r1 s1
                obtain ⟨b1, o1, B2, d2, hA3, hbb1, f1, hd2, hro⟩ := (R6.out.1.step hbl).row r1
                obtain ⟨b1', o1', B3, d3, hA3', _, f2, hd3, hrp⟩ := (R6.out.1.step hbl).row s1
                rw [hA3] at hA3'
                injection hA3' with hA3'
                injection hA3' with e1 e2 e3
                subst e1 e2
                clear e3
                obtain ⟨b2, o2, hB2, hbb2, f3⟩ := Reads.cellE hro r3
                obtain ⟨b2', o2', hB2', _, f5⟩ := Reads.cellE hro t3
                rw [hB2] at hB2'
                injection hB2' with hB2'
                injection hB2' with e1 e2 e3
                subst e1 e2
                clear e3
                obtain ⟨b3, o3, hB3, hbb3, f4⟩ := Reads.cellE hrp s3
                obtain ⟨b4, o4, hA6, hbb4, hcg⟩ := (R6.out.2.step hbl).ints (by rw [H6.out.2.2.2]; omega)
                subst hA3 hB2 hB3 hA6
                have g1 := hcg i _ hp
                have g2 := hcg j _ hq
                rw [r2] at f1
                rw [s2] at f2
                simp only [encB] at f3 f4 f5
                have hla : labG ids (groupsG ids l) a = p := placeG HO.out.1 ha (H6.out.2.2.1 ▸ hp)
                have hlb : labG ids (groupsG ids l) b = q := placeG HO.out.1 hb (H6.out.2.2.1 ▸ hq)
                have htr := fun h1 h2 => upG_trans HO.out.1 (a := a) (b := b) (c := c) h1 h2
                have hsm : p = q → upG ids l a c = upG ids l b c := fun e => (upG_same (by rw [hla, hlb, e])).1
                have hiG : (i : Int) < (G.length : Int) := by rw [H6.out.2.2.2]; exact hiii
                have hjG : (j : Int) < (G.length : Int) := by rw [H6.out.2.2.2]; exact hjji
                have hiT : (i : Int) < (T.length : Int) := by rw [HO.out.2.2]; exact hiii
                have hjT : (j : Int) < (T.length : Int) := by rw [HO.out.2.2]; exact hjji
                obtain ⟨x, hx⟩ : ∃ x, x = upG ids l a b := ⟨_, rfl⟩
                obtain ⟨y, hy⟩ : ∃ y, y = upG ids l b c := ⟨_, rfl⟩
                obtain ⟨z, hz⟩ : ∃ z, z = upG ids l a c := ⟨_, rfl⟩
                rw [← hx] at f3 htr
                rw [← hy] at f4 htr hsm
                rw [← hz] at f5 htr hsm
                have hx1 := ext_cell (w := wr) (B := wr.heap.size) hbb1
                have hx2 := ext_cell (w := wr) (B := wr.heap.size) hbb2
                have hx3 := ext_cell (w := wr) (B := wr.heap.size) hbb3
                have hx4 := ext_cell (w := wr) (B := wr.heap.size) hbb4
                have HM := Lib.hid hbl
                clear ha hb hc hp hq r1 r2 r3 s1 s2 s3 t2 t3 hro hrp hcg hla hlb hx hy hz hbl hd2 hd3
                cases x
                · by_cases hpq : p = q
                  · have e6 : (p == q) = true := by simp [hpq]
                    have e7 := hsm hpq
                    have e8 : (y != y) = false := by simp
                    rw [e7] at f5
                    clear hsm htr hpq e7
                    go_wp2_with fail
                    refine wp_region_ext wr.heap.size (by kernel_rfl) (by kernel_rfl) ?_
                    repeat (go_big_quiet_step (fail))
                    refine wpQuiet_nil ?_
                    rintro _ ⟨x9, rfl⟩
                    have hb9 := below_step HM.out x9.below
                    clear hx1 hx2 hx3 hx4 f1 f2 f3 f4 f5 g1 g2
                    go_wp2_with fail
                    go_roundw
                    case rel => exact ⟨k + 1, by omega, by go_num, hb9⟩
                    case measure => simp [intOf]; omega
                  · have e6 : (p == q) = false := by simp [hpq]
                    clear hsm htr hpq
                    go_wp2_with fail
                    refine wp_region_ext wr.heap.size (by kernel_rfl) (by kernel_rfl) ?_
                    repeat (go_big_quiet_step (fail))
                    refine wpQuiet_nil ?_
                    rintro _ ⟨x9, rfl⟩
                    have hb9 := below_step HM.out x9.below
                    clear hx1 hx2 hx3 hx4 f1 f2 f3 f4 f5 g1 g2
                    go_wp2_with fail
                    go_roundw
                    case rel => exact ⟨k + 1, by omega, by go_num, hb9⟩
                    case measure => simp [intOf]; omega
                · cases y
                  · by_cases hpq : p = q
                    · have e6 : (p == q) = true := by simp [hpq]
                      have e7 := hsm hpq
                      rw [e7] at f5
                      clear hsm htr hpq e7
                      go_wp2_with fail
                      refine wp_region_ext wr.heap.size (by kernel_rfl) (by kernel_rfl) ?_
                      repeat (go_big_quiet_step (fail))
                      refine wpQuiet_nil ?_
                      rintro _ ⟨x9, rfl⟩
                      have hb9 := below_step HM.out x9.below
                      clear hx1 hx2 hx3 hx4 f1 f2 f3 f4 f5 g1 g2
                      go_wp2_with fail
                      go_roundw
                      case rel => exact ⟨k + 1, by omega, by go_num, hb9⟩
                      case measure => simp [intOf]; omega
                    · have e6 : (p == q) = false := by simp [hpq]
                      clear hsm htr hpq
                      go_wp2_with fail
                      refine wp_region_ext wr.heap.size (by kernel_rfl) (by kernel_rfl) ?_
                      repeat (go_big_quiet_step (fail))
                      refine wpQuiet_nil ?_
                      rintro _ ⟨x9, rfl⟩
                      have hb9 := below_step HM.out x9.below
                      clear hx1 hx2 hx3 hx4 f1 f2 f3 f4 f5 g1 g2
                      go_wp2_with fail
                      go_roundw
                      case rel => exact ⟨k + 1, by omega, by go_num, hb9⟩
                      case measure => simp [intOf]; omega
                  · have e9 := htr rfl rfl
                    rw [e9] at f5
                    by_cases hpq : p = q
                    · have e6 : (p == q) = true := by simp [hpq]
                      clear hsm htr hpq e9
                      go_wp2_with fail
                      refine wp_region_ext wr.heap.size (by kernel_rfl) (by kernel_rfl) ?_
                      repeat (go_big_quiet_step (fail))
                      refine wpQuiet_nil ?_
                      rintro _ ⟨x9, rfl⟩
                      have hb9 := below_step HM.out x9.below
                      clear hx1 hx2 hx3 hx4 f1 f2 f3 f4 f5 g1 g2
                      go_wp2_with fail
                      go_roundw
                      case rel => exact ⟨k + 1, by omega, by go_num, hb9⟩
                      case measure => simp [intOf]; omega
                    · have e6 : (p == q) = false := by simp [hpq]
                      clear hsm htr hpq e9
                      go_wp2_with fail
                      refine wp_region_ext wr.heap.size (by kernel_rfl) (by kernel_rfl) ?_
                      repeat (go_big_quiet_step (fail))
                      refine wpQuiet_nil ?_
                      rintro _ ⟨x9, rfl⟩
                      have hb9 := below_step HM.out x9.below
                      clear hx1 hx2 hx3 hx4 f1 f2 f3 f4 f5 g1 g2
                      go_wp2_with fail
                      go_roundw
                      case rel => exact ⟨k + 1, by omega, by go_num, hb9⟩
                      case measure => simp [intOf]; omega
              · have HM := Lib.hid hbl
                clear hbl
                go_wp2_with fail
                go_roundw
                case rel => exact ⟨j + 1, by omega, by go_num, HM.out⟩
                case measure => simp [intOf]; omega
          · go_wp2_with fail
            go_roundw
            case rel => exact ⟨i + 1, by omega, by go_num, HC.out⟩
            case measure => simp [intOf]; omega
      · go_wp2_with fail
        go_ret
        exact ⟨rfl, below_step (below_step R.out.2.2.2 H6.out.1) HB.out⟩

theorem walk (A : Option Addr) (c : Nat) (z : List Int) (w : World) (h1 : z.length ≤ c) (h2 : Reads w w.heap.size 1 A z.length (cellsB z)) (h3 : ∀ b ∈ z, 0 ≤ b ∧ b ≤ 255) (h4 : c ≤ maxLen) :
    Calls Try.prog 4 #[.slice A z.length c] w fun e w2 => e = .returned (.bool true) ∧ Below w.heap.size w w2 := by
  by_cases hn : z.length ≤ 1048576
  · exact walk_short A c z w (Bytes.mk_ h1 h2 h3 h4) hn
  · have e0 : decide ((1048576 : Int) < (z.length : Int)) = true := decide_eq_true (by omega)
    go_enter Try.func4, Try.ntmps4
    go_wp2_with fail
    go_ret
    exact ⟨rfl, Below.refl _ _⟩

set_option linter.unusedVariables false
set_option maxRecDepth 100000 in
theorem lifted (os : Os) (started : os.Started) (H : Type) (enc : TypeId × Value → H) :
    ReturnsInHanded {} Try.checked os 4 .any (Rows.fnOrderClosedSpec.pre6 enc Try.prog Try.f4 Rows.fnOrderClosedRow.domain false) (Rows.fnOrderClosedSpec.post enc Try.prog Try.f4 false true false false) := by
  refine returnsInHanded_of_change (C := Try.checked) lawOwn started (by kernel_rfl) Try.func4
    (ChangeSpec.witness6 (enc := enc) (C := Try.checked) false ⟨#[], #[.slice none 0 0], []⟩ 8 (by kernel_rfl) (by kernel_rfl) (by kernel_rfl) (by kernel_rfl)) ?_
  intro W base args ds gs before hval0 hW hcnd _
  have hval : ∀ (j : Nat) t v, Try.f4.params[j]? = some t → args[j]? = some v → Value.okWide Try.prog W .any base t v := hval0
  have hW' := hW
  obtain ⟨p, q, hA0, hV, rfl, hfz, hnd⟩ := hW
  have hA : DataW.TrodAll enc Try.prog W 0 (fun _ => true) true Try.f4.params.toList args.toList ds p := hA0
  rw [Try.params4] at hA hval
  obtain ⟨v0, vs0, d0, ds0, p0, q0, hargs, rfl, rfl, h0, r0⟩ := trodAll_cons hA
  obtain ⟨rfl, rfl, rfl⟩ := trodAll_nil r0
  obtain rfl : args = #[v0] := by cases args; simp_all
  obtain ⟨rfl, rfl⟩ := trodVars_none hV
  have k0 := h0
  have lt0 : ∀ x ∈ p0, x.block < W.heap.size := by obtain ⟨m, hm⟩ := k0; exact DataW.trod_lt m _ _ _ hm
  obtain ⟨a0, len0, cap0, rfl⟩ := okWide_slice Try.underlying22 (hval 0 22 v0 rfl rfl)
  obtain ⟨z0, hl0, hc0, hr0, hb0, hm0⟩ : ∃ z : List Int, len0 = z.length ∧ len0 ≤ cap0 ∧ Reads W W.heap.size 1 a0 len0 (cellsB z) ∧ (∀ b ∈ z, 0 ≤ b ∧ b ≤ 255) ∧ cap0 ≤ maxLen := by
    obtain ⟨fuel, hf⟩ := h0
    exact open_bytes Try.underlying22 Try.underlying5 (by kernel_rfl) (by simpa [Value.cells] using hf)
  subst hl0
  clear hA0 hval0
  refine (walk a0 cap0 z0 W hc0 hr0 hb0 hm0).mono fun e W' ⟨he, bel⟩ => ?_
  subst he
  exact ⟨_, rfl, _, _, _, [], _, [], hW', trodAll_mk1 (shut_bool Try.underlying4 _), (trodAll_cons_mk (Below.trod lawLaid (by kernel_rfl) (of_decide_eq_true (by kernel_rfl)) k0 bel lt0) trodAll_mk0), rfl, bel.frame _, fun h => by cases h⟩

theorem proved : Rows.FnOrderClosedSaid :=
  OpenClaim.holds_of_wide 4 Try.f4 rfl rfl rfl rfl rfl rfl rfl ⟨rfl, rfl, rfl, rfl, rfl⟩ rfl rfl rfl rfl rfl (by kernel_rfl) Try.func4 (by kernel_rfl)
    (of_decide_eq_true (by kernel_rfl)) (by unfold Func.isWrapper; rw [if_neg (of_decide_eq_false (by kernel_rfl))]; exact ⟨rfl, rfl⟩)
    (fun os started H enc _ => lifted os started H enc)
#print axioms proved
end Go.Proofs.Ytpkmnigkcefnpaa.lawOrderClosed
