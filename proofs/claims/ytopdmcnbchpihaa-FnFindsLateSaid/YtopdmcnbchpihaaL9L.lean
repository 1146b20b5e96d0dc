/-
  Whatever bytes are given: of contexts, relations, bounds and finds drawn from them, the program's late finds are those whose year lies behind the span of their context; they are the model's. No condition.
-/
import Derived.Test.YtopdmcnbchpihaaEnt
import Derived.Test.YtopdmcnbchpihaaLif
import Derived.Test.YtopdmcnbchpihaaMak
import Derived.Test.YtopdmcnbchpihaaFdb
import Derived.Test.YtopdmcnbchpihaaFnc
import Derived.Test.YtopdmcnbchpihaaFna
import Derived.Test.YtopdmcnbchpihaaIfl
import Derived.Test.YtopdmcnbchpihaaIfa
import Derived.Test.YtopdmcnbchpihaaIh
import Derived.Test.YtopdmcnbchpihaaLm
import Derived.Test.YtopdmcnbchpihaaInts
import Derived.Test.YtopdmcnbchpihaaOpen
import Derived.Deep.RegionHeld3
namespace Go.Proofs.Ytopdmcnbchpihaa.lawFindsLate
open Go.ChangeShapes Go.WideShapes Go.ChangeAt Go.RowKit

/-- Whether one of the first n contexts is the find's, and its span ends before the find. -/
def lateTo (ids : List Int) (l bs : List Ctx) (f : Ctx) (n : Nat) : Bool := (List.range n).any fun i => decide (ids[i]? = some f.id) && decide (highD ids l bs i < f.area)
theorem lateTo_next (ids : List Int) (l bs : List Ctx) (f : Ctx) (n : Nat) : lateTo ids l bs f (n + 1) = (lateTo ids l bs f n || (decide (ids[n]? = some f.id) && decide (highD ids l bs n < f.area))) := by
  simp [lateTo, List.range_succ]
theorem lateTo_all {ids : List Int} {l bs : List Ctx} (hv : validI ids = true) (f : Ctx) : lateTo ids l bs f ids.length = isLate ids l bs f := by
  rw [Bool.eq_iff_iff, isLate_iff hv]
  simp only [lateTo, List.any_eq_true, List.mem_range, Bool.and_eq_true, decide_eq_true_eq]
  constructor
  · rintro ⟨i, _, h1, h2⟩
    exact ⟨i, h1, h2⟩
  · rintro ⟨i, h1, h2⟩
    exact ⟨i, (List.getElem?_eq_some_iff.1 h1).1, h1, h2⟩
set_option maxHeartbeats 2000000 in
set_option maxRecDepth 100000 in
theorem walk_short (A : Option Addr) (c : Nat) (z : List Int) (w : World) (h : Bytes w A c z) (hn : z.length ≤ 1048576) :
    Calls Try.prog 7 #[.slice A z.length c] w fun e w2 => e = .returned (.bool true) ∧ Below w.heap.size w w2 := by
  have e0 : decide ((1048576 : Int) < (z.length : Int)) = false := decide_eq_false (by omega)
  go_enter Try.func7, Try.ntmps7
  go_wp2_with fail
  refine (dLateFd_any A c z _ h).mono ?_
  rintro e w2 ⟨v1, v2, v3, v4, ids, l, bs, L, rfl, ⟨ho1, ho2, ho3, hl1, hl2, hl3, hb2⟩, ho4, hl4⟩
  obtain ⟨A1, c1, hv1, hcap1, hr1⟩ := own_slice ho1
  obtain ⟨A2, c2, hv2, hcap2, hr2⟩ := own_slice ho2
  obtain ⟨A3, c3, hv3, hcap3, hr3⟩ := own_slice ho3
  obtain ⟨A4, c4, hv4, hcap4, hr4⟩ := own_slice ho4
  subst hv1 hv2 hv3 hv4
  have HR := Lib.hid (And.intro hb2 (And.intro hr1 (And.intro hr2 (And.intro hr3 hr4))))
  clear ho1 ho2 ho3 ho4 hb2 h hr1 hr2 hr3 hr4
  obtain ⟨M, hM⟩ : ∃ M, M = lateG ids l bs L := ⟨_, rfl⟩
  have hML : M.length ≤ L.length := by rw [hM]; exact lateG_len ids l bs L
  have q2 := eqLI_self M
  have HC := Lib.hid hM
  clear hM
  go_wp2_with fail
  refine (iFindsLate_any _ _ _ _ _ _ _ _ ids l bs L _ HR.out.2.1 HR.out.2.2.1 HR.out.2.2.2.1 HR.out.2.2.2.2 (by omega) (by omega) (by omega) (by omega)).mono ?_
  rintro e w3 ⟨v5, rfl, hb3, ho5⟩
  rw [← HC.out] at ho5
  obtain ⟨A5, c5, hv5, hcap5, hr5⟩ := own_slice ho5
  subst hv5
  have H3 := Lib.hid (And.intro hb3 hr5)
  clear hb3 ho5 hr5
  go_wp2_with fail
  refine (sFindsLate_any _ _ _ _ _ _ _ _ ids l bs L _ (HR.out.2.1.step H3.out.1) (HR.out.2.2.1.step H3.out.1) (HR.out.2.2.2.1.step H3.out.1) (HR.out.2.2.2.2.step H3.out.1) (by omega) (by omega) (by omega) (by omega)).mono ?_
  rintro e w4 ⟨v6, rfl, hb4, ho6⟩
  rw [← HC.out] at ho6
  obtain ⟨A6, c6, hv6, hcap6, hr6⟩ := own_slice ho6
  subst hv6
  have H4 := Lib.hid (And.intro hb4 hr6)
  clear hb4 ho6 hr6
  go_wp2_with fail
  refine (sameInts_any _ _ _ _ M M _ (H3.out.2.step H4.out.1) H4.out.2 (by omega)).mono ?_
  rintro e w5 ⟨rfl, hb5⟩
  have k5 := below_step H4.out.1 hb5
  have k25 := below_step H3.out.1 k5
  have R := Lib.hid (And.intro (HR.out.2.1.step k25) (And.intro (HR.out.2.2.1.step k25) (And.intro (HR.out.2.2.2.1.step k25) (And.intro (HR.out.2.2.2.2.step k25) (And.intro (H3.out.2.step k5) (And.intro (H4.out.2.step hb5) (below_step HR.out.1 k25)))))))
  clear hb5 k5 k25
  have hfv := fun (W : World) (hW : Below w5.heap.size w5 W) => iFindsValid_any A4 c4 L W (R.out.2.2.2.1.step hW) (by omega)
  obtain ⟨o, hod⟩ : ∃ o, o = okD ids l bs := ⟨_, rfl⟩
  obtain ⟨vf, hvf⟩ : ∃ vf, vf = validF L := ⟨_, rfl⟩
  rw [← hvf] at hfv
  have HV := Lib.hid hfv
  have HOD := Lib.hid (And.intro hod hvf)
  clear hfv hvf hod
  have eML : decide ((M.length : Int) ≤ (L.length : Int)) = true := decide_eq_true (by omega)
  obtain ⟨S, hS⟩ : ∃ S, S = datesD ids l bs := ⟨_, rfl⟩
  have hSl : S.length ≤ 13 := by rw [hS]; exact Nat.le_trans (datesD_len ids l bs) (by omega)
  have HS := Lib.hid hS
  clear hS
  go_wp2_with fail
  refine (iDatesOf_any _ _ _ _ _ _ ids l bs _ R.out.1 R.out.2.1 R.out.2.2.1 (by omega) (by omega) (by omega)).mono ?_
  rintro e w6 ⟨v7, rfl, hb6, ho7⟩
  rw [← HS.out] at ho7
  rw [← HOD.out.1]
  obtain ⟨A7, c7, hv7, hcap7, hr7⟩ := own_slice ho7
  subst hv7
  have H6 := Lib.hid (And.intro hb6 hr7)
  clear hb6 ho7 hr7
  go_wp2_with fail
  go_loopw [11] (fun i wr => ∃ k : Nat, k ≤ L.length ∧ i = .int .i64 k ∧ Below w6.heap.size w6 wr) (fun i _ => L.length - (intOf i).toNat)
  case atStart => exact ⟨0, Nat.zero_le _, rfl, Below.refl _ _⟩
  case round =>
    obtain ⟨k, hk, rfl, hbl⟩ := hrel
    by_cases hlt : k < L.length
    · have hki : (k : Int) < (L.length : Int) := by omega
      obtain ⟨f, hf⟩ : ∃ f, L[k]? = some f := ⟨_, List.getElem?_eq_getElem hlt⟩
      cases o
      · have HB := Lib.hid (below_step H6.out.1 hbl)
        clear hbl hf
        go_wp2_with fail
        go_ret
        exact ⟨ret_bool (by first | rfl | simp; omega), below_step R.out.2.2.2.2.2.2 HB.out⟩
      · have hok : okD ids l bs = true := HOD.out.1.symm
        cases vf
        · have HB := Lib.hid (below_step H6.out.1 hbl)
          clear hbl hf hok
          go_wp2_with (go_at_call 31; go_must (refine (HV.out _ HB.out).mono ?_); rintro e w7 ⟨rfl, hb7⟩)
          go_ret
          exact ⟨ret_bool (by first | rfl | simp; omega), below_step (below_step R.out.2.2.2.2.2.2 HB.out) hb7⟩
        · have hlo : lateOk ids l bs L = true := by simp [lateOk, hok, ← HOD.out.2]
          have hvi : validI ids = true := (okG_parts (ordOk_okG (argsD_parts (okD_parts hok).1).1)).1
          have hSe : S = allD ids l bs := by rw [HS.out, datesD_ok hok]
          have hSn : S.length = ids.length := by rw [hSe, allD_len]
          have hat : ∀ i, i < S.length → S[i]? = some ⟨lowD ids l bs i, highD ids l bs i⟩ := fun i hi => by rw [hSe]; exact allD_at (by omega)
          have hin : decide ((k : Int) ∈ M) = lateTo ids l bs f ids.length := by rw [HC.out, lateG_ok hlo, idxF_has hf, lateTo_all hvi]
          have HX := Lib.hid (And.intro hf (And.intro hin (And.intro hat hSn)))
          have HB := Lib.hid hbl
          clear hok hlo hvi hSe hSn hat hin hf hbl
          go_wp2_with (go_at_call 31; go_must (refine (HV.out _ (below_step H6.out.1 HB.out)).mono ?_); rintro e w7 ⟨rfl, hb7⟩)
          have H7 := Lib.hid (below_step HB.out hb7)
          clear hb7
          go_loopw [12, 13] (fun s i wq => ∃ j : Nat, j ≤ ids.length ∧ i = .int .i64 j ∧ s = .bool (lateTo ids l bs f j) ∧ Below w6.heap.size w6 wq) (fun _ i _ => ids.length - (intOf i).toNat)
          case atStart => exact ⟨0, Nat.zero_le _, rfl, by simp [lateTo], H7.out⟩
          case round =>
            obtain ⟨j, hj, rfl, rfl, hbq⟩ := hrel
            have hSn := HX.out.2.2.2
            by_cases hjl : j < ids.length
            · have hji : (j : Int) < (ids.length : Int) := by omega
              have hjs : (j : Int) < (S.length : Int) := by omega
              obtain ⟨x, hx⟩ : ∃ x, ids[j]? = some x := ⟨_, List.getElem?_eq_getElem hjl⟩
              have hnx := lateTo_next ids l bs f j
              have kk := below_step H6.out.1 hbq
              obtain ⟨bb, ob, hA, hbb, hc⟩ := (R.out.2.2.2.1.step kk).ctx (by omega)
              subst hA
              obtain ⟨f1, f2, f3⟩ := hc k f HX.out.1
              obtain ⟨bi, oi, hA, hbi, g1⟩ := ints_at (R.out.1.step kk) hx
              subst hA
              obtain ⟨bs7, os7, hA, hbs7, hcs⟩ := (H6.out.2.step hbq).sp (by omega)
              subst hA
              obtain ⟨s1, s2⟩ := hcs j _ (HX.out.2.2.1 j (by omega))
              have hx1 := ext_cell (w := wr) (B := wr.heap.size) hbb
              have hx2 := ext_cell (w := wr) (B := wr.heap.size) hbi
              have hx3 := ext_cell (w := wr) (B := wr.heap.size) hbs7
              obtain ⟨s, hs⟩ : ∃ s, s = lateTo ids l bs f j := ⟨_, rfl⟩
              obtain ⟨hh, hhe⟩ : ∃ hh, hh = highD ids l bs j := ⟨_, rfl⟩
              obtain ⟨q, hq⟩ : ∃ q, decide (hh < f.area) = q := ⟨_, rfl⟩
              have hq' : decide (ids[j]? = some f.id) = decide (x = f.id) := by rw [hx]; simp
              rw [← hs, hq', ← hhe, hq] at hnx
              rw [← hs]
              rw [← hhe] at s2
              by_cases he : x = f.id
              · have e1 : (x == f.id) = true := by simp [he]
                rw [decide_eq_true he, Bool.true_and] at hnx
                have HN := Lib.hid (And.intro hnx hbq)
                clear hnx hs hhe hq' hx kk hc hcs hbq he hSn
                cases s
                · go_wp2_with fail
                  refine wp_region_ext wr.heap.size (by kernel_rfl) (by kernel_rfl) ?_
                  repeat (go_big_quiet_step (fail))
                  refine wpQuiet_nil ?_
                  rintro _ ⟨x9, rfl⟩
                  have H9 := Lib.hid (below_step HN.out.2 x9.below)
                  clear hx1 hx2 hx3 f1 f2 f3 g1 s1 s2
                  go_wp2_with fail
                  go_roundw
                  case rel => exact ⟨j + 1, by omega, by go_num, by rw [HN.out.1]; simp, H9.out⟩
                  case measure => simp [intOf]; omega
                · go_wp2_with fail
                  refine wp_region_ext wr.heap.size (by kernel_rfl) (by kernel_rfl) ?_
                  repeat (go_big_quiet_step (fail))
                  refine wpQuiet_nil ?_
                  rintro _ ⟨x9, rfl⟩
                  have H9 := Lib.hid (below_step HN.out.2 x9.below)
                  clear hx1 hx2 hx3 f1 f2 f3 g1 s1 s2
                  go_wp2_with fail
                  go_roundw
                  case rel => exact ⟨j + 1, by omega, by go_num, by rw [HN.out.1]; simp, H9.out⟩
                  case measure => simp [intOf]; omega
              · have e1 : (x == f.id) = false := by simp [he]
                rw [decide_eq_false he, Bool.false_and, Bool.or_false] at hnx
                have HN := Lib.hid (And.intro hnx hbq)
                clear hnx hs hhe hq' hx kk hc hcs hbq he hSn
                cases s
                · go_wp2_with fail
                  refine wp_region_ext wr.heap.size (by kernel_rfl) (by kernel_rfl) ?_
                  repeat (go_big_quiet_step (fail))
                  refine wpQuiet_nil ?_
                  rintro _ ⟨x9, rfl⟩
                  have H9 := Lib.hid (below_step HN.out.2 x9.below)
                  clear hx1 hx2 hx3 f1 f2 f3 g1 s1 s2
                  go_wp2_with fail
                  go_roundw
                  case rel => exact ⟨j + 1, by omega, by go_num, by rw [HN.out.1], H9.out⟩
                  case measure => simp [intOf]; omega
                · go_wp2_with fail
                  refine wp_region_ext wr.heap.size (by kernel_rfl) (by kernel_rfl) ?_
                  repeat (go_big_quiet_step (fail))
                  refine wpQuiet_nil ?_
                  rintro _ ⟨x9, rfl⟩
                  have H9 := Lib.hid (below_step HN.out.2 x9.below)
                  clear hx1 hx2 hx3 f1 f2 f3 g1 s1 s2
                  go_wp2_with fail
                  go_roundw
                  case rel => exact ⟨j + 1, by omega, by go_num, by rw [HN.out.1], H9.out⟩
                  case measure => simp [intOf]; omega
            · have hjm : j = ids.length := by omega
              subst hjm
              rw [← HX.out.2.1]
              obtain ⟨u, hu⟩ : ∃ u, u = decide ((k : Int) ∈ M) := ⟨_, rfl⟩
              have hh := hasInt_any A5 c5 M k wr (R.out.2.2.2.2.1.step (below_step H6.out.1 hbq)) (by omega)
              rw [← hu] at hh
              rw [← hu]
              have eu : (u != u) = false := by simp
              have HB := Lib.hid (And.intro hbq hh)
              have e7 : decide ((ids.length : Int) < (ids.length : Int)) = false := decide_eq_false (by omega)
              clear hbq hh hu hSn
              go_wp2_with (go_at_call 32; go_must (refine HB.out.2.mono ?_); rintro e w9 ⟨rfl, rfl⟩)
              go_roundw
              case rel => exact ⟨k + 1, by omega, by go_num, HB.out.1⟩
              case measure => simp [intOf]; omega
    · have HB := Lib.hid (below_step H6.out.1 hbl)
      have hki : decide ((k : Int) < (L.length : Int)) = false := decide_eq_false (by omega)
      clear hbl
      go_wp2_with fail
      go_ret
      exact ⟨ret_bool (by first | rfl | simp; omega), below_step R.out.2.2.2.2.2.2 HB.out⟩

theorem walk (A : Option Addr) (c : Nat) (z : List Int) (w : World) (h1 : z.length ≤ c) (h2 : Reads w w.heap.size 1 A z.length (cellsB z)) (h3 : ∀ b ∈ z, 0 ≤ b ∧ b ≤ 255) (h4 : c ≤ maxLen) :
    Calls Try.prog 7 #[.slice A z.length c] w fun e w2 => e = .returned (.bool true) ∧ Below w.heap.size w w2 := by
  by_cases hn : z.length ≤ 1048576
  · exact walk_short A c z w (Bytes.mk_ h1 h2 h3 h4) hn
  · have e0 : decide ((1048576 : Int) < (z.length : Int)) = true := decide_eq_true (by omega)
    go_enter Try.func7, Try.ntmps7
    go_wp2_with fail
    go_ret
    exact ⟨rfl, Below.refl _ _⟩

set_option linter.unusedVariables false
set_option maxRecDepth 100000 in
theorem lifted (os : Os) (started : os.Started) (H : Type) (enc : TypeId × Value → H) :
    ReturnsInHanded {} Try.checked os 7 .any (Rows.fnFindsLateSpec.pre6 enc Try.prog Try.f7 Rows.fnFindsLateRow.domain false) (Rows.fnFindsLateSpec.post enc Try.prog Try.f7 false true false false) := by
  refine returnsInHanded_of_change (C := Try.checked) lawOwn started (by kernel_rfl) Try.func7
    (ChangeSpec.witness6 (enc := enc) (C := Try.checked) false ⟨#[], #[.slice none 0 0], []⟩ 8 (by kernel_rfl) (by kernel_rfl) (by kernel_rfl) (by kernel_rfl)) ?_
  intro W base args ds gs before hval0 hW hcnd _
  have hval : ∀ (j : Nat) t v, Try.f7.params[j]? = some t → args[j]? = some v → Value.okWide Try.prog W .any base t v := hval0
  have hW' := hW
  obtain ⟨p, q, hA0, hV, rfl, hfz, hnd⟩ := hW
  have hA : DataW.TrodAll enc Try.prog W 0 (fun _ => true) true Try.f7.params.toList args.toList ds p := hA0
  rw [Try.params7] at hA hval
  obtain ⟨v0, vs0, d0, ds0, p0, q0, hargs, rfl, rfl, h0, r0⟩ := trodAll_cons hA
  obtain ⟨rfl, rfl, rfl⟩ := trodAll_nil r0
  obtain rfl : args = #[v0] := by cases args; simp_all
  obtain ⟨rfl, rfl⟩ := trodVars_none hV
  have k0 := h0
  have lt0 : ∀ x ∈ p0, x.block < W.heap.size := by obtain ⟨m, hm⟩ := k0; exact DataW.trod_lt m _ _ _ hm
  obtain ⟨a0, len0, cap0, rfl⟩ := okWide_slice Try.underlying22 (hval 0 22 v0 rfl rfl)
  obtain ⟨z0, hl0, hc0, hr0, hb0, hm0⟩ : ∃ z : List Int, len0 = z.length ∧ len0 ≤ cap0 ∧ Reads W W.heap.size 1 a0 len0 (cellsB z) ∧ (∀ b ∈ z, 0 ≤ b ∧ b ≤ 255) ∧ cap0 ≤ maxLen := by
    obtain ⟨fuel, hf⟩ := h0
    exact open_bytes Try.underlying22 Try.underlying5 (by kernel_rfl) (by simpa [Value.cells] using hf)
  subst hl0
  clear hA0 hval0
  refine (walk a0 cap0 z0 W hc0 hr0 hb0 hm0).mono fun e W' ⟨he, bel⟩ => ?_
  subst he
  exact ⟨_, rfl, _, _, _, [], _, [], hW', trodAll_mk1 (shut_bool Try.underlying4 _), (trodAll_cons_mk (Below.trod lawLaid (by kernel_rfl) (of_decide_eq_true (by kernel_rfl)) k0 bel lt0) trodAll_mk0), rfl, bel.frame _, fun h => by cases h⟩

theorem closed : joinedFacts Try.checked.prog 7 Try.f7 Rows.fnFindsLateSpec Rows.fnFindsLateRow = true := by
  unfold joinedFacts
  repeat (refine and_t ?_ (by first | (with_reducible exact ent) | (with_reducible refine lif_c ?_; kernel_rfl) | (with_reducible refine mak_c ?_; kernel_rfl) | kernel_rfl))
  kernel_rfl
theorem proved : Rows.FnFindsLateSaid :=
  OpenClaim.holds_of_wide 7 Try.f7 rfl rfl rfl rfl rfl rfl rfl ⟨rfl, rfl, rfl, rfl, rfl⟩ rfl rfl rfl rfl rfl (by kernel_rfl) Try.func7 closed
    (of_decide_eq_true (by kernel_rfl)) (by unfold Func.isWrapper; rw [if_neg (of_decide_eq_false (by kernel_rfl))]; exact ⟨rfl, rfl⟩)
    (fun os started H enc _ => lifted os started H enc)
#print axioms proved
end Go.Proofs.Ytopdmcnbchpihaa.lawFindsLate
