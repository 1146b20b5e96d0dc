/-
  Whatever bytes are given: of contexts, relations and finds drawn from them, the program's old finds are those above which, or in whose context's place, a later find lies below; they are the model's. No condition.
-/
import Derived.Test.YtopdmcnbchpihaaEnt
import Derived.Test.YtopdmcnbchpihaaLif
import Derived.Test.YtopdmcnbchpihaaMak
import Derived.Test.YtopdmcnbchpihaaFdb
import Derived.Test.YtopdmcnbchpihaaFno
import Derived.Test.YtopdmcnbchpihaaIfo
import Derived.Test.YtopdmcnbchpihaaLw
import Derived.Test.YtopdmcnbchpihaaIa
import Derived.Test.YtopdmcnbchpihaaLm
import Derived.Test.YtopdmcnbchpihaaInts
import Derived.Test.YtopdmcnbchpihaaOpen
import Derived.Deep.RegionHeld3
namespace Go.Proofs.Ytopdmcnbchpihaa.lawFindsOld
open Go.ChangeShapes Go.WideShapes Go.ChangeAt Go.RowKit

set_option maxHeartbeats 2000000 in
set_option maxRecDepth 100000 in
theorem walk_short (A : Option Addr) (c : Nat) (z : List Int) (w : World) (h : Bytes w A c z) (hn : z.length ≤ 1048576) :
    Calls Try.prog 9 #[.slice A z.length c] w fun e w2 => e = .returned (.bool true) ∧ Below w.heap.size w w2 := by
  have e0 : decide ((1048576 : Int) < (z.length : Int)) = false := decide_eq_false (by omega)
  go_enter Try.func9, Try.ntmps9
  go_wp2_with fail
  refine (dOldFd_any A c z _ h).mono ?_
  rintro e w2 ⟨v1, v2, v3, ids, l, L, rfl, ⟨ho1, ho2, hl1, hl2, hb2⟩, ho3, hl3⟩
  obtain ⟨A1, c1, hv1, hcap1, hr1⟩ := own_slice ho1
  obtain ⟨A2, c2, hv2, hcap2, hr2⟩ := own_slice ho2
  obtain ⟨A3, c3, hv3, hcap3, hr3⟩ := own_slice ho3
  subst hv1 hv2 hv3
  have HR := Lib.hid (And.intro hb2 (And.intro hr1 (And.intro hr2 hr3)))
  clear ho1 ho2 ho3 hb2 h hr1 hr2 hr3
  obtain ⟨M, hM⟩ : ∃ M, M = oldG ids l L := ⟨_, rfl⟩
  have hMl : M.length ≤ 21 := by rw [hM]; exact Nat.le_trans (oldG_len ids l L) (by omega)
  have q2 := eqLI_self M
  have HC := Lib.hid hM
  clear hM
  go_wp2_with fail
  refine (iFindsOld_any _ _ _ _ _ _ ids l L _ HR.out.2.1 HR.out.2.2.1 HR.out.2.2.2 (by omega) (by omega) (by omega)).mono ?_
  rintro e w3 ⟨v4, rfl, hb3, ho4⟩
  rw [← HC.out] at ho4
  obtain ⟨A4, c4, hv4, hcap4, hr4⟩ := own_slice ho4
  subst hv4
  have H3 := Lib.hid (And.intro hb3 hr4)
  clear hb3 ho4 hr4
  go_wp2_with fail
  refine (sFindsOld_any _ _ _ _ _ _ ids l L _ (HR.out.2.1.step H3.out.1) (HR.out.2.2.1.step H3.out.1) (HR.out.2.2.2.step H3.out.1) (by omega) (by omega) (by omega)).mono ?_
  rintro e w4 ⟨v5, rfl, hb4, ho5⟩
  rw [← HC.out] at ho5
  obtain ⟨A5, c5, hv5, hcap5, hr5⟩ := own_slice ho5
  subst hv5
  have H4 := Lib.hid (And.intro hb4 hr5)
  clear hb4 ho5 hr5
  go_wp2_with fail
  refine (sameInts_any _ _ _ _ M M _ (H3.out.2.step H4.out.1) H4.out.2 (by omega)).mono ?_
  rintro e w5 ⟨rfl, hb5⟩
  have k5 := below_step H4.out.1 hb5
  have k25 := below_step H3.out.1 k5
  have R := Lib.hid (And.intro (HR.out.2.1.step k25) (And.intro (HR.out.2.2.1.step k25) (And.intro (HR.out.2.2.2.step k25) (And.intro (H3.out.2.step k5) (And.intro (H4.out.2.step hb5) (below_step HR.out.1 k25))))))
  clear hb5 k5 k25
  have hov := fun (W : World) (hW : Below w5.heap.size w5 W) => sOrdValid_any A1 A2 c1 c2 ids l W (R.out.1.step hW) (R.out.2.1.step hW) (by omega) (by omega)
  have hfv := fun (W : World) (hW : Below w5.heap.size w5 W) => sValidF_any A3 c3 L W (R.out.2.2.1.step hW) (by omega)
  obtain ⟨od, hod⟩ : ∃ od, od = ordOkG ids l := ⟨_, rfl⟩
  obtain ⟨vf, hvf⟩ : ∃ vf, vf = validF L := ⟨_, rfl⟩
  rw [← hod] at hov
  rw [← hvf] at hfv
  have HV := Lib.hid (And.intro hov hfv)
  have HOD := Lib.hid (And.intro hod hvf)
  clear hov hfv hod hvf
  go_wp2_with fail
  refine (HV.out.1 _ (Below.refl _ _)).mono ?_
  rintro e w6 ⟨rfl, hb6⟩
  cases od
  · go_wp2_with fail
    refine (sameInts_any _ _ _ _ M M _ (R.out.2.2.2.1.step hb6) (R.out.2.2.2.2.1.step hb6) (by omega)).mono ?_
    rintro e w7 ⟨rfl, hb7⟩
    go_wp2_with fail
    go_ret
    exact ⟨rfl, below_step (below_step R.out.2.2.2.2.2 hb6) hb7⟩
  · go_wp2_with fail
    refine (HV.out.2 _ hb6).mono ?_
    rintro e w7 ⟨rfl, hb7⟩
    have h57 := below_step hb6 hb7
    cases vf
    · go_wp2_with fail
      refine (sameInts_any _ _ _ _ M M _ (R.out.2.2.2.1.step h57) (R.out.2.2.2.2.1.step h57) (by omega)).mono ?_
      rintro e w8 ⟨rfl, hb8⟩
      go_wp2_with fail
      go_ret
      exact ⟨rfl, below_step (below_step R.out.2.2.2.2.2 h57) hb8⟩
    · have hok : oldOk ids l L = true := by simp [oldOk, ← HOD.out.1, ← HOD.out.2]
      have hit : ∀ (i : Nat) (f : Ctx), L[i]? = some f → decide ((i : Int) ∈ M) = L.any fun g => decide (f.area < g.area) && aboveG ids l f.id g.id := fun i f hf => by
        rw [HC.out, oldG_ok hok, idxF_has hf, Bool.eq_iff_iff, isOld_iff hok (List.mem_of_getElem? hf), List.any_eq_true]
        simp
      have HF := Lib.hid hit
      have H57 := Lib.hid h57
      clear hok hit hb6 hb7 h57
      go_wp2_with fail
      go_loopw [8] (fun i wr => ∃ k : Nat, k ≤ L.length ∧ i = .int .i64 k ∧ Below w5.heap.size w5 wr) (fun i _ => L.length - (intOf i).toNat)
      case atStart => exact ⟨0, Nat.zero_le _, rfl, H57.out⟩
      case round =>
        obtain ⟨k, hk, rfl, hbl⟩ := hrel
        by_cases hlt : k < L.length
        · have hki : (k : Int) < (L.length : Int) := by omega
          obtain ⟨f, hf⟩ : ∃ f, L[k]? = some f := ⟨_, List.getElem?_eq_getElem hlt⟩
          have HX := Lib.hid (And.intro hbl (And.intro hf (HF.out k f hf)))
          clear hbl hf
          go_wp2_with fail
          go_loopw [9, 10] (fun s i wq => ∃ j : Nat, j ≤ L.length ∧ i = .int .i64 j ∧ s = .bool ((L.take j).any fun g => decide (f.area < g.area) && aboveG ids l f.id g.id) ∧ Below w5.heap.size w5 wq) (fun _ i _ => L.length - (intOf i).toNat)
          case atStart => exact ⟨0, Nat.zero_le _, rfl, by simp, HX.out.1⟩
          case round =>
            obtain ⟨j, hj, rfl, rfl, hbq⟩ := hrel
            by_cases hjl : j < L.length
            · have hji : (j : Int) < (L.length : Int) := by omega
              obtain ⟨g, hg⟩ : ∃ g, L[j]? = some g := ⟨_, List.getElem?_eq_getElem hjl⟩
              have hnx := any_next (p := fun g => decide (f.area < g.area) && aboveG ids l f.id g.id) hg
              obtain ⟨bb, ob, hA, hbb, hc⟩ := (R.out.2.2.1.step hbq).ctx (by omega)
              subst hA
              obtain ⟨f1, f2, f3⟩ := hc k f HX.out.2.1
              obtain ⟨g1, g2, g3⟩ := hc j g hg
              have hx1 := ext_cell (w := wr) (B := wr.heap.size) hbb
              obtain ⟨s, hs⟩ : ∃ s, s = (L.take j).any fun g => decide (f.area < g.area) && aboveG ids l f.id g.id := ⟨_, rfl⟩
              obtain ⟨u, hu⟩ : ∃ u, u = aboveG ids l f.id g.id := ⟨_, rfl⟩
              obtain ⟨q, hq⟩ : ∃ q, decide (f.area < g.area) = q := ⟨_, rfl⟩
              rw [← hs, ← hu, hq] at hnx
              rw [← hs]
              have HN := Lib.hid (And.intro hnx (And.intro hu.symm (And.intro (R.out.1.step hbq) (R.out.2.1.step hbq))))
              have HB := Lib.hid hbq
              clear hnx hs hu hg hc hbq
              cases s
              · cases q
                · go_wp2_with fail
                  refine wp_region_ext wr.heap.size (by kernel_rfl) (by kernel_rfl) ?_
                  repeat (go_big_quiet_step (fail))
                  refine wpQuiet_nil ?_
                  rintro _ ⟨x9, rfl⟩
                  have H9 := Lib.hid (below_step HB.out x9.below)
                  clear hx1 f1 f2 f3 g1 g2 g3
                  go_wp2_with fail
                  go_roundw
                  case rel => exact ⟨j + 1, by omega, by go_num, by rw [HN.out.1]; simp, H9.out⟩
                  case measure => simp [intOf]; omega
                · go_wp2_with fail
                  refine wp_region_ext wr.heap.size (by kernel_rfl) (by kernel_rfl) ?_
                  repeat (go_big_quiet_step ((go_at_call 38; exact above_to _ _ _ _ ids l _ _ u _ HN.out.2.2.1 HN.out.2.2.2 (by omega) (by omega) HN.out.2.1)))
                  refine wpQuiet_nil ?_
                  rintro _ ⟨x9, rfl⟩
                  have H9 := Lib.hid (below_step HB.out x9.below)
                  clear hx1 f1 f2 f3 g1 g2 g3
                  go_wp2_with fail
                  go_roundw
                  case rel => exact ⟨j + 1, by omega, by go_num, by rw [HN.out.1]; simp, H9.out⟩
                  case measure => simp [intOf]; omega
              · go_wp2_with fail
                refine wp_region_ext wr.heap.size (by kernel_rfl) (by kernel_rfl) ?_
                repeat (go_big_quiet_step (fail))
                refine wpQuiet_nil ?_
                rintro _ ⟨x9, rfl⟩
                have H9 := Lib.hid (below_step HB.out x9.below)
                clear hx1 f1 f2 f3 g1 g2 g3
                go_wp2_with fail
                go_roundw
                case rel => exact ⟨j + 1, by omega, by go_num, by rw [HN.out.1]; simp, H9.out⟩
                case measure => simp [intOf]; omega
            · have hjm : L.take j = L := List.take_of_length_le (by omega)
              rw [hjm, ← HX.out.2.2]
              obtain ⟨u, hu⟩ : ∃ u, u = decide ((k : Int) ∈ M) := ⟨_, rfl⟩
              have hh := hasInt_any A4 c4 M k wr (R.out.2.2.2.1.step hbq) (by omega)
              rw [← hu] at hh
              rw [← hu]
              have eu : (u != u) = false := by simp
              have HB := Lib.hid (And.intro hbq hh)
              clear hjm hbq hh hu
              go_wp2_with (go_at_call 32; go_must (refine HB.out.2.mono ?_); rintro e w9 ⟨rfl, rfl⟩)
              go_roundw
              case rel => exact ⟨k + 1, by omega, by go_num, HB.out.1⟩
              case measure => simp [intOf]; omega
        · have HB := Lib.hid hbl
          clear hbl
          go_wp2_with fail
          go_ret
          exact ⟨rfl, below_step R.out.2.2.2.2.2 HB.out⟩

theorem walk (A : Option Addr) (c : Nat) (z : List Int) (w : World) (h1 : z.length ≤ c) (h2 : Reads w w.heap.size 1 A z.length (cellsB z)) (h3 : ∀ b ∈ z, 0 ≤ b ∧ b ≤ 255) (h4 : c ≤ maxLen) :
    Calls Try.prog 9 #[.slice A z.length c] w fun e w2 => e = .returned (.bool true) ∧ Below w.heap.size w w2 := by
  by_cases hn : z.length ≤ 1048576
  · exact walk_short A c z w (Bytes.mk_ h1 h2 h3 h4) hn
  · have e0 : decide ((1048576 : Int) < (z.length : Int)) = true := decide_eq_true (by omega)
    go_enter Try.func9, Try.ntmps9
    go_wp2_with fail
    go_ret
    exact ⟨rfl, Below.refl _ _⟩

set_option linter.unusedVariables false
set_option maxRecDepth 100000 in
theorem lifted (os : Os) (started : os.Started) (H : Type) (enc : TypeId × Value → H) :
    ReturnsInHanded {} Try.checked os 9 .any (Rows.fnFindsOldSpec.pre6 enc Try.prog Try.f9 Rows.fnFindsOldRow.domain false) (Rows.fnFindsOldSpec.post enc Try.prog Try.f9 false true false false) := by
  refine returnsInHanded_of_change (C := Try.checked) lawOwn started (by kernel_rfl) Try.func9
    (ChangeSpec.witness6 (enc := enc) (C := Try.checked) false ⟨#[], #[.slice none 0 0], []⟩ 8 (by kernel_rfl) (by kernel_rfl) (by kernel_rfl) (by kernel_rfl)) ?_
  intro W base args ds gs before hval0 hW hcnd _
  have hval : ∀ (j : Nat) t v, Try.f9.params[j]? = some t → args[j]? = some v → Value.okWide Try.prog W .any base t v := hval0
  have hW' := hW
  obtain ⟨p, q, hA0, hV, rfl, hfz, hnd⟩ := hW
  have hA : DataW.TrodAll enc Try.prog W 0 (fun _ => true) true Try.f9.params.toList args.toList ds p := hA0
  rw [Try.params9] at hA hval
  obtain ⟨v0, vs0, d0, ds0, p0, q0, hargs, rfl, rfl, h0, r0⟩ := trodAll_cons hA
  obtain ⟨rfl, rfl, rfl⟩ := trodAll_nil r0
  obtain rfl : args = #[v0] := by cases args; simp_all
  obtain ⟨rfl, rfl⟩ := trodVars_none hV
  have k0 := h0
  have lt0 : ∀ x ∈ p0, x.block < W.heap.size := by obtain ⟨m, hm⟩ := k0; exact DataW.trod_lt m _ _ _ hm
  obtain ⟨a0, len0, cap0, rfl⟩ := okWide_slice Try.underlying22 (hval 0 22 v0 rfl rfl)
  obtain ⟨z0, hl0, hc0, hr0, hb0, hm0⟩ : ∃ z : List Int, len0 = z.length ∧ len0 ≤ cap0 ∧ Reads W W.heap.size 1 a0 len0 (cellsB z) ∧ (∀ b ∈ z, 0 ≤ b ∧ b ≤ 255) ∧ cap0 ≤ maxLen := by
    obtain ⟨fuel, hf⟩ := h0
    exact open_bytes Try.underlying22 Try.underlying5 (by kernel_rfl) (by simpa [Value.cells] using hf)
  subst hl0
  clear hA0 hval0
  refine (walk a0 cap0 z0 W hc0 hr0 hb0 hm0).mono fun e W' ⟨he, bel⟩ => ?_
  subst he
  exact ⟨_, rfl, _, _, _, [], _, [], hW', trodAll_mk1 (shut_bool Try.underlying4 _), (trodAll_cons_mk (Below.trod lawLaid (by kernel_rfl) (of_decide_eq_true (by kernel_rfl)) k0 bel lt0) trodAll_mk0), rfl, bel.frame _, fun h => by cases h⟩

theorem closed : joinedFacts Try.checked.prog 9 Try.f9 Rows.fnFindsOldSpec Rows.fnFindsOldRow = true := by
  unfold joinedFacts
  repeat (refine and_t ?_ (by first | (with_reducible exact ent) | (with_reducible refine lif_c ?_; kernel_rfl) | (with_reducible refine mak_c ?_; kernel_rfl) | kernel_rfl))
  kernel_rfl
theorem proved : Rows.FnFindsOldSaid :=
  OpenClaim.holds_of_wide 9 Try.f9 rfl rfl rfl rfl rfl rfl rfl ⟨rfl, rfl, rfl, rfl, rfl⟩ rfl rfl rfl rfl rfl (by kernel_rfl) Try.func9 closed
    (of_decide_eq_true (by kernel_rfl)) (by unfold Func.isWrapper; rw [if_neg (of_decide_eq_false (by kernel_rfl))]; exact ⟨rfl, rfl⟩)
    (fun os started H enc _ => lifted os started H enc)
#print axioms proved
end Go.Proofs.Ytopdmcnbchpihaa.lawFindsOld
