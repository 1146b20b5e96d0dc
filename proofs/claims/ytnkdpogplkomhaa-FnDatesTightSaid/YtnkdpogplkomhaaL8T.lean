/-
  Whatever bytes are given: of contexts, relations and bounds drawn from them, the first years of the program's spans fit together, and so do the last ones; the program's dates are the model's. No condition.
-/
import Derived.Test.YtnkdpogplkomhaaEnt
import Derived.Test.YtnkdpogplkomhaaLif
import Derived.Test.YtnkdpogplkomhaaMak
import Derived.Test.YtnkdpogplkomhaaZz
import Derived.Test.YtnkdpogplkomhaaId
import Derived.Test.YtnkdpogplkomhaaOpen
import Derived.Deep.RegionHeld3
namespace Go.Proofs.Ytnkdpogplkomhaa.lawDatesTight
open Go.ChangeShapes Go.WideShapes Go.ChangeAt Go.RowKit

set_option maxHeartbeats 4000000 in
set_option maxRecDepth 100000 in
theorem walk_short (A : Option Addr) (c : Nat) (z : List Int) (w : World) (h : Bytes w A c z) (hn : z.length ≤ 1048576) :
    Calls Try.prog 4 #[.slice A z.length c] w fun e w2 => e = .returned (.bool true) ∧ Below w.heap.size w w2 := by
  have e0 : decide ((1048576 : Int) < (z.length : Int)) = false := decide_eq_false (by omega)
  go_enter Try.func4, Try.ntmps4
  go_wp2_with fail
  refine (dDates_any A c z _ h).mono ?_
  rintro e w2 ⟨v1, v2, v3, ids, l, bs, rfl, ho1, ho2, ho3, hl1, hl2, hl3, hb2⟩
  obtain ⟨A1, c1, hv1, hcap1, hr1⟩ := own_slice ho1
  obtain ⟨A2, c2, hv2, hcap2, hr2⟩ := own_slice ho2
  obtain ⟨A3, c3, hv3, hcap3, hr3⟩ := own_slice ho3
  subst hv1 hv2 hv3
  have HR := Lib.hid (And.intro hb2 (And.intro hr1 (And.intro hr2 hr3)))
  clear ho1 ho2 ho3 hb2 h hr1 hr2 hr3
  obtain ⟨i0, hi0, hz0, hz1, hz2⟩ := info_parts infoInt
  obtain ⟨M, hM⟩ : ∃ M, M = datesD ids l bs := ⟨_, rfl⟩
  obtain ⟨o, ho⟩ : ∃ o, o = okD ids l bs := ⟨_, rfl⟩
  have hMl : M.length ≤ 13 := by rw [hM]; exact Nat.le_trans (datesD_len ids l bs) (by omega)
  have q2 := eqLS_self M
  have eb : (o != o) = false := by simp
  have ec : (o == o) = true := by simp
  have HC := Lib.hid (And.intro hM ho)
  clear hM ho
  go_wp2_with fail
  refine (iDatesOf_any _ _ _ _ _ _ ids l bs _ HR.out.2.1 HR.out.2.2.1 HR.out.2.2.2 (by omega) (by omega) (by omega)).mono ?_
  rintro e w3 ⟨v4, rfl, hb3, ho4⟩
  rw [← HC.out.1] at ho4
  rw [← HC.out.2]
  obtain ⟨A4, c4, hv4, hcap4, hr4⟩ := own_slice ho4
  subst hv4
  have H3 := Lib.hid (And.intro hb3 hr4)
  clear hb3 ho4 hr4
  go_wp2_with fail
  refine (sDatesOf_any _ _ _ _ _ _ ids l bs _ (HR.out.2.1.step H3.out.1) (HR.out.2.2.1.step H3.out.1) (HR.out.2.2.2.step H3.out.1) (by omega) (by omega) (by omega)).mono ?_
  rintro e w4 ⟨v5, rfl, hb4, ho5⟩
  rw [← HC.out.1] at ho5
  rw [← HC.out.2]
  obtain ⟨A5, c5, hv5, hcap5, hr5⟩ := own_slice ho5
  subst hv5
  have H4 := Lib.hid (And.intro hb4 hr5)
  clear hb4 ho5 hr5
  go_wp2_with fail
  refine (sameSpan_any _ _ _ _ M M _ (H3.out.2.step H4.out.1) H4.out.2 (by omega)).mono ?_
  rintro e w5 ⟨rfl, hb5⟩
  have k5 := below_step H4.out.1 hb5
  have k25 := below_step H3.out.1 k5
  have R := Lib.hid (And.intro (HR.out.2.1.step k25) (And.intro (HR.out.2.2.1.step k25) (And.intro (HR.out.2.2.2.step k25) (And.intro (H3.out.2.step k5) (below_step HR.out.1 k25)))))
  have R4 := Lib.hid (H4.out.2.step hb5)
  clear hb5 k5 k25
  cases o
  · clear eb ec
    go_wp2_with fail
    refine (sameSpan_any _ _ _ _ M M _ R.out.2.2.2.1 R4.out (by omega)).mono ?_
    rintro e w6 ⟨rfl, hb6⟩
    go_wp2_with fail
    go_ret
    exact ⟨rfl, below_step R.out.2.2.2.2 hb6⟩
  · clear eb ec
    have hok : okD ids l bs = true := HC.out.2.symm
    have hMe : M = allD ids l bs := by rw [HC.out.1, datesD_ok hok]
    have hMn : M.length = ids.length := by rw [hMe, allD_len]
    have hn12 : ids.length ≤ 12 := validO_len (okG_parts (ordOk_okG (argsD_parts (okD_parts hok).1).1)).1
    have hat : ∀ i, i < M.length → M[i]? = some ⟨lowD ids l bs i, highD ids l bs i⟩ := fun i hi => by rw [hMe]; exact allD_at (by omega)
    have hF1 : fitD ids l bs (M.map Sp.lo) = true := first_fit hok (by simp [hMn]) fun i hi => by
      have := hat i (by omega)
      simp [List.getD_eq_getElem?_getD, this]
    have hF2 : fitD ids l bs (M.map Sp.hi) = true := last_fit hok (by simp [hMn]) fun i hi => by
      have := hat i (by omega)
      simp [List.getD_eq_getElem?_getD, this]
    have hB1 : Below w5.heap.size w5 ((w5.alloc (.cells #[] 3)).alloc (.cells #[] 3)) := ((Below.refl _ _).alloc (Nat.le_refl _) _).alloc (by simp) _
    have hO1 : ((w5.alloc (.cells #[] 3)).alloc (.cells #[] 3)).ownsRow w5.heap.size 3 1 (.slice (some ⟨w5.heap.size, 0, none⟩) 0 0) 0 [] := (own_empty (Nat.le_refl _) rfl).alloc _
    have hO2 : ((w5.alloc (.cells #[] 3)).alloc (.cells #[] 3)).ownsRow w5.heap.size 3 1 (.slice (some ⟨w5.heap.size + 1, 0, none⟩) 0 0) 0 [] := own_empty (by simp) (by simp)
    have HF := Lib.hid (And.intro hF1 (And.intro hF2 (And.intro hat (And.intro hB1 (And.intro hO1 hO2)))))
    clear hok hMe hMn hat hF1 hF2 hB1 hO1 hO2
    go_wp2_with fail
    go_loopw [10, 11, 12] (fun u v i wr => ∃ k : Nat, k ≤ M.length ∧ i = .int .i64 k ∧ Below w5.heap.size w5 wr ∧ wr.ownsRow w5.heap.size 3 1 u k (cellsI ((M.take k).map Sp.lo)) ∧ wr.ownsRow w5.heap.size 3 1 v k (cellsI ((M.take k).map Sp.hi)) ∧ (∀ q, u.ownBlock = some q → v.ownBlock ≠ some q)) (fun _ _ i _ => M.length - (intOf i).toNat)
    case atStart => exact ⟨0, Nat.zero_le _, rfl, HF.out.2.2.2.1, HF.out.2.2.2.2.1, HF.out.2.2.2.2.2, fun q h1 h2 => by simp [Value.ownBlock] at h1 h2; omega⟩
    case round =>
      obtain ⟨k, hk, rfl, hbl, hu, hv, hfar⟩ := hrel
      have hsz := hbl.size
      obtain ⟨Au, cu, hvu, _, _⟩ := own_slice hu
      obtain ⟨Av, cv, hvv, _, _⟩ := own_slice hv
      subst hvu hvv
      by_cases hlt : k < M.length
      · obtain ⟨b, off, hA, hbb, hc⟩ := (R.out.2.2.2.1.below hbl).sp (by omega)
        subst hA
        obtain ⟨s, hs⟩ : ∃ s, M[k]? = some s := ⟨_, List.getElem?_eq_getElem hlt⟩
        obtain ⟨f1, f2⟩ := hc k s hs
        have hkl : (k : Int) < (M.length : Int) := by omega
        have hbw : b < wr.heap.size := by omega
        have HX := Lib.hid (And.intro hbl (And.intro hu (And.intro hv (And.intro hfar hs))))
        have hkeep : ∀ W : World, Below w5.heap.size w5 W → W.cell? ⟨b, off + k * 2 + 1, none⟩ = some (.int .i64 s.hi) := fun W hW => by
          have h1 := (R.out.2.2.2.1.below hW).sp (by omega)
          obtain ⟨b2, off2, hA2, _, hc2⟩ := h1
          injection hA2 with hA2
          injection hA2 with e1 e2 e3
          subst e1 e2
          exact (hc2 k s HX.out.2.2.2.2).2
        have HK := Lib.hid hkeep
        clear hbl hu hv hfar hs hc hkeep f2
        have hbA : Below wr.heap.size wr (wr.alloc (.cells #[.int .i64 s.lo] 3)) := (Below.refl _ _).alloc (Nat.le_refl _) _
        have HA := Lib.hid hbA
        clear hbA
        go_wp2_with (first
          | (at_builtin
             refine wpList_append_reads _ rfl (.tmp 65) (.tmp 71) _ rfl w5.heap.size 3 i0 _ 1 8 Try.underlying23 hi0 hz0 hz1 hz2 rfl (by omega) (.slice Au k cu) k _ rfl (own_below HX.out.2.1 HA.out) (wr.heap.size + 1) _ 1 1 (cellsI [s.lo]) rfl (reads_int (by omega)) (cellsI_one _) (by simp only [maxLen]; omega) (by omega) (by simp; omega) ?_
             intro v7 w7 hown7 hg7 hat7
             have hb7 := app_below HX.out.2.1 (Nat.le_refl _) hsz hg7
             have hv7 := own_other (own_below HX.out.2.2.1 HA.out) (own_below HX.out.2.1 HA.out) (fun q h1 h2 => HX.out.2.2.2.1 q h2 h1) hg7
             have K7 := Lib.hid (And.intro (HX.out.1.trans hb7) (And.intro hown7 (And.intro hv7 hat7)))
             have f2 := HK.out w7 K7.out.1
             have hs7 := K7.out.1.size
             clear hown7 hg7 hat7 hb7 hv7)
          | (at_builtin
             go_must (refine wpList_append_reads _ rfl (.tmp 73) (.tmp 79) _ rfl w5.heap.size 3 i0 _ 1 8 Try.underlying23 hi0 hz0 hz1 hz2 rfl (by omega) (.slice Av k cv) k _ rfl (K7.out.2.2.1.alloc _) (w7.heap.size + 1) _ 1 1 (cellsI [s.hi]) rfl (reads_int (by omega)) (cellsI_one _) (by simp only [maxLen]; omega) (by omega) (by simp; omega) ?_)
             intro v8 w8 hown8 hg8 hat8
             have hb8 := app_below K7.out.2.2.1 (Nat.le_refl _) hs7 hg8))
        have hfar7 : ∀ q, v7.ownBlock = some q → (Value.slice Av k cv).ownBlock ≠ some q := fun q h1 h2 => by
          rcases K7.out.2.2.2 with e | e
          · exact HX.out.2.2.2.1 q (e.symm.trans h1) h2
          · rw [e] at h1
            injection h1 with h1
            have := (HX.out.2.2.1.lt q h2).2
            simp at h1
            omega
        have hu8 := own_other (K7.out.2.1.alloc (.cells #[.int .i64 s.hi] 3)) (K7.out.2.2.1.alloc (.cells #[.int .i64 s.hi] 3)) hfar7 hg8
        have hfar8 : ∀ q, v7.ownBlock = some q → v8.ownBlock ≠ some q := fun q h1 h2 => by
          rcases hat8 with e | e
          · exact hfar7 q h1 (e.symm.trans h2)
          · rw [e] at h2
            injection h2 with h2
            have := (K7.out.2.1.lt q h1).2
            simp at h2
            omega
        have K8 := Lib.hid (And.intro (K7.out.1.trans hb8) (And.intro hu8 (And.intro hown8 hfar8)))
        clear hown8 hg8 hat8 hb8 hfar7 hu8 hfar8
        go_roundw
        case rel =>
          have e1 : cellsI ((M.take (k + 1)).map Sp.lo) = cellsI ((M.take k).map Sp.lo) ++ cellsI [s.lo] := by
            rw [List.take_add_one, HX.out.2.2.2.2]; simp [cellsI]
          have e2 : cellsI ((M.take (k + 1)).map Sp.hi) = cellsI ((M.take k).map Sp.hi) ++ cellsI [s.hi] := by
            rw [List.take_add_one, HX.out.2.2.2.2]; simp [cellsI]
          exact ⟨k + 1, by omega, by go_num, K8.out.1, by rw [e1]; exact K8.out.2.1, by rw [e2]; exact K8.out.2.2.1, K8.out.2.2.2⟩
        case measure => simp [intOf]; omega
      · have hkl : k = M.length := by omega
        rw [hkl, List.take_length] at hu hv
        have hra := own_reads hu
        have hrb := own_reads hv
        rw [show M.length = (M.map Sp.lo).length from by simp] at hra
        rw [show M.length = (M.map Sp.hi).length from by simp] at hrb
        have HX := Lib.hid (And.intro hbl (And.intro hra hrb))
        have hfa := iDatesFit_any A1 A2 A3 Au c1 c2 c3 cu ids l bs (M.map Sp.lo) wr (R.out.1.step hbl) (R.out.2.1.step hbl) (R.out.2.2.1.step hbl) hra (by omega) (by omega) (by omega) (by simp; omega)
        have hfb := fun (W : World) (hW : Below wr.heap.size wr W) => iDatesFit_any A1 A2 A3 Av c1 c2 c3 cv ids l bs (M.map Sp.hi) W (R.out.1.step (below_step hbl hW)) (R.out.2.1.step (below_step hbl hW)) (R.out.2.2.1.step (below_step hbl hW)) (hrb.step hW) (by omega) (by omega) (by omega) (by simp; omega)
        rw [HF.out.1] at hfa
        rw [HF.out.2.1] at hfb
        simp only [List.length_map] at hfa hfb
        rw [← hkl] at hfa hfb
        have HY := Lib.hid (And.intro hfa hfb)
        have HE := Lib.hid hkl
        clear hkl hbl hu hv hfar hra hrb hfa hfb
        have hlt2 : decide ((k : Int) < (M.length : Int)) = false := decide_eq_false (by omega)
        go_wp2_with fail
        refine HY.out.1.mono ?_
        rintro e w8 ⟨rfl, hb8⟩
        go_wp2_with fail
        refine (HY.out.2 _ hb8).mono ?_
        rintro e w9 ⟨rfl, hb9⟩
        go_wp2_with fail
        go_ret
        exact ⟨rfl, below_step R.out.2.2.2.2 (below_step HX.out.1 (below_step hb8 hb9))⟩

theorem walk (A : Option Addr) (c : Nat) (z : List Int) (w : World) (h1 : z.length ≤ c) (h2 : Reads w w.heap.size 1 A z.length (cellsB z)) (h3 : ∀ b ∈ z, 0 ≤ b ∧ b ≤ 255) (h4 : c ≤ maxLen) :
    Calls Try.prog 4 #[.slice A z.length c] w fun e w2 => e = .returned (.bool true) ∧ Below w.heap.size w w2 := by
  by_cases hn : z.length ≤ 1048576
  · exact walk_short A c z w (Bytes.mk_ h1 h2 h3 h4) hn
  · have e0 : decide ((1048576 : Int) < (z.length : Int)) = true := decide_eq_true (by omega)
    go_enter Try.func4, Try.ntmps4
    go_wp2_with fail
    go_ret
    exact ⟨rfl, Below.refl _ _⟩

set_option linter.unusedVariables false
set_option maxRecDepth 100000 in
theorem lifted (os : Os) (started : os.Started) (H : Type) (enc : TypeId × Value → H) :
    ReturnsInHanded {} Try.checked os 4 .any (Rows.fnDatesTightSpec.pre6 enc Try.prog Try.f4 Rows.fnDatesTightRow.domain false) (Rows.fnDatesTightSpec.post enc Try.prog Try.f4 false true false false) := by
  refine returnsInHanded_of_change (C := Try.checked) lawOwn started (by kernel_rfl) Try.func4
    (ChangeSpec.witness6 (enc := enc) (C := Try.checked) false ⟨#[], #[.slice none 0 0], []⟩ 8 (by kernel_rfl) (by kernel_rfl) (by kernel_rfl) (by kernel_rfl)) ?_
  intro W base args ds gs before hval0 hW hcnd _
  have hval : ∀ (j : Nat) t v, Try.f4.params[j]? = some t → args[j]? = some v → Value.okWide Try.prog W .any base t v := hval0
  have hW' := hW
  obtain ⟨p, q, hA0, hV, rfl, hfz, hnd⟩ := hW
  have hA : DataW.TrodAll enc Try.prog W 0 (fun _ => true) true Try.f4.params.toList args.toList ds p := hA0
  rw [Try.params4] at hA hval
  obtain ⟨v0, vs0, d0, ds0, p0, q0, hargs, rfl, rfl, h0, r0⟩ := trodAll_cons hA
  obtain ⟨rfl, rfl, rfl⟩ := trodAll_nil r0
  obtain rfl : args = #[v0] := by cases args; simp_all
  obtain ⟨rfl, rfl⟩ := trodVars_none hV
  have k0 := h0
  have lt0 : ∀ x ∈ p0, x.block < W.heap.size := by obtain ⟨m, hm⟩ := k0; exact DataW.trod_lt m _ _ _ hm
  obtain ⟨a0, len0, cap0, rfl⟩ := okWide_slice Try.underlying22 (hval 0 22 v0 rfl rfl)
  obtain ⟨z0, hl0, hc0, hr0, hb0, hm0⟩ : ∃ z : List Int, len0 = z.length ∧ len0 ≤ cap0 ∧ Reads W W.heap.size 1 a0 len0 (cellsB z) ∧ (∀ b ∈ z, 0 ≤ b ∧ b ≤ 255) ∧ cap0 ≤ maxLen := by
    obtain ⟨fuel, hf⟩ := h0
    exact open_bytes Try.underlying22 Try.underlying5 (by kernel_rfl) (by simpa [Value.cells] using hf)
  subst hl0
  clear hA0 hval0
  refine (walk a0 cap0 z0 W hc0 hr0 hb0 hm0).mono fun e W' ⟨he, bel⟩ => ?_
  subst he
  exact ⟨_, rfl, _, _, _, [], _, [], hW', trodAll_mk1 (shut_bool Try.underlying4 _), (trodAll_cons_mk (Below.trod lawLaid (by kernel_rfl) (of_decide_eq_true (by kernel_rfl)) k0 bel lt0) trodAll_mk0), rfl, bel.frame _, fun h => by cases h⟩

theorem closed : joinedFacts Try.checked.prog 4 Try.f4 Rows.fnDatesTightSpec Rows.fnDatesTightRow = true := by
  unfold joinedFacts
  repeat (refine and_t ?_ (by first | (with_reducible exact ent) | (with_reducible refine lif_c ?_; kernel_rfl) | (with_reducible refine mak_c ?_; kernel_rfl) | kernel_rfl))
  kernel_rfl
theorem proved : Rows.FnDatesTightSaid :=
  OpenClaim.holds_of_wide 4 Try.f4 rfl rfl rfl rfl rfl rfl rfl ⟨rfl, rfl, rfl, rfl, rfl⟩ rfl rfl rfl rfl rfl (by kernel_rfl) Try.func4 closed
    (of_decide_eq_true (by kernel_rfl)) (by unfold Func.isWrapper; rw [if_neg (of_decide_eq_false (by kernel_rfl))]; exact ⟨rfl, rfl⟩)
    (fun os started H enc _ => lifted os started H enc)
#print axioms proved
end Go.Proofs.Ytnkdpogplkomhaa.lawDatesTight
