/-
  Whatever bytes are given: of contexts, relations and a context drawn from them, the program's list of what lies directly below is the model's, and no context lies between. No condition.
-/
import Derived.Test.YtjkjnicgbfpjiaaEnt
import Derived.Test.YtjkjnicgbfpjiaaLif
import Derived.Test.YtjkjnicgbfpjiaaMak
import Derived.Test.YtjkjnicgbfpjiaaDm
import Derived.Test.YtjkjnicgbfpjiaaJb
import Derived.Test.YtjkjnicgbfpjiaaNb
import Derived.Test.YtjkjnicgbfpjiaaV5
import Derived.Test.YtjkjnicgbfpjiaaLw
import Derived.Test.YtjkjnicgbfpjiaaInts
import Derived.Test.YtjkjnicgbfpjiaaOpen
import Derived.Deep.RegionHeld3
namespace Go.Proofs.Ytjkjnicgbfpjiaa.lawBelowNone
open Go.ChangeShapes Go.WideShapes Go.ChangeAt Go.RowKit

theorem belL_split (h : Int) (L : List Ctx) (k : Nat) : belL h L = belL h (L.take k) ++ belL h (L.drop k) := by
  unfold belL
  rw [← List.map_append, ← List.filter_append, List.take_append_drop]
theorem belL_at {h : Int} {L : List Ctx} {k : Nat} {r : Ctx} (hk : L[k]? = some r) (h1 : r.area = 1) (h2 : r.id = h) : (belL h L)[(belL h (L.take k)).length]? = some r.kind := by
  rw [belL_split h L (k + 1), belL_next hk, if_pos ⟨h1, h2⟩, List.append_assoc, List.getElem?_append_right (Nat.le_refl _)]
  simp
section
variable {ids : List Int} {l : List Ctx} {id : Int}
theorem head_lab (hok : okG ids l = true) (hin : id ∈ ids) : labG ids (groupsG ids l) (labG ids (groupsG ids l) id) = labG ids (groupsG ids l) id := by
  obtain ⟨j, _, hj, hg⟩ := (headsG_all hok).2 _ _ (labG_of (groupsG_len ids l) hin)
  exact labG_at (okG_parts hok).1 hj hg
theorem below_above (ho : ordOkG ids l = true) (hin : id ∈ ids) {r : Ctx} (hr : r ∈ matG ids l) (h1 : r.area = 1) (h2 : r.id = labG ids (groupsG ids l) id) : aboveG ids l id r.kind = true := by
  have hok := ordOk_ok ho
  obtain ⟨_, m1, m2⟩ := mat_okR ho r hr
  have h3 : upG ids l r.id r.kind = true := by rw [← mat_up ho]; exact upG_direct hr h1
  have h4 : labG ids (groupsG ids l) id = labG ids (groupsG ids l) r.id := by rw [h2, head_lab hok hin]
  have h5 : upG ids l id r.kind = true := by rw [(upG_same (c := r.kind) h4).1]; exact h3
  simp [aboveG, hok, hin, m2, h5]
theorem below_none (ho : ordOkG ids l = true) (hin : id ∈ ids) {x y : Int} (hy : y ∈ belowG ids l id) (h1 : aboveG ids l id x = true) : aboveG ids l x y = false := by
  have hok := ordOk_ok ho
  have hv := (okG_parts hok).1
  rw [belowG_ok ho hin] at hy
  obtain ⟨r, hr, ha, hi, rfl⟩ := mem_belL.1 hy
  rcases mem_matOf.1 hr with ⟨p, _, _, rfl⟩ | ⟨p, q, hp, hq, hc, rfl⟩
  · cases ha
  · obtain ⟨c1, c2⟩ := covB_iff.1 hc
    have g2 := (clG_head hok c1).2
    have e1 : hcG ids (groupsG ids l) id = p := by
      unfold hcG
      rw [← hi]
      exact placeI_own hv (by simp [hp])
    have e2 : hcG ids (groupsG ids l) (ids.getD q 0) = q := hc_own hok hq g2
    have h2 : x ∈ ids ∧ upG ids l id x = true := by
      unfold aboveG at h1
      simp only [Bool.and_eq_true, decide_eq_true_eq] at h1
      exact ⟨h1.2.2.1, h1.2.2.2⟩
    have h3 := h2.2
    rw [up_cl, e1] at h3
    have h4 := c2 _ (hcG_lt hok h2.1) h3
    have h5 : upG ids l x (ids.getD q 0) = false := by rw [up_cl, e2]; exact h4
    unfold aboveG
    rw [h5]
    simp
end
set_option maxHeartbeats 2000000 in
set_option maxRecDepth 100000 in
theorem walk_short (A : Option Addr) (c : Nat) (z : List Int) (w : World) (h : Bytes w A c z) (hn : z.length ≤ 1048576) :
    Calls Try.prog 12 #[.slice A z.length c] w fun e w2 => e = .returned (.bool true) ∧ Below w.heap.size w w2 := by
  have e0 : decide ((1048576 : Int) < (z.length : Int)) = false := decide_eq_false (by omega)
  go_enter Try.func12, Try.ntmps12
  go_wp2_with fail
  refine (dMatBel_any A c z _ h).mono ?_
  rintro e w2 ⟨v1, v2, ids, l, id, rfl, ho1, ho2, hl1, hl2, hb2⟩
  obtain ⟨A1, c1, hv1, hcap1, hr1⟩ := own_slice ho1
  obtain ⟨A2, c2, hv2, hcap2, hr2⟩ := own_slice ho2
  subst hv1 hv2
  have HR := Lib.hid (And.intro hb2 (And.intro hr1 hr2))
  clear ho1 ho2 hb2 h hr1 hr2
  obtain ⟨M, hM⟩ : ∃ M, M = belowG ids l id := ⟨_, rfl⟩
  have hMl : M.length ≤ 31 := by rw [hM]; exact Nat.le_trans (belowG_len ids l id) (by omega)
  have q2 := eqLI_self M
  have HC := Lib.hid (And.intro hM trivial)
  clear hM
  go_wp2_with fail
  refine (iMatBelow_any _ _ _ _ ids l id _ HR.out.2.1 HR.out.2.2 (by omega) (by omega)).mono ?_
  rintro e w3 ⟨v3, rfl, hb3, ho3⟩
  rw [← HC.out.1] at ho3
  obtain ⟨A3, c3, hv3, hcap3, hr3⟩ := own_slice ho3
  subst hv3
  have H3 := Lib.hid (And.intro hb3 hr3)
  clear hb3 ho3 hr3
  go_wp2_with fail
  refine (sMatBelow_any _ _ _ _ ids l id _ (HR.out.2.1.step H3.out.1) (HR.out.2.2.step H3.out.1) (by omega) (by omega)).mono ?_
  rintro e w4 ⟨v4, rfl, hb4, ho4⟩
  rw [← HC.out.1] at ho4
  obtain ⟨A4, c4, hv4, hcap4, hr4⟩ := own_slice ho4
  subst hv4
  have H4 := Lib.hid (And.intro hb4 hr4)
  clear hb4 ho4 hr4
  go_wp2_with fail
  refine (sameInts_any _ _ _ _ M M _ (H3.out.2.step H4.out.1) H4.out.2 (by omega)).mono ?_
  rintro e w5 ⟨rfl, hb5⟩
  have k5 := below_step H4.out.1 hb5
  have k25 := below_step H3.out.1 k5
  have R := Lib.hid (And.intro (HR.out.2.1.step k25) (And.intro (HR.out.2.2.step k25) (And.intro (H3.out.2.step k5) (below_step HR.out.1 k25))))
  have R4 := Lib.hid (H4.out.2.step hb5)
  clear hb5 k5 k25
  rcases Nat.eq_zero_or_pos M.length with h0 | hpos
  · have e9 : ((M.length : Int) == 0) = true := by simp [h0]
    clear h0
    go_wp2_with fail
    refine (sameInts_any _ _ _ _ M M _ R.out.2.2.1 R4.out (by omega)).mono ?_
    rintro e w6 ⟨rfl, hb6⟩
    go_wp2_with fail
    go_ret
    exact ⟨rfl, below_step R.out.2.2.2 hb6⟩
  · have e9 : ((M.length : Int) == 0) = false := by rw [beq_eq_false_iff_ne]; omega
    have hno : ∀ x y : Int, y ∈ M → aboveG ids l id x = true → aboveG ids l x y = false := by
      cases ho : ordOkG ids l
      · rw [HC.out.1, belowG_no1 ho] at hpos
        simp at hpos
      · by_cases hin : id ∈ ids
        · intro x y hy h1
          rw [HC.out.1] at hy
          exact below_none ho hin hy h1
        · rw [HC.out.1, belowG_no2 hin] at hpos
          simp at hpos
    have HN := Lib.hid hno
    clear hno
    go_wp2_with fail
    go_loopw [8] (fun v wr => ∃ i : Nat, i ≤ M.length ∧ v = .int .i64 i ∧ Below w5.heap.size w5 wr) (fun v _ => M.length - (intOf v).toNat)
    case atStart => exact ⟨0, Nat.zero_le _, rfl, Below.refl _ _⟩
    case round =>
      obtain ⟨i, hi, rfl, hbl⟩ := hrel
      have HB := Lib.hid hbl
      clear hbl
      by_cases hli : i < M.length
      · have hii : (i : Int) < (M.length : Int) := by omega
        obtain ⟨y, hy⟩ : ∃ y, M[i]? = some y := ⟨_, List.getElem?_eq_getElem hli⟩
        have HY := Lib.hid hy
        clear hy
        go_wp2_with fail
        go_loopw [9] (fun v wr => ∃ k : Nat, k ≤ ids.length ∧ v = .int .i64 k ∧ Below w5.heap.size w5 wr) (fun v _ => ids.length - (intOf v).toNat)
        case atStart => exact ⟨0, Nat.zero_le _, rfl, HB.out⟩
        case round =>
          obtain ⟨k, hk, rfl, hbk⟩ := hrel
          by_cases hlk : k < ids.length
          · have hkk : (k : Int) < (ids.length : Int) := by omega
            obtain ⟨x, hx⟩ : ∃ x, ids[k]? = some x := ⟨_, List.getElem?_eq_getElem hlk⟩
            obtain ⟨b1, o1, hA1, hbb1, hc1⟩ := (R.out.1.step hbk).ints (by omega)
            obtain ⟨b3, o3, hA3, hbb3, hc3⟩ := (R.out.2.2.1.step hbk).ints (by omega)
            subst hA1 hA3
            have g1 := hc1 k _ hx
            have g3 := hc3 i _ HY.out
            have hx1 := ext_cell (w := wr) (B := wr.heap.size) hbb1
            have hx3 := ext_cell (w := wr) (B := wr.heap.size) hbb3
            have HQ := Lib.hid (And.intro (R.out.1.step hbk) (And.intro (R.out.2.1.step hbk) hbk))
            have hno := HN.out x y (List.mem_of_getElem? HY.out)
            clear hc1 hc3 hx hbk
            cases h1 : aboveG ids l id x
            · clear hno
              have HT := Lib.hid h1
              clear h1
              go_wp2_with fail
              refine wp_region_ext wr.heap.size (by kernel_rfl) (by kernel_rfl) ?_
              repeat (go_big_quiet_step ((go_at_call 37; exact above_to _ _ _ _ ids l _ _ false _ HQ.out.1 HQ.out.2.1 (by omega) (by omega) HT.out)))
              refine wpQuiet_nil ?_
              rintro _ ⟨x9, rfl⟩
              have H9 := Lib.hid (below_step HQ.out.2.2 x9.below)
              clear hx1 hx3 g1 g3
              go_wp2_with fail
              go_roundw
              case rel => exact ⟨k + 1, by omega, by go_num, H9.out⟩
              case measure => simp [intOf]; omega
            · have h2 := hno h1
              have HT := Lib.hid (And.intro h1 h2)
              clear hno h1 h2
              go_wp2_with fail
              refine wp_region_ext wr.heap.size (by kernel_rfl) (by kernel_rfl) ?_
              iterate 8 (go_big_quiet_step ((go_at_call 37; exact above_to _ _ _ _ ids l _ _ true _ HQ.out.1 HQ.out.2.1 (by omega) (by omega) HT.out.1)))
              repeat (go_big_quiet_step ((go_at_call 37; exact above_to _ _ _ _ ids l _ _ false _ HQ.out.1 HQ.out.2.1 (by omega) (by omega) HT.out.2)))
              refine wpQuiet_nil ?_
              rintro _ ⟨x9, rfl⟩
              have H9 := Lib.hid (below_step HQ.out.2.2 x9.below)
              clear hx1 hx3 g1 g3
              go_wp2_with fail
              go_roundw
              case rel => exact ⟨k + 1, by omega, by go_num, H9.out⟩
              case measure => simp [intOf]; omega
          · go_wp2_with fail
            go_roundw
            case rel => exact ⟨i + 1, by omega, by go_num, hbk⟩
            case measure => simp [intOf]; omega
      · go_wp2_with fail
        go_ret
        exact ⟨rfl, below_step R.out.2.2.2 HB.out⟩

theorem walk (A : Option Addr) (c : Nat) (z : List Int) (w : World) (h1 : z.length ≤ c) (h2 : Reads w w.heap.size 1 A z.length (cellsB z)) (h3 : ∀ b ∈ z, 0 ≤ b ∧ b ≤ 255) (h4 : c ≤ maxLen) :
    Calls Try.prog 12 #[.slice A z.length c] w fun e w2 => e = .returned (.bool true) ∧ Below w.heap.size w w2 := by
  by_cases hn : z.length ≤ 1048576
  · exact walk_short A c z w (Bytes.mk_ h1 h2 h3 h4) hn
  · have e0 : decide ((1048576 : Int) < (z.length : Int)) = true := decide_eq_true (by omega)
    go_enter Try.func12, Try.ntmps12
    go_wp2_with fail
    go_ret
    exact ⟨rfl, Below.refl _ _⟩

set_option linter.unusedVariables false
set_option maxRecDepth 100000 in
theorem lifted (os : Os) (started : os.Started) (H : Type) (enc : TypeId × Value → H) :
    ReturnsInHanded {} Try.checked os 12 .any (Rows.fnBelowNoneSpec.pre6 enc Try.prog Try.f12 Rows.fnBelowNoneRow.domain false) (Rows.fnBelowNoneSpec.post enc Try.prog Try.f12 false true false false) := by
  refine returnsInHanded_of_change (C := Try.checked) lawOwn started (by kernel_rfl) Try.func12
    (ChangeSpec.witness6 (enc := enc) (C := Try.checked) false ⟨#[], #[.slice none 0 0], []⟩ 8 (by kernel_rfl) (by kernel_rfl) (by kernel_rfl) (by kernel_rfl)) ?_
  intro W base args ds gs before hval0 hW hcnd _
  have hval : ∀ (j : Nat) t v, Try.f12.params[j]? = some t → args[j]? = some v → Value.okWide Try.prog W .any base t v := hval0
  have hW' := hW
  obtain ⟨p, q, hA0, hV, rfl, hfz, hnd⟩ := hW
  have hA : DataW.TrodAll enc Try.prog W 0 (fun _ => true) true Try.f12.params.toList args.toList ds p := hA0
  rw [Try.params12] at hA hval
  obtain ⟨v0, vs0, d0, ds0, p0, q0, hargs, rfl, rfl, h0, r0⟩ := trodAll_cons hA
  obtain ⟨rfl, rfl, rfl⟩ := trodAll_nil r0
  obtain rfl : args = #[v0] := by cases args; simp_all
  obtain ⟨rfl, rfl⟩ := trodVars_none hV
  have k0 := h0
  have lt0 : ∀ x ∈ p0, x.block < W.heap.size := by obtain ⟨m, hm⟩ := k0; exact DataW.trod_lt m _ _ _ hm
  obtain ⟨a0, len0, cap0, rfl⟩ := okWide_slice Try.underlying22 (hval 0 22 v0 rfl rfl)
  obtain ⟨z0, hl0, hc0, hr0, hb0, hm0⟩ : ∃ z : List Int, len0 = z.length ∧ len0 ≤ cap0 ∧ Reads W W.heap.size 1 a0 len0 (cellsB z) ∧ (∀ b ∈ z, 0 ≤ b ∧ b ≤ 255) ∧ cap0 ≤ maxLen := by
    obtain ⟨fuel, hf⟩ := h0
    exact open_bytes Try.underlying22 Try.underlying5 (by kernel_rfl) (by simpa [Value.cells] using hf)
  subst hl0
  clear hA0 hval0
  refine (walk a0 cap0 z0 W hc0 hr0 hb0 hm0).mono fun e W' ⟨he, bel⟩ => ?_
  subst he
  exact ⟨_, rfl, _, _, _, [], _, [], hW', trodAll_mk1 (shut_bool Try.underlying4 _), (trodAll_cons_mk (Below.trod lawLaid (by kernel_rfl) (of_decide_eq_true (by kernel_rfl)) k0 bel lt0) trodAll_mk0), rfl, bel.frame _, fun h => by cases h⟩

theorem closed : joinedFacts Try.checked.prog 12 Try.f12 Rows.fnBelowNoneSpec Rows.fnBelowNoneRow = true := by
  unfold joinedFacts
  repeat (refine and_t ?_ (by first | (with_reducible exact ent) | (with_reducible refine lif_c ?_; kernel_rfl) | (with_reducible refine mak_c ?_; kernel_rfl) | kernel_rfl))
  kernel_rfl
theorem proved : Rows.FnBelowNoneSaid :=
  OpenClaim.holds_of_wide 12 Try.f12 rfl rfl rfl rfl rfl rfl rfl ⟨rfl, rfl, rfl, rfl, rfl⟩ rfl rfl rfl rfl rfl (by kernel_rfl) Try.func12 closed
    (of_decide_eq_true (by kernel_rfl)) (by unfold Func.isWrapper; rw [if_neg (of_decide_eq_false (by kernel_rfl))]; exact ⟨rfl, rfl⟩)
    (fun os started H enc _ => lifted os started H enc)
#print axioms proved
end Go.Proofs.Ytjkjnicgbfpjiaa.lawBelowNone
