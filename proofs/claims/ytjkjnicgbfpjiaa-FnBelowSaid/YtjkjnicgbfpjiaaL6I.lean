/-
  Whatever bytes are given: of contexts, relations and a context drawn from them, the program's list of what lies directly below is the model's: the second contexts of the matrix's relations above whose first one is the head of the group; the context lies above each of them. No condition.
-/
import Derived.Test.YtjkjnicgbfpjiaaEnt
import Derived.Test.YtjkjnicgbfpjiaaLif
import Derived.Test.YtjkjnicgbfpjiaaMak
import Derived.Test.YtjkjnicgbfpjiaaDm
import Derived.Test.YtjkjnicgbfpjiaaJb
import Derived.Test.YtjkjnicgbfpjiaaNb
import Derived.Test.YtjkjnicgbfpjiaaIi
import Derived.Test.YtjkjnicgbfpjiaaGx
import Derived.Test.YtjkjnicgbfpjiaaV5
import Derived.Test.YtjkjnicgbfpjiaaInts
import Derived.Test.YtjkjnicgbfpjiaaOpen
import Derived.Deep.RegionHeld3
namespace Go.Proofs.Ytjkjnicgbfpjiaa.lawBelow
open Go.ChangeShapes Go.WideShapes Go.ChangeAt Go.RowKit

theorem belL_split (h : Int) (L : List Ctx) (k : Nat) : belL h L = belL h (L.take k) ++ belL h (L.drop k) := by
  unfold belL
  rw [← List.map_append, ← List.filter_append, List.take_append_drop]
theorem belL_at {h : Int} {L : List Ctx} {k : Nat} {r : Ctx} (hk : L[k]? = some r) (h1 : r.area = 1) (h2 : r.id = h) : (belL h L)[(belL h (L.take k)).length]? = some r.kind := by
  rw [belL_split h L (k + 1), belL_next hk, if_pos ⟨h1, h2⟩, List.append_assoc, List.getElem?_append_right (Nat.le_refl _)]
  simp
section
variable {ids : List Int} {l : List Ctx} {id : Int}
theorem head_lab (hok : okG ids l = true) (hin : id ∈ ids) : labG ids (groupsG ids l) (labG ids (groupsG ids l) id) = labG ids (groupsG ids l) id := by
  obtain ⟨j, _, hj, hg⟩ := (headsG_all hok).2 _ _ (labG_of (groupsG_len ids l) hin)
  exact labG_at (okG_parts hok).1 hj hg
theorem below_above (ho : ordOkG ids l = true) (hin : id ∈ ids) {r : Ctx} (hr : r ∈ matG ids l) (h1 : r.area = 1) (h2 : r.id = labG ids (groupsG ids l) id) : aboveG ids l id r.kind = true := by
  have hok := ordOk_ok ho
  obtain ⟨_, m1, m2⟩ := mat_okR ho r hr
  have h3 : upG ids l r.id r.kind = true := by rw [← mat_up ho]; exact upG_direct hr h1
  have h4 : labG ids (groupsG ids l) id = labG ids (groupsG ids l) r.id := by rw [h2, head_lab hok hin]
  have h5 : upG ids l id r.kind = true := by rw [(upG_same (c := r.kind) h4).1]; exact h3
  simp [aboveG, hok, hin, m2, h5]
theorem below_none (ho : ordOkG ids l = true) (hin : id ∈ ids) {x y : Int} (hy : y ∈ belowG ids l id) (h1 : aboveG ids l id x = true) : aboveG ids l x y = false := by
  have hok := ordOk_ok ho
  have hv := (okG_parts hok).1
  rw [belowG_ok ho hin] at hy
  obtain ⟨r, hr, ha, hi, rfl⟩ := mem_belL.1 hy
  rcases mem_matOf.1 hr with ⟨p, _, _, rfl⟩ | ⟨p, q, hp, hq, hc, rfl⟩
  · cases ha
  · obtain ⟨c1, c2⟩ := covB_iff.1 hc
    have g2 := (clG_head hok c1).2
    have e1 : hcG ids (groupsG ids l) id = p := by
      unfold hcG
      rw [← hi]
      exact placeI_own hv (by simp [hp])
    have e2 : hcG ids (groupsG ids l) (ids.getD q 0) = q := hc_own hok hq g2
    have h2 : x ∈ ids ∧ upG ids l id x = true := by
      unfold aboveG at h1
      simp only [Bool.and_eq_true, decide_eq_true_eq] at h1
      exact ⟨h1.2.2.1, h1.2.2.2⟩
    have h3 := h2.2
    rw [up_cl, e1] at h3
    have h4 := c2 _ (hcG_lt hok h2.1) h3
    have h5 : upG ids l x (ids.getD q 0) = false := by rw [up_cl, e2]; exact h4
    unfold aboveG
    rw [h5]
    simp
end
set_option maxHeartbeats 2000000 in
set_option maxRecDepth 100000 in
theorem walk_short (A : Option Addr) (c : Nat) (z : List Int) (w : World) (h : Bytes w A c z) (hn : z.length ≤ 1048576) :
    Calls Try.prog 11 #[.slice A z.length c] w fun e w2 => e = .returned (.bool true) ∧ Below w.heap.size w w2 := by
  have e0 : decide ((1048576 : Int) < (z.length : Int)) = false := decide_eq_false (by omega)
  go_enter Try.func11, Try.ntmps11
  go_wp2_with fail
  refine (dMatBel_any A c z _ h).mono ?_
  rintro e w2 ⟨v1, v2, ids, l, id, rfl, ho1, ho2, hl1, hl2, hb2⟩
  obtain ⟨A1, c1, hv1, hcap1, hr1⟩ := own_slice ho1
  obtain ⟨A2, c2, hv2, hcap2, hr2⟩ := own_slice ho2
  subst hv1 hv2
  have HR := Lib.hid (And.intro hb2 (And.intro hr1 hr2))
  clear ho1 ho2 hb2 h hr1 hr2
  obtain ⟨M, hM⟩ : ∃ M, M = belowG ids l id := ⟨_, rfl⟩
  have hMl : M.length ≤ 31 := by rw [hM]; exact Nat.le_trans (belowG_len ids l id) (by omega)
  have q2 := eqLI_self M
  have HC := Lib.hid (And.intro hM trivial)
  clear hM
  go_wp2_with fail
  refine (iMatBelow_any _ _ _ _ ids l id _ HR.out.2.1 HR.out.2.2 (by omega) (by omega)).mono ?_
  rintro e w3 ⟨v3, rfl, hb3, ho3⟩
  rw [← HC.out.1] at ho3
  obtain ⟨A3, c3, hv3, hcap3, hr3⟩ := own_slice ho3
  subst hv3
  have H3 := Lib.hid (And.intro hb3 hr3)
  clear hb3 ho3 hr3
  go_wp2_with fail
  refine (sMatBelow_any _ _ _ _ ids l id _ (HR.out.2.1.step H3.out.1) (HR.out.2.2.step H3.out.1) (by omega) (by omega)).mono ?_
  rintro e w4 ⟨v4, rfl, hb4, ho4⟩
  rw [← HC.out.1] at ho4
  obtain ⟨A4, c4, hv4, hcap4, hr4⟩ := own_slice ho4
  subst hv4
  have H4 := Lib.hid (And.intro hb4 hr4)
  clear hb4 ho4 hr4
  go_wp2_with fail
  refine (sameInts_any _ _ _ _ M M _ (H3.out.2.step H4.out.1) H4.out.2 (by omega)).mono ?_
  rintro e w5 ⟨rfl, hb5⟩
  have k5 := below_step H4.out.1 hb5
  have k25 := below_step H3.out.1 k5
  have R := Lib.hid (And.intro (HR.out.2.1.step k25) (And.intro (HR.out.2.2.step k25) (And.intro (H3.out.2.step k5) (below_step HR.out.1 k25))))
  have R4 := Lib.hid (H4.out.2.step hb5)
  clear hb5 k5 k25
  have hov := sOrdValid_any A1 A2 c1 c2 ids l w5 R.out.1 R.out.2.1 (by omega) (by omega)
  obtain ⟨o, ho⟩ : ∃ o, o = ordOkG ids l := ⟨_, rfl⟩
  rw [← ho] at hov
  have HO := Lib.hid (And.intro hov ho)
  clear hov ho
  go_wp2_with fail
  refine HO.out.1.mono ?_
  rintro e w6 ⟨rfl, hb6⟩
  have H6 := Lib.hid hb6
  clear hb6
  cases o
  · go_wp2_with fail
    refine (sameInts_any _ _ _ _ M M _ (R.out.2.2.1.step H6.out) (R4.out.step H6.out) (by omega)).mono ?_
    rintro e w7 ⟨rfl, hb7⟩
    go_wp2_with fail
    go_ret
    exact ⟨rfl, below_step R.out.2.2.2 (below_step H6.out hb7)⟩
  · have ho : ordOkG ids l = true := HO.out.2.symm
    have hmo := iMatrixOf_any A1 A2 c1 c2 ids l w6 (R.out.1.step H6.out) (R.out.2.1.step H6.out) (by omega) (by omega)
    have hme := fun (W : World) (hW : Below w6.heap.size w6 W) => iMembers_any A1 A2 c1 c2 ids l id W ((R.out.1.step H6.out).step hW) ((R.out.2.1.step H6.out).step hW) (by omega) (by omega)
    rw [matS_ok ho, ho] at hmo
    have hLl : (matG ids l).length ≤ 31 := Nat.le_trans (mat_len ho) hl2
    have hBl := membersG_len ids l id
    have HHo := Lib.hid ho
    obtain ⟨L, hL⟩ : ∃ L, L = matG ids l := ⟨_, rfl⟩
    obtain ⟨B9, hB9⟩ : ∃ B9, B9 = membersG ids l id := ⟨_, rfl⟩
    rw [← hL] at hmo hLl
    rw [← hB9] at hme hBl
    have HM := Lib.hid (And.intro hmo (And.intro hme (And.intro hL hB9)))
    clear ho hmo hme hL hB9
    go_wp2_with fail
    refine HM.out.1.mono ?_
    rintro e w7 ⟨v7, rfl, hb7, ho7⟩
    obtain ⟨A7, c7, hv7, _, hr7⟩ := own_slice ho7
    subst hv7
    have H7 := Lib.hid (And.intro hb7 hr7)
    clear hb7 ho7 hr7
    go_wp2_with fail
    refine (HM.out.2.1 _ H7.out.1).mono ?_
    rintro e w8 ⟨v8, rfl, hb8, ho8⟩
    obtain ⟨A8, c8, hv8, _, hr8⟩ := own_slice ho8
    subst hv8
    have k58 := below_step H6.out (below_step H7.out.1 hb8)
    have H8 := Lib.hid (And.intro (R.out.1.step k58) (And.intro (R.out.2.1.step k58) (And.intro (R.out.2.2.1.step k58) (And.intro (H7.out.2.step hb8) (And.intro hr8 (below_step R.out.2.2.2 k58))))))
    clear hb8 ho8 hr8 k58
    by_cases hin : id ∈ ids
    · have hhd := members_head (ordOk_ok HHo.out) hin
      rw [← HM.out.2.2.2] at hhd
      obtain ⟨hh, hhe⟩ : ∃ hh, hh = labG ids (groupsG ids l) id := ⟨_, rfl⟩
      rw [← hhe] at hhd
      have hBp : 0 < B9.length := (List.getElem?_eq_some_iff.1 hhd).1
      have hMe : M = belL hh L := by rw [HC.out.1, belowG_ok HHo.out hin, hhe, HM.out.2.2.1]
      have hab : ∀ r : Ctx, r ∈ L → r.area = 1 → r.id = hh → aboveG ids l id r.kind = true := fun r h1 h2 h3 => below_above HHo.out hin (by rw [← HM.out.2.2.1]; exact h1) h2 (by rw [h3, hhe])
      have HI := Lib.hid (And.intro hMe (And.intro hab hhd))
      have e3 : decide ((0 : Int) < (B9.length : Int)) = true := decide_eq_true (by omega)
      have e33 : (0 : Int) < (B9.length : Int) := by omega
      clear hin hhd hhe hMe hab
      go_wp2_with fail
      go_loopw [11, 12] (fun n v wr => ∃ i : Nat, i ≤ L.length ∧ v = .int .i64 i ∧ n = .int .i64 ((belL hh (L.take i)).length : Int) ∧ Below w8.heap.size w8 wr) (fun _ v _ => L.length - (intOf v).toNat)
      case atStart => exact ⟨0, Nat.zero_le _, rfl, rfl, Below.refl _ _⟩
      case round =>
        obtain ⟨i, hi, rfl, rfl, hbj⟩ := hrel
        by_cases hli : i < L.length
        · have hii : (i : Int) < (L.length : Int) := by omega
          obtain ⟨r, hr⟩ : ∃ r, L[i]? = some r := ⟨_, List.getElem?_eq_getElem hli⟩
          obtain ⟨b3, off3, hA3, hbb3, hc3⟩ := (H8.out.2.2.2.1.step hbj).ctx (by omega)
          obtain ⟨b4, off4, hA4, hbb4, hc4⟩ := (H8.out.2.2.2.2.1.step hbj).ints (by omega)
          subst hA3 hA4
          obtain ⟨f1, f2, f3⟩ := hc3 i _ hr
          have f4 := hc4 0 _ HI.out.2.2
          simp only [Nat.add_zero] at f4
          have hnx := belL_next (h := hh) hr
          clear hc3 hc4
          by_cases h1 : r.area = 1
          · have e1 : (r.area == 1) = true := by simp [h1]
            by_cases h2 : r.id = hh
            · have e2 : (r.id == hh) = true := by simp [h2]
              have hat := belL_at (h := hh) hr h1 h2
              rw [← HI.out.1] at hat
              have habove := HI.out.2.1 r (List.mem_of_getElem? hr) h1 h2
              rw [if_pos ⟨h1, h2⟩] at hnx
              obtain ⟨k, hk⟩ : ∃ k, k = (belL hh (L.take i)).length := ⟨_, rfl⟩
              rw [← hk] at hat ⊢
              have hkM : k < M.length := (List.getElem?_eq_some_iff.1 hat).1
              have hnl : (belL hh (L.take (i + 1))).length = k + 1 := by rw [hnx, List.length_append, ← hk]; rfl
              have hab := fun (W : World) (hW : Below w8.heap.size w8 W) => iAbove_any A1 A2 c1 c2 ids l id r.kind W (H8.out.1.step hW) (H8.out.2.1.step hW) (by omega) (by omega)
              rw [habove] at hab
              obtain ⟨b5, off5, hA5, hbb5, hc5⟩ := (H8.out.2.2.1.step hbj).ints (by omega)
              subst hA5
              have f5 := hc5 k _ hat
              have e4 : decide ((M.length : Int) ≤ (k : Int)) = false := decide_eq_false (by omega)
              have e5 : decide (M.length ≤ k) = false := decide_eq_false (by omega)
              have e6 : k < M.length := hkM
              have e7 : (k : Int) < (M.length : Int) := by omega
              have e8 : (r.kind != r.kind) = false := by simp
              have HN := Lib.hid (And.intro hnl (And.intro hab hbj))
              have hk31 : k ≤ 31 := by omega
              clear hnl hab habove hat hnx h1 h2 hc5 hr hk
              go_wp2_with fail
              refine region_still_tail2 21 (by kernel_rfl) (by kernel_rfl) ?_
              intro W hW hzz hbW
              simp only [List.take_succ_cons, List.take_zero, List.drop_succ_cons, List.drop_zero]
              refine Shut.out ?_
              iterate 21
                refine still_stepH (fun K hK => ?_)
                go_simp
                refine hK _ ?_
                clear hK K
              refine still_nilH ?_
              have HW := Lib.hid (below_step HN.out.2.2 hbW)
              have f1' := (hW _).trans f1
              have f2' := (hW _).trans f2
              have f3' := (hW _).trans f3
              have f4' := (hW _).trans f4
              have f5' := (hW _).trans f5
              clear hW hzz hbW f1 f2 f3 f4 f5 hbj
              go_wp2_with fail
              refine region_still_tail2 24 (by kernel_rfl) (by kernel_rfl) ?_
              intro V hV hzz hbV
              simp only [List.take_succ_cons, List.take_zero, List.drop_succ_cons, List.drop_zero]
              refine Shut.out ?_
              iterate 24
                refine still_stepH (fun K hK => ?_)
                go_simp
                refine hK _ ?_
                clear hK K
              refine still_nilH ?_
              have HV := Lib.hid (below_step HW.out hbV)
              clear hV hzz hbV f1' f2' f3' f4' f5'
              go_wp2_with fail
              refine (HN.out.2.1 _ HV.out).mono ?_
              rintro e w9 ⟨rfl, hb9⟩
              go_wp2_with fail
              go_roundw
              case rel => exact ⟨i + 1, by omega, by go_num, by rw [HN.out.1]; go_num, below_step HV.out hb9⟩
              case measure => simp [intOf]; omega
            · have e2 : (r.id == hh) = false := by simp [h2]
              rw [if_neg (fun q => h2 q.2), List.append_nil] at hnx
              have HN := Lib.hid hnx
              clear hnx h1 h2 hr
              go_wp2_with fail
              refine region_still_tail2 21 (by kernel_rfl) (by kernel_rfl) ?_
              intro W hW hzz hbW
              simp only [List.take_succ_cons, List.take_zero, List.drop_succ_cons, List.drop_zero]
              refine Shut.out ?_
              iterate 21
                refine still_stepH (fun K hK => ?_)
                go_simp
                refine hK _ ?_
                clear hK K
              refine still_nilH ?_
              have HW := Lib.hid (below_step hbj hbW)
              clear hW hzz hbW
              go_wp2_with fail
              go_roundw
              case rel => exact ⟨i + 1, by omega, by go_num, by rw [HN.out], HW.out⟩
              case measure => simp [intOf]; omega
          · have e1 : (r.area == 1) = false := by simp [h1]
            rw [if_neg (fun q => h1 q.1), List.append_nil] at hnx
            have HN := Lib.hid hnx
            clear hnx h1 hr
            go_wp2_with fail
            refine region_still_tail2 21 (by kernel_rfl) (by kernel_rfl) ?_
            intro W hW hzz hbW
            simp only [List.take_succ_cons, List.take_zero, List.drop_succ_cons, List.drop_zero]
            refine Shut.out ?_
            iterate 21
              refine still_stepH (fun K hK => ?_)
              go_simp
              refine hK _ ?_
              clear hK K
            refine still_nilH ?_
            have HW := Lib.hid (below_step hbj hbW)
            clear hW hzz hbW
            go_wp2_with fail
            go_roundw
            case rel => exact ⟨i + 1, by omega, by go_num, by rw [HN.out], HW.out⟩
            case measure => simp [intOf]; omega
        · have hin : i = L.length := by omega
          have HZ := Lib.hid (And.intro hin hbj)
          have hnl : (belL hh (L.take i)).length = M.length := by rw [hin, List.take_length, HI.out.1]
          rw [hnl]
          clear hin hbj hnl
          go_wp2_with fail
          go_ret
          exact ⟨by first | rfl | simp, below_step H8.out.2.2.2.2.2 HZ.out.2⟩
    · have hB0 : B9.length = 0 := by rw [HM.out.2.2.2, members_none (.inr hin)]; rfl
      have hM0 : M.length = 0 := by rw [HC.out.1, belowG_no2 hin]; rfl
      have e3 : decide ((0 : Int) < (B9.length : Int)) = false := decide_eq_false (by omega)
      have e33 : ¬ (0 : Int) < (B9.length : Int) := by omega
      have e34 : ¬ 0 < B9.length := by omega
      have e35 : ((0 : Int) == (M.length : Int)) = true := by rw [hM0]; rfl
      have HZ := Lib.hid (And.intro hB0 hM0)
      clear hin hB0 hM0
      go_wp2_with fail
      go_loopw [11, 12] (fun n v wr => ∃ i : Nat, i ≤ L.length ∧ v = .int .i64 i ∧ n = .int .i64 0 ∧ Below w8.heap.size w8 wr) (fun _ v _ => L.length - (intOf v).toNat)
      case atStart => exact ⟨0, Nat.zero_le _, rfl, rfl, Below.refl _ _⟩
      case round =>
        obtain ⟨i, hi, rfl, rfl, hbj⟩ := hrel
        by_cases hli : i < L.length
        · have hii : (i : Int) < (L.length : Int) := by omega
          obtain ⟨r, hr⟩ : ∃ r, L[i]? = some r := ⟨_, List.getElem?_eq_getElem hli⟩
          obtain ⟨b3, off3, hA3, hbb3, hc3⟩ := (H8.out.2.2.2.1.step hbj).ctx (by omega)
          subst hA3
          obtain ⟨f1, f2, f3⟩ := hc3 i _ hr
          clear hc3
          by_cases h1 : r.area = 1
          · have e1 : (r.area == 1) = true := by simp [h1]
            clear h1 hr
            go_wp2_with fail
            refine region_still_tail2 21 (by kernel_rfl) (by kernel_rfl) ?_
            intro W hW hzz hbW
            simp only [List.take_succ_cons, List.take_zero, List.drop_succ_cons, List.drop_zero]
            refine Shut.out ?_
            iterate 21
              refine still_stepH (fun K hK => ?_)
              go_simp
              refine hK _ ?_
              clear hK K
            refine still_nilH ?_
            have HW := Lib.hid (below_step hbj hbW)
            clear hW hzz hbW
            go_wp2_with fail
            go_roundw
            case rel => exact ⟨i + 1, by omega, by go_num, rfl, HW.out⟩
            case measure => simp [intOf]; omega
          · have e1 : (r.area == 1) = false := by simp [h1]
            clear h1 hr
            go_wp2_with fail
            refine region_still_tail2 21 (by kernel_rfl) (by kernel_rfl) ?_
            intro W hW hzz hbW
            simp only [List.take_succ_cons, List.take_zero, List.drop_succ_cons, List.drop_zero]
            refine Shut.out ?_
            iterate 21
              refine still_stepH (fun K hK => ?_)
              go_simp
              refine hK _ ?_
              clear hK K
            refine still_nilH ?_
            have HW := Lib.hid (below_step hbj hbW)
            clear hW hzz hbW
            go_wp2_with fail
            go_roundw
            case rel => exact ⟨i + 1, by omega, by go_num, rfl, HW.out⟩
            case measure => simp [intOf]; omega
        · have HJ := Lib.hid hbj
          clear hbj
          go_wp2_with fail
          go_ret
          exact ⟨by first | rfl | simp, below_step H8.out.2.2.2.2.2 HJ.out⟩

theorem walk (A : Option Addr) (c : Nat) (z : List Int) (w : World) (h1 : z.length ≤ c) (h2 : Reads w w.heap.size 1 A z.length (cellsB z)) (h3 : ∀ b ∈ z, 0 ≤ b ∧ b ≤ 255) (h4 : c ≤ maxLen) :
    Calls Try.prog 11 #[.slice A z.length c] w fun e w2 => e = .returned (.bool true) ∧ Below w.heap.size w w2 := by
  by_cases hn : z.length ≤ 1048576
  · exact walk_short A c z w (Bytes.mk_ h1 h2 h3 h4) hn
  · have e0 : decide ((1048576 : Int) < (z.length : Int)) = true := decide_eq_true (by omega)
    go_enter Try.func11, Try.ntmps11
    go_wp2_with fail
    go_ret
    exact ⟨rfl, Below.refl _ _⟩

set_option linter.unusedVariables false
set_option maxRecDepth 100000 in
theorem lifted (os : Os) (started : os.Started) (H : Type) (enc : TypeId × Value → H) :
    ReturnsInHanded {} Try.checked os 11 .any (Rows.fnBelowSpec.pre6 enc Try.prog Try.f11 Rows.fnBelowRow.domain false) (Rows.fnBelowSpec.post enc Try.prog Try.f11 false true false false) := by
  refine returnsInHanded_of_change (C := Try.checked) lawOwn started (by kernel_rfl) Try.func11
    (ChangeSpec.witness6 (enc := enc) (C := Try.checked) false ⟨#[], #[.slice none 0 0], []⟩ 8 (by kernel_rfl) (by kernel_rfl) (by kernel_rfl) (by kernel_rfl)) ?_
  intro W base args ds gs before hval0 hW hcnd _
  have hval : ∀ (j : Nat) t v, Try.f11.params[j]? = some t → args[j]? = some v → Value.okWide Try.prog W .any base t v := hval0
  have hW' := hW
  obtain ⟨p, q, hA0, hV, rfl, hfz, hnd⟩ := hW
  have hA : DataW.TrodAll enc Try.prog W 0 (fun _ => true) true Try.f11.params.toList args.toList ds p := hA0
  rw [Try.params11] at hA hval
  obtain ⟨v0, vs0, d0, ds0, p0, q0, hargs, rfl, rfl, h0, r0⟩ := trodAll_cons hA
  obtain ⟨rfl, rfl, rfl⟩ := trodAll_nil r0
  obtain rfl : args = #[v0] := by cases args; simp_all
  obtain ⟨rfl, rfl⟩ := trodVars_none hV
  have k0 := h0
  have lt0 : ∀ x ∈ p0, x.block < W.heap.size := by obtain ⟨m, hm⟩ := k0; exact DataW.trod_lt m _ _ _ hm
  obtain ⟨a0, len0, cap0, rfl⟩ := okWide_slice Try.underlying22 (hval 0 22 v0 rfl rfl)
  obtain ⟨z0, hl0, hc0, hr0, hb0, hm0⟩ : ∃ z : List Int, len0 = z.length ∧ len0 ≤ cap0 ∧ Reads W W.heap.size 1 a0 len0 (cellsB z) ∧ (∀ b ∈ z, 0 ≤ b ∧ b ≤ 255) ∧ cap0 ≤ maxLen := by
    obtain ⟨fuel, hf⟩ := h0
    exact open_bytes Try.underlying22 Try.underlying5 (by kernel_rfl) (by simpa [Value.cells] using hf)
  subst hl0
  clear hA0 hval0
  refine (walk a0 cap0 z0 W hc0 hr0 hb0 hm0).mono fun e W' ⟨he, bel⟩ => ?_
  subst he
  exact ⟨_, rfl, _, _, _, [], _, [], hW', trodAll_mk1 (shut_bool Try.underlying4 _), (trodAll_cons_mk (Below.trod lawLaid (by kernel_rfl) (of_decide_eq_true (by kernel_rfl)) k0 bel lt0) trodAll_mk0), rfl, bel.frame _, fun h => by cases h⟩

theorem closed : joinedFacts Try.checked.prog 11 Try.f11 Rows.fnBelowSpec Rows.fnBelowRow = true := by
  unfold joinedFacts
  repeat (refine and_t ?_ (by first | (with_reducible exact ent) | (with_reducible refine lif_c ?_; kernel_rfl) | (with_reducible refine mak_c ?_; kernel_rfl) | kernel_rfl))
  kernel_rfl
theorem proved : Rows.FnBelowSaid :=
  OpenClaim.holds_of_wide 11 Try.f11 rfl rfl rfl rfl rfl rfl rfl ⟨rfl, rfl, rfl, rfl, rfl⟩ rfl rfl rfl rfl rfl (by kernel_rfl) Try.func11 closed
    (of_decide_eq_true (by kernel_rfl)) (by unfold Func.isWrapper; rw [if_neg (of_decide_eq_false (by kernel_rfl))]; exact ⟨rfl, rfl⟩)
    (fun os started H enc _ => lifted os started H enc)
#print axioms proved
end Go.Proofs.Ytjkjnicgbfpjiaa.lawBelow
