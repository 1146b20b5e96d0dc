/- What the model's least relations are. -/
import Derived.Test.YtjkjnicgbfpjiaaMp
import Derived.Test.YtjkjnicgbfpjiaaUu
import Derived.Test.YtjkjnicgbfpjiaaB2
import Derived.Test.YtjkjnicgbfpjiaaPe
namespace Go.Proofs.Ytjkjnicgbfpjiaa
open Go.RowKit

set_option maxHeartbeats 1600000 in
set_option maxRecDepth 100000 in
theorem sBtw_any (A : Option Addr) (ca n i j : Nat) (f : Nat → Nat → Bool) (w : World) (hm : Nest encB w w.heap.size A n (tabN n f)) (hn : n ≤ 12) (hi : i < n) (hj : j < n) :
    Calls Try.prog 82 #[.slice A n ca, .int .i64 (i : Int), .int .i64 (j : Int)] w fun e w2 => e = .returned (.bool (btwB f n i j)) ∧ w = w2 := by
  have hii : (i : Int) < (n : Int) := by omega
  have hji : (j : Int) < (n : Int) := by omega
  have HM := Lib.hid hm
  clear hm
  go_enter Try.func82, Try.ntmps82
  go_wp2_with fail
  go_loop [7] (fun v => ∃ k : Nat, k ≤ n ∧ v = .int .i64 k ∧ ∀ q : Nat, q < k → f i q = true → f q j = false) (fun v => n - (intOf v).toNat)
  case atStart => exact ⟨0, Nat.zero_le _, rfl, fun q h => absurd h (by omega)⟩
  case round =>
    obtain ⟨k, hk, rfl, hg⟩ := hrel
    have HG := Lib.hid hg; clear hg
    by_cases hlt : k < n
    · have hki : (k : Int) < (n : Int) := by omega
      obtain ⟨b, off, A2, c2, hA, hbb, f1, hc2, hrow⟩ := HM.out.row (tabN_row f hi)
      obtain ⟨b2, off2, hA2, hbb2, f2⟩ := Reads.cellE hrow (rowN_at (f i) hlt)
      obtain ⟨b3, off3, A4, c4, hA3, hbb3, f3, hc4, hrow2⟩ := HM.out.row (tabN_row f hlt)
      obtain ⟨b5, off5, hA5, hbb5, f4⟩ := Reads.cellE hrow2 (rowN_at (f k) hj)
      subst hA hA2 hA5
      injection hA3 with hA3
      injection hA3 with e1 e2 e3
      subst e1 e2
      rw [rowN_len] at f1 f3
      simp only [encB] at f2 f4
      obtain ⟨x, hx⟩ : ∃ x, f i k = x := ⟨_, rfl⟩
      obtain ⟨y, hy⟩ : ∃ y, f k j = y := ⟨_, rfl⟩
      rw [hx] at f2
      rw [hy] at f4
      have HX := Lib.hid (And.intro hx hy)
      clear hx hy hrow hrow2
      cases x
      · go_wp2_with fail
        go_round
        case rel =>
          refine ⟨k + 1, by omega, by go_num, fun q hq h1 => ?_⟩
          by_cases hq2 : q < k
          · exact HG.out q hq2 h1
          · have : q = k := by omega
            subst this
            rw [HX.out.1] at h1
            cases h1
        case measure => simp [intOf]; omega
      · cases y
        · go_wp2_with fail
          go_round
          case rel =>
            refine ⟨k + 1, by omega, by go_num, fun q hq h1 => ?_⟩
            by_cases hq2 : q < k
            · exact HG.out q hq2 h1
            · have : q = k := by omega
              subst this
              exact HX.out.2
          case measure => simp [intOf]; omega
        · go_wp2_with fail
          go_ret
          exact ⟨ret_bool (btwB_iff.2 ⟨k, hlt, HX.out.1, HX.out.2⟩).symm, rfl⟩
    · have hkn : k = n := by omega
      have HK := Lib.hid hkn
      clear hkn
      go_wp2_with fail
      go_ret
      refine ⟨ret_bool ?_, rfl⟩
      cases hb : btwB f n i j
      · rfl
      · obtain ⟨q, hq, h1, h2⟩ := btwB_iff.1 hb
        rw [HG.out q (by rw [HK.out]; exact hq) h1] at h2
        cases h2
def outI (ids G : List Int) (f : Nat → Nat → Bool) (i : Nat) : List Ctx := putAll lessR (candG ids G f i) []
def outJ (ids G : List Int) (f : Nat → Nat → Bool) (i j : Nat) : List Ctx := putAll lessR (candG ids G f i ++ (eqsG ids G i ++ abvG ids f i j)) []
section
variable {ids G : List Int} {f : Nat → Nat → Bool} {i j : Nat}
theorem put_one (c : Ctx) (o : List Ctx) : putAll lessR [c] o = insO lessR c o := rfl
theorem outI_eq (h : G.getD i 0 ≠ ids.getD i 0) : outJ ids G f i 0 = insO lessR ⟨G.getD i 0, ids.getD i 0, 2⟩ (outI ids G f i) := by
  have e : eqsG ids G i ++ abvG ids f i 0 = [⟨G.getD i 0, ids.getD i 0, 2⟩] := by unfold eqsG abvG; rw [if_neg h]; rfl
  unfold outJ outI
  rw [e, putAll_app]
  rfl
theorem outI_no (h : G.getD i 0 = ids.getD i 0) : outJ ids G f i 0 = outI ids G f i := by
  have e : eqsG ids G i ++ abvG ids f i 0 = [] := by unfold eqsG abvG; rw [if_pos h]; rfl
  unfold outJ outI
  rw [e, List.append_nil]
theorem outJ_yes (h : covB f ids.length i j = true) : outJ ids G f i (j + 1) = insO lessR ⟨ids.getD i 0, ids.getD j 0, 1⟩ (outJ ids G f i j) := by
  unfold outJ
  rw [abvG_next, if_pos h, ← List.append_assoc, ← List.append_assoc, ← List.append_assoc, putAll_app]
  rfl
theorem outJ_no (h : covB f ids.length i j = false) : outJ ids G f i (j + 1) = outJ ids G f i j := by
  unfold outJ
  rw [abvG_next, if_neg (by rw [h]; exact Bool.false_ne_true), List.append_nil]
theorem outJ_end : outJ ids G f i ids.length = outI ids G f (i + 1) := by
  unfold outJ outI
  rw [candG_next]
theorem eqs_len : (eqsG ids G i).length ≤ 1 := by
  unfold eqsG
  split <;> simp
theorem abv_len : (abvG ids f i j).length ≤ j := by
  unfold abvG
  rw [List.length_map]
  exact Nat.le_trans (List.length_filter_le _ _) (by rw [List.length_range]; exact Nat.le_refl _)
theorem cand_len : ∀ i, (candG ids G f i).length ≤ i * (ids.length + 1)
  | 0 => by simp [candG]
  | i + 1 => by
    have h1 := cand_len i
    have h2 := eqs_len (ids := ids) (G := G) (i := i)
    have h3 := abv_len (ids := ids) (f := f) (i := i) (j := ids.length)
    rw [candG_next, List.length_append, List.length_append, Nat.add_mul]
    omega
theorem outI_len (hn : ids.length ≤ 12) (hi : i ≤ ids.length) : (outI ids G f i).length ≤ 200 := by
  unfold outI
  rw [putAll_len, List.length_nil]
  have h1 := cand_len (ids := ids) (G := G) (f := f) i
  have h2 : i * (ids.length + 1) ≤ 12 * 13 := Nat.mul_le_mul (by omega) (by omega)
  omega
theorem outJ_len (hn : ids.length ≤ 12) (hi : i ≤ ids.length) (hj : j ≤ ids.length) : (outJ ids G f i j).length ≤ 200 := by
  unfold outJ
  rw [putAll_len, List.length_nil, List.length_append, List.length_append]
  have h1 := cand_len (ids := ids) (G := G) (f := f) i
  have h2 : i * (ids.length + 1) ≤ 12 * 13 := Nat.mul_le_mul (by omega) (by omega)
  have h3 := eqs_len (ids := ids) (G := G) (i := i)
  have h4 := abv_len (ids := ids) (f := f) (i := i) (j := j)
  omega
end
def ListR (w : World) (m : List Ctx) (e : Ending) (w2 : World) : Prop := ∃ v, e = .returned v ∧ Below w.heap.size w w2 ∧ w2.ownsRow w.heap.size 48 3 v m.length (cellsC m)
set_option maxHeartbeats 4000000 in
set_option maxRecDepth 100000 in
theorem sMat_any (A B : Option Addr) (ca cb : Nat) (ids : List Int) (l : List Ctx) (w : World) (ha : Reads w w.heap.size 1 A ids.length (cellsI ids)) (hb : Reads w w.heap.size 3 B l.length (cellsC l)) (hok : okG ids l = true) :
    Calls Try.prog 52 #[.slice A ids.length ca, .slice B l.length cb] w (ListR w (matG ids l)) := by
  have hn : ids.length ≤ 12 := validO_len (okG_parts hok).1
  have hv := (okG_parts hok).1
  have hgl := groupsG_len ids l
  obtain ⟨G, hG⟩ : ∃ G, G = groupsG ids l := ⟨_, rfl⟩
  obtain ⟨d, hd⟩ : ∃ d, d = dirG ids (groupsG ids l) l := ⟨_, rfl⟩
  obtain ⟨f, hf⟩ : ∃ f, f = clos d ids.length := ⟨_, rfl⟩
  have hmat : matOf ids G f = matG ids l := by rw [hf, hd, hG]; rfl
  have hGo := sGroups_any A B ca cb ids l w ha hb hok
  have hDi := fun (W : World) (hW : Below w.heap.size w W) => sDirect_any A B ca cb ids l W (ha.step hW) (hb.step hW) hok
  rw [← hG] at hGo hgl
  rw [← hd] at hDi
  have HA := Lib.hid (And.intro ha (And.intro hDi (And.intro hv hmat)))
  have HF := Lib.hid hf
  clear ha hb hok hDi hv hG hd hmat hf
  go_enter Try.func52, Try.ntmps52
  go_wp2_with fail
  refine hGo.mono ?_
  rintro e w2 ⟨v2, rfl, hb2, ho2⟩
  clear hGo
  obtain ⟨A2, c2, hv2, _, hr2⟩ := own_slice ho2
  subst hv2
  have R2 := Lib.hid (And.intro hb2 hr2)
  clear hb2 ho2 hr2
  go_wp2_with fail
  refine (HA.out.2.1 w2 R2.out.1).mono ?_
  rintro e w3 ⟨v3, vs3, rfl, hb3, ho3⟩
  obtain ⟨A3, c3, rfl, _, hm3⟩ := ho3.nest
  rw [tabN_len] at hm3
  have htl : (tabN ids.length d).length = ids.length := tabN_len _ _
  rw [htl]
  clear htl ho3
  have R3 := Lib.hid (And.intro hb3 hm3)
  clear hb3 hm3
  go_wp2_with fail
  refine (sClose_any A3 c3 ids.length d w3 R3.out.2 hn).mono ?_
  rintro e w4 ⟨v4, vs4, rfl, hb4, ho4⟩
  rw [← HF.out] at ho4
  obtain ⟨A4, c4, rfl, _, hm4⟩ := ho4.nest
  rw [tabN_len] at hm4
  have htl : (tabN ids.length f).length = ids.length := tabN_len _ _
  rw [htl]
  clear htl ho4
  have k24 := below_step R3.out.1 hb4
  have k4 := below_step R2.out.1 k24
  have hb5 : Below w4.heap.size w4 (w4.alloc (.cells #[] 48)) := (Below.refl _ _).alloc (Nat.le_refl _) _
  have ho5 : (w4.alloc (.cells #[] 48)).ownsRow w4.heap.size 48 3 (.slice (some ⟨w4.heap.size, 0, none⟩) 0 0) 0 (cellsC []) := own_empty (Nat.le_refl _) rfl
  have rG := R2.out.2.step k24
  rw [hgl] at rG
  have R := Lib.hid (And.intro (HA.out.1.step k4) (And.intro rG (And.intro hm4 k4)))
  have O5 := Lib.hid (And.intro hb5 ho5)
  clear hb4 hm4 k24 k4 hb5 ho5 rG
  go_wp2_with fail
  go_loopw [7, 8] (fun v i wr => ∃ k : Nat, k ≤ ids.length ∧ i = .int .i64 k ∧ Below w4.heap.size w4 wr ∧ wr.ownsRow w4.heap.size 48 3 v (outI ids G f k).length (cellsC (outI ids G f k))) (fun _ i _ => ids.length - (intOf i).toNat)
  case atStart => exact ⟨0, Nat.zero_le _, rfl, O5.out.1, O5.out.2⟩
  case round =>
    obtain ⟨k, hk, rfl, hbl, hown⟩ := hrel
    obtain ⟨A5, c5, hv5, hcap5, hr5⟩ := own_slice hown
    subst hv5
    have hol := outI_len (G := G) (f := f) hn hk
    by_cases hlt : k < ids.length
    · have hki : (k : Int) < (ids.length : Int) := by omega
      have hkG : (k : Int) < (G.length : Int) := by omega
      have rI := R.out.1.below hbl
      have rG := R.out.2.1.below hbl
      obtain ⟨b1, o1, hA1, hbb1, hc1⟩ := rI.ints (by omega)
      obtain ⟨b2, o2, hA2, hbb2, hc2⟩ := rG.ints (by omega)
      subst hA1 hA2
      obtain ⟨x, hx⟩ : ∃ x, ids.getD k 0 = x := ⟨_, rfl⟩
      obtain ⟨y, hy⟩ : ∃ y, G.getD k 0 = y := ⟨_, rfl⟩
      have hkx : ids[k]? = some x := by rw [← hx]; simp [hlt]
      have hky : G[k]? = some y := by rw [← hy]; simp [hgl, hlt]
      have g1 := hc1 k _ hkx
      have g2 := hc2 k _ hky
      have HX := Lib.hid (And.intro hx (And.intro hy (And.intro hkx hky)))
      have HB := Lib.hid (And.intro hbl (And.intro hown hr5))
      clear hc1 hc2 hx hy hkx hky rI rG hbl hown hr5
      by_cases hxy : y = x
      · have e1 : (y != x) = false := by simp [hxy]
        have HXY := Lib.hid hxy
        clear hxy
        go_wp2_with fail
        go_quiet (fail)
        have HS : Hid (∀ m : Nat, Below w4.heap.size w4 (wr.drewN m) ∧ (wr.drewN m).ownsRow w4.heap.size 48 3 (.slice A5 (outI ids G f k).length c5) (outJ ids G f k 0).length (cellsC (outJ ids G f k 0))) := by
          show ∀ m : Nat, _ ∧ _
          intro m
          rw [outI_no (by rw [HX.out.2.1, HX.out.1]; exact HXY.out)]
          exact ⟨below_draws HB.out.1 m, own_below HB.out.2.1 (below_draws (Below.refl _ _) m)⟩
        clear g1 g2
        go_wp2_with fail
        go_loopw [7, 9] (fun v jv wq => ∃ q : Nat, q ≤ ids.length ∧ jv = .int .i64 q ∧ Below w4.heap.size w4 wq ∧ wq.ownsRow w4.heap.size 48 3 v (outJ ids G f k q).length (cellsC (outJ ids G f k q))) (fun _ jv _ => ids.length - (intOf jv).toNat)
        case atStart => first | exact ⟨0, Nat.zero_le _, rfl, (HS.out 0).1, (HS.out 0).2⟩ | exact ⟨0, Nat.zero_le _, rfl, (HS.out _).1, (HS.out _).2⟩
        case round =>
          obtain ⟨q, hq, rfl, hbl, hown⟩ := hrel
          obtain ⟨A5, c5, hv5, hcap5, hr5⟩ := own_slice hown
          subst hv5
          have hol := outJ_len (G := G) (f := f) hn hk hq
          by_cases hlq : q < ids.length
          · have hqi : (q : Int) < (ids.length : Int) := by omega
            have rM := R.out.2.2.1.below hbl
            obtain ⟨b, off, Ar, cr, hA, hbb, f1, hc2, hrow⟩ := rM.row (tabN_row f hlt)
            obtain ⟨b2, off2, hA2, hbb2, f2⟩ := Reads.cellE hrow (rowN_at (f k) hlq)
            subst hA hA2
            rw [rowN_len] at f1
            simp only [encB] at f2
            obtain ⟨z, hz⟩ : ∃ z, f k q = z := ⟨_, rfl⟩
            rw [hz] at f2
            have hbt := fun (W : World) (hW : Below w4.heap.size w4 W) => sBtw_any (some ⟨b, off, none⟩) c4 ids.length k q f W ((R.out.2.2.1.below hW).more hW.size) hn hlt hlq
            obtain ⟨t, ht⟩ : ∃ t, btwB f ids.length k q = t := ⟨_, rfl⟩
            have hcov : covB f ids.length k q = (z && !t) := by unfold covB; rw [hz, ht]
            rw [ht] at hbt
            have HC := Lib.hid (And.intro hcov (And.intro hbl (And.intro hown (And.intro hr5 hcap5))))
            have HBT := Lib.hid hbt
            clear hbt hcov hz ht hrow rM hbl hown hr5 hcap5
            cases z
            · go_wp2_with fail
              go_roundw
              case rel => exact ⟨q + 1, by omega, by go_num, HC.out.2.1, by rw [outJ_no HC.out.1]; exact HC.out.2.2.1⟩
              case measure => simp [intOf]; omega
            · cases t
              · have rI := R.out.1.below HC.out.2.1
                obtain ⟨b1, o1, hA1, hbb1, hc1⟩ := rI.ints (by omega)
                injection hA1 with hA1
                injection hA1 with e1 e2 e3
                subst e1 e2
                obtain ⟨u, hu⟩ : ∃ u, ids.getD q 0 = u := ⟨_, rfl⟩
                have hqu : ids[q]? = some u := by rw [← hu]; simp [hlq]
                have g1 := hc1 k _ HX.out.2.2.1
                have g2 := hc1 q _ hqu
                have HQ := Lib.hid (And.intro hu hqu)
                clear hc1 hu hqu rI
                go_wp2_with (go_at_call 82; go_must (refine (HBT.out _ HC.out.2.1).mono ?_); rintro e w9 ⟨rfl, rfl⟩)
                refine region_still_tail2 10 (by kernel_rfl) (by kernel_rfl) ?_
                intro W hW hzz hbw
                simp only [List.take_succ_cons, List.take_zero, List.drop_succ_cons, List.drop_zero]
                repeat still_step
                refine wpStill_nil ?_
                have HW := Lib.hid (And.intro (HC.out.2.1.trans (hbw.mono HC.out.2.1.size)) (And.intro (own_below HC.out.2.2.1 hbw) hbw))
                clear hW hzz hbw f1 f2 g1 g2
                go_wp2_with (go_at_call 81; go_must (refine (sPutR_any _ _ (outJ ids G f k q) ⟨x, u, 1⟩ W (own_reads HW.out.2.1) HC.out.2.2.2.2 (by omega) (by rw [← HX.out.1, ← HQ.out.1]; exact (cand_new HA.out.2.2.1 hlt hlq).2)).mono ?_); rintro e w6 ⟨v6, rfl, hb6, ho6⟩)
                go_roundw
                case rel =>
                  refine ⟨q + 1, by omega, by go_num, below_step HW.out.1 hb6, ?_⟩
                  rw [outJ_yes HC.out.1, insO_length, HX.out.1, HQ.out.1]
                  exact own_less ho6 HW.out.1.size
                case measure => simp [intOf]; omega
              · go_wp2_with (go_at_call 82; go_must (refine (HBT.out _ HC.out.2.1).mono ?_); rintro e w9 ⟨rfl, rfl⟩)
                go_roundw
                case rel => exact ⟨q + 1, by omega, by go_num, HC.out.2.1, by rw [outJ_no HC.out.1]; exact HC.out.2.2.1⟩
                case measure => simp [intOf]; omega
          · have hqn : q = ids.length := by omega
            have HQ := Lib.hid (And.intro hqn (And.intro hbl hown))
            clear hqn hbl hown hr5
            go_wp2_with fail
            go_roundw
            case rel =>
              obtain ⟨hqn, hbl, hown⟩ := HQ.out
              exact ⟨k + 1, by omega, by go_num, hbl, by rw [← outJ_end, ← hqn]; exact hown⟩
            case measure => simp [intOf]; omega
      · have e1 : (y != x) = true := by simp [hxy]
        have HXY := Lib.hid hxy
        clear hxy
        go_wp2_with fail
        go_quiet (fail)
        go_wp2_with fail
        refine region_still_tail2 10 (by kernel_rfl) (by kernel_rfl) ?_
        intro W hW hzz hbw
        simp only [List.take_succ_cons, List.take_zero, List.drop_succ_cons, List.drop_zero]
        repeat still_step
        refine wpStill_nil ?_
        have hbw2 := below_step (below_draws (Below.refl wr.heap.size wr) _) hbw
        have HW := Lib.hid (And.intro (below_step HB.out.1 hbw2) (own_below HB.out.2.1 hbw2))
        clear hW hzz hbw hbw2 g1 g2
        go_wp2_with (go_at_call 81; go_must (refine (sPutR_any _ _ (outI ids G f k) ⟨y, x, 2⟩ W (own_reads HW.out.2) hcap5 (by omega) (by rw [← HX.out.1, ← HX.out.2.1]; exact (cand_new HA.out.2.2.1 hlt hlt).1)).mono ?_); rintro e w6 ⟨v6, rfl, hb6, ho6⟩)
        have HS : Hid (∀ _ : Nat, Below w4.heap.size w4 w6 ∧ w6.ownsRow w4.heap.size 48 3 v6 (outJ ids G f k 0).length (cellsC (outJ ids G f k 0))) := by
          show ∀ _ : Nat, _ ∧ _
          intro _
          rw [outI_eq (by rw [HX.out.2.1, HX.out.1]; exact HXY.out), insO_length, HX.out.2.1, HX.out.1]
          exact ⟨below_step HW.out.1 hb6, own_less ho6 HW.out.1.size⟩
        clear hb6 ho6
        go_wp2_with fail
        go_loopw [7, 9] (fun v jv wq => ∃ q : Nat, q ≤ ids.length ∧ jv = .int .i64 q ∧ Below w4.heap.size w4 wq ∧ wq.ownsRow w4.heap.size 48 3 v (outJ ids G f k q).length (cellsC (outJ ids G f k q))) (fun _ jv _ => ids.length - (intOf jv).toNat)
        case atStart => first | exact ⟨0, Nat.zero_le _, rfl, (HS.out 0).1, (HS.out 0).2⟩ | exact ⟨0, Nat.zero_le _, rfl, (HS.out _).1, (HS.out _).2⟩
        case round =>
          obtain ⟨q, hq, rfl, hbl, hown⟩ := hrel
          obtain ⟨A5, c5, hv5, hcap5, hr5⟩ := own_slice hown
          subst hv5
          have hol := outJ_len (G := G) (f := f) hn hk hq
          by_cases hlq : q < ids.length
          · have hqi : (q : Int) < (ids.length : Int) := by omega
            have rM := R.out.2.2.1.below hbl
            obtain ⟨b, off, Ar, cr, hA, hbb, f1, hc2, hrow⟩ := rM.row (tabN_row f hlt)
            obtain ⟨b2, off2, hA2, hbb2, f2⟩ := Reads.cellE hrow (rowN_at (f k) hlq)
            subst hA hA2
            rw [rowN_len] at f1
            simp only [encB] at f2
            obtain ⟨z, hz⟩ : ∃ z, f k q = z := ⟨_, rfl⟩
            rw [hz] at f2
            have hbt := fun (W : World) (hW : Below w4.heap.size w4 W) => sBtw_any (some ⟨b, off, none⟩) c4 ids.length k q f W ((R.out.2.2.1.below hW).more hW.size) hn hlt hlq
            obtain ⟨t, ht⟩ : ∃ t, btwB f ids.length k q = t := ⟨_, rfl⟩
            have hcov : covB f ids.length k q = (z && !t) := by unfold covB; rw [hz, ht]
            rw [ht] at hbt
            have HC := Lib.hid (And.intro hcov (And.intro hbl (And.intro hown (And.intro hr5 hcap5))))
            have HBT := Lib.hid hbt
            clear hbt hcov hz ht hrow rM hbl hown hr5 hcap5
            cases z
            · go_wp2_with fail
              go_roundw
              case rel => exact ⟨q + 1, by omega, by go_num, HC.out.2.1, by rw [outJ_no HC.out.1]; exact HC.out.2.2.1⟩
              case measure => simp [intOf]; omega
            · cases t
              · have rI := R.out.1.below HC.out.2.1
                obtain ⟨b1, o1, hA1, hbb1, hc1⟩ := rI.ints (by omega)
                injection hA1 with hA1
                injection hA1 with e1 e2 e3
                subst e1 e2
                obtain ⟨u, hu⟩ : ∃ u, ids.getD q 0 = u := ⟨_, rfl⟩
                have hqu : ids[q]? = some u := by rw [← hu]; simp [hlq]
                have g1 := hc1 k _ HX.out.2.2.1
                have g2 := hc1 q _ hqu
                have HQ := Lib.hid (And.intro hu hqu)
                clear hc1 hu hqu rI
                go_wp2_with (go_at_call 82; go_must (refine (HBT.out _ HC.out.2.1).mono ?_); rintro e w9 ⟨rfl, rfl⟩)
                refine region_still_tail2 10 (by kernel_rfl) (by kernel_rfl) ?_
                intro W hW hzz hbw
                simp only [List.take_succ_cons, List.take_zero, List.drop_succ_cons, List.drop_zero]
                repeat still_step
                refine wpStill_nil ?_
                have HW := Lib.hid (And.intro (HC.out.2.1.trans (hbw.mono HC.out.2.1.size)) (And.intro (own_below HC.out.2.2.1 hbw) hbw))
                clear hW hzz hbw f1 f2 g1 g2
                go_wp2_with (go_at_call 81; go_must (refine (sPutR_any _ _ (outJ ids G f k q) ⟨x, u, 1⟩ W (own_reads HW.out.2.1) HC.out.2.2.2.2 (by omega) (by rw [← HX.out.1, ← HQ.out.1]; exact (cand_new HA.out.2.2.1 hlt hlq).2)).mono ?_); rintro e w6 ⟨v6, rfl, hb6, ho6⟩)
                go_roundw
                case rel =>
                  refine ⟨q + 1, by omega, by go_num, below_step HW.out.1 hb6, ?_⟩
                  rw [outJ_yes HC.out.1, insO_length, HX.out.1, HQ.out.1]
                  exact own_less ho6 HW.out.1.size
                case measure => simp [intOf]; omega
              · go_wp2_with (go_at_call 82; go_must (refine (HBT.out _ HC.out.2.1).mono ?_); rintro e w9 ⟨rfl, rfl⟩)
                go_roundw
                case rel => exact ⟨q + 1, by omega, by go_num, HC.out.2.1, by rw [outJ_no HC.out.1]; exact HC.out.2.2.1⟩
                case measure => simp [intOf]; omega
          · have hqn : q = ids.length := by omega
            have HQ := Lib.hid (And.intro hqn (And.intro hbl hown))
            clear hqn hbl hown hr5
            go_wp2_with fail
            go_roundw
            case rel =>
              obtain ⟨hqn, hbl, hown⟩ := HQ.out
              exact ⟨k + 1, by omega, by go_num, hbl, by rw [← outJ_end, ← hqn]; exact hown⟩
            case measure => simp [intOf]; omega
    · have hkl : k = ids.length := by omega
      have HK := Lib.hid hkl
      have HB := Lib.hid (And.intro hbl hown)
      clear hkl hbl hown hr5
      go_wp2_with fail
      go_ret
      have h := HB.out.2
      rw [HK.out, show outI ids G f ids.length = matG ids l from HA.out.2.2.2] at h
      rw [HK.out, show outI ids G f ids.length = matG ids l from HA.out.2.2.2]
      exact ⟨_, rfl, below_step R.out.2.2.2 HB.out.1, own_less h R.out.2.2.2.size⟩
end Go.Proofs.Ytjkjnicgbfpjiaa
