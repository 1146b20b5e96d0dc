/- Whether the model finds two orders the same. -/
import Derived.Test.YtjkjnicgbfpjiaaMp
import Derived.Test.YtjkjnicgbfpjiaaVm
namespace Go.Proofs.Ytjkjnicgbfpjiaa
open Go.RowKit

section
variable {ids : List Int} {a b : List Ctx}
theorem same_yes (ha : okG ids a = true) (hb : okG ids b = true) (h : ∀ i j, i < ids.length → j < ids.length → ordF ids a i j = ordF ids b i j) (hg : ∀ (i : Nat), i < ids.length → (groupsG ids a)[i]? = (groupsG ids b)[i]?) : sameG ids a b = true := by
  have h1 : ordG ids a = ordG ids b := by rw [← ordF_tab, ← ordF_tab]; exact tabN_congr h
  have h2 : groupsG ids a = groupsG ids b := by
    apply List.ext_getElem?
    intro i
    by_cases hi : i < ids.length
    · exact hg i hi
    · rw [List.getElem?_eq_none (by rw [groupsG_len]; omega), List.getElem?_eq_none (by rw [groupsG_len]; omega)]
  simp [sameG, ha, hb, h1, h2]
theorem same_ord {i j : Nat} (h : ordF ids a i j ≠ ordF ids b i j) : sameG ids a b = false := by
  cases hs : sameG ids a b
  · rfl
  · exfalso
    obtain ⟨_, _, h3, _⟩ := sameG_parts hs
    apply h
    unfold ordF
    by_cases hi : i < ids.length
    · by_cases hj : j < ids.length
      · rw [ordG_up h3 (getD_mem hi) (getD_mem hj)]
      · rw [decide_eq_false hj]; rfl
    · rw [decide_eq_false hi]; rfl
theorem same_grp {i : Nat} (h : (groupsG ids a)[i]? ≠ (groupsG ids b)[i]?) : sameG ids a b = false := by
  cases hs : sameG ids a b
  · rfl
  · exfalso
    obtain ⟨_, _, _, h4⟩ := sameG_parts hs
    exact h (by rw [h4])
theorem same_no1 (h : okG ids a = false) : sameG ids a b = false := by simp [sameG, h]
theorem same_no2 (h : okG ids b = false) : sameG ids a b = false := by simp [sameG, h]
end
set_option maxHeartbeats 8000000 in
set_option maxRecDepth 100000 in
theorem sSame_any (A B C : Option Addr) (ca cb cc : Nat) (ids : List Int) (a b : List Ctx) (w : World) (ha : Reads w w.heap.size 1 A ids.length (cellsI ids)) (hb : Reads w w.heap.size 3 B a.length (cellsC a)) (hc : Reads w w.heap.size 3 C b.length (cellsC b)) (hn : ids.length ≤ 1000000000) (hl : a.length ≤ 1000000000) (hm : b.length ≤ 1000000000) :
    Calls Try.prog 24 #[.slice A ids.length ca, .slice B a.length cb, .slice C b.length cc] w fun e w2 => e = .returned (.bool (sameG ids a b)) ∧ Below w.heap.size w w2 := by
  have hk1 := sOk_any A B ca cb ids a w ha hb (by omega) (by omega)
  have hk2 := fun (W : World) (hW : Below w.heap.size w W) => sOk_any A C ca cc ids b W (ha.step hW) (hc.step hW) (by omega) (by omega)
  cases h1 : okG ids a
  · rw [h1] at hk1
    have HO := Lib.hid hk1
    have HE := Lib.hid (same_no1 (b := b) h1)
    clear hk1 hk2 h1 ha hb hc
    go_enter Try.func24, Try.ntmps24
    go_wp2_with (go_at_call 58; go_must (refine HO.out.mono ?_); rintro e w2 ⟨rfl, k2⟩)
    go_ret
    exact ⟨ret_bool HE.out.symm, k2⟩
  · cases h2 : okG ids b
    · rw [h1] at hk1
      rw [h2] at hk2
      have HO := Lib.hid (And.intro hk1 hk2)
      have HE := Lib.hid (same_no2 (a := a) h2)
      clear hk1 hk2 h1 h2 ha hb hc
      go_enter Try.func24, Try.ntmps24
      go_wp2_with fail
      refine HO.out.1.mono ?_
      rintro e w2 ⟨rfl, k2⟩
      go_wp2_with fail
      refine (HO.out.2 _ k2).mono ?_
      rintro e w3 ⟨rfl, k3⟩
      go_wp2_with fail
      go_ret
      exact ⟨ret_bool HE.out.symm, below_step k2 k3⟩
    · rw [h1] at hk1
      rw [h2] at hk2
      have hn12 : ids.length ≤ 12 := validO_len (okG_parts h1).1
      obtain ⟨x, hx⟩ : ∃ x, x = ordF ids a := ⟨_, rfl⟩
      obtain ⟨y, hy⟩ : ∃ y, y = ordF ids b := ⟨_, rfl⟩
      obtain ⟨G, hG⟩ : ∃ G, G = groupsG ids a := ⟨_, rfl⟩
      obtain ⟨H, hH⟩ : ∃ H, H = groupsG ids b := ⟨_, rfl⟩
      have hGl : G.length = ids.length := by rw [hG, groupsG_len]
      have hHl : H.length = ids.length := by rw [hH, groupsG_len]
      have ho1 := fun (W : World) (hW : Below w.heap.size w W) => sOrder_any A B ca cb ids a W (ha.step hW) (hb.step hW) h1
      have ho2 := fun (W : World) (hW : Below w.heap.size w W) => sOrder_any A C ca cc ids b W (ha.step hW) (hc.step hW) h2
      have hg1 := fun (W : World) (hW : Below w.heap.size w W) => sGroups_any A B ca cb ids a W (ha.step hW) (hb.step hW) h1
      have hg2 := fun (W : World) (hW : Below w.heap.size w W) => sGroups_any A C ca cc ids b W (ha.step hW) (hc.step hW) h2
      rw [← ordF_tab, ← hx] at ho1
      rw [← ordF_tab, ← hy] at ho2
      rw [← hG] at hg1
      rw [← hH] at hg2
      have HY : Hid ((∀ i j, i < ids.length → j < ids.length → x i j = y i j) → (∀ (i : Nat), i < ids.length → G[i]? = H[i]?) → sameG ids a b = true) := by
        show _ → _ → _
        rw [hx, hy, hG, hH]; exact same_yes h1 h2
      have HN : Hid ((∀ i j, x i j ≠ y i j → sameG ids a b = false) ∧ ∀ (i : Nat), G[i]? ≠ H[i]? → sameG ids a b = false) := by
        show _ ∧ _
        rw [hx, hy, hG, hH]; exact ⟨fun _ _ => same_ord, fun _ => same_grp⟩
      have HO := Lib.hid (And.intro hk1 hk2)
      have HG := Lib.hid (And.intro ho1 (And.intro ho2 (And.intro hg1 hg2)))
      have HL := Lib.hid (And.intro hGl hHl)
      clear hk1 hk2 h1 h2 ha hb hc ho1 ho2 hg1 hg2 hx hy hG hH hGl hHl
      go_enter Try.func24, Try.ntmps24
      go_wp2_with fail
      refine HO.out.1.mono ?_
      rintro e w2 ⟨rfl, k2⟩
      go_wp2_with fail
      refine (HO.out.2 _ k2).mono ?_
      rintro e w3 ⟨rfl, k3⟩
      have k23 := below_step k2 k3
      go_wp2_with fail
      refine (HG.out.1 _ k23).mono ?_
      rintro e w4 ⟨v4, vs4, rfl, k4, o4⟩
      obtain ⟨A4, c4, rfl, _, m4⟩ := o4.nest
      have htl : (tabN ids.length x).length = ids.length := tabN_len _ _
      rw [htl] at m4
      rw [htl]
      clear htl o4
      have k24 := below_step k23 k4
      go_wp2_with fail
      refine (HG.out.2.1 _ k24).mono ?_
      rintro e w5 ⟨v5, vs5, rfl, k5, o5⟩
      obtain ⟨A5, c5, rfl, _, m5⟩ := o5.nest
      have htl : (tabN ids.length y).length = ids.length := tabN_len _ _
      rw [htl] at m5
      rw [htl]
      clear htl o5
      have k25 := below_step k24 k5
      go_wp2_with fail
      refine (HG.out.2.2.1 _ k25).mono ?_
      rintro e w6 ⟨v6, rfl, k6, o6⟩
      obtain ⟨A6, c6, rfl, _, r6⟩ := own_slice o6
      have k26 := below_step k25 k6
      go_wp2_with fail
      refine (HG.out.2.2.2 _ k26).mono ?_
      rintro e w7 ⟨v7, rfl, k7, o7⟩
      obtain ⟨A7, c7, rfl, _, r7⟩ := own_slice o7
      have k27 := below_step k26 k7
      have k57 := below_step k6 k7
      have k47 := below_step k5 k57
      have R := Lib.hid (And.intro (m4.step k47) (And.intro (m5.step k57) (And.intro (r6.step k7) (And.intro r7 k27))))
      clear k2 k3 k23 k4 k24 k5 k25 k6 k26 k7 k27 k57 k47 m4 m5 o6 o7 r6 r7
      go_wp2_with fail
      go_loopw [11] (fun v wr => ∃ k : Nat, k ≤ ids.length ∧ v = .int .i64 k ∧ Below w7.heap.size w7 wr ∧ (∀ i j, i < k → j < ids.length → x i j = y i j) ∧ ∀ (i : Nat), i < k → G[i]? = H[i]?) (fun v _ => ids.length - (intOf v).toNat)
      case atStart => exact ⟨0, Nat.zero_le _, rfl, Below.refl _ _, fun _ _ h => absurd h (by omega), fun _ h => absurd h (by omega)⟩
      case round =>
        obtain ⟨k, hk, rfl, hbl, hx1, hg1⟩ := hrel
        have HK := Lib.hid (And.intro hbl (And.intro hx1 hg1))
        clear hbl hx1 hg1
        by_cases hlt : k < ids.length
        · have hki : (k : Int) < (ids.length : Int) := by omega
          go_wp2_with fail
          go_loopw [12] (fun v wq => ∃ q : Nat, q ≤ ids.length ∧ v = .int .i64 q ∧ Below w7.heap.size w7 wq ∧ ∀ j, j < q → x k j = y k j) (fun v _ => ids.length - (intOf v).toNat)
          case atStart => exact ⟨0, Nat.zero_le _, rfl, HK.out.1, fun _ h => absurd h (by omega)⟩
          case round =>
            obtain ⟨q, hq, rfl, hbq, hq1⟩ := hrel
            have HQ := Lib.hid (And.intro hbq hq1)
            clear hbq hq1
            by_cases hlq : q < ids.length
            · have hqi : (q : Int) < (ids.length : Int) := by omega
              obtain ⟨b1, o1, Ar, cr, hA, hb1, f1, hc2, hrow⟩ := (R.out.1.below HQ.out.1).row (tabN_row x hlt)
              obtain ⟨b2, o2, hA2, hb2, f2⟩ := Reads.cellE hrow (rowN_at (x k) hlq)
              obtain ⟨b3, o3, Ar3, cr3, hA3, hb3, f3, hc3, hrow3⟩ := (R.out.2.1.below HQ.out.1).row (tabN_row y hlt)
              obtain ⟨b4, o4, hA4, hb4, f4⟩ := Reads.cellE hrow3 (rowN_at (y k) hlq)
              subst hA hA2 hA3 hA4
              rw [rowN_len] at f1 f3
              simp only [encB] at f2 f4
              obtain ⟨u, hu⟩ : ∃ u, x k q = u := ⟨_, rfl⟩
              obtain ⟨v, hv⟩ : ∃ v, y k q = v := ⟨_, rfl⟩
              rw [hu] at f2
              rw [hv] at f4
              by_cases huv : u = v
              · have e1 : (u == v) = true := by simp [huv]
                have e2 : (u != v) = false := by simp [huv]
                have HU := Lib.hid (hu.trans (huv.trans hv.symm))
                clear hu hv huv hrow hrow3
                go_wp2_with fail
                go_quiet (fail)
                go_wp2_with fail
                go_roundw
                case rel =>
                  refine ⟨q + 1, by omega, by go_num, below_draws HQ.out.1 _, fun j hj => ?_⟩
                  by_cases hj2 : j < q
                  · exact HQ.out.2 j hj2
                  · have : j = q := by omega
                    subst this
                    exact HU.out
                case measure => simp [intOf]; omega
              · have e1 : (u == v) = false := by simp [huv]
                have e2 : (u != v) = true := by simp [huv]
                have HU : Hid (x k q ≠ y k q) := by show _ ≠ _; rw [hu, hv]; exact huv
                clear hu hv huv hrow hrow3
                go_wp2_with fail
                go_quiet (fail)
                go_wp2_with fail
                go_ret
                exact ⟨ret_bool (HN.out.1 _ _ HU.out).symm, below_step R.out.2.2.2.2 (below_draws HQ.out.1 _)⟩
            · have hqn : q = ids.length := by omega
              obtain ⟨b1, o1, hA1, hb1, hc1⟩ := (R.out.2.2.1.below HQ.out.1).ints (by rw [HL.out.1]; omega)
              obtain ⟨b2, o2, hA2, hb2, hc2⟩ := (R.out.2.2.2.1.below HQ.out.1).ints (by rw [HL.out.2]; omega)
              subst hA1 hA2
              obtain ⟨u, hu⟩ : ∃ u, G[k]? = some u := ⟨_, List.getElem?_eq_getElem (by rw [HL.out.1]; exact hlt)⟩
              obtain ⟨v, hv⟩ : ∃ v, H[k]? = some v := ⟨_, List.getElem?_eq_getElem (by rw [HL.out.2]; exact hlt)⟩
              have g1 := hc1 k _ hu
              have g2 := hc2 k _ hv
              have hkG : (k : Int) < (G.length : Int) := by rw [HL.out.1]; omega
              have hkH : (k : Int) < (H.length : Int) := by rw [HL.out.2]; omega
              have HQn := Lib.hid hqn
              by_cases huv : u = v
              · have e2 : (u != v) = false := by simp [huv]
                have HU : Hid (G[k]? = H[k]?) := by show _ = _; rw [hu, hv, huv]
                clear hu hv huv hc1 hc2 hqn
                go_wp2_with fail
                go_quiet (fail)
                go_wp2_with fail
                go_roundw
                case rel =>
                  refine ⟨k + 1, by omega, by go_num, below_draws HQ.out.1 _, fun i j hi hj => ?_, fun i hi => ?_⟩
                  · by_cases hi2 : i < k
                    · exact HK.out.2.1 i j hi2 hj
                    · have : i = k := by omega
                      subst this
                      exact HQ.out.2 j (by rw [HQn.out]; exact hj)
                  · by_cases hi2 : i < k
                    · exact HK.out.2.2 i hi2
                    · have : i = k := by omega
                      subst this
                      exact HU.out
                case measure => simp [intOf]; omega
              · have e2 : (u != v) = true := by simp [huv]
                have HU : Hid (G[k]? ≠ H[k]?) := by show _ ≠ _; rw [hu, hv]; simpa using huv
                clear hu hv huv hc1 hc2 hqn
                go_wp2_with fail
                go_quiet (fail)
                go_wp2_with fail
                go_ret
                exact ⟨ret_bool (HN.out.2 _ HU.out).symm, below_step R.out.2.2.2.2 (below_draws HQ.out.1 _)⟩
        · have hkn : k = ids.length := by omega
          have HKn := Lib.hid hkn
          clear hkn
          go_wp2_with fail
          go_ret
          refine ⟨ret_bool (HY.out (fun i j hi hj => HK.out.2.1 i j (by rw [HKn.out]; exact hi) hj) fun i hi => HK.out.2.2 i (by rw [HKn.out]; exact hi)).symm, below_step R.out.2.2.2.2 HK.out.1⟩
end Go.Proofs.Ytjkjnicgbfpjiaa
