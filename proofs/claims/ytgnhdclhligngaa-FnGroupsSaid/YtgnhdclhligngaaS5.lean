/- What the model's list of the members of a group is. -/
import Derived.Test.YtgnhdclhligngaaS4
namespace Go.Proofs.Ytgnhdclhligngaa
open Go.RowKit

set_option maxHeartbeats 1600000 in
theorem sMembers_any (A B : Option Addr) (ca cb : Nat) (ids : List Int) (l : List Ctx) (id : Int) (w : World) (ha : Reads w w.heap.size 1 A ids.length (cellsI ids)) (hb : Reads w w.heap.size 3 B l.length (cellsC l)) (hn : ids.length ≤ 1000000000) (hl : l.length ≤ 1000000000) :
    Calls Try.prog 27 #[.slice A ids.length ca, .slice B l.length cb, .int .i64 id] w (IntsS w (membersG ids l id)) := by
  obtain ⟨i0, hi0, hz0, hz1, hz2⟩ := info_parts sInfoInt
  have hb1 : Below w.heap.size w (w.alloc (.cells #[] 3)) := (Below.refl _ _).alloc (Nat.le_refl _) _
  have ho1 : (w.alloc (.cells #[] 3)).ownsRow w.heap.size 3 1 (.slice (some ⟨w.heap.size, 0, none⟩) 0 0) 0 [] := own_empty (Nat.le_refl _) rfl
  have ha1 := ha.step hb1
  have hl1 := hb.step hb1
  cases hok : okG ids l
  · have hm : membersG ids l id = [] := by simp [membersG, hok]
    go_enter Try.func27, Try.ntmps27
    go_wp2_with (go_at_call 46; go_must (refine (sOk_any _ _ _ _ ids l _ ha1 hl1 (by omega) (by omega)).mono ?_); rw [hok]; rintro e w2 ⟨rfl, k2⟩)
    go_ret
    refine ⟨_, rfl, below_step hb1 k2, ?_⟩
    rw [hm]
    exact own_below ho1 k2
  · by_cases hin : id ∈ ids
    · obtain ⟨hp1, hp2, hp3⟩ := placeI_at hin
      obtain ⟨p, hp⟩ : ∃ p, p = placeI ids id := ⟨_, rfl⟩
      rw [← hp] at hp1 hp2 hp3
      have hnn : ids.length ≤ 12 := validO_len (okG_parts hok).1
      obtain ⟨G, hG⟩ : ∃ G, G = groupsG ids l := ⟨_, rfl⟩
      have hGl : G.length = ids.length := by rw [hG, groupsG_len]
      obtain ⟨a, hga⟩ : ∃ a, G[p]? = some a := ⟨_, List.getElem?_eq_getElem (by omega)⟩
      have hlab : labG ids G id = a := by unfold labG; rw [← hp, hga]; rfl
      have hm : membersG ids l id = selG (toP a) ids G := by simp [membersG, hok, hin, ← hG, hlab]
      have HM := Lib.hid (And.intro hm hga)
      have HN := Lib.hid hGl
      have hle : G.length ≤ 12 := by omega
      have hpn : (p : Int) < (ids.length : Int) := by omega
      have hpg : (p : Int) < (G.length : Int) := by omega
      have hpg2 : p < G.length := by omega
      have hpos : decide ((p : Int) < 0) = false := by simp
      have hgs := fun (w2 : World) (h2 : Below w.heap.size w w2) => sGroups_any A B ca cb ids l w2 (ha.step h2) (hb.step h2) hok
      rw [← hG] at hgs
      have HA := Lib.hid (And.intro ha (And.intro hgs (And.intro hb1 ho1)))
      have HA1 := Lib.hid (And.intro ha1 (And.intro hl1 hok))
      clear hG hGl hga hlab hm hp hp3 hin ha hb hgs hb1 ho1 ha1 hl1 hok
      go_enter Try.func27, Try.ntmps27
      go_wp2_with (first
        | (go_at_call 46; go_must (refine (sOk_any _ _ _ _ ids l _ HA1.out.1 HA1.out.2.1 (by omega) (by omega)).mono ?_); rw [HA1.out.2.2]; rintro e w2 ⟨rfl, k2⟩)
        | (go_at_call 51; go_must (refine (sPlace_to _ _ ids id p _ (HA1.out.1.step k2) (by omega) hp1).mono ?_); rintro e w2 ⟨rfl, rfl⟩)
        | (go_at_call 47; go_must (refine (HA.out.2.1 _ (below_step HA.out.2.2.1 k2)).mono ?_)
           rintro e w3 ⟨v3, rfl, k3, ho3⟩
           obtain ⟨A2, c2, rfl, hc2, hr3⟩ := own_slice ho3))
      have hb3 := below_step (below_step HA.out.2.2.1 k2) k3
      have hout := own_below (own_below HA.out.2.2.2 k2) k3
      have hne := own_far2 (own_below HA.out.2.2.2 k2) ho3 (Nat.le_refl _)
      have HX := Lib.hid (And.intro ho3 (And.intro hb3 (And.intro hout hne)))
      have hs3 := hb3.size
      clear ho3 hr3 hb3 hout hne k3
      go_loopw [7, 9] (fun v i wr => ∃ k : Nat, k ≤ ids.length ∧ i = .int .i64 k ∧ Below w.heap.size w wr ∧ wr.ownsRow w.heap.size 3 1 v (selG (toP a) (ids.take k) (G.take k)).length (cellsI (selG (toP a) (ids.take k) (G.take k))) ∧
        wr.ownsRow w2.heap.size 3 1 (Value.slice A2 G.length c2) G.length (cellsI G) ∧ ∀ g, (Value.slice A2 G.length c2).ownBlock = some g → v.ownBlock ≠ some g) (fun _ i _ => ids.length - (intOf i).toNat)
      case atStart => exact ⟨0, Nat.zero_le _, rfl, HX.out.2.1, by simpa [cellsI, selG] using HX.out.2.2.1, HX.out.1, HX.out.2.2.2⟩
      case round =>
        obtain ⟨k, hk, rfl, hbl, hown, hgr, hne⟩ := hrel
        have hsz := hbl.size
        by_cases hlt : k < ids.length
        · have hkg : k < G.length := by rw [HN.out]; exact hlt
          obtain ⟨b, off, hA2, hbb, hc⟩ := (own_reads hgr).ints (by omega)
          obtain ⟨b3, off3, hA3, hbb3, hc3⟩ := (HA.out.1.below hbl).ints (by omega)
          subst hA2 hA3
          obtain ⟨x, hx⟩ : ∃ x, G[k]? = some x := ⟨_, List.getElem?_eq_getElem hkg⟩
          obtain ⟨y, hy⟩ : ∃ y, ids[k]? = some y := ⟨_, List.getElem?_eq_getElem hlt⟩
          have c1 := hc k _ hx
          have c2' := hc p _ HM.out.2
          have c3 := hc3 k _ hy
          have hkl : (k : Int) < (G.length : Int) := by omega
          have hkn : (k : Int) < (ids.length : Int) := by omega
          have hsl : (selG (toP a) (ids.take k) (G.take k)).length ≤ 12 := by
            have := selG_len (toP a) (ids.take k) (G.take k)
            rw [List.length_take] at this; omega
          have HB := Lib.hid (And.intro hbl (And.intro hgr hne))
          clear hc hc3
          cases hp : toP a x y
          · have e0 : (x == a) = false := by simpa [toP] using hp
            have HT := Lib.hid (selG_no hx hy hp)
            clear hp hx hy hbl hgr hne
            go_wp2_with fail
            refine region_still_tail2 10 (by kernel_rfl) (by kernel_rfl) ?_
            intro W hW hz hbw
            simp only [List.take_succ_cons, List.take_zero, List.drop_succ_cons, List.drop_zero]
            have haW := (HA.out.1.step HB.out.1).step hbw
            repeat (first | still_step | still_call (sPlace_to _ _ ids id p _ haW (by omega) hp1))
            refine wpStill_nil ?_
            have hoW := own_below hown hbw
            have hgW := own_below HB.out.2.1 hbw
            have hcW := hW ⟨b3, off3 + k, none⟩
            rw [c3] at hcW
            have hsW := Nat.le_trans hsz hbw.size
            have HW := Lib.hid (And.intro (below_step HB.out.1 hbw) (And.intro hoW hgW))
            clear hW hbw haW hgW hown c1 c2' c3 hz
            go_wp2_with fail
            go_roundw
            case rel => exact ⟨k + 1, by omega, by go_num, HW.out.1, by rw [HT.out]; exact HW.out.2.1, HW.out.2.2, HB.out.2.2⟩
            case measure => simp [intOf]; omega
          · have e0 : (x == a) = true := by simpa [toP] using hp
            have HT := Lib.hid (selG_yes hx hy hp)
            clear hp hx hy hbl hgr hne
            go_wp2_with fail
            refine region_still_tail2 10 (by kernel_rfl) (by kernel_rfl) ?_
            intro W hW hz hbw
            simp only [List.take_succ_cons, List.take_zero, List.drop_succ_cons, List.drop_zero]
            have haW := (HA.out.1.step HB.out.1).step hbw
            repeat (first | still_step | still_call (sPlace_to _ _ ids id p _ haW (by omega) hp1))
            refine wpStill_nil ?_
            have hoW := own_below hown hbw
            have hgW := own_below HB.out.2.1 hbw
            have hcW := hW ⟨b3, off3 + k, none⟩
            rw [c3] at hcW
            have hsW := Nat.le_trans hsz hbw.size
            have HW := Lib.hid (And.intro (below_step HB.out.1 hbw) (And.intro hoW hgW))
            clear hW hbw haW hgW hown c1 c2' c3 hz
            go_wp2_with (at_builtin
                         go_must (refine wpList_append_reads _ rfl (.tmp 42) (.tmp 47) _ rfl w.heap.size 3 i0 _ 1 8 Try.underlying23 hi0 hz0 hz1 hz2 rfl (by omega) u7 (selG (toP a) (ids.take k) (G.take k)).length _ rfl (hoW.alloc _) (W.heap.size + 1) _ 1 1 (cellsI [y]) rfl (reads_int (by omega)) (cellsI_one _) (by simp only [maxLen]; omega) (by omega) (by simp; omega) ?_)
                         intro v4 w4 hown4 hg4 hat4)
            go_roundw
            case rel =>
              obtain ⟨h1, h2⟩ := app_both HW.out.2.1 HW.out.2.2 HB.out.2.2 hg4 hat4
              refine ⟨k + 1, by omega, by go_num, HW.out.1.trans (app_below HW.out.2.1 (Nat.le_refl _) hsW hg4), ?_, h1, h2⟩
              rw [HT.out, sCells_append, List.length_append]
              exact hown4
            case measure => simp [intOf]; omega
        · have hkl : k = ids.length := by omega
          have HK := Lib.hid (And.intro hkl (And.intro hbl hown))
          clear hkl hbl hown hgr hne
          go_wp2_with fail
          go_ret
          obtain ⟨hkl, hbl, hown⟩ := HK.out
          subst hkl
          rw [← HN.out, selG_all (toP a) (Nat.le_of_eq HN.out)] at hown
          refine ⟨_, rfl, hbl, ?_⟩
          rw [HM.out.1]
          exact hown
    · have hm : membersG ids l id = [] := by simp [membersG, hin]
      have hf : findI ids id = -1 := by
        rcases findI_spec ids id with ⟨h, _⟩ | ⟨_, _, _, _, h⟩
        · exact h
        · exact absurd h hin
      clear hin
      go_enter Try.func27, Try.ntmps27
      go_wp2_with (first
        | (go_at_call 46; go_must (refine (sOk_any _ _ _ _ ids l _ ha1 hl1 (by omega) (by omega)).mono ?_); rw [hok]; rintro e w2 ⟨rfl, k2⟩)
        | (go_at_call 51; go_must (refine (sPlace_any _ _ ids id _ (ha1.step k2) (by omega)).mono ?_); rw [hf]; rintro e w2 ⟨rfl, rfl⟩))
      go_ret
      refine ⟨_, rfl, below_step hb1 k2, ?_⟩
      rw [hm]
      exact own_below ho1 k2
end Go.Proofs.Ytgnhdclhligngaa
