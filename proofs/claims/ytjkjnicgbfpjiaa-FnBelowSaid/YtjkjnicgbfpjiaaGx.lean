/- What the program's list of the members of a group is. -/
import Derived.Test.YtjkjnicgbfpjiaaGw
namespace Go.Proofs.Ytjkjnicgbfpjiaa
open Go.RowKit

theorem membersG_len (ids : List Int) (l : List Ctx) (id : Int) : (membersG ids l id).length ≤ ids.length := by
  unfold membersG
  split
  · exact Nat.le_trans (selG_len _ _ _) (by rw [groupsG_len]; exact Nat.le_refl _)
  · simp
set_option maxHeartbeats 1600000 in
set_option maxRecDepth 100000 in
theorem iMembers_any (A B : Option Addr) (ca cb : Nat) (ids : List Int) (l : List Ctx) (id : Int) (w : World) (ha : Reads w w.heap.size 1 A ids.length (cellsI ids)) (hb : Reads w w.heap.size 3 B l.length (cellsC l)) (hn : ids.length ≤ 1000000000) (hl : l.length ≤ 1000000000) :
    Calls Try.prog 36 #[.slice A ids.length ca, .slice B l.length cb, .int .i64 id] w (IntsPost w (membersG ids l id)) := by
  obtain ⟨i0, hi0, hz0, hz1, hz2⟩ := info_parts infoInt
  cases hok : okG ids l
  · go_enter Try.func36, Try.ntmps36
    go_wp2_with fail
    refine (iGroups_any A B ca cb ids l w ha hb (by omega) (by omega)).mono ?_
    rintro e w2 ⟨v2, rfl, hb2, ho2⟩
    rw [hok]
    have hm : membersG ids l id = [] := by simp [membersG, hok]
    go_wp2_with (go_at_call 70; go_must (refine (indexI_any _ _ ids id _ (ha.step hb2) (by omega)).mono ?_); rintro e w3 ⟨rfl, rfl⟩)
    go_ret
    exact intsPost_nil hm hb2
  · by_cases hin : id ∈ ids
    · obtain ⟨hp1, hp2, hp3⟩ := placeI_at hin
      obtain ⟨p, hp⟩ : ∃ p, p = placeI ids id := ⟨_, rfl⟩
      rw [← hp] at hp1 hp2 hp3
      have hGl : (groupsG ids l).length = ids.length := groupsG_len ids l
      obtain ⟨G, hG⟩ : ∃ G, G = groupsG ids l := ⟨_, rfl⟩
      rw [← hG] at hGl
      obtain ⟨a, hga⟩ : ∃ a, G[p]? = some a := ⟨_, List.getElem?_eq_getElem (by omega)⟩
      have hlab : labG ids G id = a := by unfold labG; rw [← hp, hga]; rfl
      have hm : membersG ids l id = selG (toP a) ids G := by simp [membersG, hok, hin, ← hG, hlab]
      have hof : groupsOfG ids l = G := by rw [groupsOfG, if_pos hok, hG]
      have HM := Lib.hid hm
      clear hp hlab hm hp3 hin hG
      have hpn : (p : Int) < (ids.length : Int) := by omega
      have hpg : p < G.length := by omega
      have hpgi : (p : Int) < (G.length : Int) := by omega
      have hle2 : G.length ≤ 1000000000 := by omega
      have HGL := Lib.hid hGl
      clear hGl
      go_enter Try.func36, Try.ntmps36
      go_wp2_with fail
      refine (iGroups_any A B ca cb ids l w ha hb (by omega) (by omega)).mono ?_
      rintro e w2 ⟨v2, rfl, hb2, ho2⟩
      rw [hok]
      rw [hof] at ho2
      obtain ⟨A2, c2, rfl, hc2, hr2⟩ := own_slice ho2
      have HO := Lib.hid (And.intro hb2 (And.intro hr2 (And.intro (ha.step hb2) hga)))
      have hs2 := hb2.size
      clear ho2 hb2 hr2 ha hb hok hof hga
      go_wp2_with (go_at_call 70; go_must (refine (indexI_any _ _ ids id _ HO.out.2.2.1 (by omega)).mono ?_); rw [hp1]; rintro e w3 ⟨rfl, rfl⟩)
      go_loopw [10, 30] (fun v i wr => ∃ k : Nat, k ≤ G.length ∧ i = .int .i64 k ∧ Below w2.heap.size w2 wr ∧ wr.ownsRow w2.heap.size 3 1 v (selG (toP a) (ids.take k) (G.take k)).length (cellsI (selG (toP a) (ids.take k) (G.take k)))) (fun _ i _ => G.length - (intOf i).toNat)
      case atStart => exact ⟨0, Nat.zero_le _, rfl, Below.refl _ _, by simpa [cellsI, selG] using World.ownsRow_nil w2 w2.heap.size _ 1⟩
      case round =>
        obtain ⟨k, hk, rfl, hbl, hown⟩ := hrel
        have hsz := hbl.size
        by_cases hlt : k < G.length
        · obtain ⟨b, off, hA2, hbb, hc⟩ := (HO.out.2.1.below hbl).ints (by omega)
          obtain ⟨b3, off3, hA3, hbb3, hc3⟩ := (HO.out.2.2.1.below hbl).ints (by omega)
          subst hA2 hA3
          have hkn : k < ids.length := by rw [← HGL.out]; exact hlt
          obtain ⟨x, hx⟩ : ∃ x, G[k]? = some x := ⟨_, List.getElem?_eq_getElem hlt⟩
          obtain ⟨y, hy⟩ : ∃ y, ids[k]? = some y := ⟨_, List.getElem?_eq_getElem hkn⟩
          have c1 := hc k _ hx
          have c2 := hc p _ HO.out.2.2.2
          have c3 := hc3 k _ hy
          have hkl : (k : Int) < (G.length : Int) := by omega
          have hkni : (k : Int) < (ids.length : Int) := by omega
          have hle : (selG (toP a) (ids.take k) (G.take k)).length ≤ 1000000000 := by
            have := selG_len (toP a) (ids.take k) (G.take k)
            rw [List.length_take] at this; omega
          have HB := Lib.hid hbl
          clear hc hc3
          cases hp : toP a x y
          · have e0 : (x == a) = false := by simpa [toP] using hp
            have HT := Lib.hid (selG_no hx hy hp)
            clear hp hx hy hbl
            go_wp2_with fail
            go_roundw
            case rel => exact ⟨k + 1, by omega, by go_num, HB.out, by rw [HT.out]; exact hown⟩
            case measure => simp [intOf]; omega
          · have e0 : (x == a) = true := by simpa [toP] using hp
            have HT := Lib.hid (selG_yes hx hy hp)
            clear hp hx hy hbl
            go_wp2_with (at_builtin
                         go_must (refine wpList_append_reads _ rfl (.tmp 41) (.tmp 46) _ rfl w2.heap.size 3 i0 _ 1 8 Try.underlying23 hi0 hz0 hz1 hz2 rfl (by omega) u10 (selG (toP a) (ids.take k) (G.take k)).length _ rfl (hown.alloc _) (wr.heap.size + 1) _ 1 1 (cellsI [y]) rfl (reads_int (by omega)) (cellsI_one _) (by simp only [maxLen]; omega) (by omega) (by simp; omega) ?_)
                         intro v4 w4 hown4 hg4 hat4
                         have hb4 := app_below hown (Nat.le_refl _) hsz hg4)
            go_roundw
            case rel =>
              refine ⟨k + 1, by omega, by go_num, HB.out.trans hb4, ?_⟩
              rw [HT.out, cellsI_append, List.length_append]
              exact hown4
            case measure => simp [intOf]; omega
        · have hkl : k = G.length := by omega
          have HK := Lib.hid (And.intro hkl (And.intro hbl hown))
          clear hkl hbl hown
          go_wp2_with fail
          go_ret
          obtain ⟨hkl, hbl, hown⟩ := HK.out
          subst hkl
          rw [selG_all (toP a) (Nat.le_of_eq HGL.out)] at hown
          refine ⟨_, rfl, below_step HO.out.1 hbl, ?_⟩
          rw [HM.out]
          exact own_less hown hs2
    · have hm : membersG ids l id = [] := by simp [membersG, hin]
      have hf : findI ids id = -1 := by
        rcases findI_spec ids id with ⟨h, _⟩ | ⟨_, _, _, _, h⟩
        · exact h
        · exact absurd h hin
      clear hin
      go_enter Try.func36, Try.ntmps36
      go_wp2_with fail
      refine (iGroups_any A B ca cb ids l w ha hb (by omega) (by omega)).mono ?_
      rintro e w2 ⟨v2, rfl, hb2, ho2⟩
      rw [hok]
      go_wp2_with (go_at_call 70; go_must (refine (indexI_any _ _ ids id _ (ha.step hb2) (by omega)).mono ?_); rw [hf]; rintro e w3 ⟨rfl, rfl⟩)
      go_ret
      exact intsPost_nil hm hb2
end Go.Proofs.Ytjkjnicgbfpjiaa
