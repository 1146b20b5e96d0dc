/- What the model's groups, heads and members are. -/
import Derived.Test.YtgnhdclhligngaaS3
namespace Go.Proofs.Ytgnhdclhligngaa
open Go.RowKit

def GroupsS (w : World) (ids : List Int) (rels : List Ctx) (e : Ending) (w2 : World) : Prop :=
  ∃ v, e = .returned (.tuple #[v, .bool (okG ids rels)]) ∧ Below w.heap.size w w2 ∧ w2.ownsRow w.heap.size 3 1 v (groupsOfG ids rels).length (cellsI (groupsOfG ids rels))
theorem intsS_empty {w w1 : World} {out : List Int} {g : Nat} (h : out = []) (hb : Below w.heap.size w w1) (hg : g = w1.heap.size) : IntsS w out (.returned (.slice (some ⟨g, 0, none⟩) 0 0)) (w1.alloc (.cells #[] 3)) := by
  subst h
  exact ⟨_, rfl, hb.alloc hb.size _, own_empty hb.size hg⟩
theorem app_both {W w4 : World} {o : Obj} {base base2 e e2 s s2 n n2 : Nat} {v v2 v4 : Value} {xs ys : List Value} (hown : W.ownsRow base e s v n xs) (hgr : W.ownsRow base2 e2 s2 v2 n2 ys) (hne : ∀ g, v2.ownBlock = some g → v.ownBlock ≠ some g)
    (hg : (W.alloc o).grownBy w4 v.ownBlock) (hat : v4.ownBlock = v.ownBlock ∨ v4.ownBlock = some (W.alloc o).heap.size) : w4.ownsRow base2 e2 s2 v2 n2 ys ∧ ∀ g, v2.ownBlock = some g → v4.ownBlock ≠ some g := by
  refine ⟨own_other (hgr.alloc o) (hown.alloc o) hne hg, fun g h1 h2 => ?_⟩
  rcases hat with h | h
  · exact hne g h1 (h.symm.trans h2)
  · rw [h] at h2
    injection h2 with h2
    have := (hgr.lt g h1).2
    simp at h2
    omega
theorem sGroupsOf_any (A B : Option Addr) (ca cb : Nat) (ids : List Int) (l : List Ctx) (w : World) (ha : Reads w w.heap.size 1 A ids.length (cellsI ids)) (hb : Reads w w.heap.size 3 B l.length (cellsC l)) (hn : ids.length ≤ 1000000000) (hl : l.length ≤ 1000000000) :
    Calls Try.prog 19 #[.slice A ids.length ca, .slice B l.length cb] w (GroupsS w ids l) := by
  cases hok : okG ids l
  · go_enter Try.func19, Try.ntmps19
    go_wp2_with (go_at_call 46; go_must (refine (sOk_any _ _ _ _ ids l _ ha hb (by omega) (by omega)).mono ?_); rw [hok]; rintro e w2 ⟨rfl, k2⟩)
    go_ret2
    refine ⟨_, by rw [hok]; rfl, k2.alloc k2.size _, ?_⟩
    rw [groupsOfG, hok]
    exact own_empty k2.size rfl
  · go_enter Try.func19, Try.ntmps19
    go_wp2_with (first
      | (go_at_call 46; go_must (refine (sOk_any _ _ _ _ ids l _ ha hb (by omega) (by omega)).mono ?_); rw [hok]; rintro e w2 ⟨rfl, k2⟩)
      | (go_at_call 47; go_must (refine (sGroups_any _ _ _ _ ids l _ (ha.step k2) (hb.step k2) hok).mono ?_); rintro e w3 ⟨v3, rfl, k3, ho3⟩))
    go_ret2
    refine ⟨_, by rw [hok]; rfl, below_step k2 k3, ?_⟩
    rw [groupsOfG, if_pos hok]
    exact own_less ho3 k2.size

set_option maxHeartbeats 1600000 in
theorem sHeads3_any (A B : Option Addr) (ca cb : Nat) (ids : List Int) (l : List Ctx) (w : World) (ha : Reads w w.heap.size 1 A ids.length (cellsI ids)) (hb : Reads w w.heap.size 3 B l.length (cellsC l)) (hok : okG ids l = true) :
    Calls Try.prog 48 #[.slice A ids.length ca, .slice B l.length cb] w (IntsS w (headsG ids l)) := by
  obtain ⟨i0, hi0, hz0, hz1, hz2⟩ := info_parts sInfoInt
  have hn : ids.length ≤ 12 := validO_len (okG_parts hok).1
  obtain ⟨G, hG⟩ : ∃ G, G = groupsG ids l := ⟨_, rfl⟩
  have hGl : G.length = ids.length := by rw [hG, groupsG_len]
  have HH : Hid (headsG ids l = selG sameP ids G) := by show headsG ids l = selG sameP ids G; rw [headsG, groupsOfG, if_pos hok, hG]
  have HN := Lib.hid hGl
  have hle : G.length ≤ 12 := by omega
  have hb1 : Below w.heap.size w (w.alloc (.cells #[] 3)) := (Below.refl _ _).alloc (Nat.le_refl _) _
  have ho1 : (w.alloc (.cells #[] 3)).ownsRow w.heap.size 3 1 (.slice (some ⟨w.heap.size, 0, none⟩) 0 0) 0 [] := own_empty (Nat.le_refl _) rfl
  have hgr := (sGroups_any A B ca cb ids l _ (ha.step hb1) (hb.step hb1) hok)
  rw [← hG] at hgr
  have HA := Lib.hid (And.intro ha (And.intro hgr (And.intro hb1 ho1)))
  clear hG hok hGl ha hb hgr hb1 ho1
  go_enter Try.func48, Try.ntmps48
  go_wp2_with fail
  refine HA.out.2.1.mono ?_
  rintro e w2 ⟨v2, rfl, k2, ho2⟩
  obtain ⟨A2, c2, rfl, hc2, hr2⟩ := own_slice ho2
  have hb2 := below_step HA.out.2.2.1 k2
  have ho3 := own_below HA.out.2.2.2 k2
  have hne := own_far2 HA.out.2.2.2 ho2 (Nat.le_refl _)
  have HX := Lib.hid (And.intro ho2 (And.intro hb2 (And.intro ho3 hne)))
  have hs2 := hb2.size
  clear ho2 hr2 hb2 ho3 k2 hne
  go_wp2_with fail
  go_loopw [5, 7] (fun v i wr => ∃ k : Nat, k ≤ ids.length ∧ i = .int .i64 k ∧ Below w.heap.size w wr ∧ wr.ownsRow w.heap.size 3 1 v (selG sameP (ids.take k) (G.take k)).length (cellsI (selG sameP (ids.take k) (G.take k))) ∧
    wr.ownsRow (w.alloc (.cells #[] 3)).heap.size 3 1 (.slice A2 G.length c2) G.length (cellsI G) ∧ ∀ g, (Value.slice A2 G.length c2).ownBlock = some g → v.ownBlock ≠ some g) (fun _ i _ => ids.length - (intOf i).toNat)
  case atStart => exact ⟨0, Nat.zero_le _, rfl, HX.out.2.1, by simpa [cellsI, selG] using HX.out.2.2.1, HX.out.1, HX.out.2.2.2⟩
  case round =>
    obtain ⟨k, hk, rfl, hbl, hown, hgr, hne⟩ := hrel
    have hsz := hbl.size
    by_cases hlt : k < ids.length
    · have hkg : k < G.length := by rw [HN.out]; exact hlt
      obtain ⟨b, off, hA2, hbb, hc⟩ := (own_reads hgr).ints (by omega)
      obtain ⟨b3, off3, hA3, hbb3, hc3⟩ := (HA.out.1.below hbl).ints (by omega)
      subst hA2 hA3
      obtain ⟨x, hx⟩ : ∃ x, G[k]? = some x := ⟨_, List.getElem?_eq_getElem hkg⟩
      obtain ⟨y, hy⟩ : ∃ y, ids[k]? = some y := ⟨_, List.getElem?_eq_getElem hlt⟩
      have c1 := hc k _ hx
      have c3 := hc3 k _ hy
      have hkl : (k : Int) < (G.length : Int) := by omega
      have hkn : (k : Int) < (ids.length : Int) := by omega
      have hsl : (selG sameP (ids.take k) (G.take k)).length ≤ 12 := by
        have := selG_len sameP (ids.take k) (G.take k)
        rw [List.length_take] at this; omega
      have HB := Lib.hid (And.intro hbl (And.intro hgr hne))
      clear hc hc3
      cases hp : sameP x y
      · have e0 : (x == y) = false := by simpa [sameP] using hp
        have HT := Lib.hid (selG_no hx hy hp)
        clear hp hx hy hbl hgr hne
        go_wp2_with fail
        go_quiet (fail)
        go_wp2_with fail
        go_roundw
        case rel => exact ⟨k + 1, by omega, by go_num, below_draws HB.out.1 _, by rw [HT.out]; exact own_below hown (below_draws (Below.refl _ _) _), own_below HB.out.2.1 (below_draws (Below.refl _ _) _), HB.out.2.2⟩
        case measure => simp [intOf]; omega
      · have e0 : (x == y) = true := by simpa [sameP] using hp
        have HT := Lib.hid (selG_yes hx hy hp)
        clear hp hx hy hbl hgr hne
        go_wp2_with fail
        go_quiet (fail)
        have hown2 := own_below hown (below_draws (Below.refl _ wr) nq)
        have hgr2 := own_below HB.out.2.1 (below_draws (Below.refl _ wr) nq)
        have HB2 := Lib.hid hgr2
        clear hown hgr2
        go_wp2_with (at_builtin
                     go_must (refine wpList_append_reads _ rfl (.tmp 27) (.tmp 32) _ rfl w.heap.size 3 i0 _ 1 8 Try.underlying23 hi0 hz0 hz1 hz2 rfl (by omega) u5 (selG sameP (ids.take k) (G.take k)).length _ rfl (hown2.alloc _) ((wr.drewN nq).heap.size + 1) _ 1 1 (cellsI [y]) rfl (reads_int (by omega)) (cellsI_one _) (by simp only [maxLen]; omega) (by omega) (by simp [World.drewN]; omega) ?_)
                     intro v4 w4 hown4 hg4 hat4)
        go_roundw
        case rel =>
          obtain ⟨h1, h2⟩ := app_both hown2 HB2.out HB.out.2.2 hg4 hat4
          refine ⟨k + 1, by omega, by go_num, (below_draws HB.out.1 nq).trans (app_below hown2 (Nat.le_refl _) hsz hg4), ?_, h1, h2⟩
          rw [HT.out, sCells_append, List.length_append]
          exact hown4
        case measure => simp [intOf]; omega
    · have hkl : k = ids.length := by omega
      have HK := Lib.hid (And.intro hkl (And.intro hbl hown))
      clear hkl hbl hown hgr hne
      go_wp2_with fail
      go_ret
      obtain ⟨hkl, hbl, hown⟩ := HK.out
      subst hkl
      rw [← HN.out, selG_all sameP (Nat.le_of_eq HN.out)] at hown
      refine ⟨_, rfl, hbl, ?_⟩
      rw [HH.out]
      exact hown
theorem sHeads_any (A B : Option Addr) (ca cb : Nat) (ids : List Int) (l : List Ctx) (w : World) (ha : Reads w w.heap.size 1 A ids.length (cellsI ids)) (hb : Reads w w.heap.size 3 B l.length (cellsC l)) (hn : ids.length ≤ 1000000000) (hl : l.length ≤ 1000000000) :
    Calls Try.prog 24 #[.slice A ids.length ca, .slice B l.length cb] w (IntsS w (headsG ids l)) := by
  cases hok : okG ids l
  · go_enter Try.func24, Try.ntmps24
    go_wp2_with (go_at_call 46; go_must (refine (sOk_any _ _ _ _ ids l _ ha hb (by omega) (by omega)).mono ?_); rw [hok]; rintro e w2 ⟨rfl, k2⟩)
    go_ret
    exact intsS_empty (by rw [headsG, groupsOfG, hok]; exact selG_nil _ _) k2 rfl
  · go_enter Try.func24, Try.ntmps24
    go_wp2_with (first
      | (go_at_call 46; go_must (refine (sOk_any _ _ _ _ ids l _ ha hb (by omega) (by omega)).mono ?_); rw [hok]; rintro e w2 ⟨rfl, k2⟩)
      | (go_at_call 48; go_must (refine (sHeads3_any _ _ _ _ ids l _ (ha.step k2) (hb.step k2) hok).mono ?_); rintro e w3 ⟨v3, rfl, k3, ho3⟩))
    go_ret
    exact ⟨_, rfl, below_step k2 k3, own_less ho3 k2.size⟩
end Go.Proofs.Ytgnhdclhligngaa
