/- What the program's groups, their heads and their members are. -/
import Derived.Test.YtjkjnicgbfpjiaaGu
import Derived.Test.YtjkjnicgbfpjiaaIl
namespace Go.Proofs.Ytjkjnicgbfpjiaa
open Go.RowKit

theorem own_set_other {w : World} {base e size n g cap : Nat} {xs : List Value} (h : w.ownsRow base e size (.slice (some ⟨g, 0, none⟩) n cap) n xs) {q : Addr} (hq : g ≠ q.block) (u : Value) : (w.setCell q u).ownsRow base e size (.slice (some ⟨g, 0, none⟩) n cap) n xs := by
  refine ⟨h.1, ?_⟩
  rcases h.2 with hn | ⟨g2, cap2, cur, hv, hbg, hh, rest⟩
  · exact .inl hn
  · have e : g2 = g := by injection hv with h1; injection h1 with h1; injection h1 with h1; exact h1.symm
    exact .inr ⟨g2, cap2, cur, hv, hbg, (heap_setCell_other _ _ _ _ (by omega)).trans hh, rest⟩
def GroupsPost (w : World) (ids : List Int) (rels : List Ctx) (e : Ending) (w2 : World) : Prop :=
  ∃ v, e = .returned (.tuple #[v, .bool (okG ids rels)]) ∧ Below w.heap.size w w2 ∧ w2.ownsRow w.heap.size 3 1 v (groupsOfG ids rels).length (cellsI (groupsOfG ids rels))
theorem groupsPost_bad {w w2 : World} {ids : List Int} {rels : List Ctx} (h : okG ids rels = false) (hb : Below w.heap.size w w2) : GroupsPost w ids rels (.returned (.tuple #[.slice none 0 0, .bool false])) w2 := by
  refine ⟨_, by rw [h], hb, ?_⟩
  rw [groupsOfG, h]
  exact ⟨rfl, .inl ⟨rfl, rfl⟩⟩
set_option maxHeartbeats 1600000 in
set_option maxRecDepth 100000 in
theorem iGroups_any (A B : Option Addr) (ca cb : Nat) (ids : List Int) (l : List Ctx) (w : World) (ha : Reads w w.heap.size 1 A ids.length (cellsI ids)) (hb : Reads w w.heap.size 3 B l.length (cellsC l)) (hn : ids.length ≤ 1000000000000) (hl : l.length ≤ 1000000000000) :
    Calls Try.prog 25 #[.slice A ids.length ca, .slice B l.length cb] w (GroupsPost w ids l) := by
  cases h1 : validI ids
  · go_enter Try.func25, Try.ntmps25
    go_wp2_with (first
      | (go_at_call 62; go_must (refine (iIds_any _ _ ids _ ha hn).mono ?_); rintro e w2 ⟨rfl, rfl⟩))
    go_ret2
    exact groupsPost_bad (by simp [okG, h1]) (Below.refl _ _)
  · cases h2 : validR l
    · go_enter Try.func25, Try.ntmps25
      go_wp2_with (first
        | (go_at_call 62; go_must (refine (iIds_any _ _ ids _ ha hn).mono ?_); rintro e w2 ⟨rfl, rfl⟩)
        | (go_at_call 21; go_must (refine (iRelsValid_any _ _ l _ hb (by omega)).mono ?_); rintro e w3 ⟨rfl, k3⟩))
      go_ret2
      exact groupsPost_bad (by simp [okG, h2]) k3
    · cases h3 : amongR ids l
      · go_enter Try.func25, Try.ntmps25
        go_wp2_with (first
          | (go_at_call 62; go_must (refine (iIds_any _ _ ids _ ha hn).mono ?_); rintro e w2 ⟨rfl, rfl⟩)
          | (go_at_call 21; go_must (refine (iRelsValid_any _ _ l _ hb (by omega)).mono ?_); rintro e w3 ⟨rfl, k3⟩)
          | (go_at_call 63; go_must (refine (iAmong_any _ _ _ _ ids l _ (ha.step k3) (hb.step k3) hn hl).mono ?_); rintro e w4 ⟨rfl, k4⟩))
        go_ret2
        exact groupsPost_bad (by simp [okG, h3]) (below_step k3 k4)
      · have hok : okG ids l = true := by simp [okG, h1, h2, h3]
        have hnn : ids.length ≤ 12 := validO_len h1
        have hll : l.length ≤ 30 := validO_len h2
        obtain ⟨i0, hi0, hz0, hz1, hz2⟩ := info_parts infoInt
        have HOK := Lib.hid hok
        clear hok
        go_enter Try.func25, Try.ntmps25
        go_wp2_with (first
          | (go_at_call 62; go_must (refine (iIds_any _ _ ids _ ha hn).mono ?_); rintro e w2 ⟨rfl, rfl⟩)
          | (go_at_call 21; go_must (refine (iRelsValid_any _ _ l _ hb (by omega)).mono ?_); rintro e w3 ⟨rfl, k3⟩)
          | (go_at_call 63; go_must (refine (iAmong_any _ _ _ _ ids l _ (ha.step k3) (hb.step k3) hn hl).mono ?_); rintro e w4 ⟨rfl, k4⟩; have k34 := below_step k3 k4)
          | (at_make
             go_must (refine wpList_make_full _ rfl (.tmp 24) (.tmp 24) _ rfl w4.heap.size 3 i0 _ 1 Try.underlying23 hi0 hz0 hz1 _ _ _ _ ids.length rfl rfl rfl rfl (by rw [hz2]; omega) (by simp only [maxLen]; omega) (Nat.le_refl _) ?_)
             intro w5 hown hg))
        obtain ⟨G, hG⟩ : ∃ G, G = groupsG ids l := ⟨_, rfl⟩
        have hGl : G.length = ids.length := by rw [hG, groupsG_len]
        have hb5 : Below w.heap.size w w5 := k34.grown hg k34.size (fun k hk => by cases hk)
        rw [zero_cellsI] at hown
        have hown0 : w5.ownsRow w4.heap.size 3 1 (.slice (some ⟨w4.heap.size, 0, none⟩) ids.length ids.length) ids.length (cellsI (fillI G 0)) := by simpa [fillI, hGl] using hown
        have hlt5 := (hown.lt _ rfl).2
        have hlt4 := k34.size
        have HX := Lib.hid (And.intro hG (And.intro hGl (And.intro hb5 hown0)))
        have HAB := Lib.hid (And.intro ha hb)
        clear hown hg hG hb5 hown0 k34 k3 k4 hGl ha hb h1 h2 h3 hi0 hz0 hz1 hz2
        refine (trees_any A B ca cb ids l w5 (HAB.out.1.step HX.out.2.2.1) (HAB.out.2.step HX.out.2.2.1) HOK.out).mono ?_
        rintro e w6 ⟨b0, par, rfl, hb6, hn6, hlt6, hs6, hf6, hl6⟩
        have hh6 := own_below HX.out.2.2.2 hb6
        have HY := Lib.hid (And.intro (below_step HX.out.2.2.1 hb6) (And.intro hn6 (And.intro hh6 (And.intro hf6 hl6))))
        clear hb6 hn6 hh6 hf6 hl6
        go_wp2_with fail
        go_loopw [30] (fun i wr => ∃ (k : Nat) (par : Nat → Option Nat), k ≤ ids.length ∧ i = .int .i64 k ∧ Below w.heap.size w wr ∧ wr.ownsRow w5.heap.size 80 1 (.slice (some ⟨w5.heap.size, 0, none⟩) ids.length ids.length) ids.length (ptrs b0 ids.length ids.length) ∧
          wr.ownsRow w4.heap.size 3 1 (.slice (some ⟨w4.heap.size, 0, none⟩) ids.length ids.length) ids.length (cellsI (fillI G k)) ∧ Forest wr b0 ids par ∧ LabP ids par G) (fun i _ => ids.length - (intOf i).toNat)
        case atStart => exact ⟨0, par, Nat.zero_le _, rfl, HY.out.1, HY.out.2.1, HY.out.2.2.1, HY.out.2.2.2.1, by rw [HX.out.1]; exact HY.out.2.2.2.2⟩
        case round =>
          obtain ⟨k, par, hk, rfl, hbl, hno, hhe, hfo, hla⟩ := hrel
          by_cases hlt : k < ids.length
          · have g1 := ptr_cell hno hlt
            have hkl : (k : Int) < (ids.length : Int) := by omega
            have hgk : G[k]? = some (G[k]'(by rw [HX.out.2.1]; exact hlt)) := List.getElem?_eq_getElem _
            obtain ⟨x, hx⟩ : ∃ x, G[k]? = some x := ⟨_, hgk⟩
            have hr : ids[rootF par k]? = some x := by rw [← hla.2 k hlt]; exact hx
            have HZ := Lib.hid (And.intro hbl (And.intro hno (And.intro hhe (And.intro hfo (And.intro hla (And.intro hx hr))))))
            clear hgk hx hr hbl hno hhe hfo hla
            go_wp2_with (go_at_call 65
                         go_must (refine (root_any b0 ids (by omega) k par _ hlt HZ.out.2.2.2.1).mono ?_)
                         rintro e w7 ⟨rfl, ⟨par2, hf2, hr2⟩, hm2⟩
                         go_must (have c0 := (hf2.cells ((congrArg (fun j => ids[j]?) (hr2 k)).trans HZ.out.2.2.2.2.2.2)).1)
                         go_must (rw [hr2 k] at c0)
                         go_must (have hh7 := own_mid HZ.out.2.2.1 hm2 (by omega))
                         go_must (obtain ⟨d1, d2⟩ := own_cell0 hh7 HX.out.2.1 hlt))
            go_roundw
            case rel =>
              obtain ⟨hbl, hno, hhe, hfo, hla, hx, hr⟩ := HZ.out
              have hno7 := own_set_other (own_mid hno hm2 hlt6) (q := ⟨w4.heap.size, k, none⟩) (show w5.heap.size ≠ w4.heap.size by omega) (.int .i64 x)
              have hh8 := own_storeI hh7 k x
              rw [fillI_set hx] at hh8
              refine ⟨k + 1, par2, by omega, by go_num, (Mid.below hbl (by omega) hm2).setCell (by simpa using hlt4) _, hno7, hh8, hf2.keep fun j h1 h2 => heap_setCell_other _ _ _ _ (show j ≠ w4.heap.size by omega), labP_roots hla hr2⟩
            case measure => simp [intOf]; omega
          · have hkl : k = ids.length := by omega
            have HZ := Lib.hid (And.intro hkl (And.intro hbl hhe))
            clear hkl hbl hno hhe hfo hla
            go_wp2_with fail
            go_ret2
            obtain ⟨hkl, hbl, hhe⟩ := HZ.out
            subst hkl
            refine ⟨_, by rw [HOK.out]; rfl, hbl, ?_⟩
            rw [groupsOfG, if_pos HOK.out, ← HX.out.1, HX.out.2.1]
            rw [← HX.out.2.1, fillI_all, HX.out.2.1] at hhe
            exact own_less hhe hlt4
end Go.Proofs.Ytjkjnicgbfpjiaa
