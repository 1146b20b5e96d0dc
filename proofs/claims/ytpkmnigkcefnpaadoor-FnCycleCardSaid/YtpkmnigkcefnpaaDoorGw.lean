/- What the program's lists of heads and of members are. -/
import Derived.Test.YtpkmnigkcefnpaaDoorGv
import Derived.Test.YtpkmnigkcefnpaaDoorPd
namespace Go.Proofs.YtpkmnigkcefnpaaDoor
open Go.RowKit

theorem cellsI_append (l m : List Int) : cellsI (l ++ m) = cellsI l ++ cellsI m := by simp [cellsI]
def IntsPost (w : World) (out : List Int) (e : Ending) (w2 : World) : Prop :=
  ∃ v, e = .returned v ∧ Below w.heap.size w w2 ∧ w2.ownsRow w.heap.size 3 1 v out.length (cellsI out)
theorem intsPost_nil {w w2 : World} {out : List Int} (h : out = []) (hb : Below w.heap.size w w2) : IntsPost w out (.returned (.slice none 0 0)) w2 := by
  subst h
  exact ⟨_, rfl, hb, rfl, .inl ⟨rfl, rfl⟩⟩
set_option maxHeartbeats 1600000 in
set_option maxRecDepth 100000 in
theorem iHeads_any (A B : Option Addr) (ca cb : Nat) (ids : List Int) (l : List Ctx) (w : World) (ha : Reads w w.heap.size 1 A ids.length (cellsI ids)) (hb : Reads w w.heap.size 3 B l.length (cellsC l)) (hn : ids.length ≤ 1000000000) (hl : l.length ≤ 1000000000) :
    Calls Tryd.prog 12 #[.slice A ids.length ca, .slice B l.length cb] w (IntsPost w (headsG ids l)) := by
  obtain ⟨i0, hi0, hz0, hz1, hz2⟩ := info_parts infoInt
  obtain ⟨G, hG⟩ : ∃ G, G = groupsOfG ids l := ⟨_, rfl⟩
  have hGl : G.length ≤ ids.length := by rw [hG]; exact groupsOfG_len ids l
  have HG := Lib.hid hG
  go_enter Tryd.func12, Tryd.ntmps12
  go_wp2_with fail
  refine (iGroups_any A B ca cb ids l w ha hb (by omega) (by omega)).mono ?_
  rintro e w2 ⟨v2, rfl, hb2, ho2⟩
  rw [← hG] at ho2
  obtain ⟨A2, c2, rfl, hc2, hr2⟩ := own_slice ho2
  clear hG
  have HO := Lib.hid (And.intro ho2 (And.intro hb2 (And.intro hr2 (ha.step hb2))))
  have hs2 := hb2.size
  clear ho2 hb2 hr2 ha hb
  go_wp2_with fail
  go_loopw [7, 18] (fun v i wr => ∃ k : Nat, k ≤ G.length ∧ i = .int .i64 k ∧ Below w2.heap.size w2 wr ∧ wr.ownsRow w2.heap.size 3 1 v (selG sameP (ids.take k) (G.take k)).length (cellsI (selG sameP (ids.take k) (G.take k)))) (fun _ i _ => G.length - (intOf i).toNat)
  case atStart => exact ⟨0, Nat.zero_le _, rfl, Below.refl _ _, by simpa [cellsI, selG] using World.ownsRow_nil w2 w2.heap.size _ 1⟩
  case round =>
    obtain ⟨k, hk, rfl, hbl, hown⟩ := hrel
    have hsz := hbl.size
    by_cases hlt : k < G.length
    · obtain ⟨b, off, hA2, hbb, hc⟩ := (HO.out.2.2.1.below hbl).ints (by omega)
      obtain ⟨b3, off3, hA3, hbb3, hc3⟩ := (HO.out.2.2.2.below hbl).ints (by omega)
      subst hA2 hA3
      have hx := List.getElem?_eq_getElem hlt
      have hy := List.getElem?_eq_getElem (show k < ids.length by omega)
      obtain ⟨x, hx⟩ : ∃ x, G[k]? = some x := ⟨_, hx⟩
      obtain ⟨y, hy⟩ : ∃ y, ids[k]? = some y := ⟨_, hy⟩
      have c1 := hc k _ hx
      have c3 := hc3 k _ hy
      have hkl : (k : Int) < (G.length : Int) := by omega
      have hkn : (k : Int) < (ids.length : Int) := by omega
      have hle : (selG sameP (ids.take k) (G.take k)).length ≤ 1000000000 := by
        have := selG_len sameP (ids.take k) (G.take k)
        rw [List.length_take] at this; omega
      have HXY := Lib.hid (And.intro hx hy)
      have HB := Lib.hid hbl
      clear hc hc3
      cases hp : sameP x y
      · have e0 : (x == y) = false := by simpa [sameP] using hp
        have HT := Lib.hid (selG_no hx hy hp)
        clear hp hx hy hbl
        go_wp2_with fail
        go_roundw
        case rel => exact ⟨k + 1, by omega, by go_num, HB.out, by rw [HT.out]; exact hown⟩
        case measure => simp [intOf]; omega
      · have e0 : (x == y) = true := by simpa [sameP] using hp
        have exy : x = y := by simpa [sameP] using hp
        have HT := Lib.hid (selG_yes hx hy hp)
        have HE := Lib.hid exy
        clear hp hx hy hbl exy
        go_wp2_with (at_builtin
                     go_must (refine wpList_append_reads _ rfl (.tmp 29) (.tmp 31) _ rfl w2.heap.size 3 i0 _ 1 8 Tryd.underlying23 hi0 hz0 hz1 hz2 rfl (by omega) u7 (selG sameP (ids.take k) (G.take k)).length _ rfl (hown.alloc _) (wr.heap.size + 1) _ 1 1 (cellsI [x]) rfl (reads_int (by omega)) (cellsI_one _) (by simp only [maxLen]; omega) (by omega) (by simp; omega) ?_)
                     intro v4 w4 hown4 hg4 hat4
                     have hb4 := app_below hown (Nat.le_refl _) hsz hg4)
        go_roundw
        case rel =>
          refine ⟨k + 1, by omega, by go_num, HB.out.trans hb4, ?_⟩
          rw [HT.out, cellsI_append, List.length_append, ← HE.out]
          exact hown4
        case measure => simp [intOf]; omega
    · have hkl : k = G.length := by omega
      have HK := Lib.hid (And.intro hkl (And.intro hbl hown))
      clear hkl hbl hown
      go_wp2_with fail
      go_ret
      obtain ⟨hkl, hbl, hown⟩ := HK.out
      subst hkl
      rw [selG_all sameP hGl] at hown
      refine ⟨_, rfl, below_step HO.out.2.1 hbl, ?_⟩
      rw [headsG, ← HG.out]
      exact own_less hown hs2
end Go.Proofs.YtpkmnigkcefnpaaDoor
