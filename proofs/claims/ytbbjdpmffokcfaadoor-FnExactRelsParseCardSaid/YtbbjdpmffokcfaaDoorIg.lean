/- What the program's reading of a text of relations returns, at any text. -/
import Derived.Test.YtbbjdpmffokcfaaDoorRg
import Derived.Test.YtbbjdpmffokcfaaDoorIp
namespace Go.Proofs.YtbbjdpmffokcfaaDoor
open Go.RowKit

set_option maxHeartbeats 8000000 in
set_option maxRecDepth 100000 in
theorem iParse_gen (t : List UInt8) (w : World) (hl : t.length ≤ 1500000) (hG : Glob w) :
    Calls Tryd.prog 12 #[.string (txt t)] w (PairR w (parseR t) (validR (parseL t))) := by
  obtain ⟨i0, hi0, hz0, hz1, hz2⟩ := info_parts infoRel
  by_cases ht : t = []
  · subst ht
    go_enter Tryd.func12, Tryd.ntmps12
    have hE := txt_isnt
    go_wp2_with fail
    go_ret2
    exact pairR_back (m := []) ⟨rfl, rfl⟩ (Below.refl _ _) (World.ownsRow_nil _ _ _ _)
  · have hE := txt_is ht
    have HT := Lib.hid ht
    clear ht
    go_enter Tryd.func12, Tryd.ntmps12
    go_wp2_with fail
    refine (split_any t (by omega) _ hG).mono ?_
    rintro e w2 ⟨rfl, hw2⟩
    have hb2 : Below w.heap.size w w2 := by rw [hw2]; exact (Below.refl _ _).alloc (Nat.le_refl _) _
    have hnl := cutL_len 32 t
    have hst : Strs w2 w.heap.size 0 (cutL 32 t) := by
      rw [hw2]
      refine ⟨by simp, fun k x hk => ?_⟩
      rw [Nat.zero_add]
      refine (cell_of_row _ _ k _ _ _ (heap_alloc_new _ _)).trans ?_
      rw [List.getElem?_toArray, List.getElem?_map, hk]
      rfl
    clear hw2
    obtain ⟨ws, hws⟩ : ∃ ws, ws = cutL 32 t := ⟨_, rfl⟩
    have HWS := Lib.hid hws
    rw [← hws] at hst hnl
    rw [← hws]
    clear hws
    have HX := Lib.hid (And.intro hst hb2)
    clear hst hb2
    go_wp2_with fail
    go_loopw [4, 14] (fun vo vi wr => ∃ (k : Nat) (L : List Ctx), k ≤ ws.length ∧ vi = .int .i64 k ∧ Hid (Took ws L k) ∧ Below w.heap.size w wr ∧ Strs wr w.heap.size 0 ws ∧ vo.ownBlock ≠ some w.heap.size ∧ wr.ownsRow w.heap.size 45 3 vo L.length (cellsC L)) (fun _ vi _ => ws.length - (intOf vi).toNat)
    case atStart => exact ⟨0, [], Nat.zero_le _, rfl, took_zero ws, HX.out.2, HX.out.1, by simp [Value.ownBlock], World.ownsRow_nil _ _ _ _⟩
    case round =>
      obtain ⟨k, L, hk, rfl, HK, hb, hst, hne, ho⟩ := hrel
      obtain ⟨Av, cv, hv, hcv, hrv⟩ := Reads.of_own ho
      subst hv
      by_cases hlt : k < ws.length
      · have hk0 : ws[k]? = some ws[k] := List.getElem?_eq_getElem hlt
        obtain ⟨x, hx⟩ : ∃ x, x = ws[k] := ⟨_, rfl⟩
        rw [← hx] at hk0
        have cx := hst.2 k x hk0
        rw [Nat.zero_add] at cx
        have HKx := Lib.hid hk0
        obtain ⟨hxl, hxm⟩ := cutL_mem (a := 32) (t := t) (w := x) (by rw [← HWS.out, hx]; exact List.getElem_mem hlt)
        have e1 : decide (k < ws.length) = true := by simp [hlt]
        have hGr := hG.step hb
        have hLl : L.length ≤ 1500001 := by have := HK.out.1; omega
        have hi8 : (k : Int) + 1 ≤ 9223372036854775807 := by omega
        have hw8 : IntKind.i64.wrap ((k : Int) + 1) = (k : Int) + 1 := IntWalk.i64_in _ (by omega)
        clear hx hk0 hxm
        go_wp2_with fail
        refine (rd_gen x (by omega) _ hGr).mono ?_
        rintro e w3 ⟨⟨c, b, he, hr⟩, hb3⟩
        subst he
        have HRR := Lib.hid hr
        clear hr
        have hb4 := (Below.refl w3.heap.size w3).alloc (Nat.le_refl _) (.cells #[.int .i64 c.id, .int .i64 c.kind, .int .i64 c.area] 45)
        have hsz3 := hb3.size
        have hsz := hb.size
        cases b
        · go_wp2_with fail
          go_ret2
          have hv := took_no HT.out (by rw [← HWS.out]; exact HKx.out) HRR.out
          exact pairR_back (m := []) ⟨parseR_no hv, hv⟩ (below_step (below_step hb hb3) hb4) (World.ownsRow_nil _ _ _ _)
        · go_wp2_with (first
            | (at_builtin
               go_must (refine wpList_append_reads _ rfl (.tmp 25) (.tmp 27) _ rfl w.heap.size 45 i0 _ 3 24 Tryd.underlying23 hi0 hz0 hz1 hz2 rfl (by omega) (.slice Av L.length cv) L.length (cellsC L) rfl ((own_below (own_below ho hb3) hb4).alloc _) (w3.heap.size + 2) _ 1 _ (cellsC [c]) rfl (reads_oneG (c := c) (g := w3.heap.size + 1) (by simp) (by omega)) (cellsC_one _) (by simp only [maxLen]; omega) (by omega) (by first | (simp; omega) | (show w.heap.size ≤ w3.heap.size + 1 + 1; omega)) ?_)
               intro v6 w6 hown6 hg6 hat6))
          go_roundw
          case rel =>
            refine ⟨k + 1, L ++ [c], by omega, rfl, took_next HK.out HKx.out HRR.out, ?_, ((hst.step hb3).step hb4 |>.step ((Below.refl _ _).alloc (Nat.le_refl _) _)).grown hg6 hne, ?_, ?_⟩
            · exact below_grown ((own_below (own_below ho hb3) hb4).alloc _) hg6 ((below_step (below_step hb hb3) hb4).alloc (below_step (below_step hb hb3) hb4).size _) (Nat.le_refl _)
            · rcases hat6 with h | h
              · rw [h]; exact hne
              · rw [h]
                intro e
                have e2 := Option.some.inj e
                simp at e2
                omega
            · rw [cellsC_append, List.length_append]; exact hown6
          case measure => simp [intOf]; omega
      · have e1 : decide (k < ws.length) = false := by simp [hlt]
        have hkw : k = ws.length := by omega
        have hLl : L.length ≤ 1500001 := by have := HK.out.1; omega
        have HKW := Lib.hid hkw
        clear hkw
        go_wp2_with fail
        refine (iText_any _ _ L _ (hrv) (by omega)).mono ?_
        rintro e w5 ⟨rfl, hb5⟩
        by_cases hx : textR L = t
        · obtain ⟨h1, h2⟩ := took_yes HT.out hx
          have HP := Lib.hid (parse_yes h2 h1)
          clear h1 h2
          rw [hx]
          go_wp2_with fail
          go_ret2
          exact pairR_back (m := L) HP.out (below_step hb hb5) (own_below ho hb5)
        · have hv := took_bad HT.out (by have h := HK.out; rw [HKW.out] at h; rw [← HWS.out]; exact h) hx
          have HP := Lib.hid (And.intro (parseR_no hv) hv)
          have hN : (!((txt (textR L)).toList == (txt t).toList)) = true := by
            rw [Lib.toList_data, Lib.toList_data, txt_list, txt_list]
            simp [hx]
          clear hv hx
          go_wp2_with fail
          go_ret2
          exact pairR_back (m := []) HP.out (below_step hb hb5) (World.ownsRow_nil _ _ _ _)
end Go.Proofs.YtbbjdpmffokcfaaDoor
