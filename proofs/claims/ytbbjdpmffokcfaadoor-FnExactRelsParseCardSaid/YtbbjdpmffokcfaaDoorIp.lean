/- What the program's reading of a text of relations returns. -/
import Derived.Test.YtbbjdpmffokcfaaDoorRd
import Derived.Test.YtbbjdpmffokcfaaDoorTp
namespace Go.Proofs.YtbbjdpmffokcfaaDoor
open Go.RowKit

theorem txt_is {t : List UInt8} (h : t ≠ []) : (txt t).toList.isEmpty = false := by
  rw [Lib.toList_data, txt_list]
  cases t <;> simp_all
theorem txt_isnt : (txt []).toList.isEmpty = true := by
  rw [Lib.toList_data, txt_list]
  rfl
theorem reads_oneG {w : World} {c : Ctx} {t : TypeId} {g B : Nat} (hg : g = w.heap.size) (hB : g < B) : Reads (w.alloc (.cells #[.int .i64 c.id, .int .i64 c.kind, .int .i64 c.area] t)) B 3 (some ⟨g, 0, none⟩) 1 (cellsC [c]) := by
  subst hg
  exact reads_one hB
/-- The list read so far: right wherever the word is a relation's text. -/
def Took (ws : List (List UInt8)) (L : List Ctx) (k : Nat) : Prop := L.length = k ∧ ∀ (j : Nat) (x : List UInt8), j < k → ws[j]? = some x → ∀ r, okR r = true → x = relT r → L[j]? = some r
theorem took_zero (ws : List (List UInt8)) : Took ws [] 0 := ⟨rfl, fun j _ h => absurd h (by omega)⟩
theorem took_next {ws : List (List UInt8)} {L : List Ctx} {k : Nat} {x : List UInt8} {c : Ctx} {b : Bool} (h : Took ws L k) (hk : ws[k]? = some x) (hr : RightRel x c b) : Took ws (L ++ [c]) (k + 1) := by
  refine ⟨by simp [h.1], fun j y hj hy r hok he => ?_⟩
  by_cases hjk : j < k
  · rw [List.getElem?_append_left (by rw [h.1]; exact hjk)]
    exact h.2 j y hjk hy r hok he
  · obtain rfl : j = k := by omega
    rw [hk] at hy
    injection hy with hy
    subst hy
    rw [← h.1, List.getElem?_concat_length, (hr r hok he).1]
theorem word_ok {t x : List UInt8} {k : Nat} (hv : validR (parseL t) = true) (ht : t ≠ []) (hk : (cutL 32 t)[k]? = some x) : okR (wordF x) = true ∧ x = relT (wordF x) := by
  have hok : okR (wordF x) = true := by
    refine validO_ok hv _ ?_
    unfold parseL
    rw [if_neg ht]
    exact List.mem_map.2 ⟨x, List.mem_of_getElem? hk, rfl⟩
  exact ⟨hok, (rel_word hok).symm⟩
/-- A word that is refused: the list is not valid. -/
theorem took_no {t x : List UInt8} {k : Nat} {c : Ctx} (ht : t ≠ []) (hk : (cutL 32 t)[k]? = some x) (hr : RightRel x c false) : validR (parseL t) = false := by
  cases hv : validR (parseL t) with
  | false => rfl
  | true =>
    obtain ⟨h1, h2⟩ := word_ok hv ht hk
    exact absurd (hr _ h1 h2).2 (by decide)
theorem took_all {t : List UInt8} {L : List Ctx} (ht : t ≠ []) (h : Took (cutL 32 t) L (cutL 32 t).length) (hv : validR (parseL t) = true) : L = parseL t := by
  apply List.ext_getElem?
  intro j
  unfold parseL
  rw [if_neg ht, List.getElem?_map]
  cases hx : (cutL 32 t)[j]? with
  | none =>
    have := List.getElem?_eq_none_iff.1 hx
    rw [List.getElem?_eq_none_iff.2 (by rw [h.1]; exact this)]
    rfl
  | some x =>
    have hj := (List.getElem?_eq_some_iff.1 hx).1
    obtain ⟨h1, h2⟩ := word_ok hv ht hx
    rw [h.2 j x hj hx _ h1 h2]
    rfl
/-- The list writes the text, so it is what the model reads. -/
theorem took_yes {t : List UInt8} {L : List Ctx} (ht : t ≠ []) (he : textR L = t) : validR L = true ∧ L = parseL t := by
  cases hv : validR L with
  | false =>
    unfold textR at he
    rw [hv] at he
    exact absurd he.symm ht
  | true =>
    refine ⟨rfl, ?_⟩
    unfold textR at he
    rw [hv, if_pos rfl] at he
    rw [← he, parse_text hv]
theorem took_bad {t : List UInt8} {L : List Ctx} (ht : t ≠ []) (h : Took (cutL 32 t) L (cutL 32 t).length) (he : textR L ≠ t) : validR (parseL t) = false := by
  cases hv : validR (parseL t) with
  | false => rfl
  | true =>
    have e := took_all ht h hv
    refine absurd ?_ he
    unfold textR
    rw [e, hv, if_pos rfl, text_parse hv]

set_option maxHeartbeats 8000000 in
set_option maxRecDepth 100000 in
theorem iParse_any (t : List UInt8) (w : World) (hl : t.length ≤ 1500000) (ha : ∀ b ∈ t, b.toNat < 128) (hG : Glob w) :
    Calls Tryd.prog 12 #[.string (txt t)] w (PairR w (parseR t) (validR (parseL t))) := by
  obtain ⟨i0, hi0, hz0, hz1, hz2⟩ := info_parts infoRel
  by_cases ht : t = []
  · subst ht
    go_enter Tryd.func12, Tryd.ntmps12
    have hE := txt_isnt
    go_wp2_with fail
    go_ret2
    exact pairR_back (m := []) ⟨rfl, rfl⟩ (Below.refl _ _) (World.ownsRow_nil _ _ _ _)
  · have hE := txt_is ht
    have HT := Lib.hid ht
    clear ht
    go_enter Tryd.func12, Tryd.ntmps12
    go_wp2_with fail
    refine (split_any t (by omega) _ hG).mono ?_
    rintro e w2 ⟨rfl, hw2⟩
    have hb2 : Below w.heap.size w w2 := by rw [hw2]; exact (Below.refl _ _).alloc (Nat.le_refl _) _
    have hnl := cutL_len 32 t
    have hst : Strs w2 w.heap.size 0 (cutL 32 t) := by
      rw [hw2]
      refine ⟨by simp, fun k x hk => ?_⟩
      rw [Nat.zero_add]
      refine (cell_of_row _ _ k _ _ _ (heap_alloc_new _ _)).trans ?_
      rw [List.getElem?_toArray, List.getElem?_map, hk]
      rfl
    clear hw2
    obtain ⟨ws, hws⟩ : ∃ ws, ws = cutL 32 t := ⟨_, rfl⟩
    have HWS := Lib.hid hws
    rw [← hws] at hst hnl
    rw [← hws]
    clear hws
    have HX := Lib.hid (And.intro hst hb2)
    clear hst hb2
    go_wp2_with fail
    go_loopw [4, 14] (fun vo vi wr => ∃ (k : Nat) (L : List Ctx), k ≤ ws.length ∧ vi = .int .i64 k ∧ Hid (Took ws L k) ∧ Below w.heap.size w wr ∧ Strs wr w.heap.size 0 ws ∧ vo.ownBlock ≠ some w.heap.size ∧ wr.ownsRow w.heap.size 45 3 vo L.length (cellsC L)) (fun _ vi _ => ws.length - (intOf vi).toNat)
    case atStart => exact ⟨0, [], Nat.zero_le _, rfl, took_zero ws, HX.out.2, HX.out.1, by simp [Value.ownBlock], World.ownsRow_nil _ _ _ _⟩
    case round =>
      obtain ⟨k, L, hk, rfl, HK, hb, hst, hne, ho⟩ := hrel
      obtain ⟨Av, cv, hv, hcv, hrv⟩ := Reads.of_own ho
      subst hv
      by_cases hlt : k < ws.length
      · have hk0 : ws[k]? = some ws[k] := List.getElem?_eq_getElem hlt
        obtain ⟨x, hx⟩ : ∃ x, x = ws[k] := ⟨_, rfl⟩
        rw [← hx] at hk0
        have cx := hst.2 k x hk0
        rw [Nat.zero_add] at cx
        have HKx := Lib.hid hk0
        obtain ⟨hxl, hxm⟩ := cutL_mem (a := 32) (t := t) (w := x) (by rw [← HWS.out, hx]; exact List.getElem_mem hlt)
        have e1 : decide (k < ws.length) = true := by simp [hlt]
        have hxa : ∀ b ∈ x, b.toNat < 128 := fun b hb => ha b (hxm b hb)
        have hGr := hG.step hb
        have hLl : L.length ≤ 1500001 := by have := HK.out.1; omega
        have hi8 : (k : Int) + 1 ≤ 9223372036854775807 := by omega
        have hw8 : IntKind.i64.wrap ((k : Int) + 1) = (k : Int) + 1 := IntWalk.i64_in _ (by omega)
        clear hx hk0 hxm
        go_wp2_with fail
        refine (rd_any x (by omega) hxa _ hGr).mono ?_
        rintro e w3 ⟨⟨c, b, he, hr⟩, hb3⟩
        subst he
        have HRR := Lib.hid hr
        clear hr
        have hb4 := (Below.refl w3.heap.size w3).alloc (Nat.le_refl _) (.cells #[.int .i64 c.id, .int .i64 c.kind, .int .i64 c.area] 45)
        have hsz3 := hb3.size
        have hsz := hb.size
        cases b
        · go_wp2_with fail
          go_ret2
          have hv := took_no HT.out (by rw [← HWS.out]; exact HKx.out) HRR.out
          exact pairR_back (m := []) ⟨parseR_no hv, hv⟩ (below_step (below_step hb hb3) hb4) (World.ownsRow_nil _ _ _ _)
        · go_wp2_with (first
            | (at_builtin
               go_must (refine wpList_append_reads _ rfl (.tmp 25) (.tmp 27) _ rfl w.heap.size 45 i0 _ 3 24 Tryd.underlying23 hi0 hz0 hz1 hz2 rfl (by omega) (.slice Av L.length cv) L.length (cellsC L) rfl ((own_below (own_below ho hb3) hb4).alloc _) (w3.heap.size + 2) _ 1 _ (cellsC [c]) rfl (reads_oneG (c := c) (g := w3.heap.size + 1) (by simp) (by omega)) (cellsC_one _) (by simp only [maxLen]; omega) (by omega) (by first | (simp; omega) | (show w.heap.size ≤ w3.heap.size + 1 + 1; omega)) ?_)
               intro v6 w6 hown6 hg6 hat6))
          go_roundw
          case rel =>
            refine ⟨k + 1, L ++ [c], by omega, rfl, took_next HK.out HKx.out HRR.out, ?_, ((hst.step hb3).step hb4 |>.step ((Below.refl _ _).alloc (Nat.le_refl _) _)).grown hg6 hne, ?_, ?_⟩
            · exact below_grown ((own_below (own_below ho hb3) hb4).alloc _) hg6 ((below_step (below_step hb hb3) hb4).alloc (below_step (below_step hb hb3) hb4).size _) (Nat.le_refl _)
            · rcases hat6 with h | h
              · rw [h]; exact hne
              · rw [h]
                intro e
                have e2 := Option.some.inj e
                simp at e2
                omega
            · rw [cellsC_append, List.length_append]; exact hown6
          case measure => simp [intOf]; omega
      · have e1 : decide (k < ws.length) = false := by simp [hlt]
        have hkw : k = ws.length := by omega
        have hLl : L.length ≤ 1500001 := by have := HK.out.1; omega
        have HKW := Lib.hid hkw
        clear hkw
        go_wp2_with fail
        refine (iText_any _ _ L _ (hrv) (by omega)).mono ?_
        rintro e w5 ⟨rfl, hb5⟩
        by_cases hx : textR L = t
        · obtain ⟨h1, h2⟩ := took_yes HT.out hx
          have HP := Lib.hid (parse_yes h2 h1)
          clear h1 h2
          rw [hx]
          go_wp2_with fail
          go_ret2
          exact pairR_back (m := L) HP.out (below_step hb hb5) (own_below ho hb5)
        · have hv := took_bad HT.out (by have h := HK.out; rw [HKW.out] at h; rw [← HWS.out]; exact h) hx
          have HP := Lib.hid (And.intro (parseR_no hv) hv)
          have hN : (!((txt (textR L)).toList == (txt t).toList)) = true := by
            rw [Lib.toList_data, Lib.toList_data, txt_list, txt_list]
            simp [hx]
          clear hv hx
          go_wp2_with fail
          go_ret2
          exact pairR_back (m := []) HP.out (below_step hb hb5) (World.ownsRow_nil _ _ _ _)
end Go.Proofs.YtbbjdpmffokcfaaDoor
