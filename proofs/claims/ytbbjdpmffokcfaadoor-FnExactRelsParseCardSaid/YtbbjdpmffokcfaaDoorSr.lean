/- What the model's reading of a text of relations returns. -/
import Derived.Test.YtbbjdpmffokcfaaDoorSw
import Derived.Test.YtbbjdpmffokcfaaDoorC2
namespace Go.Proofs.YtbbjdpmffokcfaaDoor
open Go.RowKit

def parseL (t : List UInt8) : List Ctx := if t = [] then [] else (cutL 32 t).map wordF
def parseR (t : List UInt8) : List Ctx := if validR (parseL t) then parseL t else []
theorem parseR_ok {t : List UInt8} (h : validR (parseL t) = true) : parseR t = parseL t := by unfold parseR; rw [h]; rfl
theorem parseR_no {t : List UInt8} (h : validR (parseL t) = false) : parseR t = [] := by unfold parseR; rw [h]; rfl
theorem validR_nil : validR [] = true := rfl
/-- Texts in memory, at a place. -/
def Strs (W : World) (g o : Nat) (ws : List (List UInt8)) : Prop := g < W.heap.size ∧ ∀ (k : Nat) (x : List UInt8), ws[k]? = some x → W.cell? ⟨g, o + k, none⟩ = some (.string (txt x))
theorem Strs.step {W W2 : World} {g o : Nat} {ws : List (List UInt8)} (h : Strs W g o ws) (hb : Below W.heap.size W W2) : Strs W2 g o ws :=
  ⟨Nat.lt_of_lt_of_le h.1 hb.size, fun k x hk => (hb.cell (p := ⟨g, o + k, none⟩) h.1).trans (h.2 k x hk)⟩
theorem Strs.grown {W W2 : World} {g o : Nat} {ws : List (List UInt8)} {row : Option Nat} (h : Strs W g o ws) (hg : W.grownBy W2 row) (hne : row ≠ some g) : Strs W2 g o ws :=
  ⟨Nat.lt_of_lt_of_le h.1 hg.size, fun k x hk => hg.cell (h.2 k x hk) (fun e => hne e.symm)⟩
theorem val_slice {A : Option Addr} {n m c : Nat} (h : n = m) : Value.slice A n c = .slice A m c := by rw [h]

theorem txt_some {t : List UInt8} (h : t ≠ []) : (!(txt t).toList.isEmpty) = true := by
  rw [Lib.toList_data, txt_list]
  cases t <;> simp_all
theorem txt_none : (!(txt []).toList.isEmpty) = false := by
  rw [Lib.toList_data, txt_list]
  rfl
theorem cells_next {ws : List (List UInt8)} {k : Nat} {x : List UInt8} (h : ws[k]? = some x) : cellsC ((ws.take (k + 1)).map wordF) = cellsC ((ws.take k).map wordF) ++ cellsC [wordF x] := by
  rw [List.take_add_one, h]
  simp [cellsC]
theorem parse_at {t : List UInt8} {ws : List (List UInt8)} {k : Nat} (h : ws = cutL 32 t) (h0 : t = [] → k = 0) (h1 : t ≠ [] → k = ws.length) : (ws.take k).map wordF = parseL t := by
  unfold parseL
  split
  · rename_i h2; rw [h0 h2]; rfl
  · rename_i h2; rw [h1 h2, List.take_length, h]

theorem pairR_back {w w2 : World} {m m2 : List Ctx} {v : Value} {b b2 : Bool} (h : m2 = m ∧ b2 = b) (hb : Below w.heap.size w w2) (ho : w2.ownsRow w.heap.size 45 3 v m.length (cellsC m)) :
    PairR w m2 b2 (.returned (.tuple #[v, .bool b])) w2 := by rw [h.1, h.2]; exact ⟨v, rfl, hb, ho⟩
theorem parse_no {m : List Ctx} {t : List UInt8} (h : m = parseL t) (hv : validR m = false) : parseR t = [] ∧ validR (parseL t) = false := by
  rw [h] at hv; exact ⟨parseR_no hv, hv⟩
theorem parse_yes {m : List Ctx} {t : List UInt8} (h : m = parseL t) (hv : validR m = true) : parseR t = m ∧ validR (parseL t) = true := by
  rw [h] at hv; exact ⟨(parseR_ok hv).trans h.symm, hv⟩

set_option maxHeartbeats 8000000 in
set_option maxRecDepth 100000 in
theorem sParse_any (t : List UInt8) (w : World) (hl : t.length ≤ 1500000) :
    Calls Tryd.prog 15 #[.string (txt t)] w (PairR w (parseR t) (validR (parseL t))) := by
  obtain ⟨i0, hi0, hz0, hz1, hz2⟩ := info_parts infoRel
  have ho0 : (w.alloc (.cells #[] 45)).ownsRow w.heap.size 45 3 (.slice (some ⟨w.heap.size, 0, none⟩) 0 0) 0 [] := own_empty (Nat.le_refl _) rfl
  have hb0 := (Below.refl w.heap.size w).alloc (Nat.le_refl _) (.cells #[] 45)
  have H0 := Lib.hid (And.intro ho0 hb0)
  clear ho0
  go_enter Tryd.func15, Tryd.ntmps15
  go_wp2_with fail
  refine (sCut32 t _ (by omega)).mono ?_
  rintro e w2 ⟨v, rfl, hb2, ho2⟩
  have hn0 : 0 < (cutL 32 t).length := List.length_pos_iff.2 (cutL_ne 32 t)
  have hnl := cutL_len 32 t
  obtain ⟨ws, hws⟩ : ∃ ws, ws = cutL 32 t := ⟨_, rfl⟩
  have HWS := Lib.hid hws
  rw [← hws] at ho2 hn0 hnl
  clear hws
  have hW2 : Hid (∃ g cw, v = .slice (some ⟨g, 0, none⟩) ws.length cw ∧ w.heap.size < g ∧ Strs w2 g 0 ws) := by
    show ∃ g cw, _
    rcases ho2.2 with ⟨_, h0⟩ | ⟨g, cap, cur, hv, hbg, hh, hnc, hm, hs, htk⟩
    · omega
    · refine ⟨g, cap, hv, by simp at hbg; omega, (Array.getElem?_eq_some_iff.1 hh).1, fun k x hk => ?_⟩
      have := ho2.cells (g := g) (by rw [hv]; rfl) k (Value.string (txt x)) (by rw [List.getElem?_map, hk]; rfl)
      rw [Nat.zero_add]
      unfold Addr.add at this
      split at this
      · rename_i h0; subst h0; exact this
      · simpa using this
  obtain ⟨g, cw, hv, hgw, hst⟩ := hW2.out
  subst hv
  have ho2x := own_below H0.out.1 hb2
  have HX := Lib.hid (And.intro ho2x (And.intro hst (below_step H0.out.2 hb2)))
  clear ho2 hst ho2x hb2 hW2
  go_wp2_with fail
  go_loopw [4, 6] (fun vo vi wr => ∃ k : Nat, k ≤ ws.length ∧ vi = .int .i64 k ∧ Hid (t = [] → k = 0) ∧ Below w.heap.size w wr ∧ Strs wr g 0 ws ∧ vo.ownBlock ≠ some g ∧ wr.ownsRow w.heap.size 45 3 vo k (cellsC ((ws.take k).map wordF))) (fun _ vi _ => ws.length - (intOf vi).toNat)
  case atStart => exact ⟨0, Nat.zero_le _, rfl, fun _ => rfl, HX.out.2.2, HX.out.2.1, by simp [Value.ownBlock]; omega, HX.out.1⟩
  case round =>
    obtain ⟨k, hk, rfl, HT, hb, hst, hne, ho⟩ := hrel
    obtain ⟨Av, cv, hv, hcv, hrv⟩ := Reads.of_own ho
    subst hv
    have hi8 : (k : Int) + 1 ≤ 9223372036854775807 := by omega
    have hw8 : IntKind.i64.wrap ((k : Int) + 1) = (k : Int) + 1 := IntWalk.i64_in _ (by omega)
    by_cases hgo : t ≠ [] ∧ k < ws.length
    · obtain ⟨ht, hlt⟩ := hgo
      have hE := txt_some ht
      have hk0 : ws[k]? = some ws[k] := List.getElem?_eq_getElem hlt
      obtain ⟨x, hx⟩ : ∃ x, x = ws[k] := ⟨_, rfl⟩
      rw [← hx] at hk0
      have cx := hst.2 k x hk0
      rw [Nat.zero_add] at cx
      have HK := Lib.hid hk0
      have hxl := (cutL_mem (a := 32) (t := t) (w := x) (by rw [← HWS.out, hx]; exact List.getElem_mem hlt)).1
      have e1 : decide (k < ws.length) = true := by simp [hlt]
      have HTT := Lib.hid ht
      clear hx hk0 hrv ht
      go_wp2_with (first
        | (go_at_call 33; go_must (refine (sWord_any x _ (by omega)).mono ?_); rintro e w3 ⟨rfl, hb3⟩)
        | (at_builtin
           go_must (refine wpList_append_reads _ rfl (.tmp 20) (.tmp 26) _ rfl w.heap.size 45 i0 _ 3 24 Tryd.underlying23 hi0 hz0 hz1 hz2 rfl (by omega) (.slice Av k cv) k (cellsC ((ws.take k).map wordF)) rfl ((own_below ho hb3).alloc _) _ _ 1 _ (cellsC [wordF x]) rfl (reads_one (c := wordF x) (by simp : w3.heap.size < w3.heap.size + 1)) (cellsC_one _) (by simp only [maxLen]; omega) (by omega) (by simp; have := hb.size; have := hb3.size; omega) ?_)
           intro v6 w6 hown6 hg6 hat6))
      go_roundw
      case rel =>
        have hst3 := hst.step hb3
        have hst4 : Strs (w3.alloc (.cells #[.int .i64 (wordF x).id, .int .i64 (wordF x).kind, .int .i64 (wordF x).area] 45)) g 0 ws := hst3.step (((Below.refl _ w3).alloc (Nat.le_refl _) _))
        refine ⟨k + 1, by omega, rfl, fun h => absurd h HTT.out, ?_, hst4.grown hg6 hne, ?_, ?_⟩
        · exact below_grown ((own_below ho hb3).alloc _) hg6 ((below_step hb hb3).alloc (below_step hb hb3).size _) (Nat.le_refl _)
        · rcases hat6 with h | h
          · rw [h]; exact hne
          · rw [h]
            intro e
            have e2 := Option.some.inj e
            simp at e2
            have h9 := hst3.1
            omega
        · rw [cells_next HK.out]; exact hown6
      case measure => simp [intOf]; omega
    · have HQ : Hid ((ws.take k).map wordF = parseL t) := by
        refine parse_at HWS.out HT.out fun h => ?_
        have : ¬ k < ws.length := fun h2 => hgo ⟨h, h2⟩
        omega
      have hk2 : ((ws.take k).map wordF).length = k := by rw [List.length_map, List.length_take]; omega
      obtain ⟨m, hm⟩ : ∃ m, m = (ws.take k).map wordF := ⟨_, rfl⟩
      rw [← hm] at ho hrv hk2
      have HQ2 : Hid (m = parseL t) := by show m = _; rw [hm]; exact HQ.out
      clear HQ hm
      subst hk2
      have HO := Lib.hid ho
      clear ho
      have hcond : (decide (m.length < ws.length) && !(txt t).toList.isEmpty) = false := by
        by_cases ht : t = []
        · subst ht; rw [txt_none, Bool.and_false]
        · have : ¬ m.length < ws.length := fun h2 => hgo ⟨ht, h2⟩
          simp [this]
      have hO : ∀ W : World, Below w.heap.size w W → (W.alloc (.cells #[] 45)).ownsRow w.heap.size 45 3 (.slice (some ⟨W.heap.size, 0, none⟩) 0 0) 0 [] := fun W hW => own_empty hW.size rfl
      cases hv : validR m
      · by_cases h2 : m.length < ws.length
        · have e1 : decide (m.length < ws.length) = true := by simp [h2]
          have hE : (!(txt t).toList.isEmpty) = false := by simpa [e1] using hcond
          clear hgo hcond h2
          go_wp2_with (first
            | (go_at_call 11; go_must (refine (sValidR_any _ _ m _ hrv (by omega)).mono ?_); rw [hv]; rintro e w5 ⟨rfl, k5⟩))
          go_ret2
          exact pairR_back (parse_no HQ2.out hv) ((below_step hb k5).alloc (below_step hb k5).size _) (hO _ (below_step hb k5))
        · have e1 : decide (m.length < ws.length) = false := by simp [h2]
          clear hgo hcond h2
          go_wp2_with (first
            | (go_at_call 11; go_must (refine (sValidR_any _ _ m _ hrv (by omega)).mono ?_); rw [hv]; rintro e w5 ⟨rfl, k5⟩))
          go_ret2
          exact pairR_back (parse_no HQ2.out hv) ((below_step hb k5).alloc (below_step hb k5).size _) (hO _ (below_step hb k5))
      · by_cases h2 : m.length < ws.length
        · have e1 : decide (m.length < ws.length) = true := by simp [h2]
          have hE : (!(txt t).toList.isEmpty) = false := by simpa [e1] using hcond
          clear hgo hcond h2
          go_wp2_with (first
            | (go_at_call 11; go_must (refine (sValidR_any _ _ m _ hrv (by omega)).mono ?_); rw [hv]; rintro e w5 ⟨rfl, k5⟩))
          go_ret2
          exact pairR_back (parse_yes HQ2.out hv) (below_step hb k5) (own_below HO.out k5)
        · have e1 : decide (m.length < ws.length) = false := by simp [h2]
          clear hgo hcond h2
          go_wp2_with (first
            | (go_at_call 11; go_must (refine (sValidR_any _ _ m _ hrv (by omega)).mono ?_); rw [hv]; rintro e w5 ⟨rfl, k5⟩))
          go_ret2
          exact pairR_back (parse_yes HQ2.out hv) (below_step hb k5) (own_below HO.out k5)
end Go.Proofs.YtbbjdpmffokcfaaDoor
