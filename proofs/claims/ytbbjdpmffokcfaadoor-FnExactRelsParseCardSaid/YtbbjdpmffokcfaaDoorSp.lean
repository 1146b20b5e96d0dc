/- What the model's cutting of a text returns. -/
import Derived.Test.YtbbjdpmffokcfaaDoorPl
namespace Go.Proofs.YtbbjdpmffokcfaaDoor
open Go.RowKit

def strV (w : List UInt8) : Value := .string (txt w)
theorem infoStr2 : (Tryd.prog.info? 9).map (fun i => (i.zero, i.size, i.bytes)) = some (some (.string ⟨#[]⟩), 1, 16) := by kernel_rfl
theorem strV_one (ws : List (List UInt8)) : ∀ u ∈ ws.map strV, u.oneCell' = true := by
  intro u hu
  obtain ⟨w, _, rfl⟩ := List.mem_map.1 hu
  rfl
/-- A list of texts was made. -/
def MadeS (w : World) (ws : List (List UInt8)) (e : Ending) (w2 : World) : Prop := ∃ v, e = .returned v ∧ Below w.heap.size w w2 ∧ w2.ownsRow w.heap.size 9 1 v ws.length (ws.map strV)
theorem at_nat {t : List UInt8} {k : Nat} (h : k < (txt t).size) (h2 : k < t.length) : (((txt t)[k]'h).toNat : Int) = ((t[k]'h2).toNat : Int) := rfl
theorem at_byte {t : List UInt8} {k : Nat} (h : k < t.length) : (txt t)[k]'(by rw [txt_size]; exact h) = t[k] := rfl
theorem sub_txt (t : List UInt8) (i j : Nat) : (txt t).extract i j = txt ((t.drop i).take (j - i)) := by
  apply ByteArray.ext
  simp [txt, ByteArray.data_extract]
theorem reads_str {w : World} {x : List UInt8} {t : TypeId} {g B : Nat} (hg : g = w.heap.size) (hB : g < B) : Reads (w.alloc (.cells #[.string (txt x)] t)) B 1 (some ⟨g, 0, none⟩) 1 ([x].map strV) := by
  subst hg
  refine ⟨rfl, fun _ => ⟨_, 0, rfl, hB, fun j u hu => ?_⟩⟩
  rw [cell_of_row _ _ _ _ _ _ (heap_alloc_new _ _)]
  simpa [strV] using hu
/-- The cut goes on: nothing found so far since f. -/
def CutAt (a : UInt8) (t : List UInt8) (ws : List (List UInt8)) (f i : Nat) : Prop := cutL a t = ws ++ cutL a (t.drop f) ∧ f ≤ i ∧ i ≤ t.length ∧ ∀ (j : Nat) (c : UInt8), f ≤ j → j < i → t[j]? = some c → c ≠ a
theorem cutAt_hit {a : UInt8} {t : List UInt8} {ws : List (List UInt8)} {f i : Nat} (h : CutAt a t ws f i) (hi : i < t.length) (he : t[i] = a) : CutAt a t (ws ++ [(t.drop f).take (i - f)]) (i + 1) (i + 1) := by
  obtain ⟨h1, h2, h3, h4⟩ := h
  refine ⟨?_, Nat.le_refl _, by omega, fun j c hj1 hj2 => by omega⟩
  have e : t.drop f = (t.drop f).take (i - f) ++ a :: t.drop (i + 1) := by
    have e1 : (t.drop f).drop (i - f) = t.drop i := by rw [List.drop_drop, show f + (i - f) = i from by omega]
    have e2 : t.drop i = a :: t.drop (i + 1) := by rw [List.drop_eq_getElem_cons hi, he]
    conv => lhs; rw [← List.take_append_drop (i - f) (t.drop f), e1, e2]
  rw [h1]
  conv => lhs; rw [e]
  rw [cutL_hit]
  · simp
  · intro c hc
    obtain ⟨j, hj⟩ := List.mem_iff_getElem?.1 hc
    rw [List.getElem?_take] at hj
    split at hj
    · rw [List.getElem?_drop] at hj
      exact h4 (f + j) c (by omega) (by omega) hj
    · cases hj
theorem cutAt_pass {a : UInt8} {t : List UInt8} {ws : List (List UInt8)} {f i : Nat} (h : CutAt a t ws f i) (hi : i < t.length) (he : t[i] ≠ a) : CutAt a t ws f (i + 1) := by
  obtain ⟨h1, h2, h3, h4⟩ := h
  refine ⟨h1, by omega, by omega, fun j c hj1 hj2 hc => ?_⟩
  by_cases hji : j < i
  · exact h4 j c hj1 hji hc
  · obtain rfl : j = i := by omega
    rw [List.getElem?_eq_getElem hi] at hc
    injection hc with hc
    exact hc ▸ he
theorem cutAt_end {a : UInt8} {t : List UInt8} {ws : List (List UInt8)} {f : Nat} (h : CutAt a t ws f t.length) : cutL a t = ws ++ [t.drop f] := by
  obtain ⟨h1, h2, h3, h4⟩ := h
  rw [h1, cutL_none]
  intro c hc
  obtain ⟨j, hj⟩ := List.mem_iff_getElem?.1 hc
  rw [List.getElem?_drop] at hj
  exact h4 (f + j) c (by omega) (List.getElem?_eq_some_iff.1 hj).1 hj

set_option maxHeartbeats 4000000 in
set_option maxRecDepth 100000 in
theorem sCut_any (t : List UInt8) (a : UInt8) (w : World) (hl : t.length ≤ 2000000) :
    Calls Tryd.prog 32 #[.string (txt t), .int .u8 (a.toNat : Int)] w (MadeS w (cutL a t)) := by
  obtain ⟨i0, hi0, hz0, hz1, hz2⟩ := info_parts infoStr2
  have hlen := txt_size t
  have ho0 : (w.alloc (.cells #[] 9)).ownsRow w.heap.size 9 1 (.slice (some ⟨w.heap.size, 0, none⟩) 0 0) 0 [] := own_empty (Nat.le_refl _) rfl
  have H0 := Lib.hid (And.intro ((Below.refl w.heap.size w).alloc (Nat.le_refl _) (.cells #[] 9)) ho0)
  clear ho0
  go_enter Tryd.func32, Tryd.ntmps32
  go_wp2_with fail
  go_loopw [5, 6, 7] (fun vo vf vi wr => ∃ (ws : List (List UInt8)) (f i : Nat), Hid (CutAt a t ws f i) ∧ f ≤ i ∧ i ≤ t.length ∧ vf = .int .i64 f ∧ vi = .int .i64 i ∧ ws.length ≤ i ∧ Below w.heap.size w wr ∧ wr.ownsRow w.heap.size 9 1 vo ws.length (ws.map strV)) (fun _ _ vi _ => t.length - (intOf vi).toNat)
  case atStart => exact ⟨[], 0, 0, ⟨rfl, Nat.le_refl _, Nat.zero_le _, fun j c _ h => absurd h (by omega)⟩, Nat.le_refl _, Nat.zero_le _, rfl, rfl, Nat.le_refl _, H0.out.1, H0.out.2⟩
  case round =>
    obtain ⟨ws, f, i, HC, hfi, hil, rfl, rfl, hws, hb, ho⟩ := hrel
    obtain ⟨Av, cv, hv, hcv, hrv⟩ := Reads.of_own ho
    subst hv
    have HB := Lib.hid hb
    have hbs := hb.size
    have hfI : (f : Int) ≤ (i : Int) := by omega
    have hf0 : (0 : Int) ≤ (f : Int) := by omega
    have hi0' : (0 : Int) ≤ (i : Int) := by omega
    clear hb hrv
    by_cases hlt : i < t.length
    · have hltI : (i : Int) < ((txt t).size : Int) := by omega
      have hls : i < (txt t).size := by rw [hlen]; exact hlt
      have HLT := Lib.hid hlen
      clear hlen
      by_cases he : t[i] = a
      · have e1 : (((txt t)[i].toNat : Int) == (a.toNat : Int)) = true := by rw [beq_iff_eq]; exact (at_nat hls hlt).trans (congrArg (fun c : UInt8 => (c.toNat : Int)) he)
        obtain ⟨x, hx⟩ : ∃ x, x = (t.drop f).take (i - f) := ⟨_, rfl⟩
        have hsub : (txt t).extract f i = txt x := by rw [hx]; exact sub_txt t f i
        have HN : Hid (CutAt a t (ws ++ [x]) (i + 1) (i + 1)) := by
          show CutAt a t (ws ++ [x]) (i + 1) (i + 1)
          rw [hx]
          exact cutAt_hit HC.out hlt he
        clear hx he
        go_wp2_with (first
          | (at_builtin
             go_must (refine wpList_append_reads _ rfl (.tmp 20) (.tmp 25) _ rfl w.heap.size 9 i0 _ 1 16 Tryd.underlying46 hi0 hz0 hz1 hz2 rfl (by omega) (.slice Av ws.length cv) ws.length (ws.map strV) rfl (ho.alloc _) _ _ 1 _ ([x].map strV) rfl (reads_str (x := x) rfl (by simp : wr.heap.size < wr.heap.size + 1)) (strV_one _) (by simp only [maxLen]; omega) (by omega) (by simp; omega) ?_)
             intro v3 w3 hown3 hg3 hat3
             have hb3 := below_grown (ho.alloc _) hg3 (HB.out.alloc hbs _) (Nat.le_refl _)))
        go_roundw
        case rel => exact ⟨ws ++ [x], i + 1, i + 1, HN, Nat.le_refl _, by omega, by go_num, by go_num, by simp; omega, hb3, by rw [List.length_append, List.map_append]; exact hown3⟩
        case measure => simp [intOf]; omega
      · have e1 : (((txt t)[i].toNat : Int) == (a.toNat : Int)) = false := by
          rw [beq_eq_false_iff_ne]
          intro h
          have h2 := (at_nat hls hlt).symm.trans h
          exact he (UInt8.toNat_inj.1 (by omega))
        have HN : Hid (CutAt a t ws f (i + 1)) := cutAt_pass HC.out hlt he
        clear he
        go_wp2_with fail
        go_roundw
        case rel => exact ⟨ws, f, i + 1, HN, by omega, by omega, rfl, by go_num, by omega, HB.out, ho⟩
        case measure => simp [intOf]; omega
    · obtain rfl : i = t.length := by omega
      obtain ⟨x, hx⟩ : ∃ x, x = t.drop f := ⟨_, rfl⟩
      have hsub : (txt t).extract f (txt t).size = txt x := by
        rw [hx, sub_txt, txt_size, List.take_of_length_le (by simp)]
      have HE : Hid (cutL a t = ws ++ [x]) := by
        show cutL a t = ws ++ [x]
        rw [hx]
        exact cutAt_end HC.out
      have hfs : (f : Int) ≤ ((txt t).size : Int) := by rw [txt_size]; omega
      have hnl : ¬ t.length < (txt t).size := by rw [txt_size]; omega
      clear hx hlen
      go_wp2_with (first
        | (at_builtin
           go_must (refine wpList_append_reads _ rfl (.tmp 29) (.tmp 33) _ rfl w.heap.size 9 i0 _ 1 16 Tryd.underlying46 hi0 hz0 hz1 hz2 rfl (by omega) (.slice Av ws.length cv) ws.length (ws.map strV) rfl (ho.alloc _) _ _ 1 _ ([x].map strV) rfl (reads_str (x := x) rfl (by simp : wr.heap.size < wr.heap.size + 1)) (strV_one _) (by simp only [maxLen]; omega) (by omega) (by simp; omega) ?_)
           intro v3 w3 hown3 hg3 hat3
           have hb3 := below_grown (ho.alloc _) hg3 (HB.out.alloc hbs _) (Nat.le_refl _)))
      go_ret
      exact ⟨v3, rfl, hb3, by rw [HE.out, List.length_append, List.map_append]; exact hown3⟩
end Go.Proofs.YtbbjdpmffokcfaaDoor
