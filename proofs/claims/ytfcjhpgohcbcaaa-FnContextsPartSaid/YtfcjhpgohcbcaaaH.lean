/- What the numbers of the contexts of an area are, in the program and in the model. -/
import Derived.Test.YtfcjhpgohcbcaaaG
namespace Go.Proofs.Ytfcjhpgohcbcaaa
open Go.RowKit

theorem int_info : (Try.prog.info? 3).map (fun i => (i.zero, i.size, i.bytes)) = some (some (.int .i64 0), 1, 8) := by kernel_rfl
def cellsI (l : List Int) : List Value := l.map (Value.int .i64)
theorem cellsI_one (l : List Int) : ∀ u ∈ cellsI l, u.oneCell' = true := by
  intro u hu
  simp only [cellsI, List.mem_map] at hu
  obtain ⟨x, _, rfl⟩ := hu
  rfl
theorem reads_int {w : World} {n : Int} {t : TypeId} {B : Nat} (hB : w.heap.size < B) : Reads (w.alloc (.cells #[.int .i64 n] t)) B 1 (some ⟨w.heap.size, 0, none⟩) 1 (cellsI [n]) := by
  refine ⟨rfl, fun _ => ⟨_, 0, rfl, hB, fun j u hu => ?_⟩⟩
  rw [cell_of_row _ _ _ _ _ _ (heap_alloc_new _ _)]
  simpa [cellsI] using hu
/-- The numbers of the contexts of an area. -/
def idsOf (l : List Ctx) (a : Int) : List Int := (l.filter fun c => decide (c.area = a)).map Ctx.id
theorem idsOf_step {l : List Ctx} {k : Nat} (hk : k < l.length) (a : Int) : idsOf (l.take (k+1)) a = idsOf (l.take k) a ++ (if l[k].area = a then [l[k].id] else []) := by
  rw [List.take_add_one, List.getElem?_eq_getElem hk]
  simp only [idsOf, List.filter_append, List.map_append, Option.toList]
  by_cases h : l[k].area = a
  · rw [if_pos h, List.filter_cons_of_pos (by simp [h])]; rfl
  · rw [if_neg h, List.filter_cons_of_neg (by simp [h])]; rfl
theorem idsOf_len (l : List Ctx) (a : Int) : (idsOf l a).length ≤ l.length := by
  simp [idsOf]; exact List.length_filter_le _ _
def AreaPost (w : World) (l : List Ctx) (a : Int) (e : Ending) (w2 : World) : Prop :=
  ∃ v, e = .returned v ∧ Below w.heap.size w w2 ∧ w2.ownsRow w.heap.size 3 1 v (areaL l a).length (cellsI (areaL l a))
theorem areaL_yes {l : List Ctx} {a : Int} (h : validL l = true) : areaL l a = idsOf l a := by simp [areaL, idsOf, h]
theorem areaL_no {l : List Ctx} {a : Int} (h : validL l = false) : areaL l a = [] := by simp [areaL, h]
theorem areaPost_mk {w w2 : World} {l : List Ctx} {m : List Int} {a : Int} {v : Value} {n : Nat} (h : areaL l a = m) (hn : n = m.length) (hb : Below w.heap.size w w2) (ho : w2.ownsRow w.heap.size 3 1 v n (cellsI m)) : AreaPost w l a (.returned v) w2 := by
  subst hn
  exact ⟨v, rfl, hb, by rw [h]; exact ho⟩

set_option maxHeartbeats 1000000 in
theorem iArea_any (A : Option Addr) (cap : Nat) (l : List Ctx) (a : Int) (w : World) (hr : Reads w w.heap.size 3 A l.length (cellsC l)) (hl : l.length ≤ 1000000000000) :
    Calls Try.prog 24 #[.slice A l.length cap, .int .i64 a] w (AreaPost w l a) := by
  obtain ⟨i0, hi0, hz0, hz1, hz2⟩ := info_parts int_info
  by_cases h1 : validL l = true
  · have HA := Lib.hid (areaL_yes (a := a) h1)
    go_enter Try.func24, Try.ntmps24
    go_wp2_with (first
      | (go_at_call 19; go_must (refine (iValid_any _ _ l _ hr (by omega)).mono ?_); rintro e w2 ⟨rfl, hb2⟩)
      | (go_at_call 42; go_must (refine (link_any _ _ l _ (hr.step hb2) (by omega)).mono ?_); rintro e w3 ⟨p, rfl, hb3, hlk⟩))
    have hb4 := below_step hb2 hb3
    have HL := Lib.hid hlk.at_
    have hs23 := hb2.size
    have hsw3 := hb4.size
    clear hr hlk hb2 hb3
    go_loopg [5, 6] l.length (fun m v n wr => ∃ (k : Nat) (q : Option Addr), k + m = l.length ∧ n = .pointer q ∧ Below w.heap.size w wr ∧ LkAt wr (fun g => w2.heap.size ≤ g ∧ g < w3.heap.size) q (l.drop k) ∧ wr.ownsRow w3.heap.size 3 1 v (idsOf (l.take k) a).length (cellsI (idsOf (l.take k) a)) ∧ w3.heap.size ≤ wr.heap.size)
    case atStart => exact ⟨0, p, by omega, rfl, hb4, by simpa using HL.out, by simpa [idsOf, cellsI] using World.ownsRow_nil w3 w3.heap.size _ 1, Nat.le_refl _⟩
    case round =>
      obtain ⟨k, q, hk, rfl, hb, hq, hown, hs3⟩ := hrel
      have HK : Hid (k + gk = l.length) := hk
      have hkl : k ≤ l.length := by omega
      clear hk hb4
      by_cases hlt : k < l.length
      · rw [List.drop_eq_getElem_cons hlt] at hq
        obtain ⟨g, q2, rfl, hg, c1, _, c3, c4, hq2⟩ := hq.node
        have hgl := hg.2
        have HQ := Lib.hid hq2
        have HT := Lib.hid (idsOf_step hlt a)
        have hlen := idsOf_len (l.take k) a
        have hlen2 : (l.take k).length ≤ k := List.length_take_le _ _
        have HB := Lib.hid hb
        clear hq hq2 hg
        by_cases har : l[k].area = a
        · have e1 : (l[k].area == a) = true := by simp [har]
          have HR := Lib.hid har
          clear har
          go_wp2_with (at_builtin
                       go_must (refine wpList_append_reads _ rfl (.tmp 25) (.tmp 31) _ rfl w3.heap.size 3 i0 _ 1 8 Try.underlying36 hi0 hz0 hz1 hz2 rfl (by omega) u5 (idsOf (l.take k) a).length _ rfl (hown.alloc _) (wr.heap.size + 1) _ 1 1 (cellsI [l[k].id]) rfl (reads_int (by omega)) (cellsI_one _) (by simp only [maxLen]; omega) (by omega) (by simp; omega) ?_)
                       intro v2 w6 hown2 hg2 hat2
                       have hb2 := app_below hown (Nat.le_refl _) hs3 hg2
                       have hc2 := below_cell hb2)
          go_roundg (gk - 1)
          case measure => have := HK.out; omega
          case rel =>
            refine ⟨k + 1, _, by have := HK.out; omega, rfl, HB.out.trans (hb2.mono (by omega)), HQ.out.keep (fun g2 hg3 => hb2.block g2 hg3.2), ?_, Nat.le_trans hs3 hb2.size⟩
            rw [HT.out, if_pos HR.out, cellsI, List.map_append, List.length_append]
            exact hown2
        · have e1 : (l[k].area == a) = false := by simp [har]
          have HR := Lib.hid har
          clear har
          go_wp2_with fail
          go_roundg (gk - 1)
          case measure => have := HK.out; omega
          case rel =>
            refine ⟨k + 1, _, by have := HK.out; omega, rfl, HB.out, HQ.out, ?_, hs3⟩
            rw [HT.out, if_neg HR.out, List.append_nil]
            exact hown
      · rw [List.drop_eq_nil_of_le (by omega)] at hq
        obtain rfl : q = none := hq
        have hke : k = l.length := by omega
        have HE := Lib.hid hke
        clear hke
        go_wp2_with fail
        go_ret
        have ho := own_less (base2 := w.heap.size) hown (by omega)
        rw [HE.out, List.take_length] at ho
        exact areaPost_mk HA.out rfl hb ho
  · simp only [Bool.not_eq_true] at h1
    have HA := Lib.hid (areaL_no (a := a) h1)
    go_enter Try.func24, Try.ntmps24
    go_wp2_with (first
      | (go_at_call 19; go_must (refine (iValid_any _ _ l _ hr (by omega)).mono ?_); rintro e w2 ⟨rfl, hb2⟩))
    go_ret
    exact areaPost_mk HA.out rfl hb2 (by simpa [cellsI] using World.ownsRow_nil w2 w.heap.size _ 1)

set_option maxHeartbeats 1000000 in
theorem sArea_any (A : Option Addr) (cap : Nat) (l : List Ctx) (a : Int) (w : World) (hr : Reads w w.heap.size 3 A l.length (cellsC l)) (hl : l.length ≤ 1000000000000) :
    Calls Try.prog 25 #[.slice A l.length cap, .int .i64 a] w (AreaPost w l a) := by
  obtain ⟨i0, hi0, hz0, hz1, hz2⟩ := info_parts int_info
  go_enter Try.func25, Try.ntmps25
  go_wp2_with fail
  go_loopw [5, 6] (fun v i wr => ∃ k : Nat, k ≤ l.length ∧ i = .int .i64 k ∧ Below w.heap.size w wr ∧ wr.ownsRow w.heap.size 3 1 v (idsOf (l.take k) a).length (cellsI (idsOf (l.take k) a)) ∧ (validL l = false → k = 0)) (fun _ i _ => l.length - (intOf i).toNat)
  case atStart => exact ⟨0, Nat.zero_le _, rfl, (Below.refl _ _).alloc (Nat.le_refl _) _, own_empty (Nat.le_refl _) rfl, fun _ => rfl⟩
  case round =>
    obtain ⟨k, hk, rfl, hb, hown, hv⟩ := hrel
    have HV := Lib.hid hv
    have hsz := hb.size
    clear hv
    by_cases hlt : k < l.length
    · obtain ⟨b, off, hA, hbl, hc⟩ := (hr.below hb).ctx (by omega)
      subst hA
      have hk0 : l[k]? = some l[k] := List.getElem?_eq_getElem hlt
      obtain ⟨c1, _, c3⟩ := hc k _ hk0
      have HT := Lib.hid (idsOf_step hlt a)
      have hlen := idsOf_len (l.take k) a
      have hlen2 : (l.take k).length ≤ k := List.length_take_le _ _
      have HR := Lib.hid ((hr.below hb).more hsz)
      have HB := Lib.hid hb
      clear hc hk0 hr
      by_cases h1 : validL l = true
      · have HH := Lib.hid h1
        by_cases har : l[k].area = a
        · have e1 : (l[k].area == a) = true := by simp [har]
          have HAR := Lib.hid har
          clear har
          go_wp2_with (first
            | (go_at_call 20; go_must (refine (sValid_any _ _ l _ HR.out (by omega)).mono ?_); rintro e w2 ⟨rfl, hb2⟩; have hc2 := below_cell (hb2.mono hsz); have hs2 := hb2.size; have hown2 := own_below hown hb2)
            | (at_builtin
               go_must (refine wpList_append_reads _ rfl (.tmp 25) (.tmp 31) _ rfl w.heap.size 3 i0 _ 1 8 Try.underlying36 hi0 hz0 hz1 hz2 rfl (by omega) u5 (idsOf (l.take k) a).length _ rfl (hown2.alloc _) (w2.heap.size + 1) _ 1 1 (cellsI [l[k].id]) rfl (reads_int (by omega)) (cellsI_one _) (by simp only [maxLen]; omega) (by omega) (by simp; omega) ?_)
               intro v2 w6 hown3 hg2 hat2
               have hb3 := app_below hown2 (Nat.le_refl _) (by omega) hg2))
          go_roundw
          case rel =>
            refine ⟨k + 1, by omega, by go_num, (HB.out.trans (hb2.mono hsz)).trans hb3, ?_, fun h => absurd (HH.out.symm.trans h) (by simp)⟩
            rw [HT.out, if_pos HAR.out, cellsI, List.map_append, List.length_append]
            exact hown3
          case measure => simp [intOf]; omega
        · have e1 : (l[k].area == a) = false := by simp [har]
          have HAR := Lib.hid har
          clear har
          go_wp2_with (first
            | (go_at_call 20; go_must (refine (sValid_any _ _ l _ HR.out (by omega)).mono ?_); rintro e w2 ⟨rfl, hb2⟩; have hc2 := below_cell (hb2.mono hsz); have hs2 := hb2.size; have hown2 := own_below hown hb2))
          go_roundw
          case rel =>
            refine ⟨k + 1, by omega, by go_num, HB.out.trans (hb2.mono hsz), ?_, fun h => absurd (HH.out.symm.trans h) (by simp)⟩
            rw [HT.out, if_neg HAR.out, List.append_nil]
            exact hown2
          case measure => simp [intOf]; omega
      · simp only [Bool.not_eq_true] at h1
        have HH := Lib.hid h1
        go_wp2_with (first
            | (go_at_call 20; go_must (refine (sValid_any _ _ l _ HR.out (by omega)).mono ?_); rintro e w2 ⟨rfl, hb2⟩; have hs2 := hb2.size; have hown2 := own_below hown hb2))
        go_ret
        have h0 := HV.out HH.out
        have ho := hown2
        rw [h0] at ho
        exact areaPost_mk (areaL_no HH.out) (by rfl) (HB.out.trans (hb2.mono hsz)) ho
    · have hke : k = l.length := by omega
      have HE := Lib.hid hke
      have e1 : decide (k < l.length) = false := by simp; omega
      clear hke
      go_wp2_with fail
      go_ret
      have ho := hown
      rw [HE.out, List.take_length] at ho
      by_cases h1 : validL l = true
      · exact areaPost_mk (areaL_yes h1) rfl hb ho
      · simp only [Bool.not_eq_true] at h1
        have h0 := HV.out h1
        refine areaPost_mk (m := idsOf l a) ?_ rfl hb ho
        rw [areaL_no h1]
        have : l = [] := List.eq_nil_of_length_eq_zero (by rw [← HE.out]; exact h0)
        rw [this]; rfl
end Go.Proofs.Ytfcjhpgohcbcaaa
