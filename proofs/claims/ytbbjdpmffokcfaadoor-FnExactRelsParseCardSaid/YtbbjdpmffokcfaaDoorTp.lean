/- What the program's text of relations returns. -/
import Derived.Test.YtbbjdpmffokcfaaDoorTs
import Derived.Test.YtbbjdpmffokcfaaDoorP2
import Derived.Test.YtbbjdpmffokcfaaDoorShelf
namespace Go.Proofs.YtbbjdpmffokcfaaDoor
open Go.RowKit

theorem itoa_any (n : Int) (h0 : 0 ≤ n) (h1 : n < 100) (w : World) :
    Calls Tryd.prog 50 #[.int .i64 n] w fun e w2 => e = .returned (.string (txt (dec n))) ∧ w2 = w := by
  obtain ⟨m, rfl⟩ : ∃ m : Nat, n = (m : Int) := ⟨n.toNat, by omega⟩
  exact Tryd.strconv_Itoa_small m (by omega) w

set_option maxHeartbeats 2000000 in
set_option maxRecDepth 100000 in
theorem iRelT_any (c : Ctx) (hok : okR c = true) (w : World) :
    Calls Tryd.prog 39 #[.agg #[.int .i64 c.id, .int .i64 c.kind, .int .i64 c.area]] w fun e w2 => e = .returned (.string (txt (relT c))) ∧ Below w.heap.size w w2 := by
  have hp := okR_parts hok
  have d1 := dec_len (n := c.id) (by omega) (by omega)
  have d2 := dec_len (n := c.kind) (by omega) (by omega)
  have hta := txt_append
  have hI : 1 ≤ c.id ∧ c.id ≤ 99 ∧ 1 ≤ c.kind ∧ c.kind ≤ 99 := ⟨hp.1, hp.2.1, hp.2.2.1, hp.2.2.2.1⟩
  have hb := (Below.refl w.heap.size w).alloc (Nat.le_refl _) (.cells #[.int .i64 c.id, .int .i64 c.kind, .int .i64 c.area] 45)
  by_cases h2 : c.area = 2
  · have e2 : (c.area == 2) = true := by simp [h2]
    have HR : Hid (relT c = dec c.id ++ 61 :: dec c.kind) := by show relT c = _; unfold relT sgn; rw [if_pos h2, List.append_assoc]; rfl
    have hs : (⟨#[61]⟩ : ByteArray) = txt [61] := rfl
    have n1 := no_wrap (a := (txt (dec c.id)).size) (b := (txt [61]).size) (by simp only [txt_size, List.length_cons, List.length_nil]; omega)
    have n2 := no_wrap (a := (txt (dec c.id ++ [61])).size) (b := (txt (dec c.kind)).size) (by simp only [txt_size, List.length_append, List.length_cons, List.length_nil]; omega)
    clear h2 hp d1 d2
    go_enter Tryd.func39, Tryd.ntmps39
    go_wp2_with fail
    go_quiet ((go_at_call 50; exact Calls.quiet_of_same (itoa_any _ (by omega) (by omega) _)))
    go_wp2_with fail
    go_ret
    exact ⟨(ret_str (congrArg txt HR.out)).symm, below_draws hb _⟩
  · have e2 : (c.area == 2) = false := by simp [h2]
    have HR : Hid (relT c = dec c.id ++ 62 :: dec c.kind) := by show relT c = _; unfold relT sgn; rw [if_neg h2, List.append_assoc]; rfl
    have hs : (⟨#[62]⟩ : ByteArray) = txt [62] := rfl
    have n1 := no_wrap (a := (txt (dec c.id)).size) (b := (txt [62]).size) (by simp only [txt_size, List.length_cons, List.length_nil]; omega)
    have n2 := no_wrap (a := (txt (dec c.id ++ [62])).size) (b := (txt (dec c.kind)).size) (by simp only [txt_size, List.length_append, List.length_cons, List.length_nil]; omega)
    clear h2 hp d1 d2
    go_enter Tryd.func39, Tryd.ntmps39
    go_wp2_with fail
    go_quiet ((go_at_call 50; exact Calls.quiet_of_same (itoa_any _ (by omega) (by omega) _)))
    go_wp2_with fail
    go_ret
    exact ⟨(ret_str (congrArg txt HR.out)).symm, below_draws hb _⟩

theorem infoStr : (Tryd.prog.info? 9).map (fun i => (i.zero, i.size, i.bytes)) = some (some (.string ⟨#[]⟩), 1, 16) := by kernel_rfl
def relV (c : Ctx) : Value := .string (txt (relT c))
def fillT (l : List Ctx) (k : Nat) : List Value := (l.take k).map relV ++ List.replicate (l.length - k) (.string ⟨#[]⟩)
theorem fillT_len {l : List Ctx} {k : Nat} (hk : k ≤ l.length) : (fillT l k).length = l.length := by unfold fillT; simp; omega
theorem fillT_at {l : List Ctx} {k : Nat} (hk : k < l.length) : (fillT l k)[k]? = some (.string ⟨#[]⟩) := by
  unfold fillT
  rw [List.getElem?_append_right (by simp; omega), List.length_map, List.length_take, Nat.min_eq_left (by omega), Nat.sub_self, List.getElem?_replicate, if_pos (by omega)]
theorem fillT_set {l : List Ctx} {k : Nat} (hk : k < l.length) : (fillT l k).set k (relV l[k]) = fillT l (k + 1) := by
  unfold fillT
  rw [List.set_append_right _ _ (by simp; omega), List.length_map, List.length_take, Nat.min_eq_left (by omega), Nat.sub_self, List.take_add_one, List.getElem?_eq_getElem hk]
  rw [show l.length - k = (l.length - (k+1)) + 1 from by omega, List.replicate_succ, List.set_cons_zero]
  simp only [Option.toList, List.map_append, List.map_cons, List.map_nil, List.append_assoc, List.cons_append, List.nil_append]
theorem zero_strs (n : Nat) : (madeCells (Value.string ⟨#[]⟩).cells (n * 1)).toList = List.replicate n (.string ⟨#[]⟩) := by
  rw [List.eq_replicate_iff]
  refine ⟨by simp [madeCells], fun u hu => ?_⟩
  simp only [madeCells, Array.toList_map, List.mem_map, Array.toList_range, List.mem_range] at hu
  obtain ⟨j, _, rfl⟩ := hu
  show (#[Value.string ⟨#[]⟩])[j % 1]! = _
  rw [Nat.mod_one]
  rfl
theorem join_any (bk n c : Nat) (l : List Ctx) (w : World) (hn : n = l.length) (hcells : ∀ (j : Nat) u, (fillT l l.length)[j]? = some u → w.cell? ⟨bk, j, none⟩ = some u) (hbk : bk < w.heap.size) (hcap : n ≤ c) (hok : ∀ x ∈ l, okR x = true) (hl : l.length ≤ 1000) :
    Calls Tryd.prog 40 #[.slice (some ⟨bk, 0, none⟩) n c, .string ⟨#[32]⟩] w fun e w2 => e = .returned (.string (txt (joinR l))) ∧ Below w.heap.size w w2 := by
  have hm : (l.map fun x => txt (relT x)).map (·.data.toList) = l.map relT := by
    rw [List.map_map]; rfl
  have hlen : (l.map fun x => txt (relT x)).length = n := by rw [List.length_map, hn]
  have hj := joinR_len hok l.length
  rw [List.take_of_length_le (Nat.le_refl _)] at hj
  have h := Tryd.strings_Join bk 0 c (l.map fun x => txt (relT x)) ⟨#[32]⟩ w (fun j x hx => by
    rw [Nat.zero_add]
    refine hcells j _ ?_
    unfold fillT
    rw [List.take_of_length_le (Nat.le_refl _), Nat.sub_self, List.replicate_zero, List.append_nil]
    rw [List.getElem?_map] at hx ⊢
    cases hy : l[j]? with
    | none => rw [hy] at hx; cases hx
    | some y => rw [hy] at hx; simp at hx; subst hx; rfl) hbk (by rw [hlen]; omega) (by rw [hlen]; exact hcap) (by rw [hm]; show (joinR l).length ≤ _; omega)
  rw [hlen] at h
  refine h.mono fun e w2 ⟨he, hb⟩ => ⟨?_, hb⟩
  rw [he, hm]
  rfl

set_option maxHeartbeats 2000000 in
set_option maxRecDepth 100000 in
theorem iTexts_any (A : Option Addr) (cap : Nat) (l : List Ctx) (w : World) (hr : Reads w w.heap.size 3 A l.length (cellsC l)) (hl : l.length ≤ 1000) (hok : ∀ x ∈ l, okR x = true) :
    Calls Tryd.prog 24 #[.slice A l.length cap] w fun e w2 => e = .returned (.string (txt (joinR l))) ∧ Below w.heap.size w w2 := by
  obtain ⟨i0, hi0, hz0, hz1, hz2⟩ := info_parts infoStr
  have HOK := Lib.hid hok
  clear hok
  go_enter Tryd.func24, Tryd.ntmps24
  go_wp2_with (at_make
               go_must (refine wpList_make_full _ rfl (.tmp 7) (.tmp 7) _ rfl w.heap.size 9 i0 _ 1 Tryd.underlying46 hi0 hz0 hz1 _ _ _ _ l.length rfl rfl rfl rfl (by rw [hz2]; omega) (by simp only [maxLen]; omega) (Nat.le_refl _) ?_)
               intro w1 hown hg)
  have hb1 : Below w.heap.size w w1 := (Below.refl _ _).grown hg (Nat.le_refl _) (fun k hk => by cases hk)
  rw [zero_strs] at hown
  have hown0 : w1.ownsRow w.heap.size 9 1 (.slice (some ⟨w.heap.size, 0, none⟩) l.length l.length) l.length (fillT l 0) := by simpa [fillT] using hown
  have HW0 := Lib.hid (And.intro hb1 hown0)
  clear hown hg hb1 hown0
  go_wp2_with fail
  go_loopw [11] (fun i wr => ∃ k : Nat, k ≤ l.length ∧ i = .int .i64 k ∧ Below w.heap.size w wr ∧ wr.ownsRow w.heap.size 9 1 (.slice (some ⟨w.heap.size, 0, none⟩) l.length l.length) l.length (fillT l k)) (fun i _ => l.length - (intOf i).toNat)
  case atStart => exact ⟨0, Nat.zero_le _, rfl, HW0.out.1, HW0.out.2⟩
  case round =>
    obtain ⟨k, hk, rfl, hb, hown⟩ := hrel
    by_cases hlt : k < l.length
    · obtain ⟨b, off, hA, hbb, hc⟩ := (hr.below hb).ctx (by omega)
      subst hA
      have hk0 : l[k]? = some l[k] := List.getElem?_eq_getElem hlt
      obtain ⟨c1, c2, c3⟩ := hc k _ hk0
      have hkl : (k : Int) < (l.length : Int) := by omega
      have HB := Lib.hid hb
      have hsz := hb.size
      have HF := Lib.hid (fillT_set hlt)
      clear hc hk0 hr hb
      go_wp2_with (go_at_call 39
                   go_must (refine (iRelT_any l[k] (HOK.out _ (List.getElem_mem hlt)) _).mono ?_)
                   rintro e w2 ⟨rfl, hb2⟩
                   have hown2 := own_below (own_below hown ((Below.refl _ _).alloc (Nat.le_refl _) _)) hb2
                   have d1 := (hown2.cellAt k (by omega)).trans (fillT_at hlt)
                   have d4 := hown2.frozenAt k)
      go_roundw
      case rel =>
        refine ⟨k + 1, by omega, by go_num, ((HB.out.alloc HB.out.size _).trans (hb2.mono (by simp; omega))).setCell (by simp) _, ?_⟩
        have := (hown2.stored k (relV l[k])).1
        rw [HF.out] at this
        exact this
      case measure => simp [intOf]; omega
    · have hkl : k = l.length := by omega
      have HK := Lib.hid hkl
      clear hkl
      have HO : Hid (wr.ownsRow w.heap.size 9 1 (.slice (some ⟨w.heap.size, 0, none⟩) l.length l.length) l.length (fillT l l.length)) := by
        show wr.ownsRow w.heap.size 9 1 (.slice (some ⟨w.heap.size, 0, none⟩) l.length l.length) l.length (fillT l l.length)
        have := hown
        rw [HK.out] at this
        exact this
      have HB := Lib.hid hb
      have hgl : w.heap.size < wr.heap.size := (hown.lt _ rfl).2
      clear hown hb
      go_wp2_with fail
      refine (join_any w.heap.size l.length l.length l _ rfl (fun j u hu => ?_) hgl (Nat.le_refl _) HOK.out hl).mono ?_
      · have hj : j < l.length * 1 := by
          have h1 := (List.getElem?_eq_some_iff.1 hu).1
          rw [fillT_len (Nat.le_refl _)] at h1
          omega
        exact (HO.out.cellAt j hj).trans hu
      rintro e w5 ⟨rfl, hb5⟩
      go_wp2_with fail
      go_ret
      exact ⟨rfl, below_step HB.out hb5⟩

/-- The program's text of relations. -/
theorem iText_any (A : Option Addr) (cap : Nat) (l : List Ctx) (w : World) (hr : Reads w w.heap.size 3 A l.length (cellsC l)) (hl : l.length ≤ 1000000000000) :
    Calls Tryd.prog 9 #[.slice A l.length cap] w fun e w2 => e = .returned (.string (txt (textR l))) ∧ Below w.heap.size w w2 := by
  cases hv : validR l
  · have HT : Hid (textR l = []) := by show textR l = []; unfold textR; rw [hv]; rfl
    go_enter Tryd.func9, Tryd.ntmps9
    go_wp2_with (first
      | (go_at_call 16; go_must (refine (iRelsValid_any _ _ l _ hr (by omega)).mono ?_); rw [hv]; rintro e w2 ⟨rfl, hb2⟩))
    go_ret
    exact ⟨ret_str (by rw [HT.out]; rfl), hb2⟩
  · have HT : Hid (textR l = joinR l) := by show textR l = joinR l; unfold textR; rw [hv]; rfl
    have hls := validO_len hv
    have HV := Lib.hid hv
    clear hv
    go_enter Tryd.func9, Tryd.ntmps9
    go_wp2_with fail
    refine (iRelsValid_any _ _ l _ hr (by omega)).mono ?_
    rw [HV.out]
    rintro e w2 ⟨rfl, hb2⟩
    go_wp2_with fail
    refine (iTexts_any _ _ l _ (hr.step hb2) (by omega) (validO_ok HV.out)).mono ?_
    rintro e w3 ⟨rfl, hb3⟩
    go_wp2_with fail
    go_ret
    exact ⟨ret_str (congrArg txt HT.out.symm), below_step hb2 hb3⟩
end Go.Proofs.YtbbjdpmffokcfaaDoor
