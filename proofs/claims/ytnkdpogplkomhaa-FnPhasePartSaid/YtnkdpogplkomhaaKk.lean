/- Texts that lie together in one: Ka, Kb, Kc, Kd, Ke, Kg. -/
import Derived.Test.YtnkdpogplkomhaaJj
import Derived.Test.YtnkdpogplkomhaaUu
import Derived.Test.YtnkdpogplkomhaaYy
import Derived.Test.YtnkdpogplkomhaaTriSpan
import Derived.Test.YtnkdpogplkomhaaFm
/- Whether the model finds the arguments of dates valid. -/
namespace Go.Proofs.Ytnkdpogplkomhaa
open Go.RowKit

section
variable {ids : List Int} {l B : List Ctx}
theorem args_ord (h : ordOkG ids l = false) : argsD ids l B = false := by simp [argsD, h]
theorem args_bnd (h : validB B = false) : argsD ids l B = false := by simp [argsD, h]
theorem args_out {k : Nat} {b : Ctx} (hk : B[k]? = some b) (h : b.id ∉ ids) : argsD ids l B = false := by
  have : (B.all fun b => decide (b.id ∈ ids)) = false := by
    rw [List.all_eq_false]
    exact ⟨b, List.mem_of_getElem? hk, by simp [h]⟩
  simp [argsD, this]
theorem args_yes (h1 : ordOkG ids l = true) (h2 : validB B = true) (h3 : ∀ (j : Nat) (b : Ctx), B[j]? = some b → b.id ∈ ids) : argsD ids l B = true := by
  simp only [argsD, Bool.and_eq_true, List.all_eq_true, decide_eq_true_eq]
  refine ⟨h1, h2, fun b hb => ?_⟩
  obtain ⟨j, hj⟩ := List.mem_iff_getElem?.1 hb
  exact h3 j b hj
end
set_option maxHeartbeats 1600000 in
set_option maxRecDepth 100000 in
theorem sOk13_any (A B C : Option Addr) (ca cb cc : Nat) (ids : List Int) (l bs : List Ctx) (w : World) (ha : Reads w w.heap.size 1 A ids.length (cellsI ids)) (hb : Reads w w.heap.size 3 B l.length (cellsC l)) (hc : Reads w w.heap.size 3 C bs.length (cellsC bs))
    (hn : ids.length ≤ 1000000000) (hl : l.length ≤ 1000000000) (hm : bs.length ≤ 1000000000) :
    Calls Try.prog 47 #[.slice A ids.length ca, .slice B l.length cb, .slice C bs.length cc] w fun e w2 => e = .returned (.bool (argsD ids l bs)) ∧ Below w.heap.size w w2 := by
  have hv := sOrdValid_any A B ca cb ids l w ha hb hn hl
  have hbv := fun (W : World) (hW : Below w.heap.size w W) => sValidB_any C cc bs W (hc.step hW) (by omega)
  obtain ⟨o, ho⟩ : ∃ o, ordOkG ids l = o := ⟨_, rfl⟩
  rw [ho] at hv
  cases o
  · have HO := Lib.hid (And.intro hv (args_ord (B := bs) ho))
    clear hv ho hbv ha hb hc
    go_enter Try.func47, Try.ntmps47
    go_wp2_with (go_at_call 66; go_must (refine HO.out.1.mono ?_); rintro e w2 ⟨rfl, k2⟩)
    go_ret
    exact ⟨ret_bool HO.out.2.symm, k2⟩
  · obtain ⟨v, hvb⟩ : ∃ v, validB bs = v := ⟨_, rfl⟩
    rw [hvb] at hbv
    cases v
    · have HO := Lib.hid (And.intro hv (And.intro hbv (args_bnd (ids := ids) (l := l) hvb)))
      clear hv ho hbv hvb ha hb hc
      go_enter Try.func47, Try.ntmps47
      go_wp2_with (first
        | (go_at_call 66; go_must (refine HO.out.1.mono ?_); rintro e w2 ⟨rfl, k2⟩)
        | (go_at_call 81; go_must (refine (HO.out.2.1 _ k2).mono ?_); rintro e w3 ⟨rfl, k3⟩))
      go_ret
      exact ⟨ret_bool HO.out.2.2.symm, below_step k2 k3⟩
    · have HO := Lib.hid (And.intro hv (And.intro hbv (And.intro ho (And.intro hvb (And.intro ha hc)))))
      clear hv ho hbv hvb ha hb hc
      go_enter Try.func47, Try.ntmps47
      go_wp2_with (first
        | (go_at_call 66; go_must (refine HO.out.1.mono ?_); rintro e w2 ⟨rfl, k2⟩)
        | (go_at_call 81; go_must (refine (HO.out.2.1 _ k2).mono ?_); rintro e w3 ⟨rfl, k3⟩))
      have K := Lib.hid (below_step k2 k3)
      have hra := HO.out.2.2.2.2.1.step K.out
      have hrc := HO.out.2.2.2.2.2.step K.out
      clear k2 k3
      go_loop [7] (fun i => ∃ k : Nat, k ≤ bs.length ∧ i = .int .i64 k ∧ ∀ (j : Nat) (b : Ctx), j < k → bs[j]? = some b → b.id ∈ ids) (fun i => bs.length - (intOf i).toNat)
      case atStart => exact ⟨0, Nat.zero_le _, rfl, fun j b h => absurd h (by omega)⟩
      case round =>
        obtain ⟨k, hk, rfl, hg⟩ := hrel
        have HG := Lib.hid hg; clear hg
        by_cases hlt : k < bs.length
        · obtain ⟨bb, off, hA, hbl, hcc⟩ := hrc.ctx (by omega)
          subst hA
          obtain ⟨b, hb0⟩ : ∃ b, bs[k]? = some b := ⟨_, List.getElem?_eq_getElem hlt⟩
          obtain ⟨c1, c2, c3⟩ := hcc k b hb0
          have hpx := sPlace_any A ca ids b.id w3 hra (by omega)
          have HP := Lib.hid hpx
          have HK := Lib.hid hb0
          have hneg := findI_neg ids b.id
          obtain ⟨z, hz⟩ : ∃ z, findI ids b.id = z := ⟨_, rfl⟩
          rw [hz] at HP hneg
          clear hcc hb0 hpx hrc hra hz
          by_cases hin : b.id ∈ ids
          · rw [decide_eq_true hin] at hneg
            have HI := Lib.hid hin
            clear hin
            go_wp2_with (go_at_call 75; go_must (refine HP.out.mono ?_); rintro e w6 ⟨rfl, rfl⟩)
            go_round
            case rel =>
              refine ⟨k + 1, by omega, by go_num, fun j c hj hc => ?_⟩
              by_cases hj2 : j < k
              · exact HG.out j c hj2 hc
              · obtain rfl : j = k := by omega
                rw [HK.out] at hc
                injection hc with hc
                exact hc ▸ HI.out
            case measure => simp [intOf]; omega
          · rw [decide_eq_false hin] at hneg
            have HI := Lib.hid (args_out (l := l) HK.out hin)
            clear hin
            go_wp2_with (go_at_call 75; go_must (refine HP.out.mono ?_); rintro e w6 ⟨rfl, rfl⟩)
            go_ret
            exact ⟨ret_bool HI.out.symm, K.out⟩
        · have hkl : k = bs.length := by omega
          have HK := Lib.hid hkl
          clear hkl hrc hra
          go_wp2_with fail
          go_ret
          exact ⟨ret_bool (args_yes HO.out.2.2.1 HO.out.2.2.2.1 fun j b hj => HG.out j b (by have := (List.getElem?_eq_some_iff.1 hj).1; have := HK.out; omega) hj).symm, K.out⟩
end Go.Proofs.Ytnkdpogplkomhaa

/- The model's table of what is not before what, by relations. -/
namespace Go.Proofs.Ytnkdpogplkomhaa
open Go.RowKit

/-- The table J over the table f, laid into it up to place (i, j). -/
def mixJ (f J : Nat → Nat → Bool) (i j a b : Nat) : Bool := if a < i ∨ (a = i ∧ b < j) then J a b else f a b
section
variable {f J : Nat → Nat → Bool} {n i j : Nat}
theorem mixJ_first : tabN n (mixJ f J 0 0) = tabN n f := tabN_congr fun a b _ _ => by unfold mixJ; rw [if_neg (by omega)]
theorem mixJ_last : tabN n (mixJ f J n 0) = tabN n J := tabN_congr fun a b ha _ => by unfold mixJ; rw [if_pos (by omega)]
theorem mixJ_row : tabN n (mixJ f J i n) = tabN n (mixJ f J (i + 1) 0) := tabN_congr fun a b _ hb => by
  unfold mixJ
  by_cases h : a < i ∨ a = i
  · rw [if_pos (by omega), if_pos (by omega)]
  · rw [if_neg (by omega), if_neg (by omega)]
theorem mixJ_here : mixJ f J i j i j = f i j := by unfold mixJ; rw [if_neg (by omega)]
theorem mixJ_set {x : Bool} (h : J i j = x) : tabN n (fun a b => if a = i ∧ b = j then x else mixJ f J i j a b) = tabN n (mixJ f J i (j + 1)) := tabN_congr fun a b _ _ => by
  unfold mixJ
  by_cases hc : a = i ∧ b = j
  · obtain ⟨rfl, rfl⟩ := hc
    rw [if_pos ⟨rfl, rfl⟩, if_pos (by omega), h]
  · rw [if_neg hc]
    by_cases h1 : a < i ∨ (a = i ∧ b < j)
    · rw [if_pos h1, if_pos (by omega)]
    · rw [if_neg h1, if_neg (by omega)]
end
/-- A cell outside of a table's blocks is kept by a store into the table. -/
theorem far_rows {α : Type} {enc : α → Value} {w : World} {base e1 e2 : Nat} {v : Value} {vs : List Value} {L : List (List α)} (h : OwnV enc w base e1 e2 v vs L) : ∀ (i : Nat) (u : Value) (g : Nat), vs[i]? = some u → u.ownBlock = some g → g < w.heap.size :=
  fun _ _ _ hu hg => (h.lt hu hg).2
set_option maxHeartbeats 8000000 in
set_option maxRecDepth 100000 in
theorem sJoined_any (A B : Option Addr) (ca cb : Nat) (ids : List Int) (l : List Ctx) (w : World) (ha : Reads w w.heap.size 1 A ids.length (cellsI ids)) (hb : Reads w w.heap.size 3 B l.length (cellsC l)) (hok : okG ids l = true) :
    Calls Try.prog 48 #[.slice A ids.length ca, .slice B l.length cb] w (OrdPost w (tabN ids.length (joinK ids l))) := by
  have hn : ids.length ≤ 12 := validO_len (okG_parts hok).1
  have hor := sOrder_any A B ca cb ids l w ha hb hok
  rw [← ordF_tab] at hor
  have hgr := fun (W : World) (hW : Below w.heap.size w W) => sGroups_any A B ca cb ids l W (ha.step hW) (hb.step hW) hok
  have hgl := groupsG_len ids l
  obtain ⟨G, hG⟩ : ∃ G, G = groupsG ids l := ⟨_, rfl⟩
  have hJ : ∀ i j x y, i < ids.length → j < ids.length → G[i]? = some x → G[j]? = some y → joinK ids l i j = (ordF ids l i j || decide (x = y)) := fun i j x y hi hj hx hy => by
    rw [joinK_at hi hj, joinJ, ← hG]
    simp [List.getD_eq_getElem?_getD, hx, hy]
  rw [← hG] at hgr hgl
  obtain ⟨n, hnn⟩ : ∃ n, n = ids.length := ⟨_, rfl⟩
  obtain ⟨f, hf⟩ : ∃ f, f = ordF ids l := ⟨_, rfl⟩
  obtain ⟨J, hJJ⟩ : ∃ J, J = joinK ids l := ⟨_, rfl⟩
  rw [← hnn] at hor hgl hn ⊢
  simp only [← hnn] at hgr
  rw [← hf] at hor
  rw [← hJJ]
  rw [← hf, ← hJJ, ← hnn] at hJ
  have H := Lib.hid (And.intro hor (And.intro hgr (And.intro hgl hJ)))
  clear hor hgr hgl hJ hG hf hJJ ha hb hok hnn
  go_enter Try.func48, Try.ntmps48
  go_wp2_with fail
  refine H.out.1.mono ?_
  rintro e w2 ⟨v2, vs2, rfl, k2, o2⟩
  have O2 := Lib.hid (And.intro k2 o2)
  have hs2 := k2.size
  clear k2 o2
  go_wp2_with fail
  refine (H.out.2.1 w2 O2.out.1).mono ?_
  rintro e w3 ⟨v3, rfl, k3, o3⟩
  have hs3 := k3.size
  have O3 := Lib.hid (And.intro (below_step O2.out.1 k3) (And.intro (O2.out.2.below k3) o3))
  clear k3 o3
  go_wp2_with fail
  go_loopw [7] (fun i wr => ∃ a : Nat, a ≤ n ∧ i = .int .i64 a ∧ Below w.heap.size w wr ∧ OwnV encB wr w.heap.size 4 85 v2 vs2 (tabN n (mixJ f J a 0)) ∧ wr.ownsRow w2.heap.size 3 1 v3 G.length (cellsI G)) (fun i _ => n - (intOf i).toNat)
  case atStart => exact ⟨0, Nat.zero_le _, rfl, O3.out.1, by rw [mixJ_first]; exact O3.out.2.1, O3.out.2.2⟩
  case round =>
    obtain ⟨i, hi, rfl, hbl, hown, hg⟩ := hrel
    have HI := Lib.hid (And.intro hbl (And.intro hown hg))
    clear hbl hown hg
    by_cases hii : i < n
    · have hiii : (i : Int) < (n : Int) := by omega
      go_wp2_with fail
      go_loopw [8] (fun c wr => ∃ b : Nat, b ≤ n ∧ c = .int .i64 b ∧ Below w.heap.size w wr ∧ OwnV encB wr w.heap.size 4 85 v2 vs2 (tabN n (mixJ f J i b)) ∧ wr.ownsRow w2.heap.size 3 1 v3 G.length (cellsI G)) (fun i _ => n - (intOf i).toNat)
      case atStart => exact ⟨0, Nat.zero_le _, rfl, HI.out.1, HI.out.2.1, HI.out.2.2⟩
      case round =>
        obtain ⟨j, hj, rfl, hbl, hown, hg⟩ := hrel
        by_cases hjj : j < n
        · have hjji : (j : Int) < (n : Int) := by omega
          have hGn := H.out.2.2.1
          obtain ⟨gi, ci, hvi, hgi1, hgi2, hci, hfi⟩ := hown.cells (tabN_row _ hii) (by rw [rowN_len]; omega)
          rw [rowN_len] at hvi
          obtain ⟨go, co, hvo, hgo1, hgo2, hou⟩ := hown.outer (by rw [tabN_len]; omega)
          rw [tabN_len] at hvo
          obtain ⟨g3, c3, hv3, hg31, hg32⟩ := hg.form (by omega)
          have f5 := hou i _ hvi
          have f1 := hci j _ (rowN_at _ hjj)
          have f4 := hfi j
          rw [mixJ_here] at f1
          simp only [encB] at f1
          have hgi3 := far_rows O2.out.2 i _ gi hvi rfl
          subst hvo
          subst hv3
          obtain ⟨x, hx⟩ : ∃ x, G[i]? = some x := ⟨_, List.getElem?_eq_getElem (by omega)⟩
          obtain ⟨y, hy⟩ : ∃ y, G[j]? = some y := ⟨_, List.getElem?_eq_getElem (by omega)⟩
          have f2 := (own_cellI hg hx).1
          have f3 := (own_cellI hg hy).1
          have hjk := H.out.2.2.2 i j x y hii hjj hx hy
          have hgi : (i : Int) < (G.length : Int) := by omega
          have hgj : (j : Int) < (G.length : Int) := by omega
          obtain ⟨z, hz⟩ : ∃ z, f i j = z := ⟨_, rfl⟩
          rw [hz] at f1 hjk
          have HX := Lib.hid (And.intro hbl (And.intro hown (And.intro hvi (And.intro hg hjk))))
          clear hbl hown hvi hg hjk hou hci hfi hx hy hz hGn
          cases z
          · by_cases hxy : x = y
            · have e1 : (x == y) = true := by simp [hxy]
              have HE := Lib.hid hxy
              clear hxy
              go_wp2_with fail
              refine region_still_tail2 24 (by kernel_rfl) (by kernel_rfl) ?_
              intro W hW hz hbw
              simp only [List.take_succ_cons, List.take_zero, List.drop_succ_cons, List.drop_zero]
              refine Shut.out ?_
              iterate 24
                refine still_stepH (fun K hK => ?_)
                go_simp
                refine hK _ ?_
                clear hK K
              refine still_nilH ?_
              have w1' := (World.cell?_of_block (w := wr) (a := ⟨gi, j, none⟩) (hbw.block gi hgi2)).trans f1
              have w2' := (World.frozen?_of_block (w := wr) (a := ⟨gi, j, none⟩) (hbw.block gi hgi2)).trans f4
              have HW := Lib.hid hbw
              clear hW hz hbw f1 f2 f3 f4 f5
              go_wp2_with fail
              go_roundw
              case rel =>
                obtain ⟨hbl, hown, hvi, hg, hjk⟩ := HX.out
                have hownW := (hown.below HW.out).store (j := j) (tabN_row _ hii) (by rw [rowN_len]; exact hvi) true
                rw [tabN_set, mixJ_set (by rw [hjk]; simp [HE.out])] at hownW
                exact ⟨j + 1, by omega, by go_num, (below_step hbl HW.out).setCell (by simpa using hgi1) _, hownW, ownsRow_setCell_other (own_below hg HW.out) (fun e => by simp [Value.ownBlock] at e; omega) _⟩
              case measure => simp [intOf]; omega
            · have e1 : (x == y) = false := by simp [hxy]
              have HE := Lib.hid hxy
              clear hxy
              go_wp2_with fail
              refine region_still_tail2 24 (by kernel_rfl) (by kernel_rfl) ?_
              intro W hW hz hbw
              simp only [List.take_succ_cons, List.take_zero, List.drop_succ_cons, List.drop_zero]
              refine Shut.out ?_
              iterate 24
                refine still_stepH (fun K hK => ?_)
                go_simp
                refine hK _ ?_
                clear hK K
              refine still_nilH ?_
              have w1' := (World.cell?_of_block (w := wr) (a := ⟨gi, j, none⟩) (hbw.block gi hgi2)).trans f1
              have w2' := (World.frozen?_of_block (w := wr) (a := ⟨gi, j, none⟩) (hbw.block gi hgi2)).trans f4
              have HW := Lib.hid hbw
              clear hW hz hbw f1 f2 f3 f4 f5
              go_wp2_with fail
              go_roundw
              case rel =>
                obtain ⟨hbl, hown, hvi, hg, hjk⟩ := HX.out
                have hownW := (hown.below HW.out).store (j := j) (tabN_row _ hii) (by rw [rowN_len]; exact hvi) false
                rw [tabN_set, mixJ_set (by rw [hjk]; simp [HE.out])] at hownW
                exact ⟨j + 1, by omega, by go_num, (below_step hbl HW.out).setCell (by simpa using hgi1) _, hownW, ownsRow_setCell_other (own_below hg HW.out) (fun e => by simp [Value.ownBlock] at e; omega) _⟩
              case measure => simp [intOf]; omega
          · skip
            go_wp2_with fail
            refine region_still_tail2 24 (by kernel_rfl) (by kernel_rfl) ?_
            intro W hW hz hbw
            simp only [List.take_succ_cons, List.take_zero, List.drop_succ_cons, List.drop_zero]
            refine Shut.out ?_
            iterate 24
              refine still_stepH (fun K hK => ?_)
              go_simp
              refine hK _ ?_
              clear hK K
            refine still_nilH ?_
            have w1' := (World.cell?_of_block (w := wr) (a := ⟨gi, j, none⟩) (hbw.block gi hgi2)).trans f1
            have w2' := (World.frozen?_of_block (w := wr) (a := ⟨gi, j, none⟩) (hbw.block gi hgi2)).trans f4
            have HW := Lib.hid hbw
            clear hW hz hbw f1 f2 f3 f4 f5
            go_wp2_with fail
            go_roundw
            case rel =>
              obtain ⟨hbl, hown, hvi, hg, hjk⟩ := HX.out
              have hownW := (hown.below HW.out).store (j := j) (tabN_row _ hii) (by rw [rowN_len]; exact hvi) true
              rw [tabN_set, mixJ_set (by rw [hjk]; rfl)] at hownW
              exact ⟨j + 1, by omega, by go_num, (below_step hbl HW.out).setCell (by simpa using hgi1) _, hownW, ownsRow_setCell_other (own_below hg HW.out) (fun e => by simp [Value.ownBlock] at e; omega) _⟩
            case measure => simp [intOf]; omega
        · have hjn : j = n := by omega
          have HJ := Lib.hid (And.intro hjn (And.intro hbl (And.intro hown hg)))
          clear hjn hbl hown hg
          go_wp2_with fail
          go_roundw
          case rel => exact ⟨i + 1, by omega, by go_num, HJ.out.2.1, by have h := HJ.out.2.2.1; rw [HJ.out.1, mixJ_row] at h; exact h, HJ.out.2.2.2⟩
          case measure => simp [intOf]; omega
    · have hin : i = n := by omega
      have HJ := Lib.hid hin
      clear hin
      go_wp2_with fail
      go_ret
      refine ⟨_, vs2, rfl, HI.out.1, ?_⟩
      have h := HI.out.2.1
      rw [HJ.out, mixJ_last] at h
      exact h
end Go.Proofs.Ytnkdpogplkomhaa

/- The model's spans of years. -/
namespace Go.Proofs.Ytnkdpogplkomhaa
open Go.RowKit

section
variable {J : Nat → Nat → Bool} {lo hi : Nat → Int} {i j : Nat}
theorem low_zero (p : Nat → Bool) (g : Nat → Int) (a : Int) : maxF p g (List.range 0) a = a := rfl
theorem high_zero (p : Nat → Bool) (g : Nat → Int) (a : Int) : minF p g (List.range 0) a = a := rfl
theorem low_next (p : Nat → Bool) (g : Nat → Int) (a : Int) : maxF p g (List.range (j + 1)) a = if p j = true then max (maxF p g (List.range j) a) (g j) else maxF p g (List.range j) a := by
  rw [List.range_succ, maxF_app]; rfl
theorem high_next (p : Nat → Bool) (g : Nat → Int) (a : Int) : minF p g (List.range (j + 1)) a = if p j = true then min (minF p g (List.range j) a) (g j) else minF p g (List.range j) a := by
  rw [List.range_succ, minF_app]; rfl
end
/-- Two numbers in a block of their own. -/
def duoRow (w : World) (g : Nat) (x y : Int) : Prop := w.heap[g]? = some (.cells #[.int .i64 x, .int .i64 y] 33 (0, 0))
theorem duoRow.cells {w : World} {g : Nat} {x y : Int} (h : duoRow w g x y) : w.cell? ⟨g, 0, none⟩ = some (.int .i64 x) ∧ w.cell? ⟨g, 1, none⟩ = some (.int .i64 y) ∧ w.frozen? ⟨g, 0, none⟩ = false ∧ w.frozen? ⟨g, 1, none⟩ = false :=
  ⟨cell_of_row _ _ 0 _ _ _ h, cell_of_row _ _ 1 _ _ _ h, frozen_of_row _ _ 0 _ _ h, frozen_of_row _ _ 1 _ _ h⟩
theorem duoRow.lt {w : World} {g : Nat} {x y : Int} (h : duoRow w g x y) : g < w.heap.size := (Array.getElem?_eq_some_iff.1 h).1
theorem duoRow.below {w w2 : World} {g : Nat} {x y : Int} (h : duoRow w g x y) (hb : Below w.heap.size w w2) : duoRow w2 g x y := (hb.block g h.lt).trans h
theorem duoRow.set0 {w : World} {g : Nat} {x y : Int} (h : duoRow w g x y) (z : Int) : duoRow (w.setCell ⟨g, 0, none⟩ (.int .i64 z)) g z y := by
  have := heap_setCell_same w g 0 _ _ (.int .i64 z) h
  simpa [duoRow] using this
theorem duoRow.set1 {w : World} {g : Nat} {x y : Int} (h : duoRow w g x y) (z : Int) : duoRow (w.setCell ⟨g, 1, none⟩ (.int .i64 z)) g x z := by
  have := heap_setCell_same w g 1 _ _ (.int .i64 z) h
  simpa [duoRow] using this
def SpansS (w : World) (m : List Sp) (e : Ending) (w2 : World) : Prop :=
  ∃ v, e = .returned v ∧ Below w.heap.size w w2 ∧ w2.ownsRow w.heap.size 33 2 v m.length (cellsS m)
theorem ints_at {w : World} {B : Nat} {A : Option Addr} {L : List Int} (h : Reads w B 1 A L.length (cellsI L)) {k : Nat} {x : Int} (hk : L[k]? = some x) : ∃ b off, A = some ⟨b, off, none⟩ ∧ b < B ∧ w.cell? ⟨b, off + k, none⟩ = some (.int .i64 x) := by
  obtain ⟨b, off, e, hb, hc⟩ := h.ints (by have := (List.getElem?_eq_some_iff.1 hk).1; omega)
  exact ⟨b, off, e, hb, hc k x hk⟩
set_option maxHeartbeats 8000000 in
set_option maxRecDepth 100000 in
theorem sDates13_any (A B C : Option Addr) (ca cb cc : Nat) (ids : List Int) (l bs : List Ctx) (w : World) (ha : Reads w w.heap.size 1 A ids.length (cellsI ids)) (hb : Reads w w.heap.size 3 B l.length (cellsC l)) (hc : Reads w w.heap.size 3 C bs.length (cellsC bs))
    (hok : okG ids l = true) (hm : bs.length ≤ 1000000000) :
    Calls Try.prog 52 #[.slice A ids.length ca, .slice B l.length cb, .slice C bs.length cc] w (SpansS w (allD ids l bs)) := by
  obtain ⟨i0, hi0, hz0, hz1, hz2⟩ := info_parts infoSpan
  have hn : ids.length ≤ 12 := validO_len (okG_parts hok).1
  have hj := sJoined_any A B ca cb ids l w ha hb hok
  have hsp := fun (W : World) (hW : Below w.heap.size w W) (id : Int) => sSpan_any C cc bs id W (hc.step hW) (by omega)
  obtain ⟨S, hS⟩ : ∃ S, S = allD ids l bs := ⟨_, rfl⟩
  obtain ⟨J, hJ⟩ : ∃ J, J = joinK ids l := ⟨_, rfl⟩
  obtain ⟨lo, hlo⟩ : ∃ lo, lo = loP ids bs := ⟨_, rfl⟩
  obtain ⟨hi, hhi⟩ : ∃ hi, hi = hiP ids bs := ⟨_, rfl⟩
  have hSa : ∀ i, i < ids.length → S[i]? = some ⟨maxF (fun j => J i j) lo (List.range ids.length) 0, minF (fun j => J j i) hi (List.range ids.length) 999⟩ := fun i hi' => by
    rw [hS, allD_at hi', hJ, hlo, hhi]; rfl
  have hSl : S.length = ids.length := by rw [hS, allD_len]
  have hlo2 : ∀ (j : Nat) (x : Int), ids[j]? = some x → lowB bs x = lo j ∧ highB bs x = hi j := fun j x hx => by
    rw [hlo, hhi, loP, hiP]; simp [List.getD_eq_getElem?_getD, hx]
  rw [← hJ] at hj
  rw [← hS]
  have H := Lib.hid (And.intro hj (And.intro hsp (And.intro hSa (And.intro hSl (And.intro hlo2 ha)))))
  clear hj hsp hSa hSl hlo2 ha hb hc hS hJ hlo hhi hok
  go_enter Try.func52, Try.ntmps52
  go_wp2_with fail
  refine H.out.1.mono ?_
  rintro e w2 ⟨v2, vs2, rfl, k2, o2⟩
  obtain ⟨A2, c2, rfl, _, m2⟩ := o2.nest
  have htl : (tabN ids.length J).length = ids.length := tabN_len _ _
  rw [htl] at m2 ⊢
  have hs2 := k2.size
  have O2 := Lib.hid (And.intro k2 (And.intro m2 (H.out.2.2.2.2.2.step k2)))
  clear k2 o2 m2 htl
  have hb3 : Below w2.heap.size w2 (w2.alloc (.cells #[] 33)) := (Below.refl _ _).alloc (Nat.le_refl _) _
  have ho3 : (w2.alloc (.cells #[] 33)).ownsRow w2.heap.size 33 2 (.slice (some ⟨w2.heap.size, 0, none⟩) 0 0) 0 [] := own_empty (Nat.le_refl _) rfl
  have O3 := Lib.hid (And.intro hb3 ho3)
  clear hb3 ho3
  go_wp2_with fail
  go_loopw [8, 9] (fun v c wr => ∃ i : Nat, i ≤ ids.length ∧ c = .int .i64 i ∧ Below w2.heap.size w2 wr ∧ wr.ownsRow w2.heap.size 33 2 v i (cellsS (S.take i))) (fun _ c _ => ids.length - (intOf c).toNat)
  case atStart => exact ⟨0, Nat.zero_le _, rfl, O3.out.1, O3.out.2⟩
  case round =>
    obtain ⟨i, hile, rfl, hbl, hown⟩ := hrel
    obtain ⟨wA, rfl⟩ : ∃ wA, wA = wr := ⟨wr, rfl⟩
    have hsz := hbl.size
    by_cases hii : i < ids.length
    · have hiii : (i : Int) < (ids.length : Int) := by omega
      have hd0 : duoRow (wA.alloc (.cells #[.int .i64 0, .int .i64 999] 33)) wA.heap.size 0 999 := heap_alloc_new _ _
      have hb4 : Below wA.heap.size wA (wA.alloc (.cells #[.int .i64 0, .int .i64 999] 33)) := (Below.refl _ _).alloc (Nat.le_refl _) _
      have HI := Lib.hid (And.intro hbl (And.intro hown (And.intro hd0 hb4)))
      clear hbl hown hd0 hb4
      go_wp2_with fail
      go_loopw [11] (fun c w4 => ∃ j : Nat, j ≤ ids.length ∧ c = .int .i64 j ∧ Below wA.heap.size wA w4 ∧ duoRow w4 wA.heap.size (maxF (fun j => J i j) lo (List.range j) 0) (minF (fun j => J j i) hi (List.range j) 999)) (fun c _ => ids.length - (intOf c).toNat)
      case atStart => exact ⟨0, Nat.zero_le _, rfl, HI.out.2.2.2, HI.out.2.2.1⟩
      case round =>
        obtain ⟨j, hjle, rfl, hbl, hd⟩ := hrel
        by_cases hjj : j < ids.length
        · have hjji : (j : Int) < (ids.length : Int) := by omega
          obtain ⟨x, hx⟩ : ∃ x, ids[j]? = some x := ⟨_, List.getElem?_eq_getElem hjj⟩
          have kA := below_step HI.out.1 hbl
          obtain ⟨bI, oI, hAI, hbI, hcI⟩ := ints_at (O2.out.2.2.below kA) hx
          subst hAI
          have hw2A := HI.out.1.size
          have hd2 := hd.lt
          have HX := Lib.hid (And.intro hbl (And.intro hd (And.intro kA (H.out.2.2.2.2.1 j x hx))))
          have hlo := low_next (j := j) (fun j => J i j) lo 0
          have hhi := high_next (j := j) (fun j => J j i) hi 999
          obtain ⟨p, hp⟩ : ∃ p, p = maxF (fun j => J i j) lo (List.range j) 0 := ⟨_, rfl⟩
          obtain ⟨q, hq⟩ : ∃ q, q = minF (fun j => J j i) hi (List.range j) 999 := ⟨_, rfl⟩
          rw [← hp] at hlo HX
          rw [← hq] at hhi HX
          have HN := Lib.hid (And.intro hlo hhi)
          obtain ⟨z1, hz1'⟩ : ∃ z, J i j = z := ⟨_, rfl⟩
          obtain ⟨z2, hz2'⟩ : ∃ z, J j i = z := ⟨_, rfl⟩
          have HZ := Lib.hid (And.intro hz1' hz2')
          have hspx := H.out.2.1 wr (below_step O2.out.1 kA) x
          rw [(H.out.2.2.2.2.1 j x hx).1, (H.out.2.2.2.2.1 j x hx).2] at hspx
          have HSP := Lib.hid hspx
          clear hbl hd kA hx hlo hhi hp hq hz1' hz2' hspx
          obtain ⟨rfl, rfl⟩ | ⟨rfl, rfl⟩ | ⟨rfl, rfl⟩ | ⟨rfl, rfl⟩ : (z1 = false ∧ z2 = false) ∨ (z1 = false ∧ z2 = true) ∨ (z1 = true ∧ z2 = false) ∨ (z1 = true ∧ z2 = true) := by cases z1 <;> cases z2 <;> simp
          · go_wp2_with (go_at_call 49
                         go_must (refine HSP.out.mono ?_)
                         rintro e w6 ⟨rfl, k6⟩
                         obtain ⟨b4, o4, A4, c4, hA4, hb4, g1, _, hr4⟩ := (O2.out.2.1.below (below_step HX.out.2.2.1 k6)).row (tabN_row J hii)
                         obtain ⟨b5, o5, hA5, hb5, g2⟩ := Reads.cellE hr4 (rowN_at (J i) hjj)
                         obtain ⟨b6, o6, A6, c6, hA6, hb6, g3, _, hr6⟩ := (O2.out.2.1.below (below_step HX.out.2.2.1 k6)).row (tabN_row J hjj)
                         obtain ⟨b7, o7, hA7, hb7, g4⟩ := Reads.cellE hr6 (rowN_at (J j) hii)
                         subst hA4 hA5 hA7
                         injection hA6 with hA6
                         injection hA6 with e1 e2 e3
                         subst e1 e2
                         rw [rowN_len] at g1 g3
                         rw [HZ.out.1] at g2
                         rw [HZ.out.2] at g4
                         simp only [encB] at g2 g4
                         have D6 := HX.out.2.1.below k6
                         obtain ⟨d1, d2, d3, d4⟩ := D6.cells
                         have K6 := Lib.hid (And.intro (below_step HX.out.1 k6) D6)
                         clear hr4 hr6 e3 D6 k6)
            go_roundw
            case rel =>
              refine ⟨j + 1, by omega, by go_num, K6.out.1, ?_⟩
              rw [HN.out.1, HN.out.2]
              simp only [HZ.out.1, HZ.out.2, Bool.false_eq_true, if_false]
              exact K6.out.2
            case measure => simp [intOf]; omega
          · go_wp2_with (go_at_call 49
                         go_must (refine HSP.out.mono ?_)
                         rintro e w6 ⟨rfl, k6⟩
                         obtain ⟨b4, o4, A4, c4, hA4, hb4, g1, _, hr4⟩ := (O2.out.2.1.below (below_step HX.out.2.2.1 k6)).row (tabN_row J hii)
                         obtain ⟨b5, o5, hA5, hb5, g2⟩ := Reads.cellE hr4 (rowN_at (J i) hjj)
                         obtain ⟨b6, o6, A6, c6, hA6, hb6, g3, _, hr6⟩ := (O2.out.2.1.below (below_step HX.out.2.2.1 k6)).row (tabN_row J hjj)
                         obtain ⟨b7, o7, hA7, hb7, g4⟩ := Reads.cellE hr6 (rowN_at (J j) hii)
                         subst hA4 hA5 hA7
                         injection hA6 with hA6
                         injection hA6 with e1 e2 e3
                         subst e1 e2
                         rw [rowN_len] at g1 g3
                         rw [HZ.out.1] at g2
                         rw [HZ.out.2] at g4
                         simp only [encB] at g2 g4
                         have D6 := HX.out.2.1.below k6
                         obtain ⟨d1, d2, d3, d4⟩ := D6.cells
                         have K6 := Lib.hid (And.intro (below_step HX.out.1 k6) D6)
                         clear hr4 hr6 e3 D6 k6)
            go_roundw
            case rel =>
              refine ⟨j + 1, by omega, by go_num, (K6.out.1.setCell (Nat.le_refl _) _), ?_⟩
              rw [HN.out.1, HN.out.2]
              simp only [HZ.out.1, HZ.out.2, Bool.false_eq_true, if_true, if_false]
              rw [← min_if]
              exact (K6.out.2.set1 _)
            case measure => simp [intOf]; omega
          · go_wp2_with (go_at_call 49
                         go_must (refine HSP.out.mono ?_)
                         rintro e w6 ⟨rfl, k6⟩
                         obtain ⟨b4, o4, A4, c4, hA4, hb4, g1, _, hr4⟩ := (O2.out.2.1.below (below_step HX.out.2.2.1 k6)).row (tabN_row J hii)
                         obtain ⟨b5, o5, hA5, hb5, g2⟩ := Reads.cellE hr4 (rowN_at (J i) hjj)
                         obtain ⟨b6, o6, A6, c6, hA6, hb6, g3, _, hr6⟩ := (O2.out.2.1.below (below_step HX.out.2.2.1 k6)).row (tabN_row J hjj)
                         obtain ⟨b7, o7, hA7, hb7, g4⟩ := Reads.cellE hr6 (rowN_at (J j) hii)
                         subst hA4 hA5 hA7
                         injection hA6 with hA6
                         injection hA6 with e1 e2 e3
                         subst e1 e2
                         rw [rowN_len] at g1 g3
                         rw [HZ.out.1] at g2
                         rw [HZ.out.2] at g4
                         simp only [encB] at g2 g4
                         have D6 := HX.out.2.1.below k6
                         obtain ⟨d1, d2, d3, d4⟩ := D6.cells
                         have K6 := Lib.hid (And.intro (below_step HX.out.1 k6) D6)
                         clear hr4 hr6 e3 D6 k6)
            go_roundw
            case rel =>
              refine ⟨j + 1, by omega, by go_num, (K6.out.1.setCell (Nat.le_refl _) _), ?_⟩
              rw [HN.out.1, HN.out.2]
              simp only [HZ.out.1, HZ.out.2, Bool.false_eq_true, if_true, if_false]
              rw [← max_if]
              exact (K6.out.2.set0 _)
            case measure => simp [intOf]; omega
          · go_wp2_with (go_at_call 49
                         go_must (refine HSP.out.mono ?_)
                         rintro e w6 ⟨rfl, k6⟩
                         obtain ⟨b4, o4, A4, c4, hA4, hb4, g1, _, hr4⟩ := (O2.out.2.1.below (below_step HX.out.2.2.1 k6)).row (tabN_row J hii)
                         obtain ⟨b5, o5, hA5, hb5, g2⟩ := Reads.cellE hr4 (rowN_at (J i) hjj)
                         obtain ⟨b6, o6, A6, c6, hA6, hb6, g3, _, hr6⟩ := (O2.out.2.1.below (below_step HX.out.2.2.1 k6)).row (tabN_row J hjj)
                         obtain ⟨b7, o7, hA7, hb7, g4⟩ := Reads.cellE hr6 (rowN_at (J j) hii)
                         subst hA4 hA5 hA7
                         injection hA6 with hA6
                         injection hA6 with e1 e2 e3
                         subst e1 e2
                         rw [rowN_len] at g1 g3
                         rw [HZ.out.1] at g2
                         rw [HZ.out.2] at g4
                         simp only [encB] at g2 g4
                         have D6 := HX.out.2.1.below k6
                         obtain ⟨d1, d2, d3, d4⟩ := D6.cells
                         have K6 := Lib.hid (And.intro (below_step HX.out.1 k6) D6)
                         clear hr4 hr6 e3 D6 k6)
            go_roundw
            case rel =>
              refine ⟨j + 1, by omega, by go_num, ((K6.out.1.setCell (Nat.le_refl _) _).setCell (Nat.le_refl _) _), ?_⟩
              rw [HN.out.1, HN.out.2]
              simp only [HZ.out.1, HZ.out.2, if_true]
              rw [← max_if]
              rw [← min_if]
              exact ((K6.out.2.set0 _).set1 _)
            case measure => simp [intOf]; omega
        · have hjn : j = ids.length := by omega
          rw [hjn] at hd
          have hrow := H.out.2.2.1 i hii
          obtain ⟨p, hp⟩ : ∃ p, p = maxF (fun j => J i j) lo (List.range ids.length) 0 := ⟨_, rfl⟩
          obtain ⟨q, hq⟩ : ∃ q, q = minF (fun j => J j i) hi (List.range ids.length) 999 := ⟨_, rfl⟩
          rw [← hp, ← hq] at hd hrow
          have hd2 := hd.lt
          obtain ⟨d1, d2, d3, d4⟩ := hd.cells
          have hownr := own_below HI.out.2.1 hbl
          have HJ := Lib.hid (And.intro (below_step HI.out.1 hbl) (And.intro hownr hrow))
          have hsz2 := (below_step HI.out.1 hbl).size
          clear hjn hbl hd hrow hp hq hownr
          go_wp2_with (at_builtin
                       go_must (refine wpList_append_reads _ rfl (.tmp 64) (.tmp 66) _ rfl w2.heap.size 33 i0 _ 2 16 Try.underlying29 hi0 hz0 hz1 hz2 rfl (by omega) u8 i _ rfl (HJ.out.2.1.alloc _) (wr.heap.size + 1) _ 1 1 (cellsS [⟨p, q⟩]) rfl (readsS_one (c := ⟨p, q⟩) (by omega)) (cellsS_one _) (by simp only [maxLen]; omega) (by omega) (by simp; omega) ?_)
                       intro v7 w7 hown7 hg7 hat7
                       have hb7 := app_below HJ.out.2.1 (Nat.le_refl _) hsz2 hg7)
          go_roundw
          case rel =>
            refine ⟨i + 1, by omega, by go_num, HJ.out.1.trans hb7, ?_⟩
            rw [List.take_add_one, HJ.out.2.2, cellsS_append]
            exact hown7
          case measure => simp [intOf]; omega
    · have hin : i = ids.length := by omega
      have HJ := Lib.hid (And.intro hin (And.intro hbl hown))
      clear hin hbl hown
      go_wp2_with fail
      go_ret
      refine ⟨_, rfl, below_step O2.out.1 HJ.out.2.1, ?_⟩
      have h := HJ.out.2.2
      rw [List.take_of_length_le (by rw [HJ.out.1, H.out.2.2.2.1]; exact Nat.le_refl _), HJ.out.1, ← H.out.2.2.2.1] at h
      exact own_less h hs2
end Go.Proofs.Ytnkdpogplkomhaa

/- What the model's spans of dates, and its earliest dates, are. -/
namespace Go.Proofs.Ytnkdpogplkomhaa
open Go.RowKit

section
variable {ids : List Int} {l B : List Ctx}
theorem okD_args (h : argsD ids l B = false) : okD ids l B = false := by simp [okD, h]
theorem okD_bad {i : Nat} (hi : i < ids.length) (h : highD ids l B i < lowD ids l B i) : okD ids l B = false := by
  cases hk : okD ids l B
  · rfl
  · have := spOk_iff.1 (okD_parts hk).2 i hi
    unfold highD lowD at h
    omega
theorem okD_good (ha : argsD ids l B = true) (h : ∀ i, i < ids.length → lowD ids l B i ≤ highD ids l B i) : okD ids l B = true := by
  simp only [okD, ha, Bool.true_and]
  exact spOk_iff.2 h
theorem firstD_len (ids : List Int) (l B : List Ctx) : (firstD ids l B).length ≤ ids.length := by
  unfold firstD
  rw [List.length_map]
  exact datesD_len ids l B
end
/-- A call returned spans of its own and a word. -/
def PairSp (w : World) (m : List Sp) (b : Bool) (e : Ending) (w2 : World) : Prop :=
  ∃ v, e = .returned (.tuple #[v, .bool b]) ∧ Below w.heap.size w w2 ∧ w2.ownsRow w.heap.size 33 2 v m.length (cellsS m)
def PairIn (w : World) (m : List Int) (b : Bool) (e : Ending) (w2 : World) : Prop :=
  ∃ v, e = .returned (.tuple #[v, .bool b]) ∧ Below w.heap.size w w2 ∧ w2.ownsRow w.heap.size 3 1 v m.length (cellsI m)
theorem pairSp_mk {w w2 : World} {m m2 : List Sp} {v : Value} {b b2 : Bool} (h1 : b2 = b) (h2 : m2 = m) (hb : Below w.heap.size w w2) (ho : w2.ownsRow w.heap.size 33 2 v m.length (cellsS m)) :
    PairSp w m2 b2 (.returned (.tuple #[v, .bool b])) w2 := by
  subst h1 h2
  exact ⟨v, rfl, hb, ho⟩
theorem pairIn_mk {w w2 : World} {m m2 : List Int} {v : Value} {b b2 : Bool} (h1 : b2 = b) (h2 : m2 = m) (hb : Below w.heap.size w w2) (ho : w2.ownsRow w.heap.size 3 1 v m.length (cellsI m)) :
    PairIn w m2 b2 (.returned (.tuple #[v, .bool b])) w2 := by
  subst h1 h2
  exact ⟨v, rfl, hb, ho⟩
theorem own_emptyS {w : World} {base g : Nat} (hb : base ≤ w.heap.size) (hg : g = w.heap.size) : (w.alloc (.cells #[] 33)).ownsRow base 33 2 (.slice (some ⟨g, 0, none⟩) 0 0) ([] : List Sp).length (cellsS []) := own_empty hb hg
set_option maxHeartbeats 1600000 in
set_option maxRecDepth 100000 in
theorem sDatesOf_any (A B C : Option Addr) (ca cb cc : Nat) (ids : List Int) (l bs : List Ctx) (w : World) (ha : Reads w w.heap.size 1 A ids.length (cellsI ids)) (hb : Reads w w.heap.size 3 B l.length (cellsC l)) (hc : Reads w w.heap.size 3 C bs.length (cellsC bs))
    (hn : ids.length ≤ 1000000000) (hl : l.length ≤ 1000000000) (hm : bs.length ≤ 1000000000) :
    Calls Try.prog 15 #[.slice A ids.length ca, .slice B l.length cb, .slice C bs.length cc] w (PairSp w (datesD ids l bs) (okD ids l bs)) := by
  have hv := sOk13_any A B C ca cb cc ids l bs w ha hb hc hn hl hm
  obtain ⟨o, ho⟩ : ∃ o, argsD ids l bs = o := ⟨_, rfl⟩
  rw [ho] at hv
  cases o
  · have HO := Lib.hid (And.intro hv (And.intro (okD_args ho) (datesD_no (okD_args ho))))
    clear hv ho ha hb hc
    go_enter Try.func15, Try.ntmps15
    go_wp2_with (go_at_call 47; go_must (refine HO.out.1.mono ?_); rintro e w2 ⟨rfl, k2⟩)
    go_ret2
    exact pairSp_mk HO.out.2.1 HO.out.2.2 (k2.alloc k2.size _) (own_emptyS k2.size rfl)
  · have hok := ordOk_okG (argsD_parts ho).1
    have hdt := fun (W : World) (hW : Below w.heap.size w W) => sDates13_any A B C ca cb cc ids l bs W (ha.step hW) (hb.step hW) (hc.step hW) hok hm
    have hln := allD_len ids l bs
    have hat : ∀ i, i < ids.length → (allD ids l bs)[i]? = some ⟨lowD ids l bs i, highD ids l bs i⟩ := fun i hi => allD_at hi
    have hyes := okD_good ho
    have hno : ∀ i, i < ids.length → highD ids l bs i < lowD ids l bs i → okD ids l bs = false := fun i hi h => okD_bad hi h
    have hn12 : ids.length ≤ 12 := validO_len (okG_parts hok).1
    have hgood : okD ids l bs = true → datesD ids l bs = allD ids l bs := datesD_ok
    have hbad : okD ids l bs = false → datesD ids l bs = [] := datesD_no
    obtain ⟨S, hS⟩ : ∃ S, S = allD ids l bs := ⟨_, rfl⟩
    obtain ⟨lo, hlo⟩ : ∃ lo, lo = lowD ids l bs := ⟨_, rfl⟩
    obtain ⟨hi, hhi⟩ : ∃ hi, hi = highD ids l bs := ⟨_, rfl⟩
    rw [← hlo, ← hhi] at hyes hno
    rw [← hS] at hln hgood
    simp only [← hS, ← hlo, ← hhi] at hat
    rw [← hln] at hat hyes hno
    simp only [← hS] at hdt
    have HO := Lib.hid (And.intro hv (And.intro hdt (And.intro hat (And.intro hyes (And.intro hno (And.intro hgood hbad))))))
    have hn12' : S.length ≤ 12 := by omega
    clear hv ho ha hb hc hdt hat hyes hno hok hS hlo hhi hgood hbad hln hn12
    go_enter Try.func15, Try.ntmps15
    go_wp2_with (first
      | (go_at_call 47; go_must (refine HO.out.1.mono ?_); rintro e w2 ⟨rfl, k2⟩)
      | (go_at_call 52; go_must (refine (HO.out.2.1 _ k2).mono ?_); rintro e w3 ⟨v3, rfl, k3, o3⟩))
    obtain ⟨A3, c3, rfl, _, hr3⟩ := own_slice o3
    have hs2 := k2.size
    have K := Lib.hid (And.intro (below_step k2 k3) (And.intro (own_less o3 hs2) hr3))
    have hs3 := K.out.1.size
    clear k2 k3 o3 hr3
    go_loopw [9] (fun c wr => ∃ k : Nat, k ≤ S.length ∧ c = .int .i64 k ∧ Below w3.heap.size w3 wr ∧ ∀ i, i < k → lo i ≤ hi i) (fun c _ => S.length - (intOf c).toNat)
    case atStart => exact ⟨0, Nat.zero_le _, rfl, Below.refl _ _, fun i h => absurd h (by omega)⟩
    case round =>
      obtain ⟨k, hk, rfl, hbl, hg⟩ := hrel
      have HG := Lib.hid hg; clear hg
      by_cases hlt : k < S.length
      · obtain ⟨b, off, hA, hbb, hc⟩ := (K.out.2.2.below hbl).sp (by omega)
        subst hA
        obtain ⟨c1, c2⟩ := hc k _ (HO.out.2.2.1 k (by omega))
        have hkl : (k : Int) < (S.length : Int) := by omega
        have HB := Lib.hid hbl
        have hsz := hbl.size
        clear hc hbl
        by_cases hbd : hi k < lo k
        · have e1 : decide (hi k < lo k) = true := decide_eq_true hbd
          have HN := Lib.hid (HO.out.2.2.2.2.1 k (by omega) hbd)
          clear hbd
          go_wp2_with fail
          go_quiet (fail)
          go_wp2_with fail
          go_ret2
          have hb9 := below_draws HB.out nq
          exact pairSp_mk HN.out (HO.out.2.2.2.2.2.2 HN.out) ((below_step K.out.1 hb9).alloc (below_step K.out.1 hb9).size _) (own_emptyS (below_step K.out.1 hb9).size rfl)
        · have e1 : decide (hi k < lo k) = false := decide_eq_false hbd
          have HN : Hid (lo k ≤ hi k) := by show lo k ≤ hi k; omega
          clear hbd
          go_wp2_with fail
          go_quiet (fail)
          go_wp2_with fail
          go_roundw
          case rel =>
            refine ⟨k + 1, by omega, by go_num, below_draws HB.out nq, fun i hik => ?_⟩
            by_cases h9 : i < k
            · exact HG.out i h9
            · obtain rfl : i = k := by omega
              exact HN.out
          case measure => simp [intOf]; omega
      · have HB := Lib.hid hbl
        have HN := Lib.hid (HO.out.2.2.2.1 fun i hi9 => HG.out i (by omega))
        clear hbl
        go_wp2_with fail
        go_ret2
        exact pairSp_mk HN.out (HO.out.2.2.2.2.2.1 HN.out) (below_step K.out.1 HB.out) (own_below K.out.2.1 HB.out)
set_option maxHeartbeats 1600000 in
set_option maxRecDepth 100000 in
theorem sEarliest_any (A B C : Option Addr) (ca cb cc : Nat) (ids : List Int) (l bs : List Ctx) (w : World) (ha : Reads w w.heap.size 1 A ids.length (cellsI ids)) (hb : Reads w w.heap.size 3 B l.length (cellsC l)) (hc : Reads w w.heap.size 3 C bs.length (cellsC bs))
    (hn : ids.length ≤ 1000000000) (hl : l.length ≤ 1000000000) (hm : bs.length ≤ 1000000000) :
    Calls Try.prog 23 #[.slice A ids.length ca, .slice B l.length cb, .slice C bs.length cc] w (PairIn w (firstD ids l bs) (okD ids l bs)) := by
  obtain ⟨i0, hi0, hz0, hz1, hz2⟩ := info_parts infoInt
  have hd := sDatesOf_any A B C ca cb cc ids l bs w ha hb hc hn hl hm
  have hle := datesD_len ids l bs
  have hF : firstD ids l bs = (datesD ids l bs).map Sp.lo := rfl
  obtain ⟨D, hD⟩ : ∃ D, D = datesD ids l bs := ⟨_, rfl⟩
  rw [← hD] at hd hle hF
  rw [hF]
  have H := Lib.hid hd
  clear hd hF hD ha hb hc
  go_enter Try.func23, Try.ntmps23
  go_wp2_with fail
  refine H.out.mono ?_
  rintro e w2 ⟨v2, rfl, k2, o2⟩
  obtain ⟨A2, c2, rfl, _, hr2⟩ := own_slice o2
  have hs2 := k2.size
  have K := Lib.hid (And.intro k2 hr2)
  have hb3 : Below w2.heap.size w2 (w2.alloc (.cells #[] 3)) := (Below.refl _ _).alloc (Nat.le_refl _) _
  have ho3 : (w2.alloc (.cells #[] 3)).ownsRow w2.heap.size 3 1 (.slice (some ⟨w2.heap.size, 0, none⟩) 0 0) 0 [] := own_empty (Nat.le_refl _) rfl
  have O3 := Lib.hid (And.intro hb3 ho3)
  clear k2 o2 hr2 hb3 ho3
  go_wp2_with fail
  go_loopw [10, 11] (fun v c wr => ∃ k : Nat, k ≤ D.length ∧ c = .int .i64 k ∧ Below w2.heap.size w2 wr ∧ wr.ownsRow w2.heap.size 3 1 v k (cellsI ((D.take k).map Sp.lo))) (fun _ c _ => D.length - (intOf c).toNat)
  case atStart => exact ⟨0, Nat.zero_le _, rfl, O3.out.1, O3.out.2⟩
  case round =>
    obtain ⟨k, hk, rfl, hbl, hown⟩ := hrel
    have hsz := hbl.size
    by_cases hlt : k < D.length
    · obtain ⟨b, off, hA, hbb, hc⟩ := (K.out.2.below hbl).sp (by omega)
      subst hA
      obtain ⟨s, hs⟩ : ∃ s, D[k]? = some s := ⟨_, List.getElem?_eq_getElem hlt⟩
      obtain ⟨c1, c2⟩ := hc k s hs
      have hkl : (k : Int) < (D.length : Int) := by omega
      have HX := Lib.hid (And.intro hbl (And.intro hown hs))
      clear hbl hown hs hc
      go_wp2_with (at_builtin
                   go_must (refine wpList_append_reads _ rfl (.tmp 26) (.tmp 32) _ rfl w2.heap.size 3 i0 _ 1 8 Try.underlying23 hi0 hz0 hz1 hz2 rfl (by omega) u10 k _ rfl (HX.out.2.1.alloc _) (wr.heap.size + 1) _ 1 1 (cellsI [s.lo]) rfl (reads_int (by omega)) (cellsI_one _) (by simp only [maxLen]; omega) (by omega) (by simp; omega) ?_)
                   intro v7 w7 hown7 hg7 hat7
                   have hb7 := app_below HX.out.2.1 (Nat.le_refl _) hsz hg7)
      go_roundw
      case rel =>
        refine ⟨k + 1, by omega, by go_num, HX.out.1.trans hb7, ?_⟩
        have e9 : cellsI ((D.take (k + 1)).map Sp.lo) = cellsI ((D.take k).map Sp.lo) ++ cellsI [s.lo] := by
          rw [List.take_add_one, HX.out.2.2]
          simp [cellsI]
        rw [e9]
        exact hown7
      case measure => simp [intOf]; omega
    · have hkl : k = D.length := by omega
      have HX := Lib.hid (And.intro hkl (And.intro hbl hown))
      clear hkl hbl hown
      go_wp2_with fail
      go_ret2
      refine ⟨_, rfl, below_step K.out.1 HX.out.2.1, ?_⟩
      have h := HX.out.2.2
      rw [HX.out.1, List.take_length] at h
      rw [List.length_map]
      exact own_less h hs2
end Go.Proofs.Ytnkdpogplkomhaa

/- Whether the model finds that years fit. -/
namespace Go.Proofs.Ytnkdpogplkomhaa
open Go.RowKit

section
variable {ids : List Int} {l B : List Ctx} {Y : List Int}
theorem fit_args (h : argsD ids l B = false) : fitD ids l B Y = false := by simp [fitD, h]
theorem fit_len (h : Y.length ≠ ids.length) : fitD ids l B Y = false := by simp [fitD, h]
theorem fit_out {i : Nat} {y : Int} (hi : i < ids.length) (hy : Y[i]? = some y) (h : inR y (loP ids B i) (hiP ids B i) = false) : fitD ids l B Y = false := by
  cases hf : fitD ids l B Y
  · rfl
  · have := ((fitD_iff.1 hf).2.2 i hi).1
    simp only [List.getD_eq_getElem?_getD, hy, Option.getD_some] at this
    simp [inR, this] at h
theorem fit_pair {i j : Nat} {y z : Int} (hi : i < ids.length) (hj : j < ids.length) (hy : Y[i]? = some y) (hz : Y[j]? = some z) (hJ : joinK ids l i j = true) (h : y < z) : fitD ids l B Y = false := by
  cases hf : fitD ids l B Y
  · rfl
  · have := ((fitD_iff.1 hf).2.2 i hi).2 j hj hJ
    simp only [List.getD_eq_getElem?_getD, hy, hz, Option.getD_some] at this
    omega
theorem fit_good (ha : argsD ids l B = true) (hl : Y.length = ids.length) (h : ∀ (i : Nat) (y : Int), Y[i]? = some y → inR y (loP ids B i) (hiP ids B i) = true ∧ ∀ (j : Nat) (z : Int), Y[j]? = some z → joinK ids l i j = true → z ≤ y) : fitD ids l B Y = true := by
  refine fitD_iff.2 ⟨ha, hl, fun i hi => ?_⟩
  obtain ⟨y, hy⟩ : ∃ y, Y[i]? = some y := ⟨_, List.getElem?_eq_getElem (by omega)⟩
  obtain ⟨h1, h2⟩ := h i y hy
  show (loP ids B i ≤ Y.getD i 0 ∧ Y.getD i 0 ≤ hiP ids B i) ∧ ∀ j, j < ids.length → joinK ids l i j = true → Y.getD j 0 ≤ Y.getD i 0
  refine ⟨by simpa [List.getD_eq_getElem?_getD, hy, inR] using h1, fun j hj hJ => ?_⟩
  obtain ⟨z, hz⟩ : ∃ z, Y[j]? = some z := ⟨_, List.getElem?_eq_getElem (by omega)⟩
  simpa [List.getD_eq_getElem?_getD, hy, hz] using h2 j z hz hJ
end
set_option maxHeartbeats 4000000 in
set_option maxRecDepth 100000 in
theorem sDatesFit_any (A B C D : Option Addr) (ca cb cc cd : Nat) (ids : List Int) (l bs : List Ctx) (Y : List Int) (w : World) (ha : Reads w w.heap.size 1 A ids.length (cellsI ids)) (hb : Reads w w.heap.size 3 B l.length (cellsC l)) (hc : Reads w w.heap.size 3 C bs.length (cellsC bs))
    (hd : Reads w w.heap.size 1 D Y.length (cellsI Y)) (hn : ids.length ≤ 1000000000) (hl : l.length ≤ 1000000000) (hm : bs.length ≤ 1000000000) (_ : Y.length ≤ 1000000000) :
    Calls Try.prog 12 #[.slice A ids.length ca, .slice B l.length cb, .slice C bs.length cc, .slice D Y.length cd] w fun e w2 => e = .returned (.bool (fitD ids l bs Y)) ∧ Below w.heap.size w w2 := by
  have hv := sOk13_any A B C ca cb cc ids l bs w ha hb hc hn hl hm
  obtain ⟨o, ho⟩ : ∃ o, argsD ids l bs = o := ⟨_, rfl⟩
  rw [ho] at hv
  cases o
  · have HO := Lib.hid (And.intro hv (fit_args (Y := Y) ho))
    clear hv ho ha hb hc hd
    go_enter Try.func12, Try.ntmps12
    go_wp2_with (go_at_call 47; go_must (refine HO.out.1.mono ?_); rintro e w2 ⟨rfl, k2⟩)
    go_ret
    exact ⟨ret_bool HO.out.2.symm, k2⟩
  · by_cases hlen : Y.length = ids.length
    · have hok := ordOk_okG (argsD_parts ho).1
      have hn12 : ids.length ≤ 12 := validO_len (okG_parts hok).1
      have hjn := fun (W : World) (hW : Below w.heap.size w W) => sJoined_any A B ca cb ids l W (ha.step hW) (hb.step hW) hok
      have hsp := fun (W : World) (hW : Below w.heap.size w W) (id : Int) => sSpan_any C cc bs id W (hc.step hW) (by omega)
      have hlo2 : ∀ (j : Nat) (x : Int), ids[j]? = some x → lowB bs x = loP ids bs j ∧ highB bs x = hiP ids bs j := fun j x hx => by
        rw [loP, hiP]; simp [List.getD_eq_getElem?_getD, hx]
      have hout : ∀ (i : Nat) (y : Int), i < ids.length → Y[i]? = some y → inR y (loP ids bs i) (hiP ids bs i) = false → fitD ids l bs Y = false := fun i y h1 h2 h3 => fit_out h1 h2 h3
      have hpair : ∀ (i j : Nat) (y z : Int), i < ids.length → j < ids.length → Y[i]? = some y → Y[j]? = some z → joinK ids l i j = true → y < z → fitD ids l bs Y = false := fun i j y z h1 h2 h3 h4 h5 h6 => fit_pair h1 h2 h3 h4 h5 h6
      have hgood := fit_good (Y := Y) ho hlen
      obtain ⟨J, hJ⟩ : ∃ J, J = joinK ids l := ⟨_, rfl⟩
      obtain ⟨lo, hlo⟩ : ∃ lo, lo = loP ids bs := ⟨_, rfl⟩
      obtain ⟨hi, hhi⟩ : ∃ hi, hi = hiP ids bs := ⟨_, rfl⟩
      simp only [← hJ, ← hlo, ← hhi] at hjn hlo2 hout hpair hgood
      rw [hlen] at hd ⊢
      have H := Lib.hid (And.intro hv (And.intro hjn (And.intro hsp (And.intro hlo2 (And.intro ha hd)))))
      have HF := Lib.hid (And.intro hlen (And.intro hout (And.intro hpair hgood)))
      clear hv ho hlen hok hjn hsp hlo2 hout hpair hgood hJ hlo hhi ha hb hc hd
      go_enter Try.func12, Try.ntmps12
      go_wp2_with (first
        | (go_at_call 47; go_must (refine H.out.1.mono ?_); rintro e w2 ⟨rfl, k2⟩)
        | (go_at_call 48; go_must (refine (H.out.2.1 _ k2).mono ?_); rintro e w3 ⟨v3, vs3, rfl, k3, o3⟩))
      obtain ⟨A3, c3, rfl, _, m3⟩ := o3.nest
      have htl : (tabN ids.length J).length = ids.length := tabN_len _ _
      rw [htl] at m3 ⊢
      have K := Lib.hid (And.intro (below_step k2 k3) m3)
      have hs3 := (below_step k2 k3).size
      clear k2 k3 o3 m3 htl
      go_loopw [10] (fun c wr => ∃ i : Nat, i ≤ ids.length ∧ c = .int .i64 i ∧ Below w3.heap.size w3 wr ∧ ∀ (k : Nat) (y : Int), k < i → Y[k]? = some y → inR y (lo k) (hi k) = true ∧ ∀ (j : Nat) (z : Int), Y[j]? = some z → J k j = true → z ≤ y) (fun c _ => ids.length - (intOf c).toNat)
      case atStart => exact ⟨0, Nat.zero_le _, rfl, Below.refl _ _, fun k y h => absurd h (by omega)⟩
      case round =>
        obtain ⟨i, hile, rfl, hbl, hg⟩ := hrel
        obtain ⟨wA, rfl⟩ : ∃ wA, wA = wr := ⟨wr, rfl⟩
        have HG := Lib.hid hg; clear hg
        by_cases hii : i < ids.length
        · have hiii : (i : Int) < (ids.length : Int) := by omega
          obtain ⟨x, hx⟩ : ∃ x, ids[i]? = some x := ⟨_, List.getElem?_eq_getElem hii⟩
          obtain ⟨y, hy⟩ : ∃ y, Y[i]? = some y := ⟨_, List.getElem?_eq_getElem (by have := HF.out.1; omega)⟩
          have kA := below_step K.out.1 hbl
          obtain ⟨bI, oI, hAI, hbI, hcI⟩ := ints_at (H.out.2.2.2.2.1.step kA) hx
          subst hAI
          have hspx := H.out.2.2.1 wA kA x
          rw [(H.out.2.2.2.1 i x hx).1, (H.out.2.2.2.1 i x hx).2] at hspx
          have hYA := H.out.2.2.2.2.2.step kA
          rw [← HF.out.1] at hYA
          obtain ⟨bY, oY, hAY, hbY, hcY⟩ := ints_at hYA hy
          subst hAY
          have HX := Lib.hid (And.intro hbl (And.intro hx (And.intro hy (And.intro hspx kA))))
          cases hr : inR y (lo i) (hi i)
          · have HR := Lib.hid (HF.out.2.1 i y hii hy hr)
            clear hbl hx hy kA hspx hYA
            go_wp2_with (first
              | (go_at_call 49
                 go_must (refine HX.out.2.2.2.1.mono ?_)
                 rintro e w6 ⟨rfl, k6⟩
                 have hcY6 := (k6.cell hbY).trans hcY)
              | (go_at_call 50; go_must (refine (l6InB_any _ _ _ _).mono ?_); rintro e w7 ⟨rfl, rfl⟩))
            go_ret
            exact ⟨ret_bool HR.out.symm, below_step HX.out.2.2.2.2 k6⟩
          · have HR := Lib.hid hr
            clear hbl hx hy kA hspx hYA
            go_wp2_with (first
              | (go_at_call 49
                 go_must (refine HX.out.2.2.2.1.mono ?_)
                 rintro e w6 ⟨rfl, k6⟩
                 have hcY6 := (k6.cell hbY).trans hcY)
              | (go_at_call 50; go_must (refine (l6InB_any _ _ _ _).mono ?_); rintro e w7 ⟨rfl, rfl⟩))
            have K6 := Lib.hid (And.intro (below_step HX.out.1 k6) (below_step HX.out.2.2.2.2 k6))
            have hs6 := K6.out.1.size
            clear hcI hcY hcY6 k6 hbI hbY
            go_loopw [13] (fun c wr => ∃ j : Nat, j ≤ ids.length ∧ c = .int .i64 j ∧ Below w6.heap.size w6 wr ∧ ∀ (k : Nat) (z : Int), k < j → Y[k]? = some z → J i k = true → z ≤ y) (fun c _ => ids.length - (intOf c).toNat)
            case atStart => exact ⟨0, Nat.zero_le _, rfl, Below.refl _ _, fun k z h => absurd h (by omega)⟩
            case round =>
              obtain ⟨j, hjle, rfl, hbj, hgj⟩ := hrel
              have HJ := Lib.hid hgj; clear hgj
              by_cases hjj : j < ids.length
              · have hjji : (j : Int) < (ids.length : Int) := by omega
                obtain ⟨z, hz⟩ : ∃ z, Y[j]? = some z := ⟨_, List.getElem?_eq_getElem (by have := HF.out.1; omega)⟩
                have kW := below_step K6.out.2 hbj
                have kW3 := below_step K6.out.1 hbj
                have hYW := H.out.2.2.2.2.2.step kW
                rw [← HF.out.1] at hYW
                obtain ⟨bU, oU, hAU, hbU, g1⟩ := ints_at hYW HX.out.2.2.1
                obtain ⟨bV, oV, hAV, hbV, g2⟩ := ints_at hYW hz
                injection hAU with hAU
                injection hAU with e1 e2 e3
                subst e1 e2
                injection hAV with hAV
                injection hAV with e4 e5 e6
                subst e4 e5
                obtain ⟨b4, o4, A4, c4, hA4, hb4, g3, _, hr4⟩ := (K.out.2.below kW3).row (tabN_row J hii)
                obtain ⟨b5, o5, hA5, hb5, g4⟩ := Reads.cellE hr4 (rowN_at (J i) hjj)
                subst hA4 hA5
                rw [rowN_len] at g3
                obtain ⟨q, hq⟩ : ∃ q, J i j = q := ⟨_, rfl⟩
                rw [hq] at g4
                simp only [encB] at g4
                have HQ := Lib.hid (And.intro hbj (And.intro hz (And.intro hq kW)))
                clear hbj hz hq kW kW3 hYW hr4 e3 e6
                have goon : ∀ W : World, Below w6.heap.size w6 W → (q = true → z ≤ y) → ∃ j2 : Nat, j2 ≤ ids.length ∧ Value.int .i64 ((j : Int) + 1) = .int .i64 j2 ∧ Below w6.heap.size w6 W ∧ ∀ (k : Nat) (z : Int), k < j2 → Y[k]? = some z → J i k = true → z ≤ y := fun W hW hle => by
                  refine ⟨j + 1, by omega, by go_num, hW, fun k z2 hk hz2 hJk => ?_⟩
                  by_cases h9 : k < j
                  · exact HJ.out k z2 h9 hz2 hJk
                  · obtain rfl : k = j := by omega
                    have h8 := HQ.out.2.1
                    rw [hz2] at h8
                    injection h8 with h8
                    subst h8
                    exact hle (by rw [← HQ.out.2.2.1]; exact hJk)
                have GO := Lib.hid goon
                clear goon
                cases q
                · go_wp2_with fail
                  go_quiet (fail)
                  go_wp2_with fail
                  go_roundw
                  case rel => exact GO.out _ (below_draws HQ.out.1 nq) (fun h => by cases h)
                  case measure => simp [intOf]; omega
                · by_cases hyz : y < z
                  · have e9 : decide (y < z) = true := decide_eq_true hyz
                    have HR2 := Lib.hid (HF.out.2.2.1 i j y z hii hjj HX.out.2.2.1 HQ.out.2.1 HQ.out.2.2.1 hyz)
                    clear hyz
                    go_wp2_with fail
                    go_quiet (fail)
                    go_wp2_with fail
                    go_ret
                    exact ⟨ret_bool HR2.out.symm, below_draws HQ.out.2.2.2 nq⟩
                  · have e9 : decide (y < z) = false := decide_eq_false hyz
                    have HR2 : Hid (z ≤ y) := by show z ≤ y; omega
                    clear hyz
                    go_wp2_with fail
                    go_quiet (fail)
                    go_wp2_with fail
                    go_roundw
                    case rel => exact GO.out _ (below_draws HQ.out.1 nq) (fun _ => HR2.out)
                    case measure => simp [intOf]; omega
              · have hjn : j = ids.length := by omega
                have HE := Lib.hid (And.intro hjn hbj)
                clear hjn hbj
                go_wp2_with fail
                go_roundw
                case rel =>
                  refine ⟨i + 1, by omega, by go_num, below_step K6.out.1 HE.out.2, fun k y2 hk hy2 => ?_⟩
                  by_cases h9 : k < i
                  · exact HG.out k y2 h9 hy2
                  · obtain rfl : k = i := by omega
                    have h8 := HX.out.2.2.1
                    rw [hy2] at h8
                    injection h8 with h8
                    subst h8
                    exact ⟨HR.out, fun j2 z2 hz2 hJ2 => HJ.out j2 z2 (by have := (List.getElem?_eq_some_iff.1 hz2).1; have := HF.out.1; have := HE.out.1; omega) hz2 hJ2⟩
                case measure => simp [intOf]; omega
        · have hin : i = ids.length := by omega
          have HX := Lib.hid (And.intro hin (And.intro hbl (HF.out.2.2.2 fun k y hk => HG.out k y (by have := (List.getElem?_eq_some_iff.1 hk).1; have := HF.out.1; omega) hk)))
          clear hin hbl
          go_wp2_with fail
          go_ret
          exact ⟨ret_bool HX.out.2.2.symm, below_step K.out.1 HX.out.2.1⟩
    · have hne : ((Y.length : Int) != (ids.length : Int)) = true := by rw [bne_iff_ne]; omega
      have HO := Lib.hid (And.intro hv (fit_len (l := l) (B := bs) hlen))
      clear hv ho ha hb hc hd hlen
      go_enter Try.func12, Try.ntmps12
      go_wp2_with (go_at_call 47; go_must (refine HO.out.1.mono ?_); rintro e w2 ⟨rfl, k2⟩)
      go_ret
      exact ⟨ret_bool HO.out.2.symm, k2⟩
end Go.Proofs.Ytnkdpogplkomhaa

/- Which two bounds the model blames. -/
namespace Go.Proofs.Ytnkdpogplkomhaa
open Go.RowKit

/-- What is blamed, in a list of the call's own. -/
def BlameS (ids : List Int) (l bs : List Ctx) (w : World) (e : Ending) (w2 : World) : Prop :=
  ∃ (v : Value) (O : List Int), e = .returned v ∧ Blamed ids l bs O ∧ Below w.heap.size w w2 ∧ w2.ownsRow w.heap.size 3 1 v O.length (cellsI O)
theorem own_two {w : World} {base e g : Nat} (x y : Int) (hb : base ≤ w.heap.size) (hg : g = w.heap.size) : (w.alloc (.cells #[.int .i64 x, .int .i64 y] e)).ownsRow base e 1 (.slice (some ⟨g, 0, none⟩) 2 2) [x, y].length (cellsI [x, y]) := by
  subst hg
  exact ⟨by simp [cellsI], .inr ⟨_, 2, #[.int .i64 x, .int .i64 y], rfl, hb, heap_alloc_new _ _, Nat.le_refl _, by simp [maxLen], by simp, by simp [cellsI]⟩⟩
theorem blamed_none {ids : List Int} {l bs : List Ctx} (h : argsD ids l bs = false ∨ NoneB ids l bs) : Blamed ids l bs [] := .inl ⟨rfl, h⟩
theorem clashP_at {ids : List Int} {l bs : List Ctx} {i k : Nat} {a b : Ctx} (ha : bs[i]? = some a) (hb : bs[k]? = some b) : clashP ids l bs i k = (clashD ids l a b || clashD ids l b a) := by
  simp [clashP, atB, ha, hb]
end Go.Proofs.Ytnkdpogplkomhaa
