/- What the program's table of an order is. -/
import Derived.Test.YtjkjnicgbfpjiaaV3
import Derived.Test.YtjkjnicgbfpjiaaUu
namespace Go.Proofs.Ytjkjnicgbfpjiaa
open Go.RowKit

theorem has_to (r p : Nat) (t : Bool) (hr : r < 65536) (hp : p < 16) (ht : r.testBit p = t) (w : World) :
    Calls Try.prog 67 #[.int .u16 (r : Int), .int .i64 (p : Int)] w fun e w2 => e = .returned (.bool t) ∧ w2 = w :=
  (has_any r p hr hp w).mono fun _ _ ⟨h1, h2⟩ => ⟨by rw [h1, ht], h2.symm⟩
section
variable {α : Type} {enc : α → Value} {w : World} {base n go cap : Nat} {e1 e2 : TypeId} {vs : List Value} {L : List (List α)}
/-- A row of one's own is laid into a place of the slice. -/
theorem OwnV.put {u : Value} {r : List α} (h : OwnV enc w base e1 e2 (.slice (some ⟨go, 0, none⟩) n cap) vs L) (hu : w.ownsRow base e1 1 u r.length (r.map enc))
    (hf : ∀ g, u.ownBlock = some g → (Value.slice (some ⟨go, 0, none⟩) n cap).ownBlock ≠ some g ∧ ∀ (i : Nat) (u1 : Value), vs[i]? = some u1 → u1.ownBlock ≠ some g) (i : Nat) :
    OwnV enc (w.setCell ⟨go, i, none⟩ u) base e1 e2 (.slice (some ⟨go, 0, none⟩) n cap) (vs.set i u) (L.set i r) := by
  have hob : (Value.slice (some ⟨go, 0, none⟩) n cap).ownBlock = some go := rfl
  have hn : n = L.length := by
    obtain ⟨A, c, hv, _, _⟩ := h.nest
    injection hv
  subst hn
  have key : ∀ (u1 : Value) (r1 : List α), w.ownsRow base e1 1 u1 r1.length (r1.map enc) → (∀ g, u1.ownBlock = some g → (Value.slice (some ⟨go, 0, none⟩) L.length cap).ownBlock ≠ some g) → (w.setCell ⟨go, i, none⟩ u).ownsRow base e1 1 u1 r1.length (r1.map enc) := fun u1 r1 h1 h2 =>
    ownsRow_setCell_other h1 (fun e => h2 go e hob) _
  have set_at : ∀ {k : Nat} {x : Value}, (vs.set i u)[k]? = some x → (k = i ∧ x = u) ∨ (k ≠ i ∧ vs[k]? = some x) := by
    intro k x hx
    rw [List.getElem?_set] at hx
    by_cases hk : i = k
    · subst hk
      rw [if_pos rfl] at hx
      split at hx
      · injection hx with hx
        exact .inl ⟨rfl, hx.symm⟩
      · cases hx
    · rw [if_neg hk] at hx
      exact .inr ⟨fun e => hk e.symm, hx⟩
  refine ⟨by rw [List.length_set, List.length_set]; exact h.len, ?_, fun k r1 hr1 => ?_, fun k u1 g hu1 hg1 => ?_, fun k j u1 u2 g hkj h1 h2 hg1 => ?_⟩
  · rw [List.length_set]
    exact (h.out.stored i u).1
  · rw [List.getElem?_set] at hr1
    by_cases hk : i = k
    · subst hk
      rw [if_pos rfl] at hr1
      split at hr1
      · rename_i hi
        injection hr1 with hr1
        subst hr1
        exact ⟨u, by rw [List.getElem?_set_self (by rw [h.len]; exact hi)], key u _ hu fun g hg => (hf g hg).1⟩
      · cases hr1
    · rw [if_neg hk] at hr1
      obtain ⟨u1, hu1, ho1⟩ := h.row k r1 hr1
      exact ⟨u1, by rw [List.getElem?_set_ne hk]; exact hu1, key u1 r1 ho1 fun g hg => h.far k u1 g hu1 hg⟩
  · rcases set_at hu1 with ⟨_, rfl⟩ | ⟨_, hu1⟩
    · exact (hf g hg1).1
    · exact h.far k u1 g hu1 hg1
  · rcases set_at h1 with ⟨hk, rfl⟩ | ⟨hk, i1⟩
    · rcases set_at h2 with ⟨hj, rfl⟩ | ⟨hj, i2⟩
      · omega
      · exact (hf g hg1).2 j u2 i2
    · rcases set_at h2 with ⟨hj, rfl⟩ | ⟨hj, i2⟩
      · exact fun hg2 => (hf g hg2).2 k u1 i1 hg1
      · exact h.apart k j u1 u2 g hkj i1 i2 hg1
theorem zero_nils (n : Nat) : (madeCells (Value.slice none 0 0).cells (n * 1)).toList = List.replicate n (Value.slice none 0 0) := by
  refine List.ext_getElem? fun i => ?_
  by_cases hi : i < n
  · simp [madeCells, hi, Value.cells, Nat.mod_one]
  · simp [madeCells, hi]
theorem OwnV.nils {v : Value} (h : w.ownsRow base e2 1 v n (List.replicate n (Value.slice none 0 0))) : OwnV enc w base e1 e2 v (List.replicate n (Value.slice none 0 0)) (List.replicate n ([] : List α)) := by
  have at_ : ∀ {i : Nat} {u : Value}, (List.replicate n (Value.slice none 0 0))[i]? = some u → u = .slice none 0 0 := fun h => List.eq_of_mem_replicate (List.mem_of_getElem? h)
  refine ⟨by simp, by simpa using h, fun i r hr => ?_, fun i u g hu hg => ?_, fun i j u1 u2 g _ hu hu2 hg => ?_⟩
  · have hi : i < n := by have := (List.getElem?_eq_some_iff.1 hr).1; simpa using this
    have : r = [] := List.eq_of_mem_replicate (List.mem_of_getElem? hr)
    subst this
    exact ⟨_, by rw [List.getElem?_replicate, if_pos hi], World.ownsRow_nil w base e1 1⟩
  · rw [at_ hu] at hg
    cases hg
  · rw [at_ hu] at hg
    cases hg
end
theorem tab_ord (ids : List Int) (l : List Ctx) : tabN (szG ids l) (clos (dirA ids (groupsG ids l) l) (szG ids l)) = ordOfG ids l := by
  unfold ordOfG
  cases hok : okG ids l
  · rw [szG_no hok]; rfl
  · rw [szG_ok hok, if_pos rfl]
    refine List.ext_getElem? fun i => ?_
    by_cases hi : i < ids.length
    · obtain ⟨a, ha⟩ : ∃ a, ids[i]? = some a := ⟨_, List.getElem?_eq_getElem hi⟩
      rw [tabN_row _ hi, ordG, List.getElem?_map, ha, Option.map_some]
      congr 1
      refine List.ext_getElem? fun j => ?_
      by_cases hj : j < ids.length
      · obtain ⟨b, hb⟩ : ∃ b, ids[j]? = some b := ⟨_, List.getElem?_eq_getElem hj⟩
        rw [rowN_at _ hj, List.getElem?_map, hb, Option.map_some, upA hok ha hb]
      · rw [List.getElem?_eq_none (by rw [rowN_len]; omega), List.getElem?_eq_none (by simp; omega)]
    · rw [List.getElem?_eq_none (by rw [tabN_len]; omega), List.getElem?_eq_none (by rw [ordG_len]; omega)]
set_option maxHeartbeats 4000000 in
set_option maxRecDepth 100000 in
theorem iOrderOf_any (A B : Option Addr) (ca cb : Nat) (ids : List Int) (l : List Ctx) (w : World) (ha : Reads w w.heap.size 1 A ids.length (cellsI ids)) (hb : Reads w w.heap.size 3 B l.length (cellsC l)) (hn : ids.length ≤ 1000000000) (hl : l.length ≤ 1000000000) :
    Calls Try.prog 28 #[.slice A ids.length ca, .slice B l.length cb] w (OrdPost w (ordOfG ids l)) := by
  have hab := iAboveR_any A B ca cb ids l w ha hb hn hl
  rw [← tab_ord]
  obtain ⟨n, hn0⟩ : ∃ n, n = szG ids l := ⟨_, rfl⟩
  have hn12 : n ≤ 12 := by rw [hn0]; exact szG_le ids l
  rw [← hn0] at hab ⊢
  obtain ⟨F, hF⟩ : ∃ F, F = clos (dirA ids (groupsG ids l) l) n := ⟨_, rfl⟩
  obtain ⟨ok, hok⟩ : ∃ ok, ok = okG ids l := ⟨_, rfl⟩
  rw [← hF, ← hok] at hab
  rw [← hF]
  clear hn0 hF hok ha hb
  obtain ⟨ib, hib, hbz, hbs, hbb'⟩ := info_parts infoBool
  obtain ⟨ir, hir, hrz, hrs, hrb⟩ := info_parts infoBools
  go_enter Try.func28, Try.ntmps28
  go_wp2_with fail
  refine hab.mono ?_
  rintro e w2 ⟨v2, rfl, hb2, ho2⟩
  obtain ⟨A2, c2, rfl, _, hr2⟩ := Reads.of_own ho2
  have hs2 := hb2.size
  have H2 := Lib.hid (And.intro hb2 hr2)
  clear hab hb2 ho2 hr2
  go_wp2_with (at_make
               go_must (refine wpList_make_full _ rfl (.tmp 18) (.tmp 18) _ rfl w2.heap.size 42 ir _ 1 Try.underlying40 hir hrz hrs _ _ _ _ n rfl rfl rfl rfl (by rw [hrb]; omega) (by simp only [maxLen]; omega) (Nat.le_refl _) ?_)
               intro w5 hown hg5)
  rw [zero_nils] at hown
  have hb5 : Below w2.heap.size w2 w5 := (Below.refl _ _).grown hg5 (Nat.le_refl _) (fun k hk => by cases hk)
  have hv5 : OwnV encB w5 w2.heap.size 4 42 (.slice (some ⟨w2.heap.size, 0, none⟩) n n) (List.replicate n (Value.slice none 0 0)) (List.replicate n []) := OwnV.nils hown
  have H5 := Lib.hid (And.intro hb5 hv5)
  have hTZ : (tabN n F).length = (List.replicate n ([] : List Bool)).length := by simp [tabN_len]
  have HT := Lib.hid hTZ
  clear hown hg5 hb5 hv5 hTZ
  go_loopw [22] (fun i wr => ∃ (k : Nat) (vs : List Value), k ≤ n ∧ i = .int .i64 k ∧ Below w2.heap.size w2 wr ∧ OwnV encB wr w2.heap.size 4 42 (.slice (some ⟨w2.heap.size, 0, none⟩) n n) vs (mixL (tabN n F) (List.replicate n []) k)) (fun i _ => n - (intOf i).toNat)
  case atStart => exact ⟨0, _, Nat.zero_le _, rfl, H5.out.1, by rw [mixL_zero]; exact H5.out.2⟩
  case round =>
    obtain ⟨k, vs, hk, rfl, hbl, hown⟩ := hrel
    have hsz := hbl.size
    by_cases hlt : k < n
    · have hlti : (k : Int) < (n : Int) := by omega
      obtain ⟨b, off, hA, hbb, hc⟩ := (H2.out.2.below hbl).rows (by omega)
      subst hA
      obtain ⟨x, hx⟩ : ∃ x, x = bitN n (F k) := ⟨_, rfl⟩
      have hx2 : x < 65536 := by rw [hx]; exact bitN_16 _ (by omega)
      have c1 := hc k x (by rw [rowsN_at _ hlt, hx])
      have hmk : (mixL (tabN n F) (List.replicate n []) k).length = n := by rw [mixL_len HT.out (by simp; omega)]; simp
      have hout := hown.out
      have hvl := hown.len
      rw [hmk] at hout hvl
      have hcz : wr.frozen? ⟨w2.heap.size, k, none⟩ = false := hout.frozenAt k
      obtain ⟨u0, hu0⟩ : ∃ u0, vs[k]? = some u0 := ⟨_, List.getElem?_eq_getElem (by omega)⟩
      have hc0 := (hout.cellAt k (by omega)).trans hu0
      have hol := (hout.lt _ rfl).2
      have HX := Lib.hid (And.intro hbl (And.intro hown (And.intro hx (And.intro hvl hmk))))
      clear hbl hown hx hout hu0 hvl hmk hc
      go_wp2_with (at_make
                   go_must (refine wpList_make_full _ rfl (.tmp 30) (.tmp 30) _ rfl wr.heap.size 4 ib _ 1 Try.underlying42 hib hbz hbs _ _ _ _ n rfl rfl rfl rfl (by rw [hbb']; omega) (by simp only [maxLen]; omega) (Nat.le_refl _) ?_)
                   intro w6 hnew hg6
                   rw [zero_bools] at hnew
                   have b6 : Below wr.heap.size wr w6 := (Below.refl _ _).grown hg6 (Nat.le_refl _) (fun k hk => by cases hk)
                   have f1 := (World.cell?_of_block (w := wr) (a := ⟨w2.heap.size, k, none⟩) (b6.block _ hol)).trans hc0
                   have f2 := (World.frozen?_of_block (w := wr) (a := ⟨w2.heap.size, k, none⟩) (b6.block _ hol)).trans hcz)
      have hp := (HX.out.2.1.below b6).put (r := rowN n fun _ => false) (u := .slice (some ⟨wr.heap.size, 0, none⟩) n n) (by rw [rowN_len]; exact own_less hnew hsz) (HX.out.2.1.fresh hnew (Nat.le_refl _)) k
      have b7 : Below w2.heap.size w2 (w6.setCell ⟨w2.heap.size, k, none⟩ (.slice (some ⟨wr.heap.size, 0, none⟩) n n)) := (below_step HX.out.1 b6).setCell (by simp) _
      have hz0 : (rowN n fun _ => false) = mixL (rowN n (F k)) (rowN n fun _ => false) 0 := (mixL_zero _ _).symm
      have hrl : (rowN n (F k)).length = (rowN n fun _ => false).length := by rw [rowN_len, rowN_len]
      have HP := Lib.hid (And.intro b7 (And.intro hp (And.intro hz0 hrl)))
      have hwl : wr.heap.size < w6.heap.size := (hnew.lt _ rfl).2
      clear hp b7 hz0 hrl hnew hg6 b6 f1 f2 hc0 hcz
      obtain ⟨vs2, hvs2⟩ : ∃ vs2, vs2 = vs.set k (.slice (some ⟨wr.heap.size, 0, none⟩) n n) := ⟨_, rfl⟩
      have hv2k : vs2[k]? = some (.slice (some ⟨wr.heap.size, 0, none⟩) n n) := by rw [hvs2, List.getElem?_set_self (by rw [HX.out.2.2.2.1]; exact hlt)]
      have HV := Lib.hid (And.intro hvs2 hv2k)
      clear hvs2 hv2k
      go_loopw [38] (fun i w3 => ∃ j0 : Nat, j0 ≤ n ∧ i = .int .i64 j0 ∧ Below w2.heap.size w2 w3 ∧ OwnV encB w3 w2.heap.size 4 42 (.slice (some ⟨w2.heap.size, 0, none⟩) n n) vs2 ((mixL (tabN n F) (List.replicate n []) k).set k (mixL (rowN n (F k)) (rowN n fun _ => false) j0))) (fun i _ => n - (intOf i).toNat)
      case atStart => exact ⟨0, Nat.zero_le _, rfl, HP.out.1, by rw [mixL_zero, HV.out.1]; exact HP.out.2.1⟩
      case round =>
        obtain ⟨j, hj, rfl, hbj, hoj⟩ := hrel
        by_cases hjj : j < n
        · have hjji : (j : Int) < (n : Int) := by omega
          have hLk : ((mixL (tabN n F) (List.replicate n []) k).set k (mixL (rowN n (F k)) (rowN n fun _ => false) j))[k]? = some (mixL (rowN n (F k)) (rowN n fun _ => false) j) := by rw [List.getElem?_set_self (by rw [HX.out.2.2.2.2]; exact hlt)]
          have hml : (mixL (rowN n (F k)) (rowN n fun _ => false) j).length = n := by rw [mixL_len HP.out.2.2.2 (by rw [rowN_len]; omega), rowN_len]
          have hmj : (mixL (rowN n (F k)) (rowN n fun _ => false) j)[j]? = some false := by rw [mixL_old HP.out.2.2.2 (Nat.le_refl _), rowN_at _ hjj]
          obtain ⟨g, cap, hg0, hg1, hg2, g1, g2⟩ := hoj.cell hLk hmj
          rw [HV.out.2] at hg0
          injection hg0 with hg0
          injection hg0 with e1 e2 e3
          clear e2
          injection e1 with e1
          injection e1 with e1 e4 e5
          clear e4 e5
          subst e1 e3
          simp only [encB] at g1
          have hout := hoj.out
          have hmk2 : ((mixL (tabN n F) (List.replicate n []) k).set k (mixL (rowN n (F k)) (rowN n fun _ => false) j)).length = n := by rw [List.length_set]; exact HX.out.2.2.2.2
          rw [hmk2] at hout
          have f3 := (hout.cellAt k (by omega)).trans HV.out.2
          obtain ⟨t, ht⟩ : ∃ t, t = F k j := ⟨_, rfl⟩
          have hht := fun (W : World) => has_to x j t hx2 (by omega) (by rw [HX.out.2.2.1, bitN_test, decide_eq_true hjj, ht]; rfl) W
          have HJ := Lib.hid (And.intro hbj (And.intro hoj (And.intro hLk (And.intro hml ht))))
          have HH := Lib.hid hht
          clear hbj hoj hLk hml hmj ht hht hout hmk2 c1 hib hbz hbs hbb' hir hrz hrs hrb
          go_wp2_with fail
          refine region_still_tail2 9 (by kernel_rfl) (by kernel_rfl) ?_
          intro W hW hz hbw
          simp only [List.take_succ_cons, List.take_zero, List.drop_succ_cons, List.drop_zero]
          repeat (first | still_step | still_call (HH.out _))
          refine wpStill_nil ?_
          have w1' := (World.cell?_of_block (hbw.block _ hg2)).trans g1
          have w2' := (World.frozen?_of_block (hbw.block _ hg2)).trans g2
          have HW := Lib.hid hbw
          clear hW hz hbw g1 g2 f3
          go_wp2_with fail
          go_roundw
          case rel =>
            have h9 := ((HJ.out.2.1.below HW.out).store (j := j) HJ.out.2.2.1 (by rw [HJ.out.2.2.2.1]; exact HV.out.2) t)
            rw [List.set_set, mixL_set HP.out.2.2.2 (by rw [rowN_at _ hjj, HJ.out.2.2.2.2])] at h9
            exact ⟨j + 1, by omega, by go_num, (below_step HJ.out.1 HW.out).setCell (by simpa using hg1) _, h9⟩
          case measure => simp [intOf]; omega
        · have hjn : j = n := by omega
          have HJ := Lib.hid (And.intro hjn (And.intro hbj hoj))
          clear hjn hbj hoj
          go_wp2_with fail
          go_roundw
          case rel =>
            obtain ⟨hjn, hbj, hoj⟩ := HJ.out
            have h9 := mixL_all HP.out.2.2.2
            rw [rowN_len] at h9
            rw [hjn, h9, mixL_set HT.out (tabN_row _ hlt)] at hoj
            exact ⟨k + 1, _, by omega, by go_num, hbj, hoj⟩
          case measure => simp [intOf]; omega
    · have hkn : k = n := by omega
      have HK := Lib.hid (And.intro hkn (And.intro hbl hown))
      clear hkn hbl hown
      go_wp2_with fail
      go_ret
      obtain ⟨hkn, hbl, hown⟩ := HK.out
      have h9 := mixL_all HT.out
      rw [List.length_replicate] at h9
      rw [hkn, h9] at hown
      exact ⟨_, vs, rfl, below_step H2.out.1 hbl, hown.less hs2⟩
end Go.Proofs.Ytjkjnicgbfpjiaa
