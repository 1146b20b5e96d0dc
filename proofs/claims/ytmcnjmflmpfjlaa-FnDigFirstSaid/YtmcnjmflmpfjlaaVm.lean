/- Whether the model finds an order of digging valid. -/
import Derived.Test.YtmcnjmflmpfjlaaFm
import Derived.Test.YtmcnjmflmpfjlaaUu
namespace Go.Proofs.Ytmcnjmflmpfjlaa
open Go.RowKit

/-- The order of the places of a list of numbers. -/
def ordF (ids : List Int) (l : List Ctx) (i j : Nat) : Bool := decide (i < ids.length) && (decide (j < ids.length) && upG ids l (ids.getD i 0) (ids.getD j 0))
theorem ordF_tab (ids : List Int) (l : List Ctx) : tabN ids.length (ordF ids l) = ordG ids l := by
  have key : ∀ {β : Type} (g : Int → β), ids.map g = (List.range ids.length).map fun i => g (ids.getD i 0) := by
    intro β g
    refine List.ext_getElem? fun i => ?_
    by_cases hi : i < ids.length
    · simp [hi]
    · simp [hi]
  unfold ordG tabN
  rw [key]
  refine List.map_congr_left fun i hi => ?_
  rw [key]
  refine List.map_congr_left fun j hj => ?_
  simp [ordF, List.mem_range.1 hi, List.mem_range.1 hj]
theorem ordF_in {ids : List Int} {l : List Ctx} {i j : Nat} (h : ordF ids l i j = true) : i < ids.length ∧ j < ids.length ∧ upG ids l (ids.getD i 0) (ids.getD j 0) = true := by
  simpa [ordF] using h
theorem ordF_irr {ids : List Int} {l : List Ctx} (h : ordOkG ids l = true) (i : Nat) : ordF ids l i i = false := by
  rw [← Bool.not_eq_true]
  intro hf
  obtain ⟨h1, _, h3⟩ := ordF_in hf
  unfold ordOkG at h
  have h4 := List.all_eq_true.1 (Bool.and_eq_true_iff.1 h).2 (ids.getD i 0) (by simp [h1])
  rw [h3] at h4
  exact absurd h4 (by simp)
theorem ordF_tr {ids : List Int} {l : List Ctx} (h : okG ids l = true) (i j k : Nat) (h1 : ordF ids l i j = true) (h2 : ordF ids l j k = true) : ordF ids l i k = true := by
  obtain ⟨a1, a2, a3⟩ := ordF_in h1
  obtain ⟨b1, b2, b3⟩ := ordF_in h2
  have h3 := upG_trans h a3 b3
  simp only [ordF, a1, b2, h3, decide_true, Bool.true_and]
/-- Whether each number's place is free when its turn comes. -/
def digI (f : Nat → Nat → Bool) (ids : List Int) : (Nat → Bool) → List Int → Bool
  | _, [] => true
  | d, x :: xs => decide (x ∈ ids) && (freeB f ids.length d (placeI ids x) && digI f ids (dugB d (placeI ids x)) xs)
def dOf (ids xs : List Int) : Nat → Bool := xs.foldl (fun d x => dugB d (placeI ids x)) fun _ => false
def digOkG (ids : List Int) (l : List Ctx) (order : List Int) : Bool := ordOkG ids l && (decide (order.length = ids.length) && digI (ordF ids l) ids (fun _ => false) order)
theorem dOf_next {ids xs : List Int} {k : Nat} {x : Int} (h : xs[k]? = some x) : dOf ids (xs.take (k + 1)) = dugB (dOf ids (xs.take k)) (placeI ids x) := by
  unfold dOf
  rw [List.take_add_one, h, List.foldl_append]
  rfl
theorem drop_next {xs : List Int} {k : Nat} {x : Int} (h : xs[k]? = some x) : xs.drop k = x :: xs.drop (k + 1) := by
  obtain ⟨hk, e⟩ := List.getElem?_eq_some_iff.1 h
  rw [List.drop_eq_getElem_cons hk, e]
theorem row_dug {n at_ : Nat} (d : Nat → Bool) : ((rowN n d).map encB).set at_ (.bool true) = (rowN n (dugB d at_)).map encB := by
  rw [show (Value.bool true) = encB true from rfl, ← List.map_set, rowN_set]
  congr 1
  refine rowN_congr fun j _ => ?_
  unfold dugB
  by_cases h : j = at_ <;> simp [h]
set_option maxHeartbeats 3200000 in
set_option maxRecDepth 100000 in
theorem sDigValid_any (A B S : Option Addr) (ca cb cs : Nat) (ids : List Int) (l : List Ctx) (order : List Int) (w : World) (ha : Reads w w.heap.size 1 A ids.length (cellsI ids)) (hb : Reads w w.heap.size 3 B l.length (cellsC l)) (hs : Reads w w.heap.size 1 S order.length (cellsI order)) (hn : ids.length ≤ 1000000000) (hl : l.length ≤ 1000000000) :
    Calls Try.prog 36 #[.slice A ids.length ca, .slice B l.length cb, .slice S order.length cs] w fun e w2 => e = .returned (.bool (digOkG ids l order)) ∧ Below w.heap.size w w2 := by
  have hv := sOrdValid_any A B ca cb ids l w ha hb hn hl
  obtain ⟨o, ho⟩ : ∃ o, ordOkG ids l = o := ⟨_, rfl⟩
  rw [ho] at hv
  cases o
  · have HV := Lib.hid hv
    clear hv
    go_enter Try.func36, Try.ntmps36
    go_wp2_with (go_at_call 52; go_must (refine HV.out.mono ?_); rintro e w2 ⟨rfl, k2⟩)
    go_ret
    exact ⟨ret_bool (by simp [digOkG, ho]), k2⟩
  · by_cases hlen : order.length = ids.length
    · have hok : okG ids l = true := by
        unfold ordOkG at ho
        exact (Bool.and_eq_true_iff.1 ho).1
      have hnn : ids.length ≤ 12 := validO_len (okG_parts hok).1
      rw [hlen] at hs ⊢
      obtain ⟨ib, hib, hbz, hbs, hbb⟩ := info_parts infoBool
      have HV := Lib.hid hv
      have HR := Lib.hid (And.intro ha (And.intro hb hs))
      have HO := Lib.hid (And.intro ho (And.intro hlen hok))
      clear hv ha hb hs ho hok hlen
      go_enter Try.func36, Try.ntmps36
      go_wp2_with (first
        | (go_at_call 52; go_must (refine HV.out.mono ?_); rintro e w2 ⟨rfl, k2⟩)
        | (go_at_call 76; go_must (refine (sOrder_any A B ca cb ids l _ (HR.out.1.step k2) (HR.out.2.1.step k2) HO.out.2.2).mono ?_); rintro e w3 ⟨v3, vs3, rfl, k3, ho3⟩
           obtain ⟨A3, c3, rfl, _, hm3⟩ := ho3.nest
           rw [ordG_len] at hm3
           rw [ordG_len])
        | (at_make
           go_must (refine wpList_make_full _ rfl (.tmp 26) (.tmp 26) _ rfl w3.heap.size 4 ib _ 1 Try.underlying85 hib hbz hbs _ _ _ _ ids.length rfl rfl rfl rfl (by rw [hbb]; omega) (by simp only [maxLen]; omega) (Nat.le_refl _) ?_)
           intro w5 hnew hg5
           rw [zero_bools] at hnew))
      have hb5 : Below w3.heap.size w3 w5 := (Below.refl _ _).grown hg5 (Nat.le_refl _) (fun k hk => by cases hk)
      rw [← ordF_tab] at hm3
      have H5 := Lib.hid (And.intro (below_step k2 k3) (And.intro hb5 (And.intro hnew hm3)))
      clear hb5 hnew hm3 ho3 hg5
      go_loopw [9] (fun i wr => ∃ k : Nat, k ≤ ids.length ∧ i = .int .i64 k ∧ Below w3.heap.size w3 wr ∧ wr.ownsRow w3.heap.size 4 1 (.slice (some ⟨w3.heap.size, 0, none⟩) ids.length ids.length) ids.length ((rowN ids.length (dOf ids (order.take k))).map encB) ∧ digI (ordF ids l) ids (fun _ => false) order = digI (ordF ids l) ids (dOf ids (order.take k)) (order.drop k)) (fun i _ => ids.length - (intOf i).toNat)
      case atStart => exact ⟨0, Nat.zero_le _, rfl, H5.out.2.1, H5.out.2.2.1, rfl⟩
      case round =>
        obtain ⟨k, hk, rfl, hbl, hown, hdg⟩ := hrel
        obtain ⟨wA, rfl⟩ : ∃ wA, wA = wr := ⟨wr, rfl⟩
        have hsz := hbl.size
        by_cases hlt : k < ids.length
        · have hki : (k : Int) < (ids.length : Int) := by omega
          obtain ⟨x, hx⟩ : ∃ x, order[k]? = some x := ⟨_, List.getElem?_eq_getElem (by have := HO.out.2.1; omega)⟩
          have hbw := below_step H5.out.1 hbl
          obtain ⟨b3, off3, hA4, hbb3, hc3⟩ := (HR.out.2.2.below hbw).ints (by omega)
          subst hA4
          have f0 := hc3 k _ hx
          have hdn := dOf_next (ids := ids) hx
          rw [drop_next hx, digI] at hdg
          have hra := HR.out.1.step hbw
          have hrd := own_reads hown
          have hm := H5.out.2.2.2.step hbl
          by_cases hin : x ∈ ids
          · obtain ⟨hp1, hp2, hp3⟩ := placeI_at hin
            obtain ⟨p, hp⟩ : ∃ p, p = placeI ids x := ⟨_, rfl⟩
            rw [← hp] at hp1 hp2 hp3 hdn hdg
            rw [decide_eq_true hin, Bool.true_and] at hdg
            have hfr := sFree_any A3 (some ⟨w3.heap.size, 0, none⟩) c3 ids.length ids.length p (ordF ids l) (dOf ids (order.take k)) wA hm hrd hnn hp2
            have hpx := sPlace_to A ca ids x p wA hra (by omega) hp1
            obtain ⟨q, hq⟩ : ∃ q, freeB (ordF ids l) ids.length (dOf ids (order.take k)) p = q := ⟨_, rfl⟩
            rw [hq] at hfr hdg
            have hpn : (p : Int) < (ids.length : Int) := by omega
            have hpos : decide ((p : Int) < 0) = false := by simp
            have HX := Lib.hid (And.intro hbl (And.intro hown (And.intro hdn (And.intro hdg (And.intro hfr hpx)))))
            obtain ⟨bd, od, hAd, hbd, g1⟩ := Reads.cellE (by rw [rowN_len]; exact hrd : Reads wA wA.heap.size 1 (some ⟨w3.heap.size, 0, none⟩) (rowN ids.length (dOf ids (order.take k))).length ((rowN ids.length (dOf ids (order.take k))).map encB)) (rowN_at (dOf ids (order.take k)) hp2)
            injection hAd with hAd
            injection hAd with e1 e2 e3
            subst e1 e2
            rw [Nat.zero_add] at g1
            simp only [encB] at g1
            have g2 := hown.frozenAt p
            clear hbl hown hdn hdg hfr hpx hq hx hc3 hra hrd hm hin hp hp1 hp3 hbw
            cases q
            · go_wp2_with (first
                | (go_at_call 79; go_must (refine HX.out.2.2.2.2.2.mono ?_); rintro e w6 ⟨rfl, rfl⟩)
                | (go_at_call 77; go_must (refine HX.out.2.2.2.2.1.mono ?_); rintro e w6 ⟨rfl, rfl⟩))
              go_ret
              exact ⟨ret_bool (by simp [digOkG, HX.out.2.2.2.1]), below_step H5.out.1 HX.out.1⟩
            · go_wp2_with (first
                | (go_at_call 79; go_must (refine HX.out.2.2.2.2.2.mono ?_); rintro e w6 ⟨rfl, rfl⟩)
                | (go_at_call 77; go_must (refine HX.out.2.2.2.2.1.mono ?_); rintro e w6 ⟨rfl, rfl⟩))
              go_roundw
              case rel =>
                refine ⟨k + 1, by omega, by go_num, HX.out.1.setCell (Nat.le_refl _) _, ?_, ?_⟩
                · have h1 := (HX.out.2.1.stored p (.bool true)).1
                  rw [row_dug] at h1
                  rw [HX.out.2.2.1]
                  exact h1
                · rw [HX.out.2.2.2.1, HX.out.2.2.1, Bool.true_and]
              case measure => simp [intOf]; omega
          · have hpx := sPlace_any A ca ids x wA hra (by omega)
            have hfn := findI_mem ids x
            rw [decide_eq_false hin] at hfn hdg
            obtain ⟨z, hz⟩ : ∃ z, findI ids x = z := ⟨_, rfl⟩
            rw [hz] at hpx hfn
            have hz0 : z < 0 := by have := of_decide_eq_false hfn; omega
            have HX := Lib.hid (And.intro hbl (And.intro hdg hpx))
            clear hbl hown hdn hdg hpx hx hc3 hra hrd hm hin hz hfn hbw
            go_wp2_with (go_at_call 79; go_must (refine HX.out.2.2.mono ?_); rintro e w6 ⟨rfl, rfl⟩)
            go_ret
            exact ⟨ret_bool (by simp [digOkG, HX.out.2.1]), below_step H5.out.1 HX.out.1⟩
        · have hke : k = order.length := by have := HO.out.2.1; omega
          have HX := Lib.hid (And.intro hbl (And.intro hdg hke))
          clear hbl hown hdg hke
          go_wp2_with fail
          go_ret
          refine ⟨ret_bool ?_, below_step H5.out.1 HX.out.1⟩
          have h1 := HX.out.2.1
          rw [HX.out.2.2, List.drop_length, digI] at h1
          simp [digOkG, HO.out.1, HO.out.2.1, h1]
    · have hne : ((order.length : Int) != (ids.length : Int)) = true := by rw [bne_iff_ne]; omega
      have HV := Lib.hid (And.intro hv hlen)
      clear hv hlen
      go_enter Try.func36, Try.ntmps36
      go_wp2_with (go_at_call 52; go_must (refine HV.out.1.mono ?_); rintro e w2 ⟨rfl, k2⟩)
      go_ret
      exact ⟨ret_bool (by simp [digOkG, HV.out.2]), k2⟩
end Go.Proofs.Ytmcnjmflmpfjlaa
