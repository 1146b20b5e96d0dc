/- What the model's circle is. -/
import Derived.Test.YtmcnjmflmpfjlaaDoorW1
import Derived.Test.YtmcnjmflmpfjlaaDoorV8
namespace Go.Proofs.YtmcnjmflmpfjlaaDoor
open Go.RowKit

set_option maxHeartbeats 4000000 in
set_option maxRecDepth 100000 in
theorem sCycle_any (A B : Option Addr) (ca cb : Nat) (ids : List Int) (l : List Ctx) (w : World) (ha : Reads w w.heap.size 1 A ids.length (cellsI ids)) (hb : Reads w w.heap.size 3 B l.length (cellsC l)) (hn : ids.length ≤ 1000000000) (hl : l.length ≤ 1000000000) :
    Calls Tryd.prog 6 #[.slice A ids.length ca, .slice B l.length cb] w (IntsPost w (cycG ids l)) := by
  obtain ⟨j0, hj0, jz0, jz1, jz2⟩ := info_parts infoInt
  have b1 : Below w.heap.size w (w.alloc (.cells #[] 3)) := (Below.refl _ _).alloc (Nat.le_refl _) _
  have o1 : (w.alloc (.cells #[] 3)).ownsRow w.heap.size 3 1 (.slice (some ⟨w.heap.size, 0, none⟩) 0 0) 0 [] := own_empty (Nat.le_refl _) rfl
  have hok0 := sOk_any A B ca cb ids l _ (ha.step b1) (hb.step b1) (by omega) (by omega)
  cases hok : okG ids l
  · rw [hok] at hok0
    have hcy : cycG ids l = [] := by unfold cycG; rw [szG_no hok, cycP_nil]; rfl
    rw [hcy]
    have H1 := Lib.hid (And.intro b1 o1)
    clear b1 o1 ha hb hcy
    go_enter Tryd.func6, Tryd.ntmps6
    go_wp2_with (go_at_call 14; go_must (refine hok0.mono ?_); rintro e w2 ⟨rfl, k2⟩)
    go_ret
    exact ⟨_, rfl, below_step H1.out.1 k2, own_below H1.out.2 k2⟩
  · rw [hok] at hok0
    have hcy : cycG ids l = idsAt ids (cycP (dirG ids (groupsG ids l) l) ids.length ids.length) := by unfold cycG; rw [szG_ok hok]
    rw [hcy]
    have hn12 : ids.length ≤ 12 := validO_len (okG_parts hok).1
    have hdi := fun (W : World) (hW : Below w.heap.size w W) => sDirect_any A B ca cb ids l W (ha.step hW) (hb.step hW) hok
    have hFin := dirG_in hok
    obtain ⟨F, hF⟩ : ∃ F, F = dirG ids (groupsG ids l) l := ⟨_, rfl⟩
    rw [← hF] at hdi hFin ⊢
    have H1 := Lib.hid (And.intro b1 (And.intro o1 (And.intro ha (And.intro hdi hFin))))
    clear b1 o1 ha hb hcy hdi hFin hF hok
    go_enter Tryd.func6, Tryd.ntmps6
    go_wp2_with (go_at_call 14; go_must (refine hok0.mono ?_); rintro e w2 ⟨rfl, k2⟩)
    have j2 := below_step H1.out.1 k2
    refine (H1.out.2.2.2.1 w2 j2).mono ?_
    rintro e w3 ⟨v3, vs3, rfl, hb3, ho3⟩
    obtain ⟨A3, c3, hv3, _, hm3⟩ := ho3.nest
    rw [tabN_len] at hm3 hv3
    subst hv3
    have j3 := below_step j2 hb3
    have H3 := Lib.hid (And.intro j3 (And.intro hm3 (own_below H1.out.2.1 (below_step k2 hb3))))
    have hs3 := j3.size
    clear hok0 k2 j2 hb3 ho3 hm3 j3
    go_wp2_with fail
    go_loopw [5, 7] (fun v i wr => ∃ (k : Nat) (p : List Nat), k ≤ ids.length ∧ i = .int .i64 k ∧ Below w3.heap.size w3 wr ∧ p = cycP F ids.length k ∧ wr.ownsRow w.heap.size 3 1 v p.length (p.map encN)) (fun _ i _ => ids.length - (intOf i).toNat)
    case atStart => exact ⟨0, [], Nat.zero_le _, rfl, Below.refl _ _, rfl, H3.out.2.2⟩
    case round =>
      obtain ⟨k, p, hk, rfl, hbl, hp, hown⟩ := hrel
      obtain ⟨wA, rfl⟩ : ∃ wA, wA = wr := ⟨wr, rfl⟩
      have hsz := hbl.size
      obtain ⟨Ap, cp, hvp, hcp, hrp⟩ := Reads.of_own hown
      subst hvp
      by_cases hlt : k < ids.length
      · have hlti : (k : Int) < (ids.length : Int) := by omega
        have hth := sWalk_any A3 c3 ids.length k F wA (H3.out.2.1.step hbl) hn12 hlt H1.out.2.2.2.2
        have hnx := cycP_next F ids.length k
        rw [← hp] at hnx
        obtain ⟨q, hq⟩ : ∃ q, q = walkP F ids.length k := ⟨_, rfl⟩
        rw [← hq] at hth hnx
        have HP := Lib.hid (And.intro hbl (And.intro hown (And.intro hp hnx)))
        clear hbl hown hp hnx hrp hq
        go_wp2_with fail
        refine hth.mono ?_
        rintro e w5 ⟨v5, rfl, hb5, ho5⟩
        obtain ⟨A5, c5, hv5, _, _⟩ := Reads.of_own ho5
        subst hv5
        have H5 := Lib.hid (And.intro hb5 ho5)
        clear hth hb5 ho5
        have hwA : w.heap.size ≤ wA.heap.size := by omega
        by_cases hc : (decide (0 < q.length) && (decide (p.length = 0) || decide (q.length < p.length))) = true
        · have hbe : betterC p q = q := by unfold betterC; rw [if_pos hc]
          simp only [Bool.and_eq_true, Bool.or_eq_true, decide_eq_true_eq] at hc
          have e1 : decide ((0 : Int) < (q.length : Int)) = true := decide_eq_true (by omega)
          have e1' : decide (0 < q.length) = true := decide_eq_true (by omega)
          have HB := Lib.hid hbe
          clear hbe
          by_cases hp0 : p.length = 0
          · have e2 : ((p.length : Int) == 0) = true := by rw [beq_iff_eq]; omega
            clear hc hp0
            go_wp2_with fail
            go_roundw
            case rel => exact ⟨k + 1, q, by omega, by go_num, below_step HP.out.1 H5.out.1, by rw [HP.out.2.2.2, HB.out], own_less H5.out.2 hwA⟩
            case measure => simp [intOf]; omega
          · have e2 : ((p.length : Int) == 0) = false := by rw [beq_eq_false_iff_ne]; omega
            have e3 : decide ((q.length : Int) < (p.length : Int)) = true := decide_eq_true (by omega)
            have e3' : decide (q.length < p.length) = true := decide_eq_true (by omega)
            clear hc hp0
            go_wp2_with fail
            go_roundw
            case rel => exact ⟨k + 1, q, by omega, by go_num, below_step HP.out.1 H5.out.1, by rw [HP.out.2.2.2, HB.out], own_less H5.out.2 hwA⟩
            case measure => simp [intOf]; omega
        · have hbe : betterC p q = p := by unfold betterC; rw [if_neg hc]
          have HB := Lib.hid hbe
          clear hbe
          by_cases hq0 : q.length = 0
          · have e1 : decide ((0 : Int) < (q.length : Int)) = false := decide_eq_false (by omega)
            have e1' : decide (0 < q.length) = false := decide_eq_false (by omega)
            clear hc hq0
            go_wp2_with fail
            go_roundw
            case rel => exact ⟨k + 1, p, by omega, by go_num, below_step HP.out.1 H5.out.1, by rw [HP.out.2.2.2, HB.out], own_below HP.out.2.1 H5.out.1⟩
            case measure => simp [intOf]; omega
          · have e1 : decide ((0 : Int) < (q.length : Int)) = true := decide_eq_true (by omega)
            have e1' : decide (0 < q.length) = true := decide_eq_true (by omega)
            rw [e1', Bool.true_and, Bool.not_eq_true, Bool.or_eq_false_iff] at hc
            have e2 : ((p.length : Int) == 0) = false := by have h9 := decide_eq_false_iff_not.1 hc.1; rw [beq_eq_false_iff_ne]; omega
            have e3 : decide ((q.length : Int) < (p.length : Int)) = false := by have h9 := decide_eq_false_iff_not.1 hc.2; exact decide_eq_false (by omega)
            have e3' : decide (q.length < p.length) = false := hc.2
            clear hc hq0
            go_wp2_with fail
            go_roundw
            case rel => exact ⟨k + 1, p, by omega, by go_num, below_step HP.out.1 H5.out.1, by rw [HP.out.2.2.2, HB.out], own_below HP.out.2.1 H5.out.1⟩
            case measure => simp [intOf]; omega
      · have hkn : k = ids.length := by omega
        rw [hkn] at hp
        obtain ⟨hpl, hpx⟩ := cycP_small H1.out.2.2.2.2
        rw [← hp] at hpl hpx
        have o5 : (wA.alloc (.cells #[] 3)).ownsRow wA.heap.size 3 1 (.slice (some ⟨wA.heap.size, 0, none⟩) 0 0) 0 [] := own_empty (Nat.le_refl _) rfl
        have b5 : Below wA.heap.size wA (wA.alloc (.cells #[] 3)) := (Below.refl _ _).alloc (Nat.le_refl _) _
        have HP := Lib.hid (And.intro hbl (And.intro hrp (And.intro hp (And.intro hpx (And.intro o5 b5)))))
        have hpl13 : p.length ≤ 12 := by omega
        clear hbl hown hp hrp hpx hkn o5 b5
        go_wp2_with fail
        go_loopw [9, 10] (fun v i w6 => ∃ k : Nat, k ≤ p.length ∧ i = .int .i64 k ∧ Below wA.heap.size wA w6 ∧ w6.ownsRow wA.heap.size 3 1 v k (cellsI (idsAt ids (p.take k)))) (fun _ i _ => p.length - (intOf i).toNat)
        case atStart => exact ⟨0, Nat.zero_le _, rfl, HP.out.2.2.2.2.2, HP.out.2.2.2.2.1⟩
        case round =>
          obtain ⟨j, hj, rfl, hb6, ho6⟩ := hrel
          have hsz6 := hb6.size
          by_cases hjp : j < p.length
          · have hjpi : (j : Int) < (p.length : Int) := by omega
            obtain ⟨x, hx⟩ : ∃ x, p[j]? = some x := ⟨_, List.getElem?_eq_getElem hjp⟩
            have hxn := HP.out.2.2.2.1 x (List.mem_of_getElem? hx)
            obtain ⟨y, hy⟩ : ∃ y, ids[x]? = some y := ⟨_, List.getElem?_eq_getElem hxn⟩
            obtain ⟨b, off, hA, hbb, f1⟩ := Reads.cellE (HP.out.2.1.below hb6) hx
            simp only [encN] at f1
            have k6 := below_step (below_step H3.out.1 HP.out.1) hb6
            obtain ⟨b1, o1, hA1, hbb1, hc1⟩ := (H1.out.2.2.1.below k6).ints (by omega)
            have f2 := hc1 x _ hy
            have hxi : (x : Int) < (ids.length : Int) := by omega
            have hXj : idsAt ids (p.take (j + 1)) = idsAt ids (p.take j) ++ [y] := by
              unfold idsAt
              rw [List.take_add_one, hx, List.map_append]
              simp [hy]
            have HJ := Lib.hid (And.intro hb6 (And.intro ho6 hXj))
            subst hA hA1
            clear hx hy hc1 hXj hb6 ho6 k6
            go_wp2_with (at_builtin
                         go_must (refine wpList_append_reads _ rfl (.tmp 52) (.tmp 60) _ rfl wA.heap.size 3 j0 _ 1 8 Tryd.underlying23 hj0 jz0 jz1 jz2 rfl (by omega) _ j _ rfl (HJ.out.2.1.alloc _) (wr.heap.size + 1) _ 1 1 (cellsI [y]) rfl (reads_int (by omega)) (cellsI_one _) (by simp only [maxLen]; omega) (by omega) (by simp; omega) ?_)
                         intro v8 w8 hown8 hg8 hat8)
            go_roundw
            case rel =>
              have b8 := app_below HJ.out.2.1 (Nat.le_refl _) hsz6 hg8
              refine ⟨j + 1, by omega, by go_num, HJ.out.1.trans b8, ?_⟩
              rw [HJ.out.2.2, cellsI_append]
              exact hown8
            case measure => simp [intOf]; omega
          · have hjl : j = p.length := by omega
            have HJ := Lib.hid (And.intro hjl (And.intro hb6 ho6))
            clear hjl hb6 ho6
            go_wp2_with fail
            go_ret
            obtain ⟨hjl, hb6, ho6⟩ := HJ.out
            rw [hjl, List.take_length] at ho6
            refine ⟨_, rfl, below_step (below_step H3.out.1 HP.out.1) hb6, ?_⟩
            rw [← HP.out.2.2.1, show (idsAt ids p).length = p.length from by simp [idsAt]]
            exact own_less ho6 (by omega)
end Go.Proofs.YtmcnjmflmpfjlaaDoor
