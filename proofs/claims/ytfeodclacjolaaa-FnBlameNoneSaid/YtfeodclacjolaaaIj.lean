/- Whether the program finds that years fit. -/
import Derived.Test.YtfeodclacjolaaaIh
import Derived.Test.YtfeodclacjolaaaKk
namespace Go.Proofs.Ytfeodclacjolaaa
open Go.RowKit

section
variable {ids : List Int} {l B : List Ctx} {Y : List Int}
/-- Years that fit what is told directly fit what follows from it. -/
theorem fit_near (ha : argsD ids l B = true) (hl : Y.length = ids.length) (h : ∀ (i : Nat) (y : Int), i < ids.length → Y[i]? = some y → inR y (loP ids B i) (hiP ids B i) = true ∧ ∀ (j : Nat) (z : Int), j < ids.length → Y[j]? = some z → (sameQ ids l i j = true → y = z) ∧ (dirQ ids l i j = true → z ≤ y)) : fitD ids l B Y = true := by
  have hok := ordOk_okG (argsD_parts ha).1
  have hat : ∀ {i : Nat}, i < ids.length → Y[i]? = some (Y.getD i 0) := fun hi => by simp [hl, hi]
  refine fit_good ha hl fun i y hy => ?_
  have hi : i < ids.length := by have := (List.getElem?_eq_some_iff.1 hy).1; omega
  refine ⟨(h i y hi hy).1, fun j z hz hJ => ?_⟩
  have hj : j < ids.length := by have := (List.getElem?_eq_some_iff.1 hz).1; omega
  rw [joinK_at hi hj] at hJ
  have e1 : y = Y.getD i 0 := by have := hat hi; rw [hy] at this; injection this
  have e2 : z = Y.getD j 0 := by have := hat hj; rw [hz] at this; injection this
  rw [e1, e2]
  rcases joinJ_iff.1 hJ with h4 | h4
  · rw [← clos_ord hok hi hj] at h4
    refine clos_least (f := dirQ ids l) (T := fun i j => Y.getD j 0 ≤ Y.getD i 0) (fun i j hd => ?_) (fun i j k b1 b2 => Int.le_trans b2 b1) h4
    obtain ⟨g1, g2, _⟩ := dir_ord hok hd
    exact ((h i _ g1 (hat g1)).2 j _ g2 (hat g2)).2 hd
  · have h5 : sameQ ids l i j = true := by simp only [sameQ, decide_eq_true_eq]; exact h4
    exact Int.le_of_eq (((h i _ hi (hat hi)).2 j _ hj (hat hj)).1 h5).symm
theorem bounds_some {i : Nat} {x : Int} (hx : ids[i]? = some x) (h : boundsOkG B x = true) : boundsLowG B x = loP ids B i ∧ boundsHighG B x = hiP ids B i := by
  have e : ids.getD i 0 = x := by rw [List.getD_eq_getElem?_getD, hx]; rfl
  rw [boundsLowG, boundsHighG, if_pos h, if_pos h, loP, hiP, e]
  exact ⟨rfl, rfl⟩
theorem bounds_none {i : Nat} {x y : Int} (ha : argsD ids l B = true) (hx : ids[i]? = some x) (h : boundsOkG B x = false) : inR y (loP ids B i) (hiP ids B i) = false := by
  obtain ⟨a1, a2, _⟩ := argsD_parts ha
  have e : ids.getD i 0 = x := by rw [List.getD_eq_getElem?_getD, hx]; rfl
  have hv := (okG_parts (ordOk_okG a1)).1
  have hin : inR x 1 99 = true := by
    have := validO_ok hv
    exact this x (List.mem_of_getElem? hx)
  simp only [boundsOkG, a2, hin, Bool.true_and, decide_eq_false_iff_not] at h
  rw [loP, hiP, e]
  simp only [inR, Bool.and_eq_false_iff, decide_eq_false_iff_not]
  omega
end
set_option maxHeartbeats 4000000 in
set_option maxRecDepth 100000 in
theorem iDatesFit_any (A B C D : Option Addr) (ca cb cc cd : Nat) (ids : List Int) (l bs : List Ctx) (Y : List Int) (w : World) (ha : Reads w w.heap.size 1 A ids.length (cellsI ids)) (hb : Reads w w.heap.size 3 B l.length (cellsC l)) (hc : Reads w w.heap.size 3 C bs.length (cellsC bs))
    (hd : Reads w w.heap.size 1 D Y.length (cellsI Y)) (hn : ids.length ≤ 1000000000) (hl : l.length ≤ 1000000000) (hm : bs.length ≤ 1000000000) (_ : Y.length ≤ 1000000000) :
    Calls Try.prog 19 #[.slice A ids.length ca, .slice B l.length cb, .slice C bs.length cc, .slice D Y.length cd] w fun e w2 => e = .returned (.bool (fitD ids l bs Y)) ∧ Below w.heap.size w w2 := by
  cases hA : argsD ids l bs
  · have hO := Lib.hid (qOrd_no (ca := ca) (cb := cb) (cc := cc) hA ha hb hc hn hl hm)
    have HA := Lib.hid (fit_args (Y := Y) hA)
    clear hA ha hb hc hd
    go_enter Try.func19, Try.ntmps19
    go_wp2_with (go_at_call 59; go_must (refine hO.out.mono ?_); rintro e w2 ⟨rfl, b2⟩)
    go_ret
    exact ⟨ret_bool HA.out.symm, b2.alloc b2.size _⟩
  · have hO := Lib.hid (qOrd_yes (ca := ca) (cb := cb) (cc := cc) hA ha hb hc hn hl hm)
    by_cases hlen : Y.length = ids.length
    · have hn12 : ids.length ≤ 12 := validO_len (okG_parts (ordOk_okG (argsD_parts hA).1)).1
      rw [hlen] at hd ⊢
      have HR := Lib.hid (And.intro ha (And.intro hc (And.intro hd (And.intro hA hlen))))
      clear hA ha hb hc hd hlen
      go_enter Try.func19, Try.ntmps19
      go_wp2_with (go_at_call 59; go_must (refine hO.out.mono ?_); rintro e w2 ⟨b2, A2, c2, A3, c3, rfl, rg, rf⟩)
      obtain ⟨W2, hW2⟩ : ∃ W2, W2 = w2.alloc (.cells #[.slice A ids.length ca, .slice A2 ids.length c2, .slice A3 ids.length c3] 78) := ⟨_, rfl⟩
      have bA : Below w2.heap.size w2 W2 := by rw [hW2]; exact (Below.refl w2.heap.size w2).alloc (Nat.le_refl _) _
      have hs2 : w2.heap.size < W2.heap.size := by rw [hW2]; simp
      have hz : W2.heap[w2.heap.size]? = some (.cells #[.slice A ids.length ca, .slice A2 ids.length c2, .slice A3 ids.length c3] 78 (0, 0)) := by rw [hW2]; exact heap_alloc_new _ _
      have hb2 := below_step b2 bA
      have hE : ∀ (W : World) (i j : Nat), Below W2.heap.size W2 W → i < ids.length → j < ids.length → Calls Try.prog 61 #[.agg #[.slice A ids.length ca, .slice A2 ids.length c2, .slice A3 ids.length c3], .int .i64 (i : Int), .int .i64 (j : Int)] W fun e w2 => e = .returned (.bool (sameQ ids l i j)) ∧ Below W.heap.size W w2 := fun W i j hW hi hj => by
        have hG := groupsG_len ids l
        have h1 := dEqual_any A A2 A3 ids.length ca c2 ids.length c3 (groupsG ids l) i j W (by rw [hG]; exact (rg.step bA).step hW) (by omega) (by omega)
        rw [hG] at h1
        exact h1
      have hF : ∀ (W : World) (i j : Nat), Below W2.heap.size W2 W → i < ids.length → j < ids.length → Calls Try.prog 62 #[.agg #[.slice A ids.length ca, .slice A2 ids.length c2, .slice A3 ids.length c3], .int .i64 (i : Int), .int .i64 (j : Int)] W fun e w2 => e = .returned (.bool (dirQ ids l i j)) ∧ Below W.heap.size W w2 := fun W i j hW hi hj =>
        dAbove_any A A2 A3 ids.length ca ids.length c2 c3 ids.length (dirQ ids l) i j W ((rf.step bA).step hW) hn12 hi hj
      have hB : ∀ (W : World) (x : Int), Below W2.heap.size W2 W → Calls Try.prog 27 #[.slice C bs.length cc, .int .i64 x] W fun e w2 => e = .returned (.tuple #[.int .i64 (boundsLowG bs x), .int .i64 (boundsHighG bs x), .bool (boundsOkG bs x)]) ∧ Below W.heap.size W w2 := fun W x hW =>
        iBoundsOf_any C cc bs x W (HR.out.2.1.step (below_step hb2 hW)) (by omega)
      have HC := Lib.hid (And.intro hE (And.intro hF (And.intro hB (And.intro hz hb2))))
      rw [← hW2]
      clear hE hF hB hz hb2 hW2 bA rg rf b2
      go_loopw [36] (fun i wr => ∃ k : Nat, k ≤ ids.length ∧ i = .int .i64 k ∧ Below W2.heap.size W2 wr ∧ ∀ (i : Nat) (y : Int), i < k → Y[i]? = some y → inR y (loP ids bs i) (hiP ids bs i) = true ∧ ∀ (j : Nat) (z : Int), j < ids.length → Y[j]? = some z → (sameQ ids l i j = true → y = z) ∧ (dirQ ids l i j = true → z ≤ y)) (fun i _ => ids.length - (intOf i).toNat)
      case atStart => exact ⟨0, Nat.zero_le _, rfl, Below.refl _ _, fun i y h => absurd h (by omega)⟩
      case round =>
        obtain ⟨k, hk, rfl, hbl, hg⟩ := hrel
        have hsz := hbl.size
        by_cases hlt : k < ids.length
        · have hki : (k : Int) < (ids.length : Int) := by omega
          obtain ⟨x, hx⟩ : ∃ x, ids[k]? = some x := ⟨_, List.getElem?_eq_getElem hlt⟩
          obtain ⟨y, hy⟩ : ∃ y, Y[k]? = some y := ⟨_, List.getElem?_eq_getElem (by have := HR.out.2.2.2.2; omega)⟩
          have kA := below_step HC.out.2.2.2.2 hbl
          obtain ⟨bI, oI, hAI, hbI, hcI⟩ := (HR.out.1.step kA).ints (by omega)
          obtain ⟨bY, oY, hAY, hbY, hcY⟩ := (HR.out.2.2.1.step kA).ints (by omega)
          subst hAI hAY
          have d1 := hcI k x hx
          have d2 := hcY k y hy
          have hBx := HC.out.2.2.1 wr x hbl
          cases hbo : boundsOkG bs x
          · rw [hbo] at hBx
            have HX := Lib.hid (And.intro hBx (And.intro kA (fit_out (l := l) hlt hy (bounds_none (y := y) HR.out.2.2.2.1 hx hbo))))
            clear hBx kA hcI hcY hg hx hy hbo hbl
            go_wp2_with (go_at_call 27; go_must (refine HX.out.1.mono ?_); rintro e w6 ⟨rfl, b6⟩)
            go_ret
            exact ⟨ret_bool HX.out.2.2.symm, below_step HX.out.2.1 b6⟩
          · obtain ⟨e1, e2⟩ := bounds_some hx hbo
            rw [hbo, e1, e2] at hBx
            obtain ⟨lo, hlo⟩ : ∃ lo, lo = loP ids bs k := ⟨_, rfl⟩
            obtain ⟨hi, hhi⟩ : ∃ hi, hi = hiP ids bs k := ⟨_, rfl⟩
            rw [← hlo, ← hhi] at hBx
            cases hr : inR y lo hi
            · have HX := Lib.hid (And.intro hBx (And.intro kA (fit_out (l := l) hlt hy (by rw [← hlo, ← hhi]; exact hr))))
              clear hBx kA hcI hcY hg hx hy hbo hbl hlo hhi e1 e2
              go_wp2_with (first
                | (go_at_call 27; go_must (refine HX.out.1.mono ?_); rintro e w6 ⟨rfl, b6⟩)
                | (go_at_call 60; go_must (refine (iInE_any _ _ _ _).mono ?_); rintro e w7 ⟨rfl, rfl⟩))
              go_ret
              exact ⟨ret_bool HX.out.2.2.symm, below_step HX.out.2.1 b6⟩
            · have HX := Lib.hid (And.intro hBx (And.intro kA (And.intro hbl (And.intro hg (And.intro hy (by rw [← hlo, ← hhi]; exact hr : inR y (loP ids bs k) (hiP ids bs k) = true))))))
              clear hBx kA hcI hg hx hbo hbl hlo hhi e1 e2
              go_wp2_with (first
                | (go_at_call 27; go_must (refine HX.out.1.mono ?_); rintro e w6 ⟨rfl, b6⟩)
                | (go_at_call 60; go_must (refine (iInE_any _ _ _ _).mono ?_); rintro e w7 ⟨rfl, rfl⟩))
              have b6' := below_step HX.out.2.2.1 b6
              have H6 := Lib.hid (And.intro b6' (And.intro (below_step HX.out.2.1 b6) (And.intro b6 hcY)))
              have hsz6 := b6'.size
              clear b6' b6 hcY d1 d2
              go_loopw [62] (fun i wr => ∃ j : Nat, j ≤ ids.length ∧ i = .int .i64 j ∧ Below w6.heap.size w6 wr ∧ ∀ (j2 : Nat) (z : Int), j2 < j → Y[j2]? = some z → (sameQ ids l k j2 = true → y = z) ∧ (dirQ ids l k j2 = true → z ≤ y)) (fun i _ => ids.length - (intOf i).toNat)
              case atStart => exact ⟨0, Nat.zero_le _, rfl, Below.refl _ _, fun j z h => absurd h (by omega)⟩
              case round =>
                obtain ⟨j, hj, rfl, hbj, hgj⟩ := hrel
                by_cases hjn : j < ids.length
                · have hji : (j : Int) < (ids.length : Int) := by omega
                  obtain ⟨z, hzj⟩ : ∃ z, Y[j]? = some z := ⟨_, List.getElem?_eq_getElem (by have := HR.out.2.2.2.2; omega)⟩
                  have hb62 := below_step H6.out.2.2.1 hbj
                  have d3 := (below_cell hb62 _ (oY + j) hbY).trans (H6.out.2.2.2 j z hzj)
                  have hbW := below_step H6.out.1 hbj
                  have hzr := (hbW.block _ hs2).trans HC.out.2.2.2.1
                  have z0 := cell_of_row _ _ 0 _ _ _ hzr
                  have z1 := cell_of_row _ _ 1 _ _ _ hzr
                  have z2 := cell_of_row _ _ 2 _ _ _ hzr
                  have hsz2 : w2.heap.size < wr.heap.size := Nat.lt_of_lt_of_le hs2 hbW.size
                  have hE := HC.out.1 wr k j hbW hlt hjn
                  have hF : ∀ W, Below wr.heap.size wr W → _ := fun W hW => HC.out.2.1 W k j (below_step hbW hW) hlt hjn
                  have hkw := below_step H6.out.2.1 hbj
                  have hno : ∀ a b : Nat, a < ids.length → b < ids.length → joinK ids l a b = true → (∃ u v, Y[a]? = some u ∧ Y[b]? = some v ∧ u < v) → fitD ids l bs Y = false := fun a b h1 h2 h3 ⟨u, v, h4, h5, h6⟩ => fit_pair h1 h2 h4 h5 h3 h6
                  have hok := ordOk_okG (argsD_parts HR.out.2.2.2.1).1
                  have goon : ∀ W : World, Below w6.heap.size w6 W → (sameQ ids l k j = true → y = z) → (dirQ ids l k j = true → z ≤ y) → ∃ j2 : Nat, j2 ≤ ids.length ∧ Value.int .i64 ((j : Int) + 1) = .int .i64 j2 ∧ Below w6.heap.size w6 W ∧ ∀ (j3 : Nat) (z : Int), j3 < j2 → Y[j3]? = some z → (sameQ ids l k j3 = true → y = z) ∧ (dirQ ids l k j3 = true → z ≤ y) := fun W hW q1 q2 => by
                    refine ⟨j + 1, by omega, by go_num, hW, fun j3 z2 h3 hz2 => ?_⟩
                    rcases (by omega : j3 < j ∨ j3 = j) with h | h
                    · exact hgj j3 z2 h hz2
                    · subst h
                      rw [hzj] at hz2
                      injection hz2 with hz2
                      subst hz2
                      exact ⟨q1, q2⟩
                  have hyk := HX.out.2.2.2.2.1
                  cases hs : sameQ ids l k j
                  · rw [hs] at hE
                    cases hd : dirQ ids l k j
                    · simp only [hd] at hF
                      have HQ := Lib.hid (And.intro hE (And.intro hF (And.intro (goon · · (fun h => by rw [hs] at h; cases h) (fun h => by rw [hd] at h; cases h)) hbj)))
                      clear hE hF hno goon hs hd hgj hzj hb62 hbW hzr hkw hok hyk hbj
                      go_wp2_with (first
                        | (go_at_call 61; go_must (refine HQ.out.1.mono ?_); rintro e w7 ⟨rfl, b7⟩
                           have z0 := (below_cell b7 _ 0 hsz2).trans z0
                           have z1 := (below_cell b7 _ 1 hsz2).trans z1
                           have z2 := (below_cell b7 _ 2 hsz2).trans z2)
                        | (go_at_call 62; go_must (refine (HQ.out.2.1 w7 b7).mono ?_); rintro e w8 ⟨rfl, b8⟩))
                      go_roundw
                      case rel => exact HQ.out.2.2.1 _ (below_step HQ.out.2.2.2 (below_step b7 b8))
                      case measure => simp [intOf]; omega
                    · simp only [hd] at hF
                      by_cases hyz : y < z
                      · have e9 : decide (y < z) = true := decide_eq_true hyz
                        have HQ := Lib.hid (And.intro hE (And.intro hF (And.intro (hno k j hlt hjn (dir_join hok hd) ⟨y, z, hyk, hzj, hyz⟩) hkw)))
                        clear hE hF hno goon hs hd hgj hzj hb62 hbW hzr hkw hok hyk hbj hyz
                        go_wp2_with (first
                          | (go_at_call 61; go_must (refine HQ.out.1.mono ?_); rintro e w7 ⟨rfl, b7⟩
                             have z0 := (below_cell b7 _ 0 hsz2).trans z0
                             have z1 := (below_cell b7 _ 1 hsz2).trans z1
                             have z2 := (below_cell b7 _ 2 hsz2).trans z2)
                          | (go_at_call 62; go_must (refine (HQ.out.2.1 w7 b7).mono ?_); rintro e w8 ⟨rfl, b8⟩))
                        go_ret
                        exact ⟨ret_bool HQ.out.2.2.1.symm, below_step HQ.out.2.2.2 (below_step b7 b8)⟩
                      · have e9 : decide (y < z) = false := decide_eq_false hyz
                        have HQ := Lib.hid (And.intro hE (And.intro hF (And.intro (goon · · (fun h => by rw [hs] at h; cases h) (fun _ => by omega)) hbj)))
                        clear hE hF hno goon hs hd hgj hzj hb62 hbW hzr hkw hok hyk hbj hyz
                        go_wp2_with (first
                          | (go_at_call 61; go_must (refine HQ.out.1.mono ?_); rintro e w7 ⟨rfl, b7⟩
                             have z0 := (below_cell b7 _ 0 hsz2).trans z0
                             have z1 := (below_cell b7 _ 1 hsz2).trans z1
                             have z2 := (below_cell b7 _ 2 hsz2).trans z2)
                          | (go_at_call 62; go_must (refine (HQ.out.2.1 w7 b7).mono ?_); rintro e w8 ⟨rfl, b8⟩))
                        go_roundw
                        case rel => exact HQ.out.2.2.1 _ (below_step HQ.out.2.2.2 (below_step b7 b8))
                        case measure => simp [intOf]; omega
                  · rw [hs] at hE
                    obtain ⟨j1, j2⟩ := same_join hlt hjn hs
                    by_cases hyz : y = z
                    · have e9 : (y != z) = false := by simp [hyz]
                      have e8 : decide (y < z) = false := decide_eq_false (by omega)
                      obtain ⟨q, hq⟩ : ∃ q, q = dirQ ids l k j := ⟨_, rfl⟩
                      simp only [← hq] at hF
                      have HQ := Lib.hid (And.intro hE (And.intro hF (And.intro (goon · · (fun _ => hyz) (fun _ => by omega)) hbj)))
                      clear hE hF hno goon hs hgj hzj hb62 hbW hzr hkw hok hyk hbj hyz j1 j2 hq
                      cases q
                      · go_wp2_with (first
                          | (go_at_call 61; go_must (refine HQ.out.1.mono ?_); rintro e w7 ⟨rfl, b7⟩
                             have z0 := (below_cell b7 _ 0 hsz2).trans z0
                             have z1 := (below_cell b7 _ 1 hsz2).trans z1
                             have z2 := (below_cell b7 _ 2 hsz2).trans z2)
                          | (go_at_call 62; go_must (refine (HQ.out.2.1 w7 b7).mono ?_); rintro e w8 ⟨rfl, b8⟩))
                        go_roundw
                        case rel => exact HQ.out.2.2.1 _ (below_step HQ.out.2.2.2 (below_step b7 b8))
                        case measure => simp [intOf]; omega
                      · go_wp2_with (first
                          | (go_at_call 61; go_must (refine HQ.out.1.mono ?_); rintro e w7 ⟨rfl, b7⟩
                             have z0 := (below_cell b7 _ 0 hsz2).trans z0
                             have z1 := (below_cell b7 _ 1 hsz2).trans z1
                             have z2 := (below_cell b7 _ 2 hsz2).trans z2)
                          | (go_at_call 62; go_must (refine (HQ.out.2.1 w7 b7).mono ?_); rintro e w8 ⟨rfl, b8⟩))
                        go_roundw
                        case rel => exact HQ.out.2.2.1 _ (below_step HQ.out.2.2.2 (below_step b7 b8))
                        case measure => simp [intOf]; omega
                    · have e9 : (y != z) = true := by simp [hyz]
                      have hbad : fitD ids l bs Y = false := by
                        rcases (by omega : y < z ∨ z < y) with h | h
                        · exact hno k j hlt hjn j1 ⟨y, z, hyk, hzj, h⟩
                        · exact hno j k hjn hlt j2 ⟨z, y, hzj, hyk, h⟩
                      have HQ := Lib.hid (And.intro hE (And.intro hbad hkw))
                      clear hE hF hno goon hs hgj hzj hb62 hbW hzr hkw hok hyk hbj hyz j1 j2 hbad
                      go_wp2_with (go_at_call 61; go_must (refine HQ.out.1.mono ?_); rintro e w7 ⟨rfl, b7⟩)
                      go_ret
                      exact ⟨ret_bool HQ.out.2.1.symm, below_step HQ.out.2.2 b7⟩
                · have hjk : j = ids.length := by omega
                  have HQ := Lib.hid (And.intro hbj (And.intro hgj hjk))
                  clear hbj hgj hjk
                  go_wp2_with fail
                  go_roundw
                  case rel =>
                    refine ⟨k + 1, by omega, by go_num, below_step H6.out.1 HQ.out.1, fun i y2 hi hy2 => ?_⟩
                    rcases (by omega : i < k ∨ i = k) with h | h
                    · exact HX.out.2.2.2.1 i y2 h hy2
                    · subst h
                      rw [HX.out.2.2.2.2.1] at hy2
                      injection hy2 with hy2
                      subst hy2
                      exact ⟨HX.out.2.2.2.2.2, fun j3 z hj3 hz => HQ.out.2.1 j3 z (by rw [HQ.out.2.2]; exact hj3) hz⟩
                  case measure => simp [intOf]; omega
        · have hkk : k = ids.length := by omega
          have HX := Lib.hid (And.intro hbl (And.intro hg hkk))
          clear hbl hg hkk
          go_wp2_with fail
          go_ret
          exact ⟨ret_bool (fit_near HR.out.2.2.2.1 HR.out.2.2.2.2 fun i y hi hy => HX.out.2.1 i y (by rw [HX.out.2.2]; exact hi) hy).symm, below_step HC.out.2.2.2.2 HX.out.1⟩
    · have HA := Lib.hid (fit_len (l := l) (B := bs) hlen)
      have e9 : ((Y.length : Int) != (ids.length : Int)) = true := by simp; omega
      clear hA ha hb hc hd hlen
      go_enter Try.func19, Try.ntmps19
      go_wp2_with (go_at_call 59; go_must (refine hO.out.mono ?_); rintro e w2 ⟨b2, A2, c2, A3, c3, rfl, rg, rf⟩)
      go_ret
      exact ⟨ret_bool HA.out.symm, b2.alloc b2.size _⟩
end Go.Proofs.Ytfeodclacjolaaa
