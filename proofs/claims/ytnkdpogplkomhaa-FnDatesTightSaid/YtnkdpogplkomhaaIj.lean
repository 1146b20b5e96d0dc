/- Whether the program finds that years fit. -/
import Derived.Test.YtnkdpogplkomhaaIh
import Derived.Test.YtnkdpogplkomhaaKk
import Derived.Test.YtnkdpogplkomhaaIag
namespace Go.Proofs.Ytnkdpogplkomhaa
open Go.RowKit

section
variable {ids : List Int} {l B : List Ctx} {Y : List Int}
/-- Years that fit what is told directly fit what follows from it. -/
theorem fit_near (ha : argsD ids l B = true) (hl : Y.length = ids.length) (h : ∀ (i : Nat) (y : Int), i < ids.length → Y[i]? = some y → inR y (loP ids B i) (hiP ids B i) = true ∧ ∀ (j : Nat) (z : Int), j < ids.length → Y[j]? = some z → (sameQ ids l i j = true → y = z) ∧ (dirQ ids l i j = true → z ≤ y)) : fitD ids l B Y = true := by
  have hok := ordOk_okG (argsD_parts ha).1
  have hat : ∀ {i : Nat}, i < ids.length → Y[i]? = some (Y.getD i 0) := fun hi => by simp [hl, hi]
  refine fit_good ha hl fun i y hy => ?_
  have hi : i < ids.length := by have := (List.getElem?_eq_some_iff.1 hy).1; omega
  refine ⟨(h i y hi hy).1, fun j z hz hJ => ?_⟩
  have hj : j < ids.length := by have := (List.getElem?_eq_some_iff.1 hz).1; omega
  rw [joinK_at hi hj] at hJ
  have e1 : y = Y.getD i 0 := by have := hat hi; rw [hy] at this; injection this
  have e2 : z = Y.getD j 0 := by have := hat hj; rw [hz] at this; injection this
  rw [e1, e2]
  rcases joinJ_iff.1 hJ with h4 | h4
  · rw [← clos_ord hok hi hj] at h4
    refine clos_least (f := dirQ ids l) (T := fun i j => Y.getD j 0 ≤ Y.getD i 0) (fun i j hd => ?_) (fun i j k b1 b2 => Int.le_trans b2 b1) h4
    obtain ⟨g1, g2, _⟩ := dir_ord hok hd
    exact ((h i _ g1 (hat g1)).2 j _ g2 (hat g2)).2 hd
  · have h5 : sameQ ids l i j = true := by simp only [sameQ, decide_eq_true_eq]; exact h4
    exact Int.le_of_eq (((h i _ hi (hat hi)).2 j _ hj (hat hj)).1 h5).symm
theorem bounds_some {i : Nat} {x : Int} (hx : ids[i]? = some x) (h : boundsOkG B x = true) : boundsLowG B x = loP ids B i ∧ boundsHighG B x = hiP ids B i := by
  have e : ids.getD i 0 = x := by rw [List.getD_eq_getElem?_getD, hx]; rfl
  rw [boundsLowG, boundsHighG, if_pos h, if_pos h, loP, hiP, e]
  exact ⟨rfl, rfl⟩
theorem bounds_none {i : Nat} {x y : Int} (ha : argsD ids l B = true) (hx : ids[i]? = some x) (h : boundsOkG B x = false) : inR y (loP ids B i) (hiP ids B i) = false := by
  obtain ⟨a1, a2, _⟩ := argsD_parts ha
  have e : ids.getD i 0 = x := by rw [List.getD_eq_getElem?_getD, hx]; rfl
  have hv := (okG_parts (ordOk_okG a1)).1
  have hin : inR x 1 99 = true := by
    have := validO_ok hv
    exact this x (List.mem_of_getElem? hx)
  simp only [boundsOkG, a2, hin, Bool.true_and, decide_eq_false_iff_not] at h
  rw [loP, hiP, e]
  simp only [inR, Bool.and_eq_false_iff, decide_eq_false_iff_not]
  omega
/-- Where each year is within its bounds, the years fit if they agree with the order. -/
theorem fit_agree (ha : argsD ids l B = true) (hl : Y.length = ids.length) (h : ∀ (i : Nat) (y : Int), i < ids.length → Y[i]? = some y → inR y (loP ids B i) (hiP ids B i) = true) : agreeD ids l Y = fitD ids l B Y := by
  cases e : agreeD ids l Y
  · cases f : fitD ids l B Y
    · rfl
    · have hok := ordOk_okG (argsD_parts ha).1
      have e2 : agreeD ids l Y = true := by
        refine (agree_iff hl).2 fun i y hi hy j z hj hz => ⟨fun hs => ?_, fun hd => ?_⟩
        · obtain ⟨j1, j2⟩ := same_join hi hj hs
          rcases (by omega : y = z ∨ y < z ∨ z < y) with h1 | h1 | h1
          · exact h1
          · have := fit_pair hi hj hy hz j1 h1 (B := B); rw [f] at this; cases this
          · have := fit_pair hj hi hz hy j2 h1 (B := B); rw [f] at this; cases this
        · rcases (by omega : z ≤ y ∨ y < z) with h1 | h1
          · exact h1
          · have := fit_pair hi hj hy hz (dir_join hok hd) h1 (B := B); rw [f] at this; cases this
      rw [e] at e2; cases e2
  · exact (fit_near ha hl fun i y hi hy => ⟨h i y hi hy, fun j z hj hz => (agree_iff hl).1 e i y hi hy j z hj hz⟩).symm
end
set_option maxHeartbeats 4000000 in
set_option maxRecDepth 100000 in
theorem iDatesFit_any (A B C D : Option Addr) (ca cb cc cd : Nat) (ids : List Int) (l bs : List Ctx) (Y : List Int) (w : World) (ha : Reads w w.heap.size 1 A ids.length (cellsI ids)) (hb : Reads w w.heap.size 3 B l.length (cellsC l)) (hc : Reads w w.heap.size 3 C bs.length (cellsC bs))
    (hd : Reads w w.heap.size 1 D Y.length (cellsI Y)) (hn : ids.length ≤ 1000000000) (hl : l.length ≤ 1000000000) (hm : bs.length ≤ 1000000000) (_ : Y.length ≤ 1000000000) :
    Calls Try.prog 11 #[.slice A ids.length ca, .slice B l.length cb, .slice C bs.length cc, .slice D Y.length cd] w fun e w2 => e = .returned (.bool (fitD ids l bs Y)) ∧ Below w.heap.size w w2 := by
  cases hA : argsD ids l bs
  · have hO := Lib.hid (qOrd_no (ca := ca) (cb := cb) (cc := cc) hA ha hb hc hn hl hm)
    have HA := Lib.hid (fit_args (Y := Y) hA)
    clear hA ha hb hc hd
    go_enter Try.func11, Try.ntmps11
    go_wp2_with (go_at_call 43; go_must (refine hO.out.mono ?_); rintro e w2 ⟨rfl, b2⟩)
    go_ret
    exact ⟨ret_bool HA.out.symm, b2.alloc b2.size _⟩
  · have hO := Lib.hid (qOrd_yes (ca := ca) (cb := cb) (cc := cc) hA ha hb hc hn hl hm)
    by_cases hlen : Y.length = ids.length
    · have hn12 : ids.length ≤ 12 := validO_len (okG_parts (ordOk_okG (argsD_parts hA).1)).1
      rw [hlen] at hd ⊢
      have HR := Lib.hid (And.intro ha (And.intro hc (And.intro hd (And.intro hA hlen))))
      have HL := Lib.hid hlen
      clear hA ha hb hc hlen
      go_enter Try.func11, Try.ntmps11
      go_wp2_with (go_at_call 43; go_must (refine hO.out.mono ?_); rintro e w2 ⟨b2, A2, c2, A3, c3, rfl, rg, rf⟩)
      obtain ⟨W2, hW2⟩ : ∃ W2, W2 = w2.alloc (.cells #[.slice A ids.length ca, .slice A2 ids.length c2, .slice A3 ids.length c3] 73) := ⟨_, rfl⟩
      have bA : Below w2.heap.size w2 W2 := by rw [hW2]; exact (Below.refl w2.heap.size w2).alloc (Nat.le_refl _) _
      have hs2 : w2.heap.size < W2.heap.size := by rw [hW2]; simp
      have hz : W2.heap[w2.heap.size]? = some (.cells #[.slice A ids.length ca, .slice A2 ids.length c2, .slice A3 ids.length c3] 73 (0, 0)) := by rw [hW2]; exact heap_alloc_new _ _
      have hb2 := below_step b2 bA
      have hE : ∀ (W : World), Below W2.heap.size W2 W → Calls Try.prog 46 #[.agg #[.slice A ids.length ca, .slice A2 ids.length c2, .slice A3 ids.length c3], .slice D ids.length cd] W fun e w2 => e = .returned (.bool (agreeD ids l Y)) ∧ Below W.heap.size W w2 := fun W hW => by
        have h1 := dAgree_any A A2 A3 D ca c2 c3 cd ids l Y W ((rg.step bA).step hW) ((rf.step bA).step hW) (by rw [HL.out]; exact ((hd.step b2).step bA).step hW) HL.out hn12
        rw [HL.out] at h1
        exact h1
      have hB : ∀ (W : World) (x : Int), Below W2.heap.size W2 W → Calls Try.prog 44 #[.slice C bs.length cc, .int .i64 x] W fun e w2 => e = .returned (.tuple #[.int .i64 (boundsLowG bs x), .int .i64 (boundsHighG bs x), .bool (boundsOkG bs x)]) ∧ Below W.heap.size W w2 := fun W x hW =>
        iBoundsOf_any C cc bs x W (HR.out.2.1.step (below_step hb2 hW)) (by omega)
      have HC := Lib.hid (And.intro hE (And.intro True.intro (And.intro hB (And.intro hz hb2))))
      rw [← hW2]
      clear hE hB hz hb2 hW2 bA rg rf b2 hd
      go_loopw [34] (fun i wr => ∃ k : Nat, k ≤ ids.length ∧ i = .int .i64 k ∧ Below W2.heap.size W2 wr ∧ ∀ (i : Nat) (y : Int), i < k → Y[i]? = some y → inR y (loP ids bs i) (hiP ids bs i) = true) (fun i _ => ids.length - (intOf i).toNat)
      case atStart => exact ⟨0, Nat.zero_le _, rfl, Below.refl _ _, fun i y h => absurd h (by omega)⟩
      case round =>
        obtain ⟨k, hk, rfl, hbl, hg⟩ := hrel
        have hsz := hbl.size
        by_cases hlt : k < ids.length
        · have hki : (k : Int) < (ids.length : Int) := by omega
          obtain ⟨x, hx⟩ : ∃ x, ids[k]? = some x := ⟨_, List.getElem?_eq_getElem hlt⟩
          obtain ⟨y, hy⟩ : ∃ y, Y[k]? = some y := ⟨_, List.getElem?_eq_getElem (by have := HR.out.2.2.2.2; omega)⟩
          have kA := below_step HC.out.2.2.2.2 hbl
          obtain ⟨bI, oI, hAI, hbI, hcI⟩ := (HR.out.1.step kA).ints (by omega)
          obtain ⟨bY, oY, hAY, hbY, hcY⟩ := (HR.out.2.2.1.step kA).ints (by omega)
          subst hAI hAY
          have d1 := hcI k x hx
          have d2 := hcY k y hy
          have hBx := HC.out.2.2.1 wr x hbl
          cases hbo : boundsOkG bs x
          · rw [hbo] at hBx
            have HX := Lib.hid (And.intro hBx (And.intro kA (fit_out (l := l) hlt hy (bounds_none (y := y) HR.out.2.2.2.1 hx hbo))))
            clear hBx kA hcI hcY hg hx hy hbo hbl
            go_wp2_with (go_at_call 44; go_must (refine HX.out.1.mono ?_); rintro e w6 ⟨rfl, b6⟩)
            go_ret
            exact ⟨ret_bool HX.out.2.2.symm, below_step HX.out.2.1 b6⟩
          · obtain ⟨e1, e2⟩ := bounds_some hx hbo
            rw [hbo, e1, e2] at hBx
            obtain ⟨lo, hlo⟩ : ∃ lo, lo = loP ids bs k := ⟨_, rfl⟩
            obtain ⟨hi, hhi⟩ : ∃ hi, hi = hiP ids bs k := ⟨_, rfl⟩
            rw [← hlo, ← hhi] at hBx
            cases hr : inR y lo hi
            · have HX := Lib.hid (And.intro hBx (And.intro kA (fit_out (l := l) hlt hy (by rw [← hlo, ← hhi]; exact hr))))
              clear hBx kA hcI hcY hg hx hy hbo hbl hlo hhi e1 e2
              go_wp2_with (first
                | (go_at_call 44; go_must (refine HX.out.1.mono ?_); rintro e w6 ⟨rfl, b6⟩)
                | (go_at_call 45; go_must (refine (iInE_any _ _ _ _).mono ?_); rintro e w7 ⟨rfl, rfl⟩))
              go_ret
              exact ⟨ret_bool HX.out.2.2.symm, below_step HX.out.2.1 b6⟩
            · have HX := Lib.hid (And.intro hBx (And.intro kA (And.intro hbl (And.intro hg (And.intro hy (by rw [← hlo, ← hhi]; exact hr : inR y (loP ids bs k) (hiP ids bs k) = true))))))
              clear hBx kA hcI hcY hg hx hy hbo hbl hlo hhi e1 e2
              go_wp2_with (first
                | (go_at_call 44; go_must (refine HX.out.1.mono ?_); rintro e w6 ⟨rfl, b6⟩)
                | (go_at_call 45; go_must (refine (iInE_any _ _ _ _).mono ?_); rintro e w7 ⟨rfl, rfl⟩))
              go_roundw
              case rel =>
                refine ⟨k + 1, by omega, by go_num, below_step HX.out.2.2.1 b6, fun i y2 hi hy2 => ?_⟩
                rcases (by omega : i < k ∨ i = k) with h | h
                · exact HX.out.2.2.2.1 i y2 h hy2
                · subst h
                  rw [HX.out.2.2.2.2.1] at hy2
                  injection hy2 with hy2
                  subst hy2
                  exact HX.out.2.2.2.2.2
              case measure => simp [intOf]; omega
        · have hkk : k = ids.length := by omega
          have hEw := HC.out.1 wr hbl
          have hzr := (hbl.block _ hs2).trans HC.out.2.2.2.1
          have z0 := cell_of_row _ _ 0 _ _ _ hzr
          have z1 := cell_of_row _ _ 1 _ _ _ hzr
          have z2 := cell_of_row _ _ 2 _ _ _ hzr
          have HX := Lib.hid (And.intro hbl (And.intro hg (And.intro hkk hEw)))
          clear hbl hg hkk hEw hzr
          go_wp2_with (go_at_call 46; go_must (refine HX.out.2.2.2.mono ?_); rintro e w8 ⟨rfl, b8⟩)
          go_ret
          exact ⟨ret_bool (fit_agree HR.out.2.2.2.1 HR.out.2.2.2.2 fun i y hi hy => HX.out.2.1 i y (by rw [HX.out.2.2.1]; exact hi) hy), below_step (below_step HC.out.2.2.2.2 HX.out.1) b8⟩
    · have HA := Lib.hid (fit_len (l := l) (B := bs) hlen)
      have e9 : ((Y.length : Int) != (ids.length : Int)) = true := by simp; omega
      clear hA ha hb hc hd hlen
      go_enter Try.func11, Try.ntmps11
      go_wp2_with (go_at_call 43; go_must (refine hO.out.mono ?_); rintro e w2 ⟨b2, A2, c2, A3, c3, rfl, rg, rf⟩)
      go_ret
      exact ⟨ret_bool HA.out.symm, b2.alloc b2.size _⟩
end Go.Proofs.Ytnkdpogplkomhaa
