/- The model's FindsOld. -/
import Derived.Test.YtopdmcnbchpihaaFnb
import Derived.Test.YtopdmcnbchpihaaFf
import Derived.Test.YtopdmcnbchpihaaUu
namespace Go.Proofs.Ytopdmcnbchpihaa
open Go.RowKit

theorem OwnV.keptBy {α : Type} {enc : α → Value} {w w2 : World} {base : Nat} {e1 e2 : TypeId} {v : Value} {vs : List Value} {L : List (List α)} {row : Option Nat} (h : OwnV enc w base e1 e2 v vs L) (hg : w.grownBy w2 row)
    (h1 : v.ownBlock = none ∨ v.ownBlock ≠ row) (h2 : ∀ (i : Nat) (u : Value), vs[i]? = some u → u.ownBlock = none ∨ u.ownBlock ≠ row) : OwnV enc w2 base e1 e2 v vs L :=
  ⟨h.len, h.out.kept hg h1, fun i r hr => by obtain ⟨u, hu, ho⟩ := h.row i r hr; exact ⟨u, hu, ho.kept hg (h2 i u hu)⟩, h.far, h.apart⟩
def anyO (ids : List Int) (l L : List Ctx) (x y : Int) (k : Nat) : Bool := (ids.take k).any fun a => upG ids l x a && decide (y < lastYF L a)
theorem anyO_next {ids : List Int} {l L : List Ctx} {x y : Int} {k : Nat} {a : Int} (h : ids[k]? = some a) : anyO ids l L x y (k + 1) = (anyO ids l L x y k || (upG ids l x a && decide (y < lastYF L a))) := by
  unfold anyO
  rw [List.take_add_one, h, List.any_append]
  simp
set_option maxHeartbeats 8000000 in
set_option maxRecDepth 100000 in
theorem sFindsOld_any (A B D : Option Addr) (ca cb cd : Nat) (ids : List Int) (l L : List Ctx) (w : World) (ha : Reads w w.heap.size 1 A ids.length (cellsI ids)) (hb : Reads w w.heap.size 3 B l.length (cellsC l)) (hd : Reads w w.heap.size 3 D L.length (cellsC L))
    (hn : ids.length ≤ 1000000000) (hl : l.length ≤ 1000000000) (hL : L.length ≤ 1000000000) :
    Calls Try.prog 35 #[.slice A ids.length ca, .slice B l.length cb, .slice D L.length cd] w (IntsS w (oldG ids l L)) := by
  obtain ⟨i0, hi0, hz0, hz1, hz2⟩ := info_parts infoInt
  have hb1 : Below w.heap.size w (w.alloc (.cells #[] 3)) := (Below.refl _ _).alloc (Nat.le_refl _) _
  have ho1 : (w.alloc (.cells #[] 3)).ownsRow w.heap.size 3 1 (.slice (some ⟨w.heap.size, 0, none⟩) 0 0) 0 [] := own_empty (Nat.le_refl _) rfl
  have hO := sOrdValid_any A B ca cb ids l _ (ha.step hb1) (hb.step hb1) hn hl
  have hV := fun (W : World) (hW : Below w.heap.size w W) => sValidF_any D cd L W (hd.step hW) (by omega)
  cases h1 : ordOkG ids l
  · rw [h1] at hO
    have H := Lib.hid (And.intro hO (And.intro hb1 ho1))
    have HN : Hid (oldG ids l L = []) := by exact oldG_no (by simp [oldOk, h1])
    clear ha hb hd hO hV hb1 ho1 h1
    go_enter Try.func35, Try.ntmps35
    go_wp2_with (go_at_call 36; go_must (refine H.out.1.mono ?_); rintro e w2 ⟨rfl, k2⟩)
    go_ret
    exact ⟨_, rfl, below_step H.out.2.1 k2, by rw [HN.out]; exact own_below H.out.2.2 k2⟩
  · rw [h1] at hO
    cases h2 : validF L
    · simp only [h2] at hV
      have H := Lib.hid (And.intro hO (And.intro hb1 (And.intro ho1 hV)))
      have HN : Hid (oldG ids l L = []) := by exact oldG_no (by simp [oldOk, h2])
      clear ha hb hd hO hV hb1 ho1 h1 h2
      go_enter Try.func35, Try.ntmps35
      go_wp2_with (first
        | (go_at_call 36; go_must (refine H.out.1.mono ?_); rintro e w2 ⟨rfl, k2⟩)
        | (go_at_call 37; go_must (refine (H.out.2.2.2 _ (below_step H.out.2.1 k2)).mono ?_); rintro e w3 ⟨rfl, k3⟩))
      go_ret
      exact ⟨_, rfl, below_step H.out.2.1 (below_step k2 k3), by rw [HN.out]; exact own_below H.out.2.2.1 (below_step k2 k3)⟩
    · simp only [h2] at hV
      have hok := ordOk_okG h1
      have hn12 : ids.length ≤ 12 := validO_len (okG_parts hok).1
      have hL20 := (validF_ok h2).2
      have hG : oldG ids l L = idxF (isOld ids l L) L L.length := oldG_ok (by simp [oldOk, h1, h2])
      rw [hG]
      obtain ⟨p, hp⟩ : ∃ p, p = isOld ids l L := ⟨_, rfl⟩
      rw [← hp]
      have H := Lib.hid (And.intro hO (And.intro hb1 (And.intro ho1 (And.intro hV (And.intro ha (And.intro hb (And.intro hd (And.intro hok hp))))))))
      clear ha hb hd hO hV hb1 ho1 h1 h2 hG hok hp
      go_enter Try.func35, Try.ntmps35
      go_wp2_with (first
        | (go_at_call 36; go_must (refine H.out.1.mono ?_); rintro e w2 ⟨rfl, k2⟩)
        | (go_at_call 37; go_must (refine (H.out.2.2.2.1 _ (below_step H.out.2.1 k2)).mono ?_); rintro e w3 ⟨rfl, k3⟩
           have b3 := below_step H.out.2.1 (below_step k2 k3)
           have K3 := Lib.hid (And.intro b3 (own_below H.out.2.2.1 (below_step k2 k3)))
           have hs13 : w.heap.size < w3.heap.size := Nat.lt_of_lt_of_le (by simp) (below_step k2 k3).size
           clear b3 k2 k3)
        | (go_at_call 88; go_must (refine (sOrder_any A B ca cb ids l w3 (H.out.2.2.2.2.1.step K3.out.1) (H.out.2.2.2.2.2.1.step K3.out.1) H.out.2.2.2.2.2.2.2.1).mono ?_); rintro e w4 ⟨vM, vsM, rfl, k4, oM⟩))
      obtain ⟨AM, cM, hvM, _, _⟩ := oM.nest
      subst hvM
      rw [ordG_len]
      have hMb : ∀ g, (Value.slice AM ids.length cM).ownBlock = some g → w3.heap.size ≤ g ∧ g < w4.heap.size := fun g hg => by
        have := oM.out.lt g (by rw [ordG_len]; exact hg)
        exact this
      have hMr : ∀ (i : Nat) (u : Value) (g : Nat), vsM[i]? = some u → u.ownBlock = some g → w3.heap.size ≤ g ∧ g < w4.heap.size := fun i u g hu hg => oM.lt hu hg
      have K4 := Lib.hid (And.intro (below_step K3.out.1 k4) (And.intro (own_below K3.out.2 k4) (And.intro oM (And.intro hMb hMr))))
      have hs34 := k4.size
      clear k4 oM hMb hMr
      go_wp2_with fail
      go_loopw [7, 9] (fun v i wr => ∃ k : Nat, k ≤ L.length ∧ i = .int .i64 k ∧ Below w.heap.size w wr ∧ w4.heap.size ≤ wr.heap.size ∧ wr.ownsRow w.heap.size 3 1 v (idxF p L k).length (cellsI (idxF p L k)) ∧ (∀ g, v.ownBlock = some g → g < w3.heap.size ∨ w4.heap.size ≤ g) ∧
        OwnV encB wr w3.heap.size 4 134 (.slice AM (ordG ids l).length cM) vsM (ordG ids l)) (fun _ i _ => L.length - (intOf i).toNat)
      case atStart => exact ⟨0, Nat.zero_le _, rfl, K4.out.1, Nat.le_refl _, K4.out.2.1, fun g hg => .inl (by have e : w.heap.size = g := by injection hg
                                                                                                              omega), K4.out.2.2.1⟩
      case round =>
        obtain ⟨k, hk, rfl, hbl, hsz4, hov, hvb, hM⟩ := hrel
        have hsz := hbl.size
        by_cases hlt : k < L.length
        · have hkl : (k : Int) < (L.length : Int) := by omega
          obtain ⟨b, off, hA, hbb, hcc⟩ := (H.out.2.2.2.2.2.2.1.step hbl).ctx (by omega)
          subst hA
          obtain ⟨⟨xa, xb, xc⟩, hx⟩ : ∃ f, L[k]? = some f := ⟨_, List.getElem?_eq_getElem hlt⟩
          obtain ⟨c1, c2, c3⟩ := hcc k _ hx
          dsimp only at c1 c2 c3
          have hpf : p ⟨xa, xb, xc⟩ = (decide (xa ∈ ids) && anyO ids l L xa xc ids.length) := by
            rw [H.out.2.2.2.2.2.2.2.2, anyO, List.take_length]
            rfl
          have hll := idxF_len p L k
          have hP := sPlace_any A ca ids xa wr (H.out.2.2.2.2.1.step hbl) (by omega)
          have HX := Lib.hid (And.intro hbl (And.intro hov (And.intro hvb (And.intro hM (And.intro hx hpf)))))
          clear hbl hov hvb hM hx hcc c2 hpf
          obtain ⟨wA, rfl⟩ : ∃ wA, wA = wr := ⟨wr, rfl⟩
          have goon : ∀ W : World, Below wA.heap.size wA W → p ⟨xa, xb, xc⟩ = false → ∃ k2 : Nat, k2 ≤ L.length ∧ Value.int .i64 ((k : Int) + 1) = .int .i64 k2 ∧ Below w.heap.size w W ∧ w4.heap.size ≤ W.heap.size ∧ W.ownsRow w.heap.size 3 1 u7 (idxF p L k2).length (cellsI (idxF p L k2)) ∧ (∀ g, u7.ownBlock = some g → g < w3.heap.size ∨ w4.heap.size ≤ g) ∧
              OwnV encB W w3.heap.size 4 134 (.slice AM (ordG ids l).length cM) vsM (ordG ids l) := fun W hW hpn => by
            obtain ⟨hbl, hov, hvb, hM, hx, _⟩ := HX.out
            refine ⟨k + 1, by omega, by go_num, below_step hbl hW, Nat.le_trans hsz4 hW.size, ?_, hvb, hM.below hW⟩
            rw [idxF_no hx hpn]
            exact own_below hov hW
          have GO := Lib.hid goon
          clear goon
          by_cases hin : xa ∈ ids
          · obtain ⟨p1, p2, p3⟩ := placeI_at hin
            rw [p1] at hP
            obtain ⟨q, hq⟩ : ∃ q, q = placeI ids xa := ⟨_, rfl⟩
            rw [← hq] at hP p2 p3
            have hpf := HX.out.2.2.2.2.2
            rw [decide_eq_true hin, Bool.true_and] at hpf
            have HP := Lib.hid (And.intro hP (And.intro p3 hpf))
            have hqi : (0 : Int) ≤ (q : Int) := by omega
            have e0 : decide ((0 : Int) ≤ (q : Int)) = true := decide_eq_true hqi
            have hqn : (q : Int) < (ids.length : Int) := by omega
            clear hP p1 p3 hq hin hpf
            go_wp2_with (go_at_call 70; go_must (refine HP.out.1.mono ?_); rintro e w7 ⟨rfl, rfl⟩)
            go_loopw [11, 12] (fun o c w5 => ∃ j : Nat, j ≤ ids.length ∧ c = .int .i64 j ∧ o = .bool (anyO ids l L xa xc j) ∧ Below wA.heap.size wA w5) (fun _ c _ => ids.length - (intOf c).toNat)
            case atStart => exact ⟨0, Nat.zero_le _, rfl, rfl, Below.refl _ _⟩
            case round =>
              obtain ⟨j, hj, rfl, rfl, hbj⟩ := hrel
              have hszj := hbj.size
              by_cases hjn : j < ids.length
              · have hji : (j : Int) < (ids.length : Int) := by omega
                obtain ⟨a, hja⟩ : ∃ a, ids[j]? = some a := ⟨_, List.getElem?_eq_getElem hjn⟩
                obtain ⟨bI, oI, hAI, hbI, hcI⟩ := (H.out.2.2.2.2.1.step (below_step HX.out.1 hbj)).ints (by omega)
                subst hAI
                have d1 := hcI j a hja
                obtain ⟨r, hr1, hr2, hr3⟩ := ordG_at (l := l) HP.out.2.1 hja
                have hMj := HX.out.2.2.2.1.below hbj
                obtain ⟨g, cap, hvg, _, hgs, d2, _⟩ := hMj.cell hr1 hr3
                rw [hr2] at hvg
                obtain ⟨go, capo, hvo, _, hgo2, hou⟩ := hMj.outer (by rw [ordG_len]; omega)
                rw [ordG_len] at hvo
                have d3 := hou q _ hvg
                injection hvo with e1 e2 e3
                subst e1
                have d4 := (hbj.cell (p := ⟨b, off + k * 3 + 2, none⟩) hbb).trans c3
                have hbb2 : b < wr.heap.size := by omega
                have hx1 := ext_cell (w := wr) hgo2
                have hx2 := ext_cell (w := wr) hgs
                have hx3 := ext_cell (w := wr) hbI
                have hx4 := ext_cell (w := wr) hbb2
                have hQ : ∀ (x : Ext wr.heap.size wr) (n : Int), Calls Try.prog 65 #[.slice (some ⟨b, off, none⟩) L.length cd, .int .i64 n] x.val fun e w2 => e = .returned (.int .i64 (lastYF L n)) ∧ ∃ y : Ext wr.heap.size wr, w2 = y.val := fun x n =>
                  calls_ext (Nat.le_refl _) (sLast_any _ cd L n x.val ((H.out.2.2.2.2.2.2.1.step (below_step HX.out.1 hbj)).step x.below) (by omega))
                obtain ⟨o, ho⟩ : ∃ o, o = anyO ids l L xa xc j := ⟨_, rfl⟩
                have hnx := anyO_next (l := l) (L := L) (x := xa) (y := xc) hja
                obtain ⟨z, hz⟩ : ∃ z, z = upG ids l xa a := ⟨_, rfl⟩
                obtain ⟨t, ht⟩ : ∃ t, t = lastYF L a := ⟨_, rfl⟩
                rw [← ho, ← hz, ← ht] at hnx
                rw [← ho]
                rw [← hz] at d2
                simp only [encB] at d2
                have hQa := fun x => hQ x a
                simp only [← ht] at hQa
                have hQ2 : ∀ (x : Ext wr.heap.size wr) (n : Int), n = a → Calls Try.prog 65 #[.slice (some ⟨b, off, none⟩) L.length cd, .int .i64 n] x.val fun e w2 => e = .returned (.int .i64 t) ∧ ∃ y : Ext wr.heap.size wr, w2 = y.val := fun x n hn => by rw [hn]; exact hQa x
                have HQ := Lib.hid (And.intro hQ2 (And.intro hbj hnx))
                clear hQ hQa hQ2 hbj hnx hja hcI hr1 hr2 hr3 hMj hou hvg ho hz ht e2 e3
                cases o
                · cases z
                  · go_wp2_with fail
                    refine wp_region_ext wr.heap.size (by kernel_rfl) (by kernel_rfl) ?_
                    repeat (go_big_quiet_step ((go_at_call 65; exact HQ.out.1 _ _ rfl)))
                    refine wpQuiet_nil ?_
                    rintro _ ⟨y, rfl⟩
                    go_wp2_with fail
                    go_roundw
                    case rel => exact ⟨j + 1, by omega, by go_num, by rw [HQ.out.2.2]; first | rfl | (rw [HZ.out]; rfl), below_step HQ.out.2.1 y.below⟩
                    case measure => simp [intOf]; omega
                  · by_cases hxt : xc < t
                    · have e9 : decide (xc < t) = true := decide_eq_true hxt
                      have HZ := Lib.hid e9
                      go_wp2_with fail
                      refine wp_region_ext wr.heap.size (by kernel_rfl) (by kernel_rfl) ?_
                      repeat (go_big_quiet_step ((go_at_call 65; exact HQ.out.1 _ _ rfl)))
                      refine wpQuiet_nil ?_
                      rintro _ ⟨y, rfl⟩
                      go_wp2_with fail
                      go_roundw
                      case rel => exact ⟨j + 1, by omega, by go_num, by rw [HQ.out.2.2]; first | rfl | (rw [HZ.out]; rfl), below_step HQ.out.2.1 y.below⟩
                      case measure => simp [intOf]; omega
                    · have e9 : decide (xc < t) = false := decide_eq_false hxt
                      have HZ := Lib.hid e9
                      go_wp2_with fail
                      refine wp_region_ext wr.heap.size (by kernel_rfl) (by kernel_rfl) ?_
                      repeat (go_big_quiet_step ((go_at_call 65; exact HQ.out.1 _ _ rfl)))
                      refine wpQuiet_nil ?_
                      rintro _ ⟨y, rfl⟩
                      go_wp2_with fail
                      go_roundw
                      case rel => exact ⟨j + 1, by omega, by go_num, by rw [HQ.out.2.2]; first | rfl | (rw [HZ.out]; rfl), below_step HQ.out.2.1 y.below⟩
                      case measure => simp [intOf]; omega
                · go_wp2_with fail
                  refine wp_region_ext wr.heap.size (by kernel_rfl) (by kernel_rfl) ?_
                  repeat (go_big_quiet_step ((go_at_call 65; exact HQ.out.1 _ _ rfl)))
                  refine wpQuiet_nil ?_
                  rintro _ ⟨y, rfl⟩
                  go_wp2_with fail
                  go_roundw
                  case rel => exact ⟨j + 1, by omega, by go_num, by rw [HQ.out.2.2]; first | rfl | (rw [HZ.out]; rfl), below_step HQ.out.2.1 y.below⟩
                  case measure => simp [intOf]; omega
              · have hjn2 : j = ids.length := by omega
                subst hjn2
                obtain ⟨o, ho⟩ : ∃ o, o = anyO ids l L xa xc ids.length := ⟨_, rfl⟩
                rw [← ho]
                have hpo := HP.out.2.2
                rw [← ho] at hpo
                have HJ := Lib.hid (And.intro hbj hpo)
                clear hbj hpo ho
                cases o
                · go_wp2_with fail
                  go_roundw
                  case rel => exact GO.out _ HJ.out.1 HJ.out.2
                  case measure => simp [intOf]; omega
                · go_wp2_with (at_builtin
                               go_must (refine wpList_append_reads _ rfl (.tmp 75) (.tmp 77) _ rfl w.heap.size 3 i0 _ 1 8 Try.underlying29 hi0 hz0 hz1 hz2 rfl (by omega) u7 (idxF p L k).length _ rfl ((own_below HX.out.2.1 HJ.out.1).alloc _) (wr.heap.size + 1) _ 1 1 (cellsI [(k : Int)]) rfl (reads_int (by omega)) (cellsI_one _) (by simp only [maxLen]; omega) (by omega) (by simp; omega) ?_)
                               intro v8 w8 hown8 hg8 hat8)
                  go_roundw
                  case rel =>
                    obtain ⟨hbl, hov, hvb, hM, hx, _⟩ := HX.out
                    have ho7 := own_below hov HJ.out.1
                    have hM7 := hM.below HJ.out.1
                    have e9 : idxF p L (k + 1) = idxF p L k ++ [(k : Int)] := idxF_yes hx HJ.out.2
                    have e10 : cellsI (idxF p L (k + 1)) = cellsI (idxF p L k) ++ cellsI [(k : Int)] := by rw [e9]; simp [cellsI]
                    have e11 : (idxF p L (k + 1)).length = (idxF p L k).length + 1 := by rw [e9]; simp
                    have hsW : w4.heap.size ≤ wr.heap.size := Nat.le_trans hsz4 hszj
                    have hs8 : wr.heap.size ≤ w8.heap.size := Nat.le_trans (by simp) hg8.size
                    have far : ∀ g, w3.heap.size ≤ g ∧ g < w4.heap.size → some g ≠ u7.ownBlock := fun g hg e => by
                      have := hvb g e.symm
                      omega
                    refine ⟨k + 1, by omega, by go_num, (below_step hbl HJ.out.1).trans (app_below ho7 (Nat.le_refl _) (Nat.le_trans hsz hszj) hg8), Nat.le_trans hsW hs8, by rw [e10, e11]; exact hown8, fun g hg => ?_, (hM7.alloc _).keptBy hg8 ?_ ?_⟩
                    · rcases hat8 with h3 | h3
                      · exact hvb g (h3 ▸ hg)
                      · rw [h3] at hg
                        injection hg with hg
                        right
                        simp at hg
                        omega
                    · cases hv : (Value.slice AM (ordG ids l).length cM).ownBlock with
                      | none => exact .inl rfl
                      | some g => exact .inr (far g (K4.out.2.2.2.1 g (by rw [← hv, ordG_len])))
                    · intro i u hu
                      cases hv : u.ownBlock with
                      | none => exact .inl rfl
                      | some g => exact .inr (far g (K4.out.2.2.2.2 i u g hu hv))
                  case measure => simp [intOf]; omega
          · have hf : findI ids xa = -1 := by
              rcases findI_spec ids xa with h | ⟨_, _, _, _, h⟩
              · exact h.1
              · exact absurd h hin
            rw [hf] at hP
            have hpf := HX.out.2.2.2.2.2
            rw [decide_eq_false hin, Bool.false_and] at hpf
            have HP := Lib.hid (And.intro hP hpf)
            clear hP hf hin hpf
            go_wp2_with (go_at_call 70; go_must (refine HP.out.1.mono ?_); rintro e w7 ⟨rfl, rfl⟩)
            go_loopw [11, 12] (fun o c w5 => o = .bool false ∧ c = .int .i64 0 ∧ w5 = wA) (fun _ _ _ => 0)
            case atStart => exact ⟨rfl, rfl, rfl⟩
            case round =>
              obtain ⟨rfl, rfl, rfl⟩ := hrel
              by_cases h0 : 0 < ids.length
              · have h0i : (0 : Int) < (ids.length : Int) := by omega
                go_wp2_with fail
                go_roundw
                case rel => exact GO.out _ (Below.refl _ _) HP.out.2
                case measure => simp [intOf]; omega
              · have h0i : (ids.length : Int) = 0 := by omega
                go_wp2_with fail
                go_roundw
                case rel => exact GO.out _ (Below.refl _ _) HP.out.2
                case measure => simp [intOf]; omega
        · have hkl : k = L.length := by omega
          subst hkl
          have HX := Lib.hid (And.intro hbl hov)
          clear hbl hov hvb hM
          go_wp2_with fail
          go_ret
          exact ⟨_, rfl, HX.out.1, HX.out.2⟩
end Go.Proofs.Ytopdmcnbchpihaa
