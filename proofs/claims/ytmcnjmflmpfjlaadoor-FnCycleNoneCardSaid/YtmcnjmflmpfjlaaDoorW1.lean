/- What the model's walk from a place is. -/
import Derived.Test.YtmcnjmflmpfjlaaDoorV7
import Derived.Test.YtmcnjmflmpfjlaaDoorU5
import Derived.Test.YtmcnjmflmpfjlaaDoorWl
namespace Go.Proofs.YtmcnjmflmpfjlaaDoor
open Go.RowKit

theorem infoInts : (Tryd.prog.info? 23).map (fun i => (i.zero, i.size, i.bytes)) = some (some (.slice none 0 0), 1, 24) := by kernel_rfl
theorem nat_cells {p : List Nat} : ∀ u ∈ p.map encN, u.oneCell' = true := by
  intro u hu
  obtain ⟨x, _, rfl⟩ := List.mem_map.1 hu
  rfl
theorem own_single {w : World} {r : List Nat} {e1 e2 : TypeId} {u : Value} {base g0 : Nat} (hu : w.ownsRow base e1 1 u r.length (r.map encN)) (hb : base ≤ w.heap.size) (hg0 : g0 = w.heap.size) :
    OwnV encN (w.alloc (.cells #[u] e2)) base e1 e2 (.slice (some ⟨g0, 0, none⟩) 1 1) [u] [r] := by
  subst hg0
  have one : ∀ {i : Nat} {x : Value}, [u][i]? = some x → i = 0 ∧ x = u := by
    intro i x hx
    match i, hx with
    | 0, hx => simp at hx; exact ⟨rfl, hx.symm⟩
  refine ⟨rfl, own_one hb rfl, fun i r1 hr1 => ?_, fun i u1 g hu1 hg1 hg2 => ?_, fun i j u1 u2 g hij h1 h2 => ?_⟩
  · match i, hr1 with
    | 0, hr1 =>
      simp at hr1
      subst hr1
      exact ⟨u, rfl, hu.alloc _⟩
  · obtain ⟨_, rfl⟩ := one hu1
    have h1 := (hu.lt g hg1).2
    injection hg2 with hg2
    simp at hg2
    omega
  · obtain ⟨h1, _⟩ := one h1
    obtain ⟨h2, _⟩ := one h2
    omega
theorem OwnV.asNest {α : Type} {enc : α → Value} {w : World} {base n c : Nat} {e1 e2 : TypeId} {A : Option Addr} {vs : List Value} {L : List (List α)} (h : OwnV enc w base e1 e2 (.slice A n c) vs L) : n = L.length ∧ Nest enc w w.heap.size A L.length L := by
  obtain ⟨A2, c2, hv, _, hn⟩ := h.nest
  injection hv with h1 h2 h3
  subst h1 h2
  exact ⟨rfl, hn⟩
theorem own_reads' {w : World} {base e n : Nat} {A : Option Addr} {c : Nat} {xs : List Value} (h : w.ownsRow base e 1 (.slice A n c) n xs) : Reads w w.heap.size 1 A n xs := by
  obtain ⟨A2, c2, hv, _, hr⟩ := Reads.of_own h
  injection hv with h1 h2 h3
  subst h1
  exact hr
set_option maxHeartbeats 8000000 in
set_option maxRecDepth 100000 in
theorem sWalk_any (A : Option Addr) (cap n a : Nat) (f : Nat → Nat → Bool) (w : World) (hm : Nest encB w w.heap.size A n (tabN n f)) (hn : n ≤ 12) (han : a < n) (hf : ∀ i j, f i j = true → i < n ∧ j < n) :
    Calls Tryd.prog 16 #[.slice A n cap, .int .i64 (a : Int)] w (CircPost w (walkP f n a)) := by
  obtain ⟨j0, hj0, jz0, jz1, jz2⟩ := info_parts infoInt
  obtain ⟨k0, hk0, kz0, kz1, kz2⟩ := info_parts infoInts
  have hM := Lib.hid (And.intro hm hf)
  clear hm hf
  go_enter Tryd.func16, Tryd.ntmps16
  go_wp2_with fail
  have o1 : (w.alloc (.cells #[.int .i64 (a : Int)] 3)).ownsRow w.heap.size 3 1 (.slice (some ⟨w.heap.size, 0, none⟩) 1 1) [a].length ([a].map encN) := own_one (Nat.le_refl _) rfl
  have o2 : OwnV encN ((w.alloc (.cells #[.int .i64 (a : Int)] 3)).alloc (.cells #[.slice (some ⟨w.heap.size, 0, none⟩) 1 1] 23)) w.heap.size 3 23 (.slice (some ⟨w.heap.size + 1, 0, none⟩) 1 1) [.slice (some ⟨w.heap.size, 0, none⟩) 1 1] [[a]] := own_single o1 (by simp) (by simp)
  have b2 : Below w.heap.size w ((w.alloc (.cells #[.int .i64 (a : Int)] 3)).alloc (.cells #[.slice (some ⟨w.heap.size, 0, none⟩) 1 1] 23)) := ((Below.refl _ _).alloc (Nat.le_refl _) _).alloc (by simp) _
  have H1 := Lib.hid (And.intro b2 o2)
  clear o1 o2 b2
  go_loopw [5, 6] (fun v i wr => ∃ (t : Nat) (ps : List (List Nat)) (vs : List Value), t ≤ n ∧ i = .int .i64 t ∧ Below w.heap.size w wr ∧ OwnV encN wr w.heap.size 3 23 v vs ps ∧ PS n (t + 1) ps ∧ walkL f n a (n - t) ps = walkP f n a) (fun _ i _ => n - (intOf i).toNat)
  case atStart => exact ⟨0, [[a]], _, Nat.zero_le _, rfl, H1.out.1, H1.out.2, ps_one han, rfl⟩
  case round =>
    obtain ⟨t, ps, vs, ht, rfl, hbl, hown, hps, hwk⟩ := hrel
    obtain ⟨wA, rfl⟩ : ∃ wA, wA = wr := ⟨wr, rfl⟩
    have hsz := hbl.size
    by_cases htn : t < n
    · have htni : (t : Int) < (n : Int) := by omega
      have hpl : ps.length ≤ n := hps.small
      obtain ⟨Av, cv, hv, _, _⟩ := hown.nest
      subst hv
      have o3 : OwnV encN (wA.alloc (.cells #[] 23)) wA.heap.size 3 23 (.slice (some ⟨wA.heap.size, 0, none⟩) 0 0) [] (nxA f n ps 0) := by rw [nxA_zero]; exact OwnV.nil_ (own_empty (Nat.le_refl _) rfl)
      have b3 : Below wA.heap.size wA (wA.alloc (.cells #[] 23)) := (Below.refl _ _).alloc (Nat.le_refl _) _
      have hps0 : PS n (t + 1 + 1) (nxA f n ps 0) := by rw [nxA_zero]; exact ps_nil _ _
      have HO := Lib.hid (And.intro hbl (And.intro hown (And.intro hps (And.intro hwk (And.intro o3 (And.intro b3 hps0))))))
      clear hbl hown hps hwk o3 b3 hps0
      go_wp2_with fail
      go_loopw [7, 8] (fun v i w3 => ∃ (i0 : Nat) (vs2 : List Value), i0 ≤ ps.length ∧ i = .int .i64 i0 ∧ Below wA.heap.size wA w3 ∧ OwnV encN w3 wA.heap.size 3 23 v vs2 (nxA f n ps i0) ∧ PS n (t + 1 + 1) (nxA f n ps i0) ∧ ∀ (k : Nat) (q : List Nat), k < i0 → ps[k]? = some q → f (lastD q) a = false) (fun _ i _ => ps.length - (intOf i).toNat)
      case atStart => exact ⟨0, [], Nat.zero_le _, rfl, HO.out.2.2.2.2.2.1, HO.out.2.2.2.2.1, HO.out.2.2.2.2.2.2, fun k q h => absurd h (by omega)⟩
      case round =>
        obtain ⟨i, vs2, hi, rfl, hb3, ho3, hp3, hno⟩ := hrel
        obtain ⟨wB, rfl⟩ : ∃ wB, wB = wr := ⟨wr, rfl⟩
        have hsz3 := hb3.size
        by_cases hip : i < ps.length
        · have hipi : (i : Int) < (ps.length : Int) := by omega
          obtain ⟨p, hp⟩ : ∃ p, ps[i]? = some p := ⟨_, List.getElem?_eq_getElem hip⟩
          have hpp := HO.out.2.2.1.1 p (List.mem_of_getElem? hp)
          rcases List.eq_nil_or_concat p with rfl | ⟨p0, y, rfl⟩
          · simp at hpp
          rw [List.concat_eq_append] at *
          have hyn : y < n := hpp.2 y (by simp)
          have hpl0 : p0.length ≤ 12 := by have := hpp.1; simp at this; omega
          have hlen : (p0 ++ [y]).length = p0.length + 1 := by simp
          obtain ⟨u, hu, hou⟩ := HO.out.2.1.row i _ hp
          rw [hlen] at hou
          obtain ⟨gp, capp, hup, hgp1, hgp2⟩ := hou.form (by omega)
          subst hup
          obtain ⟨go, capo, hvo, hgo1, hgo2, hcells⟩ := HO.out.2.1.outer (by omega)
          injection hvo with e1 e2 e3
          clear e2 e3
          subst e1
          have g0 := hcells i _ hu
          have g1 := (below_cell hb3 go i hgo2).trans g0
          have g2 := (below_cell hb3 gp p0.length hgp2).trans ((hou.cellAt p0.length (by omega)).trans (by simp : ((p0 ++ [y]).map encN)[p0.length]? = some (encN y)))
          simp only [encN] at g2
          have e7 : ((p0.length + 1 : Nat) : Int) - 1 = (p0.length : Int) := by omega
          have e8 : (p0.length : Int) < ((p0.length + 1 : Nat) : Int) := by omega
          have e9 : (p0.length : Int) < (p0.length : Int) + 1 := by omega
          have kB := below_step HO.out.1 hb3
          obtain ⟨b1, o1, A5, c5, hA, hbb1, f1, hc5, hrow⟩ := (hM.out.1.below kB).row (tabN_row _ hyn)
          obtain ⟨b2, o2, hA5, hbb2, f2⟩ := Reads.cellE hrow (rowN_at (f y) han)
          rw [rowN_len] at f1
          simp only [encB] at f2
          have hyni : (y : Int) < (n : Int) := by omega
          have hani : (a : Int) < (n : Int) := by omega
          subst hA hA5
          have hlast : lastD (p0 ++ [y]) = y := lastD_app _ _
          obtain ⟨x, hx⟩ : ∃ x, x = f y a := ⟨_, rfl⟩
          rw [← hx] at f2
          have HP := Lib.hid (And.intro hb3 (And.intro ho3 (And.intro hp3 (And.intro hno (And.intro hp (And.intro hou (And.intro hx (And.intro hlast hrow))))))))
          have HG0 := Lib.hid g0
          clear g0
          clear hb3 ho3 hp3 hno hp hou hx hlast hrow hcells hu hpp hlen kB
          cases x
          · go_wp2_with fail
            go_quiet (fail)
            go_wp2_with fail
            have hD : Below wA.heap.size wA (wB.drewN nq) := below_draws HP.out.1 _
            have hDB : Below wB.heap.size wB (wB.drewN nq) := below_draws (Below.refl _ _) _
            have hoD := HP.out.2.1.below hDB
            rw [← nxB_zero f n ps i (p0 ++ [y])] at hoD
            have hppj := nxB_ps HP.out.2.2.1 (HO.out.2.2.1.1 _ (List.mem_of_getElem? HP.out.2.2.2.2.1))
            have HD := Lib.hid (And.intro hD (And.intro hoD hppj))
            clear hD hDB hoD hppj g1 g2 f1 f2
            go_loopw [7, 10] (fun v jv w4 => ∃ (jj : Nat) (vs3 : List Value), jj ≤ n ∧ jv = .int .i64 jj ∧ Below wA.heap.size wA w4 ∧ OwnV encN w4 wA.heap.size 3 23 v vs3 (nxB f n ps i (p0 ++ [y]) jj)) (fun _ i _ => n - (intOf i).toNat)
            case atStart => exact ⟨0, vs2, Nat.zero_le _, rfl, HD.out.1, HD.out.2.1⟩
            case round =>
              obtain ⟨j, vs3, hj, rfl, hb4, ho4⟩ := hrel
              obtain ⟨wC, rfl⟩ : ∃ wC, wC = wr := ⟨wr, rfl⟩
              have hsz4 := hb4.size
              by_cases hjn : j < n
              · have hjni : (j : Int) < (n : Int) := by omega
                have kC := below_step HO.out.1 hb4
                obtain ⟨b1', o1', A5, c5', hA, _, f1, _, hrow⟩ := (hM.out.1.below kC).row (tabN_row _ hyn)
                injection hA with hA
                injection hA with e1 e2 e3
                subst e1 e2
                clear e3
                obtain ⟨b2', o2', hA5, hbb2', f2⟩ := Reads.cellE hrow (rowN_at (f y) hjn)
                subst hA5
                rw [rowN_len] at f1
                simp only [encB] at f2
                obtain ⟨hpsl, hnp⟩ := (HO.out.2.1.below hb4).asNest
                obtain ⟨A7, c7, hv7, _, hnn⟩ := ho4.nest
                subst hv7
                have hPS := HD.out.2.2 j hj
                obtain ⟨Y, hY⟩ : ∃ Y, Y = nxB f n ps i (p0 ++ [y]) j := ⟨_, rfl⟩
                rw [← hY] at hPS hnn ho4
                rw [← hY]
                have hYl : Y.length ≤ n := hPS.small
                have hmp := sMet_any (some ⟨go, 0, none⟩) cv ps j wC hnp (fun q hq => by have := (HO.out.2.2.1.1 q hq).1; omega) (by omega)
                have hmn := sMet_any A7 c7 Y j wC hnn (fun q hq => by have := (hPS.1 q hq).1; omega) (by omega)
                have hnx := nxB_next f n ps i (p0 ++ [y]) j
                rw [← hY] at hnx
                unfold addC at hnx
                dsimp only at hnx
                rw [HP.out.2.2.2.2.2.2.2.1] at hnx
                obtain ⟨x, hx⟩ : ∃ x, x = f y j := ⟨_, rfl⟩
                obtain ⟨m1, hm1⟩ : ∃ m1, m1 = metB ps j := ⟨_, rfl⟩
                obtain ⟨m2, hm2⟩ : ∃ m2, m2 = metB Y j := ⟨_, rfl⟩
                rw [← hx] at f2 hnx
                rw [← hm1] at hmp hnx
                rw [← hm2] at hmn hnx
                have hmet : ∀ (Z : List (List Nat)) (AZ : Option Addr) (cZ : Nat) (b : Bool), (AZ = some ⟨go, 0, none⟩ ∧ Z = ps ∧ cZ = cv ∧ b = m1) ∨ (AZ = A7 ∧ Z = Y ∧ cZ = c7 ∧ b = m2) → Calls Tryd.prog 35 #[.slice AZ Z.length cZ, .int .i64 (j : Int)] wC fun e w2 => e = .returned (.bool b) ∧ wC = w2 := by
                  rintro Z AZ cZ b (⟨rfl, rfl, rfl, rfl⟩ | ⟨rfl, rfl, rfl, rfl⟩)
                  · exact hmp
                  · exact hmn
                have HC := Lib.hid (And.intro hb4 (And.intro ho4 hnx))
                have HQ := Lib.hid hmet
                have hYlen : Y.length ≤ 12 := by omega
                have hgoC : go < wC.heap.size := by omega
                have hoo := ho4.out
                have hCx := HP.out.2.2.2.2.2.1
                have hcp := (below_cell hb4 go i hgo2).trans HG0.out
                have hou4 := own_below hCx hb4
                have hrd := (own_reads' hou4).keep (w2 := wC.alloc (.cells #[] 3)) fun b o hlt => World.cell?_alloc_lt wC _ _ (by simpa using hlt)
                have hne0 : (wC.alloc (.cells #[] 3)).ownsRow wC.heap.size 3 1 (.slice (some ⟨wC.heap.size, 0, none⟩) 0 0) 0 [] := own_empty (Nat.le_refl _) rfl
                have HR := Lib.hid (And.intro hoo (And.intro hrd hne0))
                clear hb4 ho4 hnx hmp hmn hmet hrow hnp hnn hpsl hPS hY hx hm1 hm2 kC hoo hCx hou4 hrd hne0
                cases x
                · go_wp2_with fail
                  go_roundw
                  case rel => exact ⟨j + 1, vs3, by omega, by go_num, HC.out.1, by rw [HC.out.2.2]; exact HC.out.2.1⟩
                  case measure => simp [intOf]; omega
                · cases m1
                  · cases m2
                    · go_wp2_with (first
                        | (go_at_call 35; go_must (refine (HQ.out _ _ _ _ (by first | exact .inl ⟨rfl, rfl, rfl, rfl⟩ | exact .inr ⟨rfl, rfl, rfl, rfl⟩)).mono ?_); rintro e w9 ⟨rfl, rfl⟩)
                        | (at_builtin
                           refine wpList_append_reads _ rfl (.tmp 76) (.tmp 80) _ rfl wC.heap.size 3 j0 _ 1 8 Tryd.underlying23 hj0 jz0 jz1 jz2 rfl (by omega) _ 0 _ rfl HR.out.2.2 wC.heap.size _ (p0.length + 1) capp ((p0 ++ [y]).map encN) rfl HR.out.2.1 nat_cells (by simp only [maxLen]; omega) (by omega) (by simp) ?_
                           intro v5 w5 hnew hg5 hat5
                           have hb5 : Below wC.heap.size wC w5 := ((Below.refl _ _).alloc (Nat.le_refl _) _).trans (app_below0 HR.out.2.2 (Nat.le_refl _) (by simp) hg5)
                           rw [Nat.zero_add, List.nil_append] at hnew)
                        | (at_builtin
                           refine wpList_append_reads _ rfl (.tmp 81) (.tmp 83) _ rfl wC.heap.size 3 j0 _ 1 8 Tryd.underlying23 hj0 jz0 jz1 jz2 rfl (by omega) v5 (p0.length + 1) _ rfl (hnew.alloc _) (w5.heap.size + 1) _ 1 1 [encN j] rfl (reads_nat (by omega)) one_n (by simp only [maxLen]; omega) (by omega) (by have := hb5.size; simp; omega) ?_
                           intro v6 w6 hnew6 hg6 hat6
                           have hb6 : Below wC.heap.size wC w6 := hb5.trans (app_below hnew (Nat.le_refl _) hb5.size hg6)
                           obtain ⟨A6, c6, hv6, _, _⟩ := Reads.of_own hnew6
                           subst hv6)
                        | (at_builtin
                           go_must (refine wpList_append_reads _ rfl (.tmp 75) (.tmp 85) _ rfl wA.heap.size 23 k0 _ 1 24 Tryd.underlying66 hk0 kz0 kz1 kz2 rfl (by omega) (.slice A7 Y.length c7) Y.length vs3 rfl ((own_below HR.out.1 hb6).alloc _) (w6.heap.size + 1) _ 1 1 [.slice A6 (p0.length + 1 + 1) c6] rfl (reads_val (by omega)) one_slice (by simp only [maxLen]; omega) (by omega) (by have := hb6.size; simp; omega) ?_)
                           intro v7 w7 hown7 hg7 hat7))
                      go_roundw
                      case rel =>
                        have hpl : (p0 ++ [y] ++ [j]).length = p0.length + 1 + 1 := by simp
                        have hn6 : w6.ownsRow wC.heap.size 3 1 (.slice A6 (p0.length + 1 + 1) c6) (p0 ++ [y] ++ [j]).length ((p0 ++ [y] ++ [j]).map encN) := by
                          rw [hpl, List.map_append]
                          exact hnew6
                        have hp := (HC.out.2.1.below hb6).push (r := p0 ++ [y] ++ [j]) (u := .slice A6 (p0.length + 1 + 1) c6) (own_less hn6 hsz4) (HC.out.2.1.fresh hn6 (Nat.le_refl _)) hown7 hg7 hat7
                        have hnx : nxB f n ps i (p0 ++ [y]) (j + 1) = Y ++ [p0 ++ [y] ++ [j]] := HC.out.2.2
                        rw [← hnx] at hp
                        exact ⟨j + 1, _, by omega, by go_num, (below_step HC.out.1 hb6).trans (app_below (HC.out.2.1.below hb6).out (Nat.le_refl _) (Nat.le_trans hsz4 hb6.size) hg7), hp⟩
                      case measure => simp [intOf]; omega
                    · go_wp2_with (go_at_call 35; go_must (refine (HQ.out _ _ _ _ (by first | exact .inl ⟨rfl, rfl, rfl, rfl⟩ | exact .inr ⟨rfl, rfl, rfl, rfl⟩)).mono ?_); rintro e w9 ⟨rfl, rfl⟩)
                      go_roundw
                      case rel => exact ⟨j + 1, vs3, by omega, by go_num, HC.out.1, by rw [HC.out.2.2]; exact HC.out.2.1⟩
                      case measure => simp [intOf]; omega
                  · go_wp2_with (go_at_call 35; go_must (refine (HQ.out _ _ _ _ (by first | exact .inl ⟨rfl, rfl, rfl, rfl⟩ | exact .inr ⟨rfl, rfl, rfl, rfl⟩)).mono ?_); rintro e w9 ⟨rfl, rfl⟩)
                    go_roundw
                    case rel => exact ⟨j + 1, vs3, by omega, by go_num, HC.out.1, by rw [HC.out.2.2]; exact HC.out.2.1⟩
                    case measure => simp [intOf]; omega
              · have hjn2 : j = n := by omega
                have HC := Lib.hid (And.intro hjn2 (And.intro hb4 ho4))
                clear hjn2 hb4 ho4
                go_wp2_with fail
                go_roundw
                case rel =>
                  obtain ⟨hjn2, hb4, ho4⟩ := HC.out
                  have hA2 := nxA_next (f := f) (n := n) HP.out.2.2.2.2.1
                  rw [hjn2, ← hA2] at ho4
                  have hPS := HD.out.2.2 n (Nat.le_refl _)
                  rw [← hA2] at hPS
                  refine ⟨i + 1, vs3, by omega, by go_num, hb4, ho4, hPS, fun k q hk hq => ?_⟩
                  by_cases hk2 : k < i
                  · exact HP.out.2.2.2.1 k q hk2 hq
                  · obtain rfl : k = i := by omega
                    rw [HP.out.2.2.2.2.1] at hq
                    injection hq with hq
                    rw [← hq, HP.out.2.2.2.2.2.2.2.1]
                    exact HP.out.2.2.2.2.2.2.1.symm
                case measure => simp [intOf]; omega
          · go_wp2_with fail
            go_quiet (fail)
            go_wp2_with fail
            go_ret
            obtain ⟨hb3, ho3, hp3, hno, hp, hou, hx, hlast, hrow⟩ := HP.out
            have hwk := HO.out.2.2.2.1
            rw [show n - t = (n - t - 1) + 1 from by omega, walk_found hp (by rw [hlast]; exact hx.symm) hno] at hwk
            rw [← hwk]
            have hD : Below wA.heap.size wA (wB.drewN nq) := below_draws hb3 _
            refine ⟨_, rfl, below_step HO.out.1 hD, ?_⟩
            simpa using own_below hou hD
        · have hil : i = ps.length := by omega
          have HP := Lib.hid (And.intro hil (And.intro hb3 (And.intro ho3 (And.intro hp3 hno))))
          clear hil hb3 ho3 hp3 hno
          go_wp2_with fail
          go_roundw
          case rel =>
            obtain ⟨hil, hb3, ho3, hp3, hno⟩ := HP.out
            rw [hil, nxA_all] at ho3 hp3
            rw [hil] at hno
            have hwk := HO.out.2.2.2.1
            rw [show n - t = (n - (t + 1)) + 1 from by omega, walk_next hno] at hwk
            exact ⟨t + 1, _, vs2, by omega, by go_num, below_step HO.out.1 hb3, ho3.less hsz, hp3, hwk⟩
          case measure => simp [intOf]; omega
    · have htn2 : t = n := by omega
      have HO := Lib.hid (And.intro htn2 (And.intro hbl hwk))
      clear htn2 hbl hown hps hwk
      go_wp2_with fail
      go_ret
      obtain ⟨htn2, hbl, hwk⟩ := HO.out
      rw [htn2, Nat.sub_self, walkL] at hwk
      rw [← hwk]
      exact ⟨_, rfl, hbl.alloc hsz _, own_empty hsz rfl⟩
end Go.Proofs.YtmcnjmflmpfjlaaDoor
