/- What the model's order is. -/
import Derived.Test.YtmcnjmflmpfjlaaU2
import Derived.Deep.RegionHeld3
namespace Go.Proofs.Ytmcnjmflmpfjlaa
open Go.RowKit

theorem placeG {ids : List Int} {l : List Ctx} (h : okG ids l = true) {i : Nat} {a x : Int} (ha : ids[i]? = some a) (hx : (groupsG ids l)[i]? = some x) : labG ids (groupsG ids l) a = x := labG_at (okG_parts h).1 ha hx
theorem ordG_len (ids : List Int) (l : List Ctx) : (ordG ids l).length = ids.length := by simp [ordG]
theorem ordG_next {ids : List Int} {l : List Ctx} {k : Nat} {a : Int} (ha : ids[k]? = some a) : (ordG ids l).take k ++ [ids.map fun b => upG ids l a b] = (ordG ids l).take (k + 1) := by
  rw [List.take_add_one]
  simp [ordG, ha]
theorem rowG_next {ids : List Int} {f : Int → Bool} {k : Nat} {b : Int} (hb : ids[k]? = some b) : ((ids.take k).map f).map encB ++ [encB (f b)] = ((ids.take (k + 1)).map f).map encB := by
  rw [List.take_add_one, hb]
  simp
theorem reads_bool {w : World} {x : Bool} {t : TypeId} {B : Nat} (hB : w.heap.size < B) : Reads (w.alloc (.cells #[.bool x] t)) B 1 (some ⟨w.heap.size, 0, none⟩) 1 [encB x] := reads_val hB
theorem one_bool {x : Bool} : ∀ u ∈ [encB x], u.oneCell' = true := by
  intro u hu
  simp at hu
  subst hu
  rfl
/-- An order in memory of the call's own. -/
def OrdPost (w : World) (L : List (List Bool)) (e : Ending) (w2 : World) : Prop :=
  ∃ v vs, e = .returned v ∧ Below w.heap.size w w2 ∧ OwnV encB w2 w.heap.size 4 85 v vs L
set_option maxHeartbeats 8000000 in
set_option maxRecDepth 100000 in
theorem sOrder_any (A B : Option Addr) (ca cb : Nat) (ids : List Int) (l : List Ctx) (w : World) (ha : Reads w w.heap.size 1 A ids.length (cellsI ids)) (hb : Reads w w.heap.size 3 B l.length (cellsC l)) (hok : okG ids l = true) :
    Calls Try.prog 76 #[.slice A ids.length ca, .slice B l.length cb] w (OrdPost w (ordG ids l)) := by
  obtain ⟨ib, hib, hbz, hbs, hbb'⟩ := info_parts infoBool
  obtain ⟨ir, hir, hrz, hrs, hrb⟩ := info_parts infoBools
  have hn : ids.length ≤ 12 := validO_len (okG_parts hok).1
  obtain ⟨G, hG⟩ : ∃ G, G = groupsG ids l := ⟨_, rfl⟩
  have hGl : G.length = ids.length := by rw [hG, groupsG_len]
  have hgr := sGroups_any A B ca cb ids l w ha hb hok
  have hdi := fun (w2 : World) (h2 : Below w.heap.size w w2) => sDirect_any A B ca cb ids l w2 (ha.step h2) (hb.step h2) hok
  rw [← hG] at hgr hdi
  obtain ⟨F, hF⟩ : ∃ F, F = dirG ids G l := ⟨_, rfl⟩
  rw [← hF] at hdi
  have hat : ∀ (i : Nat) (a : Int), ids[i]? = some a → ∃ (x : Int) (s : Nat), G[i]? = some x ∧ findI ids x = (s : Int) ∧ s < ids.length ∧ hcG ids G a = s := fun i a hia => by
    have hi : i < G.length := by rw [hGl]; exact (List.getElem?_eq_some_iff.1 hia).1
    obtain ⟨x, hx⟩ : ∃ x, G[i]? = some x := ⟨_, List.getElem?_eq_getElem hi⟩
    have hl := placeG hok hia (hG ▸ hx)
    rw [← hG] at hl
    obtain ⟨j, _, hj, _⟩ := (headsG_all hok).2 i x (hG ▸ hx)
    obtain ⟨h1, h2, _⟩ := placeI_at (List.mem_of_getElem? hj)
    exact ⟨x, placeI ids x, hx, h1, h2, by unfold hcG; rw [hl]⟩
  have hup : ∀ a b, upG ids l a b = clos F ids.length (hcG ids G a) (hcG ids G b) := fun a b => by rw [hF, hG]; rfl
  have HV := Lib.hid (And.intro hGl (And.intro hat hup))
  have HA := Lib.hid (And.intro ha (And.intro hdi hgr))
  have hGb : G.length ≤ 12 := by omega
  clear hG hGl hF hat hup ha hb hdi hgr hok
  go_enter Try.func76, Try.ntmps76
  go_wp2_with fail
  refine HA.out.2.2.mono ?_
  rintro e w2 ⟨v2, rfl, hb2, ho2⟩
  obtain ⟨A2, c2, rfl, _, hr2⟩ := own_slice ho2
  have R2 := Lib.hid (And.intro hb2 hr2)
  clear hb2 ho2 hr2
  go_wp2_with fail
  refine (HA.out.2.1 w2 R2.out.1).mono ?_
  rintro e w3 ⟨v3, vs3, rfl, hb3, ho3⟩
  obtain ⟨A3, c3, rfl, _, hm3⟩ := ho3.nest
  rw [tabN_len] at hm3
  have R3 := Lib.hid (And.intro hb3 hm3)
  have htl : (tabN ids.length F).length = ids.length := tabN_len _ _
  clear hb3 ho3 hm3
  rw [htl]
  clear htl
  go_wp2_with fail
  refine (sClose_any A3 c3 ids.length F w3 R3.out.2 hn).mono ?_
  rintro e w4 ⟨v4, vs4, rfl, hb4, ho4⟩
  obtain ⟨A4, c4, rfl, _, hm4⟩ := ho4.nest
  rw [tabN_len] at hm4
  have htl : (tabN ids.length (clos F ids.length)).length = ids.length := tabN_len _ _
  rw [htl]
  clear htl ho4
  have k24 := below_step R3.out.1 hb4
  have R := Lib.hid (And.intro (HA.out.1.step (below_step R2.out.1 k24)) (And.intro (R2.out.2.step k24) (And.intro hm4 (below_step R2.out.1 k24))))
  have hb5 : Below w4.heap.size w4 (w4.alloc (.cells #[] 85)) := (Below.refl _ _).alloc (Nat.le_refl _) _
  have ho5 : OwnV encB (w4.alloc (.cells #[] 85)) w4.heap.size 4 85 (.slice (some ⟨w4.heap.size, 0, none⟩) 0 0) [] [] := OwnV.nil_ (own_empty (Nat.le_refl _) rfl)
  have O5 := Lib.hid (And.intro hb5 ho5)
  clear hb5 ho5 hb4 hm4 k24
  go_wp2_with fail
  go_loopw [7, 8] (fun v i wr => ∃ (k : Nat) (vs : List Value), k ≤ ids.length ∧ i = .int .i64 k ∧ Below w4.heap.size w4 wr ∧ OwnV encB wr w4.heap.size 4 85 v vs ((ordG ids l).take k)) (fun _ i _ => ids.length - (intOf i).toNat)
  case atStart => exact ⟨0, [], Nat.zero_le _, rfl, O5.out.1, O5.out.2⟩
  case round =>
    obtain ⟨k, vs, hk, rfl, hbl, hown⟩ := hrel
    have hsz := hbl.size
    by_cases hlt : k < ids.length
    · have hli : (k : Int) < (ids.length : Int) := by omega
      obtain ⟨a, hka⟩ : ∃ a, ids[k]? = some a := ⟨_, List.getElem?_eq_getElem hlt⟩
      obtain ⟨x, s, hx, hs1, hs2, hs3⟩ := HV.out.2.1 k a hka
      have hb6 : Below wr.heap.size wr (wr.alloc (.cells #[] 4)) := (Below.refl _ _).alloc (Nat.le_refl _) _
      have ho6 : (wr.alloc (.cells #[] 4)).ownsRow wr.heap.size 4 1 (.slice (some ⟨wr.heap.size, 0, none⟩) 0 0) 0 [] := own_empty (Nat.le_refl _) rfl
      have HO := Lib.hid (And.intro hbl (And.intro hown (And.intro hka (And.intro hx (And.intro hs3 (And.intro hb6 ho6))))))
      clear hbl hown hka hx hs3 hb6 ho6
      go_wp2_with fail
      go_loopw [9, 10] (fun v i w6 => ∃ j : Nat, j ≤ ids.length ∧ i = .int .i64 j ∧ Below wr.heap.size wr w6 ∧ w6.ownsRow wr.heap.size 4 1 v j (((ids.take j).map fun b => upG ids l a b).map encB)) (fun _ i _ => ids.length - (intOf i).toNat)
      case atStart => exact ⟨0, Nat.zero_le _, rfl, HO.out.2.2.2.2.2.1, HO.out.2.2.2.2.2.2⟩
      case round =>
        obtain ⟨j, hj, rfl, hb6, ho6⟩ := hrel
        have hsz6 := hb6.size
        by_cases hjj : j < ids.length
        · have hji : (j : Int) < (ids.length : Int) := by omega
          obtain ⟨b, hjb⟩ : ∃ b, ids[j]? = some b := ⟨_, List.getElem?_eq_getElem hjj⟩
          obtain ⟨y, t, hy, ht1, ht2, ht3⟩ := HV.out.2.1 j b hjb
          have k46 := below_step HO.out.1 hb6
          have rI := R.out.1.step k46
          have rG := R.out.2.1.below k46
          have rM := R.out.2.2.1.below k46
          obtain ⟨b7, off7, hA2, hbb7, hc7⟩ := rG.ints (by have := HV.out.1; omega)
          subst hA2
          have f1 := hc7 k _ HO.out.2.2.2.1
          have f2 := hc7 j _ hy
          obtain ⟨b4, off4, A5, c5, hA4, hbb4, f3, hc5, hrow⟩ := rM.row (tabN_row _ hs2)
          rw [rowN_len] at f3
          obtain ⟨b5, off5, hA5, hbb5, f4⟩ := Reads.cellE hrow (rowN_at _ ht2)
          subst hA4 hA5
          simp only [encB] at f4
          obtain ⟨z, hz0⟩ : ∃ z, clos F ids.length s t = z := ⟨_, rfl⟩
          rw [hz0] at f4
          have HZ : Hid (upG ids l a b = z) := by
            show upG ids l a b = z
            rw [HV.out.2.2, HO.out.2.2.2.2.1, ht3, hz0]
          have hkG : (k : Int) < (G.length : Int) := by rw [HV.out.1]; omega
          have hjG : (j : Int) < (G.length : Int) := by rw [HV.out.1]; omega
          have hsn : (s : Int) < (ids.length : Int) := by omega
          have htn : (t : Int) < (ids.length : Int) := by omega
          have HX := Lib.hid (And.intro hb6 (And.intro ho6 (And.intro hjb rI)))
          clear hb6 ho6 hjb hy ht3 hc7 hrow hz0 rI rG rM k46
          go_wp2_with fail
          have hoD := (own_below HX.out.2.1 (below_draws (Below.refl wr.heap.size wr) 1)).alloc (.cells #[.bool z] 4)
          have HD := Lib.hid (And.intro hoD (HX.out.2.2.2.step (below_draws (Below.refl wr.heap.size wr) 1)))
          have hSA : ((wr.drewN 1).alloc (.cells #[.bool z] 4)).cell? ⟨b7, off7 + k, none⟩ = some (.int .i64 x) ∧ ((wr.drewN 1).alloc (.cells #[.bool z] 4)).cell? ⟨b7, off7 + j, none⟩ = some (.int .i64 y) ∧ ((wr.drewN 1).alloc (.cells #[.bool z] 4)).cell? ⟨b4, off4 + s, none⟩ = some (.slice (some ⟨b5, off5, none⟩) ids.length c5) ∧ ((wr.drewN 1).alloc (.cells #[.bool z] 4)).cell? ⟨b5, off5 + t, none⟩ = some (.bool z) :=
            ⟨(World.cell?_alloc_lt (wr.drewN 1) _ _ (show b7 < wr.heap.size by omega)).trans f1, (World.cell?_alloc_lt (wr.drewN 1) _ _ (show b7 < wr.heap.size by omega)).trans f2, (World.cell?_alloc_lt (wr.drewN 1) _ _ (show b4 < wr.heap.size by omega)).trans f3, (World.cell?_alloc_lt (wr.drewN 1) _ _ (show b5 < wr.heap.size by omega)).trans f4⟩
          have HS := Lib.hid hSA
          clear hoD hSA
          go_region_held3 (fun w' => w'.cell? ⟨b7, off7 + k, none⟩ = some (.int .i64 x) ∧ w'.cell? ⟨b7, off7 + j, none⟩ = some (.int .i64 y) ∧ w'.cell? ⟨b4, off4 + s, none⟩ = some (.slice (some ⟨b5, off5, none⟩) ids.length c5) ∧ w'.cell? ⟨b5, off5 + t, none⟩ = some (.bool z))
            (first
              | assumption
              | exact ⟨f1, f2, f3, f4⟩
              | exact HS.out
              | exact h8)
            (first
              | (go_at_call 79
                 go_must (refine (sPlace_any A ca ids _ _ HD.out.2 (by omega)).mono ?_)
                 first | rw [hs1] | rw [ht1]
                 rintro e xa ⟨rfl, rfl⟩)
              | (refine step_append_want ((wr.drewN 1).alloc (.cells #[.bool z] 4)) (by rfl) (.tmp 32) (.tmp 50) _ (by rfl) _ 4 ib _ 1 1 Try.underlying85 hib hbz hbs hbb' rfl (by omega) u9 j _ (by rfl) HD.out.1 ((wr.drewN 1).heap.size + 1) _ 1 1 [encB z] (by rfl) (reads_bool (by simp)) one_bool (by simp only [maxLen]; omega) (by omega) (by simp [World.drewN]; omega) ?_
                 intro v8 w8 hown8 hg8 hat8
                 have b8 : Below w4.heap.size (wr.drewN 1) w8 := app_below (own_below HX.out.2.1 (below_draws (Below.refl wr.heap.size wr) 1)) hsz (Nat.le_trans hsz hsz6) hg8
                 have h8 : w8.cell? ⟨b7, off7 + k, none⟩ = some (.int .i64 x) ∧ w8.cell? ⟨b7, off7 + j, none⟩ = some (.int .i64 y) ∧ w8.cell? ⟨b4, off4 + s, none⟩ = some (.slice (some ⟨b5, off5, none⟩) ids.length c5) ∧ w8.cell? ⟨b5, off5 + t, none⟩ = some (.bool z) := ⟨(b8.cell hbb7).trans f1, (b8.cell hbb7).trans f2, (b8.cell hbb4).trans f3, (b8.cell hbb5).trans f4⟩))
          clear f1 f2 f3 f4 h8
          go_wp2_with fail
          go_roundw
          case rel =>
            rw [← HZ.out, rowG_next HX.out.2.2.1] at hown8
            exact ⟨j + 1, by omega, by go_num, (below_step HX.out.1 (below_draws (Below.refl wr.heap.size wr) 1)).trans (app_below (own_below HX.out.2.1 (below_draws (Below.refl wr.heap.size wr) 1)) (Nat.le_refl _) hsz6 hg8), hown8⟩
          case measure => simp [intOf]; omega
        · have hjn : j = ids.length := by omega
          have hlen : (ids.map fun b => upG ids l a b).length = ids.length := by simp
          rw [hjn, List.take_length] at ho6
          obtain ⟨A9, c9, hv9, _, _⟩ := own_slice ho6
          subst hv9
          have HX := Lib.hid (And.intro hb6 ho6)
          have hLk : ((ordG ids l).take k).length = k := by rw [List.length_take, ordG_len]; omega
          have hoo := own_below HO.out.2.1.out hb6
          rw [hLk] at hoo
          have HOO := Lib.hid (And.intro hoo hLk)
          clear hb6 ho6 hoo hLk hlen hjn
          go_wp2_with (at_builtin
                       go_must (refine wpList_append_reads _ rfl (.tmp 52) (.tmp 54) _ rfl w4.heap.size 85 ir _ 1 24 Try.underlying83 hir hrz hrs hrb rfl (by omega) u7 k vs rfl (HOO.out.1.alloc _) (wr.heap.size + 1) _ 1 1 [.slice A9 ids.length c9] rfl (reads_val (by omega)) one_slice (by simp only [maxLen]; omega) (by omega) (by simp; omega) ?_)
                       intro v8 w8 hown8 hg8 hat8)
          go_roundw
          case rel =>
            have hp := (HO.out.2.1.below HX.out.1).push (r := ids.map fun b => upG ids l a b) (u := .slice A9 ids.length c9) (by rw [List.length_map]; exact own_less HX.out.2 hsz) (HO.out.2.1.fresh HX.out.2 (Nat.le_refl _)) (by rw [HOO.out.2]; exact hown8) hg8 hat8
            rw [ordG_next HO.out.2.2.1] at hp
            exact ⟨k + 1, _, by omega, by go_num, (below_step HO.out.1 HX.out.1).trans (app_below (HO.out.2.1.below HX.out.1).out (Nat.le_refl _) (Nat.le_trans hsz hsz6) hg8), hp⟩
          case measure => simp [intOf]; omega
    · have hkn : k = ids.length := by omega
      have hkl : (ordG ids l).take k = ordG ids l := List.take_of_length_le (by rw [ordG_len]; omega)
      rw [hkl] at hown
      have HO := Lib.hid (And.intro hbl hown)
      clear hbl hown hkl hkn
      go_wp2_with fail
      go_ret
      exact ⟨_, vs, rfl, below_step R.out.2.2.2 HO.out.1, HO.out.2.less R.out.2.2.2.size⟩
end Go.Proofs.Ytmcnjmflmpfjlaa
