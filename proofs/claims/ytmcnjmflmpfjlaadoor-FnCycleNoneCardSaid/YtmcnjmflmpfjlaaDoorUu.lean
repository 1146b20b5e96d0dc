/- Texts that lie together in one: U1, U2, U3, U4. -/
import Derived.Test.YtmcnjmflmpfjlaaDoorSs
import Derived.Test.YtmcnjmflmpfjlaaDoorTab
import Derived.Test.YtmcnjmflmpfjlaaDoorPe
import Derived.Deep.Light
import Derived.Deep.RegionHeld3
/- What the model's table of what lies directly above is. -/
namespace Go.Proofs.YtmcnjmflmpfjlaaDoor
open Go.RowKit

def encB (b : Bool) : Value := .bool b
theorem infoBool : (Tryd.prog.info? 4).map (fun i => (i.zero, i.size, i.bytes)) = some (some (.bool false), 1, 1) := by kernel_rfl
theorem infoBools : (Tryd.prog.info? 65).map (fun i => (i.zero, i.size, i.bytes)) = some (some (.slice none 0 0), 1, 24) := by kernel_rfl
theorem zero_bools (n : Nat) : (madeCells (Value.bool false).cells (n * 1)).toList = (rowN n fun _ => false).map encB := by
  refine List.ext_getElem? fun i => ?_
  by_cases hi : i < n
  · simp [rowN, encB, madeCells, hi, Value.cells, Nat.mod_one]
  · simp [rowN, madeCells, hi]
theorem reads_val {w : World} {u : Value} {t : TypeId} {B : Nat} (hB : w.heap.size < B) : Reads (w.alloc (.cells #[u] t)) B 1 (some ⟨w.heap.size, 0, none⟩) 1 [u] := by
  refine ⟨rfl, fun _ => ⟨_, 0, rfl, hB, fun j x hx => ?_⟩⟩
  rw [cell_of_row _ _ _ _ _ _ (heap_alloc_new _ _)]
  simpa using hx
theorem one_slice {A : Option Addr} {n c : Nat} : ∀ u ∈ [Value.slice A n c], u.oneCell' = true := by
  intro u hu
  simp at hu
  subst hu
  rfl
theorem dirG_next {ids G : List Int} {l : List Ctx} {k : Nat} {r : Ctx} (hr : l[k]? = some r) (p q : Nat) : dirG ids G (l.take (k + 1)) p q = (dirG ids G (l.take k) p q || (decide (r.area = 1) && (decide (hcG ids G r.id = p) && decide (hcG ids G r.kind = q)))) := by
  unfold dirG
  rw [List.take_add_one, hr, List.any_append]
  simp
theorem tab_zero (n k : Nat) : List.replicate k (rowN n fun _ => false) ++ [rowN n fun _ => false] = List.replicate (k + 1) (rowN n fun _ => false) := List.replicate_succ'.symm
theorem tab_start (n : Nat) : List.replicate n (rowN n fun _ => false) = tabN n fun _ _ => false := by
  refine List.ext_getElem? fun i => ?_
  by_cases hi : i < n
  · rw [tabN_row _ hi, List.getElem?_replicate, if_pos hi]
  · rw [List.getElem?_eq_none (by simp; omega), List.getElem?_eq_none (by rw [tabN_len]; omega)]
/-- A table of n places in memory of the call's own. -/
def TabPost (w : World) (n : Nat) (f : Nat → Nat → Bool) (e : Ending) (w2 : World) : Prop :=
  ∃ v vs, e = .returned v ∧ Below w.heap.size w w2 ∧ OwnV encB w2 w.heap.size 4 65 v vs (tabN n f)
set_option maxHeartbeats 4000000 in
set_option maxRecDepth 100000 in
theorem sDirect_any (A B : Option Addr) (ca cb : Nat) (ids : List Int) (l : List Ctx) (w : World) (ha : Reads w w.heap.size 1 A ids.length (cellsI ids)) (hb : Reads w w.heap.size 3 B l.length (cellsC l)) (hok : okG ids l = true) :
    Calls Tryd.prog 15 #[.slice A ids.length ca, .slice B l.length cb] w (TabPost w ids.length (dirG ids (groupsG ids l) l)) := by
  obtain ⟨ib, hib, hbz, hbs, hbb⟩ := info_parts infoBool
  obtain ⟨ir, hir, hrz, hrs, hrb⟩ := info_parts infoBools
  obtain ⟨hv, hvr, hin⟩ := okG_parts hok
  have hn : ids.length ≤ 12 := validO_len hv
  have hl : l.length ≤ 30 := validO_len hvr
  obtain ⟨G, hG⟩ : ∃ G, G = groupsG ids l := ⟨_, rfl⟩
  have hGl : G.length = ids.length := by rw [hG, groupsG_len]
  have hgr := sGroups_any A B ca cb ids l w ha hb hok
  rw [← hG] at hgr ⊢
  have hhc : ∀ a, a ∈ ids → labG ids G a ∈ ids ∧ hcG ids G a < ids.length := fun a h => by
    rw [hG]
    refine ⟨?_, hcG_lt hok h⟩
    obtain ⟨j, _, hj, _⟩ := (headsG_all hok).2 _ _ (labG_of (groupsG_len ids l) h)
    exact List.mem_of_getElem? hj
  have HV := Lib.hid (And.intro hin (And.intro hGl hhc))
  have HA := Lib.hid (And.intro ha hb)
  have hGb : G.length ≤ 12 := by omega
  clear hv hvr hin hok hG hGl hhc ha hb
  go_enter Tryd.func15, Tryd.ntmps15
  go_wp2_with fail
  refine hgr.mono ?_
  rintro e w2 ⟨v2, rfl, hb2, ho2⟩
  obtain ⟨A2, c2, rfl, _, hr2⟩ := own_slice ho2
  have hs2 := hb2.size
  have R := Lib.hid (And.intro (HA.out.1.step hb2) (And.intro (HA.out.2.step hb2) (And.intro hr2 hb2)))
  have hb3 : Below w2.heap.size w2 (w2.alloc (.cells #[] 65)) := (Below.refl _ _).alloc (Nat.le_refl _) _
  have ho3 : OwnV encB (w2.alloc (.cells #[] 65)) w2.heap.size 4 65 (.slice (some ⟨w2.heap.size, 0, none⟩) 0 0) [] [] := OwnV.nil_ (own_empty (Nat.le_refl _) rfl)
  have O3 := Lib.hid (And.intro hb3 ho3)
  clear hgr hb2 ho2 hr2 hb3 ho3
  go_wp2_with fail
  go_loopw [6, 7] (fun v i wr => ∃ (k : Nat) (vs : List Value), k ≤ ids.length ∧ i = .int .i64 k ∧ Below w2.heap.size w2 wr ∧ OwnV encB wr w2.heap.size 4 65 v vs (List.replicate k (rowN ids.length fun _ => false))) (fun _ i _ => ids.length - (intOf i).toNat)
  case atStart => exact ⟨0, [], Nat.zero_le _, rfl, O3.out.1, O3.out.2⟩
  case round =>
    obtain ⟨k, vs, hk, rfl, hbl, hown⟩ := hrel
    have hsz := hbl.size
    by_cases hlt : k < ids.length
    · have hli : (k : Int) < (ids.length : Int) := by omega
      have HB := Lib.hid hbl
      have HO := Lib.hid hown
      clear hbl hown
      go_wp2_with (first
        | (at_make
           go_must (refine wpList_make_full _ rfl (.tmp 23) (.tmp 23) _ rfl wr.heap.size 4 ib _ 1 Tryd.underlying65 hib hbz hbs _ _ _ _ ids.length rfl rfl rfl rfl (by rw [hbb]; omega) (by simp only [maxLen]; omega) (Nat.le_refl _) ?_)
           intro w5 hnew hg5
           rw [zero_bools] at hnew)
        | (at_builtin
           go_must (refine wpList_append_reads _ rfl (.tmp 21) (.tmp 25) _ rfl w2.heap.size 65 ir _ 1 24 Tryd.underlying40 hir hrz hrs hrb rfl (by omega) u6 (List.replicate k (rowN ids.length fun _ => false)).length vs rfl ((own_below HO.out.out ((Below.refl _ _).grown hg5 (Nat.le_refl _) (fun k hk => by cases hk))).alloc _) (w5.heap.size + 1) _ 1 1 [.slice (some ⟨wr.heap.size, 0, none⟩) ids.length ids.length] rfl (reads_val (by omega)) one_slice (by simp only [maxLen]; simp; omega) (by simp; omega) (by have := hg5.size; simp; omega) ?_)
           intro v6 w6 hown6 hg6 hat6))
      go_roundw
      case rel =>
        have hb5 : Below wr.heap.size wr w5 := (Below.refl _ _).grown hg5 (Nat.le_refl _) (fun k hk => by cases hk)
        have hp := (HO.out.below hb5).push (r := rowN ids.length fun _ => false) (u := .slice (some ⟨wr.heap.size, 0, none⟩) ids.length ids.length) (by rw [rowN_len]; exact own_less hnew hsz) (HO.out.fresh hnew (Nat.le_refl _)) hown6 hg6 hat6
        rw [tab_zero] at hp
        exact ⟨k + 1, _, by omega, by go_num, (below_step HB.out hb5).trans (app_below (HO.out.below hb5).out (Nat.le_refl _) (Nat.le_trans hsz hb5.size) hg6), hp⟩
      case measure => simp [intOf]; omega
    · have hkl : k = ids.length := by omega
      subst hkl
      rw [tab_start] at hown
      have HO := Lib.hid (And.intro hbl hown)
      clear hbl hown
      go_wp2_with fail
      go_loopw [8] (fun i w3 => ∃ k : Nat, k ≤ l.length ∧ i = .int .i64 k ∧ Below w2.heap.size w2 w3 ∧ OwnV encB w3 w2.heap.size 4 65 u6 vs (tabN ids.length (dirG ids G (l.take k)))) (fun i _ => l.length - (intOf i).toNat)
      case atStart => exact ⟨0, Nat.zero_le _, rfl, HO.out.1, by rw [show dirG ids G (l.take 0) = fun _ _ => false from by funext a b; simp [dirG]]; exact HO.out.2⟩
      case round =>
        obtain ⟨k, hk, rfl, hbl, hown⟩ := hrel
        have hsz := hbl.size
        by_cases hlt : k < l.length
        · obtain ⟨b, off, hB, hbb, hc⟩ := (R.out.2.1.below hbl).ctx (by omega)
          subst hB
          obtain ⟨⟨xa, xb, xc⟩, hr⟩ : ∃ r, l[k]? = some r := ⟨_, List.getElem?_eq_getElem hlt⟩
          obtain ⟨c1, c2', c3⟩ := hc k _ hr
          dsimp only at c1 c2' c3
          have hkl : (k : Int) < (l.length : Int) := by omega
          by_cases h1 : xc = 1
          · have e1 : (xc == 1) = true := by simp [h1]
            obtain ⟨hm1, hm2⟩ := HV.out.1 _ (List.mem_of_getElem? hr)
            dsimp only at hm1 hm2
            obtain ⟨hp1, hp2, _⟩ := placeI_at hm1
            obtain ⟨hq1, hq2, _⟩ := placeI_at hm2
            obtain ⟨p, hp⟩ : ∃ p, placeI ids xa = p := ⟨_, rfl⟩
            obtain ⟨q, hq⟩ : ∃ q, placeI ids xb = q := ⟨_, rfl⟩
            rw [hp] at hp1 hp2
            rw [hq] at hq1 hq2
            obtain ⟨y, hy⟩ : ∃ y, labG ids G xa = y := ⟨_, rfl⟩
            obtain ⟨z, hz⟩ : ∃ z, labG ids G xb = z := ⟨_, rfl⟩
            have gy : G[p]? = some y := by rw [← hp, ← hy]; exact labG_of HV.out.2.1 hm1
            have gz : G[q]? = some z := by rw [← hq, ← hz]; exact labG_of HV.out.2.1 hm2
            obtain ⟨hmy, hcy⟩ := HV.out.2.2 xa hm1
            obtain ⟨hmz, hcz⟩ := HV.out.2.2 xb hm2
            unfold hcG at hcy hcz
            rw [hy] at hmy hcy
            rw [hz] at hmz hcz
            obtain ⟨hs1, _, _⟩ := placeI_at hmy
            obtain ⟨ht1, _, _⟩ := placeI_at hmz
            obtain ⟨s, hs⟩ : ∃ s, placeI ids y = s := ⟨_, rfl⟩
            obtain ⟨t, ht⟩ : ∃ t, placeI ids z = t := ⟨_, rfl⟩
            rw [hs] at hs1 hcy
            rw [ht] at ht1 hcz
            have HT : Hid (tabN ids.length (dirG ids G (l.take (k + 1))) = tabN ids.length (fun a b => if a = s ∧ b = t then true else dirG ids G (l.take k) a b)) := by
              show _ = _
              refine tabN_congr fun a b _ _ => ?_
              rw [dirG_next hr]
              unfold hcG
              dsimp only
              rw [hy, hz, hs, ht, h1]
              by_cases hab : a = s ∧ b = t
              · obtain ⟨rfl, rfl⟩ := hab
                simp
              · rw [if_neg hab]
                have : (decide (s = a) && decide (t = b)) = false := by
                  rw [Bool.and_eq_false_iff]
                  by_cases h : a = s
                  · exact .inr (by simp; intro e; exact hab ⟨h, e.symm⟩)
                  · exact .inl (by simp; intro e; exact h e.symm)
                simp [this]
            have hpG : p < G.length := by rw [HV.out.2.1]; exact hp2
            have hqG : q < G.length := by rw [HV.out.2.1]; exact hq2
            obtain ⟨b4, off4, hA2, hbb4, hc4⟩ := (R.out.2.2.1.below hbl).ints (by omega)
            subst hA2
            have d1 := hc4 p _ gy
            have d2 := hc4 q _ gz
            have hpn : (p : Int) < (G.length : Int) := by omega
            have hqn : (q : Int) < (G.length : Int) := by omega
            have hsn : (s : Int) < (ids.length : Int) := by omega
            have htn : (t : Int) < (ids.length : Int) := by omega
            obtain ⟨g, cap, hvg, hgb, hgs, f1, f2⟩ := hown.cell (tabN_row _ hcy) (rowN_at _ hcz)
            rw [rowN_len] at hvg
            obtain ⟨go, capo, hvo, hgo1, hgo2, hou⟩ := hown.outer (by rw [tabN_len]; omega)
            rw [tabN_len] at hvo
            have f3 := hou s _ hvg
            subst hvo
            have HI := Lib.hid (R.out.1.step hbl)
            have HX := Lib.hid (And.intro hbl (And.intro hown hvg))
            clear hc hc4 hr h1 hm1 hm2 hp hq hy hz gy gz hmy hmz hs ht hbl hown hvg hou
            go_wp2_with (first
              | (go_at_call 25
                 go_must (refine (sPlace_any A ca ids _ _ HI.out (by omega)).mono ?_)
                 go_must (first | rw [hp1] | rw [hq1] | rw [hs1] | rw [ht1])
                 rintro e w9 ⟨rfl, rfl⟩))
            refine region_still_tail2 9 (by kernel_rfl) (by kernel_rfl) ?_
            intro W hW hz hbw
            simp only [List.take_succ_cons, List.take_zero, List.drop_succ_cons, List.drop_zero]
            have haW := HI.out.step hbw
            repeat (first | still_step | still_call (sPlace_to A ca ids _ s _ haW (by omega) hs1) | still_call (sPlace_to A ca ids _ t _ haW (by omega) ht1))
            refine wpStill_nil ?_
            have w1' := (World.cell?_of_block (w := wr) (a := ⟨g, t, none⟩) (hbw.block g hgs)).trans f1
            have w2' := (World.frozen?_of_block (w := wr) (a := ⟨g, t, none⟩) (hbw.block g hgs)).trans f2
            simp only [encB] at w1'
            have HW := Lib.hid hbw
            clear hW hz hbw haW f1 f2 f3 c1 c2' c3 d1 d2
            go_wp2_with fail
            go_roundw
            case rel =>
              obtain ⟨hbl, hown, hvg⟩ := HX.out
              have hownW := (hown.below HW.out).store (j := t) (tabN_row _ hcy) (by rw [rowN_len]; exact hvg) true
              rw [tabN_set, ← HT.out] at hownW
              refine ⟨k + 1, by omega, by go_num, (below_step hbl HW.out).setCell (by simpa using hgb) _, hownW⟩
            case measure => simp [intOf]; omega
          · have e1 : (xc == 1) = false := by simp [h1]
            have HT : Hid (tabN ids.length (dirG ids G (l.take (k + 1))) = tabN ids.length (dirG ids G (l.take k))) := by
              show _ = _
              refine tabN_congr fun a b _ _ => ?_
              rw [dirG_next hr]
              simp [h1]
            clear hc hr h1
            go_wp2_with fail
            go_roundw
            case rel => exact ⟨k + 1, by omega, by go_num, hbl, by rw [HT.out]; exact hown⟩
            case measure => simp [intOf]; omega
        · have hkl : k = l.length := by omega
          have HK := Lib.hid (And.intro hkl (And.intro hbl hown))
          clear hkl hbl hown
          go_wp2_with fail
          go_ret
          obtain ⟨hkl, hbl, hown⟩ := HK.out
          rw [hkl, List.take_length] at hown
          exact ⟨_, vs, rfl, below_step R.out.2.2.2 hbl, hown.less hs2⟩
end Go.Proofs.YtmcnjmflmpfjlaaDoor

/- What the model's closing of a table is. -/
namespace Go.Proofs.YtmcnjmflmpfjlaaDoor
open Go.RowKit

/-- The table while place k is gone through: rows below i, and of row i the columns below j, are done. -/
def mixB (f : Nat → Nat → Bool) (k i j a b : Nat) : Bool := if a < i ∨ (a = i ∧ b < j) then wayB f (k + 1) a b else wayB f k a b
theorem mixB_col (f : Nat → Nat → Bool) (k i j a : Nat) : mixB f k i j a k = wayB f k a k := by
  unfold mixB
  split
  · rw [wayB]
    cases wayB f k a k <;> simp
  · rfl
theorem mixB_row (f : Nat → Nat → Bool) (k i j b : Nat) : mixB f k i j k b = wayB f k k b := by
  unfold mixB
  split
  · rw [wayB]
    cases wayB f k k b <;> simp
  · rfl
theorem mixB_here (f : Nat → Nat → Bool) (k i j : Nat) : mixB f k i j i j = wayB f k i j := by
  unfold mixB
  rw [if_neg (by omega)]
theorem mixB_set (f : Nat → Nat → Bool) (n k i j : Nat) (x : Bool) (hx : x = wayB f (k + 1) i j) : tabN n (fun a b => if a = i ∧ b = j then x else mixB f k i j a b) = tabN n (mixB f k i (j + 1)) := by
  refine tabN_congr fun a b _ _ => ?_
  subst hx
  unfold mixB
  by_cases h : a = i ∧ b = j
  · obtain ⟨rfl, rfl⟩ := h
    rw [if_pos ⟨rfl, rfl⟩, if_pos (by omega)]
  · rw [if_neg h]
    by_cases h2 : a < i ∨ (a = i ∧ b < j)
    · rw [if_pos h2, if_pos (by omega)]
    · rw [if_neg h2, if_neg (by omega)]
theorem mixB_next (f : Nat → Nat → Bool) (n k i : Nat) : tabN n (mixB f k i n) = tabN n (mixB f k (i + 1) 0) := by
  refine tabN_congr fun a b _ hb => ?_
  unfold mixB
  by_cases h : a < i ∨ (a = i ∧ b < n)
  · rw [if_pos h, if_pos (by omega)]
  · rw [if_neg h, if_neg (by omega)]
theorem mixB_first (f : Nat → Nat → Bool) (n k : Nat) : tabN n (mixB f k 0 0) = tabN n (wayB f k) := tabN_congr fun a b _ _ => by unfold mixB; rw [if_neg (by omega)]
theorem mixB_last (f : Nat → Nat → Bool) (n k : Nat) : tabN n (mixB f k n 0) = tabN n (wayB f (k + 1)) := tabN_congr fun a b ha _ => by unfold mixB; rw [if_pos (by omega)]
theorem tabN_next (n : Nat) (f : Nat → Nat → Bool) {k : Nat} (hk : k < n) : (tabN n f).take k ++ [rowN n (f k)] = (tabN n f).take (k + 1) := by
  rw [List.take_add_one, tabN_row _ hk]; rfl

end Go.Proofs.YtmcnjmflmpfjlaaDoor

/- What the model's order is. -/
namespace Go.Proofs.YtmcnjmflmpfjlaaDoor
open Go.RowKit

theorem placeG {ids : List Int} {l : List Ctx} (h : okG ids l = true) {i : Nat} {a x : Int} (ha : ids[i]? = some a) (hx : (groupsG ids l)[i]? = some x) : labG ids (groupsG ids l) a = x := labG_at (okG_parts h).1 ha hx
theorem ordG_len (ids : List Int) (l : List Ctx) : (ordG ids l).length = ids.length := by simp [ordG]
theorem ordG_next {ids : List Int} {l : List Ctx} {k : Nat} {a : Int} (ha : ids[k]? = some a) : (ordG ids l).take k ++ [ids.map fun b => upG ids l a b] = (ordG ids l).take (k + 1) := by
  rw [List.take_add_one]
  simp [ordG, ha]
theorem rowG_next {ids : List Int} {f : Int → Bool} {k : Nat} {b : Int} (hb : ids[k]? = some b) : ((ids.take k).map f).map encB ++ [encB (f b)] = ((ids.take (k + 1)).map f).map encB := by
  rw [List.take_add_one, hb]
  simp
theorem reads_bool {w : World} {x : Bool} {t : TypeId} {B : Nat} (hB : w.heap.size < B) : Reads (w.alloc (.cells #[.bool x] t)) B 1 (some ⟨w.heap.size, 0, none⟩) 1 [encB x] := reads_val hB
theorem one_bool {x : Bool} : ∀ u ∈ [encB x], u.oneCell' = true := by
  intro u hu
  simp at hu
  subst hu
  rfl
/-- An order in memory of the call's own. -/
def OrdPost (w : World) (L : List (List Bool)) (e : Ending) (w2 : World) : Prop :=
  ∃ v vs, e = .returned v ∧ Below w.heap.size w w2 ∧ OwnV encB w2 w.heap.size 4 65 v vs L
end Go.Proofs.YtmcnjmflmpfjlaaDoor

/- What the model's order is for any arguments, and whether it is valid. -/
namespace Go.Proofs.YtmcnjmflmpfjlaaDoor
open Go.RowKit

theorem ordOk_of {ids : List Int} {l : List Ctx} (hok : okG ids l = true) (h : ∀ (k : Nat) (a : Int), ids[k]? = some a → upG ids l a a = false) : ordOkG ids l = true := by
  unfold ordOkG
  rw [hok, Bool.true_and, List.all_eq_true]
  intro a ha
  obtain ⟨k, hk⟩ := List.mem_iff_getElem?.1 ha
  rw [h k a hk]; rfl
theorem ordOk_no {ids : List Int} {l : List Ctx} {k : Nat} {a : Int} (hk : ids[k]? = some a) (h : upG ids l a a = true) : ordOkG ids l = false := by
  unfold ordOkG
  rw [Bool.and_eq_false_iff]
  right
  rw [List.all_eq_false]
  exact ⟨a, List.mem_of_getElem? hk, by simp [h]⟩
end Go.Proofs.YtmcnjmflmpfjlaaDoor
