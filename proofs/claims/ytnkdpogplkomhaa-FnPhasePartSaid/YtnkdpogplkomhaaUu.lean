/- Texts that lie together in one: U1, U2, U3, U4. -/
import Derived.Test.YtnkdpogplkomhaaSs
import Derived.Test.YtnkdpogplkomhaaTw
import Derived.Test.YtnkdpogplkomhaaPe
import Derived.Deep.Light
import Derived.Deep.RegionHeld3
/- What the model's table of what lies directly above is. -/
namespace Go.Proofs.Ytnkdpogplkomhaa
open Go.RowKit

theorem dirG_next {ids G : List Int} {l : List Ctx} {k : Nat} {r : Ctx} (hr : l[k]? = some r) (p q : Nat) : dirG ids G (l.take (k + 1)) p q = (dirG ids G (l.take k) p q || (decide (r.area = 1) && (decide (hcG ids G r.id = p) && decide (hcG ids G r.kind = q)))) := by
  unfold dirG
  rw [List.take_add_one, hr, List.any_append]
  simp
theorem tab_zero (n k : Nat) : List.replicate k (rowN n fun _ => false) ++ [rowN n fun _ => false] = List.replicate (k + 1) (rowN n fun _ => false) := List.replicate_succ'.symm
theorem tab_start (n : Nat) : List.replicate n (rowN n fun _ => false) = tabN n fun _ _ => false := by
  refine List.ext_getElem? fun i => ?_
  by_cases hi : i < n
  · rw [tabN_row _ hi, List.getElem?_replicate, if_pos hi]
  · rw [List.getElem?_eq_none (by simp; omega), List.getElem?_eq_none (by rw [tabN_len]; omega)]
/-- A table of n places in memory of the call's own. -/
def TabPost (w : World) (n : Nat) (f : Nat → Nat → Bool) (e : Ending) (w2 : World) : Prop :=
  ∃ v vs, e = .returned v ∧ Below w.heap.size w w2 ∧ OwnV encB w2 w.heap.size 4 85 v vs (tabN n f)
set_option maxHeartbeats 4000000 in
set_option maxRecDepth 100000 in
theorem sDirect_any (A B : Option Addr) (ca cb : Nat) (ids : List Int) (l : List Ctx) (w : World) (ha : Reads w w.heap.size 1 A ids.length (cellsI ids)) (hb : Reads w w.heap.size 3 B l.length (cellsC l)) (hok : okG ids l = true) :
    Calls Try.prog 100 #[.slice A ids.length ca, .slice B l.length cb] w (TabPost w ids.length (dirG ids (groupsG ids l) l)) := by
  obtain ⟨ib, hib, hbz, hbs, hbb⟩ := info_parts infoBool
  obtain ⟨ir, hir, hrz, hrs, hrb⟩ := info_parts infoBools
  obtain ⟨hv, hvr, hin⟩ := okG_parts hok
  have hn : ids.length ≤ 12 := validO_len hv
  have hl : l.length ≤ 30 := validO_len hvr
  obtain ⟨G, hG⟩ : ∃ G, G = groupsG ids l := ⟨_, rfl⟩
  have hGl : G.length = ids.length := by rw [hG, groupsG_len]
  have hgr := sGroups_any A B ca cb ids l w ha hb hok
  rw [← hG] at hgr ⊢
  have hhc : ∀ a, a ∈ ids → labG ids G a ∈ ids ∧ hcG ids G a < ids.length := fun a h => by
    rw [hG]
    refine ⟨?_, hcG_lt hok h⟩
    obtain ⟨j, _, hj, _⟩ := (headsG_all hok).2 _ _ (labG_of (groupsG_len ids l) h)
    exact List.mem_of_getElem? hj
  have HV := Lib.hid (And.intro hin (And.intro hGl hhc))
  have HA := Lib.hid (And.intro ha hb)
  have hGb : G.length ≤ 12 := by omega
  clear hv hvr hin hok hG hGl hhc ha hb
  go_enter Try.func100, Try.ntmps100
  go_wp2_with fail
  refine hgr.mono ?_
  rintro e w2 ⟨v2, rfl, hb2, ho2⟩
  obtain ⟨A2, c2, rfl, _, hr2⟩ := own_slice ho2
  have hs2 := hb2.size
  have R := Lib.hid (And.intro (HA.out.1.step hb2) (And.intro (HA.out.2.step hb2) (And.intro hr2 hb2)))
  have hb3 : Below w2.heap.size w2 (w2.alloc (.cells #[] 85)) := (Below.refl _ _).alloc (Nat.le_refl _) _
  have ho3 : OwnV encB (w2.alloc (.cells #[] 85)) w2.heap.size 4 85 (.slice (some ⟨w2.heap.size, 0, none⟩) 0 0) [] [] := OwnV.nil_ (own_empty (Nat.le_refl _) rfl)
  have O3 := Lib.hid (And.intro hb3 ho3)
  clear hgr hb2 ho2 hr2 hb3 ho3
  go_wp2_with fail
  go_loopw [6, 7] (fun v i wr => ∃ (k : Nat) (vs : List Value), k ≤ ids.length ∧ i = .int .i64 k ∧ Below w2.heap.size w2 wr ∧ OwnV encB wr w2.heap.size 4 85 v vs (List.replicate k (rowN ids.length fun _ => false))) (fun _ i _ => ids.length - (intOf i).toNat)
  case atStart => exact ⟨0, [], Nat.zero_le _, rfl, O3.out.1, O3.out.2⟩
  case round =>
    obtain ⟨k, vs, hk, rfl, hbl, hown⟩ := hrel
    have hsz := hbl.size
    by_cases hlt : k < ids.length
    · have hli : (k : Int) < (ids.length : Int) := by omega
      have HB := Lib.hid hbl
      have HO := Lib.hid hown
      clear hbl hown
      go_wp2_with (first
        | (at_make
           go_must (refine wpList_make_full _ rfl (.tmp 23) (.tmp 23) _ rfl wr.heap.size 4 ib _ 1 Try.underlying85 hib hbz hbs _ _ _ _ ids.length rfl rfl rfl rfl (by rw [hbb]; omega) (by simp only [maxLen]; omega) (Nat.le_refl _) ?_)
           intro w5 hnew hg5
           rw [zero_bools] at hnew)
        | (at_builtin
           go_must (refine wpList_append_reads _ rfl (.tmp 21) (.tmp 25) _ rfl w2.heap.size 85 ir _ 1 24 Try.underlying81 hir hrz hrs hrb rfl (by omega) u6 (List.replicate k (rowN ids.length fun _ => false)).length vs rfl ((own_below HO.out.out ((Below.refl _ _).grown hg5 (Nat.le_refl _) (fun k hk => by cases hk))).alloc _) (w5.heap.size + 1) _ 1 1 [.slice (some ⟨wr.heap.size, 0, none⟩) ids.length ids.length] rfl (reads_val (by omega)) one_slice (by simp only [maxLen]; simp; omega) (by simp; omega) (by have := hg5.size; simp; omega) ?_)
           intro v6 w6 hown6 hg6 hat6))
      go_roundw
      case rel =>
        have hb5 : Below wr.heap.size wr w5 := (Below.refl _ _).grown hg5 (Nat.le_refl _) (fun k hk => by cases hk)
        have hp := (HO.out.below hb5).push (r := rowN ids.length fun _ => false) (u := .slice (some ⟨wr.heap.size, 0, none⟩) ids.length ids.length) (by rw [rowN_len]; exact own_less hnew hsz) (HO.out.fresh hnew (Nat.le_refl _)) hown6 hg6 hat6
        rw [tab_zero] at hp
        exact ⟨k + 1, _, by omega, by go_num, (below_step HB.out hb5).trans (app_below (HO.out.below hb5).out (Nat.le_refl _) (Nat.le_trans hsz hb5.size) hg6), hp⟩
      case measure => simp [intOf]; omega
    · have hkl : k = ids.length := by omega
      subst hkl
      rw [tab_start] at hown
      have HO := Lib.hid (And.intro hbl hown)
      clear hbl hown
      go_wp2_with fail
      go_loopw [8] (fun i w3 => ∃ k : Nat, k ≤ l.length ∧ i = .int .i64 k ∧ Below w2.heap.size w2 w3 ∧ OwnV encB w3 w2.heap.size 4 85 u6 vs (tabN ids.length (dirG ids G (l.take k)))) (fun i _ => l.length - (intOf i).toNat)
      case atStart => exact ⟨0, Nat.zero_le _, rfl, HO.out.1, by rw [show dirG ids G (l.take 0) = fun _ _ => false from by funext a b; simp [dirG]]; exact HO.out.2⟩
      case round =>
        obtain ⟨k, hk, rfl, hbl, hown⟩ := hrel
        have hsz := hbl.size
        by_cases hlt : k < l.length
        · obtain ⟨b, off, hB, hbb, hc⟩ := (R.out.2.1.below hbl).ctx (by omega)
          subst hB
          obtain ⟨⟨xa, xb, xc⟩, hr⟩ : ∃ r, l[k]? = some r := ⟨_, List.getElem?_eq_getElem hlt⟩
          obtain ⟨c1, c2', c3⟩ := hc k _ hr
          dsimp only at c1 c2' c3
          have hkl : (k : Int) < (l.length : Int) := by omega
          by_cases h1 : xc = 1
          · have e1 : (xc == 1) = true := by simp [h1]
            obtain ⟨hm1, hm2⟩ := HV.out.1 _ (List.mem_of_getElem? hr)
            dsimp only at hm1 hm2
            obtain ⟨hp1, hp2, _⟩ := placeI_at hm1
            obtain ⟨hq1, hq2, _⟩ := placeI_at hm2
            obtain ⟨p, hp⟩ : ∃ p, placeI ids xa = p := ⟨_, rfl⟩
            obtain ⟨q, hq⟩ : ∃ q, placeI ids xb = q := ⟨_, rfl⟩
            rw [hp] at hp1 hp2
            rw [hq] at hq1 hq2
            obtain ⟨y, hy⟩ : ∃ y, labG ids G xa = y := ⟨_, rfl⟩
            obtain ⟨z, hz⟩ : ∃ z, labG ids G xb = z := ⟨_, rfl⟩
            have gy : G[p]? = some y := by rw [← hp, ← hy]; exact labG_of HV.out.2.1 hm1
            have gz : G[q]? = some z := by rw [← hq, ← hz]; exact labG_of HV.out.2.1 hm2
            obtain ⟨hmy, hcy⟩ := HV.out.2.2 xa hm1
            obtain ⟨hmz, hcz⟩ := HV.out.2.2 xb hm2
            unfold hcG at hcy hcz
            rw [hy] at hmy hcy
            rw [hz] at hmz hcz
            obtain ⟨hs1, _, _⟩ := placeI_at hmy
            obtain ⟨ht1, _, _⟩ := placeI_at hmz
            obtain ⟨s, hs⟩ : ∃ s, placeI ids y = s := ⟨_, rfl⟩
            obtain ⟨t, ht⟩ : ∃ t, placeI ids z = t := ⟨_, rfl⟩
            rw [hs] at hs1 hcy
            rw [ht] at ht1 hcz
            have HT : Hid (tabN ids.length (dirG ids G (l.take (k + 1))) = tabN ids.length (fun a b => if a = s ∧ b = t then true else dirG ids G (l.take k) a b)) := by
              show _ = _
              refine tabN_congr fun a b _ _ => ?_
              rw [dirG_next hr]
              unfold hcG
              dsimp only
              rw [hy, hz, hs, ht, h1]
              by_cases hab : a = s ∧ b = t
              · obtain ⟨rfl, rfl⟩ := hab
                simp
              · rw [if_neg hab]
                have : (decide (s = a) && decide (t = b)) = false := by
                  rw [Bool.and_eq_false_iff]
                  by_cases h : a = s
                  · exact .inr (by simp; intro e; exact hab ⟨h, e.symm⟩)
                  · exact .inl (by simp; intro e; exact h e.symm)
                simp [this]
            have hpG : p < G.length := by rw [HV.out.2.1]; exact hp2
            have hqG : q < G.length := by rw [HV.out.2.1]; exact hq2
            obtain ⟨b4, off4, hA2, hbb4, hc4⟩ := (R.out.2.2.1.below hbl).ints (by omega)
            subst hA2
            have d1 := hc4 p _ gy
            have d2 := hc4 q _ gz
            have hpn : (p : Int) < (G.length : Int) := by omega
            have hqn : (q : Int) < (G.length : Int) := by omega
            have hsn : (s : Int) < (ids.length : Int) := by omega
            have htn : (t : Int) < (ids.length : Int) := by omega
            obtain ⟨g, cap, hvg, hgb, hgs, f1, f2⟩ := hown.cell (tabN_row _ hcy) (rowN_at _ hcz)
            rw [rowN_len] at hvg
            obtain ⟨go, capo, hvo, hgo1, hgo2, hou⟩ := hown.outer (by rw [tabN_len]; omega)
            rw [tabN_len] at hvo
            have f3 := hou s _ hvg
            subst hvo
            have HI := Lib.hid (R.out.1.step hbl)
            have HX := Lib.hid (And.intro hbl (And.intro hown hvg))
            clear hc hc4 hr h1 hm1 hm2 hp hq hy hz gy gz hmy hmz hs ht hbl hown hvg hou
            go_wp2_with (first
              | (go_at_call 75
                 go_must (refine (sPlace_any A ca ids _ _ HI.out (by omega)).mono ?_)
                 go_must (first | rw [hp1] | rw [hq1] | rw [hs1] | rw [ht1])
                 rintro e w9 ⟨rfl, rfl⟩))
            refine region_still_tail2 9 (by kernel_rfl) (by kernel_rfl) ?_
            intro W hW hz hbw
            simp only [List.take_succ_cons, List.take_zero, List.drop_succ_cons, List.drop_zero]
            have haW := HI.out.step hbw
            repeat (first | still_step | still_call (sPlace_to A ca ids _ s _ haW (by omega) hs1) | still_call (sPlace_to A ca ids _ t _ haW (by omega) ht1))
            refine wpStill_nil ?_
            have w1' := (World.cell?_of_block (w := wr) (a := ⟨g, t, none⟩) (hbw.block g hgs)).trans f1
            have w2' := (World.frozen?_of_block (w := wr) (a := ⟨g, t, none⟩) (hbw.block g hgs)).trans f2
            simp only [encB] at w1'
            have HW := Lib.hid hbw
            clear hW hz hbw haW f1 f2 f3 c1 c2' c3 d1 d2
            go_wp2_with fail
            go_roundw
            case rel =>
              obtain ⟨hbl, hown, hvg⟩ := HX.out
              have hownW := (hown.below HW.out).store (j := t) (tabN_row _ hcy) (by rw [rowN_len]; exact hvg) true
              rw [tabN_set, ← HT.out] at hownW
              refine ⟨k + 1, by omega, by go_num, (below_step hbl HW.out).setCell (by simpa using hgb) _, hownW⟩
            case measure => simp [intOf]; omega
          · have e1 : (xc == 1) = false := by simp [h1]
            have HT : Hid (tabN ids.length (dirG ids G (l.take (k + 1))) = tabN ids.length (dirG ids G (l.take k))) := by
              show _ = _
              refine tabN_congr fun a b _ _ => ?_
              rw [dirG_next hr]
              simp [h1]
            clear hc hr h1
            go_wp2_with fail
            go_roundw
            case rel => exact ⟨k + 1, by omega, by go_num, hbl, by rw [HT.out]; exact hown⟩
            case measure => simp [intOf]; omega
        · have hkl : k = l.length := by omega
          have HK := Lib.hid (And.intro hkl (And.intro hbl hown))
          clear hkl hbl hown
          go_wp2_with fail
          go_ret
          obtain ⟨hkl, hbl, hown⟩ := HK.out
          rw [hkl, List.take_length] at hown
          exact ⟨_, vs, rfl, below_step R.out.2.2.2 hbl, hown.less hs2⟩
end Go.Proofs.Ytnkdpogplkomhaa

/- What the model's closing of a table is. -/
namespace Go.Proofs.Ytnkdpogplkomhaa
open Go.RowKit

/-- The table while place k is gone through: rows below i, and of row i the columns below j, are done. -/
def mixB (f : Nat → Nat → Bool) (k i j a b : Nat) : Bool := if a < i ∨ (a = i ∧ b < j) then wayB f (k + 1) a b else wayB f k a b
theorem mixB_col (f : Nat → Nat → Bool) (k i j a : Nat) : mixB f k i j a k = wayB f k a k := by
  unfold mixB
  split
  · rw [wayB]
    cases wayB f k a k <;> simp
  · rfl
theorem mixB_row (f : Nat → Nat → Bool) (k i j b : Nat) : mixB f k i j k b = wayB f k k b := by
  unfold mixB
  split
  · rw [wayB]
    cases wayB f k k b <;> simp
  · rfl
theorem mixB_here (f : Nat → Nat → Bool) (k i j : Nat) : mixB f k i j i j = wayB f k i j := by
  unfold mixB
  rw [if_neg (by omega)]
theorem mixB_set (f : Nat → Nat → Bool) (n k i j : Nat) (x : Bool) (hx : x = wayB f (k + 1) i j) : tabN n (fun a b => if a = i ∧ b = j then x else mixB f k i j a b) = tabN n (mixB f k i (j + 1)) := by
  refine tabN_congr fun a b _ _ => ?_
  subst hx
  unfold mixB
  by_cases h : a = i ∧ b = j
  · obtain ⟨rfl, rfl⟩ := h
    rw [if_pos ⟨rfl, rfl⟩, if_pos (by omega)]
  · rw [if_neg h]
    by_cases h2 : a < i ∨ (a = i ∧ b < j)
    · rw [if_pos h2, if_pos (by omega)]
    · rw [if_neg h2, if_neg (by omega)]
theorem mixB_next (f : Nat → Nat → Bool) (n k i : Nat) : tabN n (mixB f k i n) = tabN n (mixB f k (i + 1) 0) := by
  refine tabN_congr fun a b _ hb => ?_
  unfold mixB
  by_cases h : a < i ∨ (a = i ∧ b < n)
  · rw [if_pos h, if_pos (by omega)]
  · rw [if_neg h, if_neg (by omega)]
theorem mixB_first (f : Nat → Nat → Bool) (n k : Nat) : tabN n (mixB f k 0 0) = tabN n (wayB f k) := tabN_congr fun a b _ _ => by unfold mixB; rw [if_neg (by omega)]
theorem mixB_last (f : Nat → Nat → Bool) (n k : Nat) : tabN n (mixB f k n 0) = tabN n (wayB f (k + 1)) := tabN_congr fun a b ha _ => by unfold mixB; rw [if_pos (by omega)]
theorem tabN_next (n : Nat) (f : Nat → Nat → Bool) {k : Nat} (hk : k < n) : (tabN n f).take k ++ [rowN n (f k)] = (tabN n f).take (k + 1) := by
  rw [List.take_add_one, tabN_row _ hk]; rfl

set_option maxHeartbeats 8000000 in
set_option maxRecDepth 100000 in
theorem sClose_any (A : Option Addr) (cap n : Nat) (f : Nat → Nat → Bool) (w : World) (hm : Nest encB w w.heap.size A n (tabN n f)) (hn : n ≤ 12) :
    Calls Try.prog 99 #[.slice A n cap] w (TabPost w n (clos f n)) := by
  obtain ⟨ib, hib, hbz, hbs, hbb'⟩ := info_parts infoBool
  obtain ⟨ir, hir, hrz, hrs, hrb⟩ := info_parts infoBools
  have hb3 : Below w.heap.size w (w.alloc (.cells #[] 85)) := (Below.refl _ _).alloc (Nat.le_refl _) _
  have ho3 : OwnV encB (w.alloc (.cells #[] 85)) w.heap.size 4 85 (.slice (some ⟨w.heap.size, 0, none⟩) 0 0) [] [] := OwnV.nil_ (own_empty (Nat.le_refl _) rfl)
  have O3 := Lib.hid (And.intro hb3 ho3)
  clear hb3 ho3
  go_enter Try.func99, Try.ntmps99
  go_wp2_with fail
  go_loopw [3, 4] (fun v i wr => ∃ (k : Nat) (vs : List Value), k ≤ n ∧ i = .int .i64 k ∧ Below w.heap.size w wr ∧ OwnV encB wr w.heap.size 4 85 v vs ((tabN n f).take k)) (fun _ i _ => n - (intOf i).toNat)
  case atStart => exact ⟨0, [], Nat.zero_le _, rfl, O3.out.1, O3.out.2⟩
  case round =>
    obtain ⟨k, vs, hk, rfl, hbl, hown⟩ := hrel
    have hsz := hbl.size
    by_cases hlt : k < n
    · have hli : (k : Int) < (n : Int) := by omega
      obtain ⟨b, off, A2, c2, hA, hbb, hcell, hc2, hrow⟩ := (hm.below hbl).row (tabN_row f hlt)
      rw [rowN_len] at hcell hc2 hrow
      subst hA
      have hLk : ((tabN n f).take k).length = k := by rw [List.length_take, tabN_len]; omega
      have HB := Lib.hid (And.intro hbl hrow)
      have hoo := hown.out
      rw [hLk] at hoo
      have HO := Lib.hid (And.intro hown hoo)
      have hnew0 : (wr.alloc (.cells #[] 4)).ownsRow wr.heap.size 4 1 (.slice (some ⟨wr.heap.size, 0, none⟩) 0 0) 0 [] := own_empty (Nat.le_refl _) rfl
      have hrow2 := hrow.keep (w2 := wr.alloc (.cells #[] 4)) fun b o hlt => World.cell?_alloc_lt wr _ _ (by simpa using Nat.lt_of_lt_of_le hlt hsz)
      have HN := Lib.hid (And.intro hnew0 hrow2)
      clear hbl hown hrow hnew0 hrow2 hLk hoo
      have hbw : b < wr.heap.size := Nat.lt_of_lt_of_le hbb hsz
      go_wp2_with (first
        | (at_builtin
           refine wpList_append_reads _ rfl (.tmp 16) (.tmp 20) _ rfl wr.heap.size 4 ib _ 1 1 Try.underlying85 hib hbz hbs hbb' rfl (by omega) _ 0 _ rfl HN.out.1 w.heap.size _ n c2 ((rowN n (f k)).map encB) rfl HN.out.2 (by intro u hu; obtain ⟨x, _, rfl⟩ := List.mem_map.1 hu; rfl) (by simp only [maxLen]; omega) (by omega) (by simp) ?_
           intro v5 w5 hnew hg5 hat5
           have hb5 : Below wr.heap.size wr w5 := ((Below.refl _ _).alloc (Nat.le_refl _) _).trans (app_below0 HN.out.1 (Nat.le_refl _) (by simp) hg5)
           rw [Nat.zero_add, List.nil_append] at hnew
           obtain ⟨A5, c5, rfl, _, _⟩ := own_slice hnew)
        | (at_builtin
           go_must (refine wpList_append_reads _ rfl (.tmp 15) (.tmp 22) _ rfl w.heap.size 85 ir _ 1 24 Try.underlying81 hir hrz hrs hrb rfl (by omega) u3 k vs rfl ((own_below HO.out.2 hb5).alloc _) (w5.heap.size + 1) _ 1 1 [.slice A5 n c5] rfl (reads_val (by omega)) one_slice (by simp only [maxLen]; omega) (by omega) (by have := hb5.size; simp; omega) ?_)
           intro v6 w6 hown6 hg6 hat6))
      go_roundw
      case rel =>
        have hp := (HO.out.1.below hb5).push (r := rowN n (f k)) (u := .slice A5 n c5) (by rw [rowN_len]; exact own_less hnew hsz) (HO.out.1.fresh hnew (Nat.le_refl _)) (by rw [show ((tabN n f).take k).length = k from by rw [List.length_take, tabN_len]; omega]; exact hown6) hg6 hat6
        rw [tabN_next n f hlt] at hp
        exact ⟨k + 1, _, by omega, by go_num, (below_step HB.out.1 hb5).trans (app_below (HO.out.1.below hb5).out (Nat.le_refl _) (Nat.le_trans hsz hb5.size) hg6), hp⟩
      case measure => simp [intOf]; omega
    · have hkl : k = n := by omega
      have hkn : (tabN n f).take k = tabN n f := List.take_of_length_le (by rw [tabN_len]; omega)
      rw [hkn] at hown
      have HO := Lib.hid (And.intro hbl hown)
      clear hbl hown hm hk hsz hkn hkl
      go_wp2_with fail
      go_loopw [5] (fun i w3 => ∃ q : Nat, q ≤ n ∧ i = .int .i64 q ∧ Below w.heap.size w w3 ∧ OwnV encB w3 w.heap.size 4 85 u3 vs (tabN n (wayB f q))) (fun i _ => n - (intOf i).toNat)
      case atStart => exact ⟨0, Nat.zero_le _, rfl, HO.out.1, HO.out.2⟩
      case round =>
        obtain ⟨q, hq, rfl, hbl, hown⟩ := hrel
        have HQ := Lib.hid (And.intro hbl hown)
        clear hbl hown
        by_cases hqn : q < n
        · have hqi : (q : Int) < (n : Int) := by omega
          go_wp2_with fail
          go_loopw [6] (fun i w3 => ∃ i0 : Nat, i0 ≤ n ∧ i = .int .i64 i0 ∧ Below w.heap.size w w3 ∧ OwnV encB w3 w.heap.size 4 85 u3 vs (tabN n (mixB f q i0 0))) (fun i _ => n - (intOf i).toNat)
          case atStart => exact ⟨0, Nat.zero_le _, rfl, HQ.out.1, by rw [mixB_first]; exact HQ.out.2⟩
          case round =>
            obtain ⟨i, hi, rfl, hbl, hown⟩ := hrel
            have HI := Lib.hid (And.intro hbl hown)
            clear hbl hown
            by_cases hii : i < n
            · have hiii : (i : Int) < (n : Int) := by omega
              go_wp2_with fail
              go_loopw [7] (fun i1 w3 => ∃ j0 : Nat, j0 ≤ n ∧ i1 = .int .i64 j0 ∧ Below w.heap.size w w3 ∧ OwnV encB w3 w.heap.size 4 85 u3 vs (tabN n (mixB f q i j0))) (fun i _ => n - (intOf i).toNat)
              case atStart => exact ⟨0, Nat.zero_le _, rfl, HI.out.1, HI.out.2⟩
              case round =>
                obtain ⟨j, hj, rfl, hbl, hown⟩ := hrel
                by_cases hjj : j < n
                · have hjji : (j : Int) < (n : Int) := by omega
                  obtain ⟨gi, ci, hvi, hgi1, hgi2, hci, hfi⟩ := hown.cells (tabN_row _ hii) (by rw [rowN_len]; omega)
                  obtain ⟨gk, ck, hvk, hgk1, hgk2, hck, _⟩ := hown.cells (tabN_row _ hqn) (by rw [rowN_len]; omega)
                  rw [rowN_len] at hvi hvk
                  obtain ⟨go, co, hvo, hgo1, hgo2, hou⟩ := hown.outer (by rw [tabN_len]; omega)
                  rw [tabN_len] at hvo
                  have f5 := hou i _ hvi
                  have f6 := hou q _ hvk
                  have f1 := hci j _ (rowN_at _ hjj)
                  have f2 := hci q _ (rowN_at _ hqn)
                  have f3 := hck j _ (rowN_at _ hjj)
                  have f4 := hfi j
                  rw [mixB_here] at f1
                  rw [mixB_col] at f2
                  rw [mixB_row] at f3
                  simp only [encB] at f1 f2 f3
                  obtain ⟨x, hx⟩ : ∃ x, wayB f q i j = x := ⟨_, rfl⟩
                  obtain ⟨y, hy⟩ : ∃ y, wayB f q i q = y := ⟨_, rfl⟩
                  obtain ⟨z, hz0⟩ : ∃ z, wayB f q q j = z := ⟨_, rfl⟩
                  rw [hx] at f1
                  rw [hy] at f2
                  rw [hz0] at f3
                  have HE := Lib.hid (And.intro hx (And.intro hy hz0))
                  subst hvo
                  have HX := Lib.hid (And.intro hbl (And.intro hown hvi))
                  clear hbl hown hvi hvk hou hci hck hfi hx hy hz0
                  cases x
                  · cases y
                    · go_wp2_with fail
                      refine region_still_tail2 30 (by kernel_rfl) (by kernel_rfl) ?_
                      intro W hW hz hbw
                      simp only [List.take_succ_cons, List.take_zero, List.drop_succ_cons, List.drop_zero]
                      refine Shut.out ?_
                      iterate 30
                        refine still_stepH (fun K hK => ?_)
                        go_simp
                        refine hK _ ?_
                        clear hK K
                      refine still_nilH ?_
                      have w1' := (World.cell?_of_block (w := wr) (a := ⟨gi, j, none⟩) (hbw.block gi hgi2)).trans f1
                      have w2' := (World.frozen?_of_block (w := wr) (a := ⟨gi, j, none⟩) (hbw.block gi hgi2)).trans f4
                      have HW := Lib.hid hbw
                      clear hW hz hbw f1 f2 f3 f4 f5 f6
                      go_wp2_with fail
                      go_roundw
                      case rel =>
                        obtain ⟨hbl, hown, hvi⟩ := HX.out
                        have hownW := (hown.below HW.out).store (j := j) (tabN_row _ hii) (by rw [rowN_len]; exact hvi) false
                        rw [tabN_set, mixB_set f n q i j false (by rw [wayB, HE.out.1, HE.out.2.1]; rfl)] at hownW
                        exact ⟨j + 1, by omega, by go_num, (below_step hbl HW.out).setCell (by simpa using hgi1) _, hownW⟩
                      case measure => simp [intOf]; omega
                    · go_wp2_with fail
                      refine region_still_tail2 30 (by kernel_rfl) (by kernel_rfl) ?_
                      intro W hW hz hbw
                      simp only [List.take_succ_cons, List.take_zero, List.drop_succ_cons, List.drop_zero]
                      refine Shut.out ?_
                      iterate 30
                        refine still_stepH (fun K hK => ?_)
                        go_simp
                        refine hK _ ?_
                        clear hK K
                      refine still_nilH ?_
                      have w1' := (World.cell?_of_block (w := wr) (a := ⟨gi, j, none⟩) (hbw.block gi hgi2)).trans f1
                      have w2' := (World.frozen?_of_block (w := wr) (a := ⟨gi, j, none⟩) (hbw.block gi hgi2)).trans f4
                      have HW := Lib.hid hbw
                      clear hW hz hbw f1 f2 f3 f4 f5 f6
                      go_wp2_with fail
                      go_roundw
                      case rel =>
                        obtain ⟨hbl, hown, hvi⟩ := HX.out
                        have hownW := (hown.below HW.out).store (j := j) (tabN_row _ hii) (by rw [rowN_len]; exact hvi) z
                        rw [tabN_set, mixB_set f n q i j z (by rw [wayB, HE.out.1, HE.out.2.1, HE.out.2.2]; rfl)] at hownW
                        exact ⟨j + 1, by omega, by go_num, (below_step hbl HW.out).setCell (by simpa using hgi1) _, hownW⟩
                      case measure => simp [intOf]; omega
                  · go_wp2_with fail
                    refine region_still_tail2 30 (by kernel_rfl) (by kernel_rfl) ?_
                    intro W hW hz hbw
                    simp only [List.take_succ_cons, List.take_zero, List.drop_succ_cons, List.drop_zero]
                    refine Shut.out ?_
                    iterate 30
                      refine still_stepH (fun K hK => ?_)
                      go_simp
                      refine hK _ ?_
                      clear hK K
                    refine still_nilH ?_
                    have w1' := (World.cell?_of_block (w := wr) (a := ⟨gi, j, none⟩) (hbw.block gi hgi2)).trans f1
                    have w2' := (World.frozen?_of_block (w := wr) (a := ⟨gi, j, none⟩) (hbw.block gi hgi2)).trans f4
                    have HW := Lib.hid hbw
                    clear hW hz hbw f1 f2 f3 f4 f5 f6
                    go_wp2_with fail
                    go_roundw
                    case rel =>
                      obtain ⟨hbl, hown, hvi⟩ := HX.out
                      have hownW := (hown.below HW.out).store (j := j) (tabN_row _ hii) (by rw [rowN_len]; exact hvi) true
                      rw [tabN_set, mixB_set f n q i j true (by rw [wayB, HE.out.1]; rfl)] at hownW
                      exact ⟨j + 1, by omega, by go_num, (below_step hbl HW.out).setCell (by simpa using hgi1) _, hownW⟩
                    case measure => simp [intOf]; omega
                · have HJ := Lib.hid (And.intro hbl hown)
                  have hjn : j = n := by omega
                  clear hbl hown
                  go_wp2_with fail
                  go_roundw
                  case rel => exact ⟨i + 1, by omega, by go_num, HJ.out.1, by rw [← mixB_next]; rw [← hjn]; rw [hjn]; have h9 := HJ.out.2; rw [hjn] at h9; exact h9⟩
                  case measure => simp [intOf]; omega
            · have hin : i = n := by omega
              go_wp2_with fail
              go_roundw
              case rel => exact ⟨q + 1, by omega, by go_num, HI.out.1, by rw [← mixB_last]; have h9 := HI.out.2; rw [hin] at h9; exact h9⟩
              case measure => simp [intOf]; omega
        · have hqn2 : q = n := by omega
          go_wp2_with fail
          go_ret
          exact ⟨_, vs, rfl, HQ.out.1, by have h9 := HQ.out.2; rw [hqn2] at h9; exact h9⟩
end Go.Proofs.Ytnkdpogplkomhaa

/- What the model's order is. -/
namespace Go.Proofs.Ytnkdpogplkomhaa
open Go.RowKit

theorem placeG {ids : List Int} {l : List Ctx} (h : okG ids l = true) {i : Nat} {a x : Int} (ha : ids[i]? = some a) (hx : (groupsG ids l)[i]? = some x) : labG ids (groupsG ids l) a = x := labG_at (okG_parts h).1 ha hx
theorem ordG_len (ids : List Int) (l : List Ctx) : (ordG ids l).length = ids.length := by simp [ordG]
theorem ordG_next {ids : List Int} {l : List Ctx} {k : Nat} {a : Int} (ha : ids[k]? = some a) : (ordG ids l).take k ++ [ids.map fun b => upG ids l a b] = (ordG ids l).take (k + 1) := by
  rw [List.take_add_one]
  simp [ordG, ha]
theorem rowG_next {ids : List Int} {f : Int → Bool} {k : Nat} {b : Int} (hb : ids[k]? = some b) : ((ids.take k).map f).map encB ++ [encB (f b)] = ((ids.take (k + 1)).map f).map encB := by
  rw [List.take_add_one, hb]
  simp
theorem reads_bool {w : World} {x : Bool} {t : TypeId} {B : Nat} (hB : w.heap.size < B) : Reads (w.alloc (.cells #[.bool x] t)) B 1 (some ⟨w.heap.size, 0, none⟩) 1 [encB x] := reads_val hB
theorem one_bool {x : Bool} : ∀ u ∈ [encB x], u.oneCell' = true := by
  intro u hu
  simp at hu
  subst hu
  rfl
/-- An order in memory of the call's own. -/
def OrdPost (w : World) (L : List (List Bool)) (e : Ending) (w2 : World) : Prop :=
  ∃ v vs, e = .returned v ∧ Below w.heap.size w w2 ∧ OwnV encB w2 w.heap.size 4 85 v vs L
set_option maxHeartbeats 8000000 in
set_option maxRecDepth 100000 in
theorem sOrder_any (A B : Option Addr) (ca cb : Nat) (ids : List Int) (l : List Ctx) (w : World) (ha : Reads w w.heap.size 1 A ids.length (cellsI ids)) (hb : Reads w w.heap.size 3 B l.length (cellsC l)) (hok : okG ids l = true) :
    Calls Try.prog 82 #[.slice A ids.length ca, .slice B l.length cb] w (OrdPost w (ordG ids l)) := by
  obtain ⟨ib, hib, hbz, hbs, hbb'⟩ := info_parts infoBool
  obtain ⟨ir, hir, hrz, hrs, hrb⟩ := info_parts infoBools
  have hn : ids.length ≤ 12 := validO_len (okG_parts hok).1
  obtain ⟨G, hG⟩ : ∃ G, G = groupsG ids l := ⟨_, rfl⟩
  have hGl : G.length = ids.length := by rw [hG, groupsG_len]
  have hgr := sGroups_any A B ca cb ids l w ha hb hok
  have hdi := fun (w2 : World) (h2 : Below w.heap.size w w2) => sDirect_any A B ca cb ids l w2 (ha.step h2) (hb.step h2) hok
  rw [← hG] at hgr hdi
  obtain ⟨F, hF⟩ : ∃ F, F = dirG ids G l := ⟨_, rfl⟩
  rw [← hF] at hdi
  have hat : ∀ (i : Nat) (a : Int), ids[i]? = some a → ∃ (x : Int) (s : Nat), G[i]? = some x ∧ findI ids x = (s : Int) ∧ s < ids.length ∧ hcG ids G a = s := fun i a hia => by
    have hi : i < G.length := by rw [hGl]; exact (List.getElem?_eq_some_iff.1 hia).1
    obtain ⟨x, hx⟩ : ∃ x, G[i]? = some x := ⟨_, List.getElem?_eq_getElem hi⟩
    have hl := placeG hok hia (hG ▸ hx)
    rw [← hG] at hl
    obtain ⟨j, _, hj, _⟩ := (headsG_all hok).2 i x (hG ▸ hx)
    obtain ⟨h1, h2, _⟩ := placeI_at (List.mem_of_getElem? hj)
    exact ⟨x, placeI ids x, hx, h1, h2, by unfold hcG; rw [hl]⟩
  have hup : ∀ a b, upG ids l a b = clos F ids.length (hcG ids G a) (hcG ids G b) := fun a b => by rw [hF, hG]; rfl
  have HV := Lib.hid (And.intro hGl (And.intro hat hup))
  have HA := Lib.hid (And.intro ha (And.intro hdi hgr))
  have hGb : G.length ≤ 12 := by omega
  clear hG hGl hF hat hup ha hb hdi hgr hok
  go_enter Try.func82, Try.ntmps82
  go_wp2_with fail
  refine HA.out.2.2.mono ?_
  rintro e w2 ⟨v2, rfl, hb2, ho2⟩
  obtain ⟨A2, c2, rfl, _, hr2⟩ := own_slice ho2
  have R2 := Lib.hid (And.intro hb2 hr2)
  clear hb2 ho2 hr2
  go_wp2_with fail
  refine (HA.out.2.1 w2 R2.out.1).mono ?_
  rintro e w3 ⟨v3, vs3, rfl, hb3, ho3⟩
  obtain ⟨A3, c3, rfl, _, hm3⟩ := ho3.nest
  rw [tabN_len] at hm3
  have R3 := Lib.hid (And.intro hb3 hm3)
  have htl : (tabN ids.length F).length = ids.length := tabN_len _ _
  clear hb3 ho3 hm3
  rw [htl]
  clear htl
  go_wp2_with fail
  refine (sClose_any A3 c3 ids.length F w3 R3.out.2 hn).mono ?_
  rintro e w4 ⟨v4, vs4, rfl, hb4, ho4⟩
  obtain ⟨A4, c4, rfl, _, hm4⟩ := ho4.nest
  rw [tabN_len] at hm4
  have htl : (tabN ids.length (clos F ids.length)).length = ids.length := tabN_len _ _
  rw [htl]
  clear htl ho4
  have k24 := below_step R3.out.1 hb4
  have R := Lib.hid (And.intro (HA.out.1.step (below_step R2.out.1 k24)) (And.intro (R2.out.2.step k24) (And.intro hm4 (below_step R2.out.1 k24))))
  have hb5 : Below w4.heap.size w4 (w4.alloc (.cells #[] 85)) := (Below.refl _ _).alloc (Nat.le_refl _) _
  have ho5 : OwnV encB (w4.alloc (.cells #[] 85)) w4.heap.size 4 85 (.slice (some ⟨w4.heap.size, 0, none⟩) 0 0) [] [] := OwnV.nil_ (own_empty (Nat.le_refl _) rfl)
  have O5 := Lib.hid (And.intro hb5 ho5)
  clear hb5 ho5 hb4 hm4 k24
  go_wp2_with fail
  go_loopw [7, 8] (fun v i wr => ∃ (k : Nat) (vs : List Value), k ≤ ids.length ∧ i = .int .i64 k ∧ Below w4.heap.size w4 wr ∧ OwnV encB wr w4.heap.size 4 85 v vs ((ordG ids l).take k)) (fun _ i _ => ids.length - (intOf i).toNat)
  case atStart => exact ⟨0, [], Nat.zero_le _, rfl, O5.out.1, O5.out.2⟩
  case round =>
    obtain ⟨k, vs, hk, rfl, hbl, hown⟩ := hrel
    have hsz := hbl.size
    by_cases hlt : k < ids.length
    · have hli : (k : Int) < (ids.length : Int) := by omega
      obtain ⟨a, hka⟩ : ∃ a, ids[k]? = some a := ⟨_, List.getElem?_eq_getElem hlt⟩
      obtain ⟨x, s, hx, hs1, hs2, hs3⟩ := HV.out.2.1 k a hka
      have hb6 : Below wr.heap.size wr (wr.alloc (.cells #[] 4)) := (Below.refl _ _).alloc (Nat.le_refl _) _
      have ho6 : (wr.alloc (.cells #[] 4)).ownsRow wr.heap.size 4 1 (.slice (some ⟨wr.heap.size, 0, none⟩) 0 0) 0 [] := own_empty (Nat.le_refl _) rfl
      have HO := Lib.hid (And.intro hbl (And.intro hown (And.intro hka (And.intro hx (And.intro hs3 (And.intro hb6 ho6))))))
      clear hbl hown hka hx hs3 hb6 ho6
      go_wp2_with fail
      go_loopw [9, 10] (fun v i w6 => ∃ j : Nat, j ≤ ids.length ∧ i = .int .i64 j ∧ Below wr.heap.size wr w6 ∧ w6.ownsRow wr.heap.size 4 1 v j (((ids.take j).map fun b => upG ids l a b).map encB)) (fun _ i _ => ids.length - (intOf i).toNat)
      case atStart => exact ⟨0, Nat.zero_le _, rfl, HO.out.2.2.2.2.2.1, HO.out.2.2.2.2.2.2⟩
      case round =>
        obtain ⟨j, hj, rfl, hb6, ho6⟩ := hrel
        have hsz6 := hb6.size
        by_cases hjj : j < ids.length
        · have hji : (j : Int) < (ids.length : Int) := by omega
          obtain ⟨b, hjb⟩ : ∃ b, ids[j]? = some b := ⟨_, List.getElem?_eq_getElem hjj⟩
          obtain ⟨y, t, hy, ht1, ht2, ht3⟩ := HV.out.2.1 j b hjb
          have k46 := below_step HO.out.1 hb6
          have rI := R.out.1.step k46
          have rG := R.out.2.1.below k46
          have rM := R.out.2.2.1.below k46
          obtain ⟨b7, off7, hA2, hbb7, hc7⟩ := rG.ints (by have := HV.out.1; omega)
          subst hA2
          have f1 := hc7 k _ HO.out.2.2.2.1
          have f2 := hc7 j _ hy
          obtain ⟨b4, off4, A5, c5, hA4, hbb4, f3, hc5, hrow⟩ := rM.row (tabN_row _ hs2)
          rw [rowN_len] at f3
          obtain ⟨b5, off5, hA5, hbb5, f4⟩ := Reads.cellE hrow (rowN_at _ ht2)
          subst hA4 hA5
          simp only [encB] at f4
          obtain ⟨z, hz0⟩ : ∃ z, clos F ids.length s t = z := ⟨_, rfl⟩
          rw [hz0] at f4
          have HZ : Hid (upG ids l a b = z) := by
            show upG ids l a b = z
            rw [HV.out.2.2, HO.out.2.2.2.2.1, ht3, hz0]
          have hkG : (k : Int) < (G.length : Int) := by rw [HV.out.1]; omega
          have hjG : (j : Int) < (G.length : Int) := by rw [HV.out.1]; omega
          have hsn : (s : Int) < (ids.length : Int) := by omega
          have htn : (t : Int) < (ids.length : Int) := by omega
          have HX := Lib.hid (And.intro hb6 (And.intro ho6 (And.intro hjb rI)))
          clear hb6 ho6 hjb hy ht3 hc7 hrow hz0 rI rG rM k46
          go_wp2_with fail
          have hoD := (own_below HX.out.2.1 (below_draws (Below.refl wr.heap.size wr) 1)).alloc (.cells #[.bool z] 4)
          have HD := Lib.hid (And.intro hoD (HX.out.2.2.2.step (below_draws (Below.refl wr.heap.size wr) 1)))
          have hSA : ((wr.drewN 1).alloc (.cells #[.bool z] 4)).cell? ⟨b7, off7 + k, none⟩ = some (.int .i64 x) ∧ ((wr.drewN 1).alloc (.cells #[.bool z] 4)).cell? ⟨b7, off7 + j, none⟩ = some (.int .i64 y) ∧ ((wr.drewN 1).alloc (.cells #[.bool z] 4)).cell? ⟨b4, off4 + s, none⟩ = some (.slice (some ⟨b5, off5, none⟩) ids.length c5) ∧ ((wr.drewN 1).alloc (.cells #[.bool z] 4)).cell? ⟨b5, off5 + t, none⟩ = some (.bool z) :=
            ⟨(World.cell?_alloc_lt (wr.drewN 1) _ _ (show b7 < wr.heap.size by omega)).trans f1, (World.cell?_alloc_lt (wr.drewN 1) _ _ (show b7 < wr.heap.size by omega)).trans f2, (World.cell?_alloc_lt (wr.drewN 1) _ _ (show b4 < wr.heap.size by omega)).trans f3, (World.cell?_alloc_lt (wr.drewN 1) _ _ (show b5 < wr.heap.size by omega)).trans f4⟩
          have HS := Lib.hid hSA
          clear hoD hSA
          go_region_held3 (fun w' => w'.cell? ⟨b7, off7 + k, none⟩ = some (.int .i64 x) ∧ w'.cell? ⟨b7, off7 + j, none⟩ = some (.int .i64 y) ∧ w'.cell? ⟨b4, off4 + s, none⟩ = some (.slice (some ⟨b5, off5, none⟩) ids.length c5) ∧ w'.cell? ⟨b5, off5 + t, none⟩ = some (.bool z))
            (first
              | assumption
              | exact ⟨f1, f2, f3, f4⟩
              | exact HS.out
              | exact h8)
            (first
              | (go_at_call 75
                 go_must (refine (sPlace_any A ca ids _ _ HD.out.2 (by omega)).mono ?_)
                 first | rw [hs1] | rw [ht1]
                 rintro e xa ⟨rfl, rfl⟩)
              | (refine step_append_want ((wr.drewN 1).alloc (.cells #[.bool z] 4)) (by rfl) (.tmp 32) (.tmp 50) _ (by rfl) _ 4 ib _ 1 1 Try.underlying85 hib hbz hbs hbb' rfl (by omega) u9 j _ (by rfl) HD.out.1 ((wr.drewN 1).heap.size + 1) _ 1 1 [encB z] (by rfl) (reads_bool (by simp)) one_bool (by simp only [maxLen]; omega) (by omega) (by simp [World.drewN]; omega) ?_
                 intro v8 w8 hown8 hg8 hat8
                 have b8 : Below w4.heap.size (wr.drewN 1) w8 := app_below (own_below HX.out.2.1 (below_draws (Below.refl wr.heap.size wr) 1)) hsz (Nat.le_trans hsz hsz6) hg8
                 have h8 : w8.cell? ⟨b7, off7 + k, none⟩ = some (.int .i64 x) ∧ w8.cell? ⟨b7, off7 + j, none⟩ = some (.int .i64 y) ∧ w8.cell? ⟨b4, off4 + s, none⟩ = some (.slice (some ⟨b5, off5, none⟩) ids.length c5) ∧ w8.cell? ⟨b5, off5 + t, none⟩ = some (.bool z) := ⟨(b8.cell hbb7).trans f1, (b8.cell hbb7).trans f2, (b8.cell hbb4).trans f3, (b8.cell hbb5).trans f4⟩))
          clear f1 f2 f3 f4 h8
          go_wp2_with fail
          go_roundw
          case rel =>
            rw [← HZ.out, rowG_next HX.out.2.2.1] at hown8
            exact ⟨j + 1, by omega, by go_num, (below_step HX.out.1 (below_draws (Below.refl wr.heap.size wr) 1)).trans (app_below (own_below HX.out.2.1 (below_draws (Below.refl wr.heap.size wr) 1)) (Nat.le_refl _) hsz6 hg8), hown8⟩
          case measure => simp [intOf]; omega
        · have hjn : j = ids.length := by omega
          have hlen : (ids.map fun b => upG ids l a b).length = ids.length := by simp
          rw [hjn, List.take_length] at ho6
          obtain ⟨A9, c9, hv9, _, _⟩ := own_slice ho6
          subst hv9
          have HX := Lib.hid (And.intro hb6 ho6)
          have hLk : ((ordG ids l).take k).length = k := by rw [List.length_take, ordG_len]; omega
          have hoo := own_below HO.out.2.1.out hb6
          rw [hLk] at hoo
          have HOO := Lib.hid (And.intro hoo hLk)
          clear hb6 ho6 hoo hLk hlen hjn
          go_wp2_with (at_builtin
                       go_must (refine wpList_append_reads _ rfl (.tmp 52) (.tmp 54) _ rfl w4.heap.size 85 ir _ 1 24 Try.underlying81 hir hrz hrs hrb rfl (by omega) u7 k vs rfl (HOO.out.1.alloc _) (wr.heap.size + 1) _ 1 1 [.slice A9 ids.length c9] rfl (reads_val (by omega)) one_slice (by simp only [maxLen]; omega) (by omega) (by simp; omega) ?_)
                       intro v8 w8 hown8 hg8 hat8)
          go_roundw
          case rel =>
            have hp := (HO.out.2.1.below HX.out.1).push (r := ids.map fun b => upG ids l a b) (u := .slice A9 ids.length c9) (by rw [List.length_map]; exact own_less HX.out.2 hsz) (HO.out.2.1.fresh HX.out.2 (Nat.le_refl _)) (by rw [HOO.out.2]; exact hown8) hg8 hat8
            rw [ordG_next HO.out.2.2.1] at hp
            exact ⟨k + 1, _, by omega, by go_num, (below_step HO.out.1 HX.out.1).trans (app_below (HO.out.2.1.below HX.out.1).out (Nat.le_refl _) (Nat.le_trans hsz hsz6) hg8), hp⟩
          case measure => simp [intOf]; omega
    · have hkn : k = ids.length := by omega
      have hkl : (ordG ids l).take k = ordG ids l := List.take_of_length_le (by rw [ordG_len]; omega)
      rw [hkl] at hown
      have HO := Lib.hid (And.intro hbl hown)
      clear hbl hown hkl hkn
      go_wp2_with fail
      go_ret
      exact ⟨_, vs, rfl, below_step R.out.2.2.2 HO.out.1, HO.out.2.less R.out.2.2.2.size⟩
end Go.Proofs.Ytnkdpogplkomhaa

/- What the model's order is for any arguments, and whether it is valid. -/
namespace Go.Proofs.Ytnkdpogplkomhaa
open Go.RowKit

theorem ordOk_of {ids : List Int} {l : List Ctx} (hok : okG ids l = true) (h : ∀ (k : Nat) (a : Int), ids[k]? = some a → upG ids l a a = false) : ordOkG ids l = true := by
  unfold ordOkG
  rw [hok, Bool.true_and, List.all_eq_true]
  intro a ha
  obtain ⟨k, hk⟩ := List.mem_iff_getElem?.1 ha
  rw [h k a hk]; rfl
theorem ordOk_no {ids : List Int} {l : List Ctx} {k : Nat} {a : Int} (hk : ids[k]? = some a) (h : upG ids l a a = true) : ordOkG ids l = false := by
  unfold ordOkG
  rw [Bool.and_eq_false_iff]
  right
  rw [List.all_eq_false]
  exact ⟨a, List.mem_of_getElem? hk, by simp [h]⟩
set_option maxHeartbeats 1600000 in
set_option maxRecDepth 100000 in
theorem sValid4_any (A B : Option Addr) (ca cb : Nat) (ids : List Int) (l : List Ctx) (w : World) (ha : Reads w w.heap.size 1 A ids.length (cellsI ids)) (hb : Reads w w.heap.size 3 B l.length (cellsC l)) (hok : okG ids l = true) :
    Calls Try.prog 93 #[.slice A ids.length ca, .slice B l.length cb] w fun e w2 => e = .returned (.bool (ordOkG ids l)) ∧ Below w.heap.size w w2 := by
  have hn : ids.length ≤ 12 := validO_len (okG_parts hok).1
  have HOK := Lib.hid hok
  have hor := sOrder_any A B ca cb ids l w ha hb hok
  clear hok
  go_enter Try.func93, Try.ntmps93
  go_wp2_with fail
  refine hor.mono ?_
  rintro e w2 ⟨v2, vs2, rfl, hb2, ho2⟩
  obtain ⟨A2, c2, rfl, _, hm2⟩ := ho2.nest
  have htl : (ordG ids l).length = ids.length := ordG_len ids l
  rw [htl] at hm2 ⊢
  have HM := Lib.hid (And.intro hb2 hm2)
  clear hor htl hb2 ho2 hm2 ha hb
  go_wp2_with fail
  go_loop [6] (fun i => ∃ k : Nat, k ≤ ids.length ∧ i = .int .i64 k ∧ ∀ (j : Nat) (a : Int), j < k → ids[j]? = some a → upG ids l a a = false) (fun i => ids.length - (intOf i).toNat)
  case atStart => exact ⟨0, Nat.zero_le _, rfl, fun j a h => absurd h (by omega)⟩
  case round =>
    obtain ⟨k, hk, rfl, hg⟩ := hrel
    have HG := Lib.hid hg; clear hg
    by_cases hlt : k < ids.length
    · obtain ⟨a, hka⟩ : ∃ a, ids[k]? = some a := ⟨_, List.getElem?_eq_getElem hlt⟩
      obtain ⟨r, hr1, hr2, hr3⟩ := ordG_at (l := l) hka hka
      obtain ⟨b, off, A3, c3, hA2, hbb, f1, hc3, hrow⟩ := HM.out.2.row hr1
      obtain ⟨b3, off3, hA3, hbb3, f2⟩ := Reads.cellE hrow hr3
      subst hA2 hA3
      rw [hr2] at f1
      simp only [encB] at f2
      have hki : (k : Int) < (ids.length : Int) := by omega
      obtain ⟨x, hx⟩ : ∃ x, upG ids l a a = x := ⟨_, rfl⟩
      rw [hx] at f2
      have HX := Lib.hid (And.intro hka hx)
      clear hka hr1 hr2 hr3 hrow hx
      cases x
      · go_wp2_with fail
        go_round
        case rel =>
          refine ⟨k + 1, by omega, by go_num, fun j c hj hc => ?_⟩
          by_cases hj2 : j < k
          · exact HG.out j c hj2 hc
          · obtain rfl : j = k := by omega
            rw [HX.out.1] at hc
            injection hc with hc
            exact hc ▸ HX.out.2
        case measure => simp [intOf]; omega
      · go_wp2_with fail
        go_ret
        exact ⟨ret_bool (ordOk_no HX.out.1 HX.out.2).symm, HM.out.1⟩
    · go_wp2_with fail
      go_ret
      exact ⟨ret_bool (ordOk_of HOK.out fun j a hj => HG.out j a (by have := (List.getElem?_eq_some_iff.1 hj).1; omega) hj).symm, HM.out.1⟩
theorem sOrdValid_any (A B : Option Addr) (ca cb : Nat) (ids : List Int) (l : List Ctx) (w : World) (ha : Reads w w.heap.size 1 A ids.length (cellsI ids)) (hb : Reads w w.heap.size 3 B l.length (cellsC l)) (hn : ids.length ≤ 1000000000) (hl : l.length ≤ 1000000000) :
    Calls Try.prog 66 #[.slice A ids.length ca, .slice B l.length cb] w fun e w2 => e = .returned (.bool (ordOkG ids l)) ∧ Below w.heap.size w w2 := by
  cases hok : okG ids l
  · go_enter Try.func66, Try.ntmps66
    go_wp2_with (go_at_call 92; go_must (refine (sOk_any _ _ _ _ ids l _ ha hb (by omega) (by omega)).mono ?_); rw [hok]; rintro e w2 ⟨rfl, k2⟩)
    go_ret
    exact ⟨ret_bool (by simp [ordOkG, hok]), k2⟩
  · go_enter Try.func66, Try.ntmps66
    go_wp2_with (first
      | (go_at_call 92; go_must (refine (sOk_any _ _ _ _ ids l _ ha hb (by omega) (by omega)).mono ?_); rw [hok]; rintro e w2 ⟨rfl, k2⟩)
      | (go_at_call 93; go_must (refine (sValid4_any _ _ _ _ ids l _ (ha.step k2) (hb.step k2) hok).mono ?_); rintro e w3 ⟨rfl, k3⟩))
    go_ret
    exact ⟨rfl, below_step k2 k3⟩
end Go.Proofs.Ytnkdpogplkomhaa
