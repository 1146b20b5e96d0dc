/- What the model's list of what lies above or below a set is. -/
import Derived.Test.YtmcnjmflmpfjlaaSs
import Derived.Test.YtmcnjmflmpfjlaaUu
import Derived.Test.YtmcnjmflmpfjlaaPe
namespace Go.Proofs.Ytmcnjmflmpfjlaa
open Go.RowKit

/-- No block of the table is the slice's. -/
def FarV (m : Value) (vs : List Value) (v : Value) : Prop :=
  (∀ g, m.ownBlock = some g → v.ownBlock ≠ some g) ∧ ∀ (i : Nat) (u : Value) (g : Nat), vs[i]? = some u → u.ownBlock = some g → v.ownBlock ≠ some g
theorem FarV.of_own {α : Type} {enc : α → Value} {W w0 : World} {base base2 e s n : Nat} {e1 e2 : TypeId} {m v : Value} {vs xs : List Value} {L : List (List α)} (h0 : w0.ownsRow base e s v n xs) (h : OwnV enc W base2 e1 e2 m vs L) (hb : w0.heap.size ≤ base2) : FarV m vs v :=
  ⟨own_far2 h0 h.out hb, fun i u g hu => by
    obtain ⟨r, _, ho⟩ := h.at_ hu
    exact own_far2 h0 ho hb g⟩
theorem OwnV.both {α : Type} {enc : α → Value} {W w4 : World} {o : Obj} {base base2 e s n : Nat} {e1 e2 : TypeId} {m v v4 : Value} {vs xs : List Value} {L : List (List α)} (hown : W.ownsRow base e s v n xs) (h : OwnV enc W base2 e1 e2 m vs L) (hne : FarV m vs v)
    (hg : (W.alloc o).grownBy w4 v.ownBlock) (hat : v4.ownBlock = v.ownBlock ∨ v4.ownBlock = some (W.alloc o).heap.size) : OwnV enc w4 base2 e1 e2 m vs L ∧ FarV m vs v4 := by
  have h1 := app_both hown h.out hne.1 hg hat
  refine ⟨⟨h.len, h1.1, fun i r hr => ?_, h.far, h.apart⟩, h1.2, fun i u g hu => ?_⟩
  · obtain ⟨u, hu, ho⟩ := h.row i r hr
    exact ⟨u, hu, (app_both hown ho (fun g => hne.2 i u g hu) hg hat).1⟩
  · obtain ⟨r, _, ho⟩ := h.at_ hu
    exact (app_both hown ho (fun g => hne.2 i u g hu) hg hat).2 g
/-- What one context k of the set says of x. -/
def lkB (ids : List Int) (l : List Ctx) (set : List Int) (down : Bool) (x k : Int) : Bool := decide (k ∈ set) && ((upG ids l x k && !down) || (upG ids l k x && down))
theorem any_next {α : Type} {p : α → Bool} {l : List α} {k : Nat} {x : α} (h : l[k]? = some x) : (l.take (k + 1)).any p = ((l.take k).any p || p x) := by
  rw [List.take_add_one, h]
  simp
theorem filter_next {α : Type} {p : α → Bool} {l : List α} {k : Nat} {x : α} (h : l[k]? = some x) : (l.take (k + 1)).filter p = (l.take k).filter p ++ (if p x then [x] else []) := by
  rw [List.take_add_one, h, List.filter_append]
  cases hp : p x <;> simp [hp]
set_option maxHeartbeats 8000000 in
set_option maxRecDepth 100000 in
theorem sLinked_any (A B S : Option Addr) (ca cb cs : Nat) (ids : List Int) (l : List Ctx) (set : List Int) (down : Bool) (w : World) (ha : Reads w w.heap.size 1 A ids.length (cellsI ids)) (hb : Reads w w.heap.size 3 B l.length (cellsC l)) (hs : Reads w w.heap.size 1 S set.length (cellsI set)) (hsl : set.length ≤ 1000000) (hok : okG ids l = true) :
    Calls Try.prog 62 #[.slice A ids.length ca, .slice B l.length cb, .slice S set.length cs, .bool down] w (IntsS w (linkG ids l set down)) := by
  obtain ⟨i0, hi0, hz0, hz1, hz2⟩ := info_parts sInfoInt
  have hn : ids.length ≤ 12 := validO_len (okG_parts hok).1
  have hb1 : Below w.heap.size w (w.alloc (.cells #[] 3)) := (Below.refl _ _).alloc (Nat.le_refl _) _
  have ho1 : (w.alloc (.cells #[] 3)).ownsRow w.heap.size 3 1 (.slice (some ⟨w.heap.size, 0, none⟩) 0 0) 0 [] := own_empty (Nat.le_refl _) rfl
  have ha1 := ha.step hb1
  have hl1 := hb.step hb1
  have hor := sOrder_any A B ca cb ids l _ ha1 hl1 hok
  have htl : (ordG ids l).length = ids.length := ordG_len ids l
  have HA := Lib.hid (And.intro ha (And.intro hs (And.intro hb1 (And.intro ho1 hor))))
  clear ha hb hs hb1 ho1 ha1 hl1 hor hok
  go_enter Try.func62, Try.ntmps62
  go_wp2_with (go_at_call 76; go_must (refine HA.out.2.2.2.2.mono ?_); rintro e w2 ⟨v2, vs2, rfl, hb2, hm2⟩)
  have hfar := FarV.of_own HA.out.2.2.2.1 hm2 (Nat.le_refl _)
  obtain ⟨A2, c2, hv2, _, _⟩ := hm2.nest
  subst hv2
  rw [htl] at hm2 hfar ⊢
  clear htl
  have H1 := Lib.hid (And.intro (below_step HA.out.2.2.1 hb2) (And.intro (own_below HA.out.2.2.2.1 hb2) (And.intro hm2 hfar)))
  clear hm2 hfar hb2
  go_wp2_with fail
  go_loopw [9, 11] (fun v i wr => ∃ k : Nat, k ≤ ids.length ∧ i = .int .i64 k ∧ Below w.heap.size w wr ∧ wr.ownsRow w.heap.size 3 1 v ((ids.take k).filter (linkB ids l set down)).length (cellsI ((ids.take k).filter (linkB ids l set down))) ∧ OwnV encB wr (w.alloc (.cells #[] 3)).heap.size 4 85 (.slice A2 ids.length c2) vs2 (ordG ids l) ∧ FarV (.slice A2 ids.length c2) vs2 v) (fun _ i _ => ids.length - (intOf i).toNat)
  case atStart => exact ⟨0, Nat.zero_le _, rfl, H1.out.1, by simpa [cellsI] using H1.out.2.1, H1.out.2.2.1, H1.out.2.2.2⟩
  case round =>
    obtain ⟨k, hk, rfl, hbl, hown, hmm, hfar⟩ := hrel
    obtain ⟨wA, rfl⟩ : ∃ wA, wA = wr := ⟨wr, rfl⟩
    have hsz := hbl.size
    by_cases hlt : k < ids.length
    · have hki : (k : Int) < (ids.length : Int) := by omega
      obtain ⟨x, hx⟩ : ∃ x, ids[k]? = some x := ⟨_, List.getElem?_eq_getElem hlt⟩
      have HO := Lib.hid (And.intro hbl (And.intro hown (And.intro hmm (And.intro hfar hx))))
      clear hbl hown hmm hfar hx
      go_wp2_with fail
      go_loop [12, 13] (fun s i => ∃ j : Nat, j ≤ ids.length ∧ i = .int .i64 j ∧ s = .bool ((ids.take j).any (lkB ids l set down x))) (fun _ i => ids.length - (intOf i).toNat)
      case atStart => exact ⟨0, Nat.zero_le _, rfl, by simp⟩
      case round =>
        obtain ⟨j, hj, rfl, rfl⟩ := hrel
        by_cases hjj : j < ids.length
        · have hji : (j : Int) < (ids.length : Int) := by omega
          obtain ⟨y, hy⟩ : ∃ y, ids[j]? = some y := ⟨_, List.getElem?_eq_getElem hjj⟩
          obtain ⟨b3, off3, hA3, hbb3, hc3⟩ := (HA.out.1.below HO.out.1).ints (by omega)
          subst hA3
          have f0 := hc3 j _ hy
          have hplace := sPlace_any S cs set y wA (HA.out.2.1.step HO.out.1) (by omega)
          have hfn := findI_mem set y
          obtain ⟨z, hz⟩ : ∃ z, findI set y = z := ⟨_, rfl⟩
          rw [hz] at hplace hfn
          have hnx : (ids.take (j + 1)).any (lkB ids l set down x) = ((ids.take j).any (lkB ids l set down x) || lkB ids l set down x y) := any_next hy
          obtain ⟨r1, hr1, hr2, hr3⟩ := ordG_at (l := l) HO.out.2.2.2.2 hy
          obtain ⟨r2, hs1, hs2, hs3⟩ := ordG_at (l := l) hy HO.out.2.2.2.2
          obtain ⟨A4, c4, hv4, _, hnest⟩ := HO.out.2.2.1.nest
          injection hv4 with hv4 hq1 hq2
          clear hq1 hq2
          subst hv4
          obtain ⟨b4, off4, A5, c5, hA4, hbb4, f1, hc5, hrow1⟩ := hnest.row hr1
          obtain ⟨b4', off4', A6, c6, hA4', hbb4', f2, hc6, hrow2⟩ := hnest.row hs1
          subst hA4
          injection hA4' with hA4'
          injection hA4' with e1 e2 e3
          subst e1 e2
          obtain ⟨b5, off5, hA5, hbb5, f3⟩ := Reads.cellE hrow1 hr3
          obtain ⟨b6, off6, hA6, hbb6, f4⟩ := Reads.cellE hrow2 hs3
          subst hA5 hA6
          rw [hr2] at f1
          rw [hs2] at f2
          simp only [encB] at f3 f4
          obtain ⟨s0, hs0⟩ : ∃ s0, (ids.take j).any (lkB ids l set down x) = s0 := ⟨_, rfl⟩
          obtain ⟨y1, hy1⟩ : ∃ y1, upG ids l x y = y1 := ⟨_, rfl⟩
          obtain ⟨y2, hy2⟩ : ∃ y2, upG ids l y x = y2 := ⟨_, rfl⟩
          have hlk : lkB ids l set down x y = (decide (y ∈ set) && ((y1 && !down) || (y2 && down))) := by rw [← hy1, ← hy2]; rfl
          rw [hy1] at f3
          rw [hy2] at f4
          rw [hs0] at hnx ⊢
          rw [hlk] at hnx
          have HP := Lib.hid hplace
          clear hc3 hplace hr1 hr2 hr3 hs1 hs2 hs3 hnest hrow1 hrow2 hs0 hy1 hy2 hlk hz
          cases hmem : decide (y ∈ set)
          · rw [hmem] at hfn hnx
            have HN := Lib.hid hnx
            have hzz := hfn
            clear hmem hnx hfn
            go_wp2_with (go_at_call 79; go_must (refine HP.out.mono ?_); rintro e w3 ⟨rfl, rfl⟩)
            go_round
            case rel => exact ⟨j + 1, by omega, by go_num, by rw [HN.out]; simp⟩
            case measure => simp [intOf]; omega
          · rw [hmem] at hfn hnx
            have HN := Lib.hid hnx
            have hzz := hfn
            clear hmem hnx hfn
            cases s0 <;> cases y1 <;> cases y2 <;> cases down
            all_goals
              go_wp2_with (go_at_call 79; go_must (refine HP.out.mono ?_); rintro e w3 ⟨rfl, rfl⟩)
              go_round
              case rel => exact ⟨j + 1, by omega, by go_num, by rw [HN.out]; rfl⟩
              case measure => simp [intOf]; omega
        · have hje : j = ids.length := by omega
          subst hje
          have hP : (ids.take ids.length).any (lkB ids l set down x) = linkB ids l set down x := by rw [List.take_length]; rfl
          rw [hP]
          have hnf := filter_next (p := linkB ids l set down) HO.out.2.2.2.2
          obtain ⟨q, hq⟩ : ∃ q, linkB ids l set down x = q := ⟨_, rfl⟩
          rw [hq] at hnf ⊢
          obtain ⟨b3, off3, hA3, hbb3, hc3⟩ := (HA.out.1.below HO.out.1).ints (by omega)
          subst hA3
          have f0 := hc3 k _ HO.out.2.2.2.2
          have hfl : ((ids.take k).filter (linkB ids l set down)).length ≤ 12 := by
            have := List.length_filter_le (linkB ids l set down) (ids.take k)
            rw [List.length_take] at this; omega
          have HQ := Lib.hid hnf
          clear hP hnf hq hc3
          cases q
          · go_wp2_with fail
            go_roundw
            case rel =>
              refine ⟨k + 1, by omega, by go_num, HO.out.1, ?_, HO.out.2.2.1, HO.out.2.2.2.1⟩
              rw [HQ.out]
              simpa using HO.out.2.1
            case measure => simp [intOf]; omega
          · go_wp2_with (at_builtin
                         go_must (refine wpList_append_reads _ rfl (.tmp 64) (.tmp 69) _ rfl w.heap.size 3 i0 _ 1 8 Try.underlying23 hi0 hz0 hz1 hz2 rfl (by omega) _ ((ids.take k).filter (linkB ids l set down)).length _ rfl (HO.out.2.1.alloc _) (wA.heap.size + 1) _ 1 1 (cellsI [x]) rfl (reads_int (by omega)) (cellsI_one _) (by simp only [maxLen]; omega) (by omega) (by simp; omega) ?_)
                         intro v4 w4 hown4 hg4 hat4)
            go_roundw
            case rel =>
              obtain ⟨h1, h2⟩ := HO.out.2.2.1.both HO.out.2.1 HO.out.2.2.2.1 hg4 hat4
              refine ⟨k + 1, by omega, by go_num, HO.out.1.trans (app_below HO.out.2.1 (Nat.le_refl _) hsz hg4), ?_, h1, h2⟩
              rw [HQ.out, sCells_append, List.length_append]
              exact hown4
            case measure => simp [intOf]; omega
    · have hkl : k = ids.length := by omega
      have HK := Lib.hid (And.intro hbl hown)
      subst hkl
      clear hbl hown hmm hfar
      go_wp2_with fail
      go_ret
      obtain ⟨hbl, hown⟩ := HK.out
      rw [List.take_length] at hown
      exact ⟨_, rfl, hbl, hown⟩
end Go.Proofs.Ytmcnjmflmpfjlaa
