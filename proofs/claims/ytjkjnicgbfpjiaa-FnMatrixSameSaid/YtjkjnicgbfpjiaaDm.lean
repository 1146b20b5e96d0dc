/- The laws' draws of their inputs on matrices. -/
import Derived.Test.YtjkjnicgbfpjiaaDz
import Derived.Test.YtjkjnicgbfpjiaaMw
import Derived.Test.YtjkjnicgbfpjiaaMp
import Derived.Deep.RegionHeld3
namespace Go.Proofs.Ytjkjnicgbfpjiaa
open Go.RowKit

theorem dMatOf_any (A : Option Addr) (c : Nat) (z : List Int) (w : World) (h : Bytes w A c z) :
    Calls Try.prog 17 #[.slice A z.length c] w fun e w2 => ∃ v1 v2 ids l, e = .returned (.tuple #[v1, v2]) ∧ DrewB w v1 v2 ids l w2 := by
  go_enter Try.func17, Try.ntmps17
  go_wp2_with fail
  refine (open_any A c z _ h.reads h.byte h.cap h.room).mono ?_
  rintro e w2 ⟨g, c2, A2, z2, rfl, hg, hb2, hr2⟩
  go_wp2_with fail
  refine (drawGood_any g c2 0 A2 z2 _ hr2 (by omega)).mono ?_
  rintro e w3 ⟨v1, v2, ids, l, rfl, ho1, ho2, hl1, hl2, hd3⟩
  go_wp2_with fail
  go_ret2
  exact ⟨v1, v2, ids, l, rfl, own_less ho1 hb2.size, own_less ho2 hb2.size, hl1, hl2, grown_below hd3.grown hb2 hg⟩
theorem dMatLev_any (A : Option Addr) (c : Nat) (z : List Int) (w : World) (h : Bytes w A c z) :
    Calls Try.prog 29 #[.slice A z.length c] w fun e w2 => ∃ v1 v2 ids l, e = .returned (.tuple #[v1, v2]) ∧ DrewB w v1 v2 ids l w2 := by
  go_enter Try.func29, Try.ntmps29
  go_wp2_with fail
  refine (open_any A c z _ h.reads h.byte h.cap h.room).mono ?_
  rintro e w2 ⟨g, c2, A2, z2, rfl, hg, hb2, hr2⟩
  go_wp2_with fail
  refine (drawGood_any g c2 0 A2 z2 _ hr2 (by omega)).mono ?_
  rintro e w3 ⟨v1, v2, ids, l, rfl, ho1, ho2, hl1, hl2, hd3⟩
  go_wp2_with fail
  go_ret2
  exact ⟨v1, v2, ids, l, rfl, own_less ho1 hb2.size, own_less ho2 hb2.size, hl1, hl2, grown_below hd3.grown hb2 hg⟩
theorem dMatBel_any (A : Option Addr) (c : Nat) (z : List Int) (w : World) (h : Bytes w A c z) :
    Calls Try.prog 32 #[.slice A z.length c] w fun e w2 => ∃ v1 v2 ids l id, e = .returned (.tuple #[v1, v2, .int .i64 id]) ∧ DrewB w v1 v2 ids l w2 := by
  go_enter Try.func32, Try.ntmps32
  go_wp2_with fail
  refine (open_any A c z _ h.reads h.byte h.cap h.room).mono ?_
  rintro e w2 ⟨g, c2, A2, z2, rfl, hg, hb2, hr2⟩
  have hgl := hr2.lt
  go_wp2_with fail
  refine (drawGood_any g c2 0 A2 z2 _ hr2 (by omega)).mono ?_
  rintro e w3 ⟨v1, v2, ids, l, rfl, ho1, ho2, hl1, hl2, ⟨p3, hp3, hr3⟩, hg3⟩
  go_wp2_with fail
  refine (pick_any g c2 p3 A2 z2 _ _ hr3 (by omega) (by omega)).mono ?_
  rintro e w4 ⟨r4, rfl, a4, b4, _, hr4, hg4⟩
  have b4 := b4 (by omega)
  have o1 := own_drawn (w0 := w2) ho1 hg4 hgl
  have o2 := own_drawn (w0 := w2) ho2 hg4 hgl
  go_wp2_with fail
  go_ret3
  exact ⟨v1, v2, ids, l, _, rfl, own_less o1 hb2.size, own_less o2 hb2.size, hl1, hl2, grown_below (hg3.trans hg4) hb2 hg⟩
/-- Contexts and two lists of relations were drawn. -/
def DrewM (w : World) (v1 v2 v3 : Value) (ids : List Int) (l m : List Ctx) (w2 : World) : Prop :=
  w2.ownsRow w.heap.size 3 1 v1 ids.length (cellsI ids) ∧ w2.ownsRow w.heap.size 48 3 v2 l.length (cellsC l) ∧ w2.ownsRow w.heap.size 48 3 v3 m.length (cellsC m) ∧ ids.length ≤ 13 ∧ l.length ≤ 31 ∧ m.length ≤ 31 ∧ Below w.heap.size w w2
set_option maxHeartbeats 8000000 in
set_option maxRecDepth 100000 in
theorem dMatSame_any (A : Option Addr) (c : Nat) (z : List Int) (w : World) (h : Bytes w A c z) :
    Calls Try.prog 23 #[.slice A z.length c] w fun e w2 => ∃ v1 v2 v3 ids l m, e = .returned (.tuple #[v1, v2, v3]) ∧ DrewM w v1 v2 v3 ids l m w2 := by
  obtain ⟨i0, hi0, hz0, hz1, hz2⟩ := info_parts infoRel
  go_enter Try.func23, Try.ntmps23
  go_wp2_with fail
  refine (open_any A c z _ h.reads h.byte h.cap h.room).mono ?_
  rintro e w2 ⟨g, c2, A2, z2, rfl, hg, hb2, hr2⟩
  have hgl := hr2.lt
  have HB := Lib.hid (And.intro hb2 hg)
  have hb2s := hb2.size
  clear h hb2 hg
  go_wp2_with fail
  refine (drawGood_any g c2 0 A2 z2 _ hr2 (by omega)).mono ?_
  rintro e w3 ⟨v1, v2, ids, l, rfl, ho1, ho2, hl1, hl2, ⟨p3, hp3, hr3⟩, hg3⟩
  obtain ⟨A3, c3, hv1, _, _⟩ := own_slice ho1
  obtain ⟨A4, cl, hv2, hcap, _⟩ := own_slice ho2
  subst hv1 hv2
  have K3 := Lib.hid (And.intro ho1 (And.intro ho2 hg3))
  clear ho1 ho2 hg3 hr2
  have fin : ∀ (W : World) (v3 : Value) (m : List Ctx), W.ownsRow w2.heap.size 3 1 (.slice A3 ids.length c3) ids.length (cellsI ids) → W.ownsRow w2.heap.size 48 3 (.slice A4 l.length cl) l.length (cellsC l) → W.ownsRow w2.heap.size 48 3 v3 m.length (cellsC m) → m.length ≤ 31 → w2.grownBy W (some g) →
      DrewM w (.slice A3 ids.length c3) (.slice A4 l.length cl) v3 ids l m W := fun W v3 m h1 h2 h3 h4 h5 =>
    ⟨own_less h1 hb2s, own_less h2 hb2s, own_less h3 hb2s, hl1, hl2, h4, grown_below h5 HB.out.1 HB.out.2⟩
  have HF := Lib.hid fin
  clear fin
  go_wp2_with fail
  refine (pick_any g c2 p3 A2 z2 _ _ hr3 (by omega) (by omega)).mono ?_
  rintro e w4 ⟨r4, rfl, a4, b4, _, hr4, hg4⟩
  have b4 := b4 (by omega)
  have K4 := Lib.hid (And.intro (own_drawn (w0 := w2) K3.out.1 hg4 hgl) (And.intro (own_drawn (w0 := w2) K3.out.2.1 hg4 hgl) (K3.out.2.2.trans hg4)))
  clear hg4 hr3
  by_cases h1 : r4 = 0
  · have e4 : (r4 == 0) = true := by simp [h1]
    clear h1
    go_wp2_with fail
    refine (sOk_any _ _ _ _ ids l _ (own_reads K4.out.1) (own_reads K4.out.2.1) (by omega) (by omega)).mono ?_
    rintro e w5 ⟨rfl, hb5⟩
    have K5 := Lib.hid (And.intro (own_below K4.out.1 hb5) (And.intro (own_below K4.out.2.1 hb5) (K4.out.2.2.trans (grown_of_below hb5 _))))
    have hr5 := hr4.step hb5
    clear hb5 hr4
    cases hok : okG ids l
    · clear hok
      rcases Nat.eq_zero_or_pos l.length with h0 | hpos
      · have e5 : decide ((0 : Int) < (l.length : Int)) = false := decide_eq_false (by omega)
        have e6 : decide (0 < l.length) = false := decide_eq_false (by omega)
        clear h0
        go_wp2_with fail
        refine (drawGood_any g c2 _ A2 z2 _ hr5 (by omega)).mono ?_
        rintro e w6 ⟨u1, u2, ids2, m2, rfl, _, q2, _, hm2, _, hg6⟩
        have KN := Lib.hid (And.intro (own_drawn (w0 := w2) K5.out.1 hg6 hgl) (And.intro (own_drawn (w0 := w2) K5.out.2.1 hg6 hgl) (And.intro (own_less q2 K5.out.2.2.size) (K5.out.2.2.trans hg6))))
        clear q2 hg6
        go_wp2_with fail
        go_ret3
        exact ⟨_, _, _, ids, l, m2, rfl, HF.out _ _ m2 KN.out.1 KN.out.2.1 KN.out.2.2.1 hm2 KN.out.2.2.2⟩
      · have e5 : decide ((0 : Int) < (l.length : Int)) = true := decide_eq_true (by omega)
        have e6 : decide (0 < l.length) = true := decide_eq_true hpos
        go_wp2_with fail
        refine (pick_any g c2 _ A2 z2 _ _ hr5 (by omega) (by omega)).mono ?_
        rintro e w6 ⟨r6, rfl, a6, b6, _, hr6, hg6⟩
        have K6 := Lib.hid (And.intro (own_drawn (w0 := w2) K5.out.1 hg6 hgl) (And.intro (own_drawn (w0 := w2) K5.out.2.1 hg6 hgl) (K5.out.2.2.trans hg6)))
        clear hg6 hr5
        by_cases h2 : r6 = 0
        · have e7 : (r6 == 0) = true := by simp [h2]
          clear h2
          go_wp2_with fail
          refine (pick_any g c2 _ A2 z2 _ _ hr6 (by omega) (by omega)).mono ?_
          rintro e w7 ⟨r7, rfl, a7, b7, _, hr7, hg7⟩
          have b7 := b7 (by omega)
          have K7 := Lib.hid (And.intro (own_drawn (w0 := w2) K6.out.1 hg7 hgl) (And.intro (own_drawn (w0 := w2) K6.out.2.1 hg7 hgl) (K6.out.2.2.trans hg7)))
          clear hg7 hr6 hr7
          obtain ⟨k, rfl⟩ := Int.eq_ofNat_of_zero_le a7
          have hkl : k < l.length := by omega
          obtain ⟨b, off, hA4, hbb, _⟩ := (own_reads K7.out.2.1).ctx hpos
          subst hA4
          have hk0 : (0 : Int) ≤ (k : Int) := by omega
          have hk1 : (0 : Int) ≤ (k : Int) + 1 := by omega
          have hk2 : ((k : Int) + 1).toNat = k + 1 := by omega
          have hkw : IntKind.i64.wrap ((k : Int) + 1) = (k : Int) + 1 := IntWalk.i64_in _ (by omega)
          have hkc : (k : Int) ≤ (cl : Int) := by omega
          have hkc2 : (k : Int) + 1 ≤ (cl : Int) := by omega
          have hkl2 : (k : Int) ≤ (l.length : Int) := by omega
          have hkl3 : (k : Int) + 1 ≤ (l.length : Int) := by omega
          have hne : ¬ cl = k := by omega
          obtain ⟨xs, hxs⟩ : ∃ xs, xs = l.take k ++ l.drop (k + 1) := ⟨_, rfl⟩
          have hxl : xs.length ≤ 31 := by rw [hxs, List.length_append, List.length_take, List.length_drop]; omega
          have Hxs := Lib.hid (And.intro hxs trivial)
          clear hxs
          by_cases hcc : cl = k + 1
          · have HT : Hid (0 < l.length - (k + 1) → (some ⟨b, off, none⟩ : Option Addr) = (some ⟨b, off, none⟩ : Option Addr).map (·.add ((k + 1) * 3))) := by
              show 0 < l.length - (k + 1) → _
              intro h0
              omega
            have hcc2 : (cl = k + 1) = True := eq_true hcc
            clear hcc
            go_wp2_with fail
            have hO : ((w7.drewN 1).alloc (.cells #[] 48)).ownsRow w7.heap.size 48 3 (.slice (some ⟨w7.heap.size, 0, none⟩) 0 0) 0 [] := own_empty (w := w7.drewN 1) (Nat.le_refl _) rfl
            have hB : Below w7.heap.size w7 ((w7.drewN 1).alloc (.cells #[] 48)) := (below_draws (Below.refl _ _) 1).alloc (Nat.le_refl _) _
            have hR : Reads ((w7.drewN 1).alloc (.cells #[] 48)) w7.heap.size 3 (some ⟨b, off, none⟩) l.length (cellsC l) := (own_reads K7.out.2.1).below hB
            have w5X := Lib.hid (And.intro hO (And.intro hB hR))
            clear hO hB hR
            go_region_held3 (fun _ => True) (trivial)
              (first
                | (refine step_append_want ((w7.drewN 1).alloc (.cells #[] 48)) (by rfl) (.tmp 50) (.tmp 53) _ (by rfl) w7.heap.size 48 i0 _ 3 24 Try.underlying24 hi0 hz0 hz1 hz2 rfl (by omega) (.slice (some ⟨w7.heap.size, 0, none⟩) 0 0) 0 [] (by rfl) w5X.out.1 _ _ k _ (cellsC (l.take k)) (by rfl) (w5X.out.2.2.headC (by omega)) (cellsC_one _) (by simp only [maxLen]; omega) (by omega) (by simp [World.drewN]) ?_
                   intro vx wx ox wxg wxt
                   have bx : Below w7.heap.size w7 wx := w5X.out.2.1.grown wxg (by simp) (fun j hj => by simp [Value.ownBlock] at hj; omega))
                | (refine step_append_want wx (by rfl) (.tmp 54) (.tmp 58) _ (by rfl) w7.heap.size 48 i0 _ 3 24 Try.underlying24 hi0 hz0 hz1 hz2 rfl (by omega) vx (0 + k) ([] ++ cellsC (l.take k)) (by rfl) ox _ _ (l.length - (k + 1)) _ (cellsC (l.drop (k + 1))) (by rfl) (((own_reads K7.out.2.1).below bx).tailC (by omega) HT.out) (cellsC_one _) (by simp only [maxLen]; omega) (by omega) bx.size ?_
                   intro vy wy oy wyg wyt
                   have by7 : Below w7.heap.size w7 wy := bx.trans (app_below0 ox (Nat.le_refl _) bx.size wyg)
                   rw [List.nil_append, ← cellsC_append, ← Hxs.out.1, show 0 + k + (l.length - (k + 1)) = xs.length from by rw [Hxs.out.1, List.length_append, List.length_take, List.length_drop]; omega] at oy
                   obtain ⟨A7, c7, hv7, _, _⟩ := own_slice oy
                   subst hv7
                   have R7 := Lib.hid (And.intro by7 oy)
                   clear oy))
            go_wp2_with fail
            go_ret3
            exact ⟨_, _, _, ids, l, xs, rfl, HF.out _ _ xs (own_below K7.out.1 R7.out.1) (own_below K7.out.2.1 R7.out.1) (own_less R7.out.2 K7.out.2.2.size) hxl (K7.out.2.2.trans (grown_of_below R7.out.1 _))⟩
          · have HT : Hid (0 < l.length - (k + 1) → (some ⟨b, off + (k + 1) * 3, none⟩ : Option Addr) = (some ⟨b, off, none⟩ : Option Addr).map (·.add ((k + 1) * 3))) := by
              show 0 < l.length - (k + 1) → _
              intro _
              simp only [Option.map, Addr.add]
              rw [if_neg (by omega)]
            go_wp2_with fail
            have hO : ((w7.drewN 1).alloc (.cells #[] 48)).ownsRow w7.heap.size 48 3 (.slice (some ⟨w7.heap.size, 0, none⟩) 0 0) 0 [] := own_empty (w := w7.drewN 1) (Nat.le_refl _) rfl
            have hB : Below w7.heap.size w7 ((w7.drewN 1).alloc (.cells #[] 48)) := (below_draws (Below.refl _ _) 1).alloc (Nat.le_refl _) _
            have hR : Reads ((w7.drewN 1).alloc (.cells #[] 48)) w7.heap.size 3 (some ⟨b, off, none⟩) l.length (cellsC l) := (own_reads K7.out.2.1).below hB
            have w5X := Lib.hid (And.intro hO (And.intro hB hR))
            clear hO hB hR
            go_region_held3 (fun _ => True) (trivial)
              (first
                | (refine step_append_want ((w7.drewN 1).alloc (.cells #[] 48)) (by rfl) (.tmp 50) (.tmp 53) _ (by rfl) w7.heap.size 48 i0 _ 3 24 Try.underlying24 hi0 hz0 hz1 hz2 rfl (by omega) (.slice (some ⟨w7.heap.size, 0, none⟩) 0 0) 0 [] (by rfl) w5X.out.1 _ _ k _ (cellsC (l.take k)) (by rfl) (w5X.out.2.2.headC (by omega)) (cellsC_one _) (by simp only [maxLen]; omega) (by omega) (by simp [World.drewN]) ?_
                   intro vx wx ox wxg wxt
                   have bx : Below w7.heap.size w7 wx := w5X.out.2.1.grown wxg (by simp) (fun j hj => by simp [Value.ownBlock] at hj; omega))
                | (refine step_append_want wx (by rfl) (.tmp 54) (.tmp 58) _ (by rfl) w7.heap.size 48 i0 _ 3 24 Try.underlying24 hi0 hz0 hz1 hz2 rfl (by omega) vx (0 + k) ([] ++ cellsC (l.take k)) (by rfl) ox _ _ (l.length - (k + 1)) _ (cellsC (l.drop (k + 1))) (by rfl) (((own_reads K7.out.2.1).below bx).tailC (by omega) HT.out) (cellsC_one _) (by simp only [maxLen]; omega) (by omega) bx.size ?_
                   intro vy wy oy wyg wyt
                   have by7 : Below w7.heap.size w7 wy := bx.trans (app_below0 ox (Nat.le_refl _) bx.size wyg)
                   rw [List.nil_append, ← cellsC_append, ← Hxs.out.1, show 0 + k + (l.length - (k + 1)) = xs.length from by rw [Hxs.out.1, List.length_append, List.length_take, List.length_drop]; omega] at oy
                   obtain ⟨A7, c7, hv7, _, _⟩ := own_slice oy
                   subst hv7
                   have R7 := Lib.hid (And.intro by7 oy)
                   clear oy))
            go_wp2_with fail
            go_ret3
            exact ⟨_, _, _, ids, l, xs, rfl, HF.out _ _ xs (own_below K7.out.1 R7.out.1) (own_below K7.out.2.1 R7.out.1) (own_less R7.out.2 K7.out.2.2.size) hxl (K7.out.2.2.trans (grown_of_below R7.out.1 _))⟩
        · have e7 : (r6 == 0) = false := by simp [h2]
          clear h2
          go_wp2_with fail
          refine (drawGood_any g c2 _ A2 z2 _ hr6 (by omega)).mono ?_
          rintro e w7 ⟨u1, u2, ids2, m2, rfl, _, q2, _, hm2, _, hg7⟩
          have KN := Lib.hid (And.intro (own_drawn (w0 := w2) K6.out.1 hg7 hgl) (And.intro (own_drawn (w0 := w2) K6.out.2.1 hg7 hgl) (And.intro (own_less q2 K6.out.2.2.size) (K6.out.2.2.trans hg7))))
          clear q2 hg7
          go_wp2_with fail
          go_ret3
          exact ⟨_, _, _, ids, l, m2, rfl, HF.out _ _ m2 KN.out.1 KN.out.2.1 KN.out.2.2.1 hm2 KN.out.2.2.2⟩
    · have HOK := Lib.hid hok
      clear hok
      go_wp2_with fail
      refine (sValid4_any _ _ _ _ ids l _ (own_reads K5.out.1) (own_reads K5.out.2.1) HOK.out).mono ?_
      rintro e w6 ⟨rfl, hb6⟩
      have K6 := Lib.hid (And.intro (own_below K5.out.1 hb6) (And.intro (own_below K5.out.2.1 hb6) (K5.out.2.2.trans (grown_of_below hb6 _))))
      have hr6 := hr5.step hb6
      clear hb6 hr5
      cases ho : ordOkG ids l
      · clear ho
        rcases Nat.eq_zero_or_pos l.length with h0 | hpos
        · have e5 : decide ((0 : Int) < (l.length : Int)) = false := decide_eq_false (by omega)
          have e6 : decide (0 < l.length) = false := decide_eq_false (by omega)
          clear h0
          go_wp2_with fail
          refine (drawGood_any g c2 _ A2 z2 _ hr6 (by omega)).mono ?_
          rintro e w7 ⟨u1, u2, ids2, m2, rfl, _, q2, _, hm2, _, hg7⟩
          have KN := Lib.hid (And.intro (own_drawn (w0 := w2) K6.out.1 hg7 hgl) (And.intro (own_drawn (w0 := w2) K6.out.2.1 hg7 hgl) (And.intro (own_less q2 K6.out.2.2.size) (K6.out.2.2.trans hg7))))
          clear q2 hg7
          go_wp2_with fail
          go_ret3
          exact ⟨_, _, _, ids, l, m2, rfl, HF.out _ _ m2 KN.out.1 KN.out.2.1 KN.out.2.2.1 hm2 KN.out.2.2.2⟩
        · have e5 : decide ((0 : Int) < (l.length : Int)) = true := decide_eq_true (by omega)
          have e6 : decide (0 < l.length) = true := decide_eq_true hpos
          go_wp2_with fail
          refine (pick_any g c2 _ A2 z2 _ _ hr6 (by omega) (by omega)).mono ?_
          rintro e w7 ⟨r7, rfl, a7, b7, _, hr7, hg7⟩
          have K7 := Lib.hid (And.intro (own_drawn (w0 := w2) K6.out.1 hg7 hgl) (And.intro (own_drawn (w0 := w2) K6.out.2.1 hg7 hgl) (K6.out.2.2.trans hg7)))
          clear hg7 hr6
          by_cases h2 : r7 = 0
          · have e7 : (r7 == 0) = true := by simp [h2]
            clear h2
            go_wp2_with fail
            refine (pick_any g c2 _ A2 z2 _ _ hr7 (by omega) (by omega)).mono ?_
            rintro e w8 ⟨r8, rfl, a8, b8, _, hr8, hg8⟩
            have b8 := b8 (by omega)
            have K8 := Lib.hid (And.intro (own_drawn (w0 := w2) K7.out.1 hg8 hgl) (And.intro (own_drawn (w0 := w2) K7.out.2.1 hg8 hgl) (K7.out.2.2.trans hg8)))
            clear hg8 hr7 hr8
            obtain ⟨k, rfl⟩ := Int.eq_ofNat_of_zero_le a8
            have hkl : k < l.length := by omega
            obtain ⟨b, off, hA4, hbb, _⟩ := (own_reads K8.out.2.1).ctx hpos
            subst hA4
            have hk0 : (0 : Int) ≤ (k : Int) := by omega
            have hk1 : (0 : Int) ≤ (k : Int) + 1 := by omega
            have hk2 : ((k : Int) + 1).toNat = k + 1 := by omega
            have hkw : IntKind.i64.wrap ((k : Int) + 1) = (k : Int) + 1 := IntWalk.i64_in _ (by omega)
            have hkc : (k : Int) ≤ (cl : Int) := by omega
            have hkc2 : (k : Int) + 1 ≤ (cl : Int) := by omega
            have hkl2 : (k : Int) ≤ (l.length : Int) := by omega
            have hkl3 : (k : Int) + 1 ≤ (l.length : Int) := by omega
            have hne : ¬ cl = k := by omega
            obtain ⟨xs, hxs⟩ : ∃ xs, xs = l.take k ++ l.drop (k + 1) := ⟨_, rfl⟩
            have hxl : xs.length ≤ 31 := by rw [hxs, List.length_append, List.length_take, List.length_drop]; omega
            have Hxs := Lib.hid (And.intro hxs trivial)
            clear hxs
            by_cases hcc : cl = k + 1
            · have HT : Hid (0 < l.length - (k + 1) → (some ⟨b, off, none⟩ : Option Addr) = (some ⟨b, off, none⟩ : Option Addr).map (·.add ((k + 1) * 3))) := by
                show 0 < l.length - (k + 1) → _
                intro h0
                omega
              have hcc2 : (cl = k + 1) = True := eq_true hcc
              clear hcc
              go_wp2_with fail
              have hO : ((w8.drewN 1).alloc (.cells #[] 48)).ownsRow w8.heap.size 48 3 (.slice (some ⟨w8.heap.size, 0, none⟩) 0 0) 0 [] := own_empty (w := w8.drewN 1) (Nat.le_refl _) rfl
              have hB : Below w8.heap.size w8 ((w8.drewN 1).alloc (.cells #[] 48)) := (below_draws (Below.refl _ _) 1).alloc (Nat.le_refl _) _
              have hR : Reads ((w8.drewN 1).alloc (.cells #[] 48)) w8.heap.size 3 (some ⟨b, off, none⟩) l.length (cellsC l) := (own_reads K8.out.2.1).below hB
              have w5X := Lib.hid (And.intro hO (And.intro hB hR))
              clear hO hB hR
              go_region_held3 (fun _ => True) (trivial)
                (first
                  | (refine step_append_want ((w8.drewN 1).alloc (.cells #[] 48)) (by rfl) (.tmp 50) (.tmp 53) _ (by rfl) w8.heap.size 48 i0 _ 3 24 Try.underlying24 hi0 hz0 hz1 hz2 rfl (by omega) (.slice (some ⟨w8.heap.size, 0, none⟩) 0 0) 0 [] (by rfl) w5X.out.1 _ _ k _ (cellsC (l.take k)) (by rfl) (w5X.out.2.2.headC (by omega)) (cellsC_one _) (by simp only [maxLen]; omega) (by omega) (by simp [World.drewN]) ?_
                     intro vx wx ox wxg wxt
                     have bx : Below w8.heap.size w8 wx := w5X.out.2.1.grown wxg (by simp) (fun j hj => by simp [Value.ownBlock] at hj; omega))
                  | (refine step_append_want wx (by rfl) (.tmp 54) (.tmp 58) _ (by rfl) w8.heap.size 48 i0 _ 3 24 Try.underlying24 hi0 hz0 hz1 hz2 rfl (by omega) vx (0 + k) ([] ++ cellsC (l.take k)) (by rfl) ox _ _ (l.length - (k + 1)) _ (cellsC (l.drop (k + 1))) (by rfl) (((own_reads K8.out.2.1).below bx).tailC (by omega) HT.out) (cellsC_one _) (by simp only [maxLen]; omega) (by omega) bx.size ?_
                     intro vy wy oy wyg wyt
                     have by7 : Below w8.heap.size w8 wy := bx.trans (app_below0 ox (Nat.le_refl _) bx.size wyg)
                     rw [List.nil_append, ← cellsC_append, ← Hxs.out.1, show 0 + k + (l.length - (k + 1)) = xs.length from by rw [Hxs.out.1, List.length_append, List.length_take, List.length_drop]; omega] at oy
                     obtain ⟨A7, c7, hv7, _, _⟩ := own_slice oy
                     subst hv7
                     have R7 := Lib.hid (And.intro by7 oy)
                     clear oy))
              go_wp2_with fail
              go_ret3
              exact ⟨_, _, _, ids, l, xs, rfl, HF.out _ _ xs (own_below K8.out.1 R7.out.1) (own_below K8.out.2.1 R7.out.1) (own_less R7.out.2 K8.out.2.2.size) hxl (K8.out.2.2.trans (grown_of_below R7.out.1 _))⟩
            · have HT : Hid (0 < l.length - (k + 1) → (some ⟨b, off + (k + 1) * 3, none⟩ : Option Addr) = (some ⟨b, off, none⟩ : Option Addr).map (·.add ((k + 1) * 3))) := by
                show 0 < l.length - (k + 1) → _
                intro _
                simp only [Option.map, Addr.add]
                rw [if_neg (by omega)]
              go_wp2_with fail
              have hO : ((w8.drewN 1).alloc (.cells #[] 48)).ownsRow w8.heap.size 48 3 (.slice (some ⟨w8.heap.size, 0, none⟩) 0 0) 0 [] := own_empty (w := w8.drewN 1) (Nat.le_refl _) rfl
              have hB : Below w8.heap.size w8 ((w8.drewN 1).alloc (.cells #[] 48)) := (below_draws (Below.refl _ _) 1).alloc (Nat.le_refl _) _
              have hR : Reads ((w8.drewN 1).alloc (.cells #[] 48)) w8.heap.size 3 (some ⟨b, off, none⟩) l.length (cellsC l) := (own_reads K8.out.2.1).below hB
              have w5X := Lib.hid (And.intro hO (And.intro hB hR))
              clear hO hB hR
              go_region_held3 (fun _ => True) (trivial)
                (first
                  | (refine step_append_want ((w8.drewN 1).alloc (.cells #[] 48)) (by rfl) (.tmp 50) (.tmp 53) _ (by rfl) w8.heap.size 48 i0 _ 3 24 Try.underlying24 hi0 hz0 hz1 hz2 rfl (by omega) (.slice (some ⟨w8.heap.size, 0, none⟩) 0 0) 0 [] (by rfl) w5X.out.1 _ _ k _ (cellsC (l.take k)) (by rfl) (w5X.out.2.2.headC (by omega)) (cellsC_one _) (by simp only [maxLen]; omega) (by omega) (by simp [World.drewN]) ?_
                     intro vx wx ox wxg wxt
                     have bx : Below w8.heap.size w8 wx := w5X.out.2.1.grown wxg (by simp) (fun j hj => by simp [Value.ownBlock] at hj; omega))
                  | (refine step_append_want wx (by rfl) (.tmp 54) (.tmp 58) _ (by rfl) w8.heap.size 48 i0 _ 3 24 Try.underlying24 hi0 hz0 hz1 hz2 rfl (by omega) vx (0 + k) ([] ++ cellsC (l.take k)) (by rfl) ox _ _ (l.length - (k + 1)) _ (cellsC (l.drop (k + 1))) (by rfl) (((own_reads K8.out.2.1).below bx).tailC (by omega) HT.out) (cellsC_one _) (by simp only [maxLen]; omega) (by omega) bx.size ?_
                     intro vy wy oy wyg wyt
                     have by7 : Below w8.heap.size w8 wy := bx.trans (app_below0 ox (Nat.le_refl _) bx.size wyg)
                     rw [List.nil_append, ← cellsC_append, ← Hxs.out.1, show 0 + k + (l.length - (k + 1)) = xs.length from by rw [Hxs.out.1, List.length_append, List.length_take, List.length_drop]; omega] at oy
                     obtain ⟨A7, c7, hv7, _, _⟩ := own_slice oy
                     subst hv7
                     have R7 := Lib.hid (And.intro by7 oy)
                     clear oy))
              go_wp2_with fail
              go_ret3
              exact ⟨_, _, _, ids, l, xs, rfl, HF.out _ _ xs (own_below K8.out.1 R7.out.1) (own_below K8.out.2.1 R7.out.1) (own_less R7.out.2 K8.out.2.2.size) hxl (K8.out.2.2.trans (grown_of_below R7.out.1 _))⟩
          · have e7 : (r7 == 0) = false := by simp [h2]
            clear h2
            go_wp2_with fail
            refine (drawGood_any g c2 _ A2 z2 _ hr7 (by omega)).mono ?_
            rintro e w8 ⟨u1, u2, ids2, m2, rfl, _, q2, _, hm2, _, hg8⟩
            have KN := Lib.hid (And.intro (own_drawn (w0 := w2) K7.out.1 hg8 hgl) (And.intro (own_drawn (w0 := w2) K7.out.2.1 hg8 hgl) (And.intro (own_less q2 K7.out.2.2.size) (K7.out.2.2.trans hg8))))
            clear q2 hg8
            go_wp2_with fail
            go_ret3
            exact ⟨_, _, _, ids, l, m2, rfl, HF.out _ _ m2 KN.out.1 KN.out.2.1 KN.out.2.2.1 hm2 KN.out.2.2.2⟩
      · have hml : (matG ids l).length ≤ 31 := Nat.le_trans (mat_len ho) hl2
        clear ho
        go_wp2_with fail
        refine (sMat_any _ _ _ _ ids l _ (own_reads K6.out.1) (own_reads K6.out.2.1) HOK.out).mono ?_
        rintro e w7 ⟨v7, rfl, k7, o7⟩
        have K7 := Lib.hid (And.intro (own_below K6.out.1 k7) (And.intro (own_below K6.out.2.1 k7) (And.intro (own_less o7 K6.out.2.2.size) (K6.out.2.2.trans (grown_of_below k7 _)))))
        clear k7 o7
        go_wp2_with fail
        go_ret3
        exact ⟨_, _, _, ids, l, _, rfl, HF.out _ _ _ K7.out.1 K7.out.2.1 K7.out.2.2.1 hml K7.out.2.2.2⟩
  · have e4 : (r4 == 0) = false := by simp [h1]
    clear h1
    rcases Nat.eq_zero_or_pos l.length with h0 | hpos
    · have e5 : decide ((0 : Int) < (l.length : Int)) = false := decide_eq_false (by omega)
      have e6 : decide (0 < l.length) = false := decide_eq_false (by omega)
      clear h0
      go_wp2_with fail
      refine (drawGood_any g c2 _ A2 z2 _ hr4 (by omega)).mono ?_
      rintro e w5 ⟨u1, u2, ids2, m2, rfl, _, q2, _, hm2, _, hg5⟩
      have KN := Lib.hid (And.intro (own_drawn (w0 := w2) K4.out.1 hg5 hgl) (And.intro (own_drawn (w0 := w2) K4.out.2.1 hg5 hgl) (And.intro (own_less q2 K4.out.2.2.size) (K4.out.2.2.trans hg5))))
      clear q2 hg5
      go_wp2_with fail
      go_ret3
      exact ⟨_, _, _, ids, l, m2, rfl, HF.out _ _ m2 KN.out.1 KN.out.2.1 KN.out.2.2.1 hm2 KN.out.2.2.2⟩
    · have e5 : decide ((0 : Int) < (l.length : Int)) = true := decide_eq_true (by omega)
      have e6 : decide (0 < l.length) = true := decide_eq_true hpos
      go_wp2_with fail
      refine (pick_any g c2 _ A2 z2 _ _ hr4 (by omega) (by omega)).mono ?_
      rintro e w5 ⟨r5, rfl, a5, b5, _, hr5, hg5⟩
      have K5 := Lib.hid (And.intro (own_drawn (w0 := w2) K4.out.1 hg5 hgl) (And.intro (own_drawn (w0 := w2) K4.out.2.1 hg5 hgl) (K4.out.2.2.trans hg5)))
      clear hg5 hr4
      by_cases h2 : r5 = 0
      · have e7 : (r5 == 0) = true := by simp [h2]
        clear h2
        go_wp2_with fail
        refine (pick_any g c2 _ A2 z2 _ _ hr5 (by omega) (by omega)).mono ?_
        rintro e w6 ⟨r6, rfl, a6, b6, _, hr6, hg6⟩
        have b6 := b6 (by omega)
        have K6 := Lib.hid (And.intro (own_drawn (w0 := w2) K5.out.1 hg6 hgl) (And.intro (own_drawn (w0 := w2) K5.out.2.1 hg6 hgl) (K5.out.2.2.trans hg6)))
        clear hg6 hr5 hr6
        obtain ⟨k, rfl⟩ := Int.eq_ofNat_of_zero_le a6
        have hkl : k < l.length := by omega
        obtain ⟨b, off, hA4, hbb, _⟩ := (own_reads K6.out.2.1).ctx hpos
        subst hA4
        have hk0 : (0 : Int) ≤ (k : Int) := by omega
        have hk1 : (0 : Int) ≤ (k : Int) + 1 := by omega
        have hk2 : ((k : Int) + 1).toNat = k + 1 := by omega
        have hkw : IntKind.i64.wrap ((k : Int) + 1) = (k : Int) + 1 := IntWalk.i64_in _ (by omega)
        have hkc : (k : Int) ≤ (cl : Int) := by omega
        have hkc2 : (k : Int) + 1 ≤ (cl : Int) := by omega
        have hkl2 : (k : Int) ≤ (l.length : Int) := by omega
        have hkl3 : (k : Int) + 1 ≤ (l.length : Int) := by omega
        have hne : ¬ cl = k := by omega
        obtain ⟨xs, hxs⟩ : ∃ xs, xs = l.take k ++ l.drop (k + 1) := ⟨_, rfl⟩
        have hxl : xs.length ≤ 31 := by rw [hxs, List.length_append, List.length_take, List.length_drop]; omega
        have Hxs := Lib.hid (And.intro hxs trivial)
        clear hxs
        by_cases hcc : cl = k + 1
        · have HT : Hid (0 < l.length - (k + 1) → (some ⟨b, off, none⟩ : Option Addr) = (some ⟨b, off, none⟩ : Option Addr).map (·.add ((k + 1) * 3))) := by
            show 0 < l.length - (k + 1) → _
            intro h0
            omega
          have hcc2 : (cl = k + 1) = True := eq_true hcc
          clear hcc
          go_wp2_with fail
          have hO : ((w6.drewN 1).alloc (.cells #[] 48)).ownsRow w6.heap.size 48 3 (.slice (some ⟨w6.heap.size, 0, none⟩) 0 0) 0 [] := own_empty (w := w6.drewN 1) (Nat.le_refl _) rfl
          have hB : Below w6.heap.size w6 ((w6.drewN 1).alloc (.cells #[] 48)) := (below_draws (Below.refl _ _) 1).alloc (Nat.le_refl _) _
          have hR : Reads ((w6.drewN 1).alloc (.cells #[] 48)) w6.heap.size 3 (some ⟨b, off, none⟩) l.length (cellsC l) := (own_reads K6.out.2.1).below hB
          have w5X := Lib.hid (And.intro hO (And.intro hB hR))
          clear hO hB hR
          go_region_held3 (fun _ => True) (trivial)
            (first
              | (refine step_append_want ((w6.drewN 1).alloc (.cells #[] 48)) (by rfl) (.tmp 50) (.tmp 53) _ (by rfl) w6.heap.size 48 i0 _ 3 24 Try.underlying24 hi0 hz0 hz1 hz2 rfl (by omega) (.slice (some ⟨w6.heap.size, 0, none⟩) 0 0) 0 [] (by rfl) w5X.out.1 _ _ k _ (cellsC (l.take k)) (by rfl) (w5X.out.2.2.headC (by omega)) (cellsC_one _) (by simp only [maxLen]; omega) (by omega) (by simp [World.drewN]) ?_
                 intro vx wx ox wxg wxt
                 have bx : Below w6.heap.size w6 wx := w5X.out.2.1.grown wxg (by simp) (fun j hj => by simp [Value.ownBlock] at hj; omega))
              | (refine step_append_want wx (by rfl) (.tmp 54) (.tmp 58) _ (by rfl) w6.heap.size 48 i0 _ 3 24 Try.underlying24 hi0 hz0 hz1 hz2 rfl (by omega) vx (0 + k) ([] ++ cellsC (l.take k)) (by rfl) ox _ _ (l.length - (k + 1)) _ (cellsC (l.drop (k + 1))) (by rfl) (((own_reads K6.out.2.1).below bx).tailC (by omega) HT.out) (cellsC_one _) (by simp only [maxLen]; omega) (by omega) bx.size ?_
                 intro vy wy oy wyg wyt
                 have by7 : Below w6.heap.size w6 wy := bx.trans (app_below0 ox (Nat.le_refl _) bx.size wyg)
                 rw [List.nil_append, ← cellsC_append, ← Hxs.out.1, show 0 + k + (l.length - (k + 1)) = xs.length from by rw [Hxs.out.1, List.length_append, List.length_take, List.length_drop]; omega] at oy
                 obtain ⟨A7, c7, hv7, _, _⟩ := own_slice oy
                 subst hv7
                 have R7 := Lib.hid (And.intro by7 oy)
                 clear oy))
          go_wp2_with fail
          go_ret3
          exact ⟨_, _, _, ids, l, xs, rfl, HF.out _ _ xs (own_below K6.out.1 R7.out.1) (own_below K6.out.2.1 R7.out.1) (own_less R7.out.2 K6.out.2.2.size) hxl (K6.out.2.2.trans (grown_of_below R7.out.1 _))⟩
        · have HT : Hid (0 < l.length - (k + 1) → (some ⟨b, off + (k + 1) * 3, none⟩ : Option Addr) = (some ⟨b, off, none⟩ : Option Addr).map (·.add ((k + 1) * 3))) := by
            show 0 < l.length - (k + 1) → _
            intro _
            simp only [Option.map, Addr.add]
            rw [if_neg (by omega)]
          go_wp2_with fail
          have hO : ((w6.drewN 1).alloc (.cells #[] 48)).ownsRow w6.heap.size 48 3 (.slice (some ⟨w6.heap.size, 0, none⟩) 0 0) 0 [] := own_empty (w := w6.drewN 1) (Nat.le_refl _) rfl
          have hB : Below w6.heap.size w6 ((w6.drewN 1).alloc (.cells #[] 48)) := (below_draws (Below.refl _ _) 1).alloc (Nat.le_refl _) _
          have hR : Reads ((w6.drewN 1).alloc (.cells #[] 48)) w6.heap.size 3 (some ⟨b, off, none⟩) l.length (cellsC l) := (own_reads K6.out.2.1).below hB
          have w5X := Lib.hid (And.intro hO (And.intro hB hR))
          clear hO hB hR
          go_region_held3 (fun _ => True) (trivial)
            (first
              | (refine step_append_want ((w6.drewN 1).alloc (.cells #[] 48)) (by rfl) (.tmp 50) (.tmp 53) _ (by rfl) w6.heap.size 48 i0 _ 3 24 Try.underlying24 hi0 hz0 hz1 hz2 rfl (by omega) (.slice (some ⟨w6.heap.size, 0, none⟩) 0 0) 0 [] (by rfl) w5X.out.1 _ _ k _ (cellsC (l.take k)) (by rfl) (w5X.out.2.2.headC (by omega)) (cellsC_one _) (by simp only [maxLen]; omega) (by omega) (by simp [World.drewN]) ?_
                 intro vx wx ox wxg wxt
                 have bx : Below w6.heap.size w6 wx := w5X.out.2.1.grown wxg (by simp) (fun j hj => by simp [Value.ownBlock] at hj; omega))
              | (refine step_append_want wx (by rfl) (.tmp 54) (.tmp 58) _ (by rfl) w6.heap.size 48 i0 _ 3 24 Try.underlying24 hi0 hz0 hz1 hz2 rfl (by omega) vx (0 + k) ([] ++ cellsC (l.take k)) (by rfl) ox _ _ (l.length - (k + 1)) _ (cellsC (l.drop (k + 1))) (by rfl) (((own_reads K6.out.2.1).below bx).tailC (by omega) HT.out) (cellsC_one _) (by simp only [maxLen]; omega) (by omega) bx.size ?_
                 intro vy wy oy wyg wyt
                 have by7 : Below w6.heap.size w6 wy := bx.trans (app_below0 ox (Nat.le_refl _) bx.size wyg)
                 rw [List.nil_append, ← cellsC_append, ← Hxs.out.1, show 0 + k + (l.length - (k + 1)) = xs.length from by rw [Hxs.out.1, List.length_append, List.length_take, List.length_drop]; omega] at oy
                 obtain ⟨A7, c7, hv7, _, _⟩ := own_slice oy
                 subst hv7
                 have R7 := Lib.hid (And.intro by7 oy)
                 clear oy))
          go_wp2_with fail
          go_ret3
          exact ⟨_, _, _, ids, l, xs, rfl, HF.out _ _ xs (own_below K6.out.1 R7.out.1) (own_below K6.out.2.1 R7.out.1) (own_less R7.out.2 K6.out.2.2.size) hxl (K6.out.2.2.trans (grown_of_below R7.out.1 _))⟩
      · have e7 : (r5 == 0) = false := by simp [h2]
        clear h2
        go_wp2_with fail
        refine (drawGood_any g c2 _ A2 z2 _ hr5 (by omega)).mono ?_
        rintro e w6 ⟨u1, u2, ids2, m2, rfl, _, q2, _, hm2, _, hg6⟩
        have KN := Lib.hid (And.intro (own_drawn (w0 := w2) K5.out.1 hg6 hgl) (And.intro (own_drawn (w0 := w2) K5.out.2.1 hg6 hgl) (And.intro (own_less q2 K5.out.2.2.size) (K5.out.2.2.trans hg6))))
        clear q2 hg6
        go_wp2_with fail
        go_ret3
        exact ⟨_, _, _, ids, l, m2, rfl, HF.out _ _ m2 KN.out.1 KN.out.2.1 KN.out.2.2.1 hm2 KN.out.2.2.2⟩
end Go.Proofs.Ytjkjnicgbfpjiaa
