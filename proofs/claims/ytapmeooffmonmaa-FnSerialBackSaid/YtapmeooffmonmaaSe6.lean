/- The laws draw a row, and rows. -/
import Derived.Test.YtapmeooffmonmaaSe5
namespace Go.Proofs.Ytapmeooffmonmaa
open Go.RowKit

def DrawRowPost (w : World) (g c p : Nat) (A : Option Addr) (z : List Int) (e : Ending) (w2 : World) : Prop :=
  ∃ (v : Value) (r : List Bool), e = .returned v ∧ w2.ownsRow w.heap.size 4 1 v r.length (r.map encB) ∧ r.length = 5 ∧ Drawn w g A z c p 20 w2
set_option maxHeartbeats 4000000 in
set_option maxRecDepth 100000 in
theorem drawRow_any (g c p : Nat) (A : Option Addr) (z : List Int) (w : World) (h : Rd w g A z c p) (hp : p ≤ 800000) :
    Calls Try.prog 56 #[.pointer (some ⟨g, 0, none⟩)] w (DrawRowPost w g c p A z) := by
  obtain ⟨ib, hib, hbz, hbs, hbb⟩ := info_parts infoBool
  have hlt := h.lt
  have H := Lib.hid h
  clear h
  go_enter Try.func56, Try.ntmps56
  go_wp2_with (at_make
               go_must (refine wpList_make_full _ rfl (.const (.int .i64 5)) (.const (.int .i64 5)) _ rfl w.heap.size 4 ib _ 1 Try.underlying26 hib hbz hbs _ _ _ _ 5 rfl rfl rfl rfl (by rw [hbb]; omega) (by simp only [maxLen]; omega) (Nat.le_refl _) ?_)
               intro w1 hnew hg1
               rw [zero_bools] at hnew
               have K1 := Lib.hid (And.intro hnew (And.intro (H.out.step ((Below.refl _ _).grown hg1 (Nat.le_refl _) (fun k hk => by cases hk))) (grown_of_below ((Below.refl _ _).grown hg1 (Nat.le_refl _) (fun k hk => by cases hk)) (some g))))
               clear hnew hg1)
  refine (pick_any g c p A z _ _ K1.out.2.1 (by omega) (by omega)).mono ?_
  rintro e w2 ⟨r2, rfl, a2, b2, _, hr2, hg2⟩
  have b2 := b2 (by omega)
  have ho2 := own_drawn (w0 := w) K1.out.1 hg2 hlt
  have K2 := Lib.hid (And.intro ho2 (And.intro hr2 (K1.out.2.2.trans hg2)))
  clear hr2 hg2 ho2
  obtain ⟨fr, rfl⟩ := Int.eq_ofNat_of_zero_le a2
  go_wp2_with fail
  go_loopw [5] (fun i wr => ∃ (k p2 : Nat) (r : List Bool), k ≤ 5 ∧ i = .int .i64 k ∧ r.length = 5 ∧ wr.ownsRow w.heap.size 4 1 (.slice (some ⟨w.heap.size, 0, none⟩) 5 5) 5 (r.map encB) ∧ p2 ≤ p + 1 + 2 * k ∧ Rd wr g A z c p2 ∧ w.grownBy wr (some g)) (fun i _ => 5 - (intOf i).toNat)
  case atStart => exact ⟨fr, p + 1, _, by omega, rfl, rowN_len _ _, K2.out.1, by omega, K2.out.2.1, K2.out.2.2⟩
  case round =>
    obtain ⟨k, p2, r, hk, rfl, hrl, hown, hp2, hrd, hgr⟩ := hrel
    have hgs := hgr.size
    have hol := (hown.lt _ rfl).2
    by_cases hk5 : k < 5
    · have hki : (k : Int) < 5 := by omega
      have O := Lib.hid (And.intro hown hgr)
      clear hown hgr
      go_wp2_with fail
      refine (pick_any g c p2 A z _ _ hrd (by omega) (by omega)).mono ?_
      rintro e w4 ⟨r4, rfl, a4, b4, _, hr4, hg4⟩
      have b4 := b4 (by omega)
      have K4 := Lib.hid (And.intro (own_drawn (w0 := w) O.out.1 hg4 hlt) (And.intro hr4 (O.out.2.trans hg4)))
      clear hr4 hg4 hrd
      by_cases hc : (k : Int) < (fr : Int) + 1 + r4
      · have ec : decide ((k : Int) < (fr : Int) + 1 + r4) = true := decide_eq_true hc
        clear hc
        go_wp2_with fail
        refine (pick_any g c _ A z _ _ K4.out.2.1 (by omega) (by omega)).mono ?_
        rintro e w5 ⟨r5, rfl, a5, b5, _, hr5, hg5⟩
        have ho5 := own_drawn (w0 := w) K4.out.1 hg5 hlt
        have hg15 := K4.out.2.2.trans hg5
        obtain ⟨y, hy⟩ : ∃ y, r[k]? = some y := ⟨_, List.getElem?_eq_getElem (by omega)⟩
        have c1 : w5.cell? ⟨w.heap.size, k, none⟩ = some (.bool y) := (ho5.cellAt k (by omega)).trans (by simp [hy, encB])
        have f1 : w5.frozen? ⟨w.heap.size, k, none⟩ = false := ho5.frozenAt k
        have K5 := Lib.hid (And.intro ho5 (And.intro hr5 hg15))
        clear ho5 hr5 hg5 hg15 hy
        go_wp2_with fail
        go_roundw
        case rel =>
          refine ⟨k + 1, p2 + 1 + 1, r.set k (decide (0 < r5)), by omega, by go_num, by simp [hrl], ?_, by omega, K5.out.2.1.set (by show g < w.heap.size; exact hlt) _, grown_new K5.out.2.2 (Nat.le_refl _) _⟩
          have := (K5.out.1.stored k (.bool (decide (0 < r5)))).1
          rw [show (r.map encB).set k (.bool (decide (0 < r5))) = (r.set k (decide (0 < r5))).map encB from by simp [List.map_set, encB]] at this
          exact this
        case measure => simp [intOf]; omega
      · have ec : decide ((k : Int) < (fr : Int) + 1 + r4) = false := decide_eq_false hc
        clear hc
        go_wp2_with fail
        go_ret
        exact ⟨_, r, rfl, by rw [hrl]; exact K4.out.1, hrl, ⟨_, by omega, K4.out.2.1⟩, K4.out.2.2⟩
    · have hkd : decide ((k : Int) < 5) = false := decide_eq_false (by omega)
      have O := Lib.hid (And.intro hown (And.intro hgr hrd))
      clear hown hgr hrd
      go_wp2_with fail
      go_ret
      exact ⟨_, r, rfl, by rw [hrl]; exact O.out.1, hrl, ⟨_, by omega, O.out.2.2⟩, O.out.2.1⟩
def DrawRowsPost (w : World) (g c p : Nat) (A : Option Addr) (z : List Int) (e : Ending) (w2 : World) : Prop :=
  ∃ (v : Value) (vs : List Value) (T : List (List Bool)), e = .returned v ∧ RowsD w2 w.heap.size v vs T ∧ T.length ≤ 11 ∧ (∀ r ∈ T, r.length ≤ 5) ∧ Drawn w g A z c p 200 w2
set_option maxHeartbeats 8000000 in
set_option maxRecDepth 100000 in
theorem drawRows_any (g c p : Nat) (A : Option Addr) (z : List Int) (w : World) (h : Rd w g A z c p) (hp : p ≤ 700000) :
    Calls Try.prog 44 #[.pointer (some ⟨g, 0, none⟩)] w (DrawRowsPost w g c p A z) := by
  obtain ⟨ir, hir, hrz, hrs, hrb⟩ := info_parts infoBools
  have hlt := h.lt
  have h1 := h.step ((Below.refl _ _).alloc (Nat.le_refl _) (.cells #[] 26))
  have ho1 : RowsD (w.alloc (.cells #[] 26)) w.heap.size (.slice (some ⟨w.heap.size, 0, none⟩) 0 0) [] [] := RowsD.nil_ (own_empty (Nat.le_refl _) rfl)
  have hg1 := World.grownBy_alloc w (.cells #[] 26) (some g)
  go_enter Try.func44, Try.ntmps44
  go_wp2_with fail
  refine (pick_any g c p A z _ _ h1 (by omega) (by omega)).mono ?_
  rintro e w2 ⟨r2, rfl, a2, b2, _, hr2, hg2⟩
  have b2 := b2 (by omega)
  have K2 := Lib.hid (And.intro (ho1.drawn (w0 := w) hg2 hlt) (And.intro hr2 (hg1.trans hg2)))
  clear h1 ho1 hg1 hr2 hg2 h
  obtain ⟨N, hN⟩ : ∃ N : Nat, r2 = (N : Int) := Int.eq_ofNat_of_zero_le a2
  subst hN
  have hN5 : N < 5 := by omega
  go_wp2_with fail
  go_loopw [3, 5] (fun v i wr => ∃ (k p2 : Nat) (vs : List Value) (T : List (List Bool)), k ≤ N + 1 ∧ i = .int .i64 k ∧ T.length = k ∧ (∀ r ∈ T, r.length ≤ 5) ∧ RowsD wr w.heap.size v vs T ∧ p2 ≤ p + 1 + 20 * k ∧ Rd wr g A z c p2 ∧ w.grownBy wr (some g)) (fun _ i _ => N + 1 - (intOf i).toNat)
  case atStart => exact ⟨0, p + 1, [], [], by omega, rfl, rfl, by simp, K2.out.1, by omega, K2.out.2.1, K2.out.2.2⟩
  case round =>
    obtain ⟨k, p2, vs, T, hk, rfl, hT, h5, hown, hp2, hrd, hgr⟩ := hrel
    have hgs := hgr.size
    clear K2
    by_cases hkN : k < N + 1
    · have hki : (k : Int) < 1 + (N : Int) := by omega
      have O := Lib.hid (And.intro hown (And.intro hgr (And.intro hT h5)))
      have hTk : T.length ≤ 10 := by omega
      clear hown hgr hT h5
      go_wp2_with fail
      refine (drawRow_any g c p2 A z _ hrd (by omega)).mono ?_
      rintro e w4 ⟨v4, r4, rfl, ho4, hr4, ⟨p4, hp4, hrd4⟩, hg4⟩
      obtain ⟨A4, c4, hv4, _, _⟩ := own_slice ho4
      subst hv4
      have hs4 := hg4.size
      have hD4 := O.out.1.drawn (w0 := w) hg4 hlt
      have hfr : ∀ g2, (Value.slice A4 r4.length c4).ownBlock = some g2 → u3.ownBlock ≠ some g2 := fun g2 h1 h2 => by
        have h3 := (ho4.lt g2 h1).1
        have h4 := (O.out.1.out.lt g2 h2).2
        omega
      have K4 := Lib.hid (And.intro hD4 (And.intro ho4 (And.intro hrd4 (And.intro (O.out.2.1.trans hg4) (And.intro hfr hr4)))))
      clear hD4 ho4 hrd4 hg4 hfr hrd hr4
      go_wp2_with (at_builtin
                   go_must (refine wpList_append_reads _ rfl (.tmp 15) (.tmp 18) _ rfl w.heap.size 26 ir _ 1 24 Try.underlying23 hir hrz hrs hrb rfl (by omega) u3 T.length vs rfl (K4.out.1.out.alloc _) (w4.heap.size + 1) _ 1 1 [.slice A4 r4.length c4] rfl (reads_val (by omega)) one_slice (by simp only [maxLen]; omega) (by omega) (by simp; omega) ?_)
                   intro v8 w8 hown8 hg8 hat8)
      go_roundw
      case rel =>
        obtain ⟨hD4, ho4, hrd4, hg14, hfr, hr4⟩ := K4.out
        obtain ⟨_, _, hT, h5⟩ := O.out
        have hj := (hD4.below ((Below.refl w4.heap.size w4).alloc (Nat.le_refl _) (.cells #[.slice A4 r4.length c4] 26))).join (R := [r4]) (us := [.slice A4 r4.length c4]) rfl (fun i r hr => by
          cases i with
          | zero =>
            simp at hr
            subst hr
            exact ⟨_, rfl, own_less (ho4.alloc _) hgs, hfr⟩
          | succ i => simp at hr) (by simpa using hown8) hg8 hat8
        refine ⟨k + 1, p4, _, _, by omega, by go_num, by simp [hT], fun r hr => ?_, hj, by omega, (hrd4.step ((Below.refl _ _).alloc (Nat.le_refl _) _)).grownRow (hD4.out.alloc _) hlt hg8, grown_row (grown_alloc hg14 _) (hD4.out.alloc _) (Nat.le_refl _) hg8⟩
        rcases List.mem_append.1 hr with h | h
        · exact h5 r h
        · rw [List.mem_singleton.1 h]; omega
      case measure => simp [intOf]; omega
    · have hkN2 : k = N + 1 := by omega
      have hdn : decide ((k : Int) < 1 + (N : Int)) = false := decide_eq_false (by omega)
      have O := Lib.hid (And.intro hown (And.intro hgr (And.intro hT h5)))
      have hTk : T.length ≤ 5 := by omega
      have hT0 : 0 < T.length := by omega
      have hTN : (T.length : Int) = 1 + (N : Int) := by omega
      clear hown hgr hT h5
      go_wp2_with fail
      refine (pick_any g c p2 A z _ _ hrd (by omega) (by omega)).mono ?_
      rintro e w4 ⟨r4, rfl, a4, b4, _, hr4, hg4⟩
      have hs4 := hg4.size
      have K4 := Lib.hid (And.intro (O.out.1.drawn (w0 := w) hg4 hlt) (And.intro hr4 (O.out.2.1.trans hg4)))
      clear hr4 hg4 hrd
      by_cases c0 : r4 = 0
      · subst c0
        go_wp2_with fail
        refine (pick_any g c _ A z _ _ K4.out.2.1 (by omega) (by omega)).mono ?_
        rintro e w5 ⟨r5, rfl, a5, b5, _, hr5, hg5⟩
        have b5 := b5 (by omega)
        obtain ⟨j, rfl⟩ := Int.eq_ofNat_of_zero_le a5
        have hjT : j < T.length := by omega
        have hD5 := K4.out.1.drawn (w0 := w) hg5 hlt
        obtain ⟨go, cap, hvo, hgo1, hgo2⟩ := hD5.out.form hT0
        subst hvo
        obtain ⟨W6, hW6⟩ : ∃ W6, W6 = w5.alloc (.cells #[.bool true] 4) := ⟨_, rfl⟩
        have b6 : Below w5.heap.size w5 W6 := by rw [hW6]; exact (Below.refl w5.heap.size w5).alloc (Nat.le_refl _) _
        have hD6 := hD5.below b6
        obtain ⟨u0, hu0⟩ : ∃ u0, vs[j]? = some u0 := ⟨_, List.getElem?_eq_getElem (by rw [hD6.len]; exact hjT)⟩
        have f0 := (hD6.out.cellAt j (by omega)).trans hu0
        have f1 := hD6.out.frozenAt j
        have hone : W6.ownsRow w5.heap.size 4 1 (.slice (some ⟨w5.heap.size, 0, none⟩) 1 1) 1 [.bool true] := by
          rw [hW6]
          exact ⟨rfl, .inr ⟨_, 1, #[.bool true], rfl, Nat.le_refl _, heap_alloc_new _ _, Nat.le_refl _, by simp [maxLen], rfl, rfl⟩⟩
        have hji : (j : Int) < (T.length : Int) := by omega
        have K5 := Lib.hid (And.intro hD6 (And.intro (hr5.step b6) (And.intro ((K4.out.2.2.trans hg5).trans (grown_of_below b6 (some g))) hone)))
        have hs5 := hg5.size
        rw [hW6] at f0 f1
        have HW6 := Lib.hid hW6
        clear hr5 hg5 hD5 hD6 hone b6 hu0 hW6
        go_wp2_with fail
        go_ret
        obtain ⟨hD6, hr6, hg6, hone⟩ := K5.out
        rw [← World.setCell_alloc_past _ _ _ _ hgo2, ← HW6.out]
        have hpt := hD6.put (r := [true]) (own_less hone (by omega)) (fun g2 h1 h2 => by
          have e1 : w5.heap.size = g2 := by injection h1
          have e2 : go = g2 := by injection h2
          omega) j
        refine ⟨_, _, _, rfl, hpt, by simp; omega, fun r hr => ?_, ⟨⟨_, by omega, hr6.set (by show g < go; omega) _⟩, grown_new hg6 hgo1 _⟩⟩
        rcases List.mem_or_eq_of_mem_set hr with h | h
        · exact O.out.2.2.2 r h
        · rw [h]; simp
      · have e0 : (r4 == 0) = false := by simp [c0]
        by_cases c1 : r4 = 1
        · subst c1
          go_wp2_with fail
          go_ret
          exact ⟨_, [], [], rfl, RowsD.nil_ (own_empty (by omega) rfl), by simp, by simp, ⟨⟨_, by omega, K4.out.2.1.step ((Below.refl _ _).alloc (Nat.le_refl _) _)⟩, grown_alloc K4.out.2.2 _⟩⟩
        · have e1 : (r4 == 1) = false := by simp [c1]
          by_cases c2 : r4 = 2
          · subst c2
            clear c0 c1 e0 e1
            go_wp2_with fail
            refine (drawRow_any g c _ A z _ K4.out.2.1 (by omega)).mono ?_
            rintro e w5 ⟨v5, r5, rfl, ho5, hr5, ⟨p5, hp5, hrd5⟩, hg5⟩
            obtain ⟨A5, c5, hv5, _, _⟩ := own_slice ho5
            subst hv5
            have hs5 := hg5.size
            have hD5 := K4.out.1.drawn (w0 := w) hg5 hlt
            have hfr : ∀ g2, (Value.slice A5 r5.length c5).ownBlock = some g2 → u3.ownBlock ≠ some g2 := fun g2 h1 h2 => by
              have h3 := (ho5.lt g2 h1).1
              have h4 := (K4.out.1.out.lt g2 h2).2
              omega
            have hb6 : Below w5.heap.size w5 (w5.alloc (.cells #[.slice A5 r5.length c5] 26)) := (Below.refl w5.heap.size w5).alloc (Nat.le_refl _) _
            have K5 := Lib.hid (And.intro (hD5.below hb6) (And.intro (ho5.alloc (.cells #[.slice A5 r5.length c5] 26)) (And.intro (hrd5.step hb6) (And.intro (grown_alloc (K4.out.2.2.trans hg5) (.cells #[.slice A5 r5.length c5] 26)) (And.intro hfr hr5)))))
            clear hD5 ho5 hrd5 hg5 hfr hr5 hb6
            obtain ⟨Ao, co, hvo, _, _⟩ := K4.out.1.nest
            subst hvo
            go_wp2_with (first
              | (at_builtin
                 refine wpList_append_keeps _ rfl (.tmp 35) (.tmp 38) _ rfl w.heap.size 26 ir _ 24 Try.underlying23 hir hrz hrs hrb rfl (.slice Ao T.length co) T.length vs rfl K5.out.1.out (w5.heap.size + 1) _ 1 1 [.slice A5 r5.length c5] rfl (reads_val (by omega)) one_slice (by omega) (by simp only [maxLen]; omega) (by omega) (by simp; omega) ?_
                 intro v8 w8 hown8 hg8 hat8 hold8
                 have K8 := Lib.hid (And.intro hown8 (And.intro hg8 (And.intro hat8 hold8)))
                 have hs8 := hg8.size
                 clear hown8 hg8 hat8 hold8)
              | (at_builtin
                 go_must (refine wpList_append_reads _ rfl (.tmp 39) (.tmp 40) _ rfl w.heap.size 26 ir _ 1 24 Try.underlying23 hir hrz hrs hrb rfl (by omega) v8 (T.length + 1) (vs ++ [.slice A5 r5.length c5]) rfl K8.out.1 w8.heap.size Ao T.length co vs rfl (own_reads K8.out.2.2.2) (K5.out.1.one) (by simp only [maxLen]; omega) (by omega) (by simp at hs8; omega) ?_)
                 intro v9 w9 hown9 hg9 hat9))
            go_ret
            obtain ⟨hD6, ho6, hrd6, hg16, hfr, hr5⟩ := K5.out
            obtain ⟨hown8, hg8, hat8, hold8⟩ := K8.out
            have hj := hD6.join (R := [r5]) (us := [.slice A5 r5.length c5]) rfl (fun i r hr => by
              cases i with
              | zero =>
                simp at hr
                subst hr
                exact ⟨_, rfl, own_less ho6 (by omega), hfr⟩
              | succ i => simp at hr) (by simpa using hown8) hg8 hat8
            have hold : ∀ (i : Nat) (r : List Bool), T[i]? = some r → ∃ u, vs[i]? = some u ∧ w8.ownsRow w.heap.size 4 1 u r.length (r.map encB) ∧ ∀ g2, u.ownBlock = some g2 → v8.ownBlock ≠ some g2 := fun i r hr => by
              obtain ⟨u, h1, h2, h3⟩ := hj.row i r (by rw [List.getElem?_append_left (List.getElem?_eq_some_iff.1 hr).1]; exact hr)
              exact ⟨u, by rw [List.getElem?_append_left (by rw [hD6.len]; exact (List.getElem?_eq_some_iff.1 hr).1)] at h1; exact h1, h2, h3⟩
            have hj2 := hj.join (R := T) (us := vs) hD6.len hold (by simpa using hown9) hg9 hat9
            refine ⟨_, _, _, rfl, hj2, by simp; omega, fun r hr => ?_, ⟨⟨p5, by omega, (hrd6.grownRow hD6.out hlt hg8).grownRow hown8 hlt hg9⟩, grown_row (grown_row hg16 hD6.out (Nat.le_refl _) hg8) hown8 (Nat.le_refl _) hg9⟩⟩
            rcases List.mem_append.1 hr with h | h
            · rcases List.mem_append.1 h with h | h
              · exact O.out.2.2.2 r h
              · rw [List.mem_singleton.1 h]; omega
            · exact O.out.2.2.2 r h
          · have e2 : (r4 == 2) = false := by simp [c2]
            clear c0 c1 c2
            go_wp2_with fail
            go_ret
            exact ⟨_, vs, T, rfl, K4.out.1, by omega, O.out.2.2.2, ⟨⟨_, by omega, K4.out.2.1⟩, K4.out.2.2⟩⟩
end Go.Proofs.Ytapmeooffmonmaa
