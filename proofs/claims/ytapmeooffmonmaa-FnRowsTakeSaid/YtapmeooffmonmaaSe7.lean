/- The laws' draws of their inputs on rows. -/
import Derived.Test.YtapmeooffmonmaaSe6
import Derived.Test.YtapmeooffmonmaaSe4
import Derived.Deep.RegionHeld3
namespace Go.Proofs.Ytapmeooffmonmaa
open Go.RowKit

theorem Reads.drawnR {w w2 : World} {g n size : Nat} {A : Option Addr} {xs : List Value} (h : Reads w w.heap.size size A n xs) (hg : w.grownBy w2 (some g)) (hlo : ∀ b off, A = some ⟨b, off, none⟩ → g < b) : Reads w2 w2.heap.size size A n xs := by
  refine ⟨h.1, fun hn => ?_⟩
  obtain ⟨b, off, e, hb, hc⟩ := h.2 hn
  have hne := hlo b off e
  refine ⟨b, off, e, Nat.lt_of_lt_of_le hb hg.size, fun j u hu => ?_⟩
  exact (World.cell?_of_block (w := w) (a := ⟨b, off + j, none⟩) (hg.block b hb (fun e2 => by injection e2 with e2; omega))).trans (hc j u hu)
theorem Reads.head1 {w : World} {B n k : Nat} {A : Option Addr} {xs : List Value} (h : Reads w B 1 A n xs) (hk : k ≤ n) : Reads w B 1 A k (xs.take k) := by
  refine ⟨by rw [List.length_take, h.1]; omega, fun h0 => ?_⟩
  obtain ⟨b, off, e, hb, hc⟩ := h.2 (by omega)
  refine ⟨b, off, e, hb, fun j u hu => hc j u ?_⟩
  rw [List.getElem?_take] at hu
  split at hu
  · exact hu
  · cases hu
theorem cellsI_appS (l m : List Int) : cellsI (l ++ m) = cellsI l ++ cellsI m := by simp [cellsI]
/-- Rows were drawn. -/
def DrewS (w : World) (v : Value) (T : List (List Bool)) (w2 : World) : Prop :=
  (∃ A c, v = .slice A T.length c ∧ T.length ≤ c ∧ Nest encB w2 w2.heap.size A T.length T) ∧ T.length ≤ 11 ∧ (∀ r ∈ T, r.length ≤ 5) ∧ Below w.heap.size w w2
theorem RowsD.drew {w0 w2 : World} {base : Nat} {v : Value} {vs : List Value} {T : List (List Bool)} (h : RowsD w2 base v vs T) (h1 : T.length ≤ 11) (h2 : ∀ r ∈ T, r.length ≤ 5) (hb : Below w0.heap.size w0 w2) : DrewS w0 v T w2 := by
  obtain ⟨A, c, hv, hc, hn⟩ := h.nest
  exact ⟨⟨A, c, hv, hc, hn⟩, h1, h2, hb⟩
theorem dRowsV_any (A : Option Addr) (c : Nat) (z : List Int) (w : World) (h : Bytes w A c z) :
    Calls Try.prog 30 #[.slice A z.length c] w fun e w2 => ∃ v T, e = .returned v ∧ DrewS w v T w2 := by
  go_enter Try.func30, Try.ntmps30
  go_wp2_with fail
  refine (open_any A c z _ h.reads h.byte h.cap h.room).mono ?_
  rintro e w2 ⟨g, c2, A2, z2, rfl, hg, hb2, hr2⟩
  go_wp2_with fail
  refine (drawRows_any g c2 0 A2 z2 _ hr2 (by omega)).mono ?_
  rintro e w3 ⟨v, vs, T, rfl, ho3, hl, h5, hd3⟩
  go_wp2_with fail
  go_ret
  exact ⟨v, T, rfl, ho3.drew hl h5 (grown_below hd3.grown hb2 hg)⟩
theorem dRowsO_any (A : Option Addr) (c : Nat) (z : List Int) (w : World) (h : Bytes w A c z) :
    Calls Try.prog 20 #[.slice A z.length c] w fun e w2 => ∃ v T, e = .returned v ∧ DrewS w v T w2 := by
  go_enter Try.func20, Try.ntmps20
  go_wp2_with fail
  refine (open_any A c z _ h.reads h.byte h.cap h.room).mono ?_
  rintro e w2 ⟨g, c2, A2, z2, rfl, hg, hb2, hr2⟩
  go_wp2_with fail
  refine (drawRows_any g c2 0 A2 z2 _ hr2 (by omega)).mono ?_
  rintro e w3 ⟨v, vs, T, rfl, ho3, hl, h5, hd3⟩
  go_wp2_with fail
  go_ret
  exact ⟨v, T, rfl, ho3.drew hl h5 (grown_below hd3.grown hb2 hg)⟩
set_option maxHeartbeats 2000000 in
set_option maxRecDepth 100000 in
theorem dRowsS_any (A : Option Addr) (c : Nat) (z : List Int) (w : World) (h : Bytes w A c z) :
    Calls Try.prog 16 #[.slice A z.length c] w fun e w2 => ∃ v T, e = .returned v ∧ DrewS w v T w2 := by
  go_enter Try.func16, Try.ntmps16
  go_wp2_with fail
  refine (open_any A c z _ h.reads h.byte h.cap h.room).mono ?_
  rintro e w2 ⟨g, c2, A2, z2, rfl, hg, hb2, hr2⟩
  go_wp2_with fail
  refine (drawRows_any g c2 0 A2 z2 _ hr2 (by omega)).mono ?_
  rintro e w3 ⟨v, vs, T, rfl, ho3, hl, h5, ⟨p3, hp3, hrd3⟩, hg3⟩
  obtain ⟨A3, c3, hv3, hc3, hn3⟩ := ho3.nest
  subst hv3
  have hlt := hr2.lt
  have hb3 := grown_below hg3 hb2 hg
  have hsz := hg3.size
  have K3 := Lib.hid (And.intro ho3 (And.intro hrd3 (And.intro hb3 (And.intro hn3 hc3))))
  clear ho3 hrd3 hg3 hn3 hc3 hr2 hb3 hb2 h
  have hO := sRowsOrd_any A3 c3 T w3 K3.out.2.2.2.1 (by omega)
  obtain ⟨out, hout⟩ : ∃ out, out = ordSG T := ⟨_, rfl⟩
  obtain ⟨ok, hok⟩ : ∃ ok, ok = ordSOk T := ⟨_, rfl⟩
  rw [← hout, ← hok] at hO
  have hol : out.length ≤ 11 := by rw [hout]; exact Nat.le_trans (ordSG_len T) hl
  have HO := Lib.hid (And.intro hout (And.intro hok hO))
  clear hout hok hO
  go_wp2_with fail
  refine HO.out.2.2.mono ?_
  rintro e w4 ⟨A4, c4, rfl, k4, r4, l4⟩
  have hs4 := k4.size
  cases ok
  · have K4 := Lib.hid k4
    clear k4
    go_wp2_with fail
    go_ret
    exact ⟨_, T, rfl, (K3.out.1.below K4.out).drew hl h5 (below_step K3.out.2.2.1 K4.out)⟩
  · go_wp2_with fail
    refine (pick_any g c2 _ A2 z2 _ _ (K3.out.2.1.step k4) (by omega) (by omega)).mono ?_
    rintro e w5 ⟨r5, rfl, a5, b5, _, hr5, hg5⟩
    have hD5 := (K3.out.1.below k4).drawn (w0 := w2) hg5 hlt
    have b5w := grown_below hg5 (below_step K3.out.2.2.1 k4) hg
    have hR5 := r4.drawnR hg5 fun b off e => by have := l4 b off e; omega
    have K5 := Lib.hid (And.intro hD5 (And.intro b5w hR5))
    clear k4 r4 l4 hr5 hg5 hD5 b5w hR5
    by_cases c0 : r5 = 0
    · subst c0
      obtain ⟨hok, hp, _⟩ := ordS_some HO.out.2.1.symm
      rw [← HO.out.1] at hp
      obtain ⟨A6, c6, hv6, _, hn6⟩ := K5.out.1.nest
      injection hv6 with e1 e2 e3
      subst e1 e3
      clear e2
      have hT := sTake_any A3 A4 c3 c4 T out w5 hn6 K5.out.2.2 (by omega) (by omega) (fun r hr => by have := h5 r hr; omega) hp.2.1
      have h5t := takeS_five (okS_parts hok).1 hp.2.1
      have HT := Lib.hid (And.intro hT h5t)
      clear hT hp hok hn6 h5t
      go_wp2_with fail
      refine HT.out.1.mono ?_
      rintro e w7 ⟨v7, vs7, rfl, k7, o7⟩
      go_wp2_with fail
      go_ret
      obtain ⟨A7, c7, hv7, hc7, hn7⟩ := o7.nest
      exact ⟨v7, _, rfl, ⟨⟨A7, c7, hv7, hc7, hn7⟩, by rw [takeS_len]; omega, fun r hr => by have := HT.out.2 r hr; omega, below_step K5.out.2.1 k7⟩⟩
    · have e0 : (r5 == 0) = false := by simp [c0]
      clear c0
      go_wp2_with fail
      go_ret
      exact ⟨_, T, rfl, K5.out.1.drew hl h5 K5.out.2.1⟩
set_option maxHeartbeats 4000000 in
set_option maxRecDepth 100000 in
theorem dRowsT_any (A : Option Addr) (c : Nat) (z : List Int) (w : World) (h : Bytes w A c z) :
    Calls Try.prog 25 #[.slice A z.length c] w fun e w2 => ∃ v T v2 o, e = .returned (.tuple #[v, v2]) ∧ DrewS w v T w2 ∧ w2.ownsRow w.heap.size 3 1 v2 o.length (cellsI o) ∧ o.length ≤ 20 := by
  obtain ⟨i0, hi0, hz0, hz1, hz2⟩ := info_parts infoInt
  go_enter Try.func25, Try.ntmps25
  go_wp2_with fail
  refine (open_any A c z _ h.reads h.byte h.cap h.room).mono ?_
  rintro e w2 ⟨g, c2, A2, z2, rfl, hg, hb2, hr2⟩
  go_wp2_with fail
  refine (drawRows_any g c2 0 A2 z2 _ hr2 (by omega)).mono ?_
  rintro e w3 ⟨v, vs, T, rfl, ho3, hl, h5, ⟨p3, hp3, hrd3⟩, hg3⟩
  obtain ⟨A3, c3, hv3, hc3, hn3⟩ := ho3.nest
  subst hv3
  have hlt := hr2.lt
  have hb3 := grown_below hg3 hb2 hg
  have hsz := hg3.size
  have b4 : Below w3.heap.size w3 (w3.alloc (.cells #[] 3)) := (Below.refl w3.heap.size w3).alloc (Nat.le_refl _) _
  have o4 : (w3.alloc (.cells #[] 3)).ownsRow w3.heap.size 3 1 (.slice (some ⟨w3.heap.size, 0, none⟩) 0 0) 0 [] := own_empty (Nat.le_refl _) rfl
  have g4 : w3.grownBy (w3.alloc (.cells #[] 3)) (some g) := World.grownBy_alloc w3 (.cells #[] 3) (some g)
  have hlt3 : g < w3.heap.size := by omega
  have hgw : w.heap.size ≤ g := hg
  have K3 := Lib.hid (And.intro ho3 (And.intro (hrd3.step b4) (And.intro hb3 (And.intro g4 o4))))
  have hs2 : w.heap.size ≤ w3.heap.size := by omega
  clear ho3 hrd3 hg3 hn3 hc3 hr2 hb3 hb2 h b4 o4 g4
  go_wp2_with fail
  go_loopw [6, 7] (fun v i wr => ∃ (k p2 : Nat) (o : List Int), k ≤ 20 ∧ i = .int .i64 k ∧ o.length ≤ k ∧ wr.ownsRow w3.heap.size 3 1 v o.length (cellsI o) ∧ p2 ≤ 200 + 2 * k ∧ Rd wr g A2 z2 c2 p2 ∧ w3.grownBy wr (some g)) (fun _ i _ => 20 - (intOf i).toNat)
  case atStart => exact ⟨0, p3, [], by omega, rfl, by simp, K3.out.2.2.2.2, by omega, K3.out.2.1, K3.out.2.2.2.1⟩
  case round =>
    obtain ⟨k, p2, o, hk, rfl, hok, hov, hp2, hrd, hgr⟩ := hrel
    obtain ⟨Ao, co, hvo, _, hro⟩ := own_slice hov
    subst hvo
    by_cases hlo : k < 20 ∧ o.length < T.length
    · obtain ⟨hk20, hlo⟩ := hlo
      have hki : (k : Int) < 20 := by omega
      have hli : (o.length : Int) < (T.length : Int) := by omega
      have K := Lib.hid (And.intro hov (And.intro hgr hro))
      clear hov hgr hro
      go_wp2_with fail
      refine (pick_any g c2 p2 A2 z2 _ _ hrd (by omega) (by omega)).mono ?_
      rintro e w5 ⟨r5, rfl, a5, b5, _, hr5, hg5⟩
      have ho5 := own_drawn (w0 := w3) K.out.1 hg5 hlt3
      have hgr5 := K.out.2.1.trans hg5
      have hs5 := hgr5.size
      have hP := sPlace_any Ao co o r5 w5 (own_reads ho5) (by omega)
      have hneg := findI_neg o r5
      have K5 := Lib.hid (And.intro ho5 (And.intro hgr5 (And.intro hr5 hP)))
      clear ho5 hgr5 hr5 hg5 hP hrd
      cases hm : decide (r5 ∈ o)
      · rw [hm] at hneg
        clear hm
        go_wp2_with (first
          | (go_at_call 55
             go_must (refine K5.out.2.2.2.mono ?_)
             rintro e w6 ⟨rfl, rfl⟩)
          | (at_builtin
             go_must (refine wpList_append_reads _ rfl (.tmp 38) (.tmp 40) _ rfl w3.heap.size 3 i0 _ 1 8 Try.underlying28 hi0 hz0 hz1 hz2 rfl (by omega) (.slice Ao o.length co) o.length _ rfl (K5.out.1.alloc _) (w5.heap.size + 1) _ 1 1 (cellsI [r5]) rfl (reads_int (by omega)) (cellsI_one _) (by simp only [maxLen]; omega) (by omega) (by simp; omega) ?_)
             intro v8 w8 hown8 hg8 hat8))
        go_roundw
        case rel =>
          obtain ⟨ho5, hgr5, hr5, _⟩ := K5.out
          refine ⟨k + 1, _, o ++ [r5], by omega, by go_num, by simp; omega, ?_, by omega, (hr5.step ((Below.refl _ _).alloc (Nat.le_refl _) _)).grownRow (ho5.alloc _) hlt3 hg8, grown_row (grown_alloc hgr5 _) (ho5.alloc _) (Nat.le_refl _) hg8⟩
          rw [List.length_append, cellsI_appS]
          exact hown8
        case measure => simp [intOf]; omega
      · rw [hm] at hneg
        clear hm
        go_wp2_with (go_at_call 55; go_must (refine K5.out.2.2.2.mono ?_); rintro e w6 ⟨rfl, rfl⟩)
        refine (pick_any g c2 _ A2 z2 _ _ K5.out.2.2.1 (by omega) (by omega)).mono ?_
        rintro e w7 ⟨r7, rfl, a7, b7, _, hr7, hg7⟩
        have ho7 := own_drawn (w0 := w3) K5.out.1 hg7 hlt3
        have hgr7 := K5.out.2.1.trans hg7
        have hs7 := hgr7.size
        have K7 := Lib.hid (And.intro ho7 (And.intro hgr7 hr7))
        clear ho7 hgr7 hr7 hg7
        cases h0 : (r7 == 0)
        · clear K
          go_wp2_with fail
          go_roundw
          case rel => exact ⟨k + 1, _, o, by omega, by go_num, by omega, K7.out.1, by omega, K7.out.2.2, K7.out.2.1⟩
          case measure => simp [intOf]; omega
        · clear K
          go_wp2_with (
            at_builtin
            go_must (refine wpList_append_reads _ rfl (.tmp 38) (.tmp 40) _ rfl w3.heap.size 3 i0 _ 1 8 Try.underlying28 hi0 hz0 hz1 hz2 rfl (by omega) (.slice Ao o.length co) o.length _ rfl (K7.out.1.alloc _) (w7.heap.size + 1) _ 1 1 (cellsI [r5]) rfl (reads_int (by omega)) (cellsI_one _) (by simp only [maxLen]; omega) (by omega) (by simp; omega) ?_)
            intro v8 w8 hown8 hg8 hat8)
          go_roundw
          case rel =>
            obtain ⟨ho7, hgr7, hr7⟩ := K7.out
            refine ⟨k + 1, _, o ++ [r5], by omega, by go_num, by simp; omega, ?_, by omega, (hr7.step ((Below.refl _ _).alloc (Nat.le_refl _) _)).grownRow (ho7.alloc _) hlt3 hg8, grown_row (grown_alloc hgr7 _) (ho7.alloc _) (Nat.le_refl _) hg8⟩
            rw [List.length_append, cellsI_appS]
            exact hown8
          case measure => simp [intOf]; omega
    · have hfin : o.length ≤ 20 := by omega
      have K := Lib.hid (And.intro ((K3.out.1.drawn (w0 := w2) hgr hlt).drew hl h5 (grown_below hgr K3.out.2.2.1 hgw)) (own_less hov hs2))
      clear hov hgr hro hrd
      by_cases hk20 : k < 20
      · have hki : decide ((k : Int) < 20) = true := decide_eq_true (by omega)
        have hli : decide ((o.length : Int) < (T.length : Int)) = false := decide_eq_false (by omega)
        go_wp2_with fail
        go_ret2
        exact ⟨_, T, _, o, rfl, K.out.1, K.out.2, hfin⟩
      · have hki : decide ((k : Int) < 20) = false := decide_eq_false (by omega)
        go_wp2_with fail
        go_ret2
        exact ⟨_, T, _, o, rfl, K.out.1, K.out.2, hfin⟩
/-- A row that is read. -/
def RowAt (w : World) (v : Value) (r : List Bool) : Prop := ∃ A c, v = .slice A r.length c ∧ r.length ≤ c ∧ Reads w w.heap.size 1 A r.length (r.map encB)
theorem RowAt.of_own {w : World} {base : Nat} {v : Value} {r : List Bool} (h : w.ownsRow base 4 1 v r.length (r.map encB)) : RowAt w v r := Reads.of_own h
theorem slice_head (g n c : Nat) (r : Int) (h0 : 0 ≤ r) (h : r ≤ (c : Int)) (hc : c ≠ 0) (W : World) : (Instr.slice 26 (.slice (some ⟨g, 0, none⟩) n c) none (some (.int .i64 r)) none).run Try.prog W = .ok (.slice (some ⟨g, 0, none⟩) r.toNat c) W := by
  go_simp
set_option maxHeartbeats 4000000 in
set_option maxRecDepth 100000 in
theorem dRowsA_any (A : Option Addr) (c : Nat) (z : List Int) (w : World) (h : Bytes w A c z) :
    Calls Try.prog 28 #[.slice A z.length c] w fun e w2 => ∃ v r v2 r2, e = .returned (.tuple #[v, v2]) ∧ RowAt w2 v r ∧ RowAt w2 v2 r2 ∧ r.length ≤ 5 ∧ r2.length ≤ 5 ∧ Below w.heap.size w w2 := by
  go_enter Try.func28, Try.ntmps28
  go_wp2_with fail
  refine (open_any A c z _ h.reads h.byte h.cap h.room).mono ?_
  rintro e w2 ⟨g, c2, A2, z2, rfl, hg, hb2, hr2⟩
  have hlt := hr2.lt
  have hgw : w.heap.size ≤ g := hg
  go_wp2_with fail
  refine (drawRow_any g c2 0 A2 z2 _ hr2 (by omega)).mono ?_
  rintro e w3 ⟨v3, r3, rfl, ho3, hl3, ⟨p3, hp3, hrd3⟩, hg3⟩
  have hb3 := grown_below hg3 hb2 hg
  obtain ⟨A3, c3, hv3, hc3, _⟩ := own_slice ho3
  subst hv3
  obtain ⟨go, c4, hv4, _, _⟩ := ho3.form (by omega)
  injection hv4 with e1 e2 e3
  subst e1 e3
  clear e2
  have hc5 : 5 ≤ c3 := by omega
  have K3 := Lib.hid (And.intro ho3 (And.intro hb3 hl3))
  clear ho3 hb3 hg3 hb2 h hl3 hc3
  go_wp2_with fail
  refine (pick_any g c2 _ A2 z2 _ _ hrd3 (by omega) (by omega)).mono ?_
  rintro e w4 ⟨r4, rfl, a4, b4, _, hr4, hg4⟩
  have ho4 := own_drawn (w0 := w2) K3.out.1 hg4 hlt
  have hb4 := grown_below hg4 K3.out.2.1 hgw
  have hs4 := hg4.size
  have K4 := Lib.hid (And.intro ho4 (And.intro hb4 K3.out.2.2))
  clear ho4 hb4 hg4 hrd3
  cases h0 : (r4 == 0)
  · go_wp2_with fail
    refine (drawRow_any g c2 _ A2 z2 _ hr4 (by omega)).mono ?_
    rintro e w5 ⟨v5, r5, rfl, ho5, hl5, _, hg5⟩
    have K5 := Lib.hid (And.intro ho5 (And.intro hl5 hg5))
    clear ho5 hl5 hg5
    go_wp2_with fail
    refine bodyPost_ret (v := .tuple #[.slice (some ⟨go, 0, none⟩) r3.length c3, v5]) (by simp [results, Try.results28, go_sem, *]) rfl ?_
    have h1 := K4.out.2.2
    have h2 := K5.out.2.1
    exact ⟨_, r3, _, r5, rfl, .of_own (own_drawn (w0 := w2) K4.out.1 K5.out.2.2 hlt), .of_own K5.out.1, by omega, by omega, grown_below K5.out.2.2 K4.out.2.1 hgw⟩
  · have X := Lib.hid (hr4.step (below_draws (Below.refl _ _) 1))
    have G := Lib.hid (And.intro (own_below K4.out.1 (below_draws (Below.refl _ _) 1)) (below_step K4.out.2.1 (below_draws (Below.refl _ _) 1)))
    clear hr4
    go_wp2_with fail
    go_region_with
      (first | (go_at_call 45
                go_must (refine (pick_any g c2 _ A2 z2 _ _ X.out (by omega) (by omega)).mono ?_)
                rintro e w5 ⟨r5, rfl, a5, b5, _, hr5, hg5⟩
                have b5 := b5 (by omega)
                have hm : r5 ≤ (c3 : Int) := by omega
                have hsl := fun n => slice_head go n c3 r5 a5 hm (by omega)
                have K5 := Lib.hid (And.intro (own_drawn (w0 := w2) G.out.1 hg5 hlt) (grown_below hg5 G.out.2 hgw))
                clear hr5 hg5))
    go_wp2_with fail
    refine bodyPost_ret (v := .tuple #[.slice (some ⟨go, 0, none⟩) r3.length c3, .slice (some ⟨go, 0, none⟩) r5.toNat c3]) (by simp [results, Try.results28, go_sem, *]) rfl ?_
    have h1 := K4.out.2.2
    have h2 : (r3.take r5.toNat).length = r5.toNat := by rw [List.length_take]; omega
    refine ⟨_, r3, _, r3.take r5.toNat, rfl, .of_own K5.out.1, ⟨some ⟨go, 0, none⟩, c3, by rw [h2], by omega, ?_⟩, by omega, by omega, K5.out.2⟩
    rw [h2, List.map_take]
    exact (own_reads K5.out.1).head1 (by omega)
end Go.Proofs.Ytapmeooffmonmaa
