/- The laws draw weights of years for each context. -/
import Derived.Test.YtnkdpogplkomhaaTw
import Derived.Test.YtnkdpogplkomhaaDz
import Derived.Test.YtnkdpogplkomhaaIl
namespace Go.Proofs.Ytnkdpogplkomhaa
open Go.RowKit

theorem cellsI_appP (l m : List Int) : cellsI (l ++ m) = cellsI l ++ cellsI m := by simp [cellsI]
theorem infoRowP : (Try.prog.info? 23).map (fun i => (i.zero, i.size, i.bytes)) = some (some (.slice none 0 0), 1, 24) := by kernel_rfl
/-- A row of the call's own is laid behind the rows. -/
structure RowsI (w : World) (base : Nat) (v : Value) (vs : List Value) (L : List (List Int)) : Prop where
  own : OwnV (Value.int .i64) w base 3 23 v vs L
section
variable {w w0 w2 : World} {base g : Nat} {v : Value} {vs : List Value} {L : List (List Int)}
theorem ownV_drawn {α : Type} {enc : α → Value} {e1 e2 : TypeId} {L : List (List α)} (h : OwnV enc w w0.heap.size e1 e2 v vs L) (hg : w.grownBy w2 (some g)) (hlt : g < w0.heap.size) : OwnV enc w2 w0.heap.size e1 e2 v vs L :=
  ⟨h.len, own_drawn h.out hg hlt, fun i r hr => by obtain ⟨u, h1, h2⟩ := h.row i r hr; exact ⟨u, h1, own_drawn h2 hg hlt⟩, h.far, h.apart⟩
/-- A row that grows keeps a table that lies apart. -/
theorem ownV_beside {α : Type} {enc : α → Value} {e1 e2 e3 : TypeId} {L : List (List α)} {u : Value} {n s : Nat} {xs : List Value} (h : OwnV enc w base e1 e2 v vs L) (hu : w.ownsRow base e3 s u n xs) (hf : ∀ q, u.ownBlock = some q → v.ownBlock ≠ some q ∧ ∀ (i : Nat) (u1 : Value), vs[i]? = some u1 → u1.ownBlock ≠ some q)
    (hg : w.grownBy w2 u.ownBlock) : OwnV enc w2 base e1 e2 v vs L := by
  refine ⟨h.len, own_other h.out hu (fun q h1 h2 => (hf q h2).1 h1) hg, fun i r hr => ?_, h.far, h.apart⟩
  obtain ⟨u1, h1, h2⟩ := h.row i r hr
  exact ⟨u1, h1, own_other h2 hu (fun q h3 h4 => (hf q h4).2 i u1 h1 h3) hg⟩
end
/-- The first rows. -/
theorem nest_take {α : Type} {enc : α → Value} {w : World} {B n m : Nat} {A : Option Addr} {L : List (List α)} (h : Nest enc w B A n L) (hm : m ≤ n) : Nest enc w B A m (L.take m) := by
  obtain ⟨h1, vs, h2, h3⟩ := h
  refine ⟨by simp; omega, vs.take m, ⟨by have := h2.1; simp; omega, fun hm0 => ?_⟩, fun i r hr => ?_⟩
  · obtain ⟨b, off, e, hb, hc⟩ := h2.2 (by omega)
    refine ⟨b, off, e, hb, fun j u hu => ?_⟩
    rw [List.getElem?_take] at hu
    split at hu
    · exact hc j u hu
    · cases hu
  · have hi : i < m := by have := (List.getElem?_eq_some_iff.1 hr).1; simp at this; omega
    rw [List.getElem?_take, if_pos hi] at hr
    obtain ⟨A2, c2, h4, h5, h6⟩ := h3 i r hr
    exact ⟨A2, c2, by rw [List.getElem?_take, if_pos hi]; exact h4, h5, h6⟩
theorem ownV_nest {α : Type} {enc : α → Value} {w : World} {base n c : Nat} {e1 e2 : TypeId} {B : Option Addr} {vs : List Value} {L : List (List α)} (h : OwnV enc w base e1 e2 (.slice B n c) vs L) : n = L.length ∧ n ≤ c ∧ Nest enc w w.heap.size B L.length L := by
  obtain ⟨A, c2, hv, hc, hn⟩ := h.nest
  injection hv with h1 h2 h3
  subst h1 h2 h3
  exact ⟨rfl, hc, hn⟩
theorem grown_setFresh {w w9 : World} {row : Option Nat} {go : Nat} (h : w.grownBy w9 row) (hgo : w.heap.size ≤ go) (m : Nat) (v : Value) : w.grownBy (w9.setCell ⟨go, m, none⟩ v) row :=
  ⟨h.os, h.tape, h.output, by have := h.size; simpa [World.setCell] using this, fun i hi hr => (heap_setCell_other w9 ⟨go, m, none⟩ i v (by show i ≠ go; omega)).trans (h.block i hi hr)⟩
/-- The first cells of a row. -/
theorem reads_headP {w : World} {B n k : Nat} {A : Option Addr} {xs : List Value} (h : Reads w B 1 A n xs) (hk : k ≤ n) : Reads w B 1 A k (xs.take k) := by
  refine ⟨by have := h.1; simp; omega, fun h0 => ?_⟩
  obtain ⟨b, off, e, hb, hc⟩ := h.2 (by omega)
  refine ⟨b, off, e, hb, fun j u hu => ?_⟩
  rw [List.getElem?_take] at hu
  split at hu
  · exact hc j u hu
  · cases hu
/-- A row is cut in its place. -/
theorem nest_cut {α : Type} {enc : α → Value} {w : World} {base n go cap k q c8 : Nat} {e1 e2 : TypeId} {A8 : Option Addr} {vs : List Value} {L : List (List α)} {r : List α} (h : OwnV enc w base e1 e2 (.slice (some ⟨go, 0, none⟩) n cap) vs L) (hr : L[k]? = some r) (hu : vs[k]? = some (.slice A8 r.length c8)) (hc8 : r.length ≤ c8) (hq : q ≤ r.length) :
    Nest enc (w.setCell ⟨go, k, none⟩ (.slice A8 q c8)) (w.setCell ⟨go, k, none⟩ (.slice A8 q c8)).heap.size (some ⟨go, 0, none⟩) (L.set k (r.take q)).length (L.set k (r.take q)) := by
  obtain ⟨hn, _, _⟩ := ownV_nest h
  subst hn
  have hk : k < L.length := (List.getElem?_eq_some_iff.1 hr).1
  have hout := (h.out.stored k (.slice A8 q c8)).1
  have hob : (Value.slice (some ⟨go, 0, none⟩) L.length cap).ownBlock = some go := rfl
  have key : ∀ (i : Nat) (u1 : Value) (r1 : List α), L[i]? = some r1 → vs[i]? = some u1 → (w.setCell ⟨go, k, none⟩ (.slice A8 q c8)).ownsRow base e1 1 u1 r1.length (r1.map enc) := fun i u1 r1 h1 h2 => by
    obtain ⟨u2, h3, h4⟩ := h.row i r1 h1
    rw [h2] at h3
    injection h3 with h3
    subst h3
    exact ownsRow_setCell_other h4 (fun e => h.far i _ go h2 e hob) _
  refine ⟨rfl, vs.set k (.slice A8 q c8), by rw [List.length_set]; exact own_reads hout, fun i r1 h1 => ?_⟩
  rw [List.getElem?_set] at h1
  by_cases hki : k = i
  · subst hki
    rw [if_pos rfl, if_pos hk] at h1
    injection h1 with h1
    subst h1
    have hl : (r.take q).length = q := by simp; omega
    rw [hl]
    refine ⟨A8, c8, by rw [List.getElem?_set_self (by rw [h.len]; exact hk)], by omega, ?_⟩
    rw [List.map_take]
    exact reads_headP (own_reads (key k _ r hr hu)) hq
  · rw [if_neg hki] at h1
    obtain ⟨u1, h3, _⟩ := h.row i r1 h1
    have h5 := key i u1 r1 h1 h3
    obtain ⟨A2, c2, rfl, hc2, hr2⟩ := Reads.of_own h5
    exact ⟨A2, c2, by rw [List.getElem?_set_ne hki]; exact h3, hc2, hr2⟩
/-- A value is laid into a row in its place. -/
theorem nest_poke {w : World} {base n go cap k g8 c8 j : Nat} {e1 e2 : TypeId} {vs : List Value} {L : List (List Int)} {r : List Int} {x : Int} (h : OwnV (Value.int .i64) w base e1 e2 (.slice (some ⟨go, 0, none⟩) n cap) vs L) (hr : L[k]? = some r) (hu : vs[k]? = some (.slice (some ⟨g8, 0, none⟩) r.length c8)) :
    Nest (Value.int .i64) (w.setCell ⟨g8, j, none⟩ (.int .i64 x)) (w.setCell ⟨g8, j, none⟩ (.int .i64 x)).heap.size (some ⟨go, 0, none⟩) (L.set k (r.set j x)).length (L.set k (r.set j x)) := by
  obtain ⟨hn, _, _⟩ := ownV_nest h
  subst hn
  have hk : k < L.length := (List.getElem?_eq_some_iff.1 hr).1
  have h8 : (Value.slice (some ⟨g8, 0, none⟩) r.length c8).ownBlock = some g8 := rfl
  have hout : (w.setCell ⟨g8, j, none⟩ (.int .i64 x)).ownsRow base e2 1 (.slice (some ⟨go, 0, none⟩) L.length cap) L.length vs := ownsRow_setCell_other h.out (fun e => h.far k _ g8 hu h8 e) _
  obtain ⟨u8, h9, ho8⟩ := h.row k r hr
  rw [hu] at h9
  injection h9 with h9
  subst h9
  have hst := (ho8.stored j (.int .i64 x)).1
  refine ⟨rfl, vs, by rw [List.length_set]; exact own_reads hout, fun i r1 h1 => ?_⟩
  rw [List.getElem?_set] at h1
  by_cases hki : k = i
  · subst hki
    rw [if_pos rfl, if_pos hk] at h1
    injection h1 with h1
    subst h1
    refine ⟨some ⟨g8, 0, none⟩, c8, by rw [List.length_set]; exact hu, ?_, ?_⟩
    · rw [List.length_set]
      obtain ⟨A2, c2, hv, hc2, _⟩ := Reads.of_own ho8
      injection hv with _ _ hcc
      omega
    · rw [List.map_set, List.length_set]
      exact own_reads hst
  · rw [if_neg hki] at h1
    obtain ⟨u1, h3, h4⟩ := h.row i r1 h1
    have h5 : (w.setCell ⟨g8, j, none⟩ (.int .i64 x)).ownsRow base e1 1 u1 r1.length (r1.map (Value.int .i64)) := ownsRow_setCell_other h4 (fun e => h.apart k i _ u1 g8 hki hu h3 h8 e) _
    obtain ⟨A2, c2, rfl, hc2, hr2⟩ := Reads.of_own h5
    exact ⟨A2, c2, h3, hc2, hr2⟩
theorem small_mul {x y : Int} (h1 : 0 ≤ x) (h2 : x < 3) (h3 : 0 ≤ y) (h4 : y < 5) : IntKind.i64.wrap (x * y) = x * y := by
  rw [IntKind.wrap_i64]
  rcases (by omega : x = 0 ∨ x = 1 ∨ x = 2) with rfl | rfl | rfl <;> omega
def DrawWsPost (w : World) (g c p n : Nat) (A : Option Addr) (z : List Int) (e : Ending) (w2 : World) : Prop :=
  ∃ (B : Option Addr) (cb : Nat) (L : List (List Int)), e = .returned (.slice B L.length cb) ∧ L.length ≤ cb ∧ Nest (Value.int .i64) w2 w2.heap.size B L.length L ∧ L.length ≤ n ∧ (∀ r ∈ L, r.length ≤ 6) ∧ Drawn w g A z c p 80 w2
set_option maxHeartbeats 4000000 in
set_option maxRecDepth 100000 in
theorem drawWs_any (g c p n : Nat) (A : Option Addr) (z : List Int) (w : World) (h : Rd w g A z c p) (hp : p ≤ 800000) (hn : n ≤ 5) :
    Calls Try.prog 90 #[.pointer (some ⟨g, 0, none⟩), .int .i64 (n : Int)] w (DrawWsPost w g c p n A z) := by
  obtain ⟨i0, hi0, hz0, hz1, hz2⟩ := info_parts infoInt
  obtain ⟨ir, hir, hrz, hrs, hrb⟩ := info_parts infoRowP
  have hlt := h.lt
  have h1 := h.step ((Below.refl _ _).alloc (Nat.le_refl _) (.cells #[] 23))
  have ho1 : OwnV (Value.int .i64) (w.alloc (.cells #[] 23)) w.heap.size 3 23 (.slice (some ⟨w.heap.size, 0, none⟩) 0 0) [] [] := OwnV.nil_ (own_empty (Nat.le_refl _) rfl)
  have hg1 := World.grownBy_alloc w (.cells #[] 23) (some g)
  have K1 := Lib.hid (And.intro h1 (And.intro ho1 hg1))
  clear h h1 ho1 hg1
  go_enter Try.func90, Try.ntmps90
  go_wp2_with fail
  go_loopw [5, 6] (fun v i wr => ∃ (k : Nat) (vs : List Value) (L : List (List Int)) (p2 : Nat), k ≤ n ∧ i = .int .i64 (k : Int) ∧ L.length = k ∧ (∀ r ∈ L, r.length = 6) ∧ OwnV (Value.int .i64) wr w.heap.size 3 23 v vs L ∧ p2 ≤ p + 12 * k ∧ Rd wr g A z c p2 ∧ w.grownBy wr (some g)) (fun _ i _ => n - (intOf i).toNat)
  case atStart => exact ⟨0, [], [], p, by omega, by simp, rfl, by simp, K1.out.2.1, by omega, K1.out.1, K1.out.2.2⟩
  case round =>
    obtain ⟨k, vs, L, p2, hk, rfl, hL, h6, hown, hp2, hrd, hgr⟩ := hrel
    rename World => w4
    clear K1
    have hgs := hgr.size
    by_cases hkn : k < n
    · have hki : (k : Int) < (n : Int) := by omega
      have ho4 : (w4.alloc (.cells #[] 3)).ownsRow w.heap.size 3 1 (.slice (some ⟨w4.heap.size, 0, none⟩) 0 0) 0 [] := own_empty hgs rfl
      have hf4 : ∀ q, (Value.slice (some ⟨w4.heap.size, 0, none⟩) 0 0).ownBlock = some q → u5.ownBlock ≠ some q ∧ ∀ (i : Nat) (u9 : Value), vs[i]? = some u9 → u9.ownBlock ≠ some q := fun q hq => by
        have hq2 : w4.heap.size = q := by injection hq
        refine ⟨fun e => ?_, fun i u9 hu e => ?_⟩
        · have := (hown.out.lt q e).2; omega
        · have := (hown.lt hu e).2; omega
      have HK := Lib.hid (And.intro hL (And.intro h6 (And.intro (hown.alloc (.cells #[] 3)) (And.intro (hrd.step ((Below.refl _ _).alloc (Nat.le_refl _) (.cells #[] 3))) (And.intro (grown_alloc hgr (.cells #[] 3)) (And.intro ho4 hf4))))))
      clear hL h6 hown hrd hgr ho4 hf4
      go_wp2_with fail
      go_loopw [7, 8] (fun v i wr => ∃ (j : Nat) (r : List Int) (p3 : Nat), j ≤ 6 ∧ i = .int .i64 (j : Int) ∧ r.length = j ∧ wr.ownsRow w.heap.size 3 1 v r.length (cellsI r) ∧ (∀ q, v.ownBlock = some q → u5.ownBlock ≠ some q ∧ ∀ (i : Nat) (u9 : Value), vs[i]? = some u9 → u9.ownBlock ≠ some q) ∧ OwnV (Value.int .i64) wr w.heap.size 3 23 u5 vs L ∧ p3 ≤ p2 + 2 * j ∧ Rd wr g A z c p3 ∧ w.grownBy wr (some g)) (fun _ i _ => 6 - (intOf i).toNat)
      case atStart => exact ⟨0, [], p2, by omega, by simp, rfl, HK.out.2.2.2.2.2.1, HK.out.2.2.2.2.2.2, HK.out.2.2.1, by omega, HK.out.2.2.2.1, HK.out.2.2.2.2.1⟩
      case round =>
        obtain ⟨j, r, p3, hj, rfl, hr, hor, hfr, hown, hp3, hrd, hgr⟩ := hrel
        rename World => w5
        have hgs5 := hgr.size
        by_cases hj6 : j < 6
        · have hji : (j : Int) < 6 := by omega
          have HJ := Lib.hid (And.intro hor (And.intro hfr (And.intro hown hgr)))
          have HR := Lib.hid hr
          clear hor hfr hown hgr
          go_wp2_with fail
          refine (pick_any g c p3 A z 3 _ hrd (by omega) (by omega)).mono ?_
          rintro e w6 ⟨x, rfl, x0, x3, _, hrd6, hg6⟩
          have x3 := x3 (by omega)
          have M6 := Lib.hid (And.intro (own_drawn (w0 := w) HJ.out.1 hg6 hlt) (And.intro (ownV_drawn (w0 := w) HJ.out.2.2.1 hg6 hlt) (HJ.out.2.2.2.trans hg6)))
          have R6 := Lib.hid hrd6
          clear hg6 hrd hrd6
          go_wp2_with fail
          refine (pick_any g c _ A z 5 _ R6.out (by omega) (by omega)).mono ?_
          rintro e w7 ⟨y, rfl, y0, y5, _, hrd7, hg7⟩
          have y5 := y5 (by omega)
          have M7 := Lib.hid (And.intro ((own_drawn (w0 := w) M6.out.1 hg7 hlt).alloc (.cells #[.int .i64 (x * y)] 3)) (And.intro ((ownV_drawn (w0 := w) M6.out.2.1 hg7 hlt).alloc (.cells #[.int .i64 (x * y)] 3)) (And.intro (grown_alloc (M6.out.2.2.trans hg7) (.cells #[.int .i64 (x * y)] 3)) (hrd7.step ((Below.refl _ _).alloc (Nat.le_refl _) (.cells #[.int .i64 (x * y)] 3))))))
          clear hg7 hrd7
          have hsz7 : w.heap.size ≤ w7.heap.size + 1 := by have := M7.out.2.2.1.size; simpa using this
          have hxy := small_mul x0 x3 y0 y5
          have hrl : r.length ≤ 6 := by rw [HR.out]; exact hj
          go_wp2_with (at_builtin
                       go_must (refine wpList_append_reads _ rfl (.tmp 21) (.tmp 27) _ rfl w.heap.size 3 i0 _ 1 8 Try.underlying23 hi0 hz0 hz1 hz2 rfl (by omega) u7 r.length _ rfl M7.out.1 (w7.heap.size + 1) _ 1 1 (cellsI [x * y]) rfl (reads_int (by omega)) (cellsI_one _) (by simp only [maxLen]; omega) (by omega) (by simp; omega) ?_)
                       intro v8 w8 hown8 hg8 hat8)
          go_roundw
          case rel =>
            refine ⟨j + 1, r ++ [x * y], p3 + 1 + 1, by omega, by go_num, by simp [HR.out], ?_, ?_, ownV_beside M7.out.2.1 M7.out.1 HJ.out.2.1 hg8, by omega, M7.out.2.2.2.grownRow M7.out.1 hlt hg8, grown_row M7.out.2.2.1 M7.out.1 (Nat.le_refl _) hg8⟩
            · rw [List.length_append, cellsI_appP]
              exact hown8
            · intro q hq
              rcases hat8 with e | e
              · exact HJ.out.2.1 q (e.symm.trans hq)
              · rw [e] at hq
                injection hq with hq
                simp at hq
                refine ⟨fun e => ?_, fun i u9 hu e => ?_⟩
                · have := (M7.out.2.1.out.lt q e).2; simp at this; omega
                · have := (M7.out.2.1.lt hu e).2; simp at this; omega
          case measure => simp [intOf]; omega
        · have hji : ¬ (j : Int) < 6 := by omega
          obtain ⟨A7, c7, hv7, _, _⟩ := Reads.of_own hor
          subst hv7
          have HJ := Lib.hid (And.intro hor (And.intro hfr (And.intro hown (And.intro hgr (And.intro hrd (show r.length = 6 by omega))))))
          have hLl := HK.out.1
          clear hr
          clear hor hfr hown hgr hrd
          have hown7 := HJ.out.2.2.1.out.alloc (.cells #[.slice A7 r.length c7] 23)
          have hLn : L.length ≤ 5 := by omega
          have HL := Lib.hid hLl
          clear hLl
          go_wp2_with (at_builtin
                       go_must (refine wpList_append_reads _ rfl (.tmp 29) (.tmp 31) _ rfl w.heap.size 23 ir _ 1 24 Try.underlying47 hir hrz hrs hrb rfl (by omega) u5 L.length _ rfl hown7 (w5.heap.size + 1) _ 1 1 [.slice A7 r.length c7] rfl (reads_val (by omega)) (fun u hu => by simp at hu; rw [hu]; rfl) (by simp only [maxLen]; omega) (by omega) (by simp; omega) ?_)
                       intro v8 w8 hown8 hg8 hat8)
          go_roundw
          case rel =>
            refine ⟨k + 1, vs ++ [.slice A7 r.length c7], L ++ [r], p3, by omega, by go_num, by simp [HL.out], ?_, HJ.out.2.2.1.push HJ.out.1 HJ.out.2.1 hown8 hg8 hat8, by omega, (HJ.out.2.2.2.2.1.step ((Below.refl _ _).alloc (Nat.le_refl _) _)).grownRow hown7 hlt hg8, grown_row (grown_alloc HJ.out.2.2.2.1 _) hown7 (Nat.le_refl _) hg8⟩
            intro r1 h1
            rcases List.mem_append.1 h1 with h1 | h1
            · exact HK.out.2.1 r1 h1
            · simp at h1
              rw [h1]
              exact HJ.out.2.2.2.2.2
          case measure => simp [intOf]; omega
    · have hkl : ¬ (k : Int) < (n : Int) := by omega
      have HK := Lib.hid (And.intro hL (And.intro h6 (And.intro hown (And.intro hrd hgr))))
      have hkn2 : k = n := by omega
      subst hkn2
      obtain ⟨B5, c5, hv5, _, _⟩ := hown.nest
      subst hv5
      have HL := Lib.hid hL
      rw [hL] at HK ⊢
      clear hL h6 hown hrd hgr
      by_cases h0 : 0 < k
      · have h0i : (0 : Int) < (k : Int) := by omega
        go_wp2_with fail
        refine (pick_any g c p2 A z _ _ HK.out.2.2.2.1 (by omega) (by omega)).mono ?_
        rintro e w6 ⟨x, rfl, x0, xk, _, hrd6, hg6⟩
        have xk := xk (by omega)
        have M6 := Lib.hid (And.intro (ownV_drawn (w0 := w) HK.out.2.2.1 hg6 hlt) (HK.out.2.2.2.2.trans hg6))
        have R6 := Lib.hid hrd6
        clear hg6 hrd6
        go_wp2_with fail
        refine (pick_any g c _ A z 24 _ R6.out (by omega) (by omega)).mono ?_
        rintro e w7 ⟨y, rfl, y0, y24, _, hrd7, hg7⟩
        have M7 := Lib.hid (And.intro (ownV_drawn (w0 := w) M6.out.1 hg7 hlt) (And.intro (M6.out.2.trans hg7) hrd7))
        clear hg7 hrd7
        obtain ⟨m, rfl⟩ := Int.eq_ofNat_of_zero_le x0
        have hmk : m < k := by omega
        by_cases y1 : y = 0
        · have e1 : (y == 0) = true := by simp [y1]
          obtain ⟨r8, hr8⟩ : ∃ r8, L[m]? = some r8 := ⟨_, List.getElem?_eq_getElem (by rw [HL.out]; exact hmk)⟩
          obtain ⟨u8, hu8, ho8⟩ := M7.out.1.row m r8 hr8
          have hl8 := HK.out.2.1 r8 (List.mem_of_getElem? hr8)
          obtain ⟨g8, c8, hv8, hg81, hg82⟩ := ho8.form (by omega)
          subst hv8
          obtain ⟨go, capo, hvo, hgo1, hgo2, hou⟩ := M7.out.1.outer (by rw [HL.out]; exact h0)
          injection hvo with hB h1 h2
          subst hB h2
          clear h1
          have d0 := hou m _ hu8
          have hgg : go ≠ g8 := fun e => M7.out.1.far m _ g8 hu8 rfl (by rw [← e]; rfl)
          have hcells : ∀ q : Nat, q < 6 → (∃ v, w7.cell? ⟨g8, q, none⟩ = some v) ∧ w7.frozen? ⟨g8, q, none⟩ = false := fun q hq => by
            refine ⟨⟨_, (ho8.cellAt q (by omega)).trans (List.getElem?_eq_getElem (by simp; omega))⟩, ho8.frozenAt q⟩
          have hmi : (m : Int) < (k : Int) := by omega
          rw [hl8] at d0
          have H8 := Lib.hid (And.intro hr8 (And.intro hu8 (And.intro hl8 hcells)))
          have HY := Lib.hid y1
          clear hr8 hu8 hl8 ho8 hou y1 hcells
          have X := Lib.hid (M7.out.2.2.step ((Below.refl w7.heap.size w7).drew))
          have d0d : w7.drew.cell? ⟨go, m, none⟩ = some (.slice (some ⟨g8, 0, none⟩) 6 c8) := d0
          have hgo : go ≠ g := by omega
          have hg8g : g8 ≠ g := by omega
          have bX : Below w7.drew.heap.size w7.drew (w7.drew.alloc (.cells #[.int .i64 (-1), .int .i64 10] 3)) := (Below.refl w7.drew.heap.size w7.drew).alloc (Nat.le_refl _) _
          have XA : Hid (Rd (w7.alloc (.cells #[.int .i64 (-1), .int .i64 10] 3)).drew g A z c (p2 + 1 + 1)) := X.out.step bX
          have d0e : (w7.drew.alloc (.cells #[.int .i64 (-1), .int .i64 10] 3)).cell? ⟨go, m, none⟩ = some (.slice (some ⟨g8, 0, none⟩) 6 c8) := (World.cell?_of_block (w := w7.drew) (a := ⟨go, m, none⟩) (bX.block _ (by show go < w7.heap.size; omega))).trans d0d
          have hgX : w7.drew.grownBy (w7.alloc (.cells #[.int .i64 (-1), .int .i64 10] 3)).drew (some g) := World.grownBy_alloc w7.drew (.cells #[.int .i64 (-1), .int .i64 10] 3) (some g)
          have hrX : (w7.alloc (.cells #[.int .i64 (-1), .int .i64 10] 3)).drew.heap[w7.heap.size]? = some (.cells #[.int .i64 (-1), .int .i64 10] 3 (0, 0)) := heap_alloc_new w7.drew (.cells #[.int .i64 (-1), .int .i64 10] 3)
          have HX := Lib.hid (And.intro hgX hrX)
          -- whatever the reader has done: the cells that are read
          have keepV : ∀ V : World, w7.drew.grownBy V (some g) → V.cell? ⟨go, m, none⟩ = some (.slice (some ⟨g8, 0, none⟩) 6 c8) ∧ ∀ q : Nat, q < 6 → (∃ v, V.cell? ⟨g8, q, none⟩ = some v) ∧ V.frozen? ⟨g8, q, none⟩ = false := fun V hV => by
            have k1 := hV.block go (by show go < w7.heap.size; omega) (fun e => by injection e with e; exact hgo e)
            have k2 := hV.block g8 (by show g8 < w7.heap.size; omega) (fun e => by injection e with e; exact hg8g e)
            refine ⟨(World.cell?_of_block (w := w7.drew) (a := ⟨go, m, none⟩) k1).trans d0d, fun q hq => ?_⟩
            obtain ⟨⟨v8, hv8⟩, hf8⟩ := H8.out.2.2.2 q hq
            exact ⟨⟨v8, (World.cell?_of_block (w := w7.drew) (a := ⟨g8, q, none⟩) k2).trans hv8⟩, (World.frozen?_of_block (w := w7.drew) (a := ⟨g8, q, none⟩) k2).trans hf8⟩
          have litV : ∀ (V : World) (b t : Nat), V.heap[b]? = some (.cells #[.int .i64 (-1), .int .i64 10] 3 (0, 0)) → t < 2 → ∃ x3, V.cell? ⟨b, t, none⟩ = some (.int .i64 x3) := fun V b t hb ht => by
            rcases (by omega : t = 0 ∨ t = 1) with rfl | rfl
            · exact ⟨_, cell_of_row _ _ 0 _ _ _ hb⟩
            · exact ⟨_, cell_of_row _ _ 1 _ _ _ hb⟩
          have HV := Lib.hid (And.intro keepV litV)
          have hs7 : w7.drew.heap.size = w7.heap.size := rfl
          have FIN : ∀ (V : World) (q : Nat) (v : Int), q < 6 → w7.drew.grownBy V (some g) → (∃ p3, p3 ≤ p + 80 ∧ Rd V g A z c p3) → DrawWsPost w g c p k A z (.returned (.slice (some ⟨go, 0, none⟩) k c5)) (V.setCell ⟨g8, q, none⟩ (.int .i64 v)) := fun V q v hq hV ⟨p3, hp3, hrd⟩ => by
            obtain ⟨h1, h2, h3, _⟩ := H8.out
            have hv := ownV_drawn (w0 := w) (M7.out.1.below ((Below.refl w7.heap.size w7).drew)) hV hlt
            have hn := nest_poke (j := q) (x := v) hv h1 h2
            have hls : (L.set m (r8.set q v)).length = k := by rw [List.length_set]; exact HL.out
            have hc7 := (ownV_nest M7.out.1).2.1
            refine ⟨some ⟨go, 0, none⟩, c5, L.set m (r8.set q v), by rw [hls], by omega, hn, by omega, ?_, ⟨⟨p3, hp3, hrd.set (by show g < g8; omega) _⟩, grown_setFresh ((M7.out.2.1.trans (grown_of_below ((Below.refl w7.heap.size w7).drew) (some g))).trans hV) hg81 _ _⟩⟩
            intro r hr
            rcases List.mem_or_eq_of_mem_set hr with h | h
            · have := HK.out.2.1 r h; omega
            · subst h; simp; omega
          have HF := Lib.hid FIN
          clear keepV litV FIN hgX hrX bX
          go_wp2_with fail
          go_region_with
            (first | (go_at_call 42
                      with_reducible refine (pick_any g c _ A z 6 _ X.out (by omega) (by omega)).mono ?_
                      rintro e w9 ⟨q, rfl, q0, q6, _, hrd9, hg9⟩
                      have q6 := q6 (by omega)
                      obtain ⟨q, rfl⟩ := Int.eq_ofNat_of_zero_le q0
                      have hq6 : q < 6 := by omega
                      have d9 := (HV.out.1 w9 hg9).1
                      have hgA := grown_alloc hg9 (.cells #[.int .i64 (-1), .int .i64 10] 3)
                      have d9a := (HV.out.1 _ hgA).1
                      have Y9 := Lib.hid (And.intro hg9 (And.intro hgA (And.intro hrd9 (hrd9.step ((Below.refl w9.heap.size w9).alloc (Nat.le_refl _) (.cells #[.int .i64 (-1), .int .i64 10] 3))))))
                      have hgl9 := hrd9.lt
                      clear hg9 hrd9 hgA)
                   | (go_at_call 42
                      with_reducible refine (pick_any g c _ A z 6 _ XA.out (by omega) (by omega)).mono ?_
                      rintro e w9 ⟨q, rfl, q0, q6, _, hrd9, hg9⟩
                      have q6 := q6 (by omega)
                      obtain ⟨q, rfl⟩ := Int.eq_ofNat_of_zero_le q0
                      have hq6 : q < 6 := by omega
                      have hgB := HX.out.1.trans hg9
                      have d9 := (HV.out.1 w9 hgB).1
                      have Z9 := Lib.hid (And.intro hgB (And.intro hrd9 (row_keep hg9 HX.out.2 (by omega))))
                      clear hg9 hrd9 hgB)
                   | (go_at_call 42
                      with_reducible refine (pick_any g c _ A z 2 _ Z9.out.2.1 (by omega) (by omega)).mono ?_
                      rintro e w10 ⟨x2, rfl, r0, r6, _, hrd10, hg10⟩
                      have r6 := r6 (by omega)
                      obtain ⟨t, rfl⟩ := Int.eq_ofNat_of_zero_le r0
                      have ht2 : (t : Int) < 2 := by omega
                      have hga := Z9.out.1.trans hg10
                      obtain ⟨d10, hc10⟩ := HV.out.1 w10 hga
                      obtain ⟨⟨v8, c10⟩, f10⟩ := hc10 q hq6
                      obtain ⟨x3, hx3⟩ := HV.out.2 w10 w7.heap.size t (row_keep hg10 Z9.out.2.2 (by omega)) (by omega)
                      have HE := Lib.hid (HF.out w10 q x3 hq6 hga ⟨_, by omega, hrd10⟩)
                      clear hga hrd10 hg10 hc10)
                   | (go_at_call 42
                      with_reducible refine (pick_any g c _ A z 2 _ Y9.out.2.2.1 (by omega) (by omega)).mono ?_
                      rintro e w10 ⟨x2, rfl, r0, r6, _, hrd10, hg10⟩
                      have r6 := r6 (by omega)
                      obtain ⟨t, rfl⟩ := Int.eq_ofNat_of_zero_le r0
                      have ht2 : (t : Int) < 2 := by omega
                      have hga := Y9.out.1.trans hg10
                      have d10 := (HV.out.1 w10 hga).1
                      have hgb := grown_alloc hga (.cells #[.int .i64 (-1), .int .i64 10] 3)
                      obtain ⟨d10a, hc10⟩ := HV.out.1 _ hgb
                      obtain ⟨⟨v8, c10⟩, f10⟩ := hc10 q hq6
                      obtain ⟨x3, hx3⟩ := HV.out.2 (w10.alloc (.cells #[.int .i64 (-1), .int .i64 10] 3)) w10.heap.size t (heap_alloc_new _ _) (by omega)
                      have HE := Lib.hid (HF.out (w10.alloc (.cells #[.int .i64 (-1), .int .i64 10] 3)) q x3 hq6 hgb ⟨_, by omega, hrd10.step ((Below.refl w10.heap.size w10).alloc (Nat.le_refl _) (.cells #[.int .i64 (-1), .int .i64 10] 3))⟩)
                      clear hga hgb hrd10 hg10 hc10)
                   | (go_at_call 42
                      go_must (with_reducible refine (pick_any g c _ A z 2 _ Y9.out.2.2.2 (by omega) (by omega)).mono ?_)
                      rintro e w10 ⟨x2, rfl, r0, r6, _, hrd10, hg10⟩
                      have r6 := r6 (by omega)
                      obtain ⟨t, rfl⟩ := Int.eq_ofNat_of_zero_le r0
                      have ht2 : (t : Int) < 2 := by omega
                      have hga := Y9.out.2.1.trans hg10
                      obtain ⟨d10, hc10⟩ := HV.out.1 w10 hga
                      obtain ⟨⟨v8, c10⟩, f10⟩ := hc10 q hq6
                      obtain ⟨x3, hx3⟩ := HV.out.2 w10 w9.heap.size t (row_keep hg10 (heap_alloc_new w9 (.cells #[.int .i64 (-1), .int .i64 10] 3)) (by omega)) (by omega)
                      have HE := Lib.hid (HF.out w10 q x3 hq6 hga ⟨_, by omega, hrd10⟩)
                      clear hga hrd10 hg10 hc10))
          all_goals (
            (try simp only [Exit.inBlock, Exit.then])
            go_wp2_with fail
            go_ret
            exact HE.out)
        · have e0 : (y == 0) = false := by simp [y1]
          by_cases y2 : y = 1
          · have e1 : (y == 1) = true := by simp [y2]
            obtain ⟨r8, hr8⟩ : ∃ r8, L[m]? = some r8 := ⟨_, List.getElem?_eq_getElem (by rw [HL.out]; exact hmk)⟩
            obtain ⟨u8, hu8, ho8⟩ := M7.out.1.row m r8 hr8
            have hl8 := HK.out.2.1 r8 (List.mem_of_getElem? hr8)
            obtain ⟨A8, c8, hv8, hc8, hrd8⟩ := Reads.of_own ho8
            subst hv8
            obtain ⟨go, capo, hvo, hgo1, hgo2, hou⟩ := M7.out.1.outer (by rw [HL.out]; exact h0)
            injection hvo with hB h1 h2
            subst hB h2
            clear h1
            have d0 := hou m _ hu8
            have f0 : w7.frozen? ⟨go, m, none⟩ = false := by
              have h9 := M7.out.1.out
              rw [HL.out] at h9
              exact h9.frozenAt m
            rw [hl8] at d0 hrd8 hc8
            have hcap6 : (6 : Int) ≤ (c8 : Int) := by omega
            have hmi : (m : Int) < (k : Int) := by omega
            have H8 := Lib.hid (And.intro hr8 (And.intro hu8 (And.intro hl8 (And.intro ho8 hrd8))))
            have HY := Lib.hid (And.intro y1 y2)
            clear hr8 hu8 hl8 ho8 hrd8 hou y1 y2
            go_wp2_with fail
            have X := Lib.hid (M7.out.2.2.step ((Below.refl w7.heap.size w7).drew))
            have d0d : w7.drew.cell? ⟨go, m, none⟩ = some (.slice A8 6 c8) := d0
            have f0d : w7.drew.frozen? ⟨go, m, none⟩ = false := f0
            have hgo : go ≠ g := by omega
            go_region_with
              (first | (go_at_call 42
                        go_must (refine (pick_any g c _ A z 6 _ X.out (by omega) (by omega)).mono ?_)
                        go_must (rintro e w9 ⟨q, rfl, q0, q6, _, hrd9, hg9⟩)
                        go_must (have q6 := q6 (by omega))
                        go_must (obtain ⟨q, rfl⟩ := Int.eq_ofNat_of_zero_le q0)
                        go_must (have hm : (q : Int) ≤ (c8 : Int) := by omega)
                        go_must (have hk9 := hg9.block go (by show go < w7.heap.size; omega) (fun e => by injection e with e; exact hgo e))
                        have d9 : w9.cell? ⟨go, m, none⟩ = some (.slice A8 6 c8) := (World.cell?_of_block (w := w7.drew) (a := ⟨go, m, none⟩) hk9).trans d0d
                        have f9 : w9.frozen? ⟨go, m, none⟩ = false := (World.frozen?_of_block (w := w7.drew) (a := ⟨go, m, none⟩) hk9).trans f0d))
            all_goals (
              (try simp only [Exit.inBlock, Exit.then])
              have hgr9 : w.grownBy w9 (some g) := (M7.out.2.1.trans (grown_of_below ((Below.refl w7.heap.size w7).drew) (some g))).trans hg9
              have hv9 := ownV_drawn (w0 := w) (M7.out.1.below ((Below.refl w7.heap.size w7).drew)) hg9 hlt
              obtain ⟨h1, h2, h3, _, _⟩ := H8.out
              have hn9 := nest_cut (q := q) hv9 h1 h2 (by omega) (by omega)
              have hls : (L.set m (r8.take q)).length = k := by rw [List.length_set]; exact HL.out
              have hc7 := (ownV_nest M7.out.1).2.1
              go_wp2_with fail
              go_ret
              refine ⟨some ⟨go, 0, none⟩, c5, L.set m (r8.take q), by rw [hls]; rfl, by omega, hn9, by omega, ?_, ⟨⟨_, by omega, hrd9.set (by show g < go; omega) _⟩, ?_⟩⟩
              · intro r hr
                rcases List.mem_or_eq_of_mem_set hr with h | h
                · have := HK.out.2.1 r h; omega
                · subst h; simp; omega
              · exact grown_setFresh hgr9 hgo1 _ _)
          · have e1 : (y == 1) = false := by simp [y2]
            by_cases y3 : y = 2
            · have e2 : (y == 2) = true := by simp [y3]
              obtain ⟨go, capo, hvo, _, _, _⟩ := M7.out.1.outer (by rw [HL.out]; exact h0)
              injection hvo with hB h1 h2
              subst hB h2
              clear h1
              have hcap := (ownV_nest M7.out.1).2.1
              have hcapi : (m : Int) ≤ (c5 : Int) := by omega
              clear y1 y2 y3
              go_wp2_with fail
              go_ret
              obtain ⟨_, _, hn7⟩ := ownV_nest M7.out.1
              rw [HL.out] at hn7
              have ht := nest_take (m := m) hn7 (by omega)
              have hml : (L.take m).length = m := by simp [HL.out]; omega
              refine ⟨some ⟨go, 0, none⟩, c5, L.take m, by rw [hml]; rfl, by omega, by rw [hml]; exact ht, by omega, fun r hr => by have := HK.out.2.1 r (List.mem_of_mem_take hr); omega, ⟨⟨_, by omega, M7.out.2.2⟩, M7.out.2.1⟩⟩
            · have e2 : (y == 2) = false := by simp [y3]
              clear y1 y2 y3
              go_wp2_with fail
              go_ret
              obtain ⟨_, hc7, hn7⟩ := ownV_nest M7.out.1
              exact ⟨B5, c5, L, by rw [HL.out]; rfl, by omega, hn7, by omega, fun r hr => by have := HK.out.2.1 r hr; omega, ⟨⟨_, by omega, M7.out.2.2⟩, M7.out.2.1⟩⟩
      · have h0i : ¬ (0 : Int) < (k : Int) := by omega
        go_wp2_with fail
        go_ret
        obtain ⟨_, hc7, hn7⟩ := ownV_nest HK.out.2.2.1
        exact ⟨B5, c5, L, by rw [HL.out]; rfl, by omega, hn7, by omega, fun r hr => by have := HK.out.2.1 r hr; omega, ⟨⟨_, by omega, HK.out.2.2.2.1⟩, HK.out.2.2.2.2⟩⟩
end Go.Proofs.Ytnkdpogplkomhaa
