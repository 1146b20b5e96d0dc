/- The laws draw corners, and points from them. -/
import Derived.Test.YtfkfjkhikgnnaaaDr
import Derived.Test.YtfkfjkhikgnnaaaSh3
import Derived.Test.YtfkfjkhikgnnaaaIl
namespace Go.Proofs.Ytfkfjkhikgnnaaa
open Go.RowKit

theorem own_fresh {w : World} {base e k : Nat} {cs : Array Value} (hb : base ≤ w.heap.size) (hk : cs.size = k) (hm : k ≤ 1000) : (w.alloc (.cells cs e)).ownsRow base e 1 (.slice (some ⟨w.heap.size, 0, none⟩) k k) k cs.toList := by
  subst hk
  exact ⟨by simp, .inr ⟨_, cs.size, cs, rfl, hb, heap_alloc_new _ _, Nat.le_refl _, by unfold maxLen; omega, by simp, by rw [Nat.mul_one, List.take_of_length_le (by simp)]⟩⟩
set_option maxHeartbeats 4000000 in
set_option maxRecDepth 100000 in
theorem points_any (x y : Int) (D : Option Addr) (cd : Nat) (l : List Int) (w : World) (hr : Reads w w.heap.size 1 D l.length (cellsI l)) (hl : l.length ≤ 1000) :
    Calls Try.prog 61 #[.int .i64 x, .int .i64 y, .slice D l.length cd] w fun e w2 => ∃ (v : Value) (L : List Sp), e = .returned v ∧ L.length = l.length / 2 ∧ Below w.heap.size w w2 ∧ w2.ownsRow w.heap.size 27 2 v L.length (cellsS L) := by
  obtain ⟨i0, hi0, hz0, hz1, hz2⟩ := info_parts infoPoint
  have H := Lib.hid hr
  clear hr
  have hb1 : Below w.heap.size w (w.alloc (.cells #[] 27)) := (Below.refl _ _).alloc (Nat.le_refl _) _
  have ho1 : (w.alloc (.cells #[] 27)).ownsRow w.heap.size 27 2 (.slice (some ⟨w.heap.size, 0, none⟩) 0 0) 0 (cellsS []) := own_empty (Nat.le_refl _) rfl
  have H1 := Lib.hid (And.intro hb1 ho1)
  clear hb1 ho1
  go_enter Try.func61, Try.ntmps61
  go_wp2_with fail
  go_loopw [7, 8] (fun v i wr => ∃ (j : Nat) (L : List Sp), j ≤ l.length ∧ j % 2 = 0 ∧ L.length = j / 2 ∧ i = .int .i64 j ∧ Below w.heap.size w wr ∧ wr.ownsRow w.heap.size 27 2 v L.length (cellsS L)) (fun _ i _ => l.length - (intOf i).toNat)
  case atStart => exact ⟨0, [], Nat.zero_le _, rfl, rfl, rfl, H1.out.1, H1.out.2⟩
  case round =>
    obtain ⟨j, L, hj, hj2, hL, rfl, hbl, hown⟩ := hrel
    have hsz := hbl.size
    obtain ⟨q, hq⟩ : ∃ q, q = j + 1 := ⟨_, rfl⟩
    have hjq : (j : Int) + 1 = (q : Int) := by omega
    have hqw : IntKind.i64.wrap (q : Int) = (q : Int) := by rw [IntKind.wrap_i64]; omega
    have hq0 : (0 : Int) ≤ (q : Int) := by omega
    by_cases hlt : q < l.length
    · have hqi : (q : Int) < (l.length : Int) := by omega
      have hji : (j : Int) < (l.length : Int) := by omega
      obtain ⟨b, off, hD, hbb, hc⟩ := H.out.ints (by omega)
      subst hD
      obtain ⟨u, hu⟩ : ∃ u, l[j]? = some u := ⟨_, List.getElem?_eq_getElem (by omega)⟩
      obtain ⟨t, ht⟩ : ∃ t, l[q]? = some t := ⟨_, List.getElem?_eq_getElem hlt⟩
      have d1 := hc j u hu
      have d2 := hc q t ht
      obtain ⟨xx, hwx⟩ : ∃ xx, IntKind.i64.wrap (x + u) = xx := ⟨_, rfl⟩
      obtain ⟨yy, hwy⟩ : ∃ yy, IntKind.i64.wrap (y + t) = yy := ⟨_, rfl⟩
      have hbD := below_draws (Below.refl wr.heap.size wr) 1
      have bA : Below wr.heap.size wr ((wr.drewN 1).alloc (.cells #[.int .i64 xx, .int .i64 yy] 27)) := hbD.alloc hbD.size _
      have cells : ∀ W : World, Below w.heap.size w W → W.cell? ⟨b, off + j, none⟩ = some (.int .i64 u) ∧ W.cell? ⟨b, off + q, none⟩ = some (.int .i64 t) := fun W hW => ⟨(hW.cell hbb).trans d1, (hW.cell hbb).trans d2⟩
      have rA : Reads ((wr.drewN 1).alloc (.cells #[.int .i64 xx, .int .i64 yy] 27)) (wr.heap.size + 1) 2 (some ⟨wr.heap.size, 0, none⟩) 1 (cellsS [⟨xx, yy⟩]) := readsS_one (w := wr.drewN 1) (c := ⟨xx, yy⟩) (by show wr.heap.size < wr.heap.size + 1; omega)
      have oA := own_below hown bA
      have HS := Lib.hid (And.intro (cells _ (below_step hbl hbD)) (And.intro (cells _ (below_step hbl bA)) cells))
      have d1 := (cells _ hbl).1
      have d2 := (cells _ hbl).2
      have HI := Lib.hid (And.intro hbl (And.intro bA (And.intro oA (And.intro rA (And.intro hq hL)))))
      clear hbl hown bA oA rA cells hbD hc hu ht hq
      have hLb : L.length ≤ 1000 := by omega
      clear hL
      go_wp2_with fail
      go_region_held3 (fun w' => w'.cell? ⟨b, off + j, none⟩ = some (.int .i64 u) ∧ w'.cell? ⟨b, off + q, none⟩ = some (.int .i64 t))
        (first
          | assumption
          | exact ⟨d1, d2⟩
          | exact HS.out.1
          | exact HS.out.2.1
          | exact HS.out.2.2 _ K8.out.1)
        (first
          | (refine step_append_want ((wr.drewN 1).alloc (.cells #[.int .i64 xx, .int .i64 yy] 27)) (by rfl) (.tmp 17) (.tmp 32) _ (by rfl) w.heap.size 27 i0 _ 2 16 Try.underlying23 hi0 hz0 hz1 hz2 rfl (by omega) u7 L.length (cellsS L) (by rfl) HI.out.2.2.1 _ _ 1 _ (cellsS [⟨xx, yy⟩]) (by rfl) HI.out.2.2.2.1 (cellsS_one _) (by simp only [maxLen]; omega) (by omega) (Nat.le_trans hsz HI.out.2.1.size) ?_
             intro v8 w8 hown8 hg8 hat8
             have b8 : Below w.heap.size w w8 := (below_step HI.out.1 HI.out.2.1).trans (app_below0 HI.out.2.2.1 (Nat.le_refl _) (Nat.le_trans hsz HI.out.2.1.size) hg8)
             rw [← cellsS_append] at hown8
             have K8 := Lib.hid (And.intro b8 hown8)
             clear b8 hown8 hg8 hat8))
      go_wp2_with fail
      go_roundw
      case rel =>
        have hq := HI.out.2.2.2.2.1
        have hL := HI.out.2.2.2.2.2
        exact ⟨j + 2, L ++ [⟨xx, yy⟩], by omega, by omega, by simp; omega, by go_num, K8.out.1, by rw [List.length_append]; exact K8.out.2⟩
      case measure => simp [intOf]; omega
    · have hdn : decide ((q : Int) < (l.length : Int)) = false := decide_eq_false (by omega)
      have hLl : L.length = l.length / 2 := by omega
      have HX := Lib.hid (And.intro hbl (And.intro hown hLl))
      have hjb : j ≤ 1000 := by omega
      clear hbl hown hLl hL hq
      go_wp2_with fail
      go_ret
      exact ⟨_, L, rfl, HX.out.2.2, HX.out.1, HX.out.2.1⟩
set_option maxHeartbeats 4000000 in
set_option maxRecDepth 100000 in
theorem corners_any (g c p : Nat) (A : Option Addr) (z : List Int) (x y : Int) (w : World) (h : Rd w g A z c p) (hp : p ≤ 800000) (hx : 2 ≤ x ∧ x ≤ 30) (hy : 2 ≤ y ∧ y ≤ 30) :
    Calls Try.prog 62 #[.pointer (some ⟨g, 0, none⟩), .int .i64 x, .int .i64 y] w fun e w2 => ∃ (v : Value) (l : List Int), e = .returned v ∧ 6 ≤ l.length ∧ l.length ≤ 16 ∧ w2.ownsRow w.heap.size 3 1 v l.length (cellsI l) ∧ Drawn w g A z c p 3 w2 := by
  have hlt := h.lt
  go_enter Try.func62, Try.ntmps62
  go_wp2_with fail
  refine (pick_any g c p A z _ _ h (by omega) (by omega)).mono ?_
  rintro e w2 ⟨r2, rfl, a2, b2, _, hr2, hg2⟩
  have b2 := b2 (by omega)
  have K2 := Lib.hid (And.intro hr2 hg2)
  have hs2 := hg2.size
  clear h hr2 hg2
  have fin : ∀ (W : World) (q : Nat) (l : List Int), 6 ≤ l.length → l.length ≤ 16 → q ≤ p + 3 → Rd W g A z c q → w.grownBy W (some g) → ∃ (v : Value) (l2 : List Int), (Ending.returned (.slice (some ⟨W.heap.size, 0, none⟩) l.length l.length)) = .returned v ∧ 6 ≤ l2.length ∧ l2.length ≤ 16 ∧ (W.alloc (.cells (cellsI l).toArray 3)).ownsRow w.heap.size 3 1 v l2.length (cellsI l2) ∧ Drawn w g A z c p 3 (W.alloc (.cells (cellsI l).toArray 3)) := by
    intro W q l h6 h16 hq hr hg
    refine ⟨_, l, rfl, h6, h16, ?_, ⟨q, hq, hr.step ((Below.refl _ _).alloc (Nat.le_refl _) _)⟩, hg.trans (World.grownBy_alloc W _ _)⟩
    exact own_fresh (cs := (cellsI l).toArray) hg.size (by simp [cellsI]) (by omega)
  have HF := Lib.hid fin
  clear fin
  by_cases c0 : r2 = 0 ∨ r2 = 1
  · rcases c0 with rfl | rfl
    · go_wp2_with fail
      refine (pick_any g c _ A z _ _ K2.out.1 (by omega) (by omega)).mono ?_
      rintro e w3 ⟨r3, rfl, a3, b3, _, hr3, hg3⟩
      have K3 := Lib.hid (And.intro hr3 (K2.out.2.trans hg3))
      clear hr3 hg3
      go_wp2_with fail
      refine (pick_any g c _ A z _ _ K3.out.1 (by omega) (by omega)).mono ?_
      rintro e w4 ⟨r4, rfl, a4, b4, _, hr4, hg4⟩
      have K4 := Lib.hid (And.intro hr4 (K3.out.2.trans hg4))
      clear hr4 hg4
      go_wp2_with fail
      go_ret
      exact HF.out _ _ [0, 0, x, r3, r4, y] (by simp) (by simp) (by omega) K4.out.1 K4.out.2
    · go_wp2_with fail
      refine (pick_any g c _ A z _ _ K2.out.1 (by omega) (by omega)).mono ?_
      rintro e w3 ⟨r3, rfl, a3, b3, _, hr3, hg3⟩
      have K3 := Lib.hid (And.intro hr3 (K2.out.2.trans hg3))
      clear hr3 hg3
      go_wp2_with fail
      refine (pick_any g c _ A z _ _ K3.out.1 (by omega) (by omega)).mono ?_
      rintro e w4 ⟨r4, rfl, a4, b4, _, hr4, hg4⟩
      have K4 := Lib.hid (And.intro hr4 (K3.out.2.trans hg4))
      clear hr4 hg4
      go_wp2_with fail
      go_ret
      exact HF.out _ _ [0, 0, x, r3, r4, y] (by simp) (by simp) (by omega) K4.out.1 K4.out.2
  · have e0 : (r2 == 0) = false := by rw [beq_eq_false_iff_ne]; omega
    have e1 : (r2 == 1) = false := by rw [beq_eq_false_iff_ne]; omega
    obtain ⟨xs, hxs⟩ : ∃ xs, x + 1 = xs := ⟨_, rfl⟩
    obtain ⟨ys, hys⟩ : ∃ ys, y + 1 = ys := ⟨_, rfl⟩
    have hxw : IntKind.i64.wrap xs = xs := by rw [IntKind.wrap_i64]; omega
    have hyw : IntKind.i64.wrap ys = ys := by rw [IntKind.wrap_i64]; omega
    by_cases c2 : r2 = 2 ∨ r2 = 3
    · rcases c2 with rfl | rfl
      · go_wp2_with fail
        go_ret
        exact HF.out _ _ [1, 0, x, 0, xs, 1, xs, y, x, ys, 1, ys, 0, y, 0, 1] (by simp) (by simp) (by omega) K2.out.1 K2.out.2
      · go_wp2_with fail
        go_ret
        exact HF.out _ _ [1, 0, x, 0, xs, 1, xs, y, x, ys, 1, ys, 0, y, 0, 1] (by simp) (by simp) (by omega) K2.out.1 K2.out.2
    · have e2 : (r2 == 2) = false := by rw [beq_eq_false_iff_ne]; omega
      have e3 : (r2 == 3) = false := by rw [beq_eq_false_iff_ne]; omega
      by_cases c4 : r2 = 4
      · subst c4
        obtain ⟨xt, hxt⟩ : ∃ xt, 2 * x = xt := ⟨_, rfl⟩
        obtain ⟨yt, hyt⟩ : ∃ yt, 2 * y = yt := ⟨_, rfl⟩
        have hxtw : IntKind.i64.wrap xt = xt := by rw [IntKind.wrap_i64]; omega
        have hytw : IntKind.i64.wrap yt = yt := by rw [IntKind.wrap_i64]; omega
        go_wp2_with fail
        go_ret
        exact HF.out _ _ [x, 0, xt, y, x, yt, 0, y] (by simp) (by simp) (by omega) K2.out.1 K2.out.2
      · have e4 : (r2 == 4) = false := by rw [beq_eq_false_iff_ne]; omega
        go_wp2_with fail
        go_ret
        exact HF.out _ _ [0, 0, x, 0, x, y, 0, y] (by simp) (by simp) (by omega) K2.out.1 K2.out.2
end Go.Proofs.Ytfkfjkhikgnnaaa
