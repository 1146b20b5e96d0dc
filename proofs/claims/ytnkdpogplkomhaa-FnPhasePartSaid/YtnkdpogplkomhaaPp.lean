/- The laws draw phase models. (written by gen_pp.py) -/
import Derived.Test.YtnkdpogplkomhaaPw
import Derived.Test.YtnkdpogplkomhaaC2
import Derived.Test.YtnkdpogplkomhaaUu
import Derived.Test.YtnkdpogplkomhaaDz
namespace Go.Proofs.Ytnkdpogplkomhaa
open Go.RowKit

def DrawPhPost (w : World) (g c p : Nat) (A : Option Addr) (z : List Int) (e : Ending) (w2 : World) : Prop :=
  ∃ (v1 v2 : Value) (B : Option Addr) (cb : Nat) (ids : List Int) (l : List Ctx) (L : List (List Int)), e = .returned (.tuple #[v1, v2, .slice B L.length cb]) ∧ w2.ownsRow w.heap.size 3 1 v1 ids.length (cellsI ids) ∧ w2.ownsRow w.heap.size 111 3 v2 l.length (cellsC l) ∧ Nest (Value.int .i64) w2 w2.heap.size B L.length L ∧
    L.length ≤ cb ∧ ids.length ≤ 5 ∧ l.length ≤ 30 ∧ L.length ≤ 5 ∧ (∀ r ∈ L, r.length ≤ 6) ∧ Drawn w g A z c p 200 w2
set_option maxHeartbeats 8000000 in
set_option maxRecDepth 100000 in
theorem drawPh_any (g c p : Nat) (A : Option Addr) (z : List Int) (w : World) (h : Rd w g A z c p) (hp : p ≤ 100000) :
    Calls Try.prog 64 #[.pointer (some ⟨g, 0, none⟩)] w (DrawPhPost w g c p A z) := by
  obtain ⟨i0, hi0, hz0, hz1, hz2⟩ := info_parts infoInt
  have hgl := h.lt
  have ho3 : (w.alloc (.cells #[] 3)).ownsRow w.heap.size 3 1 (.slice (some ⟨w.heap.size, 0, none⟩) 0 0) 0 [] := own_empty (Nat.le_refl _) rfl
  have hr3 := h.step ((Below.refl _ _).alloc (Nat.le_refl _) (.cells #[] 3))
  have hg3 := World.grownBy_alloc w (.cells #[] 3) (some g)
  clear h
  go_enter Try.func64, Try.ntmps64
  go_wp2_with fail
  refine (pick_any g c p A z _ _ hr3 (by omega) (by omega)).mono ?_
  rintro e w4 ⟨r4, rfl, a4, b4, _, hr4, hg4⟩
  have b4 := b4 (by omega)
  have O4 := Lib.hid (And.intro (own_drawn (w0 := w) ho3 hg4 hgl) (hg3.trans hg4))
  clear ho3 hr3 hg3 hg4
  go_wp2_with fail
  refine (pick_any g c _ A z _ _ hr4 (by omega) (by omega)).mono ?_
  rintro e w5 ⟨r5, rfl, a5, b5, _, hr5, hg5⟩
  have O5 := Lib.hid (And.intro (own_drawn (w0 := w) O4.out.1 hg5 hgl) (O4.out.2.trans hg5))
  clear O4 hr4 hg5
  by_cases c5 : r5 = 0
  · have e5 : (r5 == 0) = true := by simp [c5]
    clear c5
    go_wp2_with fail
    refine (pick_any g c _ A z _ _ hr5 (by omega) (by omega)).mono ?_
    rintro e w6 ⟨r6, rfl, a6, b6, _, hr6, hg6⟩
    have b6 := b6 (by omega)
    have O6 := Lib.hid (And.intro (own_drawn (w0 := w) O5.out.1 hg6 hgl) (O5.out.2.trans hg6))
    clear O5 hr5 hg6 a4 b4
    obtain ⟨nn, rfl⟩ := Int.eq_ofNat_of_zero_le a6
    have hnn : nn ≤ 5 := by omega
    have hrn := hr6
    clear hr6
    go_wp2_with fail
    go_loopw [5, 7] (fun v i wr => ∃ (k : Nat) (l : List Int), k ≤ nn ∧ i = .int .i64 (1 + (k : Int)) ∧ l.length = k ∧ wr.ownsRow w.heap.size 3 1 v l.length (cellsI l) ∧ Rd wr g A z c (p + 1 + 1 + 1) ∧ w.grownBy wr (some g)) (fun _ i _ => (20 - intOf i).toNat)
    case atStart => exact ⟨0, [], by omega, by simp, rfl, O6.out.1, hrn, O6.out.2⟩
    case round =>
      obtain ⟨k, l, hk, rfl, rfl, hown, hrd, hgr⟩ := hrel
      have hgs := hgr.size
      by_cases hkN : l.length < nn
      · have e1 : decide ((1 : Int) + (l.length : Int) ≤ (nn : Int)) = true := by simp; omega
        have O := Lib.hid (And.intro hown (And.intro hrd hgr))
        clear hown hrd hgr
        go_wp2_with (at_builtin
                     go_must (refine wpList_append_reads _ rfl (.tmp 27) (.tmp 29) _ rfl w.heap.size 3 i0 _ 1 8 Try.underlying23 hi0 hz0 hz1 hz2 rfl (by omega) _ l.length _ rfl (O.out.1.alloc _) (wr.heap.size + 1) _ 1 1 (cellsI [1 + (l.length : Int)]) rfl (reads_int (by omega)) (cellsI_one _) (by simp only [maxLen]; omega) (by omega) (by simp; omega) ?_)
                     intro v8 w8 hown8 hg8 hat8)
        go_roundw
        case rel =>
          refine ⟨l.length + 1, l ++ [1 + (l.length : Int)], by omega, by go_num, by simp, ?_, (O.out.2.1.step ((Below.refl _ _).alloc (Nat.le_refl _) _)).grownRow (O.out.1.alloc _) hgl hg8, grown_row (grown_alloc O.out.2.2 _) (O.out.1.alloc _) (Nat.le_refl _) hg8⟩
          rw [List.length_append, cellsI_appP]
          exact hown8
        case measure => simp [intOf]; omega
      · have e1 : decide ((1 : Int) + (l.length : Int) ≤ (nn : Int)) = false := by simp; omega
        have hl7 : l.length ≤ 5 := by omega
        obtain ⟨A1, c1, hv1, _, _⟩ := own_slice hown
        subst hv1
        have hr9 := hrd.step ((Below.refl _ _).alloc (Nat.le_refl _) (.cells #[] 111))
        have O9 := Lib.hid (And.intro (hown.alloc (.cells #[] 111)) (And.intro (grown_alloc hgr (.cells #[] 111)) (own_empty (w := wr) (base := w.heap.size) (e := 111) (size := 3) hgs rfl)))
        clear hown hrd hgr
        go_wp2_with fail
        refine (pick_any g c _ A z _ _ hr9 (by omega) (by omega)).mono ?_
        rintro e w7 ⟨r7, rfl, a7, b7, _, hr7, hg7⟩
        have b7 := b7 (by omega)
        have O7 := Lib.hid (And.intro (own_drawn (w0 := w) O9.out.1 hg7 hgl) (And.intro (own_drawn (w0 := w) O9.out.2.2 hg7 hgl) (O9.out.2.1.trans hg7)))
        clear O9 hr9 hg7
        go_wp2_with fail
        go_loopw [8, 10] (fun v i wr => ∃ (k : Nat) (rs : List Ctx) (p2 : Nat), (k : Int) ≤ 6 ∧ i = .int .i64 (k : Int) ∧ rs.length ≤ 30 ∧ wr.ownsRow w.heap.size 111 3 v rs.length (cellsC rs) ∧ wr.ownsRow w.heap.size 3 1 (.slice A1 l.length c1) l.length (cellsI l) ∧ p2 ≤ p + 10 + 4 * k ∧ Rd wr g A z c p2 ∧ w.grownBy wr (some g)) (fun _ i _ => (20 - intOf i).toNat)
        case atStart => exact ⟨0, [], _, by omega, by simp, by simp, O7.out.2.1, O7.out.1, by omega, hr7, O7.out.2.2⟩
        case round =>
          obtain ⟨k, rs, p2, hk, rfl, hrs, hown, hoi, hp2, hrd, hgr⟩ := hrel
          have hgs := hgr.size
          obtain ⟨Ar, cr, hvr, hcapr, _⟩ := own_slice hown
          subst hvr
          have K := Lib.hid (And.intro hown (And.intro hoi hgr))
          clear hown hoi hgr
          by_cases hgo : (k : Int) < r7 ∧ 1 < nn
          · have e7 : decide ((k : Int) < r7) = true := decide_eq_true hgo.1
            have e8 : decide ((1 : Int) < (nn : Int)) = true := decide_eq_true (by have := hgo.2; omega)
            have hn1 : 1 < nn := hgo.2
            have hk7 : (k : Int) < r7 := hgo.1
            clear hgo
            go_wp2_with fail
            refine (pick_any g c _ A z _ _ hrd (by omega) (by omega)).mono ?_
            rintro e wa ⟨ra, rfl, aa, ba, _, hra, hga⟩
            have ba := ba (by omega)
            have Ka := Lib.hid (And.intro (own_drawn (w0 := w) K.out.1 hga hgl) (And.intro (own_drawn (w0 := w) K.out.2.1 hga hgl) (K.out.2.2.trans hga)))
            clear K hrd hga
            go_wp2_with fail
            refine (pick_any g c _ A z _ _ hra (by omega) (by omega)).mono ?_
            rintro e wb ⟨rb, rfl, ab, bb, _, hrb, hgb⟩
            have bb := bb (by omega)
            have Kb := Lib.hid (And.intro (own_drawn (w0 := w) Ka.out.1 hgb hgl) (And.intro (own_drawn (w0 := w) Ka.out.2.1 hgb hgl) (Ka.out.2.2.trans hgb)))
            clear Ka hra hgb
            go_wp2_with fail
            refine (pick_any g c _ A z _ _ hrb (by omega) (by omega)).mono ?_
            rintro e wc ⟨rc, rfl, ac, bc, _, hrc, hgc⟩
            have bc := bc (by omega)
            have Kc := Lib.hid (And.intro (own_drawn (w0 := w) Kb.out.1 hgc hgl) (And.intro (own_drawn (w0 := w) Kb.out.2.1 hgc hgl) (Kb.out.2.2.trans hgc)))
            clear Kb hrb hgc
            go_wp2_with fail
            obtain ⟨x, hx⟩ : ∃ x : Ctx, x = ⟨1 + ra, 1 + ra + 1 + rb, 1 + rc / 4⟩ := ⟨_, rfl⟩
            have had := sAddR_any Ar cr rs x wc (own_reads Kc.out.1) (by omega) hcapr
            rw [hx] at had
            refine had.mono ?_
            rw [← hx]
            rintro e wd ⟨vd, rfl, hbd, hod⟩
            obtain ⟨Ad, cd, hvd, _, _⟩ := own_slice hod
            subst hvd
            have hrd := hrc.step hbd
            have hgsd := Kc.out.2.2.size
            have Kd := Lib.hid (And.intro (own_below Kc.out.1 hbd) (And.intro (own_below Kc.out.2.1 hbd) (And.intro (Kc.out.2.2.trans (grown_of_below hbd _)) (own_less hod hgsd))))
            obtain ⟨m, hm⟩ : ∃ m, m = addR rs x := ⟨_, rfl⟩
            rw [← hm] at Kd ⊢
            clear hod hbd Kc hrc had hx
            cases hok : addOkR rs x
            · clear hm hok
              go_wp2_with fail
              go_roundw
              case rel => exact ⟨k + 1, rs, p2 + 1 + 1 + 1, by omega, by go_num, hrs, Kd.out.1, Kd.out.2.1, by omega, hrd, Kd.out.2.2.1⟩
              case measure => simp [intOf]; omega
            · have hlen : m.length ≤ 30 := by rw [hm]; exact (addR_len hok).2
              have hvo := sOrdValid_any A1 Ad c1 cd l m wd (own_reads Kd.out.2.1) (own_reads Kd.out.2.2.2) (by omega) (by omega)
              obtain ⟨t, ht⟩ : ∃ t, ordOkG l m = t := ⟨_, rfl⟩
              rw [ht] at hvo
              have HVO := Lib.hid hvo
              clear hvo ht hm hok
              cases t
              · go_wp2_with (go_at_call 66; go_must (refine HVO.out.mono ?_); rintro e we ⟨rfl, be⟩)
                have hre := hrd.step be
                have Ke := Lib.hid (And.intro (own_below Kd.out.1 be) (And.intro (own_below Kd.out.2.1 be) (And.intro (Kd.out.2.2.1.trans (grown_of_below be _)) (own_below Kd.out.2.2.2 be))))
                clear Kd hrd be
                refine (pick_any g c _ A z _ _ hre (by omega) (by omega)).mono ?_
                rintro e wf ⟨rf, rfl, af, bf, _, hrf, hgf⟩
                have Kf := Lib.hid (And.intro (own_drawn (w0 := w) Ke.out.1 hgf hgl) (And.intro (own_drawn (w0 := w) Ke.out.2.1 hgf hgl) (And.intro (Ke.out.2.2.1.trans hgf) (own_drawn (w0 := w) Ke.out.2.2.2 hgf hgl))))
                clear Ke hre hgf bf
                by_cases cf : rf = 0
                · have ef : (rf == 0) = true := by simp [cf]
                  clear cf
                  go_wp2_with fail
                  go_roundw
                  case rel => exact ⟨k + 1, m, p2 + 1 + 1 + 1 + 1, by omega, by go_num, hlen, Kf.out.2.2.2, Kf.out.2.1, by omega, hrf, Kf.out.2.2.1⟩
                  case measure => simp [intOf]; omega
                · have ef : (rf == 0) = false := by simp [cf]
                  clear cf
                  go_wp2_with fail
                  go_roundw
                  case rel => exact ⟨k + 1, rs, p2 + 1 + 1 + 1 + 1, by omega, by go_num, hrs, Kf.out.1, Kf.out.2.1, by omega, hrf, Kf.out.2.2.1⟩
                  case measure => simp [intOf]; omega
              · go_wp2_with (go_at_call 66; go_must (refine HVO.out.mono ?_); rintro e we ⟨rfl, be⟩)
                go_roundw
                case rel => exact ⟨k + 1, m, p2 + 1 + 1 + 1, by omega, by go_num, hlen, own_below Kd.out.2.2.2 be, own_below Kd.out.2.1 be, by omega, hrd.step be, Kd.out.2.2.1.trans (grown_of_below be _)⟩
                case measure => simp [intOf]; omega
          · have hws := drawWs_any g c p2 nn A z wr hrd (by omega) hnn
            have KE := Lib.hid K.out
            have HWS := Lib.hid hws
            clear hws hrd K
            by_cases h7 : (k : Int) < r7
            · have e7 : decide ((k : Int) < r7) = true := decide_eq_true h7
              have e8 : decide ((1 : Int) < (nn : Int)) = false := decide_eq_false (fun h => hgo ⟨h7, by omega⟩)
              clear hgo h7
              go_wp2_with fail
              refine HWS.out.mono ?_
              rintro e we ⟨B, cb, L, rfl, hcb, hne, hLn, hrows, ⟨⟨pe, hpe, hre⟩, hge⟩⟩
              have FE := Lib.hid (And.intro (own_drawn (w0 := w) KE.out.2.1 hge hgl) (And.intro (own_drawn (w0 := w) KE.out.1 hge hgl) (And.intro hne (And.intro hcb (And.intro hrows (And.intro (show ∃ p3, p3 ≤ p + 200 ∧ Rd we g A z c p3 from ⟨pe, by omega, hre⟩) (KE.out.2.2.trans hge)))))))
              clear hne hrows hre hge hcb
              go_wp2_with fail
              go_ret3
              exact ⟨_, _, B, cb, l, rs, L, rfl, FE.out.1, FE.out.2.1, FE.out.2.2.1, FE.out.2.2.2.1, by omega, hrs, by omega, FE.out.2.2.2.2.1, ⟨FE.out.2.2.2.2.2.1, FE.out.2.2.2.2.2.2⟩⟩
            · have e7 : decide ((k : Int) < r7) = false := decide_eq_false h7
              clear hgo h7
              go_wp2_with fail
              refine HWS.out.mono ?_
              rintro e we ⟨B, cb, L, rfl, hcb, hne, hLn, hrows, ⟨⟨pe, hpe, hre⟩, hge⟩⟩
              have FE := Lib.hid (And.intro (own_drawn (w0 := w) KE.out.2.1 hge hgl) (And.intro (own_drawn (w0 := w) KE.out.1 hge hgl) (And.intro hne (And.intro hcb (And.intro hrows (And.intro (show ∃ p3, p3 ≤ p + 200 ∧ Rd we g A z c p3 from ⟨pe, by omega, hre⟩) (KE.out.2.2.trans hge)))))))
              clear hne hrows hre hge hcb
              go_wp2_with fail
              go_ret3
              exact ⟨_, _, B, cb, l, rs, L, rfl, FE.out.1, FE.out.2.1, FE.out.2.2.1, FE.out.2.2.2.1, by omega, hrs, by omega, FE.out.2.2.2.2.1, ⟨FE.out.2.2.2.2.2.1, FE.out.2.2.2.2.2.2⟩⟩
  · have e5 : (r5 == 0) = false := by simp [c5]
    clear c5
    obtain ⟨nn, rfl⟩ := Int.eq_ofNat_of_zero_le a4
    have hnn : nn ≤ 5 := by omega
    have hrn := hr5
    clear hr5
    go_wp2_with fail
    go_loopw [5, 7] (fun v i wr => ∃ (k : Nat) (l : List Int), k ≤ nn ∧ i = .int .i64 (1 + (k : Int)) ∧ l.length = k ∧ wr.ownsRow w.heap.size 3 1 v l.length (cellsI l) ∧ Rd wr g A z c (p + 1 + 1) ∧ w.grownBy wr (some g)) (fun _ i _ => (20 - intOf i).toNat)
    case atStart => exact ⟨0, [], by omega, by simp, rfl, O5.out.1, hrn, O5.out.2⟩
    case round =>
      obtain ⟨k, l, hk, rfl, rfl, hown, hrd, hgr⟩ := hrel
      have hgs := hgr.size
      by_cases hkN : l.length < nn
      · have e1 : decide ((1 : Int) + (l.length : Int) ≤ (nn : Int)) = true := by simp; omega
        have O := Lib.hid (And.intro hown (And.intro hrd hgr))
        clear hown hrd hgr
        go_wp2_with (at_builtin
                     go_must (refine wpList_append_reads _ rfl (.tmp 27) (.tmp 29) _ rfl w.heap.size 3 i0 _ 1 8 Try.underlying23 hi0 hz0 hz1 hz2 rfl (by omega) _ l.length _ rfl (O.out.1.alloc _) (wr.heap.size + 1) _ 1 1 (cellsI [1 + (l.length : Int)]) rfl (reads_int (by omega)) (cellsI_one _) (by simp only [maxLen]; omega) (by omega) (by simp; omega) ?_)
                     intro v8 w8 hown8 hg8 hat8)
        go_roundw
        case rel =>
          refine ⟨l.length + 1, l ++ [1 + (l.length : Int)], by omega, by go_num, by simp, ?_, (O.out.2.1.step ((Below.refl _ _).alloc (Nat.le_refl _) _)).grownRow (O.out.1.alloc _) hgl hg8, grown_row (grown_alloc O.out.2.2 _) (O.out.1.alloc _) (Nat.le_refl _) hg8⟩
          rw [List.length_append, cellsI_appP]
          exact hown8
        case measure => simp [intOf]; omega
      · have e1 : decide ((1 : Int) + (l.length : Int) ≤ (nn : Int)) = false := by simp; omega
        have hl7 : l.length ≤ 5 := by omega
        obtain ⟨A1, c1, hv1, _, _⟩ := own_slice hown
        subst hv1
        have hr9 := hrd.step ((Below.refl _ _).alloc (Nat.le_refl _) (.cells #[] 111))
        have O9 := Lib.hid (And.intro (hown.alloc (.cells #[] 111)) (And.intro (grown_alloc hgr (.cells #[] 111)) (own_empty (w := wr) (base := w.heap.size) (e := 111) (size := 3) hgs rfl)))
        clear hown hrd hgr
        go_wp2_with fail
        refine (pick_any g c _ A z _ _ hr9 (by omega) (by omega)).mono ?_
        rintro e w7 ⟨r7, rfl, a7, b7, _, hr7, hg7⟩
        have b7 := b7 (by omega)
        have O7 := Lib.hid (And.intro (own_drawn (w0 := w) O9.out.1 hg7 hgl) (And.intro (own_drawn (w0 := w) O9.out.2.2 hg7 hgl) (O9.out.2.1.trans hg7)))
        clear O9 hr9 hg7
        go_wp2_with fail
        go_loopw [8, 10] (fun v i wr => ∃ (k : Nat) (rs : List Ctx) (p2 : Nat), (k : Int) ≤ 6 ∧ i = .int .i64 (k : Int) ∧ rs.length ≤ 30 ∧ wr.ownsRow w.heap.size 111 3 v rs.length (cellsC rs) ∧ wr.ownsRow w.heap.size 3 1 (.slice A1 l.length c1) l.length (cellsI l) ∧ p2 ≤ p + 10 + 4 * k ∧ Rd wr g A z c p2 ∧ w.grownBy wr (some g)) (fun _ i _ => (20 - intOf i).toNat)
        case atStart => exact ⟨0, [], _, by omega, by simp, by simp, O7.out.2.1, O7.out.1, by omega, hr7, O7.out.2.2⟩
        case round =>
          obtain ⟨k, rs, p2, hk, rfl, hrs, hown, hoi, hp2, hrd, hgr⟩ := hrel
          have hgs := hgr.size
          obtain ⟨Ar, cr, hvr, hcapr, _⟩ := own_slice hown
          subst hvr
          have K := Lib.hid (And.intro hown (And.intro hoi hgr))
          clear hown hoi hgr
          by_cases hgo : (k : Int) < r7 ∧ 1 < nn
          · have e7 : decide ((k : Int) < r7) = true := decide_eq_true hgo.1
            have e8 : decide ((1 : Int) < (nn : Int)) = true := decide_eq_true (by have := hgo.2; omega)
            have hn1 : 1 < nn := hgo.2
            have hk7 : (k : Int) < r7 := hgo.1
            clear hgo
            go_wp2_with fail
            refine (pick_any g c _ A z _ _ hrd (by omega) (by omega)).mono ?_
            rintro e wa ⟨ra, rfl, aa, ba, _, hra, hga⟩
            have ba := ba (by omega)
            have Ka := Lib.hid (And.intro (own_drawn (w0 := w) K.out.1 hga hgl) (And.intro (own_drawn (w0 := w) K.out.2.1 hga hgl) (K.out.2.2.trans hga)))
            clear K hrd hga
            go_wp2_with fail
            refine (pick_any g c _ A z _ _ hra (by omega) (by omega)).mono ?_
            rintro e wb ⟨rb, rfl, ab, bb, _, hrb, hgb⟩
            have bb := bb (by omega)
            have Kb := Lib.hid (And.intro (own_drawn (w0 := w) Ka.out.1 hgb hgl) (And.intro (own_drawn (w0 := w) Ka.out.2.1 hgb hgl) (Ka.out.2.2.trans hgb)))
            clear Ka hra hgb
            go_wp2_with fail
            refine (pick_any g c _ A z _ _ hrb (by omega) (by omega)).mono ?_
            rintro e wc ⟨rc, rfl, ac, bc, _, hrc, hgc⟩
            have bc := bc (by omega)
            have Kc := Lib.hid (And.intro (own_drawn (w0 := w) Kb.out.1 hgc hgl) (And.intro (own_drawn (w0 := w) Kb.out.2.1 hgc hgl) (Kb.out.2.2.trans hgc)))
            clear Kb hrb hgc
            go_wp2_with fail
            obtain ⟨x, hx⟩ : ∃ x : Ctx, x = ⟨1 + ra, 1 + ra + 1 + rb, 1 + rc / 4⟩ := ⟨_, rfl⟩
            have had := sAddR_any Ar cr rs x wc (own_reads Kc.out.1) (by omega) hcapr
            rw [hx] at had
            refine had.mono ?_
            rw [← hx]
            rintro e wd ⟨vd, rfl, hbd, hod⟩
            obtain ⟨Ad, cd, hvd, _, _⟩ := own_slice hod
            subst hvd
            have hrd := hrc.step hbd
            have hgsd := Kc.out.2.2.size
            have Kd := Lib.hid (And.intro (own_below Kc.out.1 hbd) (And.intro (own_below Kc.out.2.1 hbd) (And.intro (Kc.out.2.2.trans (grown_of_below hbd _)) (own_less hod hgsd))))
            obtain ⟨m, hm⟩ : ∃ m, m = addR rs x := ⟨_, rfl⟩
            rw [← hm] at Kd ⊢
            clear hod hbd Kc hrc had hx
            cases hok : addOkR rs x
            · clear hm hok
              go_wp2_with fail
              go_roundw
              case rel => exact ⟨k + 1, rs, p2 + 1 + 1 + 1, by omega, by go_num, hrs, Kd.out.1, Kd.out.2.1, by omega, hrd, Kd.out.2.2.1⟩
              case measure => simp [intOf]; omega
            · have hlen : m.length ≤ 30 := by rw [hm]; exact (addR_len hok).2
              have hvo := sOrdValid_any A1 Ad c1 cd l m wd (own_reads Kd.out.2.1) (own_reads Kd.out.2.2.2) (by omega) (by omega)
              obtain ⟨t, ht⟩ : ∃ t, ordOkG l m = t := ⟨_, rfl⟩
              rw [ht] at hvo
              have HVO := Lib.hid hvo
              clear hvo ht hm hok
              cases t
              · go_wp2_with (go_at_call 66; go_must (refine HVO.out.mono ?_); rintro e we ⟨rfl, be⟩)
                have hre := hrd.step be
                have Ke := Lib.hid (And.intro (own_below Kd.out.1 be) (And.intro (own_below Kd.out.2.1 be) (And.intro (Kd.out.2.2.1.trans (grown_of_below be _)) (own_below Kd.out.2.2.2 be))))
                clear Kd hrd be
                refine (pick_any g c _ A z _ _ hre (by omega) (by omega)).mono ?_
                rintro e wf ⟨rf, rfl, af, bf, _, hrf, hgf⟩
                have Kf := Lib.hid (And.intro (own_drawn (w0 := w) Ke.out.1 hgf hgl) (And.intro (own_drawn (w0 := w) Ke.out.2.1 hgf hgl) (And.intro (Ke.out.2.2.1.trans hgf) (own_drawn (w0 := w) Ke.out.2.2.2 hgf hgl))))
                clear Ke hre hgf bf
                by_cases cf : rf = 0
                · have ef : (rf == 0) = true := by simp [cf]
                  clear cf
                  go_wp2_with fail
                  go_roundw
                  case rel => exact ⟨k + 1, m, p2 + 1 + 1 + 1 + 1, by omega, by go_num, hlen, Kf.out.2.2.2, Kf.out.2.1, by omega, hrf, Kf.out.2.2.1⟩
                  case measure => simp [intOf]; omega
                · have ef : (rf == 0) = false := by simp [cf]
                  clear cf
                  go_wp2_with fail
                  go_roundw
                  case rel => exact ⟨k + 1, rs, p2 + 1 + 1 + 1 + 1, by omega, by go_num, hrs, Kf.out.1, Kf.out.2.1, by omega, hrf, Kf.out.2.2.1⟩
                  case measure => simp [intOf]; omega
              · go_wp2_with (go_at_call 66; go_must (refine HVO.out.mono ?_); rintro e we ⟨rfl, be⟩)
                go_roundw
                case rel => exact ⟨k + 1, m, p2 + 1 + 1 + 1, by omega, by go_num, hlen, own_below Kd.out.2.2.2 be, own_below Kd.out.2.1 be, by omega, hrd.step be, Kd.out.2.2.1.trans (grown_of_below be _)⟩
                case measure => simp [intOf]; omega
          · have hws := drawWs_any g c p2 nn A z wr hrd (by omega) hnn
            have KE := Lib.hid K.out
            have HWS := Lib.hid hws
            clear hws hrd K
            by_cases h7 : (k : Int) < r7
            · have e7 : decide ((k : Int) < r7) = true := decide_eq_true h7
              have e8 : decide ((1 : Int) < (nn : Int)) = false := decide_eq_false (fun h => hgo ⟨h7, by omega⟩)
              clear hgo h7
              go_wp2_with fail
              refine HWS.out.mono ?_
              rintro e we ⟨B, cb, L, rfl, hcb, hne, hLn, hrows, ⟨⟨pe, hpe, hre⟩, hge⟩⟩
              have FE := Lib.hid (And.intro (own_drawn (w0 := w) KE.out.2.1 hge hgl) (And.intro (own_drawn (w0 := w) KE.out.1 hge hgl) (And.intro hne (And.intro hcb (And.intro hrows (And.intro (show ∃ p3, p3 ≤ p + 200 ∧ Rd we g A z c p3 from ⟨pe, by omega, hre⟩) (KE.out.2.2.trans hge)))))))
              clear hne hrows hre hge hcb
              go_wp2_with fail
              go_ret3
              exact ⟨_, _, B, cb, l, rs, L, rfl, FE.out.1, FE.out.2.1, FE.out.2.2.1, FE.out.2.2.2.1, by omega, hrs, by omega, FE.out.2.2.2.2.1, ⟨FE.out.2.2.2.2.2.1, FE.out.2.2.2.2.2.2⟩⟩
            · have e7 : decide ((k : Int) < r7) = false := decide_eq_false h7
              clear hgo h7
              go_wp2_with fail
              refine HWS.out.mono ?_
              rintro e we ⟨B, cb, L, rfl, hcb, hne, hLn, hrows, ⟨⟨pe, hpe, hre⟩, hge⟩⟩
              have FE := Lib.hid (And.intro (own_drawn (w0 := w) KE.out.2.1 hge hgl) (And.intro (own_drawn (w0 := w) KE.out.1 hge hgl) (And.intro hne (And.intro hcb (And.intro hrows (And.intro (show ∃ p3, p3 ≤ p + 200 ∧ Rd we g A z c p3 from ⟨pe, by omega, hre⟩) (KE.out.2.2.trans hge)))))))
              clear hne hrows hre hge hcb
              go_wp2_with fail
              go_ret3
              exact ⟨_, _, B, cb, l, rs, L, rfl, FE.out.1, FE.out.2.1, FE.out.2.2.1, FE.out.2.2.2.1, by omega, hrs, by omega, FE.out.2.2.2.2.1, ⟨FE.out.2.2.2.2.2.1, FE.out.2.2.2.2.2.2⟩⟩
end Go.Proofs.Ytnkdpogplkomhaa
