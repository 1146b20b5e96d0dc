/- The laws draw contexts, relations and two contexts to compare. -/
import Derived.Test.YtpkmnigkcefnpaaDh
namespace Go.Proofs.Ytpkmnigkcefnpaa
open Go.RowKit

set_option maxHeartbeats 2000000 in
set_option maxRecDepth 100000 in
theorem dAbove_any (A : Option Addr) (c : Nat) (z : List Int) (w : World) (h : Bytes w A c z) :
    Calls Try.prog 20 #[.slice A z.length c] w fun e w2 => ∃ v1 v2 ids l a b, e = .returned (.tuple #[v1, v2, .int .i64 a, .int .i64 b]) ∧ DrewB w v1 v2 ids l w2 := by
  go_enter Try.func20, Try.ntmps20
  go_wp2_with fail
  refine (open_any A c z _ h.reads h.byte h.cap h.room).mono ?_
  rintro e w2 ⟨g, c2, A2, z2, rfl, hg, hb2, hr2⟩
  have hgl := hr2.lt
  go_wp2_with fail
  refine (drawGood_any g c2 0 A2 z2 _ hr2 (by omega)).mono ?_
  rintro e w3 ⟨v1, v2, ids, l, rfl, ho1, ho2, hl1, hl2, ⟨p3, hp3, hr3⟩, hg3⟩
  obtain ⟨A5, c5, rfl, hcap, hrl⟩ := own_slice ho2
  by_cases h0 : l.length = 0
  · have e0 : decide ((0 : Int) < (l.length : Int)) = false := decide_eq_false (by omega)
    have e00 : decide (0 < l.length) = false := decide_eq_false (by omega)
    clear h0 hrl
    go_wp2_with fail
    refine (pick_any g c2 p3 A2 z2 _ _ hr3 (by omega) (by omega)).mono ?_
    rintro e w4 ⟨r4, rfl, a4, b4, _, hr4, hg4⟩
    have b4 := b4 (by omega)
    have O4 := Lib.hid (And.intro (own_drawn (w0 := w2) ho1 hg4 hgl) (And.intro (own_drawn (w0 := w2) ho2 hg4 hgl) (hg3.trans hg4)))
    clear ho1 ho2 hg3 hg4 hr3
    go_wp2_with fail
    refine (pick_any g c2 _ A2 z2 _ _ hr4 (by omega) (by omega)).mono ?_
    rintro e w6 ⟨r6, rfl, a6, b6, _, hr6, hg6⟩
    have b6 := b6 (by omega)
    have o1 := own_drawn (w0 := w2) O4.out.1 hg6 hgl
    have o2 := own_drawn (w0 := w2) O4.out.2.1 hg6 hgl
    go_wp2_with fail
    refine bodyPost_ret (v := .tuple #[v1, .slice A5 l.length c5, .int .i64 (1 + r4), .int .i64 (1 + r4 + r6)]) (by simp [results, Try.results20, go_sem, *]) rfl ?_
    exact ⟨_, _, ids, l, _, _, rfl, own_less o1 hb2.size, own_less o2 hb2.size, hl1, hl2, grown_below (O4.out.2.2.trans hg6) hb2 hg⟩
  · have e0 : decide ((0 : Int) < (l.length : Int)) = true := decide_eq_true (by omega)
    have e00 : decide (0 < l.length) = true := decide_eq_true (by omega)
    have hpos : 0 < l.length := by omega
    clear h0 hrl
    go_wp2_with fail
    refine (pick_any g c2 p3 A2 z2 _ _ hr3 (by omega) (by omega)).mono ?_
    rintro e w4 ⟨r4, rfl, a4, b4, _, hr4, hg4⟩
    have b4 := b4 (by omega)
    have O4 := Lib.hid (And.intro (own_drawn (w0 := w2) ho1 hg4 hgl) (And.intro (own_drawn (w0 := w2) ho2 hg4 hgl) (hg3.trans hg4)))
    clear ho1 ho2 hg3 hg4 hr3
    by_cases c4 : r4 = 0
    · have e4 : decide (0 < r4) = false := decide_eq_false (by omega)
      clear c4
      go_wp2_with fail
      refine (pick_any g c2 _ A2 z2 _ _ hr4 (by omega) (by omega)).mono ?_
      rintro e w5 ⟨r5, rfl, a5, b5, _, hr5, hg5⟩
      have b5 := b5 (by omega)
      have O5 := Lib.hid (And.intro (own_drawn (w0 := w2) O4.out.1 hg5 hgl) (And.intro (own_drawn (w0 := w2) O4.out.2.1 hg5 hgl) (O4.out.2.2.trans hg5)))
      clear O4 hr4 hg5
      go_wp2_with fail
      refine (pick_any g c2 _ A2 z2 _ _ hr5 (by omega) (by omega)).mono ?_
      rintro e w6 ⟨r6, rfl, a6, b6, _, hr6, hg6⟩
      have b6 := b6 (by omega)
      have o1 := own_drawn (w0 := w2) O5.out.1 hg6 hgl
      have o2 := own_drawn (w0 := w2) O5.out.2.1 hg6 hgl
      go_wp2_with fail
      refine bodyPost_ret (v := .tuple #[v1, .slice A5 l.length c5, .int .i64 (1 + r5), .int .i64 (1 + r5 + r6)]) (by simp [results, Try.results20, go_sem, *]) rfl ?_
      exact ⟨_, _, ids, l, _, _, rfl, own_less o1 hb2.size, own_less o2 hb2.size, hl1, hl2, grown_below (O5.out.2.2.trans hg6) hb2 hg⟩
    · have e4 : decide (0 < r4) = true := decide_eq_true (by omega)
      clear c4
      go_wp2_with fail
      refine (pick_any g c2 _ A2 z2 _ _ hr4 (by omega) (by omega)).mono ?_
      rintro e w5 ⟨r5, rfl, a5, b5, _, hr5, hg5⟩
      have b5 := b5 (by omega)
      obtain ⟨k, rfl⟩ := Int.eq_ofNat_of_zero_le a5
      have hk : k < l.length := by omega
      have O5 := Lib.hid (And.intro (own_drawn (w0 := w2) O4.out.1 hg5 hgl) (And.intro (own_drawn (w0 := w2) O4.out.2.1 hg5 hgl) (O4.out.2.2.trans hg5)))
      obtain ⟨b, off, hA5, hbb, hc⟩ := (own_reads O5.out.2.1).ctx hpos
      subst hA5
      obtain ⟨r, hr0⟩ : ∃ r, l[k]? = some r := ⟨_, List.getElem?_eq_getElem hk⟩
      obtain ⟨d1, d2, d3⟩ := hc k _ hr0
      clear O4 hr4 hg5 hc hr0
      go_wp2_with fail
      go_quiet (fail)
      go_wp2_with fail
      try simp only [Exit.inBlock, Exit.then]
      refine bodyPost_ret (v := .tuple #[v1, .slice (some ⟨b, off, none⟩) l.length c5, .int .i64 r.id, .int .i64 r.kind]) (by simp [results, Try.results20, go_sem, *]) rfl ?_
      have hbe : Below w5.heap.size w5 ((w5.alloc (.cells #[.int .i64 r.id, .int .i64 r.kind, .int .i64 r.area] 31)).drewN nq) := below_draws ((Below.refl _ _).alloc (Nat.le_refl _) _) nq
      exact ⟨_, _, ids, l, _, _, rfl, own_less (own_below O5.out.1 hbe) hb2.size, own_less (own_below O5.out.2.1 hbe) hb2.size, hl1, hl2, grown_below (O5.out.2.2.trans (grown_of_below hbe _)) hb2 hg⟩
end Go.Proofs.Ytpkmnigkcefnpaa
