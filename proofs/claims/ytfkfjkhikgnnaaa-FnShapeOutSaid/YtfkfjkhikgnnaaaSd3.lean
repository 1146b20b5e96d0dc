/- The laws' draws of their inputs on shapes. (written by gen_sd3.py) -/
import Derived.Test.YtfkfjkhikgnnaaaSd2
import Derived.Deep.RegionHeld3
namespace Go.Proofs.Ytfkfjkhikgnnaaa
open Go.RowKit

/-- A shape was drawn. -/
def DrewP (w : World) (v : Value) (L : List Sp) (w2 : World) : Prop :=
  (∃ A c, v = .slice A L.length c ∧ L.length ≤ c ∧ Reads w2 w2.heap.size 2 A L.length (cellsS L)) ∧ L.length ≤ 8 ∧ Below w.heap.size w w2
theorem own_drewP {w w0 w2 : World} {v : Value} {L : List Sp} (h : w2.ownsRow w0.heap.size 27 2 v L.length (cellsS L)) (h8 : L.length ≤ 8) (hb : Below w.heap.size w w2) : DrewP w v L w2 := by
  obtain ⟨A, c, hv, hc, hr⟩ := own_slice h
  exact ⟨⟨A, c, hv, hc, hr⟩, h8, hb⟩
theorem dShValid_any (A : Option Addr) (c : Nat) (z : List Int) (w : World) (h : Bytes w A c z) :
    Calls Try.prog 25 #[.slice A z.length c] w fun e w2 => ∃ v L, e = .returned v ∧ DrewP w v L w2 := by
  go_enter Try.func25, Try.ntmps25
  go_wp2_with fail
  refine (open_any A c z _ h.reads h.byte h.cap h.room).mono ?_
  rintro e w2 ⟨g, c2, A2, z2, rfl, hg, hb2, hr2⟩
  go_wp2_with fail
  refine (drawSh_any g c2 0 A2 z2 _ hr2 (by omega)).mono ?_
  rintro e w3 ⟨v, L, rfl, ho3, hl, hd3⟩
  go_wp2_with fail
  go_ret
  exact ⟨v, L, rfl, own_drewP ho3 hl (grown_below hd3.grown hb2 hg)⟩
theorem dShArea_any (A : Option Addr) (c : Nat) (z : List Int) (w : World) (h : Bytes w A c z) :
    Calls Try.prog 19 #[.slice A z.length c] w fun e w2 => ∃ v L, e = .returned v ∧ DrewP w v L w2 := by
  go_enter Try.func19, Try.ntmps19
  go_wp2_with fail
  refine (open_any A c z _ h.reads h.byte h.cap h.room).mono ?_
  rintro e w2 ⟨g, c2, A2, z2, rfl, hg, hb2, hr2⟩
  go_wp2_with fail
  refine (drawSh_any g c2 0 A2 z2 _ hr2 (by omega)).mono ?_
  rintro e w3 ⟨v, L, rfl, ho3, hl, hd3⟩
  go_wp2_with fail
  go_ret
  exact ⟨v, L, rfl, own_drewP ho3 hl (grown_below hd3.grown hb2 hg)⟩
theorem dShBox_any (A : Option Addr) (c : Nat) (z : List Int) (w : World) (h : Bytes w A c z) :
    Calls Try.prog 22 #[.slice A z.length c] w fun e w2 => ∃ v L, e = .returned v ∧ DrewP w v L w2 := by
  go_enter Try.func22, Try.ntmps22
  go_wp2_with fail
  refine (open_any A c z _ h.reads h.byte h.cap h.room).mono ?_
  rintro e w2 ⟨g, c2, A2, z2, rfl, hg, hb2, hr2⟩
  go_wp2_with fail
  refine (drawSh_any g c2 0 A2 z2 _ hr2 (by omega)).mono ?_
  rintro e w3 ⟨v, L, rfl, ho3, hl, hd3⟩
  go_wp2_with fail
  go_ret
  exact ⟨v, L, rfl, own_drewP ho3 hl (grown_below hd3.grown hb2 hg)⟩
theorem dShCount_any (A : Option Addr) (c : Nat) (z : List Int) (w : World) (h : Bytes w A c z) :
    Calls Try.prog 36 #[.slice A z.length c] w fun e w2 => ∃ v L, e = .returned v ∧ DrewP w v L w2 := by
  go_enter Try.func36, Try.ntmps36
  go_wp2_with fail
  refine (open_any A c z _ h.reads h.byte h.cap h.room).mono ?_
  rintro e w2 ⟨g, c2, A2, z2, rfl, hg, hb2, hr2⟩
  go_wp2_with fail
  refine (drawSh_any g c2 0 A2 z2 _ hr2 (by omega)).mono ?_
  rintro e w3 ⟨v, L, rfl, ho3, hl, hd3⟩
  go_wp2_with fail
  go_ret
  exact ⟨v, L, rfl, own_drewP ho3 hl (grown_below hd3.grown hb2 hg)⟩
set_option maxHeartbeats 2000000 in
set_option maxRecDepth 100000 in
theorem dShMove_any (A : Option Addr) (c : Nat) (z : List Int) (w : World) (h : Bytes w A c z) :
    Calls Try.prog 31 #[.slice A z.length c] w fun e w2 => ∃ (v : Value) (L : List Sp) (x y : Int), e = .returned (.tuple #[v, .int .i64 x, .int .i64 y]) ∧ DrewP w v L w2 ∧ -110 ≤ x ∧ x ≤ 110 ∧ -110 ≤ y ∧ y ≤ 110 := by
  go_enter Try.func31, Try.ntmps31
  go_wp2_with fail
  refine (open_any A c z _ h.reads h.byte h.cap h.room).mono ?_
  rintro e w2 ⟨g, c2, A2, z2, rfl, hg, hb2, hr2⟩
  have hlt := hr2.lt
  go_wp2_with fail
  refine (drawSh_any g c2 0 A2 z2 _ hr2 (by omega)).mono ?_
  rintro e w3 ⟨v, L, rfl, ho3, hl, ⟨p3, hp3, hr3⟩, hg3⟩
  go_wp2_with fail
  refine (pick_any g c2 _ A2 z2 _ _ hr3 (by omega) (by omega)).mono ?_
  rintro e w4 ⟨r4, rfl, a4, b4, _, hr4, hg4⟩
  have b4 := b4 (by omega)
  have K4 := Lib.hid (And.intro (own_drawn (w0 := w2) ho3 hg4 hlt) (hg3.trans hg4))
  clear hr3 hg3 ho3 hg4 hr2
  by_cases c4 : r4 = 0
  · subst c4
    go_wp2_with fail
    refine (pick_any g c2 _ A2 z2 _ _ hr4 (by omega) (by omega)).mono ?_
    rintro e w5 ⟨r5, rfl, a5, b5, _, hr5, hg5⟩
    have b5 := b5 (by omega)
    obtain ⟨x, hx⟩ : ∃ x, r5 - 110 = x := ⟨_, rfl⟩
    have hxw : IntKind.i64.wrap x = x := by rw [IntKind.wrap_i64]; omega
    go_wp2_with fail
    refine (pick_any g c2 _ A2 z2 _ _ hr5 (by omega) (by omega)).mono ?_
    rintro e w6 ⟨r6, rfl, a6, b6, _, hr6, hg6⟩
    have b6 := b6 (by omega)
    obtain ⟨y, hy⟩ : ∃ y, r6 - 110 = y := ⟨_, rfl⟩
    have hyw : IntKind.i64.wrap y = y := by rw [IntKind.wrap_i64]; omega
    have K6 := Lib.hid (And.intro (own_drawn (w0 := w2) K4.out.1 (hg5.trans hg6) hlt) (K4.out.2.trans (hg5.trans hg6)))
    clear hr5 hr6 hg5 hg6
    go_wp2_with fail
    refine bodyPost_ret (v := .tuple #[v, .int .i64 x, .int .i64 y]) (by simp [results, Try.results31, go_sem, *]) rfl ?_
    exact ⟨v, L, x, y, rfl, own_drewP K6.out.1 hl (grown_below K6.out.2 hb2 hg), by omega, by omega, by omega, by omega⟩
  · have e4 : (r4 == 0) = false := by rw [beq_eq_false_iff_ne]; exact c4
    go_wp2_with fail
    refine (pick_any g c2 _ A2 z2 _ _ hr4 (by omega) (by omega)).mono ?_
    rintro e w5 ⟨r5, rfl, a5, b5, _, hr5, hg5⟩
    have b5 := b5 (by omega)
    obtain ⟨x, hx⟩ : ∃ x, r5 - 5 = x := ⟨_, rfl⟩
    have hxw : IntKind.i64.wrap x = x := by rw [IntKind.wrap_i64]; omega
    go_wp2_with fail
    refine (pick_any g c2 _ A2 z2 _ _ hr5 (by omega) (by omega)).mono ?_
    rintro e w6 ⟨r6, rfl, a6, b6, _, hr6, hg6⟩
    have b6 := b6 (by omega)
    obtain ⟨y, hy⟩ : ∃ y, r6 - 5 = y := ⟨_, rfl⟩
    have hyw : IntKind.i64.wrap y = y := by rw [IntKind.wrap_i64]; omega
    have K6 := Lib.hid (And.intro (own_drawn (w0 := w2) K4.out.1 (hg5.trans hg6) hlt) (K4.out.2.trans (hg5.trans hg6)))
    clear hr5 hr6 hg5 hg6
    go_wp2_with fail
    refine bodyPost_ret (v := .tuple #[v, .int .i64 x, .int .i64 y]) (by simp [results, Try.results31, go_sem, *]) rfl ?_
    exact ⟨v, L, x, y, rfl, own_drewP K6.out.1 hl (grown_below K6.out.2 hb2 hg), by omega, by omega, by omega, by omega⟩
end Go.Proofs.Ytfkfjkhikgnnaaa
