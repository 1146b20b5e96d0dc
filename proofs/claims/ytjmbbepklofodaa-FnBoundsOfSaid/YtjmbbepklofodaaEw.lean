/- The years that evidence leaves to a context. -/
import Derived.Test.YtjmbbepklofodaaEv
import Derived.Deep.RegionHeld3
namespace Go.Proofs.Ytjmbbepklofodaa
open Go.RowKit

def idE : Ev → Int
  | .b c => c.id
  | .f id _ _ _ => id
def lowE : Ev → Int → Int
  | .b c, a => max a c.kind
  | .f _ _ _ Y, a => maxF (fun _ => true) (fun y => y) Y a
def highE : Ev → Int → Int
  | .b c, a => min a c.area
  | .f .., a => a
def lowsE (id : Int) (L : List Ev) (a : Int) : Int := L.foldl (fun a e => if idE e = id then lowE e a else a) a
def highsE (id : Int) (L : List Ev) (a : Int) : Int := L.foldl (fun a e => if idE e = id then highE e a else a) a
theorem lowsE_next {id a : Int} {L : List Ev} {k : Nat} {x : Ev} (hk : L[k]? = some x) : lowsE id (L.take (k + 1)) a = if idE x = id then lowE x (lowsE id (L.take k) a) else lowsE id (L.take k) a := by
  rw [List.take_add_one, hk, lowsE, List.foldl_append]
  rfl
theorem highsE_next {id a : Int} {L : List Ev} {k : Nat} {x : Ev} (hk : L[k]? = some x) : highsE id (L.take (k + 1)) a = if idE x = id then highE x (highsE id (L.take k) a) else highsE id (L.take k) a := by
  rw [List.take_add_one, hk, highsE, List.foldl_append]
  rfl
theorem m_ctx_b (c : Ctx) (w : World) : (method 197 29 (.agg #[.int .i64 c.id, .int .i64 c.kind, .int .i64 c.area]) "loop.example/excavation/impl.context").run Try.prog w = .ok (64, .agg #[.int .i64 c.id, .int .i64 c.kind, .int .i64 c.area]) w := by kernel_rfl
theorem m_ctx_f (id : Int) (A : Option Addr) (n cap : Nat) (w : World) : (method 197 73 (.agg #[.int .i64 id, .slice A n cap]) "loop.example/excavation/impl.context").run Try.prog w = .ok (65, .agg #[.int .i64 id, .slice A n cap]) w := by kernel_rfl
theorem as_bb (v : Value) (w : World) : (Instr.typeAssert (.iface 29 v) 77 29 true).run Try.prog w = .ok (.tuple #[v, .bool true]) w := by kernel_rfl
theorem as_fb (v : Value) (w : World) : (Instr.typeAssert (.iface 73 v) 77 29 true).run Try.prog w = .ok (.tuple #[.agg #[.int .i64 0, .int .i64 0, .int .i64 0], .bool false]) w := by kernel_rfl
theorem as_ff (v : Value) (w : World) : (Instr.typeAssert (.iface 73 v) 77 73 true).run Try.prog w = .ok (.tuple #[v, .bool true]) w := by kernel_rfl

set_option maxHeartbeats 3000000 in
set_option maxRecDepth 100000 in
theorem yearsLeft_any (A : Option Addr) (cap : Nat) (L : List Ev) (id : Int) (w : World) (hr : Reads w w.heap.size 1 A L.length (L.map encE)) (hev : ∀ e ∈ L, EvR w w.heap.size e) (hl : L.length ≤ 1000000000000000) :
    Calls Try.prog 39 #[.slice A L.length cap, .int .i64 id] w fun e w2 => e = .returned (.tuple #[.int .i64 (lowsE id L 0), .int .i64 (highsE id L 999)]) ∧ Below w.heap.size w w2 := by
  have HEV := Lib.hid hev
  clear hev
  go_enter Try.func39, Try.ntmps39
  go_wp2_with fail
  go_loopw [6, 7, 16] (fun a b i wr => ∃ k : Nat, k ≤ L.length ∧ i = .int .i64 k ∧ a = .int .i64 (lowsE id (L.take k) 0) ∧ b = .int .i64 (highsE id (L.take k) 999) ∧ Below w.heap.size w wr) (fun _ _ i _ => L.length - (intOf i).toNat)
  case atStart => exact ⟨0, Nat.zero_le _, rfl, rfl, rfl, Below.refl _ _⟩
  case round =>
    obtain ⟨k, hk, rfl, rfl, rfl, hb⟩ := hrel
    by_cases hlt : k < L.length
    · obtain ⟨b, off, hA, hbl, hc⟩ := evs_cell (hr.below hb) (by omega)
      subst hA
      obtain ⟨x, hx⟩ : ∃ x, L[k]? = some x := ⟨_, List.getElem?_eq_getElem hlt⟩
      have c1 := hc k x hx
      have hxr := (HEV.out x (List.mem_of_getElem? hx)).step hb
      have HX := Lib.hid (lowsE_next (id := id) (a := 0) hx)
      have HY := Lib.hid (highsE_next (id := id) (a := 999) hx)
      obtain ⟨lo, hlo⟩ : ∃ lo, lo = lowsE id (L.take k) 0 := ⟨_, rfl⟩
      obtain ⟨hi, hhi⟩ : ∃ hi, hi = highsE id (L.take k) 999 := ⟨_, rfl⟩
      rw [← hlo] at HX ⊢
      rw [← hhi] at HY ⊢
      have HB := Lib.hid hb
      have hsz := hb.size
      clear hr hc hx hb hlo hhi
      cases x with
      | b c =>
        have hm := m_ctx_b c
        change wr.cell? ⟨b, off + k, none⟩ = some (.iface 29 (.agg #[.int .i64 c.id, .int .i64 c.kind, .int .i64 c.area])) at c1
        have ha := as_bb (.agg #[.int .i64 c.id, .int .i64 c.kind, .int .i64 c.area])
        by_cases h1 : c.id = id
        · have e1 : (c.id == id) = true := by simp [h1]
          have H1 : Hid (idE (.b c) = id) := h1
          clear h1 hxr
          go_wp2_with (go_at_call 64; go_must (refine (cBnd_any _ _ _ _).mono ?_); rintro e w2 ⟨rfl, hb2⟩)
          go_region
          have hb3 := ((hb2.alloc hb2.size (.cells #[.int .i64 c.id, .int .i64 c.kind, .int .i64 c.area] 29)).drew)
          have HB3 := Lib.hid (HB.out.trans (hb3.mono hsz))
          clear hb2 hb3
          go_wp2_with fail
          go_roundw
          case rel => exact ⟨k + 1, by omega, by go_num, by rw [HX.out, if_pos H1.out, lowE, max_if], by rw [HY.out, if_pos H1.out, highE, min_if], HB3.out⟩
          case measure => simp [intOf]; omega
        · have e1 : (c.id == id) = false := by simp [h1]
          have H1 : Hid (¬ idE (.b c) = id) := h1
          clear h1 hxr
          go_wp2_with (go_at_call 64; go_must (refine (cBnd_any _ _ _ _).mono ?_); rintro e w2 ⟨rfl, hb2⟩)
          go_roundw
          case rel => exact ⟨k + 1, by omega, by go_num, by rw [HX.out, if_neg H1.out], by rw [HY.out, if_neg H1.out], HB.out.trans (hb2.mono hsz)⟩
          case measure => simp [intOf]; omega
      | f id2 A2 cap2 Y =>
        have hm := m_ctx_f id2 A2 Y.length cap2
        change wr.cell? ⟨b, off + k, none⟩ = some (.iface 73 (.agg #[.int .i64 id2, .slice A2 Y.length cap2])) at c1
        have ha := as_fb (.agg #[.int .i64 id2, .slice A2 Y.length cap2])
        have ha2 := as_ff (.agg #[.int .i64 id2, .slice A2 Y.length cap2])
        have HR := Lib.hid hxr
        clear hxr
        by_cases h1 : id2 = id
        · have e1 : (id2 == id) = true := by simp [h1]
          have H1 : Hid (idE (.f id2 A2 cap2 Y) = id) := h1
          clear h1
          go_wp2_with (go_at_call 65; go_must (refine (cFnd_any _ _ _ _ _).mono ?_); rintro e w2 ⟨rfl, hb2⟩)
          have hb3 := hb2.alloc hb2.size (.cells #[.int .i64 id2, .slice A2 Y.length cap2] 73)
          have hry := HR.out.1.below hb3
          have hly := HR.out.2
          have HB3 := Lib.hid (HB.out.trans (hb3.mono hsz))
          clear hb2 hb3
          go_loop [6, 42] (fun a i => ∃ j : Nat, j ≤ Y.length ∧ i = .int .i64 j ∧ a = .int .i64 (maxF (fun _ => true) (fun y => y) (Y.take j) lo)) (fun _ i => Y.length - (intOf i).toNat)
          case atStart => exact ⟨0, Nat.zero_le _, rfl, rfl⟩
          case round =>
            obtain ⟨j, hj, rfl, rfl⟩ := hrel
            by_cases hlt2 : j < Y.length
            · obtain ⟨b3, off3, hA, hbl3, hc3⟩ := hry.ints (by omega)
              subst hA
              obtain ⟨y, hy⟩ : ∃ y, Y[j]? = some y := ⟨_, List.getElem?_eq_getElem hlt2⟩
              have c3 := hc3 j y hy
              have HZ := Lib.hid (maxF_next (p := fun _ => true) (g := fun (y : Int) => y) (a := lo) hy)
              obtain ⟨m, hm2⟩ : ∃ m, m = maxF (fun _ => true) (fun (y : Int) => y) (Y.take j) lo := ⟨_, rfl⟩
              rw [← hm2] at HZ ⊢
              clear hc3 hy hm2 hry
              go_wp2_with fail
              go_round
              case rel => exact ⟨j + 1, by omega, by go_num, by rw [HZ.out, if_pos rfl, max_if]⟩
              case measure => simp [intOf]; omega
            · have hjl : j = Y.length := by omega
              have HJ := Lib.hid hjl
              clear hjl hry
              go_wp2_with fail
              go_roundw
              case rel => exact ⟨k + 1, by omega, by go_num, by rw [HX.out, if_pos H1.out, lowE, HJ.out, List.take_length], by rw [HY.out, if_pos H1.out, highE], HB3.out⟩
              case measure => simp [intOf]; omega
        · have e1 : (id2 == id) = false := by simp [h1]
          have H1 : Hid (¬ idE (.f id2 A2 cap2 Y) = id) := h1
          clear h1
          go_wp2_with (go_at_call 65; go_must (refine (cFnd_any _ _ _ _ _).mono ?_); rintro e w2 ⟨rfl, hb2⟩)
          go_roundw
          case rel => exact ⟨k + 1, by omega, by go_num, by rw [HX.out, if_neg H1.out], by rw [HY.out, if_neg H1.out], HB.out.trans (hb2.mono hsz)⟩
          case measure => simp [intOf]; omega
    · have hkl : k = L.length := by omega
      have HK := Lib.hid hkl
      clear hkl
      go_wp2_with fail
      go_ret2
      refine ⟨?_, hb⟩
      rw [HK.out, List.take_length]
      rfl
end Go.Proofs.Ytjmbbepklofodaa
