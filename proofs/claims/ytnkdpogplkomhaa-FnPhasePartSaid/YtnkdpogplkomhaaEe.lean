/- Texts that lie together in one: Ev, Ew, El, Ia7. -/
import Derived.Test.YtnkdpogplkomhaaYy
import Derived.Test.YtnkdpogplkomhaaIl
import Derived.Deep.RegionHeld3
/- Evidence as the program keeps it: bounds and the years of finds behind one interface; whether it is valid. -/
namespace Go.Proofs.Ytnkdpogplkomhaa
open Go.RowKit

theorem iInE_any (n lo hi : Int) (w : World) :
    Calls Try.prog 45 #[.int .i64 n, .int .i64 lo, .int .i64 hi] w fun e w2 => e = .returned (.bool (inR n lo hi)) ∧ w = w2 := by
  go_enter Try.func45, Try.ntmps45
  go_wp2
  all_goals (go_ret; refine ⟨?_, rfl⟩; simp [inR]; try omega)

set_option maxHeartbeats 800000 in
set_option maxRecDepth 100000 in
theorem iBnd_any (a b c : Int) (w : World) :
    Calls Try.prog 138 #[.agg #[.int .i64 a, .int .i64 b, .int .i64 c]] w fun e w2 => e = .returned (.bool (okB ⟨a, b, c⟩)) ∧ Below w.heap.size w w2 := by
  have hb := (Below.refl w.heap.size w).alloc (Nat.le_refl _) (.cells #[.int .i64 a, .int .i64 b, .int .i64 c] 44)
  go_enter Try.func138, Try.ntmps138
  go_wp2_with (go_at_call 45; refine (iInE_any _ _ _ _).mono ?_; rintro e w2 ⟨rfl, rfl⟩)
  all_goals (go_ret; exact ⟨ret_bool (by simp [okB, *]), (Below.refl _ _).alloc (Nat.le_refl _) _⟩)
theorem cBnd_any (a b c : Int) (w : World) :
    Calls Try.prog 137 #[.agg #[.int .i64 a, .int .i64 b, .int .i64 c]] w fun e w2 => e = .returned (.int .i64 a) ∧ Below w.heap.size w w2 := by
  go_enter Try.func137, Try.ntmps137
  go_wp2_with fail
  go_ret
  exact ⟨rfl, (Below.refl _ _).alloc (Nat.le_refl _) _⟩
theorem cFnd_any (a : Int) (A : Option Addr) (n cap : Nat) (w : World) :
    Calls Try.prog 143 #[.agg #[.int .i64 a, .slice A n cap]] w fun e w2 => e = .returned (.int .i64 a) ∧ Below w.heap.size w w2 := by
  go_enter Try.func143, Try.ntmps143
  go_wp2_with fail
  go_ret
  exact ⟨rfl, (Below.refl _ _).alloc (Nat.le_refl _) _⟩

set_option maxHeartbeats 800000 in
set_option maxRecDepth 100000 in
theorem iFnd_any (id : Int) (A : Option Addr) (cap : Nat) (Y : List Int) (w : World) (hr : Reads w w.heap.size 1 A Y.length (cellsI Y)) (hl : Y.length ≤ 1000000000000000) :
    Calls Try.prog 144 #[.agg #[.int .i64 id, .slice A Y.length cap]] w fun e w2 => e = .returned (.bool (findOkB id Y)) ∧ Below w.heap.size w w2 := by
  have hb0 := (Below.refl w.heap.size w).alloc (Nat.le_refl _) (.cells #[.int .i64 id, .slice A Y.length cap] 146)
  have hr2 := hr.below hb0
  clear hr
  go_enter Try.func144, Try.ntmps144
  go_wp2_with fail
  go_loop [8] (fun i => ∃ k : Nat, k ≤ Y.length ∧ i = .int .i64 k ∧ ∀ j (hj : j < Y.length), j < k → inR Y[j] 0 999 = true) (fun i => Y.length - (intOf i).toNat)
  case atStart => exact ⟨0, Nat.zero_le _, rfl, fun j _ h => absurd h (by omega)⟩
  case round =>
    obtain ⟨k, hk, rfl, hg⟩ := hrel
    have HG := Lib.hid hg
    clear hg
    by_cases hlt : k < Y.length
    · obtain ⟨b, off, hA, hbl, hc⟩ := hr2.ints (by omega)
      subst hA
      have hk0 : Y[k]? = some Y[k] := List.getElem?_eq_getElem hlt
      have c1 := hc k _ hk0
      have HK := Lib.hid hk0
      have HB := Lib.hid hb0
      clear hr2 hk0 hc hb0
      cases h1 : inR Y[k] 0 999
      · have H1 := Lib.hid h1
        go_wp2_with (go_at_call 45; go_must (refine (iInE_any _ _ _ _).mono ?_); rintro e w2 ⟨rfl, rfl⟩)
        go_ret
        exact ⟨ret_bool (findOk_no HK.out H1.out).symm, HB.out⟩
      · have H1 := Lib.hid h1
        go_wp2_with (go_at_call 45; go_must (refine (iInE_any _ _ _ _).mono ?_); rintro e w2 ⟨rfl, rfl⟩)
        go_round
        case rel =>
          refine ⟨k + 1, by omega, by go_num, fun j hj hjk => ?_⟩
          by_cases hj2 : j < k
          · exact HG.out j hj hj2
          · obtain rfl : j = k := by omega
            exact H1.out
        case measure => simp [intOf]; omega
    · have hkl : k = Y.length := by omega
      have HK := Lib.hid hkl
      have HB := Lib.hid hb0
      clear hkl hr2 hb0
      go_wp2_with (go_at_call 45; go_must (refine (iInE_any _ _ _ _).mono ?_); rintro e w2 ⟨rfl, rfl⟩)
      go_ret
      refine ⟨ret_bool ?_, HB.out⟩
      have : Y.all (fun y => inR y 0 999) = true := by
        rw [List.all_eq_true]
        intro y hy
        obtain ⟨j, hj, rfl⟩ := List.getElem_of_mem hy
        exact HG.out j hj (by have := HK.out; omega)
      simp [findOkB, this]

/-- A piece of evidence: a bound, or the years of finds and the slice that holds them. -/
inductive Ev
  | b (c : Ctx)
  | f (id : Int) (A : Option Addr) (cap : Nat) (Y : List Int)
def encE : Ev → Value
  | .b c => .iface 44 (.agg #[.int .i64 c.id, .int .i64 c.kind, .int .i64 c.area])
  | .f id A cap Y => .iface 146 (.agg #[.int .i64 id, .slice A Y.length cap])
def okE : Ev → Bool
  | .b c => okB c
  | .f id _ _ Y => findOkB id Y
def EvR (w : World) (B : Nat) : Ev → Prop
  | .b _ => True
  | .f _ A _ Y => Reads w B 1 A Y.length (cellsI Y) ∧ Y.length ≤ 1000000000000000
theorem EvR.below {w w2 : World} {B : Nat} {e : Ev} (h : EvR w B e) (hb : Below B w w2) : EvR w2 B e := by
  cases e with
  | b c => trivial
  | f id A cap Y => exact ⟨h.1.below hb, h.2⟩
theorem EvR.more {w : World} {B B2 : Nat} {e : Ev} (h : EvR w B e) (hb : B ≤ B2) : EvR w B2 e := by
  cases e with
  | b c => trivial
  | f id A cap Y => exact ⟨h.1.more hb, h.2⟩
theorem EvR.step {w w2 : World} {e : Ev} (h : EvR w w.heap.size e) (hb : Below w.heap.size w w2) : EvR w2 w2.heap.size e := (h.below hb).more hb.size
theorem evs_cell {w : World} {B : Nat} {A : Option Addr} {L : List Ev} (h : Reads w B 1 A L.length (L.map encE)) (hn : 0 < L.length) : ∃ b off, A = some ⟨b, off, none⟩ ∧ b < B ∧ ∀ k e, L[k]? = some e → w.cell? ⟨b, off + k, none⟩ = some (encE e) := by
  obtain ⟨b, off, e, hb, hc⟩ := h.2 hn
  exact ⟨b, off, e, hb, fun k x hk => hc k _ (by simp [hk])⟩
theorem m_valid_b (c : Ctx) (w : World) : (method 285 44 (.agg #[.int .i64 c.id, .int .i64 c.kind, .int .i64 c.area]) "loop.example/excavation/impl.valid").run Try.prog w = .ok (138, .agg #[.int .i64 c.id, .int .i64 c.kind, .int .i64 c.area]) w := by kernel_rfl
theorem m_valid_f (id : Int) (A : Option Addr) (n cap : Nat) (w : World) : (method 285 146 (.agg #[.int .i64 id, .slice A n cap]) "loop.example/excavation/impl.valid").run Try.prog w = .ok (144, .agg #[.int .i64 id, .slice A n cap]) w := by kernel_rfl

theorem evs_no {L : List Ev} {k : Nat} {x : Ev} (hx : L[k]? = some x) (h : okE x = false) : L.all okE = false := by
  rw [List.all_eq_false]
  exact ⟨x, List.mem_of_getElem? hx, by simp [h]⟩
theorem evs_up {L : List Ev} {k : Nat} {x : Ev} (hx : L[k]? = some x) (h : okE x = true) (hg : ∀ j (hj : j < L.length), j < k → okE L[j] = true) : ∀ j (hj : j < L.length), j < k + 1 → okE L[j] = true := by
  intro j hj hjk
  by_cases hj2 : j < k
  · exact hg j hj hj2
  · obtain rfl : j = k := by omega
    rw [(List.getElem?_eq_some_iff.1 hx).2]
    exact h

set_option maxHeartbeats 1600000 in
set_option maxRecDepth 100000 in
theorem evsValid_any (A : Option Addr) (cap : Nat) (L : List Ev) (w : World) (hr : Reads w w.heap.size 1 A L.length (L.map encE)) (hev : ∀ e ∈ L, EvR w w.heap.size e) (hl : L.length ≤ 1000000000000000) :
    Calls Try.prog 54 #[.slice A L.length cap] w fun e w2 => e = .returned (.bool (L.all okE)) ∧ Below w.heap.size w w2 := by
  have HEV := Lib.hid hev
  clear hev
  go_enter Try.func54, Try.ntmps54
  go_wp2_with fail
  go_loopw [7] (fun i wr => ∃ k : Nat, k ≤ L.length ∧ i = .int .i64 k ∧ Below w.heap.size w wr ∧ ∀ j (hj : j < L.length), j < k → okE L[j] = true) (fun i _ => L.length - (intOf i).toNat)
  case atStart => exact ⟨0, Nat.zero_le _, rfl, Below.refl _ _, fun j _ h => absurd h (by omega)⟩
  case round =>
    obtain ⟨k, hk, rfl, hb, hg⟩ := hrel
    have HG := Lib.hid hg; clear hg
    by_cases hlt : k < L.length
    · obtain ⟨b, off, hA, hbl, hc⟩ := evs_cell (hr.below hb) (by omega)
      subst hA
      obtain ⟨x, hx⟩ : ∃ x, L[k]? = some x := ⟨_, List.getElem?_eq_getElem hlt⟩
      have c1 := hc k x hx
      have hxr := (HEV.out x (List.mem_of_getElem? hx)).step hb
      have HK := Lib.hid hx
      have HB := Lib.hid hb
      have hsz := hb.size
      clear hr hc hx hb
      cases x with
      | b c =>
        have hm := m_valid_b c
        change wr.cell? ⟨b, off + k, none⟩ = some (.iface 44 (.agg #[.int .i64 c.id, .int .i64 c.kind, .int .i64 c.area])) at c1
        cases h1 : okB c
        · have HO := Lib.hid h1
          have e1 : okB ⟨c.id, c.kind, c.area⟩ = false := h1
          clear h1 hxr
          go_wp2_with (go_at_call 138; go_must (refine (iBnd_any _ _ _ _).mono ?_); rintro e w2 ⟨rfl, hb2⟩)
          go_ret
          exact ⟨ret_bool (evs_no HK.out HO.out).symm, HB.out.trans (hb2.mono hsz)⟩
        · have HO := Lib.hid h1
          have e1 : okB ⟨c.id, c.kind, c.area⟩ = true := h1
          clear h1 hxr
          go_wp2_with (go_at_call 138; go_must (refine (iBnd_any _ _ _ _).mono ?_); rintro e w2 ⟨rfl, hb2⟩)
          go_roundw
          case rel => exact ⟨k + 1, by omega, by go_num, HB.out.trans (hb2.mono hsz), evs_up HK.out HO.out HG.out⟩
          case measure => simp [intOf]; omega
      | f id A2 cap2 Y =>
        have hm := m_valid_f id A2 Y.length cap2
        change wr.cell? ⟨b, off + k, none⟩ = some (.iface 146 (.agg #[.int .i64 id, .slice A2 Y.length cap2])) at c1
        have HR := Lib.hid hxr
        clear hxr
        cases h1 : findOkB id Y
        · have HO := Lib.hid h1
          go_wp2_with (go_at_call 144; go_must (refine (iFnd_any _ _ _ _ _ HR.out.1 HR.out.2).mono ?_); rintro e w2 ⟨rfl, hb2⟩)
          go_ret
          exact ⟨ret_bool (evs_no HK.out HO.out).symm, HB.out.trans (hb2.mono hsz)⟩
        · have HO := Lib.hid h1
          go_wp2_with (go_at_call 144; go_must (refine (iFnd_any _ _ _ _ _ HR.out.1 HR.out.2).mono ?_); rintro e w2 ⟨rfl, hb2⟩)
          go_roundw
          case rel => exact ⟨k + 1, by omega, by go_num, HB.out.trans (hb2.mono hsz), evs_up HK.out HO.out HG.out⟩
          case measure => simp [intOf]; omega
    · have hkl : k = L.length := by omega
      have HK := Lib.hid hkl
      clear hkl
      go_wp2_with fail
      go_ret
      refine ⟨ret_bool ?_, hb⟩
      symm
      rw [List.all_eq_true]
      intro e he
      obtain ⟨j, hj, rfl⟩ := List.getElem_of_mem he
      exact HG.out j hj (by have := HK.out; omega)
end Go.Proofs.Ytnkdpogplkomhaa

/- The years that evidence leaves to a context. -/
namespace Go.Proofs.Ytnkdpogplkomhaa
open Go.RowKit

def idE : Ev → Int
  | .b c => c.id
  | .f id _ _ _ => id
def lowE : Ev → Int → Int
  | .b c, a => max a c.kind
  | .f _ _ _ Y, a => maxF (fun _ => true) (fun y => y) Y a
def highE : Ev → Int → Int
  | .b c, a => min a c.area
  | .f .., a => a
def lowsE (id : Int) (L : List Ev) (a : Int) : Int := L.foldl (fun a e => if idE e = id then lowE e a else a) a
def highsE (id : Int) (L : List Ev) (a : Int) : Int := L.foldl (fun a e => if idE e = id then highE e a else a) a
theorem lowsE_next {id a : Int} {L : List Ev} {k : Nat} {x : Ev} (hk : L[k]? = some x) : lowsE id (L.take (k + 1)) a = if idE x = id then lowE x (lowsE id (L.take k) a) else lowsE id (L.take k) a := by
  rw [List.take_add_one, hk, lowsE, List.foldl_append]
  rfl
theorem highsE_next {id a : Int} {L : List Ev} {k : Nat} {x : Ev} (hk : L[k]? = some x) : highsE id (L.take (k + 1)) a = if idE x = id then highE x (highsE id (L.take k) a) else highsE id (L.take k) a := by
  rw [List.take_add_one, hk, highsE, List.foldl_append]
  rfl
theorem m_ctx_b (c : Ctx) (w : World) : (method 285 44 (.agg #[.int .i64 c.id, .int .i64 c.kind, .int .i64 c.area]) "loop.example/excavation/impl.context").run Try.prog w = .ok (137, .agg #[.int .i64 c.id, .int .i64 c.kind, .int .i64 c.area]) w := by kernel_rfl
theorem m_ctx_f (id : Int) (A : Option Addr) (n cap : Nat) (w : World) : (method 285 146 (.agg #[.int .i64 id, .slice A n cap]) "loop.example/excavation/impl.context").run Try.prog w = .ok (143, .agg #[.int .i64 id, .slice A n cap]) w := by kernel_rfl
theorem as_bb (v : Value) (w : World) : (Instr.typeAssert (.iface 44 v) 133 44 true).run Try.prog w = .ok (.tuple #[v, .bool true]) w := by kernel_rfl
theorem as_fb (v : Value) (w : World) : (Instr.typeAssert (.iface 146 v) 133 44 true).run Try.prog w = .ok (.tuple #[.agg #[.int .i64 0, .int .i64 0, .int .i64 0], .bool false]) w := by kernel_rfl
theorem as_ff (v : Value) (w : World) : (Instr.typeAssert (.iface 146 v) 133 146 true).run Try.prog w = .ok (.tuple #[v, .bool true]) w := by kernel_rfl

set_option maxHeartbeats 3000000 in
set_option maxRecDepth 100000 in
theorem yearsLeft_any (A : Option Addr) (cap : Nat) (L : List Ev) (id : Int) (w : World) (hr : Reads w w.heap.size 1 A L.length (L.map encE)) (hev : ∀ e ∈ L, EvR w w.heap.size e) (hl : L.length ≤ 1000000000000000) :
    Calls Try.prog 78 #[.slice A L.length cap, .int .i64 id] w fun e w2 => e = .returned (.tuple #[.int .i64 (lowsE id L 0), .int .i64 (highsE id L 999)]) ∧ Below w.heap.size w w2 := by
  have HEV := Lib.hid hev
  clear hev
  go_enter Try.func78, Try.ntmps78
  go_wp2_with fail
  go_loopw [6, 7, 16] (fun a b i wr => ∃ k : Nat, k ≤ L.length ∧ i = .int .i64 k ∧ a = .int .i64 (lowsE id (L.take k) 0) ∧ b = .int .i64 (highsE id (L.take k) 999) ∧ Below w.heap.size w wr) (fun _ _ i _ => L.length - (intOf i).toNat)
  case atStart => exact ⟨0, Nat.zero_le _, rfl, rfl, rfl, Below.refl _ _⟩
  case round =>
    obtain ⟨k, hk, rfl, rfl, rfl, hb⟩ := hrel
    by_cases hlt : k < L.length
    · obtain ⟨b, off, hA, hbl, hc⟩ := evs_cell (hr.below hb) (by omega)
      subst hA
      obtain ⟨x, hx⟩ : ∃ x, L[k]? = some x := ⟨_, List.getElem?_eq_getElem hlt⟩
      have c1 := hc k x hx
      have hxr := (HEV.out x (List.mem_of_getElem? hx)).step hb
      have HX := Lib.hid (lowsE_next (id := id) (a := 0) hx)
      have HY := Lib.hid (highsE_next (id := id) (a := 999) hx)
      obtain ⟨lo, hlo⟩ : ∃ lo, lo = lowsE id (L.take k) 0 := ⟨_, rfl⟩
      obtain ⟨hi, hhi⟩ : ∃ hi, hi = highsE id (L.take k) 999 := ⟨_, rfl⟩
      rw [← hlo] at HX ⊢
      rw [← hhi] at HY ⊢
      have HB := Lib.hid hb
      have hsz := hb.size
      clear hr hc hx hb hlo hhi
      cases x with
      | b c =>
        have hm := m_ctx_b c
        change wr.cell? ⟨b, off + k, none⟩ = some (.iface 44 (.agg #[.int .i64 c.id, .int .i64 c.kind, .int .i64 c.area])) at c1
        have ha := as_bb (.agg #[.int .i64 c.id, .int .i64 c.kind, .int .i64 c.area])
        by_cases h1 : c.id = id
        · have e1 : (c.id == id) = true := by simp [h1]
          have H1 : Hid (idE (.b c) = id) := h1
          clear h1 hxr
          go_wp2_with (go_at_call 137; go_must (refine (cBnd_any _ _ _ _).mono ?_); rintro e w2 ⟨rfl, hb2⟩)
          go_region
          have hb3 := ((hb2.alloc hb2.size (.cells #[.int .i64 c.id, .int .i64 c.kind, .int .i64 c.area] 44)).drew)
          have HB3 := Lib.hid (HB.out.trans (hb3.mono hsz))
          clear hb2 hb3
          go_wp2_with fail
          go_roundw
          case rel => exact ⟨k + 1, by omega, by go_num, by rw [HX.out, if_pos H1.out, lowE, max_if], by rw [HY.out, if_pos H1.out, highE, min_if], HB3.out⟩
          case measure => simp [intOf]; omega
        · have e1 : (c.id == id) = false := by simp [h1]
          have H1 : Hid (¬ idE (.b c) = id) := h1
          clear h1 hxr
          go_wp2_with (go_at_call 137; go_must (refine (cBnd_any _ _ _ _).mono ?_); rintro e w2 ⟨rfl, hb2⟩)
          go_roundw
          case rel => exact ⟨k + 1, by omega, by go_num, by rw [HX.out, if_neg H1.out], by rw [HY.out, if_neg H1.out], HB.out.trans (hb2.mono hsz)⟩
          case measure => simp [intOf]; omega
      | f id2 A2 cap2 Y =>
        have hm := m_ctx_f id2 A2 Y.length cap2
        change wr.cell? ⟨b, off + k, none⟩ = some (.iface 146 (.agg #[.int .i64 id2, .slice A2 Y.length cap2])) at c1
        have ha := as_fb (.agg #[.int .i64 id2, .slice A2 Y.length cap2])
        have ha2 := as_ff (.agg #[.int .i64 id2, .slice A2 Y.length cap2])
        have HR := Lib.hid hxr
        clear hxr
        by_cases h1 : id2 = id
        · have e1 : (id2 == id) = true := by simp [h1]
          have H1 : Hid (idE (.f id2 A2 cap2 Y) = id) := h1
          clear h1
          go_wp2_with (go_at_call 143; go_must (refine (cFnd_any _ _ _ _ _).mono ?_); rintro e w2 ⟨rfl, hb2⟩)
          have hb3 := hb2.alloc hb2.size (.cells #[.int .i64 id2, .slice A2 Y.length cap2] 146)
          have hry := HR.out.1.below hb3
          have hly := HR.out.2
          have HB3 := Lib.hid (HB.out.trans (hb3.mono hsz))
          clear hb2 hb3
          go_loop [6, 42] (fun a i => ∃ j : Nat, j ≤ Y.length ∧ i = .int .i64 j ∧ a = .int .i64 (maxF (fun _ => true) (fun y => y) (Y.take j) lo)) (fun _ i => Y.length - (intOf i).toNat)
          case atStart => exact ⟨0, Nat.zero_le _, rfl, rfl⟩
          case round =>
            obtain ⟨j, hj, rfl, rfl⟩ := hrel
            by_cases hlt2 : j < Y.length
            · obtain ⟨b3, off3, hA, hbl3, hc3⟩ := hry.ints (by omega)
              subst hA
              obtain ⟨y, hy⟩ : ∃ y, Y[j]? = some y := ⟨_, List.getElem?_eq_getElem hlt2⟩
              have c3 := hc3 j y hy
              have HZ := Lib.hid (maxF_next (p := fun _ => true) (g := fun (y : Int) => y) (a := lo) hy)
              obtain ⟨m, hm2⟩ : ∃ m, m = maxF (fun _ => true) (fun (y : Int) => y) (Y.take j) lo := ⟨_, rfl⟩
              rw [← hm2] at HZ ⊢
              clear hc3 hy hm2 hry
              go_wp2_with fail
              go_round
              case rel => exact ⟨j + 1, by omega, by go_num, by rw [HZ.out, if_pos rfl, max_if]⟩
              case measure => simp [intOf]; omega
            · have hjl : j = Y.length := by omega
              have HJ := Lib.hid hjl
              clear hjl hry
              go_wp2_with fail
              go_roundw
              case rel => exact ⟨k + 1, by omega, by go_num, by rw [HX.out, if_pos H1.out, lowE, HJ.out, List.take_length], by rw [HY.out, if_pos H1.out, highE], HB3.out⟩
              case measure => simp [intOf]; omega
        · have e1 : (id2 == id) = false := by simp [h1]
          have H1 : Hid (¬ idE (.f id2 A2 cap2 Y) = id) := h1
          clear h1
          go_wp2_with (go_at_call 143; go_must (refine (cFnd_any _ _ _ _ _).mono ?_); rintro e w2 ⟨rfl, hb2⟩)
          go_roundw
          case rel => exact ⟨k + 1, by omega, by go_num, by rw [HX.out, if_neg H1.out], by rw [HY.out, if_neg H1.out], HB.out.trans (hb2.mono hsz)⟩
          case measure => simp [intOf]; omega
    · have hkl : k = L.length := by omega
      have HK := Lib.hid hkl
      clear hkl
      go_wp2_with fail
      go_ret2
      refine ⟨?_, hb⟩
      rw [HK.out, List.take_length]
      rfl
end Go.Proofs.Ytnkdpogplkomhaa

/- A list of bounds as evidence; the years that bounds alone leave, and that finds alone leave. -/
namespace Go.Proofs.Ytnkdpogplkomhaa
open Go.RowKit

theorem infoEv : (Try.prog.info? 133).map (fun i => (i.zero, i.size, i.bytes)) = some (some .nilIface, 1, 16) := by kernel_rfl
/-- A row of which the first k places are laid. -/
def fillV (z : Value) (vs : List Value) (k : Nat) : List Value := vs.take k ++ List.replicate (vs.length - k) z
theorem fillV_at {z : Value} {vs : List Value} {k : Nat} (hk : k < vs.length) : (fillV z vs k)[k]? = some z := by
  unfold fillV
  rw [List.getElem?_append_right (by simp; omega), List.length_take, Nat.min_eq_left (by omega), Nat.sub_self, List.getElem?_replicate, if_pos (by omega)]
theorem fillV_set {z : Value} {vs : List Value} {k : Nat} {x : Value} (hx : vs[k]? = some x) : (fillV z vs k).set k x = fillV z vs (k+1) := by
  have hk : k < vs.length := (List.getElem?_eq_some_iff.1 hx).1
  unfold fillV
  rw [List.set_append_right _ _ (by simp; omega), List.length_take, Nat.min_eq_left (by omega), Nat.sub_self, List.take_add_one, hx]
  rw [show vs.length - k = (vs.length - (k+1)) + 1 from by omega, List.replicate_succ, List.set_cons_zero]
  simp only [Option.toList, List.append_assoc, List.cons_append, List.nil_append]
theorem fillV_all (z : Value) (vs : List Value) : fillV z vs vs.length = vs := by simp [fillV]
theorem zero_ifaces (n : Nat) : (madeCells (Value.nilIface).cells (n * 1)).toList = List.replicate n Value.nilIface := by
  refine List.ext_getElem? fun i => ?_
  by_cases hi : i < n
  · simp [madeCells, hi, Value.cells, Nat.mod_one]
  · simp [madeCells, hi]
def evB (l : List Ctx) : List Value := (l.map Ev.b).map encE
theorem evB_len (l : List Ctx) : (evB l).length = l.length := by simp [evB]
theorem evB_at {l : List Ctx} {k : Nat} {c : Ctx} (h : l[k]? = some c) : (evB l)[k]? = some (.iface 44 (.agg #[.int .i64 c.id, .int .i64 c.kind, .int .i64 c.area])) := by
  unfold evB
  rw [List.getElem?_map, List.getElem?_map, h]
  rfl
def EvsPost (w : World) (l : List Ctx) (e : Ending) (w2 : World) : Prop :=
  ∃ A cap, e = .returned (.slice A l.length cap) ∧ Below w.heap.size w w2 ∧ Reads w2 w2.heap.size 1 A l.length (evB l)

set_option maxHeartbeats 3000000 in
set_option maxRecDepth 100000 in
theorem evs_any (A : Option Addr) (cap : Nat) (l : List Ctx) (w : World) (hr : Reads w w.heap.size 3 A l.length (cellsC l)) (hl : l.length ≤ 1000000) :
    Calls Try.prog 55 #[.slice A l.length cap] w (EvsPost w l) := by
  obtain ⟨i0, hi0, hz0, hz1, hz2⟩ := info_parts infoEv
  have HR := Lib.hid hr
  clear hr
  go_enter Try.func55, Try.ntmps55
  go_wp2_with (at_make
               go_must (refine wpList_make_full _ rfl (.tmp 7) (.tmp 7) _ rfl w.heap.size 133 i0 _ 1 Try.underlying91 hi0 hz0 hz1 _ _ _ _ l.length rfl rfl rfl rfl (by rw [hz2]; omega) (by simp only [maxLen]; omega) (Nat.le_refl _) ?_)
               intro w5 hown hg5)
  rw [zero_ifaces] at hown
  have hb5 : Below w.heap.size w w5 := (Below.refl _ _).grown hg5 (Nat.le_refl _) (fun k hk => by cases hk)
  have H5 := Lib.hid (And.intro hb5 hown)
  clear hown hg5 hb5
  go_loopw [11] (fun i wr => ∃ k : Nat, k ≤ l.length ∧ i = .int .i64 k ∧ Below w.heap.size w wr ∧ wr.ownsRow w.heap.size 133 1 (.slice (some ⟨w.heap.size, 0, none⟩) l.length l.length) l.length (fillV .nilIface (evB l) k)) (fun i _ => l.length - (intOf i).toNat)
  case atStart => exact ⟨0, Nat.zero_le _, rfl, H5.out.1, by have := H5.out.2; simpa [fillV, evB_len] using this⟩
  case round =>
    obtain ⟨k, hk, rfl, hb, hown⟩ := hrel
    have hsz := hb.size
    by_cases hlt : k < l.length
    · obtain ⟨b, off, hA, hbl, hc⟩ := (HR.out.below hb).ctx (by omega)
      subst hA
      obtain ⟨c, hc0⟩ : ∃ c, l[k]? = some c := ⟨_, List.getElem?_eq_getElem hlt⟩
      obtain ⟨c1, c2, c3⟩ := hc k c hc0
      have hzc := (hown.cellAt k (by omega)).trans (fillV_at (by rw [evB_len]; exact hlt))
      have hzf := hown.frozenAt k
      have hol := (hown.lt _ rfl).2
      have HX := Lib.hid (And.intro hb (And.intro hown (evB_at hc0)))
      clear hc hc0 hb hown
      go_wp2_with fail
      go_roundw
      case rel =>
        refine ⟨k + 1, by omega, by go_num, ?_, ?_⟩
        · exact (HX.out.1.setCell (by simp) _).alloc (by simpa [World.setCell] using hsz) _
        · have h9 := (HX.out.2.1.stored k (.iface 44 (.agg #[.int .i64 c.id, .int .i64 c.kind, .int .i64 c.area]))).1
          rw [fillV_set HX.out.2.2] at h9
          exact h9.alloc _
      case measure => simp [intOf]; omega
    · have hkl : k = l.length := by omega
      have HK := Lib.hid hkl
      have HX := Lib.hid (And.intro hb hown)
      clear hkl hb hown
      go_wp2_with fail
      go_ret
      refine ⟨_, _, rfl, HX.out.1, ?_⟩
      have h9 := own_reads HX.out.2
      rw [HK.out, ← evB_len l, fillV_all] at h9
      rw [evB_len] at h9
      exact h9
/-- Bounds as evidence are valid where the bounds are. -/
theorem all_b (l : List Ctx) : (l.map Ev.b).all okE = l.all okB := by
  rw [List.all_map]
  rfl
theorem low_b (l : List Ctx) (id a : Int) : lowsE id (l.map Ev.b) a = maxF (ofB id) Ctx.kind l a := by
  unfold lowsE maxF
  rw [List.foldl_map]
  congr 1
  funext a c
  show (if c.id = id then max a c.kind else a) = _
  by_cases h : c.id = id
  · rw [if_pos h, if_pos (by simp [ofB, h])]
  · rw [if_neg h, if_neg (by simp [ofB, h])]
theorem high_b (l : List Ctx) (id a : Int) : highsE id (l.map Ev.b) a = minF (ofB id) Ctx.area l a := by
  unfold highsE minF
  rw [List.foldl_map]
  congr 1
  funext a c
  show (if c.id = id then min a c.area else a) = _
  by_cases h : c.id = id
  · rw [if_pos h, if_pos (by simp [ofB, h])]
  · rw [if_neg h, if_neg (by simp [ofB, h])]
theorem ev_b {w : World} {B : Nat} (l : List Ctx) : ∀ e ∈ l.map Ev.b, EvR w B e := by
  intro e he
  obtain ⟨c, _, rfl⟩ := List.mem_map.1 he
  trivial
theorem evsB_valid (A : Option Addr) (cap : Nat) (l : List Ctx) (w : World) (hr : Reads w w.heap.size 1 A l.length (evB l)) (hl : l.length ≤ 1000000) :
    Calls Try.prog 54 #[.slice A l.length cap] w fun e w2 => e = .returned (.bool (l.all okB)) ∧ Below w.heap.size w w2 := by
  have h := evsValid_any A cap (l.map Ev.b) w (by rw [List.length_map]; exact hr) (ev_b l) (by rw [List.length_map]; omega)
  rw [List.length_map, all_b] at h
  exact h
theorem evsB_years (A : Option Addr) (cap : Nat) (l : List Ctx) (id : Int) (w : World) (hr : Reads w w.heap.size 1 A l.length (evB l)) (hl : l.length ≤ 1000000) :
    Calls Try.prog 78 #[.slice A l.length cap, .int .i64 id] w fun e w2 => e = .returned (.tuple #[.int .i64 (lowB l id), .int .i64 (highB l id)]) ∧ Below w.heap.size w w2 := by
  have h := yearsLeft_any A cap (l.map Ev.b) id w (by rw [List.length_map]; exact hr) (ev_b l) (by rw [List.length_map]; omega)
  rw [List.length_map, low_b, high_b] at h
  exact h
end Go.Proofs.Ytnkdpogplkomhaa

/- Whether the program finds bounds valid, and the years that they leave. -/
namespace Go.Proofs.Ytnkdpogplkomhaa
open Go.RowKit

set_option maxHeartbeats 800000 in
set_option maxRecDepth 100000 in
theorem iBoundsValid_any (A : Option Addr) (cap : Nat) (l : List Ctx) (w : World) (hr : Reads w w.heap.size 3 A l.length (cellsC l)) (hl : l.length ≤ 1000000000000000) :
    Calls Try.prog 18 #[.slice A l.length cap] w fun e w2 => e = .returned (.bool (validB l)) ∧ Below w.heap.size w w2 := by
  by_cases h : l.length ≤ 12
  · have HV : Hid (validB l = l.all okB) := by show validB l = l.all okB; simp [validB, h]
    go_enter Try.func18, Try.ntmps18
    go_wp2_with (first
      | (go_at_call 55; go_must (refine (evs_any _ _ l _ hr (by omega)).mono ?_); rintro e w2 ⟨A2, cap2, rfl, hb2, hr2⟩)
      | (go_at_call 54; go_must (refine (evsB_valid _ _ l _ hr2 (by omega)).mono ?_); rintro e w3 ⟨rfl, hb3⟩))
    go_ret
    exact ⟨ret_bool HV.out.symm, below_step hb2 hb3⟩
  · have HV := Lib.hid (validB_long (L := l) (by omega))
    go_enter Try.func18, Try.ntmps18
    go_wp2_with fail
    go_ret
    exact ⟨ret_bool HV.out.symm, Below.refl _ _⟩

set_option maxHeartbeats 2000000 in
set_option maxRecDepth 100000 in
theorem iBoundsOf_any (A : Option Addr) (cap : Nat) (l : List Ctx) (id : Int) (w : World) (hr : Reads w w.heap.size 3 A l.length (cellsC l)) (hl : l.length ≤ 1000000000000000) :
    Calls Try.prog 44 #[.slice A l.length cap, .int .i64 id] w fun e w2 => e = .returned (.tuple #[.int .i64 (boundsLowG l id), .int .i64 (boundsHighG l id), .bool (boundsOkG l id)]) ∧ Below w.heap.size w w2 := by
  have hv := iBoundsValid_any A cap l w hr hl
  have HR := Lib.hid hr
  clear hr
  cases h1 : validB l
  · have HG : Hid (boundsOkG l id = false) := by show boundsOkG l id = false; simp [boundsOkG, h1]
    rw [h1] at hv
    go_enter Try.func44, Try.ntmps44
    go_wp2_with (first
      | (go_at_call 18; go_must (refine hv.mono ?_); rintro e w3 ⟨rfl, hb3⟩))
    go_ret3
    exact ⟨by simp [boundsLowG, boundsHighG, HG.out], hb3⟩
  · have h12 := (validB_ok h1).2
    rw [h1] at hv
    cases h2 : inR id 1 99
    · have HG : Hid (boundsOkG l id = false) := by show boundsOkG l id = false; simp [boundsOkG, h2]
      go_enter Try.func44, Try.ntmps44
      go_wp2_with (first
        | (go_at_call 18; go_must (refine hv.mono ?_); rintro e w3 ⟨rfl, hb3⟩)
        | (go_at_call 45; refine (iInE_any _ _ _ _).mono ?_; rintro e w4 ⟨rfl, rfl⟩))
      go_ret3
      exact ⟨by simp [boundsLowG, boundsHighG, HG.out], hb3⟩
    · by_cases h3 : lowB l id ≤ highB l id
      · have HG : Hid (boundsOkG l id = true) := by show boundsOkG l id = true; simp [boundsOkG, h1, h2, h3]
        have e3 : decide (highB l id < lowB l id) = false := decide_eq_false (by omega)
        clear h3
        go_enter Try.func44, Try.ntmps44
        go_wp2_with (first
          | (go_at_call 18; go_must (refine hv.mono ?_); rintro e w3 ⟨rfl, hb3⟩)
          | (go_at_call 45; refine (iInE_any _ _ _ _).mono ?_; rintro e w4 ⟨rfl, rfl⟩)
          | (go_at_call 55; go_must (refine (evs_any _ _ l _ (HR.out.step hb3) (by omega)).mono ?_); rintro e w5 ⟨A5, cap5, rfl, hb5, hr5⟩)
          | (go_at_call 78; go_must (refine (evsB_years _ _ l id _ hr5 (by omega)).mono ?_); rintro e w6 ⟨rfl, hb6⟩))
        go_ret3
        exact ⟨by simp [boundsLowG, boundsHighG, HG.out], below_step (below_step hb3 hb5) hb6⟩
      · have HG : Hid (boundsOkG l id = false) := by show boundsOkG l id = false; simp [boundsOkG, h3]
        have e3 : decide (highB l id < lowB l id) = true := decide_eq_true (by omega)
        clear h3
        go_enter Try.func44, Try.ntmps44
        go_wp2_with (first
          | (go_at_call 18; go_must (refine hv.mono ?_); rintro e w3 ⟨rfl, hb3⟩)
          | (go_at_call 45; refine (iInE_any _ _ _ _).mono ?_; rintro e w4 ⟨rfl, rfl⟩)
          | (go_at_call 55; go_must (refine (evs_any _ _ l _ (HR.out.step hb3) (by omega)).mono ?_); rintro e w5 ⟨A5, cap5, rfl, hb5, hr5⟩)
          | (go_at_call 78; go_must (refine (evsB_years _ _ l id _ hr5 (by omega)).mono ?_); rintro e w6 ⟨rfl, hb6⟩))
        go_ret3
        exact ⟨by simp [boundsLowG, boundsHighG, HG.out], below_step (below_step hb3 hb5) hb6⟩
end Go.Proofs.Ytnkdpogplkomhaa
