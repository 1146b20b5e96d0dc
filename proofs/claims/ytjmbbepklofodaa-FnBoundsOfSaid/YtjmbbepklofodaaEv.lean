/- Evidence as the program keeps it: bounds and the years of finds behind one interface; whether it is valid. -/
import Derived.Test.YtjmbbepklofodaaYa
import Derived.Test.YtjmbbepklofodaaYc
import Derived.Test.YtjmbbepklofodaaIl
namespace Go.Proofs.Ytjmbbepklofodaa
open Go.RowKit

theorem iIn_any (n lo hi : Int) (w : World) :
    Calls Try.prog 38 #[.int .i64 n, .int .i64 lo, .int .i64 hi] w fun e w2 => e = .returned (.bool (inR n lo hi)) ∧ w = w2 := by
  go_enter Try.func38, Try.ntmps38
  go_wp2
  all_goals (go_ret; refine ⟨?_, rfl⟩; simp [inR]; try omega)

set_option maxHeartbeats 800000 in
set_option maxRecDepth 100000 in
theorem iBnd_any (a b c : Int) (w : World) :
    Calls Try.prog 45 #[.agg #[.int .i64 a, .int .i64 b, .int .i64 c]] w fun e w2 => e = .returned (.bool (okB ⟨a, b, c⟩)) ∧ Below w.heap.size w w2 := by
  have hb := (Below.refl w.heap.size w).alloc (Nat.le_refl _) (.cells #[.int .i64 a, .int .i64 b, .int .i64 c] 29)
  go_enter Try.func45, Try.ntmps45
  go_wp2_with (go_at_call 38; refine (iIn_any _ _ _ _).mono ?_; rintro e w2 ⟨rfl, rfl⟩)
  all_goals (go_ret; exact ⟨ret_bool (by simp [okB, *]), (Below.refl _ _).alloc (Nat.le_refl _) _⟩)
theorem cBnd_any (a b c : Int) (w : World) :
    Calls Try.prog 64 #[.agg #[.int .i64 a, .int .i64 b, .int .i64 c]] w fun e w2 => e = .returned (.int .i64 a) ∧ Below w.heap.size w w2 := by
  go_enter Try.func64, Try.ntmps64
  go_wp2_with fail
  go_ret
  exact ⟨rfl, (Below.refl _ _).alloc (Nat.le_refl _) _⟩
theorem cFnd_any (a : Int) (A : Option Addr) (n cap : Nat) (w : World) :
    Calls Try.prog 65 #[.agg #[.int .i64 a, .slice A n cap]] w fun e w2 => e = .returned (.int .i64 a) ∧ Below w.heap.size w w2 := by
  go_enter Try.func65, Try.ntmps65
  go_wp2_with fail
  go_ret
  exact ⟨rfl, (Below.refl _ _).alloc (Nat.le_refl _) _⟩

set_option maxHeartbeats 800000 in
set_option maxRecDepth 100000 in
theorem iFnd_any (id : Int) (A : Option Addr) (cap : Nat) (Y : List Int) (w : World) (hr : Reads w w.heap.size 1 A Y.length (cellsI Y)) (hl : Y.length ≤ 1000000000000000) :
    Calls Try.prog 66 #[.agg #[.int .i64 id, .slice A Y.length cap]] w fun e w2 => e = .returned (.bool (findOkB id Y)) ∧ Below w.heap.size w w2 := by
  have hb0 := (Below.refl w.heap.size w).alloc (Nat.le_refl _) (.cells #[.int .i64 id, .slice A Y.length cap] 73)
  have hr2 := hr.below hb0
  clear hr
  go_enter Try.func66, Try.ntmps66
  go_wp2_with fail
  go_loop [8] (fun i => ∃ k : Nat, k ≤ Y.length ∧ i = .int .i64 k ∧ ∀ j (hj : j < Y.length), j < k → inR Y[j] 0 999 = true) (fun i => Y.length - (intOf i).toNat)
  case atStart => exact ⟨0, Nat.zero_le _, rfl, fun j _ h => absurd h (by omega)⟩
  case round =>
    obtain ⟨k, hk, rfl, hg⟩ := hrel
    have HG := Lib.hid hg
    clear hg
    by_cases hlt : k < Y.length
    · obtain ⟨b, off, hA, hbl, hc⟩ := hr2.ints (by omega)
      subst hA
      have hk0 : Y[k]? = some Y[k] := List.getElem?_eq_getElem hlt
      have c1 := hc k _ hk0
      have HK := Lib.hid hk0
      have HB := Lib.hid hb0
      clear hr2 hk0 hc hb0
      cases h1 : inR Y[k] 0 999
      · have H1 := Lib.hid h1
        go_wp2_with (go_at_call 38; go_must (refine (iIn_any _ _ _ _).mono ?_); rintro e w2 ⟨rfl, rfl⟩)
        go_ret
        exact ⟨ret_bool (findOk_no HK.out H1.out).symm, HB.out⟩
      · have H1 := Lib.hid h1
        go_wp2_with (go_at_call 38; go_must (refine (iIn_any _ _ _ _).mono ?_); rintro e w2 ⟨rfl, rfl⟩)
        go_round
        case rel =>
          refine ⟨k + 1, by omega, by go_num, fun j hj hjk => ?_⟩
          by_cases hj2 : j < k
          · exact HG.out j hj hj2
          · obtain rfl : j = k := by omega
            exact H1.out
        case measure => simp [intOf]; omega
    · have hkl : k = Y.length := by omega
      have HK := Lib.hid hkl
      have HB := Lib.hid hb0
      clear hkl hr2 hb0
      go_wp2_with (go_at_call 38; go_must (refine (iIn_any _ _ _ _).mono ?_); rintro e w2 ⟨rfl, rfl⟩)
      go_ret
      refine ⟨ret_bool ?_, HB.out⟩
      have : Y.all (fun y => inR y 0 999) = true := by
        rw [List.all_eq_true]
        intro y hy
        obtain ⟨j, hj, rfl⟩ := List.getElem_of_mem hy
        exact HG.out j hj (by have := HK.out; omega)
      simp [findOkB, this]

/-- A piece of evidence: a bound, or the years of finds and the slice that holds them. -/
inductive Ev
  | b (c : Ctx)
  | f (id : Int) (A : Option Addr) (cap : Nat) (Y : List Int)
def encE : Ev → Value
  | .b c => .iface 29 (.agg #[.int .i64 c.id, .int .i64 c.kind, .int .i64 c.area])
  | .f id A cap Y => .iface 73 (.agg #[.int .i64 id, .slice A Y.length cap])
def okE : Ev → Bool
  | .b c => okB c
  | .f id _ _ Y => findOkB id Y
def EvR (w : World) (B : Nat) : Ev → Prop
  | .b _ => True
  | .f _ A _ Y => Reads w B 1 A Y.length (cellsI Y) ∧ Y.length ≤ 1000000000000000
theorem EvR.below {w w2 : World} {B : Nat} {e : Ev} (h : EvR w B e) (hb : Below B w w2) : EvR w2 B e := by
  cases e with
  | b c => trivial
  | f id A cap Y => exact ⟨h.1.below hb, h.2⟩
theorem EvR.more {w : World} {B B2 : Nat} {e : Ev} (h : EvR w B e) (hb : B ≤ B2) : EvR w B2 e := by
  cases e with
  | b c => trivial
  | f id A cap Y => exact ⟨h.1.more hb, h.2⟩
theorem EvR.step {w w2 : World} {e : Ev} (h : EvR w w.heap.size e) (hb : Below w.heap.size w w2) : EvR w2 w2.heap.size e := (h.below hb).more hb.size
theorem evs_cell {w : World} {B : Nat} {A : Option Addr} {L : List Ev} (h : Reads w B 1 A L.length (L.map encE)) (hn : 0 < L.length) : ∃ b off, A = some ⟨b, off, none⟩ ∧ b < B ∧ ∀ k e, L[k]? = some e → w.cell? ⟨b, off + k, none⟩ = some (encE e) := by
  obtain ⟨b, off, e, hb, hc⟩ := h.2 hn
  exact ⟨b, off, e, hb, fun k x hk => hc k _ (by simp [hk])⟩
theorem m_valid_b (c : Ctx) (w : World) : (method 197 29 (.agg #[.int .i64 c.id, .int .i64 c.kind, .int .i64 c.area]) "loop.example/excavation/impl.valid").run Try.prog w = .ok (45, .agg #[.int .i64 c.id, .int .i64 c.kind, .int .i64 c.area]) w := by kernel_rfl
theorem m_valid_f (id : Int) (A : Option Addr) (n cap : Nat) (w : World) : (method 197 73 (.agg #[.int .i64 id, .slice A n cap]) "loop.example/excavation/impl.valid").run Try.prog w = .ok (66, .agg #[.int .i64 id, .slice A n cap]) w := by kernel_rfl

theorem evs_no {L : List Ev} {k : Nat} {x : Ev} (hx : L[k]? = some x) (h : okE x = false) : L.all okE = false := by
  rw [List.all_eq_false]
  exact ⟨x, List.mem_of_getElem? hx, by simp [h]⟩
theorem evs_up {L : List Ev} {k : Nat} {x : Ev} (hx : L[k]? = some x) (h : okE x = true) (hg : ∀ j (hj : j < L.length), j < k → okE L[j] = true) : ∀ j (hj : j < L.length), j < k + 1 → okE L[j] = true := by
  intro j hj hjk
  by_cases hj2 : j < k
  · exact hg j hj hj2
  · obtain rfl : j = k := by omega
    rw [(List.getElem?_eq_some_iff.1 hx).2]
    exact h

set_option maxHeartbeats 1600000 in
set_option maxRecDepth 100000 in
theorem evsValid_any (A : Option Addr) (cap : Nat) (L : List Ev) (w : World) (hr : Reads w w.heap.size 1 A L.length (L.map encE)) (hev : ∀ e ∈ L, EvR w w.heap.size e) (hl : L.length ≤ 1000000000000000) :
    Calls Try.prog 47 #[.slice A L.length cap] w fun e w2 => e = .returned (.bool (L.all okE)) ∧ Below w.heap.size w w2 := by
  have HEV := Lib.hid hev
  clear hev
  go_enter Try.func47, Try.ntmps47
  go_wp2_with fail
  go_loopw [7] (fun i wr => ∃ k : Nat, k ≤ L.length ∧ i = .int .i64 k ∧ Below w.heap.size w wr ∧ ∀ j (hj : j < L.length), j < k → okE L[j] = true) (fun i _ => L.length - (intOf i).toNat)
  case atStart => exact ⟨0, Nat.zero_le _, rfl, Below.refl _ _, fun j _ h => absurd h (by omega)⟩
  case round =>
    obtain ⟨k, hk, rfl, hb, hg⟩ := hrel
    have HG := Lib.hid hg; clear hg
    by_cases hlt : k < L.length
    · obtain ⟨b, off, hA, hbl, hc⟩ := evs_cell (hr.below hb) (by omega)
      subst hA
      obtain ⟨x, hx⟩ : ∃ x, L[k]? = some x := ⟨_, List.getElem?_eq_getElem hlt⟩
      have c1 := hc k x hx
      have hxr := (HEV.out x (List.mem_of_getElem? hx)).step hb
      have HK := Lib.hid hx
      have HB := Lib.hid hb
      have hsz := hb.size
      clear hr hc hx hb
      cases x with
      | b c =>
        have hm := m_valid_b c
        change wr.cell? ⟨b, off + k, none⟩ = some (.iface 29 (.agg #[.int .i64 c.id, .int .i64 c.kind, .int .i64 c.area])) at c1
        cases h1 : okB c
        · have HO := Lib.hid h1
          have e1 : okB ⟨c.id, c.kind, c.area⟩ = false := h1
          clear h1 hxr
          go_wp2_with (go_at_call 45; go_must (refine (iBnd_any _ _ _ _).mono ?_); rintro e w2 ⟨rfl, hb2⟩)
          go_ret
          exact ⟨ret_bool (evs_no HK.out HO.out).symm, HB.out.trans (hb2.mono hsz)⟩
        · have HO := Lib.hid h1
          have e1 : okB ⟨c.id, c.kind, c.area⟩ = true := h1
          clear h1 hxr
          go_wp2_with (go_at_call 45; go_must (refine (iBnd_any _ _ _ _).mono ?_); rintro e w2 ⟨rfl, hb2⟩)
          go_roundw
          case rel => exact ⟨k + 1, by omega, by go_num, HB.out.trans (hb2.mono hsz), evs_up HK.out HO.out HG.out⟩
          case measure => simp [intOf]; omega
      | f id A2 cap2 Y =>
        have hm := m_valid_f id A2 Y.length cap2
        change wr.cell? ⟨b, off + k, none⟩ = some (.iface 73 (.agg #[.int .i64 id, .slice A2 Y.length cap2])) at c1
        have HR := Lib.hid hxr
        clear hxr
        cases h1 : findOkB id Y
        · have HO := Lib.hid h1
          go_wp2_with (go_at_call 66; go_must (refine (iFnd_any _ _ _ _ _ HR.out.1 HR.out.2).mono ?_); rintro e w2 ⟨rfl, hb2⟩)
          go_ret
          exact ⟨ret_bool (evs_no HK.out HO.out).symm, HB.out.trans (hb2.mono hsz)⟩
        · have HO := Lib.hid h1
          go_wp2_with (go_at_call 66; go_must (refine (iFnd_any _ _ _ _ _ HR.out.1 HR.out.2).mono ?_); rintro e w2 ⟨rfl, hb2⟩)
          go_roundw
          case rel => exact ⟨k + 1, by omega, by go_num, HB.out.trans (hb2.mono hsz), evs_up HK.out HO.out HG.out⟩
          case measure => simp [intOf]; omega
    · have hkl : k = L.length := by omega
      have HK := Lib.hid hkl
      clear hkl
      go_wp2_with fail
      go_ret
      refine ⟨ret_bool ?_, hb⟩
      symm
      rw [List.all_eq_true]
      intro e he
      obtain ⟨j, hj, rfl⟩ := List.getElem_of_mem he
      exact HG.out j hj (by have := HK.out; omega)
end Go.Proofs.Ytjmbbepklofodaa
