/- What the program's adding and dropping of a relation return. -/
import Derived.Test.YtmcnjmflmpfjlaaP5
import Derived.Test.YtmcnjmflmpfjlaaC2
namespace Go.Proofs.Ytmcnjmflmpfjlaa
open Go.RowKit

theorem pairR_made {w w1 w2 : World} {m m2 l2 : List Ctx} {v : Value} {b b2 : Bool} (h : m2 = m ∧ b2 = b) (he : l2 = m) (hb : Below w.heap.size w w1) (hb2 : Below w1.heap.size w1 w2) (ho : w2.ownsRow w1.heap.size 44 3 v l2.length (cellsC l2)) :
    PairR w m2 b2 (.returned (.tuple #[v, .bool b])) w2 := by
  subst he
  exact pairR_mk h (below_step hb hb2) (own_less ho hb.size)

set_option maxHeartbeats 2000000 in
set_option maxRecDepth 100000 in
theorem iAddR_any (A : Option Addr) (cap : Nat) (l : List Ctx) (c : Ctx) (w : World) (hr : Reads w w.heap.size 3 A l.length (cellsC l)) (hl : l.length ≤ 1000000000000) (hcap : l.length ≤ cap) :
    Calls Try.prog 41 #[.slice A l.length cap, .agg #[.int .i64 c.id, .int .i64 c.kind, .int .i64 c.area]] w (PairR w (addR l c) (addOkR l c)) := by
  have hb0 := (Below.refl w.heap.size w).alloc (Nat.le_refl _) (.cells #[.int .i64 c.id, .int .i64 c.kind, .int .i64 c.area] 44)
  have hr1 := hr.step hb0
  clear hr
  by_cases h1 : validR l = true
  · by_cases h2 : okR c = true
    · have hlen := validO_len h1
      have HV := Lib.hid h1
      have HC := Lib.hid h2
      go_enter Try.func41, Try.ntmps41
      go_wp2_with (first
        | (go_at_call 82; go_must (refine (iValidR_any _ _ l _ hr1 (by omega)).mono ?_); rintro e w2 ⟨rfl, k2⟩; have hc2 := below_cell k2)
        | (go_at_call 83; go_must (refine (iRel_any _ _ _ _).mono ?_); rintro e w3 ⟨rfl, hb3⟩; have k3 := below_step k2 hb3; have hc3 := below_cell k3)
        | (go_at_call 84; fail))
      refine (place_any _ _ l c _ (hr1.step k3) (by omega) (pairO lessR_tr HV.out)).mono ?_
      rintro e w4 ⟨k, rfl, hpl, hb4⟩
      have k4 := below_step k3 hb4
      have hkl := hpl.1
      have HPl := Lib.hid hpl
      obtain ⟨b, hb⟩ : ∃ b, b = hereR l c k := ⟨_, rfl⟩
      rw [← hb]
      have HBr := Lib.hid hb
      clear hpl hb hc2 hc3 h1 h2
      have hc4 := below_cell k4
      cases b
      · have HF := Lib.hid (placed_no HV.out HPl.out HBr.out.symm)
        by_cases hroom : l.length = 30
        · have e30 : ((l.length : Int) == 30) = true := by simp; omega
          have HA := Lib.hid (addR_full (c := c) HV.out HC.out (by omega))
          clear hroom
          go_wp2_with fail
          refine (copied_any _ _ l _ (hr1.step k4) (by omega)).mono ?_
          rintro e w5 ⟨v, rfl, hb5, ho5⟩
          go_wp2_with fail
          go_ret2
          exact pairR_made HA.out rfl (below_step hb0 k4) hb5 ho5
        · have e30 : ((l.length : Int) == 30) = false := by simp; omega
          have HA := Lib.hid (addR_new (c := c) HV.out HC.out (by have := HF.out; omega) (by omega))
          clear hroom
          go_wp2_with fail
          refine (with_any _ _ k l c _ (hr1.step k4) (by omega) hcap hkl).mono ?_
          rintro e w5 ⟨v, rfl, hb5, ho5⟩
          go_wp2_with fail
          go_ret2
          exact pairR_made HA.out (placed_ins HPl.out).symm (below_step hb0 k4) hb5 ho5
      · have HF := Lib.hid (placed_yes HPl.out HBr.out.symm)
        have HA := Lib.hid (addR_full (c := c) HV.out HC.out (by have := HF.out.1; omega))
        go_wp2_with fail
        refine (copied_any _ _ l _ (hr1.step k4) (by omega)).mono ?_
        rintro e w5 ⟨v, rfl, hb5, ho5⟩
        go_wp2_with fail
        go_ret2
        exact pairR_made HA.out rfl (below_step hb0 k4) hb5 ho5
    · simp only [Bool.not_eq_true] at h2
      have HA := Lib.hid (addR_bad (l := l) (c := c) (.inr h2))
      go_enter Try.func41, Try.ntmps41
      go_wp2_with (first
        | (go_at_call 82; go_must (refine (iValidR_any _ _ l _ hr1 (by omega)).mono ?_); rintro e w2 ⟨rfl, k2⟩; have hc2 := below_cell k2)
        | (go_at_call 83; go_must (refine (iRel_any _ _ _ _).mono ?_); rintro e w3 ⟨rfl, hb3⟩; have k3 := below_step k2 hb3; have hc3 := below_cell k3))
      go_ret2
      exact pairR_mk HA.out (below_step hb0 k3) (World.ownsRow_nil _ _ _ _)
  · simp only [Bool.not_eq_true] at h1
    have HA := Lib.hid (addR_bad (l := l) (c := c) (.inl h1))
    go_enter Try.func41, Try.ntmps41
    go_wp2_with (first
      | (go_at_call 82; go_must (refine (iValidR_any _ _ l _ hr1 (by omega)).mono ?_); rintro e w2 ⟨rfl, k2⟩; have hc2 := below_cell k2))
    go_ret2
    exact pairR_mk HA.out (below_step hb0 k2) (World.ownsRow_nil _ _ _ _)

theorem addR_le (l : List Ctx) (c : Ctx) : (addR l c).length ≤ l.length + 1 := by
  unfold addR
  split
  · split
    · rw [insO_length]; omega
    · omega
  · simp
theorem dropR_le (l : List Ctx) (c : Ctx) : (dropR l c).length ≤ l.length + 1 := by
  unfold dropR
  split
  · split
    · rw [List.length_append, List.length_take, List.length_drop]; omega
    · omega
  · simp
end Go.Proofs.Ytmcnjmflmpfjlaa
