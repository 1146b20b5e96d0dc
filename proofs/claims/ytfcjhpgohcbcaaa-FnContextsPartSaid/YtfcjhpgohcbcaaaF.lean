/- What the program's adding of a context returns. -/
import Derived.Test.YtfcjhpgohcbcaaaE
namespace Go.Proofs.Ytfcjhpgohcbcaaa
open Go.RowKit

def AddPost (w : World) (l : List Ctx) (c : Ctx) (e : Ending) (w2 : World) : Prop :=
  ∃ v, e = .returned (.tuple #[v, .bool (addOk l c)]) ∧ Below w.heap.size w w2 ∧ w2.ownsRow w.heap.size 25 3 v (addL l c).length (cellsC (addL l c))
theorem addPost_mk {w w2 : World} {l m : List Ctx} {c : Ctx} {v : Value} {b : Bool} (h : addL l c = m ∧ addOk l c = b) (hb : Below w.heap.size w w2) (ho : w2.ownsRow w.heap.size 25 3 v m.length (cellsC m)) :
    AddPost w l c (.returned (.tuple #[v, .bool b])) w2 := ⟨v, by rw [h.2], hb, by rw [h.1]; exact ho⟩

theorem mid_step {lo hi : Nat} {w0 w w2 : World} (h : Below w0.heap.size w0 w) (hlo : w0.heap.size ≤ lo) (hm : Mid lo hi w w2) : Below w0.heap.size w0 w2 :=
  h.trans ⟨hm.os, hm.tape, hm.output, hm.size, fun k hk => hm.block k (.inl (by omega))⟩
set_option maxHeartbeats 1000000 in
theorem iAdd_any (A : Option Addr) (cap : Nat) (l : List Ctx) (c : Ctx) (w : World) (hr : Reads w w.heap.size 3 A l.length (cellsC l)) (hl : l.length ≤ 1000000000000) :
    Calls Try.prog 15 #[.slice A l.length cap, .agg #[.int .i64 c.id, .int .i64 c.kind, .int .i64 c.area]] w (AddPost w l c) := by
  have hb0 := (Below.refl w.heap.size w).alloc (Nat.le_refl _) (.cells #[.int .i64 c.id, .int .i64 c.kind, .int .i64 c.area] 25)
  have hr1 := hr.step hb0
  clear hr
  by_cases h1 : validL l = true
  · by_cases h2 : okC c = true
    · have hlen := validL_len h1
      by_cases h3 : findC l c.id < 0
      · have e3 : decide (0 ≤ findC l c.id) = false := by simp; omega
        by_cases h4 : l.length < 12
        · have e4 : ((l.length : Int) == 12) = false := by simp; omega
          have HA := Lib.hid (addL_new h1 h2 h3 h4)
          clear h3
          go_enter Try.func15, Try.ntmps15
          go_wp2_with (first
            | (go_at_call 19; go_must (refine (iValid_any _ _ l _ hr1 (by omega)).mono ?_); rintro e w2 ⟨rfl, k2⟩; have hc2 := below_cell k2)
            | (go_at_call 41; go_must (refine (contextValid_any _ _ _ _).mono ?_); rintro e w3 ⟨rfl, hb3⟩; have k3 := below_step k2 hb3; have hc3 := below_cell k3)
            | (go_at_call 42; go_must (refine (link_any _ _ l _ (hr1.step k3) (by omega)).mono ?_); rintro e w4 ⟨p, rfl, hb4, hlk⟩; have k4 := below_step k3 hb4; have hc4 := below_cell k4)
            | (go_at_call 43; go_must (refine (place_any _ p l _ _ hlk.at_ (by omega)).mono ?_); rintro e w5 ⟨rfl, rfl⟩)
            | (go_at_call 45; go_must (refine (insert_any c l p _ _ _ hlk hb4.size (Nat.le_refl _)).mono ?_); rintro e w6 ⟨p6, rfl, hl6, hm6⟩; have k6 := mid_step k4 k3.size hm6)
            | (go_at_call 44; go_must (refine (unlink_any _ p6 (insC c l) _ hl6 (fun g hg => hg.2.2) (by rw [insC_length]; omega)).mono ?_); rintro e w7 ⟨v, rfl, hb7, ho7⟩))
          go_ret2
          exact addPost_mk HA.out (below_step hb0 (below_step k6 hb7)) (own_less ho7 (Nat.le_trans hb0.size k6.size))
        · have e4 : ((l.length : Int) == 12) = true := by simp; omega
          have HA := Lib.hid (addL_full (c := c) h1 h2 (.inr (by omega)))
          clear h3
          go_enter Try.func15, Try.ntmps15
          go_wp2_with (first
            | (go_at_call 19; go_must (refine (iValid_any _ _ l _ hr1 (by omega)).mono ?_); rintro e w2 ⟨rfl, k2⟩; have hc2 := below_cell k2)
            | (go_at_call 41; go_must (refine (contextValid_any _ _ _ _).mono ?_); rintro e w3 ⟨rfl, hb3⟩; have k3 := below_step k2 hb3; have hc3 := below_cell k3)
            | (go_at_call 42; go_must (refine (link_any _ _ l _ (hr1.step k3) (by omega)).mono ?_); rintro e w4 ⟨p, rfl, hb4, hlk⟩; have k4 := below_step k3 hb4; have hc4 := below_cell k4)
            | (go_at_call 43; go_must (refine (place_any _ p l _ _ hlk.at_ (by omega)).mono ?_); rintro e w5 ⟨rfl, rfl⟩)
            | (go_at_call 44; go_must (refine (unlink_any _ p l _ hlk.at_ (fun g hg => hg.2) (by omega)).mono ?_); rintro e w7 ⟨v, rfl, hb7, ho7⟩))
          go_ret2
          exact addPost_mk HA.out (below_step hb0 (below_step k4 hb7)) (own_less ho7 (Nat.le_trans hb0.size k4.size))
      · have e3 : decide (0 ≤ findC l c.id) = true := by simp; omega
        have HA := Lib.hid (addL_full (c := c) h1 h2 (.inl (by omega)))
        clear h3
        go_enter Try.func15, Try.ntmps15
        go_wp2_with (first
            | (go_at_call 19; go_must (refine (iValid_any _ _ l _ hr1 (by omega)).mono ?_); rintro e w2 ⟨rfl, k2⟩; have hc2 := below_cell k2)
            | (go_at_call 41; go_must (refine (contextValid_any _ _ _ _).mono ?_); rintro e w3 ⟨rfl, hb3⟩; have k3 := below_step k2 hb3; have hc3 := below_cell k3)
            | (go_at_call 42; go_must (refine (link_any _ _ l _ (hr1.step k3) (by omega)).mono ?_); rintro e w4 ⟨p, rfl, hb4, hlk⟩; have k4 := below_step k3 hb4; have hc4 := below_cell k4)
            | (go_at_call 43; go_must (refine (place_any _ p l _ _ hlk.at_ (by omega)).mono ?_); rintro e w5 ⟨rfl, rfl⟩)
            | (go_at_call 44; go_must (refine (unlink_any _ p l _ hlk.at_ (fun g hg => hg.2) (by omega)).mono ?_); rintro e w7 ⟨v, rfl, hb7, ho7⟩))
        go_ret2
        exact addPost_mk HA.out (below_step hb0 (below_step k4 hb7)) (own_less ho7 (Nat.le_trans hb0.size k4.size))
    · simp only [Bool.not_eq_true] at h2
      have HA := Lib.hid (addL_bad (l := l) (c := c) (.inr h2))
      go_enter Try.func15, Try.ntmps15
      go_wp2_with (first
            | (go_at_call 19; go_must (refine (iValid_any _ _ l _ hr1 (by omega)).mono ?_); rintro e w2 ⟨rfl, k2⟩; have hc2 := below_cell k2)
            | (go_at_call 41; go_must (refine (contextValid_any _ _ _ _).mono ?_); rintro e w3 ⟨rfl, hb3⟩; have k3 := below_step k2 hb3; have hc3 := below_cell k3)
            | (go_at_call 42; go_must (refine (link_any _ _ l _ (hr1.step k3) (by omega)).mono ?_); rintro e w4 ⟨p, rfl, hb4, hlk⟩; have k4 := below_step k3 hb4; have hc4 := below_cell k4)
            | (go_at_call 43; go_must (refine (place_any _ p l _ _ hlk.at_ (by omega)).mono ?_); rintro e w5 ⟨rfl, rfl⟩))
      go_ret2
      exact addPost_mk HA.out (below_step hb0 k3) (by simpa [cellsC] using World.ownsRow_nil _ w.heap.size _ 3)
  · simp only [Bool.not_eq_true] at h1
    have HA := Lib.hid (addL_bad (l := l) (c := c) (.inl h1))
    go_enter Try.func15, Try.ntmps15
    go_wp2_with (first
            | (go_at_call 19; go_must (refine (iValid_any _ _ l _ hr1 (by omega)).mono ?_); rintro e w2 ⟨rfl, k2⟩; have hc2 := below_cell k2)
            | (go_at_call 41; go_must (refine (contextValid_any _ _ _ _).mono ?_); rintro e w3 ⟨rfl, hb3⟩; have k3 := below_step k2 hb3; have hc3 := below_cell k3)
            | (go_at_call 42; go_must (refine (link_any _ _ l _ (hr1.step k3) (by omega)).mono ?_); rintro e w4 ⟨p, rfl, hb4, hlk⟩; have k4 := below_step k3 hb4; have hc4 := below_cell k4)
            | (go_at_call 43; go_must (refine (place_any _ p l _ _ hlk.at_ (by omega)).mono ?_); rintro e w5 ⟨rfl, rfl⟩))
    go_ret2
    exact addPost_mk HA.out (below_step hb0 k2) (by simpa [cellsC] using World.ownsRow_nil _ w.heap.size _ 3)
end Go.Proofs.Ytfcjhpgohcbcaaa
