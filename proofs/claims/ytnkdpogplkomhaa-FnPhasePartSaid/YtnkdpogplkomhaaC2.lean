/- What the model's adding and dropping of a relation return. -/
import Derived.Test.YtnkdpogplkomhaaB2
namespace Go.Proofs.Ytnkdpogplkomhaa
open Go.RowKit

/-- A call returned a list of its own and a word. -/
def PairR (w : World) (m : List Ctx) (b : Bool) (e : Ending) (w2 : World) : Prop :=
  ∃ v, e = .returned (.tuple #[v, .bool b]) ∧ Below w.heap.size w w2 ∧ w2.ownsRow w.heap.size 111 3 v m.length (cellsC m)
theorem pairR_mk {w w2 : World} {m m2 : List Ctx} {v : Value} {b b2 : Bool} (h : m2 = m ∧ b2 = b) (hb : Below w.heap.size w w2) (ho : w2.ownsRow w.heap.size 111 3 v m.length (cellsC m)) :
    PairR w m2 b2 (.returned (.tuple #[v, .bool b])) w2 := ⟨v, by rw [h.2], hb, by rw [h.1]; exact ho⟩

set_option maxHeartbeats 2000000 in
set_option maxRecDepth 100000 in
theorem sAddR_any (A : Option Addr) (cap : Nat) (l : List Ctx) (c : Ctx) (w : World) (hr : Reads w w.heap.size 3 A l.length (cellsC l)) (hl : l.length ≤ 1000000000000) (hcap : l.length ≤ cap) :
    Calls Try.prog 89 #[.slice A l.length cap, .agg #[.int .i64 c.id, .int .i64 c.kind, .int .i64 c.area]] w (PairR w (addR l c) (addOkR l c)) := by
  obtain ⟨i0, hi0, hz0, hz1, hz2⟩ := info_parts infoRel
  have hb0 := (Below.refl w.heap.size w).alloc (Nat.le_refl _) (.cells #[.int .i64 c.id, .int .i64 c.kind, .int .i64 c.area] 111)
  have hr1 := hr.step hb0
  by_cases h1 : validR l = true
  · by_cases h2 : okR c = true
    · have hlen := validO_len h1
      by_cases hroom : findR l c < 0 ∧ l.length < 30
      · have HA := Lib.hid (addR_new h1 h2 hroom.1 hroom.2)
        have HN := Lib.hid (findR_none hroom.1)
        have e3 : decide (0 ≤ findR l c) = false := by simp; omega
        have e4 : decide ((30 : Int) ≤ (l.length : Int)) = false := by simp; omega
        clear hr hroom
        go_enter Try.func89, Try.ntmps89
        go_wp2_with (first
          | (go_at_call 105; go_must (refine (sValidR_any _ _ l _ hr1 (by omega)).mono ?_); rintro e w2 ⟨rfl, k2⟩; have hc2 := below_cell k2)
          | (go_at_call 106; go_must (refine (l2Rel_any _ _ _ _).mono ?_); rintro e w3 ⟨rfl, hb3⟩; have k3 := below_step k2 hb3; have hc3 := below_cell k3)
          | (go_at_call 107; go_must (refine (sFindR_any _ _ l c _ (hr1.step k3) (by omega)).mono ?_); rintro e w5 ⟨rfl, hb5⟩; have k5 := below_step k3 hb5; have hc5 := below_cell k5)
          | (go_at_call 108; go_must (refine (sPutR_any _ _ l c _ (hr1.step k5) (by omega) (by omega) HN.out).mono ?_); rintro e w6 ⟨v6, rfl, hb6, hown6⟩; have k6 := below_step k5 hb6; have hc6 := below_cell k6))
        go_ret2
        exact pairR_mk HA.out (below_step hb0 k6) (by rw [insO_length]; exact own_less hown6 (Nat.le_trans hb0.size k5.size))
      · have HA := Lib.hid (addR_full (c := c) h1 h2 (by omega))
        clear hr
        by_cases h3 : findR l c < 0
        · skip
          have e3 : decide (0 ≤ findR l c) = false := by simp; omega
          have e4 : decide ((30 : Int) ≤ (l.length : Int)) = true := by simp; omega
          clear h3 hroom
          go_enter Try.func89, Try.ntmps89
          go_wp2_with (first
            | (go_at_call 105; go_must (refine (sValidR_any _ _ l _ hr1 (by omega)).mono ?_); rintro e w2 ⟨rfl, k2⟩; have hc2 := below_cell k2)
            | (go_at_call 106; go_must (refine (l2Rel_any _ _ _ _).mono ?_); rintro e w3 ⟨rfl, hb3⟩; have k3 := below_step k2 hb3; have hc3 := below_cell k3)
            | (go_at_call 107; go_must (refine (sFindR_any _ _ l c _ (hr1.step k3) (by omega)).mono ?_); rintro e w5 ⟨rfl, hb5⟩; have k5 := below_step k3 hb5; have hc5 := below_cell k5)
            | (at_builtin
               go_must (refine wpList_append_reads _ rfl (.tmp 24) (.tmp 25) _ rfl w5.heap.size 111 i0 _ 3 24 Try.underlying24 hi0 hz0 hz1 hz2 rfl (by omega) (.slice (some ⟨w5.heap.size, 0, none⟩) 0 0) 0 [] rfl (own_empty (Nat.le_refl _) rfl) _ _ l.length _ (cellsC l) rfl ((hr1.step k5).below ((Below.refl _ _).alloc (Nat.le_refl _) _)) (cellsC_one _) (by simp only [maxLen]; omega) (by omega) (by simp) ?_)
               intro v6 w6 hown6 hg6 hat6
               have hb6 := ((Below.refl w5.heap.size w5).alloc (Nat.le_refl _) (.cells #[] 111)).grown hg6 (by simp) (fun k hk => by simp [Value.ownBlock] at hk; omega)))
          go_ret2
          exact pairR_mk HA.out (below_step hb0 (below_step k5 hb6)) (own_less (by simpa using hown6) (Nat.le_trans hb0.size k5.size))
        · skip
          have e3 : decide (0 ≤ findR l c) = true := by simp; omega
          skip
          clear h3 hroom
          go_enter Try.func89, Try.ntmps89
          go_wp2_with (first
            | (go_at_call 105; go_must (refine (sValidR_any _ _ l _ hr1 (by omega)).mono ?_); rintro e w2 ⟨rfl, k2⟩; have hc2 := below_cell k2)
            | (go_at_call 106; go_must (refine (l2Rel_any _ _ _ _).mono ?_); rintro e w3 ⟨rfl, hb3⟩; have k3 := below_step k2 hb3; have hc3 := below_cell k3)
            | (go_at_call 107; go_must (refine (sFindR_any _ _ l c _ (hr1.step k3) (by omega)).mono ?_); rintro e w5 ⟨rfl, hb5⟩; have k5 := below_step k3 hb5; have hc5 := below_cell k5)
            | (at_builtin
               go_must (refine wpList_append_reads _ rfl (.tmp 24) (.tmp 25) _ rfl w5.heap.size 111 i0 _ 3 24 Try.underlying24 hi0 hz0 hz1 hz2 rfl (by omega) (.slice (some ⟨w5.heap.size, 0, none⟩) 0 0) 0 [] rfl (own_empty (Nat.le_refl _) rfl) _ _ l.length _ (cellsC l) rfl ((hr1.step k5).below ((Below.refl _ _).alloc (Nat.le_refl _) _)) (cellsC_one _) (by simp only [maxLen]; omega) (by omega) (by simp) ?_)
               intro v6 w6 hown6 hg6 hat6
               have hb6 := ((Below.refl w5.heap.size w5).alloc (Nat.le_refl _) (.cells #[] 111)).grown hg6 (by simp) (fun k hk => by simp [Value.ownBlock] at hk; omega)))
          go_ret2
          exact pairR_mk HA.out (below_step hb0 (below_step k5 hb6)) (own_less (by simpa using hown6) (Nat.le_trans hb0.size k5.size))
    · simp only [Bool.not_eq_true] at h2
      have HA := Lib.hid (addR_bad (l := l) (c := c) (.inr h2))
      clear hr
      go_enter Try.func89, Try.ntmps89
      go_wp2_with (first
        | (go_at_call 105; go_must (refine (sValidR_any _ _ l _ hr1 (by omega)).mono ?_); rintro e w2 ⟨rfl, k2⟩; have hc2 := below_cell k2)
        | (go_at_call 106; go_must (refine (l2Rel_any _ _ _ _).mono ?_); rintro e w3 ⟨rfl, hb3⟩; have k3 := below_step k2 hb3; have hc3 := below_cell k3))
      go_ret2
      exact pairR_mk HA.out (below_step hb0 (k3.alloc k3.size _)) (own_lit (Nat.le_trans hb0.size k3.size) rfl)
  · simp only [Bool.not_eq_true] at h1
    have HA := Lib.hid (addR_bad (l := l) (c := c) (.inl h1))
    clear hr
    go_enter Try.func89, Try.ntmps89
    go_wp2_with (first
      | (go_at_call 105; go_must (refine (sValidR_any _ _ l _ hr1 (by omega)).mono ?_); rintro e w2 ⟨rfl, k2⟩; have hc2 := below_cell k2))
    go_ret2
    exact pairR_mk HA.out (below_step hb0 (k2.alloc k2.size _)) (own_lit (Nat.le_trans hb0.size k2.size) rfl)
theorem dropR_bad {l : List Ctx} {c : Ctx} (h : validR l = false) : dropR l c = [] ∧ dropOkR l c = false := by
  simp [dropR, dropOkR, h]
theorem dropR_no {l : List Ctx} {c : Ctx} (h : validR l = true) (h2 : findR l c < 0) : dropR l c = l ∧ dropOkR l c = false := by
  have h3 : ¬ 0 ≤ findR l c := by omega
  simp [dropR, dropOkR, h, h3]
theorem dropR_at {l : List Ctx} {c : Ctx} {k : Nat} (h : validR l = true) (h2 : findR l c = k) : dropR l c = l.take k ++ l.drop (k + 1) ∧ dropOkR l c = true := by
  have h3 : 0 ≤ findR l c := by omega
  simp [dropR, dropOkR, h, h2]
theorem findR_lt (l : List Ctx) (c : Ctx) (h : 0 ≤ findR l c) : ∃ k : Nat, findR l c = k ∧ k < l.length := by
  rcases findP_spec (fun d => eqC d c) l with ⟨e, _⟩ | ⟨k, d, e, hk, _⟩
  · unfold findR at h; omega
  · refine ⟨k, e, ?_⟩
    exact (List.getElem?_eq_some_iff.1 hk).1

end Go.Proofs.Ytnkdpogplkomhaa
