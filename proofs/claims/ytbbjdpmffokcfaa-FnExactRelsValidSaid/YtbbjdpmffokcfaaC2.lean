/- What the model's adding and dropping of a relation return. -/
import Derived.Test.YtbbjdpmffokcfaaB2
namespace Go.Proofs.Ytbbjdpmffokcfaa
open Go.RowKit

/-- A call returned a list of its own and a word. -/
def PairR (w : World) (m : List Ctx) (b : Bool) (e : Ending) (w2 : World) : Prop :=
  ∃ v, e = .returned (.tuple #[v, .bool b]) ∧ Below w.heap.size w w2 ∧ w2.ownsRow w.heap.size 25 3 v m.length (cellsC m)
theorem pairR_mk {w w2 : World} {m m2 : List Ctx} {v : Value} {b b2 : Bool} (h : m2 = m ∧ b2 = b) (hb : Below w.heap.size w w2) (ho : w2.ownsRow w.heap.size 25 3 v m.length (cellsC m)) :
    PairR w m2 b2 (.returned (.tuple #[v, .bool b])) w2 := ⟨v, by rw [h.2], hb, by rw [h.1]; exact ho⟩

set_option maxHeartbeats 2000000 in
theorem sAddR_any (A : Option Addr) (cap : Nat) (l : List Ctx) (c : Ctx) (w : World) (hr : Reads w w.heap.size 3 A l.length (cellsC l)) (hl : l.length ≤ 1000000000000) (hcap : l.length ≤ cap) :
    Calls Try.prog 14 #[.slice A l.length cap, .agg #[.int .i64 c.id, .int .i64 c.kind, .int .i64 c.area]] w (PairR w (addR l c) (addOkR l c)) := by
  obtain ⟨i0, hi0, hz0, hz1, hz2⟩ := info_parts infoRel
  have hb0 := (Below.refl w.heap.size w).alloc (Nat.le_refl _) (.cells #[.int .i64 c.id, .int .i64 c.kind, .int .i64 c.area] 25)
  have hr1 := hr.step hb0
  by_cases h1 : validR l = true
  · by_cases h2 : okR c = true
    · have hlen := validO_len h1
      by_cases hroom : findR l c < 0 ∧ l.length < 30
      · have HA := Lib.hid (addR_new h1 h2 hroom.1 hroom.2)
        have HN := Lib.hid (findR_none hroom.1)
        have e3 : decide (0 ≤ findR l c) = false := by simp; omega
        have e4 : decide ((30 : Int) ≤ (l.length : Int)) = false := by simp; omega
        clear hr hroom
        go_enter Try.func14, Try.ntmps14
        go_wp2_with (first
          | (go_at_call 21; go_must (refine (sValidR_any _ _ l _ hr1 (by omega)).mono ?_); rintro e w2 ⟨rfl, k2⟩; have hc2 := below_cell k2)
          | (go_at_call 36; go_must (refine (l2Rel_any _ _ _ _).mono ?_); rintro e w3 ⟨rfl, hb3⟩; have k3 := below_step k2 hb3; have hc3 := below_cell k3)
          | (go_at_call 37; go_must (refine (sFindR_any _ _ l c _ (hr1.step k3) (by omega)).mono ?_); rintro e w5 ⟨rfl, hb5⟩; have k5 := below_step k3 hb5; have hc5 := below_cell k5)
          | (go_at_call 38; go_must (refine (sPutR_any _ _ l c _ (hr1.step k5) (by omega) (by omega) HN.out).mono ?_); rintro e w6 ⟨v6, rfl, hb6, hown6⟩; have k6 := below_step k5 hb6; have hc6 := below_cell k6))
        go_ret2
        exact pairR_mk HA.out (below_step hb0 k6) (by rw [insO_length]; exact own_less hown6 (Nat.le_trans hb0.size k5.size))
      · have HA := Lib.hid (addR_full (c := c) h1 h2 (by omega))
        clear hr
        by_cases h3 : findR l c < 0
        · skip
          have e3 : decide (0 ≤ findR l c) = false := by simp; omega
          have e4 : decide ((30 : Int) ≤ (l.length : Int)) = true := by simp; omega
          clear h3 hroom
          go_enter Try.func14, Try.ntmps14
          go_wp2_with (first
            | (go_at_call 21; go_must (refine (sValidR_any _ _ l _ hr1 (by omega)).mono ?_); rintro e w2 ⟨rfl, k2⟩; have hc2 := below_cell k2)
            | (go_at_call 36; go_must (refine (l2Rel_any _ _ _ _).mono ?_); rintro e w3 ⟨rfl, hb3⟩; have k3 := below_step k2 hb3; have hc3 := below_cell k3)
            | (go_at_call 37; go_must (refine (sFindR_any _ _ l c _ (hr1.step k3) (by omega)).mono ?_); rintro e w5 ⟨rfl, hb5⟩; have k5 := below_step k3 hb5; have hc5 := below_cell k5)
            | (at_builtin
               go_must (refine wpList_append_reads _ rfl (.tmp 24) (.tmp 25) _ rfl w5.heap.size 25 i0 _ 3 24 Try.underlying23 hi0 hz0 hz1 hz2 rfl (by omega) (.slice (some ⟨w5.heap.size, 0, none⟩) 0 0) 0 [] rfl (own_empty (Nat.le_refl _) rfl) _ _ l.length _ (cellsC l) rfl ((hr1.step k5).below ((Below.refl _ _).alloc (Nat.le_refl _) _)) (cellsC_one _) (by simp only [maxLen]; omega) (by omega) (by simp) ?_)
               intro v6 w6 hown6 hg6 hat6
               have hb6 := ((Below.refl w5.heap.size w5).alloc (Nat.le_refl _) (.cells #[] 25)).grown hg6 (by simp) (fun k hk => by simp [Value.ownBlock] at hk; omega)))
          go_ret2
          exact pairR_mk HA.out (below_step hb0 (below_step k5 hb6)) (own_less (by simpa using hown6) (Nat.le_trans hb0.size k5.size))
        · skip
          have e3 : decide (0 ≤ findR l c) = true := by simp; omega
          skip
          clear h3 hroom
          go_enter Try.func14, Try.ntmps14
          go_wp2_with (first
            | (go_at_call 21; go_must (refine (sValidR_any _ _ l _ hr1 (by omega)).mono ?_); rintro e w2 ⟨rfl, k2⟩; have hc2 := below_cell k2)
            | (go_at_call 36; go_must (refine (l2Rel_any _ _ _ _).mono ?_); rintro e w3 ⟨rfl, hb3⟩; have k3 := below_step k2 hb3; have hc3 := below_cell k3)
            | (go_at_call 37; go_must (refine (sFindR_any _ _ l c _ (hr1.step k3) (by omega)).mono ?_); rintro e w5 ⟨rfl, hb5⟩; have k5 := below_step k3 hb5; have hc5 := below_cell k5)
            | (at_builtin
               go_must (refine wpList_append_reads _ rfl (.tmp 24) (.tmp 25) _ rfl w5.heap.size 25 i0 _ 3 24 Try.underlying23 hi0 hz0 hz1 hz2 rfl (by omega) (.slice (some ⟨w5.heap.size, 0, none⟩) 0 0) 0 [] rfl (own_empty (Nat.le_refl _) rfl) _ _ l.length _ (cellsC l) rfl ((hr1.step k5).below ((Below.refl _ _).alloc (Nat.le_refl _) _)) (cellsC_one _) (by simp only [maxLen]; omega) (by omega) (by simp) ?_)
               intro v6 w6 hown6 hg6 hat6
               have hb6 := ((Below.refl w5.heap.size w5).alloc (Nat.le_refl _) (.cells #[] 25)).grown hg6 (by simp) (fun k hk => by simp [Value.ownBlock] at hk; omega)))
          go_ret2
          exact pairR_mk HA.out (below_step hb0 (below_step k5 hb6)) (own_less (by simpa using hown6) (Nat.le_trans hb0.size k5.size))
    · simp only [Bool.not_eq_true] at h2
      have HA := Lib.hid (addR_bad (l := l) (c := c) (.inr h2))
      clear hr
      go_enter Try.func14, Try.ntmps14
      go_wp2_with (first
        | (go_at_call 21; go_must (refine (sValidR_any _ _ l _ hr1 (by omega)).mono ?_); rintro e w2 ⟨rfl, k2⟩; have hc2 := below_cell k2)
        | (go_at_call 36; go_must (refine (l2Rel_any _ _ _ _).mono ?_); rintro e w3 ⟨rfl, hb3⟩; have k3 := below_step k2 hb3; have hc3 := below_cell k3))
      go_ret2
      exact pairR_mk HA.out (below_step hb0 (k3.alloc k3.size _)) (own_lit (Nat.le_trans hb0.size k3.size) rfl)
  · simp only [Bool.not_eq_true] at h1
    have HA := Lib.hid (addR_bad (l := l) (c := c) (.inl h1))
    clear hr
    go_enter Try.func14, Try.ntmps14
    go_wp2_with (first
      | (go_at_call 21; go_must (refine (sValidR_any _ _ l _ hr1 (by omega)).mono ?_); rintro e w2 ⟨rfl, k2⟩; have hc2 := below_cell k2))
    go_ret2
    exact pairR_mk HA.out (below_step hb0 (k2.alloc k2.size _)) (own_lit (Nat.le_trans hb0.size k2.size) rfl)
theorem dropR_bad {l : List Ctx} {c : Ctx} (h : validR l = false) : dropR l c = [] ∧ dropOkR l c = false := by
  simp [dropR, dropOkR, h]
theorem dropR_no {l : List Ctx} {c : Ctx} (h : validR l = true) (h2 : findR l c < 0) : dropR l c = l ∧ dropOkR l c = false := by
  have h3 : ¬ 0 ≤ findR l c := by omega
  simp [dropR, dropOkR, h, h3]
theorem dropR_at {l : List Ctx} {c : Ctx} {k : Nat} (h : validR l = true) (h2 : findR l c = k) : dropR l c = l.take k ++ l.drop (k + 1) ∧ dropOkR l c = true := by
  have h3 : 0 ≤ findR l c := by omega
  simp [dropR, dropOkR, h, h2]
theorem findR_lt (l : List Ctx) (c : Ctx) (h : 0 ≤ findR l c) : ∃ k : Nat, findR l c = k ∧ k < l.length := by
  rcases findP_spec (fun d => eqC d c) l with ⟨e, _⟩ | ⟨k, d, e, hk, _⟩
  · unfold findR at h; omega
  · refine ⟨k, e, ?_⟩
    exact (List.getElem?_eq_some_iff.1 hk).1

set_option maxHeartbeats 2000000 in
theorem sDropR_any (A : Option Addr) (cap : Nat) (l : List Ctx) (c : Ctx) (w : World) (hr : Reads w w.heap.size 3 A l.length (cellsC l)) (hl : l.length ≤ 1000000000000) (hcap : l.length ≤ cap) :
    Calls Try.prog 19 #[.slice A l.length cap, .agg #[.int .i64 c.id, .int .i64 c.kind, .int .i64 c.area]] w (PairR w (dropR l c) (dropOkR l c)) := by
  obtain ⟨i0, hi0, hz0, hz1, hz2⟩ := info_parts infoRel
  have hb0 := (Below.refl w.heap.size w).alloc (Nat.le_refl _) (.cells #[.int .i64 c.id, .int .i64 c.kind, .int .i64 c.area] 25)
  have hr1 := hr.step hb0
  by_cases h1 : validR l = true
  · have hlen := validO_len h1
    by_cases h3 : findR l c < 0
    · have HA := Lib.hid (dropR_no h1 h3)
      have e3 : decide (findR l c < 0) = true := by simp; omega
      clear hr h3
      go_enter Try.func19, Try.ntmps19
      go_wp2_with (first
        | (go_at_call 21; go_must (refine (sValidR_any _ _ l _ hr1 (by omega)).mono ?_); rintro e w2 ⟨rfl, k2⟩; have hc2 := below_cell k2)
        | (go_at_call 37; go_must (refine (sFindR_any _ _ l c _ (hr1.step k2) (by omega)).mono ?_); rintro e w5 ⟨rfl, hb5⟩; have k5 := below_step k2 hb5; have hc5 := below_cell k5)
        | (at_builtin
           go_must (refine wpList_append_reads _ rfl (.tmp 16) (.tmp 17) _ rfl w5.heap.size 25 i0 _ 3 24 Try.underlying23 hi0 hz0 hz1 hz2 rfl (by omega) (.slice (some ⟨w5.heap.size, 0, none⟩) 0 0) 0 [] rfl (own_empty (Nat.le_refl _) rfl) _ _ l.length _ (cellsC l) rfl ((hr1.step k5).below ((Below.refl _ _).alloc (Nat.le_refl _) _)) (cellsC_one _) (by simp only [maxLen]; omega) (by omega) (by simp) ?_)
           intro v6 w6 hown6 hg6 hat6
           have hb6 := ((Below.refl w5.heap.size w5).alloc (Nat.le_refl _) (.cells #[] 25)).grown hg6 (by simp) (fun k hk => by simp [Value.ownBlock] at hk; omega)))
      go_ret2
      exact pairR_mk HA.out (below_step hb0 (below_step k5 hb6)) (own_less (by simpa using hown6) (Nat.le_trans hb0.size k5.size))
    · obtain ⟨k, hf, hkl⟩ := findR_lt l c (by omega)
      have HA := Lib.hid (dropR_at h1 hf)
      have HF := Lib.hid hf
      have e3 : decide ((k : Int) < 0) = false := by simp
      have hki : (k : Int) < (l.length : Int) := by omega
      have hki2 : (k : Int) + 1 ≤ (l.length : Int) := by omega
      have hkc : (k : Int) ≤ (cap : Int) := by omega
      have hkc2 : (k : Int) + 1 ≤ (cap : Int) := by omega
      have hk0 : (0 : Int) ≤ (k : Int) := by omega
      have hk1 : (0 : Int) ≤ (k : Int) + 1 := by omega
      have hk2 : ((k : Int) + 1).toNat = k + 1 := by omega
      have hkw : IntKind.i64.wrap ((k : Int) + 1) = (k : Int) + 1 := IntWalk.i64_in _ (by omega)
      clear hr h3 hf
      obtain ⟨b, off, hA, hbb, hc⟩ := hr1.ctx (by omega)
      subst hA
      clear hc
      go_enter Try.func19, Try.ntmps19
      by_cases hcc : cap = k + 1
      · have hcc2 : (cap = k + 1) = True := eq_true hcc
        clear hcc
        have HT : Hid (0 < l.length - (k + 1) → (some ⟨b, off, none⟩ : Option Addr) = (some ⟨b, off, none⟩ : Option Addr).map (·.add ((k + 1) * 3))) := by
          show 0 < l.length - (k + 1) → _
          intro h0
          have := of_eq_true hcc2
          omega
        go_wp2_with (first
          | (go_at_call 21; go_must (refine (sValidR_any _ _ l _ hr1 (by omega)).mono ?_); rintro e w2 ⟨rfl, k2⟩; have hc2 := below_cell k2)
          | (go_at_call 37; go_must (refine (sFindR_any _ _ l c _ (hr1.step k2) (by omega)).mono ?_); rw [HF.out]; rintro e w5 ⟨rfl, hb5⟩; have k5 := below_step k2 hb5; have hc5 := below_cell k5))
        have hO : ((w5.drewN 1).alloc (.cells #[] 25)).ownsRow w5.heap.size 25 3 (.slice (some ⟨w5.heap.size, 0, none⟩) 0 0) 0 [] := own_empty (w := w5.drewN 1) (Nat.le_refl _) rfl
        have b6 : Below w5.heap.size w5 ((w5.drewN 1).alloc (.cells #[] 25)) := (below_draws (Below.refl _ _) 1).alloc (Nat.le_refl _) _
        have R5 := hr1.step k5
        have hR : Reads ((w5.drewN 1).alloc (.cells #[] 25)) w5.heap.size 3 (some ⟨b, off, none⟩) l.length (cellsC l) := R5.below b6
        have X := Lib.hid (And.intro hO (And.intro b6 (And.intro hR R5)))
        have K5 := Lib.hid (below_step hb0 k5)
        have S5 := Nat.le_trans hb0.size k5.size
        clear hO b6 hR R5 hc2 hc5 hr1
        go_region_held3 (fun _ => True) (trivial)
          (first
            | (refine step_append_want ((w5.drewN 1).alloc (.cells #[] 25)) (by rfl) (.tmp 19) (.tmp 22) _ (by rfl) w5.heap.size 25 i0 _ 3 24 Try.underlying23 hi0 hz0 hz1 hz2 rfl (by omega) (.slice (some ⟨w5.heap.size, 0, none⟩) 0 0) 0 [] (by rfl) X.out.1 _ _ k _ (cellsC (l.take k)) (by rfl) (X.out.2.2.1.headC (Nat.le_of_lt hkl)) (cellsC_one _) (by simp only [maxLen]; omega) (by omega) (by simp) ?_
               intro v7 w7 hown7 hg7 hat7
               have b7 : Below w5.heap.size w5 w7 := X.out.2.1.grown hg7 (by simp) (fun j hj => by simp [Value.ownBlock] at hj; omega))
            | (refine step_append_want w7 (by rfl) (.tmp 23) (.tmp 27) _ (by rfl) w5.heap.size 25 i0 _ 3 24 Try.underlying23 hi0 hz0 hz1 hz2 rfl (by omega) v7 (0 + k) ([] ++ cellsC (l.take k)) (by rfl) hown7 _ _ (l.length - (k + 1)) _ (cellsC (l.drop (k + 1))) (by rfl) ((X.out.2.2.2.below b7).tailC (by omega) HT.out) (cellsC_one _) (by simp only [maxLen]; omega) (by omega) b7.size ?_
               intro v8 w8 hown8 hg8 hat8
               have b8 : Below w5.heap.size w5 w8 := b7.trans (app_below0 hown7 (Nat.le_refl _) b7.size hg8)
               rw [List.nil_append, ← cellsC_append] at hown8))
        go_wp2_with fail
        go_ret2
        exact pairR_mk HA.out (below_step K5.out b8) (own_less (by rw [show (l.take k ++ l.drop (k + 1)).length = 0 + k + (l.length - (k + 1)) from by simp; omega]; exact hown8) S5)
      · skip
        have HT : Hid (0 < l.length - (k + 1) → (some ⟨b, off + (k + 1) * 3, none⟩ : Option Addr) = (some ⟨b, off, none⟩ : Option Addr).map (·.add ((k + 1) * 3))) := by
          show 0 < l.length - (k + 1) → _
          intro h0
          simp only [Option.map, Addr.add]
          rw [if_neg (by omega)]
        go_wp2_with (first
          | (go_at_call 21; go_must (refine (sValidR_any _ _ l _ hr1 (by omega)).mono ?_); rintro e w2 ⟨rfl, k2⟩; have hc2 := below_cell k2)
          | (go_at_call 37; go_must (refine (sFindR_any _ _ l c _ (hr1.step k2) (by omega)).mono ?_); rw [HF.out]; rintro e w5 ⟨rfl, hb5⟩; have k5 := below_step k2 hb5; have hc5 := below_cell k5))
        have hO : ((w5.drewN 1).alloc (.cells #[] 25)).ownsRow w5.heap.size 25 3 (.slice (some ⟨w5.heap.size, 0, none⟩) 0 0) 0 [] := own_empty (w := w5.drewN 1) (Nat.le_refl _) rfl
        have b6 : Below w5.heap.size w5 ((w5.drewN 1).alloc (.cells #[] 25)) := (below_draws (Below.refl _ _) 1).alloc (Nat.le_refl _) _
        have R5 := hr1.step k5
        have hR : Reads ((w5.drewN 1).alloc (.cells #[] 25)) w5.heap.size 3 (some ⟨b, off, none⟩) l.length (cellsC l) := R5.below b6
        have X := Lib.hid (And.intro hO (And.intro b6 (And.intro hR R5)))
        have K5 := Lib.hid (below_step hb0 k5)
        have S5 := Nat.le_trans hb0.size k5.size
        clear hO b6 hR R5 hc2 hc5 hr1
        go_region_held3 (fun _ => True) (trivial)
          (first
            | (refine step_append_want ((w5.drewN 1).alloc (.cells #[] 25)) (by rfl) (.tmp 19) (.tmp 22) _ (by rfl) w5.heap.size 25 i0 _ 3 24 Try.underlying23 hi0 hz0 hz1 hz2 rfl (by omega) (.slice (some ⟨w5.heap.size, 0, none⟩) 0 0) 0 [] (by rfl) X.out.1 _ _ k _ (cellsC (l.take k)) (by rfl) (X.out.2.2.1.headC (Nat.le_of_lt hkl)) (cellsC_one _) (by simp only [maxLen]; omega) (by omega) (by simp) ?_
               intro v7 w7 hown7 hg7 hat7
               have b7 : Below w5.heap.size w5 w7 := X.out.2.1.grown hg7 (by simp) (fun j hj => by simp [Value.ownBlock] at hj; omega))
            | (refine step_append_want w7 (by rfl) (.tmp 23) (.tmp 27) _ (by rfl) w5.heap.size 25 i0 _ 3 24 Try.underlying23 hi0 hz0 hz1 hz2 rfl (by omega) v7 (0 + k) ([] ++ cellsC (l.take k)) (by rfl) hown7 _ _ (l.length - (k + 1)) _ (cellsC (l.drop (k + 1))) (by rfl) ((X.out.2.2.2.below b7).tailC (by omega) HT.out) (cellsC_one _) (by simp only [maxLen]; omega) (by omega) b7.size ?_
               intro v8 w8 hown8 hg8 hat8
               have b8 : Below w5.heap.size w5 w8 := b7.trans (app_below0 hown7 (Nat.le_refl _) b7.size hg8)
               rw [List.nil_append, ← cellsC_append] at hown8))
        go_wp2_with fail
        go_ret2
        exact pairR_mk HA.out (below_step K5.out b8) (own_less (by rw [show (l.take k ++ l.drop (k + 1)).length = 0 + k + (l.length - (k + 1)) from by simp; omega]; exact hown8) S5)
  · simp only [Bool.not_eq_true] at h1
    have HA := Lib.hid (dropR_bad (l := l) (c := c) h1)
    clear hr
    go_enter Try.func19, Try.ntmps19
    go_wp2_with (first
      | (go_at_call 21; go_must (refine (sValidR_any _ _ l _ hr1 (by omega)).mono ?_); rintro e w2 ⟨rfl, k2⟩; have hc2 := below_cell k2))
    go_ret2
    exact pairR_mk HA.out (below_step hb0 (k2.alloc k2.size _)) (own_lit (Nat.le_trans hb0.size k2.size) rfl)
end Go.Proofs.Ytbbjdpmffokcfaa
