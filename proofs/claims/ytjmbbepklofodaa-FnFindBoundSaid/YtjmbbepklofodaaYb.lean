/- What the model's adding of a bound returns. -/
import Derived.Test.YtjmbbepklofodaaYa
import Derived.Deep.RegionHeld3
namespace Go.Proofs.Ytjmbbepklofodaa
open Go.RowKit

theorem bndNe_run (a b : Ctx) (h : a ≠ b) (W : World) : (binOp .eql 29 (.agg #[.int .i64 a.id, .int .i64 a.kind, .int .i64 a.area]) (.agg #[.int .i64 b.id, .int .i64 b.kind, .int .i64 b.area])).run Try.prog W = .ok (.bool false) W := by
  by_cases e1 : a.id = b.id
  · have f1 : (a.id == b.id) = true := by simp [e1]
    by_cases e2 : a.kind = b.kind
    · have f2 : (a.kind == b.kind) = true := by simp [e2]
      have f3 : (a.area == b.area) = false := by rw [beq_eq_false_iff_ne]; exact fun e3 => h (Ctx.ext_ e1 e2 e3)
      clear e1 e2 h
      go_simp
    · have f2 : (a.kind == b.kind) = false := by simp [e2]
      clear e1 e2 h
      go_simp
  · have f1 : (a.id == b.id) = false := by simp [e1]
    clear e1 h
    go_simp
theorem bndEq_run (a : Ctx) (W : World) : (binOp .eql 29 (.agg #[.int .i64 a.id, .int .i64 a.kind, .int .i64 a.area]) (.agg #[.int .i64 a.id, .int .i64 a.kind, .int .i64 a.area])).run Try.prog W = .ok (.bool true) W := by
  go_simp
/-- A call returned a list of bounds of its own and a word. -/
def PairB (w : World) (m : List Ctx) (b : Bool) (e : Ending) (w2 : World) : Prop :=
  ∃ v, e = .returned (.tuple #[v, .bool b]) ∧ Below w.heap.size w w2 ∧ w2.ownsRow w.heap.size 29 3 v m.length (cellsC m)
theorem pairB_mk {w w2 : World} {m m2 : List Ctx} {v : Value} {b b2 : Bool} (h : m2 = m ∧ b2 = b) (hb : Below w.heap.size w w2) (ho : w2.ownsRow w.heap.size 29 3 v m.length (cellsC m)) :
    PairB w m2 b2 (.returned (.tuple #[v, .bool b])) w2 := ⟨v, by rw [h.2], hb, by rw [h.1]; exact ho⟩
theorem appB_made {w w4 : World} {l : List Ctx} {c : Ctx} {v : Value} {m : List Ctx} {ok : Bool} (h : m = l ++ [c] ∧ ok = true) (ha : Aft 29 w c w4) (ho : w4.ownsRow (w.heap.size + 1) 29 3 v (0 + l.length + 1) ([] ++ cellsC l ++ cellsC [c])) :
    PairB w m ok (.returned (.tuple #[v, .bool true])) w4 := by
  refine pairB_mk h ha.below ?_
  rw [List.nil_append, ← cellsC_append, show 0 + l.length + 1 = (l ++ [c]).length from by simp] at ho
  exact own_less ho (by omega)

set_option maxHeartbeats 4000000 in
set_option maxRecDepth 100000 in
theorem sBoundsAdd_any (A : Option Addr) (cap : Nat) (l : List Ctx) (c : Ctx) (w : World) (hr : Reads w w.heap.size 3 A l.length (cellsC l)) (hl : l.length ≤ 1000000000000) (_ : l.length ≤ cap) :
    Calls Try.prog 19 #[.slice A l.length cap, .agg #[.int .i64 c.id, .int .i64 c.kind, .int .i64 c.area]] w (PairB w (addB l c) (addOkB l c)) := by
  obtain ⟨i0, hi0, hz0, hz1, hz2⟩ := info_parts infoBound
  have hb0 := (Below.refl w.heap.size w).alloc (Nat.le_refl _) (.cells #[.int .i64 c.id, .int .i64 c.kind, .int .i64 c.area] 29)
  have hr1 := hr.step hb0
  have ha0 : Aft 29 w c (w.alloc (.cells #[.int .i64 c.id, .int .i64 c.kind, .int .i64 c.area] 29)) := Below.refl _ _
  by_cases h1 : validB l = true
  · by_cases h2 : okB c = true
    · have e2 : okB ⟨c.id, c.kind, c.area⟩ = true := h2
      by_cases h3 : l.length < 12
      · have HA := Lib.hid (addB_new h1 h2 h3)
        have e3 : decide ((12 : Int) ≤ (l.length : Int)) = false := decide_eq_false (by omega)
        have HR := Lib.hid hr
        have H3 := Lib.hid h3
        clear hr h2 h3
        go_enter Try.func19, Try.ntmps19
        go_wp2_with (first
          | (go_at_call 16; go_must (refine (sValidB_any _ _ l _ hr1 (by omega)).mono ?_); rintro e w2 ⟨rfl, k2⟩; have a2 := ha0.step k2; obtain ⟨s0, s1, s2⟩ := a2.cells)
          | (go_at_call 43; go_must (refine (l12Bound_any _ _ _ _).mono ?_); rintro e w3 ⟨rfl, hb3⟩; have a3 := a2.step hb3; obtain ⟨s0, s1, s2⟩ := a3.cells))
        have aA : Aft 29 w c ((w3.drewN 1).alloc (.cells #[] 29)) := (a3.draws 1).alloc _
        have aB : Aft 29 w c (((w3.drewN 1).alloc (.cells #[] 29)).alloc (.cells #[.int .i64 c.id, .int .i64 c.kind, .int .i64 c.area] 29)) := aA.alloc _
        have aC : Aft 29 w c (((w3.drewN 1).alloc (.cells #[.int .i64 c.id, .int .i64 c.kind, .int .i64 c.area] 29)).alloc (.cells #[] 29)) := ((a3.draws 1).alloc _).alloc _
        have hszD : w.heap.size + 1 ≤ (w3.drewN 1).heap.size := a3.sz
        have oA : ((w3.drewN 1).alloc (.cells #[] 29)).ownsRow (w.heap.size + 1) 29 3 (.slice (some ⟨w3.heap.size, 0, none⟩) 0 0) 0 [] := own_empty hszD rfl
        have oB : (((w3.drewN 1).alloc (.cells #[] 29)).alloc (.cells #[.int .i64 c.id, .int .i64 c.kind, .int .i64 c.area] 29)).ownsRow (w.heap.size + 1) 29 3 (.slice (some ⟨w3.heap.size, 0, none⟩) 0 0) 0 [] := oA.alloc _
        have oC : (((w3.drewN 1).alloc (.cells #[.int .i64 c.id, .int .i64 c.kind, .int .i64 c.area] 29)).alloc (.cells #[] 29)).ownsRow (w.heap.size + 1) 29 3 (.slice (some ⟨w3.heap.size + 1, 0, none⟩) 0 0) 0 [] := own_empty (by simp; have := a3.sz; omega) (by simp)
        have rA := aA.reads HR.out
        have rB := aB.reads HR.out
        have rC := aC.reads HR.out
        have nB : (((w3.drewN 1).alloc (.cells #[] 29)).alloc (.cells #[.int .i64 c.id, .int .i64 c.kind, .int .i64 c.area] 29)).heap[w3.heap.size + 1]? = some (.cells #[.int .i64 c.id, .int .i64 c.kind, .int .i64 c.area] 29 (0, 0)) := by
          have := heap_alloc_new ((w3.drewN 1).alloc (.cells #[] 29)) (.cells #[.int .i64 c.id, .int .i64 c.kind, .int .i64 c.area] 29)
          simpa using this
        have nC : (((w3.drewN 1).alloc (.cells #[.int .i64 c.id, .int .i64 c.kind, .int .i64 c.area] 29)).alloc (.cells #[] 29)).heap[w3.heap.size]? = some (.cells #[.int .i64 c.id, .int .i64 c.kind, .int .i64 c.area] 29 (0, 0)) := (Below.heap_alloc _ _ _ (by simp)).trans (heap_alloc_new (w3.drewN 1) (.cells #[.int .i64 c.id, .int .i64 c.kind, .int .i64 c.area] 29))
        have XA := Lib.hid (And.intro aA (And.intro oA rA))
        have XB := Lib.hid (And.intro aB (And.intro oB (And.intro rB nB)))
        have XC := Lib.hid (And.intro aC (And.intro oC (And.intro rC nC)))
        have hsz3 := a3.sz
        clear aA aB aC oA oB oC rA rB rC nB nC a2 k2 hb3
        go_region_held3 (fun w' => w'.cell? ⟨w.heap.size, 0, none⟩ = some (.int .i64 c.id) ∧ w'.cell? ⟨w.heap.size, 1, none⟩ = some (.int .i64 c.kind) ∧ w'.cell? ⟨w.heap.size, 2, none⟩ = some (.int .i64 c.area))
          (first
            | assumption
            | exact ⟨s0, s1, s2⟩
            | (refine ⟨?_, ?_, ?_⟩ <;> (first
                | assumption
                | (rw [World.cell?_alloc_lt _ _ _ (by first | omega | (simp; omega))]; first | assumption | (go_simp; done))
                | (go_simp; done))))
          (first
            | (refine step_append_want ((w3.drewN 1).alloc (.cells #[] 29)) (by rfl) (.tmp 21) (.tmp 22) _ (by rfl) (w.heap.size + 1) 29 i0 _ 3 24 Try.underlying23 hi0 hz0 hz1 hz2 rfl (by omega) (.slice (some ⟨w3.heap.size, 0, none⟩) 0 0) 0 [] (by rfl) XA.out.2.1 _ _ l.length _ (cellsC l) (by rfl) XA.out.2.2 (cellsC_one _) (by simp only [maxLen]; omega) (by omega) XA.out.1.sz ?_
               intro v2 w2 hown2 hg2 hat2
               have ha2 := Aft.app XA.out.1 XA.out.2.1 hg2
               obtain ⟨s0, s1, s2⟩ := ha2.cells
               have hs2 := ha2.sz)
            | (refine step_append_want (((w3.drewN 1).alloc (.cells #[] 29)).alloc (.cells #[.int .i64 c.id, .int .i64 c.kind, .int .i64 c.area] 29)) (by rfl) (.tmp 21) (.tmp 22) _ (by rfl) (w.heap.size + 1) 29 i0 _ 3 24 Try.underlying23 hi0 hz0 hz1 hz2 rfl (by omega) (.slice (some ⟨w3.heap.size, 0, none⟩) 0 0) 0 [] (by rfl) XB.out.2.1 _ _ l.length _ (cellsC l) (by rfl) XB.out.2.2.1 (cellsC_one _) (by simp only [maxLen]; omega) (by omega) XB.out.1.sz ?_
               intro v2 w2 hown2 hg2 hat2
               have ha2 := Aft.app XB.out.1 XB.out.2.1 hg2
               have hN := reads_new XB.out.2.2.2 hg2 (by simp [Value.ownBlock])
               obtain ⟨s0, s1, s2⟩ := ha2.cells
               have hs2 := ha2.sz)
            | (refine step_append_want (((w3.drewN 1).alloc (.cells #[.int .i64 c.id, .int .i64 c.kind, .int .i64 c.area] 29)).alloc (.cells #[] 29)) (by rfl) (.tmp 21) (.tmp 22) _ (by rfl) (w.heap.size + 1) 29 i0 _ 3 24 Try.underlying23 hi0 hz0 hz1 hz2 rfl (by omega) (.slice (some ⟨w3.heap.size + 1, 0, none⟩) 0 0) 0 [] (by rfl) XC.out.2.1 _ _ l.length _ (cellsC l) (by rfl) XC.out.2.2.1 (cellsC_one _) (by simp only [maxLen]; omega) (by omega) XC.out.1.sz ?_
               intro v2 w2 hown2 hg2 hat2
               have ha2 := Aft.app XC.out.1 XC.out.2.1 hg2
               have hN := reads_new XC.out.2.2.2 hg2 (by simp [Value.ownBlock])
               obtain ⟨s0, s1, s2⟩ := ha2.cells
               have hs2 := ha2.sz)
            | (refine step_append_want (w2.alloc (.cells #[.int .i64 c.id, .int .i64 c.kind, .int .i64 c.area] 29)) (by rfl) (.tmp 23) (.tmp 25) _ (by rfl) (w.heap.size + 1) 29 i0 _ 3 24 Try.underlying23 hi0 hz0 hz1 hz2 rfl (by omega) v2 (0 + l.length) ([] ++ cellsC l) (by rfl) (hown2.alloc _) _ _ 1 _ (cellsC [c]) (by rfl) (reads_one (B := w2.heap.size + 1) (by omega)) (cellsC_one _) (by simp only [maxLen]; omega) (by omega) (by simp; omega) ?_
               intro v3 w3 hown3 hg3 hat3
               have ha3 := Aft.app (ha2.alloc (.cells #[.int .i64 c.id, .int .i64 c.kind, .int .i64 c.area] 29)) (hown2.alloc _) hg3
               obtain ⟨s0, s1, s2⟩ := ha3.cells
               have hs3 := ha3.sz)
            | (refine step_append_want (w2) (by rfl) (.tmp 23) (.tmp 25) _ (by rfl) (w.heap.size + 1) 29 i0 _ 3 24 Try.underlying23 hi0 hz0 hz1 hz2 rfl (by omega) v2 (0 + l.length) ([] ++ cellsC l) (by rfl) hown2 _ _ 1 _ (cellsC [c]) (by rfl) hN (cellsC_one _) (by simp only [maxLen]; omega) (by omega) ha2.sz ?_
               intro v3 w3 hown3 hg3 hat3
               have ha3 := Aft.app ha2 hown2 hg3
               obtain ⟨s0, s1, s2⟩ := ha3.cells
               have hs3 := ha3.sz))
        all_goals
          go_wp2_with fail
          all_goals
            go_ret2
            exact appB_made HA.out ha3 hown3
      · have HA := Lib.hid (addB_full h1 h2 h3)
        have e3 : decide ((12 : Int) ≤ (l.length : Int)) = true := decide_eq_true (by omega)
        clear hr h3 h2
        go_enter Try.func19, Try.ntmps19
        go_wp2_with (first
          | (go_at_call 16; go_must (refine (sValidB_any _ _ l _ hr1 (by omega)).mono ?_); rintro e w2 ⟨rfl, k2⟩; have hc2 := below_cell k2)
          | (go_at_call 43; go_must (refine (l12Bound_any _ _ _ _).mono ?_); rintro e w3 ⟨rfl, hb3⟩; have k3 := below_step k2 hb3; have hc3 := below_cell k3)
          | (at_builtin
             go_must (refine wpList_append_reads _ rfl (.tmp 18) (.tmp 19) _ rfl w3.heap.size 29 i0 _ 3 24 Try.underlying23 hi0 hz0 hz1 hz2 rfl (by omega) (.slice (some ⟨w3.heap.size, 0, none⟩) 0 0) 0 [] rfl (own_empty (Nat.le_refl _) rfl) _ _ l.length _ (cellsC l) rfl ((hr1.step k3).below ((Below.refl _ _).alloc (Nat.le_refl _) _)) (cellsC_one _) (by simp only [maxLen]; omega) (by omega) (by simp) ?_)
             intro v6 w6 hown6 hg6 hat6
             have hb6 := ((Below.refl w3.heap.size w3).alloc (Nat.le_refl _) (.cells #[] 29)).grown hg6 (by simp) (fun k hk => by simp [Value.ownBlock] at hk; omega)))
        go_ret2
        exact pairB_mk HA.out (below_step hb0 (below_step k3 hb6)) (own_less (by simpa using hown6) (Nat.le_trans hb0.size k3.size))
    · simp only [Bool.not_eq_true] at h2
      have e2 : okB ⟨c.id, c.kind, c.area⟩ = false := h2
      have HA := Lib.hid (addB_bad (L := l) (b := c) (.inr h2))
      clear hr h2
      go_enter Try.func19, Try.ntmps19
      go_wp2_with (first
        | (go_at_call 16; go_must (refine (sValidB_any _ _ l _ hr1 (by omega)).mono ?_); rintro e w2 ⟨rfl, k2⟩; have hc2 := below_cell k2)
        | (go_at_call 43; go_must (refine (l12Bound_any _ _ _ _).mono ?_); rintro e w3 ⟨rfl, hb3⟩; have k3 := below_step k2 hb3; have hc3 := below_cell k3))
      go_ret2
      exact pairB_mk HA.out (below_step hb0 (k3.alloc k3.size _)) (own_lit (Nat.le_trans hb0.size k3.size) rfl)
  · simp only [Bool.not_eq_true] at h1
    have HA := Lib.hid (addB_bad (L := l) (b := c) (.inl h1))
    clear hr
    go_enter Try.func19, Try.ntmps19
    go_wp2_with (first
      | (go_at_call 16; go_must (refine (sValidB_any _ _ l _ hr1 (by omega)).mono ?_); rintro e w2 ⟨rfl, k2⟩; have hc2 := below_cell k2))
    go_ret2
    exact pairB_mk HA.out (below_step hb0 (k2.alloc k2.size _)) (own_lit (Nat.le_trans hb0.size k2.size) rfl)
end Go.Proofs.Ytjmbbepklofodaa
