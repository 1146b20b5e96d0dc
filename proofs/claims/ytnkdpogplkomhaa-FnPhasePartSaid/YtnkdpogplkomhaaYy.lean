/- Texts that lie together in one: Ya, Yb, Yc. -/
import Derived.Test.YtnkdpogplkomhaaBo
import Derived.Test.YtnkdpogplkomhaaTriBound
import Derived.Deep.RegionHeld3
/- What the model's functions on bounds that only read return: validity and spans. -/
namespace Go.Proofs.Ytnkdpogplkomhaa
open Go.RowKit

theorem max_if (x y : Int) : (if x < y then y else x) = max x y := by split <;> omega
theorem min_if (x y : Int) : (if y < x then y else x) = min x y := by split <;> omega
theorem l6InB_any (n lo hi : Int) (w : World) :
    Calls Try.prog 50 #[.int .i64 n, .int .i64 lo, .int .i64 hi] w fun e w2 => e = .returned (.bool (inR n lo hi)) ∧ w = w2 := by
  go_enter Try.func50, Try.ntmps50
  go_wp2
  all_goals (go_ret; refine ⟨?_, rfl⟩; simp [inR]; try omega)

set_option maxHeartbeats 800000 in
set_option maxRecDepth 100000 in
theorem l12Bound_any (a b c : Int) (w : World) :
    Calls Try.prog 98 #[.agg #[.int .i64 a, .int .i64 b, .int .i64 c]] w fun e w2 => e = .returned (.bool (okB ⟨a, b, c⟩)) ∧ Below w.heap.size w w2 := by
  have hb := (Below.refl w.heap.size w).alloc (Nat.le_refl _) (.cells #[.int .i64 a, .int .i64 b, .int .i64 c] 44)
  go_enter Try.func98, Try.ntmps98
  go_wp2_with (go_at_call 50; refine (l6InB_any _ _ _ _).mono ?_; rintro e w2 ⟨rfl, rfl⟩)
  all_goals (go_ret; exact ⟨ret_bool (by simp [okB, *]), (Below.refl _ _).alloc (Nat.le_refl _) _⟩)

set_option maxHeartbeats 800000 in
set_option maxRecDepth 100000 in
theorem sValidB_any (A : Option Addr) (cap : Nat) (l : List Ctx) (w : World) (hr : Reads w w.heap.size 3 A l.length (cellsC l)) (hl : l.length ≤ 1000000000000000) :
    Calls Try.prog 81 #[.slice A l.length cap] w fun e w2 => e = .returned (.bool (validB l)) ∧ Below w.heap.size w w2 := by
  go_enter Try.func81, Try.ntmps81
  go_wp2_with fail
  go_loopw [3] (fun i wr => ∃ k : Nat, k ≤ l.length ∧ i = .int .i64 k ∧ Below w.heap.size w wr ∧ ∀ j (hj : j < l.length), j < k → okB l[j] = true) (fun i _ => l.length - (intOf i).toNat)
  case atStart => exact ⟨0, Nat.zero_le _, rfl, Below.refl _ _, fun j _ h => absurd h (by omega)⟩
  case round =>
    obtain ⟨k, hk, rfl, hb, hg⟩ := hrel
    have HG := Lib.hid hg; clear hg
    by_cases hlt : k < l.length
    · obtain ⟨b, off, hA, hbl, hc⟩ := (hr.below hb).ctx (by omega)
      subst hA
      have hk0 : l[k]? = some l[k] := List.getElem?_eq_getElem hlt
      have HK := Lib.hid hk0
      obtain ⟨c1, c2, c3⟩ := hc k _ hk0
      clear hr hk0 hc
      have HB := Lib.hid hb
      have hsz := hb.size
      clear hb
      cases h1 : okB l[k]
      · have HO := Lib.hid h1
        have e1 : okB ⟨l[k].id, l[k].kind, l[k].area⟩ = false := h1
        clear h1
        go_wp2_with (go_at_call 98; go_must (refine (l12Bound_any _ _ _ _).mono ?_); rintro e w2 ⟨rfl, hb2⟩)
        go_ret
        exact ⟨ret_bool (validB_bad (List.mem_of_getElem? HK.out) HO.out).symm, HB.out.trans (hb2.mono hsz)⟩
      · have HO := Lib.hid h1
        have e1 : okB ⟨l[k].id, l[k].kind, l[k].area⟩ = true := h1
        clear h1
        go_wp2_with (go_at_call 98; go_must (refine (l12Bound_any _ _ _ _).mono ?_); rintro e w2 ⟨rfl, hb2⟩)
        go_roundw
        case rel =>
          refine ⟨k + 1, by omega, by go_num, HB.out.trans (hb2.mono hsz), fun j hj hjk => ?_⟩
          by_cases hj2 : j < k
          · exact HG.out j hj hj2
          · obtain rfl : j = k := by omega
            exact HO.out
        case measure => simp [intOf]; omega
    · have hkl : k = l.length := by omega
      go_wp2_with fail
      go_ret
      refine ⟨ret_bool ?_, hb⟩
      have hall : l.all okB = true := by
        rw [List.all_eq_true]
        intro b hb
        obtain ⟨j, hj, rfl⟩ := List.getElem_of_mem hb
        exact HG.out j hj (by omega)
      show _ = validB l
      unfold validB
      rw [hall, Bool.true_and, decide_eq_decide]
      omega

set_option maxHeartbeats 2000000 in
set_option maxRecDepth 100000 in
theorem sSpan_any (A : Option Addr) (cap : Nat) (l : List Ctx) (id : Int) (w : World) (hr : Reads w w.heap.size 3 A l.length (cellsC l)) (hl : l.length ≤ 1000000000000000) :
    Calls Try.prog 49 #[.slice A l.length cap, .int .i64 id] w fun e w2 => e = .returned (.tuple #[.int .i64 (lowB l id), .int .i64 (highB l id)]) ∧ Below w.heap.size w w2 := by
  go_enter Try.func49, Try.ntmps49
  go_wp2_with fail
  go_loopw [6, 7, 8] (fun a b i wr => ∃ k : Nat, k ≤ l.length ∧ i = .int .i64 k ∧ a = .int .i64 (maxF (ofB id) Ctx.kind (l.take k) 0) ∧ b = .int .i64 (minF (ofB id) Ctx.area (l.take k) 999) ∧ Below w.heap.size w wr) (fun _ _ i _ => l.length - (intOf i).toNat)
  case atStart => exact ⟨0, Nat.zero_le _, rfl, rfl, rfl, Below.refl _ _⟩
  case round =>
    obtain ⟨k, hk, rfl, rfl, rfl, hb⟩ := hrel
    by_cases hlt : k < l.length
    · obtain ⟨b, off, hA, hbl, hc⟩ := (hr.below hb).ctx (by omega)
      subst hA
      have hk0 : l[k]? = some l[k] := List.getElem?_eq_getElem hlt
      have HX := Lib.hid (maxF_next (p := ofB id) (g := Ctx.kind) (a := 0) hk0)
      have HY := Lib.hid (minF_next (p := ofB id) (g := Ctx.area) (a := 999) hk0)
      obtain ⟨x, hx⟩ : ∃ x, x = maxF (ofB id) Ctx.kind (l.take k) 0 := ⟨_, rfl⟩
      obtain ⟨y, hy⟩ : ∃ y, y = minF (ofB id) Ctx.area (l.take k) 999 := ⟨_, rfl⟩
      rw [← hx] at HX ⊢
      rw [← hy] at HY ⊢
      obtain ⟨c1, c2, c3⟩ := hc k _ hk0
      clear hr hk0 hc hx hy
      have HB := Lib.hid hb
      clear hb
      by_cases h1 : l[k].id = id
      · have e1 : (l[k].id == id) = true := by simp [h1]
        have H1 : Hid (ofB id l[k] = true) := by show ofB id l[k] = true; simp [ofB, h1]
        clear h1
        go_wp2_with fail
        go_roundw
        case rel => exact ⟨k + 1, by omega, by go_num, by rw [HX.out, if_pos H1.out, max_if], by rw [HY.out, if_pos H1.out, min_if], HB.out⟩
        case measure => simp [intOf]; omega
      · have e1 : (l[k].id == id) = false := by simp [h1]
        have H1 : Hid (¬ ofB id l[k] = true) := by show ¬ ofB id l[k] = true; simp [ofB, h1]
        clear h1
        go_wp2_with fail
        go_roundw
        case rel => exact ⟨k + 1, by omega, by go_num, by rw [HX.out, if_neg H1.out], by rw [HY.out, if_neg H1.out], HB.out⟩
        case measure => simp [intOf]; omega
    · have hkl : k = l.length := by omega
      have HK := Lib.hid hkl
      clear hkl
      go_wp2_with fail
      go_ret2
      refine ⟨?_, hb⟩
      rw [HK.out, List.take_length]
      rfl

end Go.Proofs.Ytnkdpogplkomhaa

/- What the model's adding of a bound returns. -/
namespace Go.Proofs.Ytnkdpogplkomhaa
open Go.RowKit

theorem bndNe_run (a b : Ctx) (h : a ≠ b) (W : World) : (binOp .eql 44 (.agg #[.int .i64 a.id, .int .i64 a.kind, .int .i64 a.area]) (.agg #[.int .i64 b.id, .int .i64 b.kind, .int .i64 b.area])).run Try.prog W = .ok (.bool false) W := by
  by_cases e1 : a.id = b.id
  · have f1 : (a.id == b.id) = true := by simp [e1]
    by_cases e2 : a.kind = b.kind
    · have f2 : (a.kind == b.kind) = true := by simp [e2]
      have f3 : (a.area == b.area) = false := by rw [beq_eq_false_iff_ne]; exact fun e3 => h (Ctx.ext_ e1 e2 e3)
      clear e1 e2 h
      go_simp
    · have f2 : (a.kind == b.kind) = false := by simp [e2]
      clear e1 e2 h
      go_simp
  · have f1 : (a.id == b.id) = false := by simp [e1]
    clear e1 h
    go_simp
theorem bndEq_run (a : Ctx) (W : World) : (binOp .eql 44 (.agg #[.int .i64 a.id, .int .i64 a.kind, .int .i64 a.area]) (.agg #[.int .i64 a.id, .int .i64 a.kind, .int .i64 a.area])).run Try.prog W = .ok (.bool true) W := by
  go_simp
/-- A call returned a list of bounds of its own and a word. -/
def PairB (w : World) (m : List Ctx) (b : Bool) (e : Ending) (w2 : World) : Prop :=
  ∃ v, e = .returned (.tuple #[v, .bool b]) ∧ Below w.heap.size w w2 ∧ w2.ownsRow w.heap.size 44 3 v m.length (cellsC m)
theorem pairB_mk {w w2 : World} {m m2 : List Ctx} {v : Value} {b b2 : Bool} (h : m2 = m ∧ b2 = b) (hb : Below w.heap.size w w2) (ho : w2.ownsRow w.heap.size 44 3 v m.length (cellsC m)) :
    PairB w m2 b2 (.returned (.tuple #[v, .bool b])) w2 := ⟨v, by rw [h.2], hb, by rw [h.1]; exact ho⟩
theorem appB_made {w w4 : World} {l : List Ctx} {c : Ctx} {v : Value} {m : List Ctx} {ok : Bool} (h : m = l ++ [c] ∧ ok = true) (ha : Aft 44 w c w4) (ho : w4.ownsRow (w.heap.size + 1) 44 3 v (0 + l.length + 1) ([] ++ cellsC l ++ cellsC [c])) :
    PairB w m ok (.returned (.tuple #[v, .bool true])) w4 := by
  refine pairB_mk h ha.below ?_
  rw [List.nil_append, ← cellsC_append, show 0 + l.length + 1 = (l ++ [c]).length from by simp] at ho
  exact own_less ho (by omega)

set_option maxHeartbeats 4000000 in
set_option maxRecDepth 100000 in
theorem sBoundsAdd_any (A : Option Addr) (cap : Nat) (l : List Ctx) (c : Ctx) (w : World) (hr : Reads w w.heap.size 3 A l.length (cellsC l)) (hl : l.length ≤ 1000000000000) (_ : l.length ≤ cap) :
    Calls Try.prog 95 #[.slice A l.length cap, .agg #[.int .i64 c.id, .int .i64 c.kind, .int .i64 c.area]] w (PairB w (addB l c) (addOkB l c)) := by
  obtain ⟨i0, hi0, hz0, hz1, hz2⟩ := info_parts infoBound
  have hb0 := (Below.refl w.heap.size w).alloc (Nat.le_refl _) (.cells #[.int .i64 c.id, .int .i64 c.kind, .int .i64 c.area] 44)
  have hr1 := hr.step hb0
  have ha0 : Aft 44 w c (w.alloc (.cells #[.int .i64 c.id, .int .i64 c.kind, .int .i64 c.area] 44)) := Below.refl _ _
  by_cases h1 : validB l = true
  · by_cases h2 : okB c = true
    · have e2 : okB ⟨c.id, c.kind, c.area⟩ = true := h2
      by_cases h3 : l.length < 12
      · have HA := Lib.hid (addB_new h1 h2 h3)
        have e3 : decide ((12 : Int) ≤ (l.length : Int)) = false := decide_eq_false (by omega)
        have HR := Lib.hid hr
        have H3 := Lib.hid h3
        clear hr h2 h3
        go_enter Try.func95, Try.ntmps95
        go_wp2_with (first
          | (go_at_call 81; go_must (refine (sValidB_any _ _ l _ hr1 (by omega)).mono ?_); rintro e w2 ⟨rfl, k2⟩; have a2 := ha0.step k2; obtain ⟨s0, s1, s2⟩ := a2.cells)
          | (go_at_call 98; go_must (refine (l12Bound_any _ _ _ _).mono ?_); rintro e w3 ⟨rfl, hb3⟩; have a3 := a2.step hb3; obtain ⟨s0, s1, s2⟩ := a3.cells))
        have aA : Aft 44 w c ((w3.drewN 1).alloc (.cells #[] 44)) := (a3.draws 1).alloc _
        have aB : Aft 44 w c (((w3.drewN 1).alloc (.cells #[] 44)).alloc (.cells #[.int .i64 c.id, .int .i64 c.kind, .int .i64 c.area] 44)) := aA.alloc _
        have aC : Aft 44 w c (((w3.drewN 1).alloc (.cells #[.int .i64 c.id, .int .i64 c.kind, .int .i64 c.area] 44)).alloc (.cells #[] 44)) := ((a3.draws 1).alloc _).alloc _
        have hszD : w.heap.size + 1 ≤ (w3.drewN 1).heap.size := a3.sz
        have oA : ((w3.drewN 1).alloc (.cells #[] 44)).ownsRow (w.heap.size + 1) 44 3 (.slice (some ⟨w3.heap.size, 0, none⟩) 0 0) 0 [] := own_empty hszD rfl
        have oB : (((w3.drewN 1).alloc (.cells #[] 44)).alloc (.cells #[.int .i64 c.id, .int .i64 c.kind, .int .i64 c.area] 44)).ownsRow (w.heap.size + 1) 44 3 (.slice (some ⟨w3.heap.size, 0, none⟩) 0 0) 0 [] := oA.alloc _
        have oC : (((w3.drewN 1).alloc (.cells #[.int .i64 c.id, .int .i64 c.kind, .int .i64 c.area] 44)).alloc (.cells #[] 44)).ownsRow (w.heap.size + 1) 44 3 (.slice (some ⟨w3.heap.size + 1, 0, none⟩) 0 0) 0 [] := own_empty (by simp; have := a3.sz; omega) (by simp)
        have rA := aA.reads HR.out
        have rB := aB.reads HR.out
        have rC := aC.reads HR.out
        have nB : (((w3.drewN 1).alloc (.cells #[] 44)).alloc (.cells #[.int .i64 c.id, .int .i64 c.kind, .int .i64 c.area] 44)).heap[w3.heap.size + 1]? = some (.cells #[.int .i64 c.id, .int .i64 c.kind, .int .i64 c.area] 44 (0, 0)) := by
          have := heap_alloc_new ((w3.drewN 1).alloc (.cells #[] 44)) (.cells #[.int .i64 c.id, .int .i64 c.kind, .int .i64 c.area] 44)
          simpa using this
        have nC : (((w3.drewN 1).alloc (.cells #[.int .i64 c.id, .int .i64 c.kind, .int .i64 c.area] 44)).alloc (.cells #[] 44)).heap[w3.heap.size]? = some (.cells #[.int .i64 c.id, .int .i64 c.kind, .int .i64 c.area] 44 (0, 0)) := (Below.heap_alloc _ _ _ (by simp)).trans (heap_alloc_new (w3.drewN 1) (.cells #[.int .i64 c.id, .int .i64 c.kind, .int .i64 c.area] 44))
        have XA := Lib.hid (And.intro aA (And.intro oA rA))
        have XB := Lib.hid (And.intro aB (And.intro oB (And.intro rB nB)))
        have XC := Lib.hid (And.intro aC (And.intro oC (And.intro rC nC)))
        have hsz3 := a3.sz
        clear aA aB aC oA oB oC rA rB rC nB nC a2 k2 hb3
        go_region_held3 (fun w' => w'.cell? ⟨w.heap.size, 0, none⟩ = some (.int .i64 c.id) ∧ w'.cell? ⟨w.heap.size, 1, none⟩ = some (.int .i64 c.kind) ∧ w'.cell? ⟨w.heap.size, 2, none⟩ = some (.int .i64 c.area))
          (first
            | assumption
            | exact ⟨s0, s1, s2⟩
            | (refine ⟨?_, ?_, ?_⟩ <;> (first
                | assumption
                | (rw [World.cell?_alloc_lt _ _ _ (by first | omega | (simp; omega))]; first | assumption | (go_simp; done))
                | (go_simp; done))))
          (first
            | (refine step_append_want ((w3.drewN 1).alloc (.cells #[] 44)) (by rfl) (.tmp 21) (.tmp 22) _ (by rfl) (w.heap.size + 1) 44 i0 _ 3 24 Try.underlying25 hi0 hz0 hz1 hz2 rfl (by omega) (.slice (some ⟨w3.heap.size, 0, none⟩) 0 0) 0 [] (by rfl) XA.out.2.1 _ _ l.length _ (cellsC l) (by rfl) XA.out.2.2 (cellsC_one _) (by simp only [maxLen]; omega) (by omega) XA.out.1.sz ?_
               intro v2 w2 hown2 hg2 hat2
               have ha2 := Aft.app XA.out.1 XA.out.2.1 hg2
               obtain ⟨s0, s1, s2⟩ := ha2.cells
               have hs2 := ha2.sz)
            | (refine step_append_want (((w3.drewN 1).alloc (.cells #[] 44)).alloc (.cells #[.int .i64 c.id, .int .i64 c.kind, .int .i64 c.area] 44)) (by rfl) (.tmp 21) (.tmp 22) _ (by rfl) (w.heap.size + 1) 44 i0 _ 3 24 Try.underlying25 hi0 hz0 hz1 hz2 rfl (by omega) (.slice (some ⟨w3.heap.size, 0, none⟩) 0 0) 0 [] (by rfl) XB.out.2.1 _ _ l.length _ (cellsC l) (by rfl) XB.out.2.2.1 (cellsC_one _) (by simp only [maxLen]; omega) (by omega) XB.out.1.sz ?_
               intro v2 w2 hown2 hg2 hat2
               have ha2 := Aft.app XB.out.1 XB.out.2.1 hg2
               have hN := reads_new XB.out.2.2.2 hg2 (by simp [Value.ownBlock])
               obtain ⟨s0, s1, s2⟩ := ha2.cells
               have hs2 := ha2.sz)
            | (refine step_append_want (((w3.drewN 1).alloc (.cells #[.int .i64 c.id, .int .i64 c.kind, .int .i64 c.area] 44)).alloc (.cells #[] 44)) (by rfl) (.tmp 21) (.tmp 22) _ (by rfl) (w.heap.size + 1) 44 i0 _ 3 24 Try.underlying25 hi0 hz0 hz1 hz2 rfl (by omega) (.slice (some ⟨w3.heap.size + 1, 0, none⟩) 0 0) 0 [] (by rfl) XC.out.2.1 _ _ l.length _ (cellsC l) (by rfl) XC.out.2.2.1 (cellsC_one _) (by simp only [maxLen]; omega) (by omega) XC.out.1.sz ?_
               intro v2 w2 hown2 hg2 hat2
               have ha2 := Aft.app XC.out.1 XC.out.2.1 hg2
               have hN := reads_new XC.out.2.2.2 hg2 (by simp [Value.ownBlock])
               obtain ⟨s0, s1, s2⟩ := ha2.cells
               have hs2 := ha2.sz)
            | (refine step_append_want (w2.alloc (.cells #[.int .i64 c.id, .int .i64 c.kind, .int .i64 c.area] 44)) (by rfl) (.tmp 23) (.tmp 25) _ (by rfl) (w.heap.size + 1) 44 i0 _ 3 24 Try.underlying25 hi0 hz0 hz1 hz2 rfl (by omega) v2 (0 + l.length) ([] ++ cellsC l) (by rfl) (hown2.alloc _) _ _ 1 _ (cellsC [c]) (by rfl) (reads_one (B := w2.heap.size + 1) (by omega)) (cellsC_one _) (by simp only [maxLen]; omega) (by omega) (by simp; omega) ?_
               intro v3 w3 hown3 hg3 hat3
               have ha3 := Aft.app (ha2.alloc (.cells #[.int .i64 c.id, .int .i64 c.kind, .int .i64 c.area] 44)) (hown2.alloc _) hg3
               obtain ⟨s0, s1, s2⟩ := ha3.cells
               have hs3 := ha3.sz)
            | (refine step_append_want (w2) (by rfl) (.tmp 23) (.tmp 25) _ (by rfl) (w.heap.size + 1) 44 i0 _ 3 24 Try.underlying25 hi0 hz0 hz1 hz2 rfl (by omega) v2 (0 + l.length) ([] ++ cellsC l) (by rfl) hown2 _ _ 1 _ (cellsC [c]) (by rfl) hN (cellsC_one _) (by simp only [maxLen]; omega) (by omega) ha2.sz ?_
               intro v3 w3 hown3 hg3 hat3
               have ha3 := Aft.app ha2 hown2 hg3
               obtain ⟨s0, s1, s2⟩ := ha3.cells
               have hs3 := ha3.sz))
        all_goals
          go_wp2_with fail
          all_goals
            go_ret2
            exact appB_made HA.out ha3 hown3
      · have HA := Lib.hid (addB_full h1 h2 h3)
        have e3 : decide ((12 : Int) ≤ (l.length : Int)) = true := decide_eq_true (by omega)
        clear hr h3 h2
        go_enter Try.func95, Try.ntmps95
        go_wp2_with (first
          | (go_at_call 81; go_must (refine (sValidB_any _ _ l _ hr1 (by omega)).mono ?_); rintro e w2 ⟨rfl, k2⟩; have hc2 := below_cell k2)
          | (go_at_call 98; go_must (refine (l12Bound_any _ _ _ _).mono ?_); rintro e w3 ⟨rfl, hb3⟩; have k3 := below_step k2 hb3; have hc3 := below_cell k3)
          | (at_builtin
             go_must (refine wpList_append_reads _ rfl (.tmp 18) (.tmp 19) _ rfl w3.heap.size 44 i0 _ 3 24 Try.underlying25 hi0 hz0 hz1 hz2 rfl (by omega) (.slice (some ⟨w3.heap.size, 0, none⟩) 0 0) 0 [] rfl (own_empty (Nat.le_refl _) rfl) _ _ l.length _ (cellsC l) rfl ((hr1.step k3).below ((Below.refl _ _).alloc (Nat.le_refl _) _)) (cellsC_one _) (by simp only [maxLen]; omega) (by omega) (by simp) ?_)
             intro v6 w6 hown6 hg6 hat6
             have hb6 := ((Below.refl w3.heap.size w3).alloc (Nat.le_refl _) (.cells #[] 44)).grown hg6 (by simp) (fun k hk => by simp [Value.ownBlock] at hk; omega)))
        go_ret2
        exact pairB_mk HA.out (below_step hb0 (below_step k3 hb6)) (own_less (by simpa using hown6) (Nat.le_trans hb0.size k3.size))
    · simp only [Bool.not_eq_true] at h2
      have e2 : okB ⟨c.id, c.kind, c.area⟩ = false := h2
      have HA := Lib.hid (addB_bad (L := l) (b := c) (.inr h2))
      clear hr h2
      go_enter Try.func95, Try.ntmps95
      go_wp2_with (first
        | (go_at_call 81; go_must (refine (sValidB_any _ _ l _ hr1 (by omega)).mono ?_); rintro e w2 ⟨rfl, k2⟩; have hc2 := below_cell k2)
        | (go_at_call 98; go_must (refine (l12Bound_any _ _ _ _).mono ?_); rintro e w3 ⟨rfl, hb3⟩; have k3 := below_step k2 hb3; have hc3 := below_cell k3))
      go_ret2
      exact pairB_mk HA.out (below_step hb0 (k3.alloc k3.size _)) (own_lit (Nat.le_trans hb0.size k3.size) rfl)
  · simp only [Bool.not_eq_true] at h1
    have HA := Lib.hid (addB_bad (L := l) (b := c) (.inl h1))
    clear hr
    go_enter Try.func95, Try.ntmps95
    go_wp2_with (first
      | (go_at_call 81; go_must (refine (sValidB_any _ _ l _ hr1 (by omega)).mono ?_); rintro e w2 ⟨rfl, k2⟩; have hc2 := below_cell k2))
    go_ret2
    exact pairB_mk HA.out (below_step hb0 (k2.alloc k2.size _)) (own_lit (Nat.le_trans hb0.size k2.size) rfl)
end Go.Proofs.Ytnkdpogplkomhaa

/- What the model's bound of finds is. -/
namespace Go.Proofs.Ytnkdpogplkomhaa
open Go.RowKit

theorem lastY_app (Y : List Int) (y : Int) : lastY (Y ++ [y]) = max (lastY Y) y := by
  unfold lastY
  rw [maxF_app]
  simp [maxF]
theorem findB_bad {id : Int} {Y : List Int} (h : findOkB id Y = false) : findB id Y = ⟨0, 0, 0⟩ := by simp [findB, h]
theorem findB_good {id : Int} {Y : List Int} (h : findOkB id Y = true) : findB id Y = ⟨id, lastY Y, 999⟩ := by simp [findB, h]
theorem findOk_no {id : Int} {Y : List Int} {k : Nat} {y : Int} (hk : Y[k]? = some y) (h : inR y 0 999 = false) : findOkB id Y = false := by
  have : Y.all (fun y => inR y 0 999) = false := by
    rw [List.all_eq_false]
    exact ⟨y, List.mem_of_getElem? hk, by simp [h]⟩
  simp [findOkB, this]
theorem findOk_id {id : Int} {Y : List Int} (h : inR id 1 99 = false) : findOkB id Y = false := by simp [findOkB, h]
theorem findOk_yes {id : Int} {Y : List Int} (h : inR id 1 99 = true) (ha : ∀ j (hj : j < Y.length), inR Y[j] 0 999 = true) : findOkB id Y = true := by
  have : Y.all (fun y => inR y 0 999) = true := by
    rw [List.all_eq_true]
    intro y hy
    obtain ⟨j, hj, rfl⟩ := List.getElem_of_mem hy
    exact ha j hj
  simp [findOkB, this, h]
/-- A bound and a word. -/
def BoundOk (w : World) (b : Ctx) (ok : Bool) (e : Ending) (w2 : World) : Prop := e = .returned (.tuple #[.agg #[.int .i64 b.id, .int .i64 b.kind, .int .i64 b.area], .bool ok]) ∧ Below w.heap.size w w2
theorem boundOk_mk {w w2 : World} {b : Ctx} {ok ok2 : Bool} {x y z : Int} (h : b = ⟨x, y, z⟩ ∧ ok = ok2) (hb : Below w.heap.size w w2) : BoundOk w b ok (.returned (.tuple #[.agg #[.int .i64 x, .int .i64 y, .int .i64 z], .bool ok2])) w2 := by
  obtain ⟨rfl, rfl⟩ := h
  exact ⟨rfl, hb⟩
end Go.Proofs.Ytnkdpogplkomhaa
