/-
  Whatever bytes are given: of a context and years drawn from them, the bound that the program tells begins with the latest year, or with 0, ends with the last year there is, and is valid; its answer is the model's. No condition.
-/
import Derived.Test.YtjmbbepklofodaaYg
import Derived.Test.YtjmbbepklofodaaYc
import Derived.Test.YtjmbbepklofodaaSt
import Derived.Test.YtjmbbepklofodaaIb
import Derived.Test.YtjmbbepklofodaaOpen
import Derived.Deep.RegionHeld3
namespace Go.Proofs.Ytjmbbepklofodaa.lawFindBound
open Go.ChangeShapes Go.WideShapes Go.ChangeAt Go.RowKit

/-- Whether a year is 0 or one of the years. -/
def hitY (m : Int) (L : List Int) : Bool := decide (m = 0) || L.any (fun y => decide (y = m))
theorem hitY_next {m : Int} {L : List Int} {k : Nat} {y : Int} (hk : L[k]? = some y) : hitY m (L.take (k + 1)) = (hitY m (L.take k) || decide (y = m)) := by
  rw [List.take_add_one, hk]
  simp [hitY, Bool.or_assoc]
set_option maxHeartbeats 2000000 in
set_option maxRecDepth 100000 in
theorem walk_short (A : Option Addr) (c : Nat) (z : List Int) (w : World) (h : Bytes w A c z) (hn : z.length ≤ 1048576) :
    Calls Try.prog 8 #[.slice A z.length c] w fun e w2 => e = .returned (.bool true) ∧ Below w.heap.size w w2 := by
  have e0 : decide ((1048576 : Int) < (z.length : Int)) = false := decide_eq_false (by omega)
  go_enter Try.func8, Try.ntmps8
  go_wp2_with fail
  refine (dFindB_any A c z _ h).mono ?_
  rintro e w2 ⟨v, Y, id, rfl, ho2, hl, hb2⟩
  obtain ⟨Al, cl, hv, hcap, hrl⟩ := own_slice ho2
  subst hv
  obtain ⟨x, hx⟩ : ∃ x, x = findB id Y := ⟨_, rfl⟩
  obtain ⟨ok, hok⟩ : ∃ ok, ok = findOkB id Y := ⟨_, rfl⟩
  have HX := Lib.hid (And.intro hx hok)
  clear hx hok
  go_wp2_with fail
  refine (iFindBound_any _ _ Y id _ hrl (by omega)).mono ?_
  rintro e w3 ⟨rfl, hb3⟩
  rw [← HX.out.1, ← HX.out.2]
  have a3 : Aft 29 w3 x (w3.alloc (.cells #[.int .i64 x.id, .int .i64 x.kind, .int .i64 x.area] 29)) := Below.refl _ _
  obtain ⟨s0, s1, s2⟩ := a3.cells
  have hr3 := (hrl.step hb3).step a3.below
  go_wp2_with fail
  refine (sFindBound_any _ _ Y id _ hr3 (by omega)).mono ?_
  rintro e w4 ⟨rfl, hb4⟩
  rw [← HX.out.1, ← HX.out.2]
  have a4 := a3.step hb4
  obtain ⟨s0, s1, s2⟩ := a4.cells
  have hr4 := hr3.step hb4
  have hEq := bndEq_run x
  have HB := Lib.hid (below_step (below_step hb2 hb3) a4.below)
  have hs4 := a4.sz
  clear a3 hr3 hrl ho2 h hb2 hb3 hb4
  cases ok
  · go_wp2_with fail
    all_goals
      go_ret
      exact ⟨rfl, HB.out.alloc (by have := HB.out.size; omega) _⟩
  · have hF := HX.out.2.symm
    have hx := HX.out.1
    rw [findB_good hF] at hx
    obtain ⟨lo, hlo⟩ : ∃ lo, lo = lastY Y := ⟨_, rfl⟩
    rw [← hlo] at hx
    have hid : inR id 1 99 = true := by
      simp only [findOkB, Bool.and_eq_true] at hF
      exact hF.2
    have hyr : ∀ y ∈ Y, 0 ≤ y ∧ y ≤ 999 := by
      simp only [findOkB, Bool.and_eq_true, List.all_eq_true, inR, decide_eq_true_eq] at hF
      exact hF.1
    have hle : ∀ y ∈ Y, y ≤ lo := fun y hy => by rw [hlo]; exact maxF_ge (p := fun _ => true) (g := fun y => y) Y 0 hy rfl
    have hlo0 : 0 ≤ lo := by rw [hlo]; exact maxF_base Y 0
    have hlo9 : lo ≤ 999 := by rw [hlo]; exact maxF_most (by omega) fun y hy _ => (hyr y hy).2
    have hhit : hitY lo Y = true := by
      simp only [hitY, Bool.or_eq_true, decide_eq_true_eq, List.any_eq_true]
      rcases maxF_or (p := fun _ => true) (g := fun y => y) Y 0 with h | ⟨y, h1, _, h2⟩
      · exact .inl (hlo.trans h)
      · exact .inr ⟨y, h1, (hlo.trans h2).symm⟩
    have hval : validB [x] = true := by
      rw [hx]
      refine validB_mk (fun b hb => ?_) (by simp)
      rw [List.mem_singleton.1 hb]
      simp only [inR, Bool.and_eq_true, decide_eq_true_eq] at hid
      exact okB_mk hid hlo0 hlo9 (Int.le_refl _)
    rw [hx] at hval
    have p0 : x.id = id := by rw [hx]
    have p1 : x.kind = lo := by rw [hx]
    have p2 : x.area = 999 := by rw [hx]
    rw [p0] at s0
    rw [p1] at s1
    rw [p2] at s2
    have HV := Lib.hid (And.intro hle (And.intro hhit hval))
    have HP := Lib.hid (And.intro p0 (And.intro p1 p2))
    rw [p0, p1, p2] at hEq
    rw [p0, p1, p2]
    clear hx hF hlo hid hyr hle hhit hval p0 p1 p2 hlo0 hlo9 a4
    obtain ⟨W1, hW1⟩ : ∃ W1, W1 = w4.alloc (.cells #[.int .i64 id, .int .i64 lo, .int .i64 999] 29) := ⟨_, rfl⟩
    have hb1 : Below w4.heap.size w4 W1 := by rw [hW1]; exact (Below.refl _ _).alloc (Nat.le_refl _) _
    have hr1 := hr4.step hb1
    have t0 := (hb1.cell (p := ⟨w3.heap.size, 0, none⟩) hs4).trans s0
    have t1 := (hb1.cell (p := ⟨w3.heap.size, 1, none⟩) hs4).trans s1
    have t2 := (hb1.cell (p := ⟨w3.heap.size, 2, none⟩) hs4).trans s2
    have hs1 := Nat.lt_of_lt_of_le hs4 hb1.size
    have HW := Lib.hid hW1
    have HB1 := Lib.hid (below_step HB.out hb1)
    have T := Lib.hid (And.intro t0 (And.intro t1 (And.intro t2 hr1)))
    clear hW1 hb1 t0 t1 t2 hr1 hr4
    go_wp2_with fail
    rw [← HW.out]
    clear s0 s1 s2
    go_loopw [9, 10] (fun f i wr => ∃ k : Nat, k ≤ Y.length ∧ i = .int .i64 k ∧ f = .bool (hitY lo (Y.take k)) ∧ Below W1.heap.size W1 wr) (fun _ i _ => Y.length - (intOf i).toNat)
    case atStart => exact ⟨0, Nat.zero_le _, rfl, by simp [hitY]; rfl, Below.refl _ _⟩
    case round =>
      obtain ⟨k, hk, rfl, rfl, hbr⟩ := hrel
      have s0 := (hbr.cell (p := ⟨w3.heap.size, 0, none⟩) hs1).trans T.out.1
      have s1 := (hbr.cell (p := ⟨w3.heap.size, 1, none⟩) hs1).trans T.out.2.1
      have s2 := (hbr.cell (p := ⟨w3.heap.size, 2, none⟩) hs1).trans T.out.2.2.1
      have hrr := T.out.2.2.2.step hbr
      have HBR := Lib.hid hbr
      clear hbr
      by_cases hlt : k < Y.length
      · obtain ⟨b, off, hA, hbl, hc⟩ := hrr.ints (by omega)
        subst hA
        have hk0 : Y[k]? = some Y[k] := List.getElem?_eq_getElem hlt
        have c1 := hc k _ hk0
        have HF := Lib.hid (hitY_next (m := lo) hk0)
        have hle := HV.out.1 Y[k] (List.getElem_mem hlt)
        obtain ⟨y, hy⟩ : ∃ y, y = Y[k] := ⟨_, rfl⟩
        rw [← hy] at HF c1 hle
        obtain ⟨f, hf⟩ : ∃ f, f = hitY lo (Y.take k) := ⟨_, rfl⟩
        rw [← hf] at HF ⊢
        have e3 : decide (lo < y) = false := decide_eq_false (by omega)
        obtain ⟨p, hp⟩ : ∃ p, p = decide (y = lo) := ⟨_, rfl⟩
        have e5 : (y == lo) = p := by rw [hp]; rfl
        have HF2 : Hid (hitY lo (Y.take (k + 1)) = (f || p)) := by show _ = _; rw [HF.out, hp]
        clear hrr hk0 hc hf hp hy
        cases f
        · go_wp2_with fail
          refine region_still_tail3 10 (by kernel_rfl) (by kernel_rfl) ?_
          intro W hW hzz hbW
          simp only [List.take_succ_cons, List.take_zero, List.drop_succ_cons, List.drop_zero]
          refine Shut.out ?_
          iterate 10
            refine still_stepH (fun K hK => ?_)
            go_simp
            refine hK _ ?_
            clear hK K
          refine still_nilH ?_
          have q1 := (hW _).trans c1
          have q2 := (hW _).trans s1
          have HBW := Lib.hid (below_step HBR.out hbW)
          clear hW hzz hbW s0 s1 s2 c1
          go_wp2_with fail
          go_quiet (fail)
          go_wp2_with fail
          go_roundw
          case rel => exact ⟨k + 1, by omega, by go_num, by rw [HF2.out]; simp, below_draws HBW.out _⟩
          case measure => simp [intOf]; omega
        · go_wp2_with fail
          refine region_still_tail3 10 (by kernel_rfl) (by kernel_rfl) ?_
          intro W hW hzz hbW
          simp only [List.take_succ_cons, List.take_zero, List.drop_succ_cons, List.drop_zero]
          refine Shut.out ?_
          iterate 10
            refine still_stepH (fun K hK => ?_)
            go_simp
            refine hK _ ?_
            clear hK K
          refine still_nilH ?_
          have q1 := (hW _).trans c1
          have q2 := (hW _).trans s1
          have HBW := Lib.hid (below_step HBR.out hbW)
          clear hW hzz hbW s0 s1 s2 c1
          go_wp2_with fail
          go_quiet (fail)
          go_wp2_with fail
          go_roundw
          case rel => exact ⟨k + 1, by omega, by go_num, by rw [HF2.out]; simp, below_draws HBW.out _⟩
          case measure => simp [intOf]; omega
      · have hkl : Y.take k = Y := List.take_of_length_le (by omega)
        rw [hkl, HV.out.2.1]
        clear hkl
        go_wp2_with fail
        refine (iBoundsValid_any _ 1 [⟨id, lo, 999⟩] _ (reads_one (c := ⟨id, lo, 999⟩) (by simp)) (by simp)).mono ?_
        rw [HV.out.2.2]
        rintro e w9 ⟨rfl, hb9⟩
        go_wp2_with fail
        go_ret
        exact ⟨rfl, below_step (below_step HB1.out HBR.out) (below_step ((Below.refl _ _).alloc (Nat.le_refl _) _) hb9)⟩

theorem walk (A : Option Addr) (c : Nat) (z : List Int) (w : World) (h1 : z.length ≤ c) (h2 : Reads w w.heap.size 1 A z.length (cellsB z)) (h3 : ∀ b ∈ z, 0 ≤ b ∧ b ≤ 255) (h4 : c ≤ maxLen) :
    Calls Try.prog 8 #[.slice A z.length c] w fun e w2 => e = .returned (.bool true) ∧ Below w.heap.size w w2 := by
  by_cases hn : z.length ≤ 1048576
  · exact walk_short A c z w (Bytes.mk_ h1 h2 h3 h4) hn
  · have e0 : decide ((1048576 : Int) < (z.length : Int)) = true := decide_eq_true (by omega)
    go_enter Try.func8, Try.ntmps8
    go_wp2_with fail
    go_ret
    exact ⟨rfl, Below.refl _ _⟩

set_option linter.unusedVariables false
set_option maxRecDepth 100000 in
theorem lifted (os : Os) (started : os.Started) (H : Type) (enc : TypeId × Value → H) :
    ReturnsInHanded {} Try.checked os 8 .any (Rows.fnFindBoundSpec.pre6 enc Try.prog Try.f8 Rows.fnFindBoundRow.domain false) (Rows.fnFindBoundSpec.post enc Try.prog Try.f8 false true false false) := by
  refine returnsInHanded_of_change (C := Try.checked) lawOwn started (by kernel_rfl) Try.func8
    (ChangeSpec.witness6 (enc := enc) (C := Try.checked) false ⟨#[], #[.slice none 0 0], []⟩ 8 (by kernel_rfl) (by kernel_rfl) (by kernel_rfl) (by kernel_rfl)) ?_
  intro W base args ds gs before hval0 hW hcnd _
  have hval : ∀ (j : Nat) t v, Try.f8.params[j]? = some t → args[j]? = some v → Value.okWide Try.prog W .any base t v := hval0
  have hW' := hW
  obtain ⟨p, q, hA0, hV, rfl, hfz, hnd⟩ := hW
  have hA : DataW.TrodAll enc Try.prog W 0 (fun _ => true) true Try.f8.params.toList args.toList ds p := hA0
  rw [Try.params8] at hA hval
  obtain ⟨v0, vs0, d0, ds0, p0, q0, hargs, rfl, rfl, h0, r0⟩ := trodAll_cons hA
  obtain ⟨rfl, rfl, rfl⟩ := trodAll_nil r0
  obtain rfl : args = #[v0] := by cases args; simp_all
  obtain ⟨rfl, rfl⟩ := trodVars_none hV
  have k0 := h0
  have lt0 : ∀ x ∈ p0, x.block < W.heap.size := by obtain ⟨m, hm⟩ := k0; exact DataW.trod_lt m _ _ _ hm
  obtain ⟨a0, len0, cap0, rfl⟩ := okWide_slice Try.underlying22 (hval 0 22 v0 rfl rfl)
  obtain ⟨z0, hl0, hc0, hr0, hb0, hm0⟩ : ∃ z : List Int, len0 = z.length ∧ len0 ≤ cap0 ∧ Reads W W.heap.size 1 a0 len0 (cellsB z) ∧ (∀ b ∈ z, 0 ≤ b ∧ b ≤ 255) ∧ cap0 ≤ maxLen := by
    obtain ⟨fuel, hf⟩ := h0
    exact open_bytes Try.underlying22 Try.underlying5 (by kernel_rfl) (by simpa [Value.cells] using hf)
  subst hl0
  clear hA0 hval0
  refine (walk a0 cap0 z0 W hc0 hr0 hb0 hm0).mono fun e W' ⟨he, bel⟩ => ?_
  subst he
  exact ⟨_, rfl, _, _, _, [], _, [], hW', trodAll_mk1 (shut_bool Try.underlying4 _), (trodAll_cons_mk (Below.trod lawLaid (by kernel_rfl) (of_decide_eq_true (by kernel_rfl)) k0 bel lt0) trodAll_mk0), rfl, bel.frame _, fun h => by cases h⟩

theorem proved : Rows.FnFindBoundSaid :=
  OpenClaim.holds_of_wide 8 Try.f8 rfl rfl rfl rfl rfl rfl rfl ⟨rfl, rfl, rfl, rfl, rfl⟩ rfl rfl rfl rfl rfl (by kernel_rfl) Try.func8 (by kernel_rfl)
    (of_decide_eq_true (by kernel_rfl)) (by unfold Func.isWrapper; rw [if_neg (of_decide_eq_false (by kernel_rfl))]; exact ⟨rfl, rfl⟩)
    (fun os started H enc _ => lifted os started H enc)
#print axioms proved
end Go.Proofs.Ytjmbbepklofodaa.lawFindBound
