/-
  Whatever bytes are given: of bounds and a further one drawn from them, both valid, the program adds it just where there are fewer than twelve, and leaves them as they are otherwise; its answer is the model's. No condition.
-/
import Derived.Test.YtjmbbepklofodaaYf
import Derived.Test.YtjmbbepklofodaaSt
import Derived.Test.YtjmbbepklofodaaIb
import Derived.Test.YtjmbbepklofodaaOpen
import Derived.Deep.RegionHeld3
namespace Go.Proofs.Ytjmbbepklofodaa.lawBoundsFull
open Go.ChangeShapes Go.WideShapes Go.ChangeAt Go.RowKit

set_option maxHeartbeats 2000000 in
set_option maxRecDepth 100000 in
theorem walk_short (A : Option Addr) (c : Nat) (z : List Int) (w : World) (h : Bytes w A c z) (hn : z.length ≤ 1048576) :
    Calls Try.prog 6 #[.slice A z.length c] w fun e w2 => e = .returned (.bool true) ∧ Below w.heap.size w w2 := by
  have e0 : decide ((1048576 : Int) < (z.length : Int)) = false := decide_eq_false (by omega)
  go_enter Try.func6, Try.ntmps6
  go_wp2_with fail
  refine (dAddB_any A c z _ h).mono ?_
  rintro e w2 ⟨v, l, x, rfl, ho2, hl, hb2⟩
  obtain ⟨Al, cl, hv, hcap, hrl⟩ := own_slice ho2
  subst hv
  have a2 : Aft 29 w2 x (w2.alloc (.cells #[.int .i64 x.id, .int .i64 x.kind, .int .i64 x.area] 29)) := Below.refl _ _
  obtain ⟨s0, s1, s2⟩ := a2.cells
  go_wp2_with fail
  refine (iBoundsAdd_any _ _ l x _ (a2.list hrl) (by omega) hcap).mono ?_
  rintro e w3 ⟨v3, rfl, hb3, ho3⟩
  have a3 := a2.step hb3
  obtain ⟨s0, s1, s2⟩ := a3.cells
  go_wp2_with fail
  refine (sBoundsAdd_any _ _ l x _ (a3.list hrl) (by omega) hcap).mono ?_
  rintro e w4 ⟨v4, rfl, hb4, ho4⟩
  have a4 := a3.step hb4
  obtain ⟨s0, s1, s2⟩ := a4.cells
  obtain ⟨A3, c3, hv3, hcap3, hr3⟩ := own_slice ho3
  obtain ⟨A4, c4, hv4, _, hr4⟩ := own_slice ho4
  subst hv3 hv4
  have hq := eqLC_self (addB l x)
  have hal : (addB l x).length ≤ l.length + 1 := addB_len l x
  go_wp2_with fail
  refine (sameBound_any _ _ _ _ (addB l x) (addB l x) _ (hr3.step hb4) hr4 (by omega)).mono ?_
  rintro e w5 ⟨rfl, hb5⟩
  have a5 := a4.step hb5
  obtain ⟨s0, s1, s2⟩ := a5.cells
  have r35 := hr3.step (below_step hb4 hb5)
  have r45 := hr4.step hb5
  have HB2 := Lib.hid hb2
  go_wp2_with fail
  refine (sValidB_any _ _ l _ (a5.list hrl) (by omega)).mono ?_
  rintro e w6 ⟨rfl, hb6⟩
  have a6 := a5.step hb6
  obtain ⟨s0, s1, s2⟩ := a6.cells
  have r36 := r35.step hb6
  have r46 := r45.step hb6
  clear r35 r45
  cases hv : validB l
  · go_wp2_with fail
    refine (sameBound_any _ _ _ _ (addB l x) (addB l x) _ r36 r46 (by omega)).mono ?_
    rintro e w9 ⟨rfl, hb9⟩
    go_wp2_with fail
    go_ret
    exact ⟨rfl, below_step (below_step HB2.out a6.below) hb9⟩
  · go_wp2_with fail
    refine (sValidB_any _ 1 [x] _ (reads_one (by simp)) (by simp)).mono ?_
    rintro e w7 ⟨rfl, hb7⟩
    have k7 : Below w6.heap.size w6 w7 := below_step ((Below.refl _ _).alloc (Nat.le_refl _) _) hb7
    have a7 := a6.step k7
    have r37 := r36.step k7
    have r47 := r46.step k7
    clear r36 r46
    cases hv2 : validB [x]
    · go_wp2_with fail
      refine (sameBound_any _ _ _ _ (addB l x) (addB l x) _ r37 r47 (by omega)).mono ?_
      rintro e w9 ⟨rfl, hb9⟩
      go_wp2_with fail
      go_ret
      exact ⟨rfl, below_step (below_step HB2.out a7.below) hb9⟩
    · have hx : okB x = true := (validB_ok hv2).1 x (by simp)
      by_cases h12 : l.length < 12
      · have hok := (addB_new hv hx h12).2
        have e12 : decide ((l.length : Int) < 12) = true := decide_eq_true (by omega)
        rw [hok]
        clear h12
        go_wp2_with fail
        go_ret
        exact ⟨rfl, below_step HB2.out a7.below⟩
      · obtain ⟨hal2, hok⟩ := addB_full hv hx h12
        have e12 : decide ((l.length : Int) < 12) = false := decide_eq_false (by omega)
        have hll := eqLC_self l
        rw [hal2] at r37
        rw [hok, hal2]
        clear h12
        go_wp2_with fail
        refine (sameBound_any _ _ _ _ l l _ r37 (a7.list hrl) (by omega)).mono ?_
        rintro e w9 ⟨rfl, hb9⟩
        go_wp2_with fail
        go_ret
        exact ⟨rfl, below_step (below_step HB2.out a7.below) hb9⟩

theorem walk (A : Option Addr) (c : Nat) (z : List Int) (w : World) (h1 : z.length ≤ c) (h2 : Reads w w.heap.size 1 A z.length (cellsB z)) (h3 : ∀ b ∈ z, 0 ≤ b ∧ b ≤ 255) (h4 : c ≤ maxLen) :
    Calls Try.prog 6 #[.slice A z.length c] w fun e w2 => e = .returned (.bool true) ∧ Below w.heap.size w w2 := by
  by_cases hn : z.length ≤ 1048576
  · exact walk_short A c z w (Bytes.mk_ h1 h2 h3 h4) hn
  · have e0 : decide ((1048576 : Int) < (z.length : Int)) = true := decide_eq_true (by omega)
    go_enter Try.func6, Try.ntmps6
    go_wp2_with fail
    go_ret
    exact ⟨rfl, Below.refl _ _⟩

set_option linter.unusedVariables false
set_option maxRecDepth 100000 in
theorem lifted (os : Os) (started : os.Started) (H : Type) (enc : TypeId × Value → H) :
    ReturnsInHanded {} Try.checked os 6 .any (Rows.fnBoundsFullSpec.pre6 enc Try.prog Try.f6 Rows.fnBoundsFullRow.domain false) (Rows.fnBoundsFullSpec.post enc Try.prog Try.f6 false true false false) := by
  refine returnsInHanded_of_change (C := Try.checked) lawOwn started (by kernel_rfl) Try.func6
    (ChangeSpec.witness6 (enc := enc) (C := Try.checked) false ⟨#[], #[.slice none 0 0], []⟩ 8 (by kernel_rfl) (by kernel_rfl) (by kernel_rfl) (by kernel_rfl)) ?_
  intro W base args ds gs before hval0 hW hcnd _
  have hval : ∀ (j : Nat) t v, Try.f6.params[j]? = some t → args[j]? = some v → Value.okWide Try.prog W .any base t v := hval0
  have hW' := hW
  obtain ⟨p, q, hA0, hV, rfl, hfz, hnd⟩ := hW
  have hA : DataW.TrodAll enc Try.prog W 0 (fun _ => true) true Try.f6.params.toList args.toList ds p := hA0
  rw [Try.params6] at hA hval
  obtain ⟨v0, vs0, d0, ds0, p0, q0, hargs, rfl, rfl, h0, r0⟩ := trodAll_cons hA
  obtain ⟨rfl, rfl, rfl⟩ := trodAll_nil r0
  obtain rfl : args = #[v0] := by cases args; simp_all
  obtain ⟨rfl, rfl⟩ := trodVars_none hV
  have k0 := h0
  have lt0 : ∀ x ∈ p0, x.block < W.heap.size := by obtain ⟨m, hm⟩ := k0; exact DataW.trod_lt m _ _ _ hm
  obtain ⟨a0, len0, cap0, rfl⟩ := okWide_slice Try.underlying22 (hval 0 22 v0 rfl rfl)
  obtain ⟨z0, hl0, hc0, hr0, hb0, hm0⟩ : ∃ z : List Int, len0 = z.length ∧ len0 ≤ cap0 ∧ Reads W W.heap.size 1 a0 len0 (cellsB z) ∧ (∀ b ∈ z, 0 ≤ b ∧ b ≤ 255) ∧ cap0 ≤ maxLen := by
    obtain ⟨fuel, hf⟩ := h0
    exact open_bytes Try.underlying22 Try.underlying5 (by kernel_rfl) (by simpa [Value.cells] using hf)
  subst hl0
  clear hA0 hval0
  refine (walk a0 cap0 z0 W hc0 hr0 hb0 hm0).mono fun e W' ⟨he, bel⟩ => ?_
  subst he
  exact ⟨_, rfl, _, _, _, [], _, [], hW', trodAll_mk1 (shut_bool Try.underlying4 _), (trodAll_cons_mk (Below.trod lawLaid (by kernel_rfl) (of_decide_eq_true (by kernel_rfl)) k0 bel lt0) trodAll_mk0), rfl, bel.frame _, fun h => by cases h⟩

theorem proved : Rows.FnBoundsFullSaid :=
  OpenClaim.holds_of_wide 6 Try.f6 rfl rfl rfl rfl rfl rfl rfl ⟨rfl, rfl, rfl, rfl, rfl⟩ rfl rfl rfl rfl rfl (by kernel_rfl) Try.func6 (by kernel_rfl)
    (of_decide_eq_true (by kernel_rfl)) (by unfold Func.isWrapper; rw [if_neg (of_decide_eq_false (by kernel_rfl))]; exact ⟨rfl, rfl⟩)
    (fun os started H enc _ => lifted os started H enc)
#print axioms proved
end Go.Proofs.Ytjmbbepklofodaa.lawBoundsFull
