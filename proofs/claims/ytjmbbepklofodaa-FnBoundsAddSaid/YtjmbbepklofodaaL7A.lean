/-
  Whatever bytes are given: a bound that the program adds to bounds drawn from them stands at their end, and what years it then allows the bound's context were allowed before and lie in the bound; its answer is the model's. No condition.
-/
import Derived.Test.YtjmbbepklofodaaYf
import Derived.Test.YtjmbbepklofodaaSt
import Derived.Test.YtjmbbepklofodaaIb
import Derived.Test.YtjmbbepklofodaaOpen
import Derived.Deep.RegionHeld3
namespace Go.Proofs.Ytjmbbepklofodaa.lawBoundsAdd
open Go.ChangeShapes Go.WideShapes Go.ChangeAt Go.RowKit

theorem narrow {l : List Ctx} {x : Ctx} (h : addOkB l x = true) (hf : boundsOkG (addB l x) x.id = true) :
    boundsOkG l x.id = true ∧ lowB l x.id ≤ lowB (addB l x) x.id ∧ highB (addB l x) x.id ≤ highB l x.id ∧ x.kind ≤ lowB (addB l x) x.id ∧ highB (addB l x) x.id ≤ x.area := by
  obtain ⟨hv, e⟩ := addB_valid h
  rw [e] at hf hv ⊢
  simp only [boundsOkG, Bool.and_eq_true, decide_eq_true_eq] at hf ⊢
  have hs : ∀ b, b ∈ l → b ∈ l ++ [x] := fun b hb => List.mem_append_left _ hb
  have h1 := lowB_sub (id := x.id) hs
  have h2 := highB_sub (id := x.id) hs
  have hx : x ∈ l ++ [x] := by simp
  have h3 := lowB_ge hx rfl
  have h4 := highB_le hx rfl
  exact ⟨⟨validB_sub hv (List.sublist_append_left _ _), hf.2.1, by omega⟩, h1, h2, h3, h4⟩
set_option maxHeartbeats 2000000 in
set_option maxRecDepth 100000 in
theorem walk_short (A : Option Addr) (c : Nat) (z : List Int) (w : World) (h : Bytes w A c z) (hn : z.length ≤ 1048576) :
    Calls Try.prog 5 #[.slice A z.length c] w fun e w2 => e = .returned (.bool true) ∧ Below w.heap.size w w2 := by
  have e0 : decide ((1048576 : Int) < (z.length : Int)) = false := decide_eq_false (by omega)
  go_enter Try.func5, Try.ntmps5
  go_wp2_with fail
  refine (dAddB_any A c z _ h).mono ?_
  rintro e w2 ⟨v, l, x, rfl, ho2, hl, hb2⟩
  obtain ⟨Al, cl, hv, hcap, hrl⟩ := own_slice ho2
  subst hv
  have a2 : Aft 29 w2 x (w2.alloc (.cells #[.int .i64 x.id, .int .i64 x.kind, .int .i64 x.area] 29)) := Below.refl _ _
  obtain ⟨s0, s1, s2⟩ := a2.cells
  go_wp2_with fail
  refine (iBoundsAdd_any _ _ l x _ (a2.list hrl) (by omega) hcap).mono ?_
  rintro e w3 ⟨v3, rfl, hb3, ho3⟩
  have a3 := a2.step hb3
  obtain ⟨s0, s1, s2⟩ := a3.cells
  go_wp2_with fail
  refine (sBoundsAdd_any _ _ l x _ (a3.list hrl) (by omega) hcap).mono ?_
  rintro e w4 ⟨v4, rfl, hb4, ho4⟩
  have a4 := a3.step hb4
  obtain ⟨s0, s1, s2⟩ := a4.cells
  obtain ⟨A3, c3, hv3, hcap3, hr3⟩ := own_slice ho3
  obtain ⟨A4, c4, hv4, _, hr4⟩ := own_slice ho4
  subst hv3 hv4
  have hq := eqLC_self (addB l x)
  have hal : (addB l x).length ≤ l.length + 1 := addB_len l x
  go_wp2_with fail
  refine (sameBound_any _ _ _ _ (addB l x) (addB l x) _ (hr3.step hb4) hr4 (by omega)).mono ?_
  rintro e w5 ⟨rfl, hb5⟩
  have a5 := a4.step hb5
  obtain ⟨s0, s1, s2⟩ := a5.cells
  have r35 := hr3.step (below_step hb4 hb5)
  have r45 := hr4.step hb5
  have HB2 := Lib.hid hb2
  cases hok : addOkB l x
  · go_wp2_with fail
    refine (sameBound_any _ _ _ _ (addB l x) (addB l x) _ r35 r45 (by omega)).mono ?_
    rintro e w9 ⟨rfl, hb9⟩
    go_wp2_with fail
    go_ret
    exact ⟨rfl, below_step (below_step HB2.out (a5).below) hb9⟩
  · go_wp2_with fail
    refine (iBoundsOf_any _ _ (addB l x) x.id _ r35 (by omega)).mono ?_
    rintro e w6 ⟨rfl, hb6⟩
    have a6 := a5.step hb6
    obtain ⟨s0, s1, s2⟩ := a6.cells
    go_wp2_with fail
    refine (iBoundsOf_any _ _ l x.id _ (a6.list hrl) (by omega)).mono ?_
    rintro e w7 ⟨rfl, hb7⟩
    have a7 := a6.step hb7
    obtain ⟨s0, s1, s2⟩ := a7.cells
    have r37 := r35.step (below_step hb6 hb7)
    have hlen : (addB l x).length = l.length + 1 := by rw [(addB_valid hok).2]; simp
    have hat : (addB l x)[l.length]? = some x := by rw [(addB_valid hok).2]; simp
    obtain ⟨bb, off, hA3, hbb, hcc⟩ := r37.ctx (by omega)
    subst hA3
    obtain ⟨y0, y1, y2⟩ := hcc _ _ hat
    have HN := Lib.hid (narrow hok)
    have A7 := Lib.hid a7
    clear r37 r35 r45 hr3 hr4 a7 a6 a5 a4 a3 a2 hcc hat ho3 ho4
    have hEq := bndEq_run x
    have hl1 : ((addB l x).length : Int) = IntKind.i64.wrap ((l.length : Int) + 1) := by
      rw [IntWalk.i64_in _ (by omega)]
      omega
    have hel := eq_true hl1
    have heb : (((addB l x).length : Int) == IntKind.i64.wrap ((l.length : Int) + 1)) = true := beq_iff_eq.2 hl1
    clear hl1
    have hlt : (l.length : Int) < ((addB l x).length : Int) := by omega
    cases hf : boundsOkG (addB l x) x.id
    · clear hlen
      go_wp2_with fail
      refine region_still_tail3 44 (by kernel_rfl) (by kernel_rfl) ?_
      intro W hW hzz hbW
      simp only [List.take_succ_cons, List.take_zero, List.drop_succ_cons, List.drop_zero]
      refine Shut.out ?_
      iterate 44
        refine still_stepH (fun K hK => ?_)
        go_simp
        refine hK _ ?_
        clear hK K
      refine still_nilH ?_
      go_wp2_with fail
      go_ret
      exact ⟨rfl, below_step (below_step HB2.out (A7.out.below)) hbW⟩
    · obtain ⟨n1, n2, n3, n4, n5⟩ := HN.out hf
      have m1 : boundsLowG l x.id ≤ boundsLowG (addB l x) x.id := by simp only [boundsLowG, n1, hf, if_true]; exact n2
      have m2 : boundsHighG (addB l x) x.id ≤ boundsHighG l x.id := by simp only [boundsHighG, n1, hf, if_true]; exact n3
      have m3 : x.kind ≤ boundsLowG (addB l x) x.id := by simp only [boundsLowG, hf, if_true]; exact n4
      have m4 : boundsHighG (addB l x) x.id ≤ x.area := by simp only [boundsHighG, hf, if_true]; exact n5
      clear n2 n3 n4 n5 hlen
      go_wp2_with fail
      refine region_still_tail3 44 (by kernel_rfl) (by kernel_rfl) ?_
      intro W hW hzz hbW
      simp only [List.take_succ_cons, List.take_zero, List.drop_succ_cons, List.drop_zero]
      refine Shut.out ?_
      iterate 44
        refine still_stepH (fun K hK => ?_)
        go_simp
        refine hK _ ?_
        clear hK K
      refine still_nilH ?_
      go_wp2_with fail
      go_ret
      exact ⟨rfl, below_step (below_step HB2.out (A7.out.below)) hbW⟩

theorem walk (A : Option Addr) (c : Nat) (z : List Int) (w : World) (h1 : z.length ≤ c) (h2 : Reads w w.heap.size 1 A z.length (cellsB z)) (h3 : ∀ b ∈ z, 0 ≤ b ∧ b ≤ 255) (h4 : c ≤ maxLen) :
    Calls Try.prog 5 #[.slice A z.length c] w fun e w2 => e = .returned (.bool true) ∧ Below w.heap.size w w2 := by
  by_cases hn : z.length ≤ 1048576
  · exact walk_short A c z w (Bytes.mk_ h1 h2 h3 h4) hn
  · have e0 : decide ((1048576 : Int) < (z.length : Int)) = true := decide_eq_true (by omega)
    go_enter Try.func5, Try.ntmps5
    go_wp2_with fail
    go_ret
    exact ⟨rfl, Below.refl _ _⟩

set_option linter.unusedVariables false
set_option maxRecDepth 100000 in
theorem lifted (os : Os) (started : os.Started) (H : Type) (enc : TypeId × Value → H) :
    ReturnsInHanded {} Try.checked os 5 .any (Rows.fnBoundsAddSpec.pre6 enc Try.prog Try.f5 Rows.fnBoundsAddRow.domain false) (Rows.fnBoundsAddSpec.post enc Try.prog Try.f5 false true false false) := by
  refine returnsInHanded_of_change (C := Try.checked) lawOwn started (by kernel_rfl) Try.func5
    (ChangeSpec.witness6 (enc := enc) (C := Try.checked) false ⟨#[], #[.slice none 0 0], []⟩ 8 (by kernel_rfl) (by kernel_rfl) (by kernel_rfl) (by kernel_rfl)) ?_
  intro W base args ds gs before hval0 hW hcnd _
  have hval : ∀ (j : Nat) t v, Try.f5.params[j]? = some t → args[j]? = some v → Value.okWide Try.prog W .any base t v := hval0
  have hW' := hW
  obtain ⟨p, q, hA0, hV, rfl, hfz, hnd⟩ := hW
  have hA : DataW.TrodAll enc Try.prog W 0 (fun _ => true) true Try.f5.params.toList args.toList ds p := hA0
  rw [Try.params5] at hA hval
  obtain ⟨v0, vs0, d0, ds0, p0, q0, hargs, rfl, rfl, h0, r0⟩ := trodAll_cons hA
  obtain ⟨rfl, rfl, rfl⟩ := trodAll_nil r0
  obtain rfl : args = #[v0] := by cases args; simp_all
  obtain ⟨rfl, rfl⟩ := trodVars_none hV
  have k0 := h0
  have lt0 : ∀ x ∈ p0, x.block < W.heap.size := by obtain ⟨m, hm⟩ := k0; exact DataW.trod_lt m _ _ _ hm
  obtain ⟨a0, len0, cap0, rfl⟩ := okWide_slice Try.underlying22 (hval 0 22 v0 rfl rfl)
  obtain ⟨z0, hl0, hc0, hr0, hb0, hm0⟩ : ∃ z : List Int, len0 = z.length ∧ len0 ≤ cap0 ∧ Reads W W.heap.size 1 a0 len0 (cellsB z) ∧ (∀ b ∈ z, 0 ≤ b ∧ b ≤ 255) ∧ cap0 ≤ maxLen := by
    obtain ⟨fuel, hf⟩ := h0
    exact open_bytes Try.underlying22 Try.underlying5 (by kernel_rfl) (by simpa [Value.cells] using hf)
  subst hl0
  clear hA0 hval0
  refine (walk a0 cap0 z0 W hc0 hr0 hb0 hm0).mono fun e W' ⟨he, bel⟩ => ?_
  subst he
  exact ⟨_, rfl, _, _, _, [], _, [], hW', trodAll_mk1 (shut_bool Try.underlying4 _), (trodAll_cons_mk (Below.trod lawLaid (by kernel_rfl) (of_decide_eq_true (by kernel_rfl)) k0 bel lt0) trodAll_mk0), rfl, bel.frame _, fun h => by cases h⟩

theorem proved : Rows.FnBoundsAddSaid :=
  OpenClaim.holds_of_wide 5 Try.f5 rfl rfl rfl rfl rfl rfl rfl ⟨rfl, rfl, rfl, rfl, rfl⟩ rfl rfl rfl rfl rfl (by kernel_rfl) Try.func5 (by kernel_rfl)
    (of_decide_eq_true (by kernel_rfl)) (by unfold Func.isWrapper; rw [if_neg (of_decide_eq_false (by kernel_rfl))]; exact ⟨rfl, rfl⟩)
    (fun os started H enc _ => lifted os started H enc)
#print axioms proved
end Go.Proofs.Ytjmbbepklofodaa.lawBoundsAdd
