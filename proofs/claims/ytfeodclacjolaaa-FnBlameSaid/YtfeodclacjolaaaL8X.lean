/-
  Whatever bytes are given: of contexts, relations and bounds drawn from them, the two bounds that the program blames leave no dates on their own; they are those that the model blames. No condition.
-/
import Derived.Test.YtfeodclacjolaaaEnt
import Derived.Test.YtfeodclacjolaaaLif
import Derived.Test.YtfeodclacjolaaaMak
import Derived.Test.YtfeodclacjolaaaZz
import Derived.Test.YtfeodclacjolaaaId
import Derived.Test.YtfeodclacjolaaaOpen
import Derived.Test.YtfeodclacjolaaaInts
import Derived.Deep.RegionHeld3
import Derived.Deep.RegionLaw
namespace Go.Proofs.Ytfeodclacjolaaa.lawBlame
open Go.ChangeShapes Go.WideShapes Go.ChangeAt Go.RowKit

set_option maxHeartbeats 2000000 in
set_option maxRecDepth 100000 in
theorem walk_short (A : Option Addr) (c : Nat) (z : List Int) (w : World) (h : Bytes w A c z) (hn : z.length ≤ 1048576) :
    Calls Try.prog 11 #[.slice A z.length c] w fun e w2 => e = .returned (.bool true) ∧ Below w.heap.size w w2 := by
  have e0 : decide ((1048576 : Int) < (z.length : Int)) = false := decide_eq_false (by omega)
  go_enter Try.func11, Try.ntmps11
  go_wp2_with fail
  refine (dBlame_any A c z _ h).mono ?_
  rintro e w2 ⟨v1, v2, v3, ids, l, bs, rfl, ho1, ho2, ho3, hl1, hl2, hl3, hb2⟩
  obtain ⟨A1, c1, hv1, hcap1, hr1⟩ := own_slice ho1
  obtain ⟨A2, c2, hv2, hcap2, hr2⟩ := own_slice ho2
  obtain ⟨A3, c3, hv3, hcap3, hr3⟩ := own_slice ho3
  subst hv1 hv2 hv3
  have HR := Lib.hid (And.intro hb2 (And.intro hr1 (And.intro hr2 hr3)))
  clear ho1 ho2 ho3 hb2 h hr1 hr2 hr3
  have hbi := iBlame_any A1 A2 A3 c1 c2 c3 ids l bs w2 HR.out.2.1 HR.out.2.2.1 HR.out.2.2.2 (by omega) (by omega) (by omega)
  have hbs := fun (W : World) (hW : Below w2.heap.size w2 W) => sBlame_any A1 A2 A3 c1 c2 c3 ids l bs W (HR.out.2.1.step hW) (HR.out.2.2.1.step hW) (HR.out.2.2.2.step hW) (by omega) (by omega) (by omega)
  have HB := Lib.hid (And.intro hbi hbs)
  clear hbi hbs
  go_wp2_with fail
  refine HB.out.1.mono ?_
  rintro e w3 ⟨v4, O, rfl, hO, hb3, ho4⟩
  obtain ⟨A4, c4, hv4, _, hr4⟩ := own_slice ho4
  subst hv4
  have H3 := Lib.hid (And.intro hb3 (And.intro hr4 hO))
  clear hb3 ho4 hr4 hO
  go_wp2_with fail
  refine (HB.out.2 _ H3.out.1).mono ?_
  rintro e w4 ⟨v5, O2, rfl, hO2, hb4, ho5⟩
  obtain rfl : O2 = O := blamed_one hO2 H3.out.2.2
  obtain ⟨A5, c5, hv5, _, hr5⟩ := own_slice ho5
  subst hv5
  have hOl : O2.length ≤ 2 := by
    rcases hO2 with ⟨rfl, _⟩ | ⟨i, k, rfl, _⟩ <;> simp
  have H4 := Lib.hid (And.intro hb4 hr5)
  have q2 := eqLI_self O2
  clear hb4 ho5 hr5 hO2
  go_wp2_with fail
  refine (sameInts_any _ _ _ _ O2 O2 _ (H3.out.2.1.step H4.out.1) H4.out.2 (by omega)).mono ?_
  rintro e w5 ⟨rfl, hb5⟩
  have k5 := below_step H4.out.1 hb5
  have k25 := below_step H3.out.1 k5
  have R := Lib.hid (And.intro (HR.out.2.1.step k25) (And.intro (HR.out.2.2.1.step k25) (And.intro (HR.out.2.2.2.step k25) (And.intro (H3.out.2.1.step k5) (And.intro (H4.out.2.step hb5) (And.intro (below_step HR.out.1 k25) H3.out.2.2))))))
  clear hb5 k5 k25
  rcases R.out.2.2.2.2.2.2 with ⟨hO, _⟩ | ⟨i, k, hO, harg, hfirst⟩
  · subst hO
    clear q2 hOl
    go_wp2_with fail
    refine (sameInts_any _ _ _ _ [] [] _ R.out.2.2.2.1 R.out.2.2.2.2.1 (by simp)).mono ?_
    rintro e w6 ⟨rfl, hb6⟩
    go_wp2_with fail
    go_ret
    exact ⟨rfl, below_step R.out.2.2.2.2.2.1 hb6⟩
  · subst hO
    have hik := hfirst.1
    have hkl := hfirst.2.1
    have hno := first_two hfirst
    have hik2 : (i : Int) < (k : Int) := by omega
    have hkl2 : (k : Int) < (bs.length : Int) := by omega
    have g1 : decide ((i : Int) < 0) = false := decide_eq_false (by omega)
    have g2 : decide ((k : Int) ≤ (i : Int)) = false := decide_eq_false (by omega)
    have g3 : decide ((bs.length : Int) ≤ (k : Int)) = false := decide_eq_false (by omega)
    have g4 : (0 : Int) ≤ (i : Int) := by omega
    have g5 : (0 : Int) ≤ (k : Int) := by omega
    have hil : (i : Int) < (bs.length : Int) := by omega
    obtain ⟨bo, oo, hAo, hbo, hco⟩ := R.out.2.2.2.1.ints (by simp)
    subst hAo
    have c0 := hco 0 (i : Int) rfl
    have c1' := hco 1 (k : Int) rfl
    obtain ⟨b, off, hA, hbb, hcx⟩ := R.out.2.2.1.ctx (by omega)
    subst hA
    obtain ⟨f1, f2, f3⟩ := hcx i _ (List.getElem?_eq_getElem (by omega))
    obtain ⟨h1, h2, h3⟩ := hcx k _ (List.getElem?_eq_getElem hkl)
    obtain ⟨x, hx⟩ : ∃ x, x = (bs[i]'(by omega)) := ⟨_, rfl⟩
    obtain ⟨y, hy⟩ : ∃ y, y = bs[k] := ⟨_, rfl⟩
    rw [← hx] at f1 f2 f3
    rw [← hy] at h1 h2 h3
    rw [atB_of (show i < bs.length by omega), atB_of hkl, ← hx, ← hy] at hno
    have hbD := below_draws (Below.refl w5.heap.size w5) 1
    have HN := Lib.hid hno
    have HK := Lib.hid (And.intro hik (And.intro hkl hik2))
    rw [Nat.add_zero] at c0
    clear hfirst harg hno hx hy hcx hco hbD hOl
    go_wp2_with fail
    go_quiet (fail)
    go_wp2_with fail
    have hbQ := below_draws (Below.refl w5.heap.size w5) nq
    have hbQ1 := below_draws hbQ 1
    have hbV := hbQ1.alloc hbQ1.size (.cells #[.int .i64 x.id, .int .i64 x.kind, .int .i64 x.area, .int .i64 y.id, .int .i64 y.kind, .int .i64 y.area] 52)
    have HV := Lib.hid hbV
    clear hbQ hbQ1 hbV
    go_region_law
      (first
        | (go_simp
           go_at_call 21
           refine (iDatesOf_any A1 A2 _ c1 c2 _ ids l [x, y] _ (R.out.1.step HV.out) (R.out.2.1.step HV.out) (reads_twoC (a := x) (b := y) (by simp)) (by omega) (by omega) (by simp)).mono ?_
           rw [HN.out]
           rintro e w7 ⟨v7, rfl, hb7, _⟩
           have H7 := Lib.hid (below_step HV.out hb7)
           clear hb7))
    all_goals
      go_wp2_with fail
      go_ret
      exact ⟨rfl, below_step R.out.2.2.2.2.2.1 H7.out⟩

theorem walk (A : Option Addr) (c : Nat) (z : List Int) (w : World) (h1 : z.length ≤ c) (h2 : Reads w w.heap.size 1 A z.length (cellsB z)) (h3 : ∀ b ∈ z, 0 ≤ b ∧ b ≤ 255) (h4 : c ≤ maxLen) :
    Calls Try.prog 11 #[.slice A z.length c] w fun e w2 => e = .returned (.bool true) ∧ Below w.heap.size w w2 := by
  by_cases hn : z.length ≤ 1048576
  · exact walk_short A c z w (Bytes.mk_ h1 h2 h3 h4) hn
  · have e0 : decide ((1048576 : Int) < (z.length : Int)) = true := decide_eq_true (by omega)
    go_enter Try.func11, Try.ntmps11
    go_wp2_with fail
    go_ret
    exact ⟨rfl, Below.refl _ _⟩

set_option linter.unusedVariables false
set_option maxRecDepth 100000 in
theorem lifted (os : Os) (started : os.Started) (H : Type) (enc : TypeId × Value → H) :
    ReturnsInHanded {} Try.checked os 11 .any (Rows.fnBlameSpec.pre6 enc Try.prog Try.f11 Rows.fnBlameRow.domain false) (Rows.fnBlameSpec.post enc Try.prog Try.f11 false true false false) := by
  refine returnsInHanded_of_change (C := Try.checked) lawOwn started (by kernel_rfl) Try.func11
    (ChangeSpec.witness6 (enc := enc) (C := Try.checked) false ⟨#[], #[.slice none 0 0], []⟩ 8 (by kernel_rfl) (by kernel_rfl) (by kernel_rfl) (by kernel_rfl)) ?_
  intro W base args ds gs before hval0 hW hcnd _
  have hval : ∀ (j : Nat) t v, Try.f11.params[j]? = some t → args[j]? = some v → Value.okWide Try.prog W .any base t v := hval0
  have hW' := hW
  obtain ⟨p, q, hA0, hV, rfl, hfz, hnd⟩ := hW
  have hA : DataW.TrodAll enc Try.prog W 0 (fun _ => true) true Try.f11.params.toList args.toList ds p := hA0
  rw [Try.params11] at hA hval
  obtain ⟨v0, vs0, d0, ds0, p0, q0, hargs, rfl, rfl, h0, r0⟩ := trodAll_cons hA
  obtain ⟨rfl, rfl, rfl⟩ := trodAll_nil r0
  obtain rfl : args = #[v0] := by cases args; simp_all
  obtain ⟨rfl, rfl⟩ := trodVars_none hV
  have k0 := h0
  have lt0 : ∀ x ∈ p0, x.block < W.heap.size := by obtain ⟨m, hm⟩ := k0; exact DataW.trod_lt m _ _ _ hm
  obtain ⟨a0, len0, cap0, rfl⟩ := okWide_slice Try.underlying22 (hval 0 22 v0 rfl rfl)
  obtain ⟨z0, hl0, hc0, hr0, hb0, hm0⟩ : ∃ z : List Int, len0 = z.length ∧ len0 ≤ cap0 ∧ Reads W W.heap.size 1 a0 len0 (cellsB z) ∧ (∀ b ∈ z, 0 ≤ b ∧ b ≤ 255) ∧ cap0 ≤ maxLen := by
    obtain ⟨fuel, hf⟩ := h0
    exact open_bytes Try.underlying22 Try.underlying5 (by kernel_rfl) (by simpa [Value.cells] using hf)
  subst hl0
  clear hA0 hval0
  refine (walk a0 cap0 z0 W hc0 hr0 hb0 hm0).mono fun e W' ⟨he, bel⟩ => ?_
  subst he
  exact ⟨_, rfl, _, _, _, [], _, [], hW', trodAll_mk1 (shut_bool Try.underlying4 _), (trodAll_cons_mk (Below.trod lawLaid (by kernel_rfl) (of_decide_eq_true (by kernel_rfl)) k0 bel lt0) trodAll_mk0), rfl, bel.frame _, fun h => by cases h⟩

theorem closed : joinedFacts Try.checked.prog 11 Try.f11 Rows.fnBlameSpec Rows.fnBlameRow = true := by
  unfold joinedFacts
  repeat (refine and_t ?_ (by first | (with_reducible exact ent) | (with_reducible refine lif_c ?_; kernel_rfl) | (with_reducible refine mak_c ?_; kernel_rfl) | kernel_rfl))
  kernel_rfl
theorem proved : Rows.FnBlameSaid :=
  OpenClaim.holds_of_wide 11 Try.f11 rfl rfl rfl rfl rfl rfl rfl ⟨rfl, rfl, rfl, rfl, rfl⟩ rfl rfl rfl rfl rfl (by kernel_rfl) Try.func11 closed
    (of_decide_eq_true (by kernel_rfl)) (by unfold Func.isWrapper; rw [if_neg (of_decide_eq_false (by kernel_rfl))]; exact ⟨rfl, rfl⟩)
    (fun os started H enc _ => lifted os started H enc)
#print axioms proved
end Go.Proofs.Ytfeodclacjolaaa.lawBlame
