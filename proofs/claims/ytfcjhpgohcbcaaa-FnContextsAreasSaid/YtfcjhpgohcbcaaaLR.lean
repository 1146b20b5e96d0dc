/-
  Whatever bytes are given: of the contexts drawn from them, where they are valid, the lists of the four areas together have as many numbers as there are contexts; the program's list of one area is the model's. No condition.
-/
import Derived.Test.YtfcjhpgohcbcaaaDd
namespace Go.Proofs.Ytfcjhpgohcbcaaa.lawAreas
open Go.ChangeShapes Go.WideShapes Go.ChangeAt Go.RowKit

/-- How many of a list's contexts lie in the areas below n. -/
def upTo (l : List Ctx) (n : Nat) : Nat := (l.filter fun c => decide (1 ≤ c.area) && decide (c.area < (n : Int))).length
theorem upTo_step (l : List Ctx) (n : Nat) (hn : 1 ≤ n) : upTo l (n+1) = upTo l n + (idsOf l (n : Int)).length := by
  induction l with
  | nil => rfl
  | cons c l ih =>
    unfold upTo idsOf at *
    rw [List.length_map] at *
    simp only [List.filter_cons]
    by_cases h1 : c.area = (n : Int)
    · have e1 : (decide (1 ≤ c.area) && decide (c.area < ((n + 1 : Nat) : Int))) = true := by simp; omega
      have e2 : (decide (1 ≤ c.area) && decide (c.area < (n : Int))) = false := by simp; omega
      have e3 : decide (c.area = (n : Int)) = true := by simp [h1]
      rw [e1, e2, e3]
      simp only [if_true, Bool.false_eq_true, if_false, List.length_cons]
      omega
    · have e3 : decide (c.area = (n : Int)) = false := by simp [h1]
      have e1 : (decide (1 ≤ c.area) && decide (c.area < ((n + 1 : Nat) : Int))) = (decide (1 ≤ c.area) && decide (c.area < (n : Int))) := by
        by_cases h2 : c.area < (n : Int)
        · simp [h2]; omega
        · simp [h2]; omega
      rw [e1, e3]
      cases (decide (1 ≤ c.area) && decide (c.area < (n : Int))) <;> simp only [if_true, Bool.false_eq_true, if_false, List.length_cons] <;> omega
theorem upTo_one (l : List Ctx) : upTo l 1 = 0 := by
  unfold upTo
  rw [List.length_eq_zero_iff, List.filter_eq_nil_iff]
  intro c _
  simp <;> omega
theorem upTo_all (l : List Ctx) (h : validL l = true) : upTo l 5 = l.length := by
  unfold upTo
  rw [List.filter_eq_self.2]
  intro c hc
  obtain ⟨k, hk⟩ := List.mem_iff_getElem?.1 hc
  have := goodAt_ok (validL_good h k) hk
  simp [okC, inR] at this
  simp; omega
theorem upTo_le (l : List Ctx) (n : Nat) : upTo l n ≤ l.length := List.length_filter_le _ _

theorem walk_short (A : Option Addr) (c : Nat) (z : List Int) (w : World) (h : Bytes w A c z) (hn : z.length ≤ 1048576) :
    Calls Try.prog 8 #[.slice A z.length c] w fun e w2 => e = .returned (.bool true) ∧ Below w.heap.size w w2 := by
  have e0 : decide ((1048576 : Int) < (z.length : Int)) = false := decide_eq_false (by omega)
  go_enter Try.func8, Try.ntmps8
  go_wp2_with fail
  refine (dArea_any A c z _ h).mono ?_
  rintro e w2 ⟨v, l, x, rfl, ho2, hl, hb2⟩
  obtain ⟨Al, cl, hv, hcap, hrl⟩ := own_slice ho2
  subst hv
  go_wp2_with fail
  refine (iArea_any _ _ l x _ hrl (by omega)).mono ?_
  rintro e w3 ⟨v3, rfl, hb3, ho3⟩
  go_wp2_with fail
  refine (sArea_any _ _ l x _ (hrl.step hb3) (by omega)).mono ?_
  rintro e w4 ⟨v4, rfl, hb4, ho4⟩
  obtain ⟨A3, c3, hv3, _, hr3⟩ := own_slice ho3
  obtain ⟨A4, c4, hv4, _, hr4⟩ := own_slice ho4
  subst hv3 hv4
  have hq := eqLI_self (areaL l x)
  have ha : (areaL l x).length ≤ l.length := by
    unfold areaL
    split
    · exact idsOf_len l x
    · simp
  go_wp2_with fail
  refine (sameInts_any _ _ _ _ (areaL l x) (areaL l x) _ (hr3.step hb4) hr4 (by omega)).mono ?_
  rintro e w5 ⟨rfl, hb5⟩
  have b25 := below_step (below_step hb3 hb4) hb5
  go_wp2_with fail
  refine (sValid_any _ _ l _ (hrl.step b25) (by omega)).mono ?_
  rintro e w6 ⟨rfl, hb6⟩
  have k6 := below_step (below_step hb2 b25) hb6
  have r6 := hrl.step (below_step b25 hb6)
  have r36 := hr3.step (below_step (below_step hb4 hb5) hb6)
  have r46 := hr4.step (below_step hb5 hb6)
  have K6 := Lib.hid k6
  have R6 := Lib.hid r6
  clear hb2 hb3 hb4 hb5 b25 hb6 k6 r6 hrl hr3 hr4 ho2 ho3 ho4
  cases hv : validL l
  · go_wp2_with fail
    refine (sameInts_any _ _ _ _ (areaL l x) (areaL l x) _ r36 r46 (by omega)).mono ?_
    rintro e w7 ⟨rfl, hb7⟩
    go_wp2_with fail
    go_ret
    exact ⟨rfl, below_step K6.out hb7⟩
  · have HV := Lib.hid hv
    clear hv r36 r46
    go_wp2_with fail
    go_loopw [7, 8] (fun t a wr => ∃ n : Nat, 1 ≤ n ∧ n ≤ 5 ∧ a = .int .i64 n ∧ t = .int .i64 (upTo l n) ∧ Below w6.heap.size w6 wr) (fun _ a _ => (5 - intOf a).toNat)
    case atStart => exact ⟨1, by omega, by omega, rfl, by rw [upTo_one]; rfl, Below.refl _ _⟩
    case round =>
      obtain ⟨n, hn1, hn2, rfl, rfl, hb⟩ := hrel
      have HB := Lib.hid hb
      clear hb
      have hu := upTo_le l n
      by_cases hn : n ≤ 4
      · have hn4 : (n : Int) ≤ 4 := by omega
        have HS := Lib.hid (upTo_step l n hn1)
        have HA := Lib.hid (areaL_yes (a := (n : Int)) HV.out)
        have hal := idsOf_len l (n : Int)
        go_wp2_with fail
        refine (iArea_any _ _ l (n : Int) _ (R6.out.step HB.out) (by omega)).mono ?_
        rintro e w7 ⟨v7, rfl, hb7, ho7⟩
        rw [HA.out] at ho7
        obtain ⟨A7, c7, hv7, _, hr7⟩ := own_slice ho7
        subst hv7
        go_wp2_with fail
        go_roundw
        case rel => exact ⟨n + 1, by omega, by omega, by go_num, by rw [HS.out]; go_num, below_step HB.out hb7⟩
        case measure => simp [intOf]; omega
      · have hn5 : n = 5 := by omega
        have HN := Lib.hid hn5
        have hn6 : (4 : Int) < (n : Int) := by omega
        clear hn5
        go_wp2_with fail
        go_ret
        exact ⟨ret_bool (by rw [HN.out, upTo_all l HV.out]; simp), below_step K6.out HB.out⟩

theorem walk (A : Option Addr) (c : Nat) (z : List Int) (w : World) (h1 : z.length ≤ c) (h2 : Reads w w.heap.size 1 A z.length (cellsB z)) (h3 : ∀ b ∈ z, 0 ≤ b ∧ b ≤ 255) (h4 : c ≤ maxLen) :
    Calls Try.prog 8 #[.slice A z.length c] w fun e w2 => e = .returned (.bool true) ∧ Below w.heap.size w w2 := by
  by_cases hn : z.length ≤ 1048576
  · exact walk_short A c z w (Bytes.mk_ h1 h2 h3 h4) hn
  · have e0 : decide ((1048576 : Int) < (z.length : Int)) = true := decide_eq_true (by omega)
    go_enter Try.func8, Try.ntmps8
    go_wp2_with fail
    go_ret
    exact ⟨rfl, Below.refl _ _⟩

set_option linter.unusedVariables false
set_option maxRecDepth 100000 in
theorem lifted (os : Os) (started : os.Started) (H : Type) (enc : TypeId × Value → H) :
    ReturnsInHanded {} Try.checked os 8 .any (Rows.fnContextsAreasSpec.pre6 enc Try.prog Try.f8 Rows.fnContextsAreasRow.domain false) (Rows.fnContextsAreasSpec.post enc Try.prog Try.f8 false true false false) := by
  refine returnsInHanded_of_change (C := Try.checked) lawOwn started (by kernel_rfl) Try.func8
    (ChangeSpec.witness6 (enc := enc) (C := Try.checked) false ⟨#[], #[.slice none 0 0], []⟩ 8 (by kernel_rfl) (by kernel_rfl) (by kernel_rfl) (by kernel_rfl)) ?_
  intro W base args ds gs before hval0 hW hcnd _
  have hval : ∀ (j : Nat) t v, Try.f8.params[j]? = some t → args[j]? = some v → Value.okWide Try.prog W .any base t v := hval0
  have hW' := hW
  obtain ⟨p, q, hA0, hV, rfl, hfz, hnd⟩ := hW
  have hA : DataW.TrodAll enc Try.prog W 0 (fun _ => true) true Try.f8.params.toList args.toList ds p := hA0
  rw [Try.params8] at hA hval
  obtain ⟨v0, vs0, d0, ds0, p0, q0, hargs, rfl, rfl, h0, r0⟩ := trodAll_cons hA
  obtain ⟨rfl, rfl, rfl⟩ := trodAll_nil r0
  obtain rfl : args = #[v0] := by cases args; simp_all
  obtain ⟨rfl, rfl⟩ := trodVars_none hV
  have k0 := h0
  have lt0 : ∀ x ∈ p0, x.block < W.heap.size := by obtain ⟨m, hm⟩ := k0; exact DataW.trod_lt m _ _ _ hm
  obtain ⟨a0, len0, cap0, rfl⟩ := okWide_slice Try.underlying22 (hval 0 22 v0 rfl rfl)
  obtain ⟨z0, hl0, hc0, hr0, hb0, hm0⟩ : ∃ z : List Int, len0 = z.length ∧ len0 ≤ cap0 ∧ Reads W W.heap.size 1 a0 len0 (cellsB z) ∧ (∀ b ∈ z, 0 ≤ b ∧ b ≤ 255) ∧ cap0 ≤ maxLen := by
    obtain ⟨fuel, hf⟩ := h0
    exact open_bytes Try.underlying22 Try.underlying5 (by kernel_rfl) (by simpa [Value.cells] using hf)
  subst hl0
  clear hA0 hval0
  refine (walk a0 cap0 z0 W hc0 hr0 hb0 hm0).mono fun e W' ⟨he, bel⟩ => ?_
  subst he
  exact ⟨_, rfl, _, _, _, [], _, [], hW', trodAll_mk1 (shut_bool Try.underlying4 _), (trodAll_cons_mk (Below.trod lawLaid (by kernel_rfl) (of_decide_eq_true (by kernel_rfl)) k0 bel lt0) trodAll_mk0), rfl, bel.frame _, fun h => by cases h⟩

theorem proved : Rows.FnContextsAreasSaid :=
  OpenClaim.holds_of_wide 8 Try.f8 rfl rfl rfl rfl rfl rfl rfl ⟨rfl, rfl, rfl, rfl, rfl⟩ rfl rfl rfl rfl rfl (by kernel_rfl) Try.func8 (by kernel_rfl)
    (of_decide_eq_true (by kernel_rfl)) (by unfold Func.isWrapper; rw [if_neg (of_decide_eq_false (by kernel_rfl))]; exact ⟨rfl, rfl⟩)
    (fun os started H enc _ => lifted os started H enc)
#print axioms proved
end Go.Proofs.Ytfcjhpgohcbcaaa.lawAreas
