/-
  Whatever bytes are given: of finds drawn from them, the program's bounds have one for each find, and it begins no earlier; they are the model's. No condition.
-/
import Derived.Test.YtopdmcnbchpihaaEnt
import Derived.Test.YtopdmcnbchpihaaLif
import Derived.Test.YtopdmcnbchpihaaMak
import Derived.Test.YtopdmcnbchpihaaFdb
import Derived.Test.YtopdmcnbchpihaaFnb
import Derived.Test.YtopdmcnbchpihaaIfb
import Derived.Test.YtopdmcnbchpihaaTriBound
import Derived.Test.YtopdmcnbchpihaaOpen
import Derived.Deep.RegionHeld3
namespace Go.Proofs.Ytopdmcnbchpihaa.lawFindsBoundsAll
open Go.ChangeShapes Go.WideShapes Go.ChangeAt Go.RowKit

/-- Whether a bound is of the find's context, and begins no earlier than the find. -/
def isB (f b : Ctx) : Bool := decide (b.id = f.id) && decide (f.area ≤ b.kind)
theorem anyB_next {f : Ctx} {M : List Ctx} {i : Nat} {b : Ctx} (hb : M[i]? = some b) : (M.take (i + 1)).any (isB f) = ((M.take i).any (isB f) || isB f b) := by
  rw [List.take_add_one, hb]
  simp
set_option maxHeartbeats 2000000 in
set_option maxRecDepth 100000 in
theorem walk_short (A : Option Addr) (c : Nat) (z : List Int) (w : World) (h : Bytes w A c z) (hn : z.length ≤ 1048576) :
    Calls Try.prog 4 #[.slice A z.length c] w fun e w2 => e = .returned (.bool true) ∧ Below w.heap.size w w2 := by
  have e0 : decide ((1048576 : Int) < (z.length : Int)) = false := decide_eq_false (by omega)
  go_enter Try.func4, Try.ntmps4
  go_wp2_with fail
  refine (dBoundsFd_any A c z _ h).mono ?_
  rintro e w2 ⟨v1, L, rfl, ho1, hl1, hb2⟩
  obtain ⟨A1, c1, hv1, hcap1, hr1⟩ := own_slice ho1
  subst hv1
  have HR := Lib.hid (And.intro hb2 hr1)
  clear ho1 hb2 h hr1
  obtain ⟨M, hM⟩ : ∃ M, M = fbG L := ⟨_, rfl⟩
  obtain ⟨o, ho⟩ : ∃ o, o = fbOk L := ⟨_, rfl⟩
  have hMl : M.length ≤ 12 := by rw [hM]; exact fbG_len L
  have q2 := eqLC_self M
  have eb : (o != o) = false := by simp
  have ec : (o == o) = true := by simp
  have HC := Lib.hid (And.intro hM ho)
  clear hM ho
  go_wp2_with fail
  refine (iFindsBounds_any _ _ L _ HR.out.2 (by omega)).mono ?_
  rintro e w3 ⟨v4, rfl, hb3, ho4⟩
  rw [← HC.out.1] at ho4
  rw [← HC.out.2]
  obtain ⟨A4, c4, hv4, hcap4, hr4⟩ := own_slice ho4
  subst hv4
  have H3 := Lib.hid (And.intro hb3 hr4)
  clear hb3 ho4 hr4
  go_wp2_with fail
  refine (sFindsBounds_any _ _ L _ (HR.out.2.step H3.out.1) (by omega)).mono ?_
  rintro e w4 ⟨v5, rfl, hb4, ho5⟩
  rw [← HC.out.1] at ho5
  rw [← HC.out.2]
  obtain ⟨A5, c5, hv5, hcap5, hr5⟩ := own_slice ho5
  subst hv5
  have H4 := Lib.hid (And.intro hb4 hr5)
  clear hb4 ho5 hr5
  go_wp2_with fail
  refine (sameBound_any _ _ _ _ M M _ (H3.out.2.step H4.out.1) H4.out.2 (by omega)).mono ?_
  rintro e w5 ⟨rfl, hb5⟩
  have k5 := below_step H4.out.1 hb5
  have k25 := below_step H3.out.1 k5
  have R := Lib.hid (And.intro (HR.out.2.step k25) (And.intro (H3.out.2.step k5) (below_step HR.out.1 k25)))
  have R4 := Lib.hid (H4.out.2.step hb5)
  clear hb5 k5 k25
  cases o
  · clear eb ec
    go_wp2_with fail
    refine (sameBound_any _ _ _ _ M M _ R.out.2.1 R4.out (by omega)).mono ?_
    rintro e w6 ⟨rfl, hb6⟩
    go_wp2_with fail
    go_ret
    exact ⟨rfl, below_step R.out.2.2 hb6⟩
  · clear eb ec
    have hok : fbOk L = true := HC.out.2.symm
    have hfb : ∀ f ∈ L, M.any (isB f) = true := fun f hf => by
      obtain ⟨b, h1, h2, h3⟩ := find_fb hok hf
      rw [HC.out.1]
      exact List.any_eq_true.2 ⟨b, h1, by simp [isB, h2, h3]⟩
    have HF := Lib.hid hfb
    clear hok hfb
    go_wp2_with fail
    go_loopw [8] (fun i wr => ∃ k : Nat, k ≤ L.length ∧ i = .int .i64 k ∧ Below w5.heap.size w5 wr) (fun i _ => L.length - (intOf i).toNat)
    case atStart => exact ⟨0, Nat.zero_le _, rfl, Below.refl _ _⟩
    case round =>
      obtain ⟨k, hk, rfl, hbl⟩ := hrel
      by_cases hlt : k < L.length
      · have hki : (k : Int) < (L.length : Int) := by omega
        obtain ⟨f, hf⟩ : ∃ f, L[k]? = some f := ⟨_, List.getElem?_eq_getElem hlt⟩
        have HX := Lib.hid (And.intro hbl (And.intro hf (HF.out f (List.mem_of_getElem? hf))))
        clear hbl hf
        go_wp2_with fail
        go_loopw [9, 10] (fun s i wq => ∃ j : Nat, j ≤ M.length ∧ i = .int .i64 j ∧ s = .bool ((M.take j).any (isB f)) ∧ Below w5.heap.size w5 wq) (fun _ i _ => M.length - (intOf i).toNat)
        case atStart => exact ⟨0, Nat.zero_le _, rfl, by simp, HX.out.1⟩
        case round =>
          obtain ⟨j, hj, rfl, rfl, hbq⟩ := hrel
          by_cases hjl : j < M.length
          · have hji : (j : Int) < (M.length : Int) := by omega
            obtain ⟨b, hb⟩ : ∃ b, M[j]? = some b := ⟨_, List.getElem?_eq_getElem hjl⟩
            have hnx := anyB_next (f := f) hb
            have kk := hbq
            obtain ⟨bb, ob, hA, hbb, hc⟩ := (R.out.1.step kk).ctx (by omega)
            subst hA
            obtain ⟨f1, f2, f3⟩ := hc k f HX.out.2.1
            obtain ⟨bm, om, hA, hbm, hcm⟩ := (R.out.2.1.step kk).ctx (by omega)
            subst hA
            obtain ⟨g1, g2, g3⟩ := hcm j b hb
            have hx1 := ext_cell (w := wr) (B := wr.heap.size) hbb
            have hx5 := ext_cell (w := wr) (B := wr.heap.size) hbm
            obtain ⟨s, hs⟩ : ∃ s, s = (M.take j).any (isB f) := ⟨_, rfl⟩
            rw [← hs] at hnx
            rw [← hs]
            have HN := Lib.hid (And.intro hnx hbq)
            clear hnx hs hb kk hc hcm hbq
            cases s
            · by_cases h1 : b.id = f.id
              · have e1 : (b.id == f.id) = true := by simp [h1]
                obtain ⟨q, hq⟩ : ∃ q, q = decide (f.area ≤ b.kind) := ⟨_, rfl⟩
                have hbq2 : isB f b = q := by simp [isB, h1, hq]
                have e2 : decide (f.area ≤ b.kind) = q := hq.symm
                have HQ := Lib.hid hbq2
                clear hbq2 hq h1
                go_wp2_with fail
                refine wp_region_ext wr.heap.size (by kernel_rfl) (by kernel_rfl) ?_
                repeat (go_big_quiet_step (fail))
                refine wpQuiet_nil ?_
                rintro _ ⟨x9, rfl⟩
                have H9 := Lib.hid (below_step HN.out.2 x9.below)
                clear hx1 hx5 f1 f2 f3 g1 g2 g3
                go_wp2_with fail
                go_roundw
                case rel => exact ⟨j + 1, by omega, by go_num, by rw [HN.out.1, HQ.out]; rfl, H9.out⟩
                case measure => simp [intOf]; omega
              · have e1 : (b.id == f.id) = false := by simp [h1]
                have hbq2 : isB f b = false := by simp [isB, h1]
                have HQ := Lib.hid hbq2
                clear hbq2 h1
                go_wp2_with fail
                refine wp_region_ext wr.heap.size (by kernel_rfl) (by kernel_rfl) ?_
                repeat (go_big_quiet_step (fail))
                refine wpQuiet_nil ?_
                rintro _ ⟨x9, rfl⟩
                have H9 := Lib.hid (below_step HN.out.2 x9.below)
                clear hx1 hx5 f1 f2 f3 g1 g2 g3
                go_wp2_with fail
                go_roundw
                case rel => exact ⟨j + 1, by omega, by go_num, by rw [HN.out.1, HQ.out]; rfl, H9.out⟩
                case measure => simp [intOf]; omega
            · go_wp2_with fail
              refine wp_region_ext wr.heap.size (by kernel_rfl) (by kernel_rfl) ?_
              repeat (go_big_quiet_step (fail))
              refine wpQuiet_nil ?_
              rintro _ ⟨x9, rfl⟩
              have H9 := Lib.hid (below_step HN.out.2 x9.below)
              clear hx1 hx5 f1 f2 f3 g1 g2 g3
              go_wp2_with fail
              go_roundw
              case rel => exact ⟨j + 1, by omega, by go_num, by rw [HN.out.1]; simp, H9.out⟩
              case measure => simp [intOf]; omega
          · have hjm : M.take j = M := List.take_of_length_le (by omega)
            rw [hjm, HX.out.2.2]
            have HB := Lib.hid hbq
            clear hjm hbq
            go_wp2_with fail
            go_roundw
            case rel => exact ⟨k + 1, by omega, by go_num, HB.out⟩
            case measure => simp [intOf]; omega
      · have HB := Lib.hid hbl
        clear hbl
        go_wp2_with fail
        go_ret
        exact ⟨rfl, below_step R.out.2.2 HB.out⟩

theorem walk (A : Option Addr) (c : Nat) (z : List Int) (w : World) (h1 : z.length ≤ c) (h2 : Reads w w.heap.size 1 A z.length (cellsB z)) (h3 : ∀ b ∈ z, 0 ≤ b ∧ b ≤ 255) (h4 : c ≤ maxLen) :
    Calls Try.prog 4 #[.slice A z.length c] w fun e w2 => e = .returned (.bool true) ∧ Below w.heap.size w w2 := by
  by_cases hn : z.length ≤ 1048576
  · exact walk_short A c z w (Bytes.mk_ h1 h2 h3 h4) hn
  · have e0 : decide ((1048576 : Int) < (z.length : Int)) = true := decide_eq_true (by omega)
    go_enter Try.func4, Try.ntmps4
    go_wp2_with fail
    go_ret
    exact ⟨rfl, Below.refl _ _⟩

set_option linter.unusedVariables false
set_option maxRecDepth 100000 in
theorem lifted (os : Os) (started : os.Started) (H : Type) (enc : TypeId × Value → H) :
    ReturnsInHanded {} Try.checked os 4 .any (Rows.fnFindsBoundsAllSpec.pre6 enc Try.prog Try.f4 Rows.fnFindsBoundsAllRow.domain false) (Rows.fnFindsBoundsAllSpec.post enc Try.prog Try.f4 false true false false) := by
  refine returnsInHanded_of_change (C := Try.checked) lawOwn started (by kernel_rfl) Try.func4
    (ChangeSpec.witness6 (enc := enc) (C := Try.checked) false ⟨#[], #[.slice none 0 0], []⟩ 8 (by kernel_rfl) (by kernel_rfl) (by kernel_rfl) (by kernel_rfl)) ?_
  intro W base args ds gs before hval0 hW hcnd _
  have hval : ∀ (j : Nat) t v, Try.f4.params[j]? = some t → args[j]? = some v → Value.okWide Try.prog W .any base t v := hval0
  have hW' := hW
  obtain ⟨p, q, hA0, hV, rfl, hfz, hnd⟩ := hW
  have hA : DataW.TrodAll enc Try.prog W 0 (fun _ => true) true Try.f4.params.toList args.toList ds p := hA0
  rw [Try.params4] at hA hval
  obtain ⟨v0, vs0, d0, ds0, p0, q0, hargs, rfl, rfl, h0, r0⟩ := trodAll_cons hA
  obtain ⟨rfl, rfl, rfl⟩ := trodAll_nil r0
  obtain rfl : args = #[v0] := by cases args; simp_all
  obtain ⟨rfl, rfl⟩ := trodVars_none hV
  have k0 := h0
  have lt0 : ∀ x ∈ p0, x.block < W.heap.size := by obtain ⟨m, hm⟩ := k0; exact DataW.trod_lt m _ _ _ hm
  obtain ⟨a0, len0, cap0, rfl⟩ := okWide_slice Try.underlying22 (hval 0 22 v0 rfl rfl)
  obtain ⟨z0, hl0, hc0, hr0, hb0, hm0⟩ : ∃ z : List Int, len0 = z.length ∧ len0 ≤ cap0 ∧ Reads W W.heap.size 1 a0 len0 (cellsB z) ∧ (∀ b ∈ z, 0 ≤ b ∧ b ≤ 255) ∧ cap0 ≤ maxLen := by
    obtain ⟨fuel, hf⟩ := h0
    exact open_bytes Try.underlying22 Try.underlying5 (by kernel_rfl) (by simpa [Value.cells] using hf)
  subst hl0
  clear hA0 hval0
  refine (walk a0 cap0 z0 W hc0 hr0 hb0 hm0).mono fun e W' ⟨he, bel⟩ => ?_
  subst he
  exact ⟨_, rfl, _, _, _, [], _, [], hW', trodAll_mk1 (shut_bool Try.underlying4 _), (trodAll_cons_mk (Below.trod lawLaid (by kernel_rfl) (of_decide_eq_true (by kernel_rfl)) k0 bel lt0) trodAll_mk0), rfl, bel.frame _, fun h => by cases h⟩

theorem closed : joinedFacts Try.checked.prog 4 Try.f4 Rows.fnFindsBoundsAllSpec Rows.fnFindsBoundsAllRow = true := by
  unfold joinedFacts
  repeat (refine and_t ?_ (by first | (with_reducible exact ent) | (with_reducible refine lif_c ?_; kernel_rfl) | (with_reducible refine mak_c ?_; kernel_rfl) | kernel_rfl))
  kernel_rfl
theorem proved : Rows.FnFindsBoundsAllSaid :=
  OpenClaim.holds_of_wide 4 Try.f4 rfl rfl rfl rfl rfl rfl rfl ⟨rfl, rfl, rfl, rfl, rfl⟩ rfl rfl rfl rfl rfl (by kernel_rfl) Try.func4 closed
    (of_decide_eq_true (by kernel_rfl)) (by unfold Func.isWrapper; rw [if_neg (of_decide_eq_false (by kernel_rfl))]; exact ⟨rfl, rfl⟩)
    (fun os started H enc _ => lifted os started H enc)
#print axioms proved
end Go.Proofs.Ytopdmcnbchpihaa.lawFindsBoundsAll
