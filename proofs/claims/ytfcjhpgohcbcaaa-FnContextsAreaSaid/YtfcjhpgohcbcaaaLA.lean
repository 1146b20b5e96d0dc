/-
  Whatever bytes are given: of the contexts drawn from them, where they are valid, the program's list for an area has the number of a context just where the context lies in that area, in ascending order. No condition.
-/
import Derived.Test.YtfcjhpgohcbcaaaCl
namespace Go.Proofs.Ytfcjhpgohcbcaaa.lawArea
open Go.ChangeShapes Go.WideShapes Go.ChangeAt Go.RowKit

theorem ids_asc {l : List Ctx} (h : validL l = true) (a : Int) {k : Nat} {x y : Int} (hx : (idsOf l a)[k]? = some x) (hy : (idsOf l a)[k+1]? = some y) : x < y := by
  have hp : (idsOf l a).Pairwise (· < ·) := by
    unfold idsOf
    rw [List.pairwise_map]
    exact (asc_pair h).filter _
  rw [List.pairwise_iff_getElem] at hp
  obtain ⟨h1, e1⟩ := List.getElem?_eq_some_iff.1 hx
  obtain ⟨h2, e2⟩ := List.getElem?_eq_some_iff.1 hy
  have := hp k (k+1) h1 h2 (by omega)
  rw [e1, e2] at this
  exact this
theorem ids_mem {l : List Ctx} (h : validL l = true) (a : Int) {k : Nat} {c : Ctx} (hc : l[k]? = some c) : c.id ∈ idsOf l a ↔ c.area = a := by
  unfold idsOf
  simp only [List.mem_map, List.mem_filter, decide_eq_true_eq]
  constructor
  · rintro ⟨d, ⟨hd, ha⟩, he⟩
    obtain ⟨j, hj⟩ := List.mem_iff_getElem?.1 hd
    rcases Nat.lt_trichotomy j k with hlt | rfl | hlt
    · obtain ⟨n, rfl⟩ : ∃ n, k = j + n + 1 := ⟨k - j - 1, by omega⟩
      have := asc_lt h n j _ _ hj hc
      omega
    · rw [hj] at hc
      injection hc with hc
      exact hc ▸ ha
    · obtain ⟨n, rfl⟩ : ∃ n, j = k + n + 1 := ⟨j - k - 1, by omega⟩
      have := asc_lt h n k _ _ hc hj
      omega
  · intro ha
    exact ⟨c, ⟨List.mem_iff_getElem?.2 ⟨k, hc⟩, ha⟩, rfl⟩

set_option maxHeartbeats 1000000 in
theorem walk_short (A : Option Addr) (c : Nat) (z : List Int) (w : World) (h : Bytes w A c z) (hn : z.length ≤ 1048576) :
    Calls Try.prog 7 #[.slice A z.length c] w fun e w2 => e = .returned (.bool true) ∧ Below w.heap.size w w2 := by
  have e0 : decide ((1048576 : Int) < (z.length : Int)) = false := decide_eq_false (by omega)
  go_enter Try.func7, Try.ntmps7
  go_wp2_with fail
  refine (dArea_any A c z _ h).mono ?_
  rintro e w2 ⟨v, l, x, rfl, ho2, hl, hb2⟩
  obtain ⟨Al, cl, hv, hcap, hrl⟩ := own_slice ho2
  subst hv
  go_wp2_with fail
  refine (iArea_any _ _ l x _ hrl (by omega)).mono ?_
  rintro e w3 ⟨v3, rfl, hb3, ho3⟩
  go_wp2_with fail
  refine (sArea_any _ _ l x _ (hrl.step hb3) (by omega)).mono ?_
  rintro e w4 ⟨v4, rfl, hb4, ho4⟩
  obtain ⟨A3, c3, hv3, _, hr3⟩ := own_slice ho3
  obtain ⟨A4, c4, hv4, _, hr4⟩ := own_slice ho4
  subst hv3 hv4
  have hq := eqLI_self (areaL l x)
  have ha : (areaL l x).length ≤ l.length := by
    unfold areaL
    split
    · exact idsOf_len l x
    · simp
  go_wp2_with fail
  refine (sameInts_any _ _ _ _ (areaL l x) (areaL l x) _ (hr3.step hb4) hr4 (by omega)).mono ?_
  rintro e w5 ⟨rfl, hb5⟩
  have b25 := below_step (below_step hb3 hb4) hb5
  go_wp2_with fail
  refine (sValid_any _ _ l _ (hrl.step b25) (by omega)).mono ?_
  rintro e w6 ⟨rfl, hb6⟩
  have k6 := below_step (below_step hb2 b25) hb6
  have r6 := hrl.step (below_step b25 hb6)
  have r36 := hr3.step (below_step (below_step hb4 hb5) hb6)
  have r46 := hr4.step (below_step hb5 hb6)
  have K6 := Lib.hid k6
  have R6 := Lib.hid r6
  have R36 := Lib.hid r36
  have R46 := Lib.hid r46
  clear hb2 hb3 hb4 hb5 b25 hb6 k6 r6 hrl hr3 hr4 ho2 ho3 ho4 r36 r46
  cases hv : validL l
  · go_wp2_with fail
    refine (sameInts_any _ _ _ _ (areaL l x) (areaL l x) _ R36.out R46.out (by omega)).mono ?_
    rintro e w7 ⟨rfl, hb7⟩
    go_wp2_with fail
    go_ret
    exact ⟨rfl, below_step K6.out hb7⟩
  · have HV := Lib.hid hv
    have hal := areaL_yes (a := x) hv
    rw [hal] at R36 ha
    rw [hal]
    obtain ⟨L, hL⟩ : ∃ L, L = idsOf l x := ⟨_, rfl⟩
    rw [← hL] at R36 ha ⊢
    have HL := Lib.hid hL
    clear hv hal hL hq
    go_wp2_with fail
    go_loopw [7] (fun i wr => ∃ k : Nat, k ≤ l.length ∧ i = .int .i64 k ∧ Below w6.heap.size w6 wr) (fun i _ => l.length - (intOf i).toNat)
    case atStart => exact ⟨0, Nat.zero_le _, rfl, Below.refl _ _⟩
    case round =>
      obtain ⟨k, hk, rfl, hb⟩ := hrel
      have hsz := hb.size
      by_cases hlt : k < l.length
      · have hkl : (k : Int) < (l.length : Int) := by omega
        obtain ⟨b, off, hA, hbb, hc⟩ := (R6.out.below hb).ctx (by omega)
        subst hA
        have hk0 : l[k]? = some l[k] := List.getElem?_eq_getElem hlt
        obtain ⟨c1, _, c2⟩ := hc k _ hk0
        have hx := ext_cell (w := wr) hbb
        have HM : Hid (l[k].id ∈ L ↔ l[k].area = x) := by rw [HL.out]; exact ids_mem HV.out x hk0
        have HR := Lib.hid (R36.out.below hb)
        have HB := Lib.hid hb
        clear hc hk0 hb
        by_cases har : l[k].area = x
        · have e1 : (l[k].area == x) = true := by simp [har]
          have e2 : decide (l[k].id ∈ L) = true := decide_eq_true (HM.out.2 har)
          clear har
          go_wp2_with fail
          refine wp_region_ext w6.heap.size (by kernel_rfl) (by kernel_rfl) ?_
          repeat (go_big_quiet_step ((go_at_call 27; exact calls_ext_same (hasInt_any _ _ L _ _ ((HR.out.below (Ext.below _)).more (Nat.le_trans hsz (Ext.below _).size)) (by omega)))))
          refine wpQuiet_nil ?_
          rintro _ ⟨y, rfl⟩
          go_wp2_with fail
          go_roundw
          case rel => exact ⟨k + 1, by omega, by go_num, HB.out.trans y.below⟩
          case measure => simp [intOf]; omega
        · have e1 : (l[k].area == x) = false := by simp [har]
          have e2 : decide (l[k].id ∈ L) = false := decide_eq_false (fun h => har (HM.out.1 h))
          clear har
          go_wp2_with fail
          refine wp_region_ext w6.heap.size (by kernel_rfl) (by kernel_rfl) ?_
          repeat (go_big_quiet_step ((go_at_call 27; exact calls_ext_same (hasInt_any _ _ L _ _ ((HR.out.below (Ext.below _)).more (Nat.le_trans hsz (Ext.below _).size)) (by omega)))))
          refine wpQuiet_nil ?_
          rintro _ ⟨y, rfl⟩
          go_wp2_with fail
          go_roundw
          case rel => exact ⟨k + 1, by omega, by go_num, HB.out.trans y.below⟩
          case measure => simp [intOf]; omega
      · have HB := Lib.hid hb
        have R := Lib.hid (R36.out.step hb)
        clear hb
        obtain ⟨wo, rfl⟩ : ∃ wo : World, wo = wr := ⟨_, rfl⟩
        go_wp2_with fail
        go_loopw [8] (fun i wr => ∃ k : Nat, 1 ≤ k ∧ i = .int .i64 k ∧ Below wo.heap.size wo wr) (fun i _ => L.length - (intOf i).toNat)
        case atStart => exact ⟨1, by omega, rfl, Below.refl _ _⟩
        case round =>
          obtain ⟨m, hm, rfl, hb⟩ := hrel
          have HB2 := Lib.hid hb
          by_cases hmL : m < L.length
          · have hml : (m : Int) < (L.length : Int) := by omega
            obtain ⟨b, off, hA, hbb, hc⟩ := (R.out.below hb).ints (by omega)
            subst hA
            have hm1 : m - 1 < L.length := by omega
            have c1 := hc (m-1) _ (List.getElem?_eq_getElem hm1)
            have c2 := hc m _ (List.getElem?_eq_getElem hmL)
            have hasc : L[m-1] < L[m] := by
              have h1 : (idsOf l x)[m-1]? = some L[m-1] := by rw [← HL.out]; exact List.getElem?_eq_getElem hm1
              have h2 : (idsOf l x)[m-1+1]? = some L[m] := by rw [← HL.out, show m - 1 + 1 = m from by omega]; exact List.getElem?_eq_getElem hmL
              exact ids_asc HV.out x h1 h2
            have e1 : decide (L[m] ≤ L[m-1]) = false := decide_eq_false (by omega)
            have e2 : ((m : Int) - 1).toNat = m - 1 := by omega
            have e3 : IntKind.i64.wrap ((m : Int) - 1) = (m : Int) - 1 := IntWalk.i64_in _ (by omega)
            have e4 : (0 : Int) ≤ (m : Int) - 1 := by omega
            have e5 : (m : Int) - 1 < (L.length : Int) := by omega
            clear hc hb hasc
            go_wp2_with fail
            go_quiet (fail)
            go_wp2_with fail
            go_roundw
            case rel => exact ⟨m + 1, by omega, by go_num, below_draws HB2.out _⟩
            case measure => simp [intOf]; omega
          · have hml : (L.length : Int) ≤ (m : Int) := by omega
            clear hb
            go_wp2_with fail
            go_ret
            exact ⟨ret_bool (by simp <;> omega), below_step (below_step K6.out HB.out) HB2.out⟩

theorem walk (A : Option Addr) (c : Nat) (z : List Int) (w : World) (h1 : z.length ≤ c) (h2 : Reads w w.heap.size 1 A z.length (cellsB z)) (h3 : ∀ b ∈ z, 0 ≤ b ∧ b ≤ 255) (h4 : c ≤ maxLen) :
    Calls Try.prog 7 #[.slice A z.length c] w fun e w2 => e = .returned (.bool true) ∧ Below w.heap.size w w2 := by
  by_cases hn : z.length ≤ 1048576
  · exact walk_short A c z w (Bytes.mk_ h1 h2 h3 h4) hn
  · have e0 : decide ((1048576 : Int) < (z.length : Int)) = true := decide_eq_true (by omega)
    go_enter Try.func7, Try.ntmps7
    go_wp2_with fail
    go_ret
    exact ⟨rfl, Below.refl _ _⟩

set_option linter.unusedVariables false
set_option maxRecDepth 100000 in
theorem lifted (os : Os) (started : os.Started) (H : Type) (enc : TypeId × Value → H) :
    ReturnsInHanded {} Try.checked os 7 .any (Rows.fnContextsAreaSpec.pre6 enc Try.prog Try.f7 Rows.fnContextsAreaRow.domain false) (Rows.fnContextsAreaSpec.post enc Try.prog Try.f7 false true false false) := by
  refine returnsInHanded_of_change (C := Try.checked) lawOwn started (by kernel_rfl) Try.func7
    (ChangeSpec.witness6 (enc := enc) (C := Try.checked) false ⟨#[], #[.slice none 0 0], []⟩ 8 (by kernel_rfl) (by kernel_rfl) (by kernel_rfl) (by kernel_rfl)) ?_
  intro W base args ds gs before hval0 hW hcnd _
  have hval : ∀ (j : Nat) t v, Try.f7.params[j]? = some t → args[j]? = some v → Value.okWide Try.prog W .any base t v := hval0
  have hW' := hW
  obtain ⟨p, q, hA0, hV, rfl, hfz, hnd⟩ := hW
  have hA : DataW.TrodAll enc Try.prog W 0 (fun _ => true) true Try.f7.params.toList args.toList ds p := hA0
  rw [Try.params7] at hA hval
  obtain ⟨v0, vs0, d0, ds0, p0, q0, hargs, rfl, rfl, h0, r0⟩ := trodAll_cons hA
  obtain ⟨rfl, rfl, rfl⟩ := trodAll_nil r0
  obtain rfl : args = #[v0] := by cases args; simp_all
  obtain ⟨rfl, rfl⟩ := trodVars_none hV
  have k0 := h0
  have lt0 : ∀ x ∈ p0, x.block < W.heap.size := by obtain ⟨m, hm⟩ := k0; exact DataW.trod_lt m _ _ _ hm
  obtain ⟨a0, len0, cap0, rfl⟩ := okWide_slice Try.underlying22 (hval 0 22 v0 rfl rfl)
  obtain ⟨z0, hl0, hc0, hr0, hb0, hm0⟩ : ∃ z : List Int, len0 = z.length ∧ len0 ≤ cap0 ∧ Reads W W.heap.size 1 a0 len0 (cellsB z) ∧ (∀ b ∈ z, 0 ≤ b ∧ b ≤ 255) ∧ cap0 ≤ maxLen := by
    obtain ⟨fuel, hf⟩ := h0
    exact open_bytes Try.underlying22 Try.underlying5 (by kernel_rfl) (by simpa [Value.cells] using hf)
  subst hl0
  clear hA0 hval0
  refine (walk a0 cap0 z0 W hc0 hr0 hb0 hm0).mono fun e W' ⟨he, bel⟩ => ?_
  subst he
  exact ⟨_, rfl, _, _, _, [], _, [], hW', trodAll_mk1 (shut_bool Try.underlying4 _), (trodAll_cons_mk (Below.trod lawLaid (by kernel_rfl) (of_decide_eq_true (by kernel_rfl)) k0 bel lt0) trodAll_mk0), rfl, bel.frame _, fun h => by cases h⟩

theorem proved : Rows.FnContextsAreaSaid :=
  OpenClaim.holds_of_wide 7 Try.f7 rfl rfl rfl rfl rfl rfl rfl ⟨rfl, rfl, rfl, rfl, rfl⟩ rfl rfl rfl rfl rfl (by kernel_rfl) Try.func7 (by kernel_rfl)
    (of_decide_eq_true (by kernel_rfl)) (by unfold Func.isWrapper; rw [if_neg (of_decide_eq_false (by kernel_rfl))]; exact ⟨rfl, rfl⟩)
    (fun os started H enc _ => lifted os started H enc)
#print axioms proved
end Go.Proofs.Ytfcjhpgohcbcaaa.lawArea
