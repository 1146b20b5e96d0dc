/-
  Whatever bytes are given: of contexts, relations and an order drawn from them, the program finds the order valid exactly if the model does; then it has as many contexts as there are, and none comes twice, or behind one that lies below it. No condition.
-/
import Derived.Test.YtmcnjmflmpfjlaaEnt
import Derived.Test.YtmcnjmflmpfjlaaLif
import Derived.Test.YtmcnjmflmpfjlaaMak
import Derived.Test.YtmcnjmflmpfjlaaDv
import Derived.Test.YtmcnjmflmpfjlaaIv
import Derived.Test.YtmcnjmflmpfjlaaDq
import Derived.Test.YtmcnjmflmpfjlaaLw
import Derived.Deep.RegionHeld3
namespace Go.Proofs.Ytmcnjmflmpfjlaa.lawDigValid
open Go.ChangeShapes Go.WideShapes Go.ChangeAt Go.RowKit

set_option maxHeartbeats 2000000 in
set_option maxRecDepth 100000 in
theorem walk_short (A : Option Addr) (c : Nat) (z : List Int) (w : World) (h : Bytes w A c z) (hn : z.length ≤ 1048576) :
    Calls Try.prog 9 #[.slice A z.length c] w fun e w2 => e = .returned (.bool true) ∧ Below w.heap.size w w2 := by
  have e0 : decide ((1048576 : Int) < (z.length : Int)) = false := decide_eq_false (by omega)
  go_enter Try.func9, Try.ntmps9
  go_wp2_with fail
  refine (dDigVal_any A c z _ h).mono ?_
  rintro e w2 ⟨v1, v2, v3, ids, l, st, rfl, ho1, ho2, ho3, hl1, hl2, hl3, hb2⟩
  obtain ⟨A1, c1, hv1, hcap1, hr1⟩ := own_slice ho1
  obtain ⟨A2, c2, hv2, hcap2, hr2⟩ := own_slice ho2
  obtain ⟨A5, c5, hv5, hcap5, hr5⟩ := own_slice ho3
  subst hv1 hv2 hv5
  have HR := Lib.hid (And.intro hb2 (And.intro hr1 (And.intro hr2 hr5)))
  clear ho1 ho2 ho3 hb2 h hr1 hr2 hr5
  obtain ⟨o, ho⟩ : ∃ o, o = digOkG ids l st := ⟨_, rfl⟩
  have HC := Lib.hid ho
  have eo : (o != o) = false := by simp
  have eo2 : (o == o) = true := by simp
  clear ho
  go_wp2_with fail
  refine (iDigValid_any _ _ _ _ _ _ ids l st _ HR.out.2.1 HR.out.2.2.1 HR.out.2.2.2 (by omega) (by omega)).mono ?_
  rintro e w3 ⟨rfl, hb3⟩
  rw [← HC.out]
  have H3 := Lib.hid hb3
  clear hb3
  go_wp2_with fail
  refine (sDigValid_any _ _ _ _ _ _ ids l st _ (HR.out.2.1.step H3.out) (HR.out.2.2.1.step H3.out) (HR.out.2.2.2.step H3.out) (by omega) (by omega)).mono ?_
  rintro e w4 ⟨rfl, hb4⟩
  rw [← HC.out]
  have k4 := below_step H3.out hb4
  have R := Lib.hid (And.intro (HR.out.2.1.step k4) (And.intro (HR.out.2.2.1.step k4) (And.intro (HR.out.2.2.2.step k4) (below_step HR.out.1 k4))))
  clear hb4 k4
  cases o
  · go_wp2_with fail
    go_ret
    exact ⟨rfl, R.out.2.2.2⟩
  · have hlen := dig_len HC.out.symm
    have ef : ((st.length : Int) == (ids.length : Int)) = true := by rw [beq_iff_eq]; omega
    have hap := fun (i k : Nat) (x y : Int) (hki : k < i) hx hy => dig_apart (i := i) (k := k) (x := x) (y := y) HC.out.symm hki hx hy
    have HA := Lib.hid hap
    have HLN := Lib.hid hlen
    clear hap hlen
    go_wp2_with fail
    go_loopw [8] (fun i wr => ∃ k : Nat, k ≤ st.length ∧ i = .int .i64 k ∧ Below w4.heap.size w4 wr) (fun i _ => st.length - (intOf i).toNat)
    case atStart => exact ⟨0, Nat.zero_le _, rfl, Below.refl _ _⟩
    case round =>
      obtain ⟨i, hi, rfl, hbl⟩ := hrel
      have HB := Lib.hid hbl
      clear hbl
      by_cases hii : i < st.length
      · have hiii : (i : Int) < (st.length : Int) := by omega
        obtain ⟨x, hx⟩ : ∃ x, st[i]? = some x := ⟨_, List.getElem?_eq_getElem hii⟩
        have HX := Lib.hid hx
        clear hx
        go_wp2_with fail
        go_loopw [9] (fun kv wr => ∃ k : Nat, k ≤ i ∧ kv = .int .i64 k ∧ Below w4.heap.size w4 wr) (fun kv _ => i - (intOf kv).toNat)
        case atStart => exact ⟨0, Nat.zero_le _, rfl, HB.out⟩
        case round =>
          obtain ⟨k, hk, rfl, hbl⟩ := hrel
          by_cases hkk : k < i
          · have hkki : (k : Int) < (i : Int) := by omega
            have hkl : (k : Int) < (st.length : Int) := by omega
            obtain ⟨y, hy⟩ : ∃ y, st[k]? = some y := ⟨_, List.getElem?_eq_getElem (by omega)⟩
            obtain ⟨hab, hxy⟩ := HA.out i k x y hkk HX.out hy
            obtain ⟨b5, o5, hA5, hbb5, hc5⟩ := (R.out.2.2.1.step hbl).ints (by omega)
            subst hA5
            have g1 := hc5 i _ HX.out
            have g2 := hc5 k _ hy
            have hx1 := ext_cell (w := wr) (B := wr.heap.size) hbb5
            have e5 : (x == y) = false := by rw [beq_eq_false_iff_ne]; exact hxy
            have HQ := Lib.hid (And.intro (R.out.1.step hbl) (And.intro (R.out.2.1.step hbl) (And.intro hab hbl)))
            clear hy hab hxy hbl hc5
            go_wp2_with fail
            refine wp_region_ext wr.heap.size (by kernel_rfl) (by kernel_rfl) ?_
            repeat (go_big_quiet_step ((go_at_call 26; exact above_to _ _ _ _ ids l _ _ false _ HQ.out.1 HQ.out.2.1 (by omega) (by omega) HQ.out.2.2.1)))
            refine wpQuiet_nil ?_
            rintro _ ⟨x9, rfl⟩
            have H9 := Lib.hid (below_step HQ.out.2.2.2 x9.below)
            clear hx1 g1 g2
            go_wp2_with fail
            go_roundw
            case rel => exact ⟨k + 1, by omega, by go_num, H9.out⟩
            case measure => simp [intOf]; omega
          · have HK2 := Lib.hid hbl
            clear hbl
            go_wp2_with fail
            go_roundw
            case rel => exact ⟨i + 1, by omega, by go_num, HK2.out⟩
            case measure => simp [intOf]; omega
      · go_wp2_with fail
        go_ret
        exact ⟨rfl, below_step R.out.2.2.2 HB.out⟩

theorem walk (A : Option Addr) (c : Nat) (z : List Int) (w : World) (h1 : z.length ≤ c) (h2 : Reads w w.heap.size 1 A z.length (cellsB z)) (h3 : ∀ b ∈ z, 0 ≤ b ∧ b ≤ 255) (h4 : c ≤ maxLen) :
    Calls Try.prog 9 #[.slice A z.length c] w fun e w2 => e = .returned (.bool true) ∧ Below w.heap.size w w2 := by
  by_cases hn : z.length ≤ 1048576
  · exact walk_short A c z w (Bytes.mk_ h1 h2 h3 h4) hn
  · have e0 : decide ((1048576 : Int) < (z.length : Int)) = true := decide_eq_true (by omega)
    go_enter Try.func9, Try.ntmps9
    go_wp2_with fail
    go_ret
    exact ⟨rfl, Below.refl _ _⟩

set_option linter.unusedVariables false
set_option maxRecDepth 100000 in
theorem lifted (os : Os) (started : os.Started) (H : Type) (enc : TypeId × Value → H) :
    ReturnsInHanded {} Try.checked os 9 .any (Rows.fnDigValidSpec.pre6 enc Try.prog Try.f9 Rows.fnDigValidRow.domain false) (Rows.fnDigValidSpec.post enc Try.prog Try.f9 false true false false) := by
  refine returnsInHanded_of_change (C := Try.checked) lawOwn started (by kernel_rfl) Try.func9
    (ChangeSpec.witness6 (enc := enc) (C := Try.checked) false ⟨#[], #[.slice none 0 0], []⟩ 8 (by kernel_rfl) (by kernel_rfl) (by kernel_rfl) (by kernel_rfl)) ?_
  intro W base args ds gs before hval0 hW hcnd _
  have hval : ∀ (j : Nat) t v, Try.f9.params[j]? = some t → args[j]? = some v → Value.okWide Try.prog W .any base t v := hval0
  have hW' := hW
  obtain ⟨p, q, hA0, hV, rfl, hfz, hnd⟩ := hW
  have hA : DataW.TrodAll enc Try.prog W 0 (fun _ => true) true Try.f9.params.toList args.toList ds p := hA0
  rw [Try.params9] at hA hval
  obtain ⟨v0, vs0, d0, ds0, p0, q0, hargs, rfl, rfl, h0, r0⟩ := trodAll_cons hA
  obtain ⟨rfl, rfl, rfl⟩ := trodAll_nil r0
  obtain rfl : args = #[v0] := by cases args; simp_all
  obtain ⟨rfl, rfl⟩ := trodVars_none hV
  have k0 := h0
  have lt0 : ∀ x ∈ p0, x.block < W.heap.size := by obtain ⟨m, hm⟩ := k0; exact DataW.trod_lt m _ _ _ hm
  obtain ⟨a0, len0, cap0, rfl⟩ := okWide_slice Try.underlying22 (hval 0 22 v0 rfl rfl)
  obtain ⟨z0, hl0, hc0, hr0, hb0, hm0⟩ : ∃ z : List Int, len0 = z.length ∧ len0 ≤ cap0 ∧ Reads W W.heap.size 1 a0 len0 (cellsB z) ∧ (∀ b ∈ z, 0 ≤ b ∧ b ≤ 255) ∧ cap0 ≤ maxLen := by
    obtain ⟨fuel, hf⟩ := h0
    exact open_bytes Try.underlying22 Try.underlying5 (by kernel_rfl) (by simpa [Value.cells] using hf)
  subst hl0
  clear hA0 hval0
  refine (walk a0 cap0 z0 W hc0 hr0 hb0 hm0).mono fun e W' ⟨he, bel⟩ => ?_
  subst he
  exact ⟨_, rfl, _, _, _, [], _, [], hW', trodAll_mk1 (shut_bool Try.underlying4 _), (trodAll_cons_mk (Below.trod lawLaid (by kernel_rfl) (of_decide_eq_true (by kernel_rfl)) k0 bel lt0) trodAll_mk0), rfl, bel.frame _, fun h => by cases h⟩

theorem closed : joinedFacts Try.checked.prog 9 Try.f9 Rows.fnDigValidSpec Rows.fnDigValidRow = true := by
  unfold joinedFacts
  repeat (refine and_t ?_ (by first | (with_reducible exact ent) | (with_reducible refine lif_c ?_; kernel_rfl) | (with_reducible refine mak_c ?_; kernel_rfl) | kernel_rfl))
  kernel_rfl
theorem proved : Rows.FnDigValidSaid :=
  OpenClaim.holds_of_wide 9 Try.f9 rfl rfl rfl rfl rfl rfl rfl ⟨rfl, rfl, rfl, rfl, rfl⟩ rfl rfl rfl rfl rfl (by kernel_rfl) Try.func9 closed
    (of_decide_eq_true (by kernel_rfl)) (by unfold Func.isWrapper; rw [if_neg (of_decide_eq_false (by kernel_rfl))]; exact ⟨rfl, rfl⟩)
    (fun os started H enc _ => lifted os started H enc)
#print axioms proved
end Go.Proofs.Ytmcnjmflmpfjlaa.lawDigValid
