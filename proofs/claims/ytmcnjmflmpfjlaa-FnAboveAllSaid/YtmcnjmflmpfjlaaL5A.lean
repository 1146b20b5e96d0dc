/-
  Whatever bytes are given: of contexts, relations and a set drawn from them, what the program lists above the set is what the model lists, and has exactly the contexts that lie above some context of the set. No condition.
-/
import Derived.Test.YtmcnjmflmpfjlaaEnt
import Derived.Test.YtmcnjmflmpfjlaaLif
import Derived.Test.YtmcnjmflmpfjlaaMak
import Derived.Test.YtmcnjmflmpfjlaaDz
import Derived.Test.YtmcnjmflmpfjlaaIa
import Derived.Test.YtmcnjmflmpfjlaaSa
import Derived.Test.YtmcnjmflmpfjlaaMm
import Derived.Test.YtmcnjmflmpfjlaaLw
import Derived.Deep.RegionHeld3
namespace Go.Proofs.Ytmcnjmflmpfjlaa.lawAboveAll
open Go.ChangeShapes Go.WideShapes Go.ChangeAt Go.RowKit

set_option maxHeartbeats 2000000 in
set_option maxRecDepth 100000 in
theorem walk_short (A : Option Addr) (c : Nat) (z : List Int) (w : World) (h : Bytes w A c z) (hn : z.length ≤ 1048576) :
    Calls Try.prog 3 #[.slice A z.length c] w fun e w2 => e = .returned (.bool true) ∧ Below w.heap.size w w2 := by
  have e0 : decide ((1048576 : Int) < (z.length : Int)) = false := decide_eq_false (by omega)
  go_enter Try.func3, Try.ntmps3
  go_wp2_with fail
  refine (dAbvAll_any A c z _ h).mono ?_
  rintro e w2 ⟨v1, v2, v3, ids, l, st, rfl, ho1, ho2, ho3, hl1, hl2, hl3, hb2⟩
  obtain ⟨A1, c1, hv1, hcap1, hr1⟩ := own_slice ho1
  obtain ⟨A2, c2, hv2, hcap2, hr2⟩ := own_slice ho2
  obtain ⟨A5, c5, hv5, hcap5, hr5⟩ := own_slice ho3
  subst hv1 hv2 hv5
  have HR := Lib.hid (And.intro hb2 (And.intro hr1 (And.intro hr2 hr5)))
  clear ho1 ho2 ho3 hb2 h hr1 hr2 hr5
  obtain ⟨C, hC⟩ : ∃ C, C = setG ids l st false := ⟨_, rfl⟩
  have hCl : C.length ≤ ids.length := by rw [hC]; exact setG_len false
  have q := eqLI_self C
  have HC := Lib.hid hC
  clear hC
  go_wp2_with fail
  refine (iAbvAll_any _ _ _ _ _ _ ids l st _ HR.out.2.1 HR.out.2.2.1 HR.out.2.2.2 (by omega) (by omega) (by omega)).mono ?_
  rintro e w3 ⟨v3, rfl, hb3, ho3⟩
  rw [← HC.out] at ho3
  obtain ⟨A3, c3, hv3, hcap3, hr3⟩ := own_slice ho3
  subst hv3
  have H3 := Lib.hid (And.intro hb3 hr3)
  clear hb3 ho3 hr3
  go_wp2_with fail
  refine (sAbvAll_any _ _ _ _ _ _ ids l st _ (HR.out.2.1.step H3.out.1) (HR.out.2.2.1.step H3.out.1) (HR.out.2.2.2.step H3.out.1) (by omega) (by omega) (by omega)).mono ?_
  rintro e w4 ⟨v4, rfl, hb4, ho4⟩
  rw [← HC.out] at ho4
  obtain ⟨A4, c4, hv4, hcap4, hr4⟩ := own_slice ho4
  subst hv4
  have H4 := Lib.hid (And.intro hb4 hr4)
  clear hb4 ho4 hr4
  go_wp2_with fail
  refine (sameInts_any _ _ _ _ C C _ (H3.out.2.step H4.out.1) H4.out.2 (by omega)).mono ?_
  rintro e w5 ⟨rfl, hb5⟩
  have k5 := below_step H4.out.1 hb5
  have k25 := below_step H3.out.1 k5
  have R := Lib.hid (And.intro (HR.out.2.1.step k25) (And.intro (HR.out.2.2.1.step k25) (And.intro (HR.out.2.2.2.step k25) (And.intro (H3.out.2.step k5) (below_step HR.out.1 k25)))))
  have R4 := Lib.hid (H4.out.2.step hb5)
  clear hb5 k5 k25
  have e9 : decide ((C.length : Int) ≤ (ids.length : Int)) = true := decide_eq_true (by omega)
  have e99 : decide (C.length ≤ ids.length) = true := decide_eq_true hCl
  obtain ⟨ok, hok⟩ : ∃ ok, ok = okG ids l := ⟨_, rfl⟩
  have hid : ∀ W : World, Below w5.heap.size w5 W → Calls Try.prog 25 #[.slice A5 st.length c5] W fun e w2 => e = .returned (.bool (validI st)) ∧ W = w2 := fun W hW => iIds_any _ _ st W (R.out.2.2.1.step hW) (by omega)
  obtain ⟨v, hv⟩ : ∃ v, v = validI st := ⟨_, rfl⟩
  rw [← hv] at hid
  have HK := Lib.hid (And.intro hok (And.intro hv hid))
  clear hok hv hid
  go_wp2_with fail
  refine (iGroups_any _ _ _ _ ids l _ R.out.1 R.out.2.1 (by omega) (by omega)).mono ?_
  rintro e w6 ⟨v6, rfl, hb6, ho6⟩
  rw [← HK.out.1]
  have H6 := Lib.hid hb6
  clear hb6 ho6
  cases ok
  · go_wp2_with fail
    go_loop [10] (fun i => i = .int .i64 0) (fun _ => 0)
    case atStart => rfl
    case round =>
      obtain rfl := hrel
      rcases Nat.eq_zero_or_pos ids.length with h0 | h0
      · have e1 : decide ((0 : Int) < (ids.length : Int)) = false := decide_eq_false (by omega)
        have e2 : decide (0 < ids.length) = false := decide_eq_false (by omega)
        clear h0
        go_wp2_with fail
        go_ret
        exact ⟨rfl, below_step R.out.2.2.2.2 H6.out⟩
      · have e1 : decide ((0 : Int) < (ids.length : Int)) = true := decide_eq_true (by omega)
        have e2 : decide (0 < ids.length) = true := decide_eq_true (by omega)
        clear h0
        go_wp2_with fail
        go_ret
        exact ⟨rfl, below_step R.out.2.2.2.2 H6.out⟩
  · cases v
    · go_wp2_with fail
      go_loop [10] (fun i => i = .int .i64 0) (fun _ => 0)
      case atStart => rfl
      case round =>
        obtain rfl := hrel
        rcases Nat.eq_zero_or_pos ids.length with h0 | h0
        · have e1 : decide ((0 : Int) < (ids.length : Int)) = false := decide_eq_false (by omega)
          have e2 : decide (0 < ids.length) = false := decide_eq_false (by omega)
          clear h0
          go_wp2_with fail
          go_ret
          exact ⟨rfl, below_step R.out.2.2.2.2 H6.out⟩
        · have e1 : decide ((0 : Int) < (ids.length : Int)) = true := decide_eq_true (by omega)
          have e2 : decide (0 < ids.length) = true := decide_eq_true (by omega)
          clear h0
          go_wp2_with (go_at_call 25; go_must (refine (HK.out.2.2 _ H6.out).mono ?_); rintro e w7 ⟨rfl, rfl⟩)
          go_ret
          exact ⟨rfl, below_step R.out.2.2.2.2 H6.out⟩
    · have hmem : ∀ x, x ∈ ids → decide (x ∈ C) = st.any fun k => aboveG ids l x k := fun x hx => by
        rw [HC.out]
        exact above_any HK.out.1.symm HK.out.2.1.symm hx
      have HM := Lib.hid hmem
      clear hmem
      go_wp2_with fail
      go_loopw [10] (fun i wr => ∃ k : Nat, k ≤ ids.length ∧ i = .int .i64 k ∧ Below w5.heap.size w5 wr) (fun i _ => ids.length - (intOf i).toNat)
      case atStart => exact ⟨0, Nat.zero_le _, rfl, H6.out⟩
      case round =>
        obtain ⟨i, hi, rfl, hbl⟩ := hrel
        have HB := Lib.hid hbl
        clear hbl
        by_cases hii : i < ids.length
        · have hiii : (i : Int) < (ids.length : Int) := by omega
          obtain ⟨x, hx⟩ : ∃ x, ids[i]? = some x := ⟨_, List.getElem?_eq_getElem hii⟩
          have hm := HM.out x (List.mem_of_getElem? hx)
          have HX := Lib.hid (And.intro hx hm)
          clear hx hm
          go_wp2_with (go_at_call 25; go_must (refine (HK.out.2.2 _ HB.out).mono ?_); rintro e w7 ⟨rfl, rfl⟩)
          go_loopw [11, 12] (fun v kv wr => ∃ k : Nat, k ≤ st.length ∧ kv = .int .i64 k ∧ v = .bool ((st.take k).any fun y => aboveG ids l x y) ∧ Below w5.heap.size w5 wr) (fun _ i _ => st.length - (intOf i).toNat)
          case atStart => exact ⟨0, Nat.zero_le _, rfl, rfl, HB.out⟩
          case round =>
            obtain ⟨k, hk, rfl, rfl, hbl⟩ := hrel
            by_cases hkk : k < st.length
            · have hkki : (k : Int) < (st.length : Int) := by omega
              obtain ⟨y, hy⟩ : ∃ y, st[k]? = some y := ⟨_, List.getElem?_eq_getElem hkk⟩
              have hnx := any_next (p := fun y => aboveG ids l x y) hy
              obtain ⟨b1, o1, hA1, hbb1, hc1⟩ := (R.out.1.step hbl).ints (by omega)
              obtain ⟨b5, o5, hA5, hbb5, hc5⟩ := (R.out.2.2.1.step hbl).ints (by omega)
              subst hA1 hA5
              have g1 := hc1 i _ HX.out.1
              have g5 := hc5 k _ hy
              have hx1 := ext_cell (w := wr) (B := wr.heap.size) hbb1
              have hx5 := ext_cell (w := wr) (B := wr.heap.size) hbb5
              obtain ⟨s, hs⟩ : ∃ s, s = (st.take k).any fun y => aboveG ids l x y := ⟨_, rfl⟩
              obtain ⟨t, ht⟩ : ∃ t, t = aboveG ids l x y := ⟨_, rfl⟩
              rw [← hs] at hnx ⊢
              rw [← ht] at hnx
              have HN := Lib.hid (And.intro hnx (And.intro ht hbl))
              have HQ := Lib.hid (And.intro (R.out.1.step hbl) (R.out.2.1.step hbl))
              clear hy hnx hs ht hbl hc1 hc5
              cases s
              · go_wp2_with fail
                refine wp_region_ext wr.heap.size (by kernel_rfl) (by kernel_rfl) ?_
                repeat (go_big_quiet_step ((go_at_call 26; exact above_to _ _ _ _ ids l _ _ t _ HQ.out.1 HQ.out.2 (by omega) (by omega) HN.out.2.1.symm)))
                refine wpQuiet_nil ?_
                rintro _ ⟨x9, rfl⟩
                have H9 := Lib.hid (below_step HN.out.2.2 x9.below)
                clear hx1 hx5 g1 g5
                go_wp2_with fail
                go_roundw
                case rel => exact ⟨k + 1, by omega, by go_num, by rw [HN.out.1]; rfl, H9.out⟩
                case measure => simp [intOf]; omega
              · go_wp2_with fail
                refine wp_region_ext wr.heap.size (by kernel_rfl) (by kernel_rfl) ?_
                repeat (go_big_quiet_step (fail))
                refine wpQuiet_nil ?_
                rintro _ ⟨x9, rfl⟩
                have H9 := Lib.hid (below_step HN.out.2.2 x9.below)
                clear hx1 hx5 g1 g5
                go_wp2_with fail
                go_roundw
                case rel => exact ⟨k + 1, by omega, by go_num, by rw [HN.out.1]; rfl, H9.out⟩
                case measure => simp [intOf]; omega
            · have hkn : k = st.length := by omega
              subst hkn
              have hall : ((st.take st.length).any fun y => aboveG ids l x y) = decide (x ∈ C) := by rw [List.take_length, HX.out.2]
              rw [hall]
              obtain ⟨b1, o1, hA1, hbb1, hc1⟩ := (R.out.1.step hbl).ints (by omega)
              subst hA1
              have g1 := hc1 i _ HX.out.1
              have hht := hasInt_any A3 c3 C x wr (R.out.2.2.2.1.step hbl) (by omega)
              obtain ⟨t, ht⟩ : ∃ t, t = decide (x ∈ C) := ⟨_, rfl⟩
              rw [← ht] at hht ⊢
              have et : (t != t) = false := by simp
              have HT := Lib.hid (And.intro hht hbl)
              clear hall hc1 hht ht hbl
              go_wp2_with (go_at_call 27; go_must (refine HT.out.1.mono ?_); rintro e w8 ⟨rfl, rfl⟩)
              go_roundw
              case rel => exact ⟨i + 1, by omega, by go_num, HT.out.2⟩
              case measure => simp [intOf]; omega
        · go_wp2_with fail
          go_ret
          exact ⟨rfl, below_step R.out.2.2.2.2 HB.out⟩

theorem walk (A : Option Addr) (c : Nat) (z : List Int) (w : World) (h1 : z.length ≤ c) (h2 : Reads w w.heap.size 1 A z.length (cellsB z)) (h3 : ∀ b ∈ z, 0 ≤ b ∧ b ≤ 255) (h4 : c ≤ maxLen) :
    Calls Try.prog 3 #[.slice A z.length c] w fun e w2 => e = .returned (.bool true) ∧ Below w.heap.size w w2 := by
  by_cases hn : z.length ≤ 1048576
  · exact walk_short A c z w (Bytes.mk_ h1 h2 h3 h4) hn
  · have e0 : decide ((1048576 : Int) < (z.length : Int)) = true := decide_eq_true (by omega)
    go_enter Try.func3, Try.ntmps3
    go_wp2_with fail
    go_ret
    exact ⟨rfl, Below.refl _ _⟩

set_option linter.unusedVariables false
set_option maxRecDepth 100000 in
theorem lifted (os : Os) (started : os.Started) (H : Type) (enc : TypeId × Value → H) :
    ReturnsInHanded {} Try.checked os 3 .any (Rows.fnAboveAllSpec.pre6 enc Try.prog Try.f3 Rows.fnAboveAllRow.domain false) (Rows.fnAboveAllSpec.post enc Try.prog Try.f3 false true false false) := by
  refine returnsInHanded_of_change (C := Try.checked) lawOwn started (by kernel_rfl) Try.func3
    (ChangeSpec.witness6 (enc := enc) (C := Try.checked) false ⟨#[], #[.slice none 0 0], []⟩ 8 (by kernel_rfl) (by kernel_rfl) (by kernel_rfl) (by kernel_rfl)) ?_
  intro W base args ds gs before hval0 hW hcnd _
  have hval : ∀ (j : Nat) t v, Try.f3.params[j]? = some t → args[j]? = some v → Value.okWide Try.prog W .any base t v := hval0
  have hW' := hW
  obtain ⟨p, q, hA0, hV, rfl, hfz, hnd⟩ := hW
  have hA : DataW.TrodAll enc Try.prog W 0 (fun _ => true) true Try.f3.params.toList args.toList ds p := hA0
  rw [Try.params3] at hA hval
  obtain ⟨v0, vs0, d0, ds0, p0, q0, hargs, rfl, rfl, h0, r0⟩ := trodAll_cons hA
  obtain ⟨rfl, rfl, rfl⟩ := trodAll_nil r0
  obtain rfl : args = #[v0] := by cases args; simp_all
  obtain ⟨rfl, rfl⟩ := trodVars_none hV
  have k0 := h0
  have lt0 : ∀ x ∈ p0, x.block < W.heap.size := by obtain ⟨m, hm⟩ := k0; exact DataW.trod_lt m _ _ _ hm
  obtain ⟨a0, len0, cap0, rfl⟩ := okWide_slice Try.underlying22 (hval 0 22 v0 rfl rfl)
  obtain ⟨z0, hl0, hc0, hr0, hb0, hm0⟩ : ∃ z : List Int, len0 = z.length ∧ len0 ≤ cap0 ∧ Reads W W.heap.size 1 a0 len0 (cellsB z) ∧ (∀ b ∈ z, 0 ≤ b ∧ b ≤ 255) ∧ cap0 ≤ maxLen := by
    obtain ⟨fuel, hf⟩ := h0
    exact open_bytes Try.underlying22 Try.underlying5 (by kernel_rfl) (by simpa [Value.cells] using hf)
  subst hl0
  clear hA0 hval0
  refine (walk a0 cap0 z0 W hc0 hr0 hb0 hm0).mono fun e W' ⟨he, bel⟩ => ?_
  subst he
  exact ⟨_, rfl, _, _, _, [], _, [], hW', trodAll_mk1 (shut_bool Try.underlying4 _), (trodAll_cons_mk (Below.trod lawLaid (by kernel_rfl) (of_decide_eq_true (by kernel_rfl)) k0 bel lt0) trodAll_mk0), rfl, bel.frame _, fun h => by cases h⟩

theorem closed : joinedFacts Try.checked.prog 3 Try.f3 Rows.fnAboveAllSpec Rows.fnAboveAllRow = true := by
  unfold joinedFacts
  repeat (refine and_t ?_ (by first | (with_reducible exact ent) | (with_reducible refine lif_c ?_; kernel_rfl) | (with_reducible refine mak_c ?_; kernel_rfl) | kernel_rfl))
  kernel_rfl
theorem proved : Rows.FnAboveAllSaid :=
  OpenClaim.holds_of_wide 3 Try.f3 rfl rfl rfl rfl rfl rfl rfl ⟨rfl, rfl, rfl, rfl, rfl⟩ rfl rfl rfl rfl rfl (by kernel_rfl) Try.func3 closed
    (of_decide_eq_true (by kernel_rfl)) (by unfold Func.isWrapper; rw [if_neg (of_decide_eq_false (by kernel_rfl))]; exact ⟨rfl, rfl⟩)
    (fun os started H enc _ => lifted os started H enc)
#print axioms proved
end Go.Proofs.Ytmcnjmflmpfjlaa.lawAboveAll
