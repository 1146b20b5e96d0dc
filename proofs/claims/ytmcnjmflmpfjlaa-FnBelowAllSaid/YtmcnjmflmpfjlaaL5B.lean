/-
  Whatever bytes are given: of contexts, relations and a set drawn from them, what the program lists below the set is what the model lists; and if the set has one context, a context is listed exactly if this one is listed above it. No condition.
-/
import Derived.Test.YtmcnjmflmpfjlaaEnt
import Derived.Test.YtmcnjmflmpfjlaaLif
import Derived.Test.YtmcnjmflmpfjlaaMak
import Derived.Test.YtmcnjmflmpfjlaaDz
import Derived.Test.YtmcnjmflmpfjlaaIa
import Derived.Test.YtmcnjmflmpfjlaaSa
import Derived.Test.YtmcnjmflmpfjlaaMm
import Derived.Test.YtmcnjmflmpfjlaaLw
import Derived.Deep.RegionHeld3
namespace Go.Proofs.Ytmcnjmflmpfjlaa.lawBelowAll
open Go.ChangeShapes Go.WideShapes Go.ChangeAt Go.RowKit

set_option maxHeartbeats 2000000 in
set_option maxRecDepth 100000 in
theorem walk_short (A : Option Addr) (c : Nat) (z : List Int) (w : World) (h : Bytes w A c z) (hn : z.length ≤ 1048576) :
    Calls Try.prog 5 #[.slice A z.length c] w fun e w2 => e = .returned (.bool true) ∧ Below w.heap.size w w2 := by
  have e0 : decide ((1048576 : Int) < (z.length : Int)) = false := decide_eq_false (by omega)
  go_enter Try.func5, Try.ntmps5
  go_wp2_with fail
  refine (dBlwAll_any A c z _ h).mono ?_
  rintro e w2 ⟨v1, v2, v3, ids, l, st, rfl, ho1, ho2, ho3, hl1, hl2, hl3, hb2⟩
  obtain ⟨A1, c1, hv1, hcap1, hr1⟩ := own_slice ho1
  obtain ⟨A2, c2, hv2, hcap2, hr2⟩ := own_slice ho2
  obtain ⟨A5, c5, hv5, hcap5, hr5⟩ := own_slice ho3
  subst hv1 hv2 hv5
  have HR := Lib.hid (And.intro hb2 (And.intro hr1 (And.intro hr2 hr5)))
  clear ho1 ho2 ho3 hb2 h hr1 hr2 hr5
  obtain ⟨C, hC⟩ : ∃ C, C = setG ids l st true := ⟨_, rfl⟩
  have hCl : C.length ≤ ids.length := by rw [hC]; exact setG_len true
  have q := eqLI_self C
  have HC := Lib.hid hC
  clear hC
  go_wp2_with fail
  refine (iBlwAll_any _ _ _ _ _ _ ids l st _ HR.out.2.1 HR.out.2.2.1 HR.out.2.2.2 (by omega) (by omega) (by omega)).mono ?_
  rintro e w3 ⟨v3, rfl, hb3, ho3⟩
  rw [← HC.out] at ho3
  obtain ⟨A3, c3, hv3, hcap3, hr3⟩ := own_slice ho3
  subst hv3
  have H3 := Lib.hid (And.intro hb3 hr3)
  clear hb3 ho3 hr3
  go_wp2_with fail
  refine (sBlwAll_any _ _ _ _ _ _ ids l st _ (HR.out.2.1.step H3.out.1) (HR.out.2.2.1.step H3.out.1) (HR.out.2.2.2.step H3.out.1) (by omega) (by omega) (by omega)).mono ?_
  rintro e w4 ⟨v4, rfl, hb4, ho4⟩
  rw [← HC.out] at ho4
  obtain ⟨A4, c4, hv4, hcap4, hr4⟩ := own_slice ho4
  subst hv4
  have H4 := Lib.hid (And.intro hb4 hr4)
  clear hb4 ho4 hr4
  by_cases h1 : st.length = 1
  · have e1 : ((st.length : Int) != 1) = false := by rw [bne_eq_false_iff_eq]; omega
    obtain ⟨s0, hs0⟩ : ∃ s0, st = [s0] := List.length_eq_one_iff.1 h1
    go_wp2_with fail
    refine (sameInts_any _ _ _ _ C C _ (H3.out.2.step H4.out.1) H4.out.2 (by omega)).mono ?_
    rintro e w5 ⟨rfl, hb5⟩
    have k5 := below_step H4.out.1 hb5
    have k25 := below_step H3.out.1 k5
    have R := Lib.hid (And.intro (HR.out.2.1.step k25) (And.intro (HR.out.2.2.1.step k25) (And.intro (HR.out.2.2.2.step k25) (And.intro (H3.out.2.step k5) (below_step HR.out.1 k25)))))
    have R4 := Lib.hid (H4.out.2.step hb5)
    clear hb5 k5 k25
    have hrs : Reads w5 w5.heap.size 1 A5 1 (cellsI [s0]) := by
      have := R.out.2.2.1
      rw [hs0] at this
      exact this
    have hC1 : C = setG ids l [s0] true := by rw [HC.out, hs0]
    have hid : ∀ W : World, Below w5.heap.size w5 W → Calls Try.prog 25 #[.slice A1 ids.length c1] W fun e w2 => e = .returned (.bool (validI ids)) ∧ W = w2 := fun W hW => iIds_any _ _ ids W (R.out.1.step hW) (by omega)
    obtain ⟨v, hv⟩ : ∃ v, v = validI ids := ⟨_, rfl⟩
    rw [← hv] at hid
    have HK := Lib.hid (And.intro hid (And.intro hrs hC1))
    clear h1 hs0 hv hid hrs hC1
    go_wp2_with fail
    go_loopw [8] (fun i wr => ∃ k : Nat, k ≤ ids.length ∧ i = .int .i64 k ∧ Below w5.heap.size w5 wr) (fun i _ => ids.length - (intOf i).toNat)
    case atStart => exact ⟨0, Nat.zero_le _, rfl, Below.refl _ _⟩
    case round =>
      obtain ⟨i, hi, rfl, hbl⟩ := hrel
      have HB := Lib.hid hbl
      clear hbl
      by_cases hii : i < ids.length
      · have hiii : (i : Int) < (ids.length : Int) := by omega
        cases v
        · go_wp2_with (go_at_call 25; go_must (refine (HK.out.1 _ HB.out).mono ?_); rintro e w7 ⟨rfl, rfl⟩)
          go_ret
          exact ⟨rfl, below_step R.out.2.2.2.2 HB.out⟩
        · obtain ⟨x, hx⟩ : ∃ x, ids[i]? = some x := ⟨_, List.getElem?_eq_getElem hii⟩
          obtain ⟨b1, o1, hA1, hbb1, hc1⟩ := (R.out.1.step HB.out).ints (by omega)
          subst hA1
          have g1 := hc1 i _ hx
          have bx : Below wr.heap.size wr (wr.alloc (.cells #[.int .i64 x] 3)) := (Below.refl _ _).alloc (Nat.le_refl _) _
          have hrx := reads_int (w := wr) (n := x) (t := 3) (B := wr.heap.size + 1) (by omega)
          have hrx2 : Reads (wr.alloc (.cells #[.int .i64 x] 3)) (wr.alloc (.cells #[.int .i64 x] 3)).heap.size 1 (some ⟨wr.heap.size, 0, none⟩) 1 (cellsI [x]) := by simpa using hrx
          have k5 := below_step HB.out bx
          have habv := iAbvAll_any _ _ _ c1 c2 1 ids l [x] _ (R.out.1.step k5) (R.out.2.1.step k5) hrx2 (by omega) (by omega) (by simp)
          have hone := below_one (ids := ids) (l := l) (s := s0) (List.mem_of_getElem? hx)
          rw [← HK.out.2.2] at hone
          obtain ⟨D, hD⟩ : ∃ D, D = setG ids l [x] false := ⟨_, rfl⟩
          have hDl : D.length ≤ ids.length := by rw [hD]; exact setG_len false
          rw [← hD] at habv hone
          have HX := Lib.hid (And.intro hx (And.intro habv (And.intro hone k5)))
          clear hx hc1 bx hrx hrx2 k5 habv hone hD
          go_wp2_with (first
            | (go_at_call 25; go_must (refine (HK.out.1 _ HB.out).mono ?_); rintro e w7 ⟨rfl, rfl⟩)
            | (go_at_call 21; go_must (refine HX.out.2.1.mono ?_); rintro e w8 ⟨v8, rfl, hb8, ho8⟩))
          obtain ⟨A8, c8, hv8, _, hr8⟩ := own_slice ho8
          subst hv8
          have k8 := below_step HX.out.2.2.2 hb8
          obtain ⟨b2, o2, hA2, hbb2, hc2⟩ := (R.out.1.step k8).ints (by omega)
          injection hA2 with hA2
          injection hA2 with q1 q2 q3
          subst q1 q2
          clear q3
          obtain ⟨b5, o5, hA5, hbb5, hc5⟩ := (HK.out.2.1.step k8).ints (by omega)
          subst hA5
          have f1 := hc2 i _ HX.out.1
          have f5 := hc5 0 s0 rfl
          rw [Nat.add_zero] at f5
          have hx1 := ext_cell (w := w8) (B := w8.heap.size) hbb2
          have hx5 := ext_cell (w := w8) (B := w8.heap.size) hbb5
          obtain ⟨t, ht⟩ : ∃ t, t = decide (x ∈ C) := ⟨_, rfl⟩
          have et : (t != t) = false := by simp
          have h2 : decide (s0 ∈ D) = t := by rw [ht, HX.out.2.2.1]
          have HT := Lib.hid (And.intro ht.symm (And.intro h2 (And.intro (R.out.2.2.2.1.step k8) (And.intro hr8 k8))))
          clear hc2 hc5 ht h2 hr8 k8 ho8 hb8
          go_wp2_with fail
          refine wp_region_ext w8.heap.size (by kernel_rfl) (by kernel_rfl) ?_
          repeat (go_big_quiet_step ((go_at_call 27; first | (with_reducible exact hasInt_to _ _ _ C x t _ rfl (HT.out.2.2.1.step (Ext.below _)) (by omega) HT.out.1) | with_reducible exact hasInt_to _ _ _ D s0 t _ rfl (HT.out.2.2.2.1.step (Ext.below _)) (by omega) HT.out.2.1)))
          refine wpQuiet_nil ?_
          rintro _ ⟨x9, rfl⟩
          have H9 := Lib.hid (below_step HT.out.2.2.2.2 x9.below)
          clear hx1 hx5 f1 f5
          go_wp2_with fail
          go_roundw
          case rel => exact ⟨i + 1, by omega, by go_num, H9.out⟩
          case measure => simp [intOf]; omega
      · have hnl : i = ids.length := by omega
        clear hnl
        go_wp2_with fail
        go_ret
        exact ⟨rfl, below_step R.out.2.2.2.2 HB.out⟩
  · have e1 : ((st.length : Int) != 1) = true := by rw [bne_iff_ne]; omega
    clear h1
    go_wp2_with fail
    refine (sameInts_any _ _ _ _ C C _ (H3.out.2.step H4.out.1) H4.out.2 (by omega)).mono ?_
    rintro e w5 ⟨rfl, hb5⟩
    have k5 := below_step H4.out.1 hb5
    have k25 := below_step H3.out.1 k5
    have R := Lib.hid (And.intro (HR.out.2.1.step k25) (And.intro (HR.out.2.2.1.step k25) (And.intro (HR.out.2.2.2.step k25) (And.intro (H3.out.2.step k5) (below_step HR.out.1 k25)))))
    have R4 := Lib.hid (H4.out.2.step hb5)
    clear hb5 k5 k25
    go_wp2_with fail
    refine (sameInts_any _ _ _ _ C C _ R.out.2.2.2.1 R4.out (by omega)).mono ?_
    rintro e w6 ⟨rfl, hb6⟩
    go_wp2_with fail
    go_ret
    exact ⟨rfl, below_step R.out.2.2.2.2 hb6⟩

theorem walk (A : Option Addr) (c : Nat) (z : List Int) (w : World) (h1 : z.length ≤ c) (h2 : Reads w w.heap.size 1 A z.length (cellsB z)) (h3 : ∀ b ∈ z, 0 ≤ b ∧ b ≤ 255) (h4 : c ≤ maxLen) :
    Calls Try.prog 5 #[.slice A z.length c] w fun e w2 => e = .returned (.bool true) ∧ Below w.heap.size w w2 := by
  by_cases hn : z.length ≤ 1048576
  · exact walk_short A c z w (Bytes.mk_ h1 h2 h3 h4) hn
  · have e0 : decide ((1048576 : Int) < (z.length : Int)) = true := decide_eq_true (by omega)
    go_enter Try.func5, Try.ntmps5
    go_wp2_with fail
    go_ret
    exact ⟨rfl, Below.refl _ _⟩

set_option linter.unusedVariables false
set_option maxRecDepth 100000 in
theorem lifted (os : Os) (started : os.Started) (H : Type) (enc : TypeId × Value → H) :
    ReturnsInHanded {} Try.checked os 5 .any (Rows.fnBelowAllSpec.pre6 enc Try.prog Try.f5 Rows.fnBelowAllRow.domain false) (Rows.fnBelowAllSpec.post enc Try.prog Try.f5 false true false false) := by
  refine returnsInHanded_of_change (C := Try.checked) lawOwn started (by kernel_rfl) Try.func5
    (ChangeSpec.witness6 (enc := enc) (C := Try.checked) false ⟨#[], #[.slice none 0 0], []⟩ 8 (by kernel_rfl) (by kernel_rfl) (by kernel_rfl) (by kernel_rfl)) ?_
  intro W base args ds gs before hval0 hW hcnd _
  have hval : ∀ (j : Nat) t v, Try.f5.params[j]? = some t → args[j]? = some v → Value.okWide Try.prog W .any base t v := hval0
  have hW' := hW
  obtain ⟨p, q, hA0, hV, rfl, hfz, hnd⟩ := hW
  have hA : DataW.TrodAll enc Try.prog W 0 (fun _ => true) true Try.f5.params.toList args.toList ds p := hA0
  rw [Try.params5] at hA hval
  obtain ⟨v0, vs0, d0, ds0, p0, q0, hargs, rfl, rfl, h0, r0⟩ := trodAll_cons hA
  obtain ⟨rfl, rfl, rfl⟩ := trodAll_nil r0
  obtain rfl : args = #[v0] := by cases args; simp_all
  obtain ⟨rfl, rfl⟩ := trodVars_none hV
  have k0 := h0
  have lt0 : ∀ x ∈ p0, x.block < W.heap.size := by obtain ⟨m, hm⟩ := k0; exact DataW.trod_lt m _ _ _ hm
  obtain ⟨a0, len0, cap0, rfl⟩ := okWide_slice Try.underlying22 (hval 0 22 v0 rfl rfl)
  obtain ⟨z0, hl0, hc0, hr0, hb0, hm0⟩ : ∃ z : List Int, len0 = z.length ∧ len0 ≤ cap0 ∧ Reads W W.heap.size 1 a0 len0 (cellsB z) ∧ (∀ b ∈ z, 0 ≤ b ∧ b ≤ 255) ∧ cap0 ≤ maxLen := by
    obtain ⟨fuel, hf⟩ := h0
    exact open_bytes Try.underlying22 Try.underlying5 (by kernel_rfl) (by simpa [Value.cells] using hf)
  subst hl0
  clear hA0 hval0
  refine (walk a0 cap0 z0 W hc0 hr0 hb0 hm0).mono fun e W' ⟨he, bel⟩ => ?_
  subst he
  exact ⟨_, rfl, _, _, _, [], _, [], hW', trodAll_mk1 (shut_bool Try.underlying4 _), (trodAll_cons_mk (Below.trod lawLaid (by kernel_rfl) (of_decide_eq_true (by kernel_rfl)) k0 bel lt0) trodAll_mk0), rfl, bel.frame _, fun h => by cases h⟩

theorem closed : joinedFacts Try.checked.prog 5 Try.f5 Rows.fnBelowAllSpec Rows.fnBelowAllRow = true := by
  unfold joinedFacts
  repeat (refine and_t ?_ (by first | (with_reducible exact ent) | (with_reducible refine lif_c ?_; kernel_rfl) | (with_reducible refine mak_c ?_; kernel_rfl) | kernel_rfl))
  kernel_rfl
theorem proved : Rows.FnBelowAllSaid :=
  OpenClaim.holds_of_wide 5 Try.f5 rfl rfl rfl rfl rfl rfl rfl ⟨rfl, rfl, rfl, rfl, rfl⟩ rfl rfl rfl rfl rfl (by kernel_rfl) Try.func5 closed
    (of_decide_eq_true (by kernel_rfl)) (by unfold Func.isWrapper; rw [if_neg (of_decide_eq_false (by kernel_rfl))]; exact ⟨rfl, rfl⟩)
    (fun os started H enc _ => lifted os started H enc)
#print axioms proved
end Go.Proofs.Ytmcnjmflmpfjlaa.lawBelowAll
