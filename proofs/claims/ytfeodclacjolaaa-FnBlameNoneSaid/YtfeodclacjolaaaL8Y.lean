/-
  Whatever bytes are given: of contexts, relations and bounds drawn from them, two bounds are blamed just where no years fit though some would without bounds; the answer is the model's. No condition.
-/
import Derived.Test.YtfeodclacjolaaaEnt
import Derived.Test.YtfeodclacjolaaaLif
import Derived.Test.YtfeodclacjolaaaMak
import Derived.Test.YtfeodclacjolaaaZz
import Derived.Test.YtfeodclacjolaaaId
import Derived.Test.YtfeodclacjolaaaOpen
import Derived.Test.YtfeodclacjolaaaEe
import Derived.Test.YtfeodclacjolaaaInts
import Derived.Test.YtfeodclacjolaaaMm
import Derived.Deep.RegionHeld3
namespace Go.Proofs.Ytfeodclacjolaaa.lawBlameNone
open Go.ChangeShapes Go.WideShapes Go.ChangeAt Go.RowKit

set_option maxHeartbeats 2000000 in
set_option maxRecDepth 100000 in
theorem walk_short (A : Option Addr) (c : Nat) (z : List Int) (w : World) (h : Bytes w A c z) (hn : z.length ≤ 1048576) :
    Calls Try.prog 12 #[.slice A z.length c] w fun e w2 => e = .returned (.bool true) ∧ Below w.heap.size w w2 := by
  have e0 : decide ((1048576 : Int) < (z.length : Int)) = false := decide_eq_false (by omega)
  go_enter Try.func12, Try.ntmps12
  go_wp2_with fail
  refine (dBlame_any A c z _ h).mono ?_
  rintro e w2 ⟨v1, v2, v3, ids, l, bs, rfl, ho1, ho2, ho3, hl1, hl2, hl3, hb2⟩
  obtain ⟨A1, c1, hv1, hcap1, hr1⟩ := own_slice ho1
  obtain ⟨A2, c2, hv2, hcap2, hr2⟩ := own_slice ho2
  obtain ⟨A3, c3, hv3, hcap3, hr3⟩ := own_slice ho3
  subst hv1 hv2 hv3
  have HR := Lib.hid (And.intro hb2 (And.intro hr1 (And.intro hr2 hr3)))
  clear ho1 ho2 ho3 hb2 h hr1 hr2 hr3
  have hbi := iBlame_any A1 A2 A3 c1 c2 c3 ids l bs w2 HR.out.2.1 HR.out.2.2.1 HR.out.2.2.2 (by omega) (by omega) (by omega)
  have hbs := fun (W : World) (hW : Below w2.heap.size w2 W) => sBlame_any A1 A2 A3 c1 c2 c3 ids l bs W (HR.out.2.1.step hW) (HR.out.2.2.1.step hW) (HR.out.2.2.2.step hW) (by omega) (by omega) (by omega)
  have HB := Lib.hid (And.intro hbi hbs)
  clear hbi hbs
  go_wp2_with fail
  refine HB.out.1.mono ?_
  rintro e w3 ⟨v4, O, rfl, hO, hb3, ho4⟩
  obtain ⟨A4, c4, hv4, _, hr4⟩ := own_slice ho4
  subst hv4
  have H3 := Lib.hid (And.intro hb3 (And.intro hr4 hO))
  clear hb3 ho4 hr4 hO
  go_wp2_with fail
  refine (HB.out.2 _ H3.out.1).mono ?_
  rintro e w4 ⟨v5, O2, rfl, hO2, hb4, ho5⟩
  obtain rfl : O2 = O := blamed_one hO2 H3.out.2.2
  obtain ⟨A5, c5, hv5, _, hr5⟩ := own_slice ho5
  subst hv5
  have hOl : O2.length ≤ 2 := by
    rcases hO2 with ⟨rfl, _⟩ | ⟨i, k, rfl, _⟩ <;> simp
  have H4 := Lib.hid (And.intro hb4 hr5)
  have q2 := eqLI_self O2
  clear hb4 ho5 hr5 hO2
  go_wp2_with fail
  refine (sameInts_any _ _ _ _ O2 O2 _ (H3.out.2.1.step H4.out.1) H4.out.2 (by omega)).mono ?_
  rintro e w5 ⟨rfl, hb5⟩
  have k5 := below_step H4.out.1 hb5
  have k25 := below_step H3.out.1 k5
  have R := Lib.hid (And.intro (HR.out.2.1.step k25) (And.intro (HR.out.2.2.1.step k25) (And.intro (HR.out.2.2.2.step k25) (And.intro (H3.out.2.1.step k5) (And.intro (H4.out.2.step hb5) (And.intro (below_step HR.out.1 k25) H3.out.2.2))))))
  clear hb5 k5 k25
  have hdo := fun (W : World) (hW : Below w5.heap.size w5 W) => iDatesOf_any A1 A2 A3 c1 c2 c3 ids l bs W (R.out.1.step hW) (R.out.2.1.step hW) (R.out.2.2.1.step hW) (by omega) (by omega) (by omega)
  have hdn := fun (W : World) (hW : Below w5.heap.size w5 W) (A9 : Option Addr) (c9 : Nat) => iDatesOf_any A1 A2 A9 c1 c2 c9 ids l [] W (R.out.1.step hW) (R.out.2.1.step hW) Reads.nil_ (by omega) (by omega) (by simp)
  have hbv := fun (W : World) (hW : Below w5.heap.size w5 W) => iBoundsValid_any A3 c3 bs W (R.out.2.2.1.step hW) (by omega)
  have htold := blamed_told R.out.2.2.2.2.2.2
  have hall : ∀ (k : Nat) (x : Ctx), bs[k]? = some x → ((bs.take (k + 1)).all fun b => decide (b.id ∈ ids)) = ((bs.take k).all (fun b => decide (b.id ∈ ids)) && decide (x.id ∈ ids)) := fun k x hx => by
    rw [List.take_add_one, hx]
    simp
  obtain ⟨o1, ho1⟩ : ∃ o, o = okD ids l bs := ⟨_, rfl⟩
  obtain ⟨o2, ho2⟩ : ∃ o, o = okD ids l [] := ⟨_, rfl⟩
  obtain ⟨vb, hvb⟩ : ∃ v, v = validB bs := ⟨_, rfl⟩
  obtain ⟨em, hem⟩ : ∃ m, m = decide (O2.length = 0) := ⟨_, rfl⟩
  have hem2 : ((O2.length : Int) == 0) = em := by rw [hem, Bool.eq_iff_iff]; simp
  rw [← ho1] at hdo htold
  rw [← ho2] at htold
  rw [← hvb] at htold hbv
  rw [← hem] at htold
  simp only [← ho2] at hdn
  obtain ⟨al, hal⟩ : ∃ al, al = bs.all (fun b => decide (b.id ∈ ids)) := ⟨_, rfl⟩
  rw [← hal] at htold
  have HF := Lib.hid (And.intro hdo (And.intro hdn (And.intro hbv (And.intro htold (And.intro hall hal)))))
  have HM := Lib.hid hem
  clear hdo hdn hbv htold hall ho1 ho2 hvb hem hal
  go_wp2_with fail
  refine (HF.out.1 _ (Below.refl _ _)).mono ?_
  rintro e w6 ⟨v6, rfl, hb6, ho6⟩
  have B6 := Lib.hid hb6
  have B6e := Lib.hid (hb6.alloc hb6.size (.cells #[] 52))
  clear hb6 ho6
  go_wp2_with fail
  refine (HF.out.2.1 _ B6e.out _ _).mono ?_
  rintro e w7 ⟨v7, rfl, hb7, ho7⟩
  have B7 := Lib.hid (below_step B6e.out hb7)
  clear hb7 ho7
  go_wp2_with fail
  go_loopw [11, 12] (fun v i wr => ∃ k : Nat, k ≤ bs.length ∧ i = .int .i64 k ∧ v = .bool (o2 && (bs.take k).all fun b => decide (b.id ∈ ids)) ∧ Below w7.heap.size w7 wr) (fun _ i _ => bs.length - (intOf i).toNat)
  case atStart => exact ⟨0, Nat.zero_le _, rfl, by simp, Below.refl _ _⟩
  case round =>
    obtain ⟨k, hk, rfl, rfl, hbl⟩ := hrel
    by_cases hlt : k < bs.length
    · have hki : (k : Int) < (bs.length : Int) := by omega
      obtain ⟨x, hx⟩ : ∃ x, bs[k]? = some x := ⟨_, List.getElem?_eq_getElem hlt⟩
      have kk := below_step B7.out hbl
      obtain ⟨b, off, hA, hbb, hcx⟩ := (R.out.2.2.1.step kk).ctx (by omega)
      subst hA
      obtain ⟨f1, f2, f3⟩ := hcx k x hx
      have hhi := hasInt_any A1 c1 ids x.id wr (R.out.1.step kk) (by omega)
      have hnx := HF.out.2.2.2.2.1 k x hx
      obtain ⟨p, hp⟩ : ∃ p, p = (bs.take k).all (fun b => decide (b.id ∈ ids)) := ⟨_, rfl⟩
      obtain ⟨q, hq⟩ : ∃ q, q = decide (x.id ∈ ids) := ⟨_, rfl⟩
      rw [← hp, ← hq] at hnx
      rw [← hq] at hhi
      rw [← hp]
      have HX := Lib.hid (And.intro hbl (And.intro hnx hhi))
      obtain ⟨m, hm⟩ : ∃ m, m = (o2 && p) := ⟨_, rfl⟩
      rw [← hm]
      have HMm := Lib.hid hm
      clear hbl hx kk hcx hnx hhi hp hq hm
      cases m
      · go_wp2_with fail
        go_roundw
        case rel => exact ⟨k + 1, by omega, by go_num, by rw [HX.out.2.1, ← Bool.and_assoc, ← HMm.out]; rfl, HX.out.1⟩
        case measure => simp [intOf]; omega
      · go_wp2_with (go_at_call 40; go_must (refine HX.out.2.2.mono ?_); rintro e w8 ⟨rfl, rfl⟩)
        go_roundw
        case rel => exact ⟨k + 1, by omega, by go_num, by rw [HX.out.2.1, ← Bool.and_assoc, ← HMm.out]; rfl, HX.out.1⟩
        case measure => simp [intOf]; omega
    · have hkl : bs.take k = bs := List.take_of_length_le (by omega)
      rw [hkl, ← HF.out.2.2.2.2.2]
      have HL := Lib.hid (And.intro hbl (HF.out.2.2.1 wr (below_step B7.out hbl)))
      have htold := HF.out.2.2.2.1
      obtain ⟨m, hm⟩ : ∃ m, m = (o2 && al) := ⟨_, rfl⟩
      rw [← hm] at htold ⊢
      have HT := Lib.hid htold
      clear hbl hkl hm htold
      cases o1
      · cases m
        · go_wp2_with fail
          go_ret
          exact ⟨ret_bool (by rw [HT.out]; simp), below_step R.out.2.2.2.2.2.1 (below_step B7.out HL.out.1)⟩
        · go_wp2_with (go_at_call 31; go_must (refine HL.out.2.mono ?_); rintro e w9 ⟨rfl, hb9⟩)
          go_ret
          exact ⟨ret_bool (by rw [HT.out]; simp), below_step R.out.2.2.2.2.2.1 (below_step B7.out (below_step HL.out.1 hb9))⟩
      · go_wp2_with fail
        go_ret
        exact ⟨ret_bool (by rw [HT.out]; simp), below_step R.out.2.2.2.2.2.1 (below_step B7.out HL.out.1)⟩

theorem walk (A : Option Addr) (c : Nat) (z : List Int) (w : World) (h1 : z.length ≤ c) (h2 : Reads w w.heap.size 1 A z.length (cellsB z)) (h3 : ∀ b ∈ z, 0 ≤ b ∧ b ≤ 255) (h4 : c ≤ maxLen) :
    Calls Try.prog 12 #[.slice A z.length c] w fun e w2 => e = .returned (.bool true) ∧ Below w.heap.size w w2 := by
  by_cases hn : z.length ≤ 1048576
  · exact walk_short A c z w (Bytes.mk_ h1 h2 h3 h4) hn
  · have e0 : decide ((1048576 : Int) < (z.length : Int)) = true := decide_eq_true (by omega)
    go_enter Try.func12, Try.ntmps12
    go_wp2_with fail
    go_ret
    exact ⟨rfl, Below.refl _ _⟩

set_option linter.unusedVariables false
set_option maxRecDepth 100000 in
theorem lifted (os : Os) (started : os.Started) (H : Type) (enc : TypeId × Value → H) :
    ReturnsInHanded {} Try.checked os 12 .any (Rows.fnBlameNoneSpec.pre6 enc Try.prog Try.f12 Rows.fnBlameNoneRow.domain false) (Rows.fnBlameNoneSpec.post enc Try.prog Try.f12 false true false false) := by
  refine returnsInHanded_of_change (C := Try.checked) lawOwn started (by kernel_rfl) Try.func12
    (ChangeSpec.witness6 (enc := enc) (C := Try.checked) false ⟨#[], #[.slice none 0 0], []⟩ 8 (by kernel_rfl) (by kernel_rfl) (by kernel_rfl) (by kernel_rfl)) ?_
  intro W base args ds gs before hval0 hW hcnd _
  have hval : ∀ (j : Nat) t v, Try.f12.params[j]? = some t → args[j]? = some v → Value.okWide Try.prog W .any base t v := hval0
  have hW' := hW
  obtain ⟨p, q, hA0, hV, rfl, hfz, hnd⟩ := hW
  have hA : DataW.TrodAll enc Try.prog W 0 (fun _ => true) true Try.f12.params.toList args.toList ds p := hA0
  rw [Try.params12] at hA hval
  obtain ⟨v0, vs0, d0, ds0, p0, q0, hargs, rfl, rfl, h0, r0⟩ := trodAll_cons hA
  obtain ⟨rfl, rfl, rfl⟩ := trodAll_nil r0
  obtain rfl : args = #[v0] := by cases args; simp_all
  obtain ⟨rfl, rfl⟩ := trodVars_none hV
  have k0 := h0
  have lt0 : ∀ x ∈ p0, x.block < W.heap.size := by obtain ⟨m, hm⟩ := k0; exact DataW.trod_lt m _ _ _ hm
  obtain ⟨a0, len0, cap0, rfl⟩ := okWide_slice Try.underlying22 (hval 0 22 v0 rfl rfl)
  obtain ⟨z0, hl0, hc0, hr0, hb0, hm0⟩ : ∃ z : List Int, len0 = z.length ∧ len0 ≤ cap0 ∧ Reads W W.heap.size 1 a0 len0 (cellsB z) ∧ (∀ b ∈ z, 0 ≤ b ∧ b ≤ 255) ∧ cap0 ≤ maxLen := by
    obtain ⟨fuel, hf⟩ := h0
    exact open_bytes Try.underlying22 Try.underlying5 (by kernel_rfl) (by simpa [Value.cells] using hf)
  subst hl0
  clear hA0 hval0
  refine (walk a0 cap0 z0 W hc0 hr0 hb0 hm0).mono fun e W' ⟨he, bel⟩ => ?_
  subst he
  exact ⟨_, rfl, _, _, _, [], _, [], hW', trodAll_mk1 (shut_bool Try.underlying4 _), (trodAll_cons_mk (Below.trod lawLaid (by kernel_rfl) (of_decide_eq_true (by kernel_rfl)) k0 bel lt0) trodAll_mk0), rfl, bel.frame _, fun h => by cases h⟩

theorem closed : joinedFacts Try.checked.prog 12 Try.f12 Rows.fnBlameNoneSpec Rows.fnBlameNoneRow = true := by
  unfold joinedFacts
  repeat (refine and_t ?_ (by first | (with_reducible exact ent) | (with_reducible refine lif_c ?_; kernel_rfl) | (with_reducible refine mak_c ?_; kernel_rfl) | kernel_rfl))
  kernel_rfl
theorem proved : Rows.FnBlameNoneSaid :=
  OpenClaim.holds_of_wide 12 Try.f12 rfl rfl rfl rfl rfl rfl rfl ⟨rfl, rfl, rfl, rfl, rfl⟩ rfl rfl rfl rfl rfl (by kernel_rfl) Try.func12 closed
    (of_decide_eq_true (by kernel_rfl)) (by unfold Func.isWrapper; rw [if_neg (of_decide_eq_false (by kernel_rfl))]; exact ⟨rfl, rfl⟩)
    (fun os started H enc _ => lifted os started H enc)
#print axioms proved
end Go.Proofs.Ytfeodclacjolaaa.lawBlameNone
