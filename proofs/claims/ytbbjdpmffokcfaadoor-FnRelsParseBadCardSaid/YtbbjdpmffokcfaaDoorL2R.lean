/-
  Whatever bytes are given: a text drawn from them is read as the model reads it; with a space before or behind it a text that was read is refused. No condition.
-/
import Derived.Test.YtbbjdpmffokcfaaDoorDp
import Derived.Test.YtbbjdpmffokcfaaDoorIp
import Derived.Test.YtbbjdpmffokcfaaDoorGl
import Derived.Test.YtbbjdpmffokcfaaDoorOpen
import Derived.Test.YtbbjdpmffokcfaaDoorCd
namespace Go.Proofs.YtbbjdpmffokcfaaDoor.lawBad
open Go.ChangeShapes Go.WideShapes Go.ChangeAt Go.RowKit

theorem nil_last : ∀ (n : Nat) (t : List UInt8), t.length ≤ n → [] ∈ cutL 32 (t ++ [32]) := by
  intro n
  induction n with
  | zero =>
    intro t hn
    obtain rfl : t = [] := List.eq_nil_of_length_eq_zero (by omega)
    decide
  | succ n ih =>
    intro t hn
    by_cases hx : (32 : UInt8) ∈ t
    · obtain ⟨x, y, rfl, hxn⟩ := first_hit hx
      rw [List.append_assoc, List.cons_append, cutL_hit hxn]
      exact List.mem_cons_of_mem _ (ih y (by simp at hn; omega))
    · rw [cutL_hit (x := t) (y := []) (fun c hc e => hx (by rw [← e]; exact hc))]
      simp [cutL]
theorem nil_first (t : List UInt8) : [] ∈ cutL 32 (32 :: t) := by
  have h := cutL_hit (a := 32) (x := []) (y := t) (fun c hc => by cases hc)
  rw [List.nil_append] at h
  rw [h]
  exact List.mem_cons_self
theorem bad_word {t : List UInt8} (hn : t ≠ []) (h : [] ∈ cutL 32 t) : validR (parseL t) = false := by
  cases hv : validR (parseL t) with
  | false => rfl
  | true =>
    have hok : okR (wordF []) = true := by
      refine validO_ok hv _ ?_
      unfold parseL
      rw [if_neg hn]
      exact List.mem_map.2 ⟨[], h, rfl⟩
    have h0 : okR (wordF []) = false := by decide
    rw [h0] at hok
    cases hok
theorem bad_facts (t : List UInt8) : validR (parseL (t ++ [32])) = false ∧ validR (parseL (32 :: t)) = false :=
  ⟨bad_word (by simp) (nil_last t.length t (Nat.le_refl _)), bad_word (by simp) (nil_first t)⟩
theorem parseR_len (t : List UInt8) : (parseR t).length ≤ t.length + 1 := by
  have h := cutL_len 32 t
  have h2 : (parseL t).length ≤ t.length + 1 := by
    unfold parseL
    by_cases ht : t = []
    · rw [if_pos ht]; simp
    · rw [if_neg ht, List.length_map]; exact h
  cases hv : validR (parseL t)
  · rw [parseR_no hv]; simp
  · rw [parseR_ok hv]; exact h2

set_option maxHeartbeats 2000000 in
set_option maxRecDepth 100000 in
theorem walk_short (A : Option Addr) (c : Nat) (z : List Int) (w : World) (hG : Glob w) (h : Bytes w A c z) (hn : z.length ≤ 1048576) :
    Calls Tryd.prog 5 #[.slice A z.length c] w fun e w2 => e = .returned (.bool true) ∧ Below w.heap.size w w2 := by
  have e0 : decide ((1048576 : Int) < (z.length : Int)) = false := decide_eq_false (by omega)
  go_enter Tryd.func5, Tryd.ntmps5
  go_wp2_with fail
  refine (dParse_any A c z _ h).mono ?_
  rintro e w2 ⟨t, rfl, ⟨htl, hta⟩, hb2⟩
  have hpl := parseR_len t
  have hq := eqLC_self (parseR t)
  go_wp2_with fail
  refine (iParse_any t _ (by omega) hta (hG.step hb2)).mono ?_
  rintro e w3 ⟨v3, rfl, hb3, ho3⟩
  obtain ⟨A3, c3, hv3, hcap3, hr3⟩ := own_slice ho3
  subst hv3
  have k3 := below_step hb2 hb3
  go_wp2_with fail
  refine (sParse_any t _ (by omega)).mono ?_
  rintro e w4 ⟨v4, rfl, hb4, ho4⟩
  obtain ⟨A4, c4, hv4, _, hr4⟩ := own_slice ho4
  subst hv4
  have k4 := below_step k3 hb4
  have hr34 := hr3.step hb4
  cases hv : validR (parseL t)
  · go_wp2_with fail
    refine (sameRel_any _ _ _ _ (parseR t) (parseR t) _ hr34 hr4 (by omega)).mono ?_
    rintro e w5 ⟨rfl, hb5⟩
    have k5 := below_step k4 hb5
    go_wp2_with fail
    refine (sameRel_any _ _ _ _ (parseR t) (parseR t) _ (hr34.step hb5) (hr4.step hb5) (by omega)).mono ?_
    rintro e w6 ⟨rfl, hb6⟩
    go_wp2_with fail
    go_ret
    exact ⟨rfl, below_step k5 hb6⟩
  · have HT := Lib.hid (bad_facts t)
    have h32 : txt t ++ (⟨#[32]⟩ : ByteArray) = txt (t ++ [32]) := txt_append t [32]
    have h33 : (⟨#[32]⟩ : ByteArray) ++ txt t = txt (32 :: t) := txt_append [32] t
    have hts := txt_size t
    have n1 := no_wrap2 (a := t.length) (b := 1) (by omega)
    have n2 := no_wrap2 (a := 1) (b := t.length) (by omega)
    have l1 : (t ++ [32]).length ≤ 1500000 := by simp; omega
    have l2 : (32 :: t).length ≤ 1500000 := by simp; omega
    have a1 : ∀ b ∈ t ++ [32], b.toNat < 128 := fun b hb => by
      rw [List.mem_append] at hb
      rcases hb with hb | hb
      · exact hta b hb
      · simp at hb; subst hb; decide
    have a2 : ∀ b ∈ (32 : UInt8) :: t, b.toNat < 128 := fun b hb => by
      rcases List.mem_cons.1 hb with rfl | hb
      · decide
      · exact hta b hb
    have L := Lib.hid (And.intro (And.intro l1 l2) (And.intro a1 a2))
    clear l1 l2 a1 a2 hta
    go_wp2_with fail
    refine (sameRel_any _ _ _ _ (parseR t) (parseR t) _ hr34 hr4 (by omega)).mono ?_
    rintro e w5 ⟨rfl, hb5⟩
    have k5 := below_step k4 hb5
    go_wp2_with fail
    refine (iParse_any (t ++ [32]) _ L.out.1.1 L.out.2.1 (hG.step k5)).mono ?_
    rw [HT.out.1]
    rintro e w6 ⟨v6, rfl, hb6, _⟩
    have k6 := below_step k5 hb6
    go_wp2_with fail
    refine (iParse_any (32 :: t) _ L.out.1.2 L.out.2.2 (hG.step k6)).mono ?_
    rw [HT.out.2]
    rintro e w7 ⟨v7, rfl, hb7, _⟩
    go_wp2_with fail
    go_ret
    exact ⟨rfl, below_step k6 hb7⟩

theorem walk {w : World} (hG : Glob w) (A : Option Addr) (c : Nat) (z : List Int) (_ : World) (h1 : z.length ≤ c) (h2 : Reads w w.heap.size 1 A z.length (cellsB z)) (h3 : ∀ b ∈ z, 0 ≤ b ∧ b ≤ 255) (h4 : c ≤ maxLen) :
    Calls Tryd.prog 5 #[.slice A z.length c] w fun e w2 => e = .returned (.bool true) ∧ Below w.heap.size w w2 := by
  by_cases hn : z.length ≤ 1048576
  · exact walk_short A c z w hG (Bytes.mk_ h1 h2 h3 h4) hn
  · have e0 : decide ((1048576 : Int) < (z.length : Int)) = true := decide_eq_true (by omega)
    go_enter Tryd.func5, Tryd.ntmps5
    go_wp2_with fail
    go_ret
    exact ⟨rfl, Below.refl _ _⟩

set_option linter.unusedVariables false
set_option maxRecDepth 100000 in
theorem lifted (os : Os) (started : os.Started) (H : Type) (enc : TypeId × Value → H) :
    ReturnsInHanded {} Tryd.checked os 5 .any (fun w args => (Rows.fnRelsParseBadSpec.pre enc Tryd.prog Tryd.f5 [] false w args ∧ laidMetH Tryd.prog Rows.fnRelsParseBadRow.laid w) ∧ sizedMet enc Tryd.prog Tryd.f5 (OpenSpec.ofChange Rows.fnRelsParseBadSpec) false w args)
      (Rows.fnRelsParseBadSpec.post enc Tryd.prog Tryd.f5 false true false false) := by
  refine returns_laid (C := Tryd.checked) (X := fun w _ => laidMetH Tryd.prog Rows.fnRelsParseBadRow.laid w) (fun _ _ _ hh h => h.of_heap hh) lawOwn started (by kernel_rfl) Tryd.func5
    (ChangeSpec.witness_shaped (enc := enc) (C := Tryd.checked) (os := os) (X := fun w _ => laidMetH Tryd.prog Rows.fnRelsParseBadRow.laid w) false (World.laidAll Tryd.prog os Rows.fnRelsParseBadRow.laid) #[.slice none 0 0] 8 (World.laidAll_os _ _ _)
      (World.shaped_of_ZipB (by kernel_rfl) (by kernel_rfl)) (by kernel_rfl) (by kernel_rfl) (by kernel_rfl)
      (by rw [MakeChecks.laidMetH_plain _ _ _ (by kernel_rfl)]; exact laidMet_laidAll _ (by kernel_rfl) (by kernel_rfl))) ?_
  intro W base args ds gs before hval0 hW hL hsh
  have hval : ∀ (j : Nat) t v, Tryd.f5.params[j]? = some t → args[j]? = some v → Value.okWide Tryd.prog W .any base t v := hval0
  have hW' := hW
  obtain ⟨p, q, hA0, hV, rfl, hfz, hnd⟩ := hW
  have hA : DataW.TrodAll enc Tryd.prog W 0 (fun _ => true) true Tryd.f5.params.toList args.toList ds p := hA0
  rw [Tryd.params5] at hA hval
  obtain ⟨v0, vs0, d0, ds0, p0, q0, hargs, rfl, rfl, h0, r0⟩ := trodAll_cons hA
  obtain ⟨rfl, rfl, rfl⟩ := trodAll_nil r0
  obtain rfl : args = #[v0] := by cases args; simp_all
  obtain ⟨rfl, rfl⟩ := trodVars_none hV
  have k0 := h0
  have lt0 : ∀ x ∈ p0, x.block < W.heap.size := by obtain ⟨m, hm⟩ := k0; exact DataW.trod_lt m _ _ _ hm
  obtain ⟨a0, len0, cap0, rfl⟩ := okWide_slice Tryd.underlying22 (hval 0 22 v0 rfl rfl)
  obtain ⟨z0, hl0, hc0, hr0, hb0, hm0⟩ : ∃ z : List Int, len0 = z.length ∧ len0 ≤ cap0 ∧ Reads W W.heap.size 1 a0 len0 (cellsB z) ∧ (∀ b ∈ z, 0 ≤ b ∧ b ≤ 255) ∧ cap0 ≤ maxLen := by
    obtain ⟨fuel, hf⟩ := h0
    exact open_bytes Tryd.underlying22 Tryd.underlying5 (by kernel_rfl) (by simpa [Value.cells] using hf)
  subst hl0
  clear hA0 hval0
  have hG := glob_of hL hsh
  refine (walk hG a0 cap0 z0 W hc0 hr0 hb0 hm0).mono fun e W' ⟨he, bel⟩ => ?_
  subst he
  exact ⟨_, rfl, _, _, _, [], _, [], hW', trodAll_mk1 (shut_bool Tryd.underlying4 _), (trodAll_cons_mk (Below.trod lawLaid (by kernel_rfl) (of_decide_eq_true (by kernel_rfl)) k0 bel lt0) trodAll_mk0), rfl, bel.frame _, fun h => by cases h⟩

theorem proved : Rows.FnRelsParseBadSaid :=
  OpenClaim.holds_of_wide 5 Tryd.f5 rfl rfl rfl rfl rfl rfl rfl ⟨rfl, rfl, rfl, rfl, rfl⟩ rfl rfl rfl rfl rfl (by kernel_rfl) Tryd.func5 (by kernel_rfl)
    (of_decide_eq_true (by kernel_rfl)) (by unfold Func.isWrapper; rw [if_neg (of_decide_eq_false (by kernel_rfl))]; exact ⟨rfl, rfl⟩)
    (fun os started H enc _ => lifted os started H enc)
theorem card : Rows.FnRelsParseBadCardSaid :=
  Claim7.holds_tied_plain_at .later [] [.data, .data, .data, .data, .sentinel, .sentinel, .pinned] true (true, "a552459b5cb4b909e779ce3d9a0a4adc998094f57585e2670a29168c97bb0632") true proved (fun _ h => by cases h) (by kernel_rfl) (fun _ h => by cases h) fnRelsParseBad_row_tie rfl ⟨rfl, rfl⟩ (by kernel_rfl) rfl
    (fun f fn hf hfn => by
      obtain rfl : f = 5 := Option.some.inj ((show Tryd.prog.funcNamed "loop.example/excavation/laws.FnRelsParseBad" = some 5 by kernel_rfl).symm.trans hf) |>.symm
      obtain rfl : fn = Tryd.f5 := (Option.some.inj (Tryd.func5.symm.trans hfn)).symm
      exact ⟨by kernel_rfl, fun j t ht => by
        rw [Tryd.params5] at ht
        have hm : t ∈ [22] := by simpa using Array.mem_of_getElem? ht
        have hall : ([22].all fun u => !Tryd.prog.wantsStandIn u) = true := by kernel_rfl
        exact (show Tryd.prog.wantsStandIn t = false by simpa using List.all_eq_true.1 hall t hm)⟩)
    (by kernel_rfl)
#print axioms card
end Go.Proofs.YtbbjdpmffokcfaaDoor.lawBad
