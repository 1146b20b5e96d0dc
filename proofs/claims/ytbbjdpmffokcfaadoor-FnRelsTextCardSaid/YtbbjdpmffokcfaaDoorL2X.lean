/-
  Whatever bytes are given: of relations drawn from them, the program's text is the model's, and a text that is written is read back as the relations. No condition.
-/
import Derived.Test.YtbbjdpmffokcfaaDoorDd
import Derived.Test.YtbbjdpmffokcfaaDoorIp
import Derived.Test.YtbbjdpmffokcfaaDoorGl
import Derived.Test.YtbbjdpmffokcfaaDoorOpen
import Derived.Test.YtbbjdpmffokcfaaDoorCd
namespace Go.Proofs.YtbbjdpmffokcfaaDoor.lawText
open Go.ChangeShapes Go.WideShapes Go.ChangeAt Go.RowKit

theorem joinR_ascii {l : List Ctx} (hv : ∀ c ∈ l, okR c = true) : ∀ k, ∀ b ∈ joinR (l.take k), b.toNat < 128
  | 0 => fun b hb => by rw [joinR_zero] at hb; cases hb
  | k + 1 => by
    have ih := joinR_ascii hv k
    cases h : l[k]? with
    | none =>
      have : l.take (k + 1) = l.take k := by rw [List.take_add_one, h]; simp
      rw [this]; exact ih
    | some c =>
      have hc := relT_byte (hv c (List.mem_of_getElem? h))
      rcases Nat.eq_zero_or_pos k with h0 | hp
      · subst h0; rw [joinR_one h]; exact fun b hb => (hc b hb).2
      · rw [joinR_more hp h]
        intro b hb
        rw [List.mem_append, List.mem_append] at hb
        rcases hb with (hb | hb) | hb
        · exact ih b hb
        · simp at hb; subst hb; decide
        · exact (hc b hb).2
theorem text_facts {l : List Ctx} (hv : validR l = true) (hl : l.length ≤ 1000) : (textR l).length ≤ 6000 ∧ (∀ b ∈ textR l, b.toNat < 128) ∧ parseR (textR l) = l ∧ validR (parseL (textR l)) = true := by
  have hok := validO_ok hv
  have e : textR l = joinR l := by unfold textR; rw [hv]; rfl
  have h1 := joinR_len hok l.length
  have h2 := joinR_ascii hok l.length
  rw [List.take_length] at h1 h2
  have hp := parse_text hv
  rw [e]
  have hv2 : validR (parseL (joinR l)) = true := by rw [hp]; exact hv
  exact ⟨by omega, h2, (parseR_ok hv2).trans hp, hv2⟩

set_option maxHeartbeats 2000000 in
set_option maxRecDepth 100000 in
theorem walk_short (A : Option Addr) (c : Nat) (z : List Int) (w : World) (hG : Glob w) (h : Bytes w A c z) (hn : z.length ≤ 1048576) :
    Calls Tryd.prog 3 #[.slice A z.length c] w fun e w2 => e = .returned (.bool true) ∧ Below w.heap.size w w2 := by
  have e0 : decide ((1048576 : Int) < (z.length : Int)) = false := decide_eq_false (by omega)
  go_enter Tryd.func3, Tryd.ntmps3
  go_wp2_with fail
  refine (dTextR_any A c z _ h).mono ?_
  rintro e w2 ⟨v, l, rfl, ho2, hl, hb2⟩
  obtain ⟨Al, cl, hv, hcap, hrl⟩ := own_slice ho2
  subst hv
  go_wp2_with fail
  refine (iText_any _ _ l _ hrl (by omega)).mono ?_
  rintro e w3 ⟨rfl, hb3⟩
  go_wp2_with fail
  refine (sText_any _ _ l _ (hrl.step hb3) (by omega)).mono ?_
  rintro e w4 ⟨rfl, hb4⟩
  have k4 := below_step hb3 hb4
  go_wp2_with fail
  refine (sValidR_any _ _ l _ (hrl.step k4) (by omega)).mono ?_
  rintro e w5 ⟨rfl, hb5⟩
  have k5 := below_step k4 hb5
  cases hv : validR l
  · go_wp2_with fail
    go_ret
    exact ⟨rfl, below_step hb2 k5⟩
  · obtain ⟨t1, t2, t3, t4⟩ := text_facts hv (by have := validO_len hv; omega)
    have hG5 := hG.step (below_step hb2 k5)
    have HT := Lib.hid (And.intro t3 t4)
    have hq := eqLC_self l
    clear t3 t4
    go_wp2_with fail
    refine (iParse_any (textR l) _ (by omega) t2 hG5).mono ?_
    rw [HT.out.1, HT.out.2]
    rintro e w6 ⟨v6, rfl, hb6, ho6⟩
    obtain ⟨A6, c6, hv6, _, hr6⟩ := own_slice ho6
    subst hv6
    go_wp2_with fail
    refine (sameRel_any _ _ _ _ l l _ hr6 (hrl.step (below_step k5 hb6)) (by omega)).mono ?_
    rintro e w7 ⟨rfl, hb7⟩
    go_wp2_with fail
    go_ret
    exact ⟨rfl, below_step (below_step (below_step hb2 k5) hb6) hb7⟩

theorem walk {w : World} (hG : Glob w) (A : Option Addr) (c : Nat) (z : List Int) (_ : World) (h1 : z.length ≤ c) (h2 : Reads w w.heap.size 1 A z.length (cellsB z)) (h3 : ∀ b ∈ z, 0 ≤ b ∧ b ≤ 255) (h4 : c ≤ maxLen) :
    Calls Tryd.prog 3 #[.slice A z.length c] w fun e w2 => e = .returned (.bool true) ∧ Below w.heap.size w w2 := by
  by_cases hn : z.length ≤ 1048576
  · exact walk_short A c z w hG (Bytes.mk_ h1 h2 h3 h4) hn
  · have e0 : decide ((1048576 : Int) < (z.length : Int)) = true := decide_eq_true (by omega)
    go_enter Tryd.func3, Tryd.ntmps3
    go_wp2_with fail
    go_ret
    exact ⟨rfl, Below.refl _ _⟩

set_option linter.unusedVariables false
set_option maxRecDepth 100000 in
theorem lifted (os : Os) (started : os.Started) (H : Type) (enc : TypeId × Value → H) :
    ReturnsInHanded {} Tryd.checked os 3 .any (fun w args => (Rows.fnRelsTextSpec.pre enc Tryd.prog Tryd.f3 [] false w args ∧ laidMetH Tryd.prog Rows.fnRelsTextRow.laid w) ∧ sizedMet enc Tryd.prog Tryd.f3 (OpenSpec.ofChange Rows.fnRelsTextSpec) false w args)
      (Rows.fnRelsTextSpec.post enc Tryd.prog Tryd.f3 false true false false) := by
  refine returns_laid (C := Tryd.checked) (X := fun w _ => laidMetH Tryd.prog Rows.fnRelsTextRow.laid w) (fun _ _ _ hh h => h.of_heap hh) lawOwn started (by kernel_rfl) Tryd.func3
    (ChangeSpec.witness_shaped (enc := enc) (C := Tryd.checked) (os := os) (X := fun w _ => laidMetH Tryd.prog Rows.fnRelsTextRow.laid w) false (World.laidAll Tryd.prog os Rows.fnRelsTextRow.laid) #[.slice none 0 0] 8 (World.laidAll_os _ _ _)
      (World.shaped_of_ZipB (by kernel_rfl) (by kernel_rfl)) (by kernel_rfl) (by kernel_rfl) (by kernel_rfl)
      (by rw [MakeChecks.laidMetH_plain _ _ _ (by kernel_rfl)]; exact laidMet_laidAll _ (by kernel_rfl) (by kernel_rfl))) ?_
  intro W base args ds gs before hval0 hW hL hsh
  have hval : ∀ (j : Nat) t v, Tryd.f3.params[j]? = some t → args[j]? = some v → Value.okWide Tryd.prog W .any base t v := hval0
  have hW' := hW
  obtain ⟨p, q, hA0, hV, rfl, hfz, hnd⟩ := hW
  have hA : DataW.TrodAll enc Tryd.prog W 0 (fun _ => true) true Tryd.f3.params.toList args.toList ds p := hA0
  rw [Tryd.params3] at hA hval
  obtain ⟨v0, vs0, d0, ds0, p0, q0, hargs, rfl, rfl, h0, r0⟩ := trodAll_cons hA
  obtain ⟨rfl, rfl, rfl⟩ := trodAll_nil r0
  obtain rfl : args = #[v0] := by cases args; simp_all
  obtain ⟨rfl, rfl⟩ := trodVars_none hV
  have k0 := h0
  have lt0 : ∀ x ∈ p0, x.block < W.heap.size := by obtain ⟨m, hm⟩ := k0; exact DataW.trod_lt m _ _ _ hm
  obtain ⟨a0, len0, cap0, rfl⟩ := okWide_slice Tryd.underlying22 (hval 0 22 v0 rfl rfl)
  obtain ⟨z0, hl0, hc0, hr0, hb0, hm0⟩ : ∃ z : List Int, len0 = z.length ∧ len0 ≤ cap0 ∧ Reads W W.heap.size 1 a0 len0 (cellsB z) ∧ (∀ b ∈ z, 0 ≤ b ∧ b ≤ 255) ∧ cap0 ≤ maxLen := by
    obtain ⟨fuel, hf⟩ := h0
    exact open_bytes Tryd.underlying22 Tryd.underlying5 (by kernel_rfl) (by simpa [Value.cells] using hf)
  subst hl0
  clear hA0 hval0
  have hG := glob_of hL hsh
  refine (walk hG a0 cap0 z0 W hc0 hr0 hb0 hm0).mono fun e W' ⟨he, bel⟩ => ?_
  subst he
  exact ⟨_, rfl, _, _, _, [], _, [], hW', trodAll_mk1 (shut_bool Tryd.underlying4 _), (trodAll_cons_mk (Below.trod lawLaid (by kernel_rfl) (of_decide_eq_true (by kernel_rfl)) k0 bel lt0) trodAll_mk0), rfl, bel.frame _, fun h => by cases h⟩

theorem proved : Rows.FnRelsTextSaid :=
  OpenClaim.holds_of_wide 3 Tryd.f3 rfl rfl rfl rfl rfl rfl rfl ⟨rfl, rfl, rfl, rfl, rfl⟩ rfl rfl rfl rfl rfl (by kernel_rfl) Tryd.func3 (by kernel_rfl)
    (of_decide_eq_true (by kernel_rfl)) (by unfold Func.isWrapper; rw [if_neg (of_decide_eq_false (by kernel_rfl))]; exact ⟨rfl, rfl⟩)
    (fun os started H enc _ => lifted os started H enc)
theorem card : Rows.FnRelsTextCardSaid :=
  Claim7.holds_tied_plain_at .later [] [.data, .data, .data, .data, .sentinel, .sentinel, .pinned] true (true, "a552459b5cb4b909e779ce3d9a0a4adc998094f57585e2670a29168c97bb0632") true proved (fun _ h => by cases h) (by kernel_rfl) (fun _ h => by cases h) fnRelsText_row_tie rfl ⟨rfl, rfl⟩ (by kernel_rfl) rfl
    (fun f fn hf hfn => by
      obtain rfl : f = 3 := Option.some.inj ((show Tryd.prog.funcNamed "loop.example/excavation/laws.FnRelsText" = some 3 by kernel_rfl).symm.trans hf) |>.symm
      obtain rfl : fn = Tryd.f3 := (Option.some.inj (Tryd.func3.symm.trans hfn)).symm
      exact ⟨by kernel_rfl, fun j t ht => by
        rw [Tryd.params3] at ht
        have hm : t ∈ [22] := by simpa using Array.mem_of_getElem? ht
        have hall : ([22].all fun u => !Tryd.prog.wantsStandIn u) = true := by kernel_rfl
        exact (show Tryd.prog.wantsStandIn t = false by simpa using List.all_eq_true.1 hall t hm)⟩)
    (by kernel_rfl)
#print axioms card
end Go.Proofs.YtbbjdpmffokcfaaDoor.lawText
