/-
  For every text, the program reads it as the model does, in memory of its own. No condition.
-/
import Derived.Test.YtbbjdpmffokcfaaDoorOpen
import Derived.Test.YtbbjdpmffokcfaaDoorIg
import Derived.Test.YtbbjdpmffokcfaaDoorGl
import Derived.Test.YtbbjdpmffokcfaaDoorCd
import Derived.ChangeMaps5
namespace Go.Proofs.YtbbjdpmffokcfaaDoor.exParse
open Go.ChangeShapes Go.WideShapes Go.ChangeAt Go.RowKit
open Go.ChangeMaps (open_string shut_string)

theorem parseR_len (t : List UInt8) : (parseR t).length ≤ t.length + 1 := by
  have h := cutL_len 32 t
  have h2 : (parseL t).length ≤ t.length + 1 := by
    unfold parseL
    by_cases ht : t = []
    · rw [if_pos ht]; simp
    · rw [if_neg ht, List.length_map]; exact h
  cases hv : validR (parseL t)
  · rw [parseR_no hv]; simp
  · rw [parseR_ok hv]; exact h2

set_option maxHeartbeats 4000000 in
set_option maxRecDepth 100000 in
theorem walk_txt (t : List UInt8) (w : World) (hG : Glob w) :
    Calls Tryd.prog 7 #[.string (txt t)] w fun e w2 => e = .returned (.bool true) ∧ Below w.heap.size w w2 := by
  have hsz := txt_size t
  by_cases hn : t.length ≤ 1048576
  · have e0 : decide ((1048576 : Int) < (t.length : Int)) = false := decide_eq_false (by omega)
    have hpl := parseR_len t
    obtain ⟨bb, hbb⟩ : ∃ bb, bb = validR (parseL t) := ⟨_, rfl⟩
    obtain ⟨l, hl⟩ : ∃ l, l = parseR t := ⟨_, rfl⟩
    have hS : ∀ w : World, Calls Tryd.prog 15 #[.string (txt t)] w (PairR w l bb) := fun w => by rw [hbb, hl]; exact sParse_any t w (by omega)
    have hI : ∀ w : World, Glob w → Calls Tryd.prog 12 #[.string (txt t)] w (PairR w l bb) := fun w hG => by rw [hbb, hl]; exact iParse_gen t w (by omega) hG
    have HS := Lib.hid hS
    have HI := Lib.hid hI
    rw [← hl] at hpl
    clear hS hI hbb hl
    have e1 : (bb != bb) = false := by cases bb <;> rfl
    have hq := eqLC_self l
    have em : decide ((1 : Int) + 3 * (l.length : Int) < 0) = false := by simp; omega
    go_enter Tryd.func7, Tryd.ntmps7
    go_wp2_with fail
    refine (HS.out _).mono ?_
    rintro e w2 ⟨v2, rfl, hb2, ho2⟩
    go_wp2_with fail
    refine (HI.out _ (hG.step hb2)).mono ?_
    rintro e w3 ⟨v3, rfl, hb3, ho3⟩
    obtain ⟨A2, c2, hv2, _, hr2⟩ := own_slice ho2
    obtain ⟨A3, c3, hv3, _, hr3⟩ := own_slice ho3
    subst hv2 hv3
    have k3 := below_step hb2 hb3
    go_wp2_with fail
    refine (eqSRel_any _ _ _ _ l l _ hr3 (hr2.step hb3) (by omega)).mono ?_
    rintro e w4 ⟨rfl, hb4⟩
    have k4 := below_step k3 hb4
    have o3 := own_below ho3 hb4
    have o2 := own_below (own_below ho2 hb3) hb4
    go_wp2_with fail
    refine (markRel_any _ _ l _ o3 (by omega)).mono ?_
    rintro e w5 ⟨rfl, hg5, ho5⟩
    have k5 := below_grown o3 hg5 k4 hb2.size
    have p2 := own_other o2 o3 (own_far ho2 o3 (Nat.le_refl _)) hg5
    go_wp2_with fail
    refine (heldRel_any _ _ l.length _ (own_reads ho5) (by omega)).mono ?_
    rintro e w6 ⟨rfl, rfl⟩
    go_wp2_with fail
    refine (HI.out _ (hG.step k5)).mono ?_
    rintro e w7 ⟨v7, rfl, hb7, ho7⟩
    obtain ⟨A7, c7, hv7, _, hr7⟩ := own_slice ho7
    subst hv7
    have k7 := below_step k5 hb7
    go_wp2_with fail
    refine (eqSRel_any _ _ _ _ l l _ hr7 ((own_reads p2).step hb7) (by omega)).mono ?_
    rintro e w8 ⟨rfl, hb8⟩
    have k8 := below_step k7 hb8
    go_wp2_with fail
    refine (heldRel_any _ _ l.length _ ((own_reads ho5).step (below_step hb7 hb8)) (by omega)).mono ?_
    rintro e w9 ⟨rfl, rfl⟩
    go_wp2_with fail
    go_ret
    exact ⟨rfl, k8⟩
  · have e0 : decide ((1048576 : Int) < (t.length : Int)) = true := decide_eq_true (by omega)
    go_enter Tryd.func7, Tryd.ntmps7
    go_wp2_with fail
    go_ret
    exact ⟨rfl, Below.refl _ _⟩
theorem walk {w : World} (hG : Glob w) (s : ByteArray) (_ : World) (_ : s.size ≤ maxLen) :
    Calls Tryd.prog 7 #[.string s] w fun e w2 => e = .returned (.bool true) ∧ Below w.heap.size w w2 := by
  have h := walk_txt s.data.toList w hG
  rw [txt_of] at h
  exact h

set_option linter.unusedVariables false
set_option maxRecDepth 100000 in
theorem lifted (os : Os) (started : os.Started) (H : Type) (enc : TypeId × Value → H) :
    ReturnsInHanded {} Tryd.checked os 7 .any (fun w args => (Rows.fnExactRelsParseSpec.pre enc Tryd.prog Tryd.f7 [] false w args ∧ laidMetH Tryd.prog Rows.fnExactRelsParseRow.laid w) ∧ sizedMet enc Tryd.prog Tryd.f7 (OpenSpec.ofChange Rows.fnExactRelsParseSpec) false w args)
      (Rows.fnExactRelsParseSpec.post enc Tryd.prog Tryd.f7 false true false false) := by
  refine returns_laid (C := Tryd.checked) (X := fun w _ => laidMetH Tryd.prog Rows.fnExactRelsParseRow.laid w) (fun _ _ _ hh h => h.of_heap hh) lawOwn started (by kernel_rfl) Tryd.func7
    (ChangeSpec.witness_shaped (enc := enc) (C := Tryd.checked) (os := os) (X := fun w _ => laidMetH Tryd.prog Rows.fnExactRelsParseRow.laid w) false (World.laidAll Tryd.prog os Rows.fnExactRelsParseRow.laid) #[.string ⟨#[]⟩] 8 (World.laidAll_os _ _ _)
      (World.shaped_of_ZipB (by kernel_rfl) (by kernel_rfl)) (by kernel_rfl) (by kernel_rfl) (by kernel_rfl)
      (by rw [MakeChecks.laidMetH_plain _ _ _ (by kernel_rfl)]; exact laidMet_laidAll _ (by kernel_rfl) (by kernel_rfl))) ?_
  intro W base args ds gs before hval0 hW hL hsh
  have hval : ∀ (j : Nat) t v, Tryd.f7.params[j]? = some t → args[j]? = some v → Value.okWide Tryd.prog W .any base t v := hval0
  have hW' := hW
  obtain ⟨p, q, hA0, hV, rfl, hfz, hnd⟩ := hW
  have hA : DataW.TrodAll enc Tryd.prog W 0 (fun _ => true) true Tryd.f7.params.toList args.toList ds p := hA0
  rw [Tryd.params7] at hA hval
  obtain ⟨v0, vs0, d0, ds0, p0, q0, hargs, rfl, rfl, h0, r0⟩ := trodAll_cons hA
  obtain ⟨rfl, rfl, rfl⟩ := trodAll_nil r0
  obtain rfl : args = #[v0] := by cases args; simp_all
  obtain ⟨rfl, rfl⟩ := trodVars_none hV
  obtain ⟨x0, rfl, rfl, rfl, w0⟩ := open_string Tryd.underlying9 (hval 0 9 v0 rfl rfl) h0
  clear hA0 hval0
  have hG := glob_of hL hsh
  refine (walk hG x0 W w0).mono fun e W' ⟨he, bel⟩ => ?_
  subst he
  exact ⟨_, rfl, _, _, _, [], _, [], hW', trodAll_mk1 (shut_bool Tryd.underlying4 _), (trodAll_cons_mk (shut_string Tryd.underlying9 w0) trodAll_mk0), rfl, bel.frame _, fun h => by cases h⟩

theorem proved : Rows.FnExactRelsParseSaid :=
  OpenClaim.holds_of_wide 7 Tryd.f7 rfl rfl rfl rfl rfl rfl rfl ⟨rfl, rfl, rfl, rfl, rfl⟩ rfl rfl rfl rfl rfl (by kernel_rfl) Tryd.func7 (by kernel_rfl)
    (of_decide_eq_true (by kernel_rfl)) (by unfold Func.isWrapper; rw [if_neg (of_decide_eq_false (by kernel_rfl))]; exact ⟨rfl, rfl⟩)
    (fun os started H enc _ => lifted os started H enc)
theorem card : Rows.FnExactRelsParseCardSaid :=
  Claim7.holds_tied_plain_at .later [] [.data, .data, .data, .data, .sentinel, .sentinel, .pinned] true (true, "a552459b5cb4b909e779ce3d9a0a4adc998094f57585e2670a29168c97bb0632") true proved (fun _ h => by cases h) (by kernel_rfl) (fun _ h => by cases h) fnExactRelsParse_row_tie rfl ⟨rfl, rfl⟩ (by kernel_rfl) rfl
    (fun f fn hf hfn => by
      obtain rfl : f = 7 := Option.some.inj ((show Tryd.prog.funcNamed "loop.example/excavation/laws.FnExactRelsParse" = some 7 by kernel_rfl).symm.trans hf) |>.symm
      obtain rfl : fn = Tryd.f7 := (Option.some.inj (Tryd.func7.symm.trans hfn)).symm
      exact ⟨by kernel_rfl, fun j t ht => by
        rw [Tryd.params7] at ht
        have hm : t ∈ [9] := by simpa using Array.mem_of_getElem? ht
        have hall : ([9].all fun u => !Tryd.prog.wantsStandIn u) = true := by kernel_rfl
        exact (show Tryd.prog.wantsStandIn t = false by simpa using List.all_eq_true.1 hall t hm)⟩)
    (by kernel_rfl)
#print axioms card
end Go.Proofs.YtbbjdpmffokcfaaDoor.exParse
