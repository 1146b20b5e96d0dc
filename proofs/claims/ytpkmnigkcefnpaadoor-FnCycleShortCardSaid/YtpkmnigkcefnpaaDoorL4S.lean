/-
  Whatever bytes are given: of contexts and relations drawn from them, the program's circle is the model's, and if it has three contexts or more, no two contexts are told to lie above each other. Condition: the library's listed table is as its own initialiser lays it.
-/
import Derived.Test.YtpkmnigkcefnpaaDoorCc
import Derived.Test.YtpkmnigkcefnpaaDoorW2
import Derived.Test.YtpkmnigkcefnpaaDoorGc
import Derived.Test.YtpkmnigkcefnpaaDoorDo
import Derived.Test.YtpkmnigkcefnpaaDoorInts
import Derived.Test.YtpkmnigkcefnpaaDoorOpen
import Derived.Deep.RegionHeld3
namespace Go.Proofs.YtpkmnigkcefnpaaDoor.lawCycleShort
open Go.ChangeShapes Go.WideShapes Go.ChangeAt Go.RowKit

set_option maxHeartbeats 8000000 in
set_option maxRecDepth 100000 in
theorem walk_short (A : Option Addr) (c : Nat) (z : List Int) (w : World) (hG : Glob w) (h : Bytes w A c z) (hn : z.length ≤ 1048576) :
    Calls Tryd.prog 6 #[.slice A z.length c] w fun e w2 => e = .returned (.bool true) ∧ Below w.heap.size w w2 := by
  have e0 : decide ((1048576 : Int) < (z.length : Int)) = false := decide_eq_false (by omega)
  go_enter Tryd.func6, Tryd.ntmps6
  go_wp2_with fail
  refine (dOrdC_any A c z _ h).mono ?_
  rintro e w2 ⟨v1, v2, ids, l, rfl, ho1, ho2, hl1, hl2, hb2⟩
  obtain ⟨A1, c1, hv1, hcap1, hr1⟩ := own_slice ho1
  obtain ⟨A2, c2, hv2, hcap2, hr2⟩ := own_slice ho2
  subst hv1 hv2
  obtain ⟨C, hC⟩ : ∃ C, C = cycG ids l := ⟨_, rfl⟩
  have hCl : C.length ≤ 12 := by rw [hC]; exact cycG_len ids l
  have q := eqLI_self C
  have HC := Lib.hid hC
  have HR := Lib.hid (And.intro hb2 (And.intro hr1 (And.intro hr2 (hG.step hb2))))
  clear ho1 ho2 hb2 h hr1 hr2 hC hG
  go_wp2_with fail
  refine (iCycle_any _ _ _ _ ids l _ HR.out.2.1 HR.out.2.2.1 (by omega) (by omega) HR.out.2.2.2).mono ?_
  rintro e w3 ⟨v3, rfl, hb3, ho3⟩
  rw [← HC.out] at ho3
  obtain ⟨A3, c3, hv3, hcap3, hr3⟩ := own_slice ho3
  subst hv3
  have H3 := Lib.hid (And.intro hb3 hr3)
  clear hb3 ho3 hr3
  go_wp2_with fail
  refine (sCycle_any _ _ _ _ ids l _ (HR.out.2.1.step H3.out.1) (HR.out.2.2.1.step H3.out.1) (by omega) (by omega)).mono ?_
  rintro e w4 ⟨v4, rfl, hb4, ho4⟩
  rw [← HC.out] at ho4
  obtain ⟨A4, c4, hv4, hcap4, hr4⟩ := own_slice ho4
  subst hv4
  have H4 := Lib.hid (And.intro hb4 hr4)
  clear hb4 ho4 hr4
  by_cases h0 : C.length < 3
  · have e1 : decide ((C.length : Int) < 3) = true := decide_eq_true (by omega)
    clear h0
    go_wp2_with fail
    refine (sameInts_any _ _ _ _ C C _ (H3.out.2.step H4.out.1) H4.out.2 (by omega)).mono ?_
    rintro e w5 ⟨rfl, hb5⟩
    have k5 := below_step H4.out.1 hb5
    have R := Lib.hid (And.intro (HR.out.2.1.step (below_step H3.out.1 k5)) (And.intro (HR.out.2.2.1.step (below_step H3.out.1 k5)) (And.intro (H3.out.2.step k5) (below_step HR.out.1 (below_step H3.out.1 k5)))))
    have R4 := Lib.hid (H4.out.2.step hb5)
    clear hb5 k5
    go_wp2_with fail
    refine (sameInts_any _ _ _ _ C C _ R.out.2.2.1 R4.out (by omega)).mono ?_
    rintro e w6 ⟨rfl, hb6⟩
    go_wp2_with fail
    go_ret
    exact ⟨rfl, below_step R.out.2.2.2 hb6⟩
  · have e1 : decide ((C.length : Int) < 3) = false := decide_eq_false (by omega)
    have h3 : 3 ≤ (cycG ids l).length := by rw [← HC.out]; omega
    have hno := fun (i k : Nat) (r s : Ctx) hr hs h1 h2 e1 e2 => cyc_short (i := i) (k := k) (r := r) (s := s) h3 hr hs h1 h2 e1 e2
    have HN := Lib.hid hno
    clear h0 h3 hno
    go_wp2_with fail
    refine (sameInts_any _ _ _ _ C C _ (H3.out.2.step H4.out.1) H4.out.2 (by omega)).mono ?_
    rintro e w5 ⟨rfl, hb5⟩
    have k5 := below_step H4.out.1 hb5
    have R := Lib.hid (And.intro (HR.out.2.1.step (below_step H3.out.1 k5)) (And.intro (HR.out.2.2.1.step (below_step H3.out.1 k5)) (And.intro (H3.out.2.step k5) (below_step HR.out.1 (below_step H3.out.1 k5)))))
    have R4 := Lib.hid (H4.out.2.step hb5)
    clear hb5 k5
    go_wp2_with fail
    go_loopw [7] (fun i wr => ∃ k : Nat, k ≤ l.length ∧ i = .int .i64 k ∧ Below w5.heap.size w5 wr) (fun i _ => l.length - (intOf i).toNat)
    case atStart => exact ⟨0, Nat.zero_le _, rfl, Below.refl _ _⟩
    case round =>
      obtain ⟨i, hi, rfl, hbl⟩ := hrel
      have HB := Lib.hid hbl
      clear hbl
      by_cases hii : i < l.length
      · have hiii : (i : Int) < (l.length : Int) := by omega
        go_wp2_with fail
        go_loopw [8] (fun i wr => ∃ k : Nat, k ≤ l.length ∧ i = .int .i64 k ∧ Below w5.heap.size w5 wr) (fun i _ => l.length - (intOf i).toNat)
        case atStart => exact ⟨0, Nat.zero_le _, rfl, HB.out⟩
        case round =>
          obtain ⟨k, hk, rfl, hbl⟩ := hrel
          by_cases hkk : k < l.length
          · have hkki : (k : Int) < (l.length : Int) := by omega
            obtain ⟨b, off, hA2, hbb, hc⟩ := (R.out.2.1.step hbl).ctx (by omega)
            subst hA2
            obtain ⟨⟨xa, xb, xc⟩, hr⟩ : ∃ r, l[i]? = some r := ⟨_, List.getElem?_eq_getElem hii⟩
            obtain ⟨⟨ya, yb, yc⟩, hs⟩ : ∃ r, l[k]? = some r := ⟨_, List.getElem?_eq_getElem hkk⟩
            obtain ⟨g1, g2, g3⟩ := hc i _ hr
            obtain ⟨f1, f2, f3⟩ := hc k _ hs
            dsimp only at g1 g2 g3 f1 f2 f3
            have hnot := HN.out i k _ _ hr hs
            dsimp only at hnot
            have hx1 := ext_cell (w := wr) (B := wr.heap.size) hbb
            have HM := Lib.hid hbl
            clear hc hr hs hbl
            by_cases hxc : xc = 1
            · have e2 : (xc == 1) = true := by simp [hxc]
              by_cases hyc : yc = 1
              · have e3 : (yc == 1) = true := by simp [hyc]
                by_cases h5 : xa = yb
                · have e4 : (xa == yb) = true := by simp [h5]
                  have e5 : (xb == ya) = false := by rw [beq_eq_false_iff_ne]; exact fun h6 => hnot hxc hyc h5 h6
                  clear hnot hxc hyc h5
                  go_wp2_with fail
                  refine wp_region_ext wr.heap.size (by kernel_rfl) (by kernel_rfl) ?_
                  repeat (go_big_quiet_step (fail))
                  refine wpQuiet_nil ?_
                  rintro _ ⟨x9, rfl⟩
                  have hb9 := below_step HM.out x9.below
                  clear hx1 g1 g2 g3 f1 f2 f3
                  go_wp2_with fail
                  go_roundw
                  case rel => exact ⟨k + 1, by omega, by go_num, hb9⟩
                  case measure => simp [intOf]; omega
                · have e4 : (xa == yb) = false := by simp [h5]
                  clear hnot hxc hyc h5
                  go_wp2_with fail
                  refine wp_region_ext wr.heap.size (by kernel_rfl) (by kernel_rfl) ?_
                  repeat (go_big_quiet_step (fail))
                  refine wpQuiet_nil ?_
                  rintro _ ⟨x9, rfl⟩
                  have hb9 := below_step HM.out x9.below
                  clear hx1 g1 g2 g3 f1 f2 f3
                  go_wp2_with fail
                  go_roundw
                  case rel => exact ⟨k + 1, by omega, by go_num, hb9⟩
                  case measure => simp [intOf]; omega
              · have e3 : (yc == 1) = false := by simp [hyc]
                clear hnot hxc hyc
                go_wp2_with fail
                refine wp_region_ext wr.heap.size (by kernel_rfl) (by kernel_rfl) ?_
                repeat (go_big_quiet_step (fail))
                refine wpQuiet_nil ?_
                rintro _ ⟨x9, rfl⟩
                have hb9 := below_step HM.out x9.below
                clear hx1 g1 g2 g3 f1 f2 f3
                go_wp2_with fail
                go_roundw
                case rel => exact ⟨k + 1, by omega, by go_num, hb9⟩
                case measure => simp [intOf]; omega
            · have e2 : (xc == 1) = false := by simp [hxc]
              clear hnot hxc
              go_wp2_with fail
              refine wp_region_ext wr.heap.size (by kernel_rfl) (by kernel_rfl) ?_
              repeat (go_big_quiet_step (fail))
              refine wpQuiet_nil ?_
              rintro _ ⟨x9, rfl⟩
              have hb9 := below_step HM.out x9.below
              clear hx1 g1 g2 g3 f1 f2 f3
              go_wp2_with fail
              go_roundw
              case rel => exact ⟨k + 1, by omega, by go_num, hb9⟩
              case measure => simp [intOf]; omega
          · have HM := Lib.hid hbl
            clear hbl
            go_wp2_with fail
            go_roundw
            case rel => exact ⟨i + 1, by omega, by go_num, HM.out⟩
            case measure => simp [intOf]; omega
      · go_wp2_with fail
        go_ret
        exact ⟨rfl, below_step R.out.2.2.2 HB.out⟩

theorem walk {w : World} (hG : Glob w) (A : Option Addr) (c : Nat) (z : List Int) (_ : World) (h1 : z.length ≤ c) (h2 : Reads w w.heap.size 1 A z.length (cellsB z)) (h3 : ∀ b ∈ z, 0 ≤ b ∧ b ≤ 255) (h4 : c ≤ maxLen) :
    Calls Tryd.prog 6 #[.slice A z.length c] w fun e w2 => e = .returned (.bool true) ∧ Below w.heap.size w w2 := by
  by_cases hn : z.length ≤ 1048576
  · exact walk_short A c z w hG (Bytes.mk_ h1 h2 h3 h4) hn
  · have e0 : decide ((1048576 : Int) < (z.length : Int)) = true := decide_eq_true (by omega)
    clear hG
    go_enter Tryd.func6, Tryd.ntmps6
    go_wp2_with fail
    go_ret
    exact ⟨rfl, Below.refl _ _⟩

set_option linter.unusedVariables false
set_option maxRecDepth 100000 in
theorem lifted (os : Os) (started : os.Started) (H : Type) (enc : TypeId × Value → H) :
    ReturnsInHanded {} Tryd.checked os 6 .any (fun w args => (Rows.fnCycleShortSpec.pre enc Tryd.prog Tryd.f6 [] false w args ∧ laidMetH Tryd.prog Rows.fnCycleShortRow.laid w) ∧ sizedMet enc Tryd.prog Tryd.f6 (OpenSpec.ofChange Rows.fnCycleShortSpec) false w args)
      (Rows.fnCycleShortSpec.post enc Tryd.prog Tryd.f6 false true false false) := by
  refine returns_laid (C := Tryd.checked) (X := fun w _ => laidMetH Tryd.prog Rows.fnCycleShortRow.laid w) (fun _ _ _ hh h => h.of_heap hh) lawOwn started (by kernel_rfl) Tryd.func6
    (ChangeSpec.witness_shaped (enc := enc) (C := Tryd.checked) (os := os) (X := fun w _ => laidMetH Tryd.prog Rows.fnCycleShortRow.laid w) false (World.laidAll Tryd.prog os Rows.fnCycleShortRow.laid) #[.slice none 0 0] 8 (World.laidAll_os _ _ _)
      (World.shaped_of_ZipB (by kernel_rfl) (by kernel_rfl)) (by kernel_rfl) (by kernel_rfl) (by kernel_rfl)
      (by rw [MakeChecks.laidMetH_plain _ _ _ (by kernel_rfl)]; exact laidMet_laidAll _ (by kernel_rfl) (by kernel_rfl))) ?_
  intro W base args ds gs before hval0 hW hL hsh
  have hval : ∀ (j : Nat) t v, Tryd.f6.params[j]? = some t → args[j]? = some v → Value.okWide Tryd.prog W .any base t v := hval0
  have hW' := hW
  obtain ⟨p, q, hA0, hV, rfl, hfz, hnd⟩ := hW
  have hA : DataW.TrodAll enc Tryd.prog W 0 (fun _ => true) true Tryd.f6.params.toList args.toList ds p := hA0
  rw [Tryd.params6] at hA hval
  obtain ⟨v0, vs0, d0, ds0, p0, q0, hargs, rfl, rfl, h0, r0⟩ := trodAll_cons hA
  obtain ⟨rfl, rfl, rfl⟩ := trodAll_nil r0
  obtain rfl : args = #[v0] := by cases args; simp_all
  obtain ⟨rfl, rfl⟩ := trodVars_none hV
  have k0 := h0
  have lt0 : ∀ x ∈ p0, x.block < W.heap.size := by obtain ⟨m, hm⟩ := k0; exact DataW.trod_lt m _ _ _ hm
  obtain ⟨a0, len0, cap0, rfl⟩ := okWide_slice Tryd.underlying22 (hval 0 22 v0 rfl rfl)
  obtain ⟨z0, hl0, hc0, hr0, hb0, hm0⟩ : ∃ z : List Int, len0 = z.length ∧ len0 ≤ cap0 ∧ Reads W W.heap.size 1 a0 len0 (cellsB z) ∧ (∀ b ∈ z, 0 ≤ b ∧ b ≤ 255) ∧ cap0 ≤ maxLen := by
    obtain ⟨fuel, hf⟩ := h0
    exact open_bytes Tryd.underlying22 Tryd.underlying5 (by kernel_rfl) (by simpa [Value.cells] using hf)
  subst hl0
  clear hA0 hval0
  have hG := glob_of hL hsh
  refine (walk hG a0 cap0 z0 W hc0 hr0 hb0 hm0).mono fun e W' ⟨he, bel⟩ => ?_
  subst he
  exact ⟨_, rfl, _, _, _, [], _, [], hW', trodAll_mk1 (shut_bool Tryd.underlying4 _), (trodAll_cons_mk (Below.trod lawLaid (by kernel_rfl) (of_decide_eq_true (by kernel_rfl)) k0 bel lt0) trodAll_mk0), rfl, bel.frame _, fun h => by cases h⟩

theorem proved : Rows.FnCycleShortSaid :=
  OpenClaim.holds_of_wide 6 Tryd.f6 rfl rfl rfl rfl rfl rfl rfl ⟨rfl, rfl, rfl, rfl, rfl⟩ rfl rfl rfl rfl rfl (by kernel_rfl) Tryd.func6 (by kernel_rfl)
    (of_decide_eq_true (by kernel_rfl)) (by unfold Func.isWrapper; rw [if_neg (of_decide_eq_false (by kernel_rfl))]; exact ⟨rfl, rfl⟩)
    (fun os started H enc _ => lifted os started H enc)
theorem card : Rows.FnCycleShortCardSaid :=
  Claim7.holds_tied_plain_at .later [] [.data] true (true, "c480af179db24834c5411751ceb87e45ea7951b8dcef4a03ac609f05d56629bd") false proved (fun _ h => by cases h) (by kernel_rfl) (fun _ h => by cases h) fnCycleShort_row_tie rfl ⟨rfl, rfl⟩ (by kernel_rfl) rfl
    (fun f fn hf hfn => by
      obtain rfl : f = 6 := Option.some.inj ((show Tryd.prog.funcNamed "loop.example/excavation/laws.FnCycleShort" = some 6 by kernel_rfl).symm.trans hf) |>.symm
      obtain rfl : fn = Tryd.f6 := (Option.some.inj (Tryd.func6.symm.trans hfn)).symm
      exact ⟨by kernel_rfl, fun j t ht => by
        rw [Tryd.params6] at ht
        have hm : t ∈ [22] := by simpa using Array.mem_of_getElem? ht
        have hall : ([22].all fun u => !Tryd.prog.wantsStandIn u) = true := by kernel_rfl
        exact (show Tryd.prog.wantsStandIn t = false by simpa using List.all_eq_true.1 hall t hm)⟩)
    (by kernel_rfl)
#print axioms card
end Go.Proofs.YtpkmnigkcefnpaaDoor.lawCycleShort
