/-
  Whatever bytes are given: of contexts and relations drawn from them, the program's groups are the model's; each head is no greater than its context and its own head, and contexts that are told equal have one head. No condition.
-/
import Derived.Test.YtgnhdclhligngaaDg
import Derived.Test.YtgnhdclhligngaaGx
import Derived.Test.YtgnhdclhligngaaS5
import Derived.Test.YtgnhdclhligngaaGf
import Derived.Test.YtgnhdclhligngaaOpen
import Derived.Deep.RegionHeld3
namespace Go.Proofs.Ytgnhdclhligngaa.lawGroups
open Go.ChangeShapes Go.WideShapes Go.ChangeAt Go.RowKit

theorem headOf_to (A B : Option Addr) (ca cb : Nat) (ids g : List Int) (id y : Int) {X : Nat} {w : World} (x : Ext X w) (ha : Reads x.val x.val.heap.size 1 A ids.length (cellsI ids)) (hb : Reads x.val x.val.heap.size 1 B g.length (cellsI g)) (hl : ids.length ≤ 1000000000) (he : g.length = ids.length) (hy : headL ids g id = y) :
    Calls Try.prog 21 #[.slice A ids.length ca, .slice B g.length cb, .int .i64 id] x.val fun e w2 => e = .returned (.int .i64 y) ∧ ∃ y : Ext X w, w2 = y.val :=
  calls_ext_same ((headOf_any A B ca cb ids g id x.val ha hb hl he).mono fun _ _ ⟨h1, h2⟩ => ⟨by rw [h1, hy], h2⟩)

set_option maxHeartbeats 4000000 in
theorem walk_short (A : Option Addr) (c : Nat) (z : List Int) (w : World) (h : Bytes w A c z) (hn : z.length ≤ 1048576) :
    Calls Try.prog 4 #[.slice A z.length c] w fun e w2 => e = .returned (.bool true) ∧ Below w.heap.size w w2 := by
  have e0 : decide ((1048576 : Int) < (z.length : Int)) = false := decide_eq_false (by omega)
  go_enter Try.func4, Try.ntmps4
  go_wp2_with fail
  refine (dGroups_any A c z _ h).mono ?_
  rintro e w2 ⟨v1, v2, ids, l, rfl, ho1, ho2, hl1, hl2, hb2⟩
  obtain ⟨A1, c1, hv1, hcap1, hr1⟩ := own_slice ho1
  obtain ⟨A2, c2, hv2, hcap2, hr2⟩ := own_slice ho2
  subst hv1 hv2
  have HB2 := Lib.hid hb2
  clear ho1 ho2 hb2 h
  cases hok : okG ids l
  · go_wp2_with fail
    refine (iGroups_any _ _ _ _ ids l _ hr1 hr2 (by omega) (by omega)).mono ?_
    rintro e w3 ⟨v3, rfl, hb3, ho3⟩
    rw [hok]
    rw [groupsOfG, hok] at ho3
    obtain ⟨A3, c3, hv3, _, hr3⟩ := own_slice ho3
    subst hv3
    go_wp2_with fail
    refine (sGroupsOf_any _ _ _ _ ids l _ (hr1.step hb3) (hr2.step hb3) (by omega) (by omega)).mono ?_
    rintro e w4 ⟨v4, rfl, hb4, ho4⟩
    rw [hok]
    rw [groupsOfG, hok] at ho4
    obtain ⟨A4, c4, hv4, _, hr4⟩ := own_slice ho4
    subst hv4
    have k4 := below_step (below_step HB2.out hb3) hb4
    have q := eqLI_self []
    have R3 := Lib.hid (hr3.step hb4)
    have R4 := Lib.hid hr4
    have K4 := Lib.hid k4
    clear hr3 hr4 hb3 hb4 ho3 ho4 k4 hr1 hr2
    go_wp2_with fail
    refine (sameInts_any _ _ _ _ [] [] _ R3.out R4.out (by simp)).mono ?_
    rintro e w5 ⟨rfl, hb5⟩
    go_wp2_with fail
    refine (sameInts_any _ _ _ _ [] [] _ (R3.out.step hb5) (R4.out.step hb5) (by simp)).mono ?_
    rintro e w6 ⟨rfl, hb6⟩
    go_wp2_with fail
    go_ret
    exact ⟨rfl, below_step (below_step K4.out hb5) hb6⟩
  · obtain ⟨G, hG⟩ : ∃ G, G = groupsG ids l := ⟨_, rfl⟩
    have hGl : G.length = ids.length := by rw [hG, groupsG_len]
    have hof : groupsOfG ids l = G := by rw [groupsOfG, if_pos hok, hG]
    have HG := Lib.hid (And.intro hok (And.intro hG hGl))
    have hgn : G.length ≤ 13 := by omega
    have eln : ((G.length : Int) != (ids.length : Int)) = false := by simp [hGl]
    have q := eqLI_self G
    clear hG hGl
    go_wp2_with fail
    refine (iGroups_any _ _ _ _ ids l _ hr1 hr2 (by omega) (by omega)).mono ?_
    rintro e w3 ⟨v3, rfl, hb3, ho3⟩
    rw [hok]
    rw [hof] at ho3
    obtain ⟨A3, c3, hv3, _, hr3⟩ := own_slice ho3
    subst hv3
    go_wp2_with fail
    refine (sGroupsOf_any _ _ _ _ ids l _ (hr1.step hb3) (hr2.step hb3) (by omega) (by omega)).mono ?_
    rintro e w4 ⟨v4, rfl, hb4, ho4⟩
    rw [hok]
    rw [hof] at ho4
    obtain ⟨A4, c4, hv4, _, hr4⟩ := own_slice ho4
    subst hv4
    have R3 := Lib.hid (hr3.step hb4)
    have R4 := Lib.hid hr4
    have R12 := Lib.hid (And.intro (hr1.step (below_step hb3 hb4)) (hr2.step (below_step hb3 hb4)))
    have K4 := Lib.hid (below_step (below_step HB2.out hb3) hb4)
    clear hr3 hr4 hb3 hb4 ho3 ho4 hr1 hr2 hok hof
    go_wp2_with fail
    refine (sameInts_any _ _ _ _ G G _ R3.out R4.out (by omega)).mono ?_
    rintro e w5 ⟨rfl, hb5⟩
    have R := Lib.hid (And.intro (R12.out.1.step hb5) (And.intro (R12.out.2.step hb5) (R3.out.step hb5)))
    have K5 := Lib.hid (below_step K4.out hb5)
    clear R12 R3 R4 K4 hb5
    go_wp2_with fail
    go_loopw [9] (fun i wr => ∃ k : Nat, k ≤ ids.length ∧ i = .int .i64 k ∧ Below w5.heap.size w5 wr) (fun i _ => ids.length - (intOf i).toNat)
    case atStart => exact ⟨0, Nat.zero_le _, rfl, Below.refl _ _⟩
    case round =>
      obtain ⟨k, hk, rfl, hbl⟩ := hrel
      by_cases hlt : k < ids.length
      · have hlg : k < G.length := by rw [HG.out.2.2]; exact hlt
        have rI := R.out.1.step hbl
        have rG := R.out.2.2.step hbl
        obtain ⟨b, off, hA1, hbb, hc⟩ := rI.ints (by omega)
        obtain ⟨b3, off3, hA3, hbb3, hc3⟩ := rG.ints (by omega)
        subst hA1 hA3
        obtain ⟨y, hy⟩ : ∃ y, ids[k]? = some y := ⟨_, List.getElem?_eq_getElem hlt⟩
        obtain ⟨x, hx⟩ : ∃ x, G[k]? = some x := ⟨_, List.getElem?_eq_getElem hlg⟩
        have g1 := hc k _ hy
        have g3 := hc3 k _ hx
        have hkl : (k : Int) < (G.length : Int) := by omega
        have hkn : (k : Int) < (ids.length : Int) := by omega
        have hx1 := ext_cell (w := wr) (B := wr.heap.size) hbb
        have hx3 := ext_cell (w := wr) (B := wr.heap.size) hbb3
        obtain ⟨hxy, hhd⟩ := head_own HG.out.1 (by rw [← HG.out.2.1]; exact hx) hy
        rw [← HG.out.2.1] at hhd
        have e1 : decide (y < x) = false := by simp; omega
        have e2 : (x != x) = false := by simp
        have HR := Lib.hid (And.intro rI (And.intro rG hhd))
        have HL := Lib.hid hbl
        clear hc hc3 hx hy rI rG hxy hhd hbl
        go_wp2_with fail
        refine wp_region_ext wr.heap.size (by kernel_rfl) (by kernel_rfl) ?_
        repeat (go_big_quiet_step ((go_at_call 21; exact headOf_to _ _ _ _ ids G _ x _ (HR.out.1.step (Ext.below _)) (HR.out.2.1.step (Ext.below _)) (by omega) HG.out.2.2 HR.out.2.2)))
        refine wpQuiet_nil ?_
        rintro _ ⟨x9, rfl⟩
        have hb9 := below_step HL.out x9.below
        clear hx1 hx3 g1 g3
        go_wp2_with fail
        go_roundw
        case rel => exact ⟨k + 1, by omega, by go_num, hb9⟩
        case measure => simp [intOf]; omega
      · have HL := Lib.hid hbl
        clear hbl
        go_wp2_with fail
        go_loopw [10] (fun i w6 => ∃ k : Nat, k ≤ l.length ∧ i = .int .i64 k ∧ Below w5.heap.size w5 w6) (fun i _ => l.length - (intOf i).toNat)
        case atStart => exact ⟨0, Nat.zero_le _, rfl, HL.out⟩
        case round =>
          obtain ⟨k, hk, rfl, hbl⟩ := hrel
          by_cases hlt : k < l.length
          · have rI := R.out.1.step hbl
            have rL := R.out.2.1.step hbl
            have rG := R.out.2.2.step hbl
            obtain ⟨b, off, hA2, hbb, hc⟩ := rL.ctx (by omega)
            subst hA2
            obtain ⟨⟨xa, xb, xc⟩, hr⟩ : ∃ r, l[k]? = some r := ⟨_, List.getElem?_eq_getElem hlt⟩
            obtain ⟨g1, g2, g3⟩ := hc k _ hr
            dsimp only at g1 g2 g3
            have hkl : (k : Int) < (l.length : Int) := by omega
            have hx1 := ext_cell (w := wr) (B := wr.heap.size) hbb
            by_cases h2 : xc = 2
            · have e2 : (xc == 2) = true := by simp [h2]
              have hhd := head_equal HG.out.1 hr h2
              rw [← HG.out.2.1] at hhd
              dsimp only at hhd
              obtain ⟨y, hy⟩ : ∃ y, headL ids G xb = y := ⟨_, rfl⟩
              rw [hy] at hhd
              have e3 : (y != y) = false := by simp
              have hbo : ∀ id, id = xa ∨ id = xb → headL ids G id = y := fun id h => by
                rcases h with rfl | rfl
                · exact hhd
                · exact hy
              have HR := Lib.hid (And.intro rI (And.intro rG hbo))
              have HM := Lib.hid hbl
              clear hc hr rI rL rG h2 hhd hy hbl hbo
              go_wp2_with fail
              refine wp_region_ext wr.heap.size (by kernel_rfl) (by kernel_rfl) ?_
              repeat (go_big_quiet_step ((go_at_call 21; exact headOf_to _ _ _ _ ids G _ y _ (HR.out.1.step (Ext.below _)) (HR.out.2.1.step (Ext.below _)) (by omega) HG.out.2.2 (HR.out.2.2 _ (by first | exact .inl rfl | exact .inr rfl)))))
              refine wpQuiet_nil ?_
              rintro _ ⟨x9, rfl⟩
              have hb9 := below_step HM.out x9.below
              clear hx1 g1 g2 g3
              go_wp2_with fail
              go_roundw
              case rel => exact ⟨k + 1, by omega, by go_num, hb9⟩
              case measure => simp [intOf]; omega
            · have e2 : (xc == 2) = false := by simp [h2]
              have HM := Lib.hid hbl
              clear hc hr rI rL rG h2 hbl
              go_wp2_with fail
              refine wp_region_ext wr.heap.size (by kernel_rfl) (by kernel_rfl) ?_
              repeat (go_big_quiet_step (fail))
              refine wpQuiet_nil ?_
              rintro _ ⟨x9, rfl⟩
              have hb9 := below_step HM.out x9.below
              clear hx1 g1 g2 g3
              go_wp2_with fail
              go_roundw
              case rel => exact ⟨k + 1, by omega, by go_num, hb9⟩
              case measure => simp [intOf]; omega
          · have HM := Lib.hid hbl
            clear hbl
            go_wp2_with fail
            go_ret
            exact ⟨rfl, below_step K5.out HM.out⟩

theorem walk (A : Option Addr) (c : Nat) (z : List Int) (w : World) (h1 : z.length ≤ c) (h2 : Reads w w.heap.size 1 A z.length (cellsB z)) (h3 : ∀ b ∈ z, 0 ≤ b ∧ b ≤ 255) (h4 : c ≤ maxLen) :
    Calls Try.prog 4 #[.slice A z.length c] w fun e w2 => e = .returned (.bool true) ∧ Below w.heap.size w w2 := by
  by_cases hn : z.length ≤ 1048576
  · exact walk_short A c z w (Bytes.mk_ h1 h2 h3 h4) hn
  · have e0 : decide ((1048576 : Int) < (z.length : Int)) = true := decide_eq_true (by omega)
    go_enter Try.func4, Try.ntmps4
    go_wp2_with fail
    go_ret
    exact ⟨rfl, Below.refl _ _⟩

set_option linter.unusedVariables false
set_option maxRecDepth 100000 in
theorem lifted (os : Os) (started : os.Started) (H : Type) (enc : TypeId × Value → H) :
    ReturnsInHanded {} Try.checked os 4 .any (Rows.fnGroupsSpec.pre6 enc Try.prog Try.f4 Rows.fnGroupsRow.domain false) (Rows.fnGroupsSpec.post enc Try.prog Try.f4 false true false false) := by
  refine returnsInHanded_of_change (C := Try.checked) lawOwn started (by kernel_rfl) Try.func4
    (ChangeSpec.witness6 (enc := enc) (C := Try.checked) false ⟨#[], #[.slice none 0 0], []⟩ 8 (by kernel_rfl) (by kernel_rfl) (by kernel_rfl) (by kernel_rfl)) ?_
  intro W base args ds gs before hval0 hW hcnd _
  have hval : ∀ (j : Nat) t v, Try.f4.params[j]? = some t → args[j]? = some v → Value.okWide Try.prog W .any base t v := hval0
  have hW' := hW
  obtain ⟨p, q, hA0, hV, rfl, hfz, hnd⟩ := hW
  have hA : DataW.TrodAll enc Try.prog W 0 (fun _ => true) true Try.f4.params.toList args.toList ds p := hA0
  rw [Try.params4] at hA hval
  obtain ⟨v0, vs0, d0, ds0, p0, q0, hargs, rfl, rfl, h0, r0⟩ := trodAll_cons hA
  obtain ⟨rfl, rfl, rfl⟩ := trodAll_nil r0
  obtain rfl : args = #[v0] := by cases args; simp_all
  obtain ⟨rfl, rfl⟩ := trodVars_none hV
  have k0 := h0
  have lt0 : ∀ x ∈ p0, x.block < W.heap.size := by obtain ⟨m, hm⟩ := k0; exact DataW.trod_lt m _ _ _ hm
  obtain ⟨a0, len0, cap0, rfl⟩ := okWide_slice Try.underlying22 (hval 0 22 v0 rfl rfl)
  obtain ⟨z0, hl0, hc0, hr0, hb0, hm0⟩ : ∃ z : List Int, len0 = z.length ∧ len0 ≤ cap0 ∧ Reads W W.heap.size 1 a0 len0 (cellsB z) ∧ (∀ b ∈ z, 0 ≤ b ∧ b ≤ 255) ∧ cap0 ≤ maxLen := by
    obtain ⟨fuel, hf⟩ := h0
    exact open_bytes Try.underlying22 Try.underlying5 (by kernel_rfl) (by simpa [Value.cells] using hf)
  subst hl0
  clear hA0 hval0
  refine (walk a0 cap0 z0 W hc0 hr0 hb0 hm0).mono fun e W' ⟨he, bel⟩ => ?_
  subst he
  exact ⟨_, rfl, _, _, _, [], _, [], hW', trodAll_mk1 (shut_bool Try.underlying4 _), (trodAll_cons_mk (Below.trod lawLaid (by kernel_rfl) (of_decide_eq_true (by kernel_rfl)) k0 bel lt0) trodAll_mk0), rfl, bel.frame _, fun h => by cases h⟩

theorem proved : Rows.FnGroupsSaid :=
  OpenClaim.holds_of_wide 4 Try.f4 rfl rfl rfl rfl rfl rfl rfl ⟨rfl, rfl, rfl, rfl, rfl⟩ rfl rfl rfl rfl rfl (by kernel_rfl) Try.func4 (by kernel_rfl)
    (of_decide_eq_true (by kernel_rfl)) (by unfold Func.isWrapper; rw [if_neg (of_decide_eq_false (by kernel_rfl))]; exact ⟨rfl, rfl⟩)
    (fun os started H enc _ => lifted os started H enc)
#print axioms proved
end Go.Proofs.Ytgnhdclhligngaa.lawGroups
