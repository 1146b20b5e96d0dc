/-
  Whatever bytes are given: of contexts and relations drawn from them, the program's heads are the model's, and those contexts that are the heads of their groups. No condition.
-/
import Derived.Test.YtgnhdclhligngaaDg
import Derived.Test.YtgnhdclhligngaaGx
import Derived.Test.YtgnhdclhligngaaS5
import Derived.Test.YtgnhdclhligngaaGf
import Derived.Test.YtgnhdclhligngaaOpen
import Derived.Deep.RegionHeld3
namespace Go.Proofs.Ytgnhdclhligngaa.lawHeads
open Go.ChangeShapes Go.WideShapes Go.ChangeAt Go.RowKit

set_option maxHeartbeats 4000000 in
theorem walk_short (A : Option Addr) (c : Nat) (z : List Int) (w : World) (h : Bytes w A c z) (hn : z.length ≤ 1048576) :
    Calls Try.prog 8 #[.slice A z.length c] w fun e w2 => e = .returned (.bool true) ∧ Below w.heap.size w w2 := by
  have e0 : decide ((1048576 : Int) < (z.length : Int)) = false := decide_eq_false (by omega)
  obtain ⟨i0, hi0, hz0, hz1, hz2⟩ := info_parts infoInt
  go_enter Try.func8, Try.ntmps8
  go_wp2_with fail
  refine (dHeads_any A c z _ h).mono ?_
  rintro e w2 ⟨v1, v2, ids, l, rfl, ho1, ho2, hl1, hl2, hb2⟩
  obtain ⟨A1, c1, hv1, hcap1, hr1⟩ := own_slice ho1
  obtain ⟨A2, c2, hv2, hcap2, hr2⟩ := own_slice ho2
  subst hv1 hv2
  have HB2 := Lib.hid hb2
  clear ho1 ho2 hb2 h
  obtain ⟨H, hH⟩ : ∃ H, H = headsG ids l := ⟨_, rfl⟩
  obtain ⟨G, hG⟩ : ∃ G, G = groupsOfG ids l := ⟨_, rfl⟩
  obtain ⟨ok, hok⟩ : ∃ ok, ok = okG ids l := ⟨_, rfl⟩
  have hGl : G.length ≤ ids.length := by rw [hG]; exact groupsOfG_len ids l
  have hHG : H = selG sameP ids G := by rw [hH, hG]; rfl
  have hHl : H.length ≤ 13 := by rw [hHG]; exact Nat.le_trans (selG_len _ _ _) (by omega)
  have hoH : ok = false → H = [] := fun h => by
    rw [hHG, hG, groupsOfG, ← hok, h]
    exact selG_nil _ _
  have HG := Lib.hid (And.intro hH (And.intro hG (And.intro hok (And.intro hHG hoH))))
  have q := eqLI_self H
  clear hH hG hok hHG hoH
  go_wp2_with fail
  refine (iHeads_any _ _ _ _ ids l _ hr1 hr2 (by omega) (by omega)).mono ?_
  rintro e w3 ⟨v3, rfl, hb3, ho3⟩
  rw [← HG.out.1] at ho3
  obtain ⟨A3, c3, hv3, _, hr3⟩ := own_slice ho3
  subst hv3
  go_wp2_with fail
  refine (sHeads_any _ _ _ _ ids l _ (hr1.step hb3) (hr2.step hb3) (by omega) (by omega)).mono ?_
  rintro e w4 ⟨v4, rfl, hb4, ho4⟩
  rw [← HG.out.1] at ho4
  obtain ⟨A4, c4, hv4, _, hr4⟩ := own_slice ho4
  subst hv4
  go_wp2_with fail
  refine (sameInts_any _ _ _ _ H H _ (hr3.step hb4) hr4 (by omega)).mono ?_
  rintro e w5 ⟨rfl, hb5⟩
  have k35 := below_step hb4 hb5
  have k25 := below_step hb3 k35
  go_wp2_with fail
  refine (iGroups_any _ _ _ _ ids l _ (hr1.step k25) (hr2.step k25) (by omega) (by omega)).mono ?_
  rintro e w6 ⟨v6, rfl, hb6, ho6⟩
  rw [← HG.out.2.1] at ho6
  rw [← HG.out.2.2.1]
  obtain ⟨A6, c6, hv6, _, hr6⟩ := own_slice ho6
  subst hv6
  have R := Lib.hid (And.intro (hr1.step (below_step k25 hb6)) (And.intro (hr3.step (below_step k35 hb6)) hr6))
  have K6 := Lib.hid (below_step HB2.out (below_step k25 hb6))
  clear hr1 hr2 hr3 hr4 hr6 hb3 hb4 hb5 hb6 ho3 ho4 ho6 k35 k25
  have hb7 : Below w6.heap.size w6 (w6.alloc (.cells #[] 3)) := (Below.refl _ _).alloc (Nat.le_refl _) _
  have ho7 : (w6.alloc (.cells #[] 3)).ownsRow w6.heap.size 3 1 (.slice (some ⟨w6.heap.size, 0, none⟩) 0 0) 0 [] := own_empty (Nat.le_refl _) rfl
  have O7 := Lib.hid (And.intro hb7 ho7)
  clear hb7 ho7
  go_wp2_with fail
  go_loopw [9, 10] (fun v i wr => ∃ k : Nat, k ≤ G.length ∧ i = .int .i64 k ∧ Below w6.heap.size w6 wr ∧ wr.ownsRow w6.heap.size 3 1 v (selG sameP (ids.take k) (G.take k)).length (cellsI (selG sameP (ids.take k) (G.take k)))) (fun _ i _ => G.length - (intOf i).toNat)
  case atStart => exact ⟨0, Nat.zero_le _, rfl, O7.out.1, by simpa [cellsI, selG] using O7.out.2⟩
  case round =>
    obtain ⟨k, hk, rfl, hbl, hown⟩ := hrel
    have hsz := hbl.size
    by_cases hlt : k < G.length
    · have hli : k < ids.length := by omega
      obtain ⟨b, off, hA1, hbb, hc⟩ := (R.out.1.step hbl).ints (by omega)
      obtain ⟨b6, off6, hA6, hbb6, hc6⟩ := (R.out.2.2.step hbl).ints (by omega)
      subst hA1 hA6
      obtain ⟨y, hy⟩ : ∃ y, ids[k]? = some y := ⟨_, List.getElem?_eq_getElem hli⟩
      obtain ⟨x, hx⟩ : ∃ x, G[k]? = some x := ⟨_, List.getElem?_eq_getElem hlt⟩
      have g1 := hc k _ hy
      have g6 := hc6 k _ hx
      have hkl : (k : Int) < (G.length : Int) := by omega
      have hkn : (k : Int) < (ids.length : Int) := by omega
      have e1 : decide (k < G.length) = true := by simp [hlt]
      have e2 : decide (k < ids.length) = true := by simp [hli]
      have hsl : (selG sameP (ids.take k) (G.take k)).length ≤ 13 := by
        have := selG_len sameP (ids.take k) (G.take k)
        rw [List.length_take] at this; omega
      have HL := Lib.hid hbl
      clear hc hc6
      cases hp : sameP x y
      · have e3 : (x == y) = false := by simpa [sameP] using hp
        have HT := Lib.hid (selG_no hx hy hp)
        clear hp hx hy hbl
        go_wp2_with fail
        go_quiet (fail)
        go_wp2_with fail
        go_roundw
        case rel => exact ⟨k + 1, by omega, by go_num, below_draws HL.out _, by rw [HT.out]; exact own_below hown (below_draws (Below.refl _ _) _)⟩
        case measure => simp [intOf]; omega
      · have e3 : (x == y) = true := by simpa [sameP] using hp
        have HT := Lib.hid (selG_yes hx hy hp)
        clear hp hx hy hbl
        go_wp2_with fail
        go_quiet (fail)
        have hown2 := own_below hown (below_draws (Below.refl _ wr) nq)
        clear hown
        go_wp2_with (at_builtin
                     go_must (refine wpList_append_reads _ rfl (.tmp 60) (.tmp 65) _ rfl w6.heap.size 3 i0 _ 1 8 Try.underlying23 hi0 hz0 hz1 hz2 rfl (by omega) u9 (selG sameP (ids.take k) (G.take k)).length _ rfl (hown2.alloc _) ((wr.drewN nq).heap.size + 1) _ 1 1 (cellsI [y]) rfl (reads_int (by omega)) (cellsI_one _) (by simp only [maxLen]; omega) (by omega) (by simp [World.drewN]; omega) ?_)
                     intro v4 w4 hown4 hg4 hat4)
        go_roundw
        case rel =>
          refine ⟨k + 1, by omega, by go_num, (below_draws HL.out nq).trans (app_below hown2 (Nat.le_refl _) hsz hg4), ?_⟩
          rw [HT.out, cellsI_append, List.length_append]
          exact hown4
        case measure => simp [intOf]; omega
    · have hkl : k = G.length := by omega
      have e1 : decide (k < G.length) = false := by simp [hlt]
      have HK := Lib.hid (And.intro hkl (And.intro hbl hown))
      have hHT : selG sameP (ids.take k) (G.take k) = H := by rw [hkl, selG_all sameP hGl, HG.out.2.2.2.1]
      rw [hHT] at hown
      obtain ⟨A8, c8, hv8, _, hr8⟩ := own_slice hown
      subst hv8
      have R8 := Lib.hid hr8
      clear hkl hbl hown hHT hr8
      cases hokc : ok
      · have hn0 : ((H.length : Int) == 0) = true := by rw [HG.out.2.2.2.2 hokc]; rfl
        go_wp2_with (go_at_call 20; go_must (refine (sameInts_any _ _ _ _ H H _ (R.out.2.1.step HK.out.2.1) R8.out (by omega)).mono ?_); rintro e w9 ⟨rfl, hb9⟩)
        go_ret
        exact ⟨rfl, below_step (below_step K6.out HK.out.2.1) hb9⟩
      · go_wp2_with (go_at_call 20; go_must (refine (sameInts_any _ _ _ _ H H _ (R.out.2.1.step HK.out.2.1) R8.out (by omega)).mono ?_); rintro e w9 ⟨rfl, hb9⟩)
        go_ret
        exact ⟨rfl, below_step (below_step K6.out HK.out.2.1) hb9⟩

theorem walk (A : Option Addr) (c : Nat) (z : List Int) (w : World) (h1 : z.length ≤ c) (h2 : Reads w w.heap.size 1 A z.length (cellsB z)) (h3 : ∀ b ∈ z, 0 ≤ b ∧ b ≤ 255) (h4 : c ≤ maxLen) :
    Calls Try.prog 8 #[.slice A z.length c] w fun e w2 => e = .returned (.bool true) ∧ Below w.heap.size w w2 := by
  by_cases hn : z.length ≤ 1048576
  · exact walk_short A c z w (Bytes.mk_ h1 h2 h3 h4) hn
  · have e0 : decide ((1048576 : Int) < (z.length : Int)) = true := decide_eq_true (by omega)
    go_enter Try.func8, Try.ntmps8
    go_wp2_with fail
    go_ret
    exact ⟨rfl, Below.refl _ _⟩

set_option linter.unusedVariables false
set_option maxRecDepth 100000 in
theorem lifted (os : Os) (started : os.Started) (H : Type) (enc : TypeId × Value → H) :
    ReturnsInHanded {} Try.checked os 8 .any (Rows.fnGroupHeadsSpec.pre6 enc Try.prog Try.f8 Rows.fnGroupHeadsRow.domain false) (Rows.fnGroupHeadsSpec.post enc Try.prog Try.f8 false true false false) := by
  refine returnsInHanded_of_change (C := Try.checked) lawOwn started (by kernel_rfl) Try.func8
    (ChangeSpec.witness6 (enc := enc) (C := Try.checked) false ⟨#[], #[.slice none 0 0], []⟩ 8 (by kernel_rfl) (by kernel_rfl) (by kernel_rfl) (by kernel_rfl)) ?_
  intro W base args ds gs before hval0 hW hcnd _
  have hval : ∀ (j : Nat) t v, Try.f8.params[j]? = some t → args[j]? = some v → Value.okWide Try.prog W .any base t v := hval0
  have hW' := hW
  obtain ⟨p, q, hA0, hV, rfl, hfz, hnd⟩ := hW
  have hA : DataW.TrodAll enc Try.prog W 0 (fun _ => true) true Try.f8.params.toList args.toList ds p := hA0
  rw [Try.params8] at hA hval
  obtain ⟨v0, vs0, d0, ds0, p0, q0, hargs, rfl, rfl, h0, r0⟩ := trodAll_cons hA
  obtain ⟨rfl, rfl, rfl⟩ := trodAll_nil r0
  obtain rfl : args = #[v0] := by cases args; simp_all
  obtain ⟨rfl, rfl⟩ := trodVars_none hV
  have k0 := h0
  have lt0 : ∀ x ∈ p0, x.block < W.heap.size := by obtain ⟨m, hm⟩ := k0; exact DataW.trod_lt m _ _ _ hm
  obtain ⟨a0, len0, cap0, rfl⟩ := okWide_slice Try.underlying22 (hval 0 22 v0 rfl rfl)
  obtain ⟨z0, hl0, hc0, hr0, hb0, hm0⟩ : ∃ z : List Int, len0 = z.length ∧ len0 ≤ cap0 ∧ Reads W W.heap.size 1 a0 len0 (cellsB z) ∧ (∀ b ∈ z, 0 ≤ b ∧ b ≤ 255) ∧ cap0 ≤ maxLen := by
    obtain ⟨fuel, hf⟩ := h0
    exact open_bytes Try.underlying22 Try.underlying5 (by kernel_rfl) (by simpa [Value.cells] using hf)
  subst hl0
  clear hA0 hval0
  refine (walk a0 cap0 z0 W hc0 hr0 hb0 hm0).mono fun e W' ⟨he, bel⟩ => ?_
  subst he
  exact ⟨_, rfl, _, _, _, [], _, [], hW', trodAll_mk1 (shut_bool Try.underlying4 _), (trodAll_cons_mk (Below.trod lawLaid (by kernel_rfl) (of_decide_eq_true (by kernel_rfl)) k0 bel lt0) trodAll_mk0), rfl, bel.frame _, fun h => by cases h⟩

theorem proved : Rows.FnGroupHeadsSaid :=
  OpenClaim.holds_of_wide 8 Try.f8 rfl rfl rfl rfl rfl rfl rfl ⟨rfl, rfl, rfl, rfl, rfl⟩ rfl rfl rfl rfl rfl (by kernel_rfl) Try.func8 (by kernel_rfl)
    (of_decide_eq_true (by kernel_rfl)) (by unfold Func.isWrapper; rw [if_neg (of_decide_eq_false (by kernel_rfl))]; exact ⟨rfl, rfl⟩)
    (fun os started H enc _ => lifted os started H enc)
#print axioms proved
end Go.Proofs.Ytgnhdclhligngaa.lawHeads
