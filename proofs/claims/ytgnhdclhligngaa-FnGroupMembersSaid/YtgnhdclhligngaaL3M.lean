/-
  Whatever bytes are given: of contexts, relations and a context drawn from them, the program's members are the model's; they are the contexts of one head, which is the first of them. No condition.
-/
import Derived.Test.YtgnhdclhligngaaDg
import Derived.Test.YtgnhdclhligngaaGx
import Derived.Test.YtgnhdclhligngaaS5
import Derived.Test.YtgnhdclhligngaaGf
import Derived.Test.YtgnhdclhligngaaOpen
import Derived.Deep.RegionHeld3
namespace Go.Proofs.Ytgnhdclhligngaa.lawMembers
open Go.ChangeShapes Go.WideShapes Go.ChangeAt Go.RowKit

theorem hasInt_to (A : Option Addr) (ca : Nat) (M : List Int) (y : Int) (t : Bool) {X : Nat} {w : World} (x : Ext X w) (ha : Reads x.val x.val.heap.size 1 A M.length (cellsI M)) (hl : M.length ≤ 1000000000) (ht : decide (y ∈ M) = t) :
    Calls Try.prog 28 #[.slice A M.length ca, .int .i64 y] x.val fun e w2 => e = .returned (.bool t) ∧ ∃ y : Ext X w, w2 = y.val :=
  calls_ext_same ((hasInt_any A ca M y x.val ha (by omega)).mono fun _ _ ⟨h1, h2⟩ => ⟨by rw [h1, ht], h2⟩)
theorem selG_mem {p : Int → Int → Bool} {ids g : List Int} {y : Int} : y ∈ selG p ids g ↔ ∃ (k : Nat) (x : Int), g[k]? = some x ∧ ids[k]? = some y ∧ p x y = true := by
  unfold selG
  rw [List.mem_map]
  constructor
  · rintro ⟨q, hq, rfl⟩
    obtain ⟨h1, h2⟩ := List.mem_filter.1 hq
    obtain ⟨k, hk⟩ := List.mem_iff_getElem?.1 h1
    obtain ⟨h3, h4⟩ := List.getElem?_zip_eq_some.1 hk
    exact ⟨k, q.1, h3, h4, h2⟩
  · rintro ⟨k, x, h1, h2, h3⟩
    exact ⟨(x, y), List.mem_filter.2 ⟨List.mem_of_getElem? (i := k) (List.getElem?_zip_eq_some.2 ⟨h1, h2⟩), h3⟩, rfl⟩
theorem selG_sub (p : Int → Int → Bool) {ids g : List Int} (h : ids.length ≤ g.length) : (selG p ids g).Sublist ids := by
  have h1 : (selG p ids g).Sublist ((g.zip ids).map Prod.snd) := List.filter_sublist.map Prod.snd
  rwa [List.map_snd_zip h] at h1
/-- What the law needs of members: their first is the head, and they are the contexts of that head. -/
theorem members_facts {ids M : List Int} {l : List Ctx} {id : Int} (hM : M = membersG ids l id) (hpos : 0 < M.length) : okG ids l = true ∧ id ∈ ids ∧ id ∈ M ∧ ∃ a, M[0]? = some a ∧ membersG ids l a = M ∧
    ∀ (k : Nat) (x y : Int), (groupsG ids l)[k]? = some x → ids[k]? = some y → (x == a) = decide (y ∈ M) := by
  have hc : (okG ids l && decide (id ∈ ids)) = true := by
    cases hh : (okG ids l && decide (id ∈ ids))
    · rw [hM, membersG, hh] at hpos
      simp at hpos
    · rfl
  obtain ⟨hok, hin⟩ : okG ids l = true ∧ id ∈ ids := by simpa using hc
  obtain ⟨hv, _, _⟩ := okG_parts hok
  have hGl := groupsG_len ids l
  have hHd := headsG_all hok
  obtain ⟨a, ha⟩ : ∃ a, a = labG ids (groupsG ids l) id := ⟨_, rfl⟩
  have hMs : M = selG (toP a) ids (groupsG ids l) := by rw [hM, membersG, if_pos hc, ha]
  have hga : (groupsG ids l)[placeI ids id]? = some a := by rw [ha]; exact labG_of hGl hin
  obtain ⟨j, _, hj1, hj2⟩ := hHd.2 _ _ hga
  have hiff : ∀ (k : Nat) (x y : Int), (groupsG ids l)[k]? = some x → ids[k]? = some y → (y ∈ M ↔ x = a) := by
    intro k x y hx hy
    rw [hMs, selG_mem]
    constructor
    · rintro ⟨k2, x2, h1, h2, h3⟩
      have : k2 = k := asc_eq hv h2 hy
      subst this
      rw [hx] at h1
      injection h1 with h1
      subst h1
      simpa [toP] using h3
    · intro h
      exact ⟨k, x, hx, hy, by simp [toP, h]⟩
  have haM : a ∈ M := (hiff j a a hj2 hj1).2 rfl
  have hsub : M.Sublist ids := by rw [hMs]; exact selG_sub _ (by omega)
  have hpair : M.Pairwise (fun c d => lessI c d = true) := (pairO lessI_tr hv).sublist hsub
  obtain ⟨m0, hm0⟩ : ∃ m0, M[0]? = some m0 := ⟨_, List.getElem?_eq_getElem hpos⟩
  have hm0a : m0 = a := by
    have h1 : m0 ∈ M := List.mem_of_getElem? hm0
    obtain ⟨k, x, h2, h3, h4⟩ := selG_mem.1 (hMs ▸ h1)
    have h5 : x = a := by simpa [toP] using h4
    have h6 := (head_own hok h2 h3).1
    obtain ⟨q, hq⟩ := List.mem_iff_getElem?.1 haM
    rcases Nat.eq_zero_or_pos q with h0 | hp
    · subst h0
      rw [hm0] at hq
      injection hq
    · rw [List.pairwise_iff_getElem] at hpair
      obtain ⟨hql, hqe⟩ := List.getElem?_eq_some_iff.1 hq
      obtain ⟨h0l, h0e⟩ := List.getElem?_eq_some_iff.1 hm0
      have h7 := hpair 0 q h0l hql hp
      rw [h0e, hqe] at h7
      simp [lessI] at h7
      omega
  subst hm0a
  refine ⟨hok, hin, ?_, m0, hm0, ?_, fun k x y hx hy => ?_⟩
  · obtain ⟨_, _, hp3⟩ := placeI_at hin
    exact (hiff _ _ _ hga hp3).2 rfl
  · have hin2 : m0 ∈ ids := List.mem_of_getElem? hj1
    have hlab : labG ids (groupsG ids l) m0 = m0 := labG_at hv hj1 hj2
    rw [hMs, membersG, hlab]
    simp [hok, hin2]
  · rw [Bool.eq_iff_iff]
    simp only [beq_iff_eq, decide_eq_true_eq]
    exact (hiff k x y hx hy).symm

set_option maxHeartbeats 4000000 in
theorem walk_short (A : Option Addr) (c : Nat) (z : List Int) (w : World) (h : Bytes w A c z) (hn : z.length ≤ 1048576) :
    Calls Try.prog 9 #[.slice A z.length c] w fun e w2 => e = .returned (.bool true) ∧ Below w.heap.size w w2 := by
  have e0 : decide ((1048576 : Int) < (z.length : Int)) = false := decide_eq_false (by omega)
  go_enter Try.func9, Try.ntmps9
  go_wp2_with fail
  refine (dMembers_any A c z _ h).mono ?_
  rintro e w2 ⟨v1, v2, ids, l, id, rfl, ho1, ho2, hl1, hl2, hb2⟩
  obtain ⟨A1, c1, hv1, hcap1, hr1⟩ := own_slice ho1
  obtain ⟨A2, c2, hv2, hcap2, hr2⟩ := own_slice ho2
  subst hv1 hv2
  have HB2 := Lib.hid hb2
  clear ho1 ho2 hb2 h
  obtain ⟨M, hM⟩ : ∃ M, M = membersG ids l id := ⟨_, rfl⟩
  have hMl : M.length ≤ 13 := by rw [hM]; exact Nat.le_trans (membersG_len ids l id) hl1
  have q := eqLI_self M
  have HM := Lib.hid hM
  clear hM
  go_wp2_with fail
  refine (iMembers_any _ _ _ _ ids l id _ hr1 hr2 (by omega) (by omega)).mono ?_
  rintro e w3 ⟨v3, rfl, hb3, ho3⟩
  rw [← HM.out] at ho3
  obtain ⟨A3, c3, hv3, _, hr3⟩ := own_slice ho3
  subst hv3
  go_wp2_with fail
  refine (sMembers_any _ _ _ _ ids l id _ (hr1.step hb3) (hr2.step hb3) (by omega) (by omega)).mono ?_
  rintro e w4 ⟨v4, rfl, hb4, ho4⟩
  rw [← HM.out] at ho4
  obtain ⟨A4, c4, hv4, _, hr4⟩ := own_slice ho4
  subst hv4
  have k24 := below_step hb3 hb4
  have R34 := Lib.hid (And.intro (hr3.step hb4) hr4)
  have R12 := Lib.hid (And.intro (hr1.step k24) (hr2.step k24))
  have K4 := Lib.hid (below_step HB2.out k24)
  clear hr1 hr2 hr3 hr4 hb3 hb4 ho3 ho4 k24
  rcases Nat.eq_zero_or_pos M.length with h0 | hpos
  · have e1 : ((M.length : Int) == 0) = true := by simp [h0]
    clear h0
    go_wp2_with fail
    refine (sameInts_any _ _ _ _ M M _ R34.out.1 R34.out.2 (by omega)).mono ?_
    rintro e w5 ⟨rfl, hb5⟩
    go_wp2_with fail
    refine (sameInts_any _ _ _ _ M M _ (R34.out.1.step hb5) (R34.out.2.step hb5) (by omega)).mono ?_
    rintro e w6 ⟨rfl, hb6⟩
    go_wp2_with fail
    go_ret
    exact ⟨rfl, below_step (below_step K4.out hb5) hb6⟩
  · have e1 : ((M.length : Int) == 0) = false := by rw [beq_eq_false_iff_ne]; omega
    obtain ⟨hok, hin, hid, a, ha0, hback, hiff⟩ := members_facts HM.out hpos
    obtain ⟨G, hG⟩ : ∃ G, G = groupsG ids l := ⟨_, rfl⟩
    have hGl : G.length = ids.length := by rw [hG, groupsG_len]
    have hof : groupsOfG ids l = G := by rw [groupsOfG, if_pos hok, hG]
    have eln : ((G.length : Int) != (ids.length : Int)) = false := by simp [hGl]
    have ehas : decide (id ∈ M) = true := by simp [hid]
    rw [← hG] at hiff
    have HG := Lib.hid (And.intro hok (And.intro hGl (And.intro hof (And.intro ha0 (And.intro hback hiff)))))
    have hgn : G.length ≤ 13 := by omega
    clear hok hin hid ha0 hback hiff hGl hof hG
    go_wp2_with fail
    refine (sameInts_any _ _ _ _ M M _ R34.out.1 R34.out.2 (by omega)).mono ?_
    rintro e w5 ⟨rfl, hb5⟩
    go_wp2_with fail
    refine (iGroups_any _ _ _ _ ids l _ (R12.out.1.step hb5) (R12.out.2.step hb5) (by omega) (by omega)).mono ?_
    rintro e w6 ⟨v6, rfl, hb6, ho6⟩
    rw [HG.out.1]
    rw [HG.out.2.2.1] at ho6
    obtain ⟨A6, c6, hv6, _, hr6⟩ := own_slice ho6
    subst hv6
    have k46 := below_step hb5 hb6
    have R := Lib.hid (And.intro (R12.out.1.step k46) (And.intro (R12.out.2.step k46) (And.intro (R34.out.1.step k46) hr6)))
    have K6 := Lib.hid (below_step K4.out k46)
    clear hb5 hb6 ho6 hr6 k46 R12 R34
    go_wp2_with (go_at_call 28; go_must (refine (hasInt_any _ _ M id _ R.out.2.2.1 (by omega)).mono ?_); rw [ehas]; rintro e w7 ⟨rfl, rfl⟩)
    go_loopw [10] (fun i wr => ∃ k : Nat, k ≤ ids.length ∧ i = .int .i64 k ∧ Below w6.heap.size w6 wr) (fun i _ => ids.length - (intOf i).toNat)
    case atStart => exact ⟨0, Nat.zero_le _, rfl, Below.refl _ _⟩
    case round =>
      obtain ⟨k, hk, rfl, hbl⟩ := hrel
      by_cases hlt : k < ids.length
      · have hlg : k < G.length := by rw [HG.out.2.1]; exact hlt
        have rI := R.out.1.step hbl
        have rM := R.out.2.2.1.step hbl
        have rG := R.out.2.2.2.step hbl
        obtain ⟨b, off, hA1, hbb, hc⟩ := rI.ints (by omega)
        obtain ⟨b3, off3, hA3, hbb3, hc3⟩ := rM.ints (by omega)
        obtain ⟨b6, off6, hA6, hbb6, hc6⟩ := rG.ints (by omega)
        subst hA1 hA3 hA6
        obtain ⟨y, hy⟩ : ∃ y, ids[k]? = some y := ⟨_, List.getElem?_eq_getElem hlt⟩
        obtain ⟨x, hx⟩ : ∃ x, G[k]? = some x := ⟨_, List.getElem?_eq_getElem hlg⟩
        have g1 := hc k _ hy
        have g3 := hc3 0 _ HG.out.2.2.2.1
        have g6 := hc6 k _ hx
        rw [Nat.add_zero] at g3
        have hkl : (k : Int) < (G.length : Int) := by omega
        have hkn : (k : Int) < (ids.length : Int) := by omega
        have hm0 : (0 : Int) < (M.length : Int) := by omega
        have hx1 := ext_cell (w := wr) (B := wr.heap.size) hbb
        have hx3 := ext_cell (w := wr) (B := wr.heap.size) hbb3
        have hx6 := ext_cell (w := wr) (B := wr.heap.size) hbb6
        obtain ⟨t, ht⟩ : ∃ t, decide (y ∈ M) = t := ⟨_, rfl⟩
        have e2 : (x == a) = t := by rw [← ht]; exact HG.out.2.2.2.2.2 k x y hx hy
        have e3 : (t != t) = false := by simp
        have HR := Lib.hid (And.intro rM ht)
        have HL := Lib.hid hbl
        clear hc hc3 hc6 hx hy rI rM rG ht hbl
        go_wp2_with fail
        refine wp_region_ext wr.heap.size (by kernel_rfl) (by kernel_rfl) ?_
        repeat (go_big_quiet_step ((go_at_call 28; exact hasInt_to _ _ M y t _ (HR.out.1.step (Ext.below _)) (by omega) HR.out.2)))
        refine wpQuiet_nil ?_
        rintro _ ⟨x9, rfl⟩
        have hb9 := below_step HL.out x9.below
        clear hx1 hx3 hx6 g1 g3 g6
        go_wp2_with fail
        go_roundw
        case rel => exact ⟨k + 1, by omega, by go_num, hb9⟩
        case measure => simp [intOf]; omega
      · have rM := R.out.2.2.1.step hbl
        obtain ⟨b3, off3, hA3, hbb3, hc3⟩ := rM.ints (by omega)
        subst hA3
        have g3 := hc3 0 _ HG.out.2.2.2.1
        rw [Nat.add_zero] at g3
        have hm0 : (0 : Int) < (M.length : Int) := by omega
        have HL := Lib.hid hbl
        clear hbl hc3 rM
        go_wp2_with fail
        refine (iMembers_any _ _ _ _ ids l a _ (R.out.1.step HL.out) (R.out.2.1.step HL.out) (by omega) (by omega)).mono ?_
        rintro e w7 ⟨v7, rfl, hb7, ho7⟩
        rw [HG.out.2.2.2.2.1] at ho7
        obtain ⟨A7, c7, hv7, _, hr7⟩ := own_slice ho7
        subst hv7
        go_wp2_with (go_at_call 20; go_must (refine (sameInts_any _ _ _ _ M M _ hr7 (R.out.2.2.1.step (below_step HL.out hb7)) (by omega)).mono ?_); rintro e w8 ⟨rfl, hb8⟩)
        go_ret
        exact ⟨rfl, below_step (below_step (below_step K6.out HL.out) hb7) hb8⟩

theorem walk (A : Option Addr) (c : Nat) (z : List Int) (w : World) (h1 : z.length ≤ c) (h2 : Reads w w.heap.size 1 A z.length (cellsB z)) (h3 : ∀ b ∈ z, 0 ≤ b ∧ b ≤ 255) (h4 : c ≤ maxLen) :
    Calls Try.prog 9 #[.slice A z.length c] w fun e w2 => e = .returned (.bool true) ∧ Below w.heap.size w w2 := by
  by_cases hn : z.length ≤ 1048576
  · exact walk_short A c z w (Bytes.mk_ h1 h2 h3 h4) hn
  · have e0 : decide ((1048576 : Int) < (z.length : Int)) = true := decide_eq_true (by omega)
    go_enter Try.func9, Try.ntmps9
    go_wp2_with fail
    go_ret
    exact ⟨rfl, Below.refl _ _⟩

set_option linter.unusedVariables false
set_option maxRecDepth 100000 in
theorem lifted (os : Os) (started : os.Started) (H : Type) (enc : TypeId × Value → H) :
    ReturnsInHanded {} Try.checked os 9 .any (Rows.fnGroupMembersSpec.pre6 enc Try.prog Try.f9 Rows.fnGroupMembersRow.domain false) (Rows.fnGroupMembersSpec.post enc Try.prog Try.f9 false true false false) := by
  refine returnsInHanded_of_change (C := Try.checked) lawOwn started (by kernel_rfl) Try.func9
    (ChangeSpec.witness6 (enc := enc) (C := Try.checked) false ⟨#[], #[.slice none 0 0], []⟩ 8 (by kernel_rfl) (by kernel_rfl) (by kernel_rfl) (by kernel_rfl)) ?_
  intro W base args ds gs before hval0 hW hcnd _
  have hval : ∀ (j : Nat) t v, Try.f9.params[j]? = some t → args[j]? = some v → Value.okWide Try.prog W .any base t v := hval0
  have hW' := hW
  obtain ⟨p, q, hA0, hV, rfl, hfz, hnd⟩ := hW
  have hA : DataW.TrodAll enc Try.prog W 0 (fun _ => true) true Try.f9.params.toList args.toList ds p := hA0
  rw [Try.params9] at hA hval
  obtain ⟨v0, vs0, d0, ds0, p0, q0, hargs, rfl, rfl, h0, r0⟩ := trodAll_cons hA
  obtain ⟨rfl, rfl, rfl⟩ := trodAll_nil r0
  obtain rfl : args = #[v0] := by cases args; simp_all
  obtain ⟨rfl, rfl⟩ := trodVars_none hV
  have k0 := h0
  have lt0 : ∀ x ∈ p0, x.block < W.heap.size := by obtain ⟨m, hm⟩ := k0; exact DataW.trod_lt m _ _ _ hm
  obtain ⟨a0, len0, cap0, rfl⟩ := okWide_slice Try.underlying22 (hval 0 22 v0 rfl rfl)
  obtain ⟨z0, hl0, hc0, hr0, hb0, hm0⟩ : ∃ z : List Int, len0 = z.length ∧ len0 ≤ cap0 ∧ Reads W W.heap.size 1 a0 len0 (cellsB z) ∧ (∀ b ∈ z, 0 ≤ b ∧ b ≤ 255) ∧ cap0 ≤ maxLen := by
    obtain ⟨fuel, hf⟩ := h0
    exact open_bytes Try.underlying22 Try.underlying5 (by kernel_rfl) (by simpa [Value.cells] using hf)
  subst hl0
  clear hA0 hval0
  refine (walk a0 cap0 z0 W hc0 hr0 hb0 hm0).mono fun e W' ⟨he, bel⟩ => ?_
  subst he
  exact ⟨_, rfl, _, _, _, [], _, [], hW', trodAll_mk1 (shut_bool Try.underlying4 _), (trodAll_cons_mk (Below.trod lawLaid (by kernel_rfl) (of_decide_eq_true (by kernel_rfl)) k0 bel lt0) trodAll_mk0), rfl, bel.frame _, fun h => by cases h⟩

theorem proved : Rows.FnGroupMembersSaid :=
  OpenClaim.holds_of_wide 9 Try.f9 rfl rfl rfl rfl rfl rfl rfl ⟨rfl, rfl, rfl, rfl, rfl⟩ rfl rfl rfl rfl rfl (by kernel_rfl) Try.func9 (by kernel_rfl)
    (of_decide_eq_true (by kernel_rfl)) (by unfold Func.isWrapper; rw [if_neg (of_decide_eq_false (by kernel_rfl))]; exact ⟨rfl, rfl⟩)
    (fun os started H enc _ => lifted os started H enc)
#print axioms proved
end Go.Proofs.Ytgnhdclhligngaa.lawMembers
