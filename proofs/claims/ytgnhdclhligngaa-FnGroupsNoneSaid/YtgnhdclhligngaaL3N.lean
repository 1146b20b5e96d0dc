/-
  Whatever bytes are given: of contexts and relations drawn from them, the program's groups without the equalities are the contexts themselves; its answer is the model's. No condition.
-/
import Derived.Test.YtgnhdclhligngaaDg
import Derived.Test.YtgnhdclhligngaaGx
import Derived.Test.YtgnhdclhligngaaS5
import Derived.Test.YtgnhdclhligngaaGf
import Derived.Test.YtgnhdclhligngaaOpen
import Derived.Deep.RegionHeld3
namespace Go.Proofs.Ytgnhdclhligngaa.lawNone
open Go.ChangeShapes Go.WideShapes Go.ChangeAt Go.RowKit

def notEq (l : List Ctx) : List Ctx := l.filter fun r => decide (r.area ≠ 2)
theorem notEq_len (l : List Ctx) : (notEq l).length ≤ l.length := List.length_filter_le _ _
theorem notEq_mem {l : List Ctx} {r : Ctx} (h : r ∈ notEq l) : r.area ≠ 2 := by
  have := (List.mem_filter.1 h).2
  simpa using this
theorem notEq_no {l : List Ctx} {k : Nat} {x : Ctx} (hx : l[k]? = some x) (h : x.area = 2) : notEq (l.take (k + 1)) = notEq (l.take k) := by
  unfold notEq
  rw [List.take_add_one, hx, List.filter_append]
  simp [h]
theorem notEq_yes {l : List Ctx} {k : Nat} {x : Ctx} (hx : l[k]? = some x) (h : ¬ x.area = 2) : notEq (l.take (k + 1)) = notEq (l.take k) ++ [x] := by
  unfold notEq
  rw [List.take_add_one, hx, List.filter_append]
  simp [h]

set_option maxHeartbeats 4000000 in
theorem walk_short (A : Option Addr) (c : Nat) (z : List Int) (w : World) (h : Bytes w A c z) (hn : z.length ≤ 1048576) :
    Calls Try.prog 5 #[.slice A z.length c] w fun e w2 => e = .returned (.bool true) ∧ Below w.heap.size w w2 := by
  have e0 : decide ((1048576 : Int) < (z.length : Int)) = false := decide_eq_false (by omega)
  go_enter Try.func5, Try.ntmps5
  go_wp2_with fail
  refine (dGroups_any A c z _ h).mono ?_
  rintro e w2 ⟨v1, v2, ids, l, rfl, ho1, ho2, hl1, hl2, hb2⟩
  obtain ⟨A1, c1, hv1, hcap1, hr1⟩ := own_slice ho1
  obtain ⟨A2, c2, hv2, hcap2, hr2⟩ := own_slice ho2
  subst hv1 hv2
  have HB2 := Lib.hid hb2
  clear ho1 ho2 hb2 h
  cases hok : okG ids l
  · go_wp2_with fail
    refine (iGroups_any _ _ _ _ ids l _ hr1 hr2 (by omega) (by omega)).mono ?_
    rintro e w3 ⟨v3, rfl, hb3, ho3⟩
    rw [hok]
    rw [groupsOfG, hok] at ho3
    obtain ⟨A3, c3, hv3, _, hr3⟩ := own_slice ho3
    subst hv3
    go_wp2_with fail
    refine (sGroupsOf_any _ _ _ _ ids l _ (hr1.step hb3) (hr2.step hb3) (by omega) (by omega)).mono ?_
    rintro e w4 ⟨v4, rfl, hb4, ho4⟩
    rw [hok]
    rw [groupsOfG, hok] at ho4
    obtain ⟨A4, c4, hv4, _, hr4⟩ := own_slice ho4
    subst hv4
    have k4 := below_step (below_step HB2.out hb3) hb4
    have q := eqLI_self []
    have R3 := Lib.hid (hr3.step hb4)
    have R4 := Lib.hid hr4
    have K4 := Lib.hid k4
    clear hr3 hr4 hb3 hb4 ho3 ho4 k4 hr1 hr2
    go_wp2_with fail
    refine (sameInts_any _ _ _ _ [] [] _ R3.out R4.out (by simp)).mono ?_
    rintro e w5 ⟨rfl, hb5⟩
    go_wp2_with fail
    refine (sameInts_any _ _ _ _ [] [] _ (R3.out.step hb5) (R4.out.step hb5) (by simp)).mono ?_
    rintro e w6 ⟨rfl, hb6⟩
    go_wp2_with fail
    go_ret
    exact ⟨rfl, below_step (below_step K4.out hb5) hb6⟩
  · obtain ⟨G, hG⟩ : ∃ G, G = groupsG ids l := ⟨_, rfl⟩
    have hGl : G.length = ids.length := by rw [hG, groupsG_len]
    have hof : groupsOfG ids l = G := by rw [groupsOfG, if_pos hok, hG]
    have HG := Lib.hid (And.intro hok (And.intro hG hGl))
    have hgn : G.length ≤ 13 := by omega
    have eln : ((G.length : Int) != (ids.length : Int)) = false := by simp [hGl]
    have q := eqLI_self G
    clear hG hGl
    go_wp2_with fail
    refine (iGroups_any _ _ _ _ ids l _ hr1 hr2 (by omega) (by omega)).mono ?_
    rintro e w3 ⟨v3, rfl, hb3, ho3⟩
    rw [hok]
    rw [hof] at ho3
    obtain ⟨A3, c3, hv3, _, hr3⟩ := own_slice ho3
    subst hv3
    go_wp2_with fail
    refine (sGroupsOf_any _ _ _ _ ids l _ (hr1.step hb3) (hr2.step hb3) (by omega) (by omega)).mono ?_
    rintro e w4 ⟨v4, rfl, hb4, ho4⟩
    rw [hok]
    rw [hof] at ho4
    obtain ⟨A4, c4, hv4, _, hr4⟩ := own_slice ho4
    subst hv4
    have R3 := Lib.hid (hr3.step hb4)
    have R4 := Lib.hid hr4
    have R12 := Lib.hid (And.intro (hr1.step (below_step hb3 hb4)) (hr2.step (below_step hb3 hb4)))
    have K4 := Lib.hid (below_step (below_step HB2.out hb3) hb4)
    clear hr3 hr4 hb3 hb4 ho3 ho4 hr1 hr2 hok hof
    go_wp2_with fail
    refine (sameInts_any _ _ _ _ G G _ R3.out R4.out (by omega)).mono ?_
    rintro e w5 ⟨rfl, hb5⟩
    have R := Lib.hid (And.intro (R12.out.1.step hb5) (And.intro (R12.out.2.step hb5) (R3.out.step hb5)))
    have K5 := Lib.hid (below_step K4.out hb5)
    clear R12 R3 R4 K4 hb5
    obtain ⟨i0, hi0, hz0, hz1, hz2⟩ := info_parts infoRel
    have hb7 : Below w5.heap.size w5 (w5.alloc (.cells #[] 35)) := (Below.refl _ _).alloc (Nat.le_refl _) _
    have ho7 : (w5.alloc (.cells #[] 35)).ownsRow w5.heap.size 35 3 (.slice (some ⟨w5.heap.size, 0, none⟩) 0 0) 0 [] := own_empty (Nat.le_refl _) rfl
    have O7 := Lib.hid (And.intro hb7 ho7)
    clear hb7 ho7
    go_wp2_with fail
    go_loopw [9, 10] (fun v i wr => ∃ k : Nat, k ≤ l.length ∧ i = .int .i64 k ∧ Below w5.heap.size w5 wr ∧ wr.ownsRow w5.heap.size 35 3 v (notEq (l.take k)).length (cellsC (notEq (l.take k)))) (fun _ i _ => l.length - (intOf i).toNat)
    case atStart => exact ⟨0, Nat.zero_le _, rfl, O7.out.1, by simpa [cellsC, notEq] using O7.out.2⟩
    case round =>
      obtain ⟨k, hk, rfl, hbl, hown⟩ := hrel
      have hsz := hbl.size
      by_cases hlt : k < l.length
      · obtain ⟨b, off, hA2, hbb, hc⟩ := (R.out.2.1.step hbl).ctx (by omega)
        subst hA2
        obtain ⟨x, hx⟩ : ∃ x, l[k]? = some x := ⟨_, List.getElem?_eq_getElem hlt⟩
        obtain ⟨g1, g2, g3⟩ := hc k _ hx
        have hkl : (k : Int) < (l.length : Int) := by omega
        have hsl : (notEq (l.take k)).length ≤ 31 := by
          have := notEq_len (l.take k)
          rw [List.length_take] at this; omega
        have HL := Lib.hid hbl
        clear hc
        by_cases h2 : x.area = 2
        · have e3 : (x.area != 2) = false := by simp [h2]
          have HT := Lib.hid (notEq_no hx h2)
          clear h2 hx hbl
          go_wp2_with fail
          go_roundw
          case rel => exact ⟨k + 1, by omega, by go_num, HL.out, by rw [HT.out]; exact hown⟩
          case measure => simp [intOf]; omega
        · have e3 : (x.area != 2) = true := by simp [h2]
          have HT := Lib.hid (notEq_yes hx h2)
          clear h2 hx hbl
          go_wp2_with (at_builtin
                       go_must (refine wpList_append_reads _ rfl (.tmp 67) (.tmp 72) _ rfl w5.heap.size 35 i0 _ 3 24 Try.underlying27 hi0 hz0 hz1 hz2 rfl (by omega) u9 (notEq (l.take k)).length _ rfl (hown.alloc _) (wr.heap.size + 1) _ 1 1 (cellsC [x]) rfl (reads_one (by omega)) (cellsC_one _) (by simp only [maxLen]; omega) (by omega) (by simp; omega) ?_)
                       intro v4 w4 hown4 hg4 hat4)
          go_roundw
          case rel =>
            refine ⟨k + 1, by omega, by go_num, HL.out.trans (app_below hown (Nat.le_refl _) hsz hg4), ?_⟩
            rw [HT.out, cellsC_append, List.length_append]
            exact hown4
          case measure => simp [intOf]; omega
      · have hkl : k = l.length := by omega
        have HL := Lib.hid hbl
        rw [hkl, List.take_length] at hown
        obtain ⟨A8, c8, hv8, _, hr8⟩ := own_slice hown
        subst hv8
        obtain ⟨x, hx⟩ : ∃ x, x = notEq l := ⟨_, rfl⟩
        have hxl : x.length ≤ 31 := by rw [hx]; exact Nat.le_trans (notEq_len l) hl2
        have hxo : okG ids x = true := by rw [hx]; exact okG_sub HG.out.1 List.filter_sublist
        have hxg : groupsOfG ids x = ids := by rw [groupsOfG, if_pos hxo, hx]; exact groupsG_none (fun r hr => notEq_mem hr)
        rw [← hx] at hr8
        rw [← hx]
        have R8 := Lib.hid hr8
        have q2 := eqLI_self ids
        have HXO := Lib.hid (And.intro hxo hxg)
        clear hkl hbl hown hr8 hx hxo hxg
        go_wp2_with fail
        refine (iGroups_any _ _ _ _ ids x _ (R.out.1.step HL.out) R8.out (by omega) (by omega)).mono ?_
        rintro e w9 ⟨v9, rfl, hb9, ho9⟩
        rw [HXO.out.1]
        rw [HXO.out.2] at ho9
        obtain ⟨A9, c9, hv9, _, hr9⟩ := own_slice ho9
        subst hv9
        go_wp2_with (go_at_call 20; go_must (refine (sameInts_any _ _ _ _ ids ids _ hr9 (R.out.1.step (below_step HL.out hb9)) (by omega)).mono ?_); rintro e w10 ⟨rfl, hb10⟩)
        go_ret
        exact ⟨rfl, below_step (below_step (below_step K5.out HL.out) hb9) hb10⟩

theorem walk (A : Option Addr) (c : Nat) (z : List Int) (w : World) (h1 : z.length ≤ c) (h2 : Reads w w.heap.size 1 A z.length (cellsB z)) (h3 : ∀ b ∈ z, 0 ≤ b ∧ b ≤ 255) (h4 : c ≤ maxLen) :
    Calls Try.prog 5 #[.slice A z.length c] w fun e w2 => e = .returned (.bool true) ∧ Below w.heap.size w w2 := by
  by_cases hn : z.length ≤ 1048576
  · exact walk_short A c z w (Bytes.mk_ h1 h2 h3 h4) hn
  · have e0 : decide ((1048576 : Int) < (z.length : Int)) = true := decide_eq_true (by omega)
    go_enter Try.func5, Try.ntmps5
    go_wp2_with fail
    go_ret
    exact ⟨rfl, Below.refl _ _⟩

set_option linter.unusedVariables false
set_option maxRecDepth 100000 in
theorem lifted (os : Os) (started : os.Started) (H : Type) (enc : TypeId × Value → H) :
    ReturnsInHanded {} Try.checked os 5 .any (Rows.fnGroupsNoneSpec.pre6 enc Try.prog Try.f5 Rows.fnGroupsNoneRow.domain false) (Rows.fnGroupsNoneSpec.post enc Try.prog Try.f5 false true false false) := by
  refine returnsInHanded_of_change (C := Try.checked) lawOwn started (by kernel_rfl) Try.func5
    (ChangeSpec.witness6 (enc := enc) (C := Try.checked) false ⟨#[], #[.slice none 0 0], []⟩ 8 (by kernel_rfl) (by kernel_rfl) (by kernel_rfl) (by kernel_rfl)) ?_
  intro W base args ds gs before hval0 hW hcnd _
  have hval : ∀ (j : Nat) t v, Try.f5.params[j]? = some t → args[j]? = some v → Value.okWide Try.prog W .any base t v := hval0
  have hW' := hW
  obtain ⟨p, q, hA0, hV, rfl, hfz, hnd⟩ := hW
  have hA : DataW.TrodAll enc Try.prog W 0 (fun _ => true) true Try.f5.params.toList args.toList ds p := hA0
  rw [Try.params5] at hA hval
  obtain ⟨v0, vs0, d0, ds0, p0, q0, hargs, rfl, rfl, h0, r0⟩ := trodAll_cons hA
  obtain ⟨rfl, rfl, rfl⟩ := trodAll_nil r0
  obtain rfl : args = #[v0] := by cases args; simp_all
  obtain ⟨rfl, rfl⟩ := trodVars_none hV
  have k0 := h0
  have lt0 : ∀ x ∈ p0, x.block < W.heap.size := by obtain ⟨m, hm⟩ := k0; exact DataW.trod_lt m _ _ _ hm
  obtain ⟨a0, len0, cap0, rfl⟩ := okWide_slice Try.underlying22 (hval 0 22 v0 rfl rfl)
  obtain ⟨z0, hl0, hc0, hr0, hb0, hm0⟩ : ∃ z : List Int, len0 = z.length ∧ len0 ≤ cap0 ∧ Reads W W.heap.size 1 a0 len0 (cellsB z) ∧ (∀ b ∈ z, 0 ≤ b ∧ b ≤ 255) ∧ cap0 ≤ maxLen := by
    obtain ⟨fuel, hf⟩ := h0
    exact open_bytes Try.underlying22 Try.underlying5 (by kernel_rfl) (by simpa [Value.cells] using hf)
  subst hl0
  clear hA0 hval0
  refine (walk a0 cap0 z0 W hc0 hr0 hb0 hm0).mono fun e W' ⟨he, bel⟩ => ?_
  subst he
  exact ⟨_, rfl, _, _, _, [], _, [], hW', trodAll_mk1 (shut_bool Try.underlying4 _), (trodAll_cons_mk (Below.trod lawLaid (by kernel_rfl) (of_decide_eq_true (by kernel_rfl)) k0 bel lt0) trodAll_mk0), rfl, bel.frame _, fun h => by cases h⟩

theorem proved : Rows.FnGroupsNoneSaid :=
  OpenClaim.holds_of_wide 5 Try.f5 rfl rfl rfl rfl rfl rfl rfl ⟨rfl, rfl, rfl, rfl, rfl⟩ rfl rfl rfl rfl rfl (by kernel_rfl) Try.func5 (by kernel_rfl)
    (of_decide_eq_true (by kernel_rfl)) (by unfold Func.isWrapper; rw [if_neg (of_decide_eq_false (by kernel_rfl))]; exact ⟨rfl, rfl⟩)
    (fun os started H enc _ => lifted os started H enc)
#print axioms proved
end Go.Proofs.Ytgnhdclhligngaa.lawNone
