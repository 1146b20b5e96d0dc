/-
  Whatever bytes are given: of finds drawn from them, each of the program's bounds is the one that it finds for the years of that context's finds, the contexts ascend, and the bounds are valid; they are the model's. No condition.
-/
import Derived.Test.YtopdmcnbchpihaaEnt
import Derived.Test.YtopdmcnbchpihaaLif
import Derived.Test.YtopdmcnbchpihaaMak
import Derived.Test.YtopdmcnbchpihaaFdb
import Derived.Test.YtopdmcnbchpihaaFnb
import Derived.Test.YtopdmcnbchpihaaIfb
import Derived.Test.YtopdmcnbchpihaaIb1
import Derived.Test.YtopdmcnbchpihaaEe
import Derived.Test.YtopdmcnbchpihaaTriBound
import Derived.Test.YtopdmcnbchpihaaOpen
import Derived.Deep.RegionHeld3
namespace Go.Proofs.Ytopdmcnbchpihaa.lawFindsBounds
open Go.ChangeShapes Go.WideShapes Go.ChangeAt Go.RowKit

set_option maxHeartbeats 8000000 in
set_option maxRecDepth 100000 in
theorem walk_short (A : Option Addr) (c : Nat) (z : List Int) (w : World) (h : Bytes w A c z) (hn : z.length ≤ 1048576) :
    Calls Try.prog 3 #[.slice A z.length c] w fun e w2 => e = .returned (.bool true) ∧ Below w.heap.size w w2 := by
  have e0 : decide ((1048576 : Int) < (z.length : Int)) = false := decide_eq_false (by omega)
  go_enter Try.func3, Try.ntmps3
  go_wp2_with fail
  refine (dBoundsFd_any A c z _ h).mono ?_
  rintro e w2 ⟨v1, L, rfl, ho1, hl1, hb2⟩
  obtain ⟨A1, c1, hv1, hcap1, hr1⟩ := own_slice ho1
  subst hv1
  have HR := Lib.hid (And.intro hb2 hr1)
  clear ho1 hb2 h hr1
  obtain ⟨M, hM⟩ : ∃ M, M = fbG L := ⟨_, rfl⟩
  obtain ⟨o, ho⟩ : ∃ o, o = fbOk L := ⟨_, rfl⟩
  have hMl : M.length ≤ 12 := by rw [hM]; exact fbG_len L
  have q2 := eqLC_self M
  have eb : (o != o) = false := by simp
  have ec : (o == o) = true := by simp
  have HC := Lib.hid (And.intro hM ho)
  clear hM ho
  go_wp2_with fail
  refine (iFindsBounds_any _ _ L _ HR.out.2 (by omega)).mono ?_
  rintro e w3 ⟨v4, rfl, hb3, ho4⟩
  rw [← HC.out.1] at ho4
  rw [← HC.out.2]
  obtain ⟨A4, c4, hv4, hcap4, hr4⟩ := own_slice ho4
  subst hv4
  have H3 := Lib.hid (And.intro hb3 hr4)
  clear hb3 ho4 hr4
  go_wp2_with fail
  refine (sFindsBounds_any _ _ L _ (HR.out.2.step H3.out.1) (by omega)).mono ?_
  rintro e w4 ⟨v5, rfl, hb4, ho5⟩
  rw [← HC.out.1] at ho5
  rw [← HC.out.2]
  obtain ⟨A5, c5, hv5, hcap5, hr5⟩ := own_slice ho5
  subst hv5
  have H4 := Lib.hid (And.intro hb4 hr5)
  clear hb4 ho5 hr5
  go_wp2_with fail
  refine (sameBound_any _ _ _ _ M M _ (H3.out.2.step H4.out.1) H4.out.2 (by omega)).mono ?_
  rintro e w5 ⟨rfl, hb5⟩
  have k5 := below_step H4.out.1 hb5
  have k25 := below_step H3.out.1 k5
  have R := Lib.hid (And.intro (HR.out.2.step k25) (And.intro (H3.out.2.step k5) (below_step HR.out.1 k25)))
  have R4 := Lib.hid (H4.out.2.step hb5)
  clear hb5 k5 k25
  cases o
  · clear eb ec
    go_wp2_with fail
    refine (sameBound_any _ _ _ _ M M _ R.out.2.1 R4.out (by omega)).mono ?_
    rintro e w6 ⟨rfl, hb6⟩
    go_wp2_with fail
    go_ret
    exact ⟨rfl, below_step R.out.2.2 hb6⟩
  · clear eb ec
    have hok : fbOk L = true := HC.out.2.symm
    have hfb : ∀ (i : Nat) (b : Ctx), M[i]? = some b → findOkB b.id (yearsF L b.id) = true ∧ findB b.id (yearsF L b.id) = b ∧ 0 < (yearsF L b.id).length := fun i b hb => fb_find hok (by rw [← HC.out.1]; exact List.mem_of_getElem? hb)
    have has : ∀ (i j : Nat) (a b : Ctx), M[i]? = some a → M[j]? = some b → i < j → a.id < b.id := fun i j a b ha hb hij => by
      rw [HC.out.1, fbG_ok hok] at ha hb
      exact fbF_asc ha hb hij
    have hvb : validB M = true := by rw [HC.out.1]; exact fbG_valid hok
    obtain ⟨i0, hi0, hz0, hz1, hz2⟩ := info_parts infoInt
    have HF := Lib.hid (And.intro hfb (And.intro has hvb))
    clear hok hfb has hvb
    go_wp2_with fail
    go_loopw [8] (fun i wr => ∃ k : Nat, k ≤ M.length ∧ i = .int .i64 k ∧ Below w5.heap.size w5 wr) (fun i _ => M.length - (intOf i).toNat)
    case atStart => exact ⟨0, Nat.zero_le _, rfl, Below.refl _ _⟩
    case round =>
      obtain ⟨i, hi, rfl, hbl⟩ := hrel
      by_cases hlt : i < M.length
      · have hii : (i : Int) < (M.length : Int) := by omega
        obtain ⟨b, hb⟩ : ∃ b, M[i]? = some b := ⟨_, List.getElem?_eq_getElem hlt⟩
        obtain ⟨w6, rfl⟩ : ∃ w6, w6 = wr := ⟨wr, rfl⟩
        obtain ⟨hf1, hf2, hf3⟩ := HF.out.1 i b hb
        have HX := Lib.hid (And.intro hbl (And.intro hb (And.intro hf1 (And.intro hf2 hf3))))
        have b7 : Below w6.heap.size w6 (w6.alloc (.cells #[] 3)) := (Below.refl w6.heap.size w6).alloc (Nat.le_refl _) _
        have o7 : (w6.alloc (.cells #[] 3)).ownsRow w6.heap.size 3 1 (.slice (some ⟨w6.heap.size, 0, none⟩) 0 0) 0 [] := own_empty (Nat.le_refl _) rfl
        have H7 := Lib.hid (And.intro b7 o7)
        clear hbl hb hf1 hf2 hf3 b7 o7
        go_wp2_with fail
        go_loopw [9, 10] (fun v c wq => ∃ j : Nat, j ≤ L.length ∧ c = .int .i64 j ∧ Below w6.heap.size w6 wq ∧ wq.ownsRow w6.heap.size 3 1 v (yearsF (L.take j) b.id).length (cellsI (yearsF (L.take j) b.id))) (fun _ c _ => L.length - (intOf c).toNat)
        case atStart => exact ⟨0, Nat.zero_le _, rfl, H7.out.1, H7.out.2⟩
        case round =>
          obtain ⟨j, hj, rfl, hbq, hov⟩ := hrel
          have hsq := hbq.size
          have kk := below_step HX.out.1 hbq
          obtain ⟨bm, om, hAm, hbm, hcm⟩ := (R.out.2.1.step kk).ctx (by omega)
          subst hAm
          obtain ⟨g1, g2, g3⟩ := hcm i b HX.out.2.1
          have hyl := yearsF_len (L.take j) b.id
          simp only [List.length_take] at hyl
          by_cases hjl : j < L.length
          · have hji : (j : Int) < (L.length : Int) := by omega
            obtain ⟨f, hf⟩ : ∃ f, L[j]? = some f := ⟨_, List.getElem?_eq_getElem hjl⟩
            obtain ⟨bb, ob, hA, hbb, hc⟩ := (R.out.1.step kk).ctx (by omega)
            subst hA
            obtain ⟨f1, f2, f3⟩ := hc j f hf
            have hnx := yearsF_next (id := b.id) hf
            by_cases h1 : f.id = b.id
            · have e1 : (f.id == b.id) = true := by simp [h1]
              rw [if_pos h1] at hnx
              have HN := Lib.hid (And.intro hnx (And.intro hbq hov))
              have hf3 : ∀ (W : World), Below wr.heap.size wr W → W.cell? ⟨bb, ob + j * 3 + 2, none⟩ = some (.int .i64 f.area) := fun W hW => (hW.cell (p := ⟨bb, ob + j * 3 + 2, none⟩) hbb).trans f3
              have HF3 := Lib.hid hf3
              clear hnx hbq hov hf3 hf hc hcm kk h1 g2 g3 f2 f3
              go_wp2_with fail
              go_quiet (fail)
              obtain ⟨w7, hw7⟩ : ∃ w7, w7 = wr.drewN nq := ⟨_, rfl⟩
              have b7 : Below wr.heap.size wr w7 := by rw [hw7]; exact below_draws (Below.refl _ _) nq
              rw [← hw7]
              have f3 := HF3.out w7 b7
              have HW7 := Lib.hid b7
              have hs7 := b7.size
              clear b7 hw7 f1 g1
              go_wp2_with (at_builtin
                           go_must (refine wpList_append_reads _ rfl (.tmp 73) (.tmp 79) _ rfl w6.heap.size 3 i0 _ 1 8 Try.underlying29 hi0 hz0 hz1 hz2 rfl (by omega) u9 (yearsF (L.take j) b.id).length _ rfl ((own_below HN.out.2.2 HW7.out).alloc _) (w7.heap.size + 1) _ 1 1 (cellsI [f.area]) rfl (reads_int (by omega)) (cellsI_one _) (by simp only [maxLen]; omega) (by omega) (by simp; omega) ?_)
                           intro v8 w8 hown8 hg8 hat8)
              go_roundw
              case rel =>
                have ho7 := own_below HN.out.2.2 HW7.out
                have b8 : Below w6.heap.size w6 w8 := (below_step HN.out.2.1 HW7.out).trans (app_below ho7 (Nat.le_refl _) (by omega) hg8)
                have e10 : cellsI (yearsF (L.take j) b.id) ++ cellsI [f.area] = cellsI (yearsF (L.take (j + 1)) b.id) := by rw [HN.out.1]; simp [cellsI]
                have e11 : (yearsF (L.take (j + 1)) b.id).length = (yearsF (L.take j) b.id).length + 1 := by rw [HN.out.1]; simp
                exact ⟨j + 1, by omega, by go_num, b8, by rw [← e10, e11]; exact hown8⟩
              case measure => simp [intOf]; omega
            · have e1 : (f.id == b.id) = false := by simp [h1]
              rw [if_neg h1] at hnx
              have HN := Lib.hid (And.intro hnx (And.intro hbq hov))
              clear hnx hbq hov hf hc hcm kk h1 g2 g3 f2 f3
              go_wp2_with fail
              go_quiet (fail)
              go_wp2_with fail
              go_roundw
              case rel => exact ⟨j + 1, by omega, by go_num, below_draws HN.out.2.1 nq, by rw [HN.out.1]; exact own_below HN.out.2.2 (below_draws (Below.refl _ _) nq)⟩
              case measure => simp [intOf]; omega
          · have hjm : L.take j = L := List.take_of_length_le (by omega)
            rw [hjm] at hov
            obtain ⟨Y, hY⟩ : ∃ Y, Y = yearsF L b.id := ⟨_, rfl⟩
            obtain ⟨_, _, hf1, hf2, hf3⟩ := HX.out
            rw [← hY] at hov hf1 hf2 hf3
            obtain ⟨A9, c9, hv9, _, hr9⟩ := own_slice hov
            subst hv9
            have hY20 : Y.length ≤ 21 := by rw [hY]; exact Nat.le_trans (yearsF_len L b.id) (by omega)
            have hF := iFindBound_any A9 c9 Y b.id wr hr9 (by omega)
            rw [hf1, hf2] at hF
            have hbl := HX.out.1
            have hprev : ∀ (a : Ctx), 0 < i → M[i - 1]? = some a → a.id < b.id := fun a h0 ha => HF.out.2.1 (i - 1) i a b ha HX.out.2.1 (by omega)
            have hcW : ∀ (W : World), Below wr.heap.size wr W → ∀ (k : Nat) (c : Ctx), M[k]? = some c → W.cell? ⟨bm, om + k * 3, none⟩ = some (.int .i64 c.id) ∧ W.cell? ⟨bm, om + k * 3 + 1, none⟩ = some (.int .i64 c.kind) ∧ W.cell? ⟨bm, om + k * 3 + 2, none⟩ = some (.int .i64 c.area) := fun W hW k c hc => by
              obtain ⟨p1, p2, p3⟩ := hcm k c hc
              exact ⟨(hW.cell (p := ⟨bm, om + k * 3, none⟩) hbm).trans p1, (hW.cell (p := ⟨bm, om + k * 3 + 1, none⟩) hbm).trans p2, (hW.cell (p := ⟨bm, om + k * 3 + 2, none⟩) hbm).trans p3⟩
            have HK := Lib.hid (And.intro hF (And.intro kk (And.intro hprev hcW)))
            have eY : ((Y.length : Int) == 0) = false := by rw [beq_eq_false_iff_ne]; omega
            have hne : ∀ W : World, (binOp .neq 33 (.agg #[.int .i64 b.id, .int .i64 b.kind, .int .i64 b.area]) (.agg #[.int .i64 b.id, .int .i64 b.kind, .int .i64 b.area])).run Try.prog W = .ok (.bool false) W := fun W => by go_simp
            have hjn : decide ((j : Int) < (L.length : Int)) = false := decide_eq_false (by omega)
            clear hjm hov hY hf1 hf2 hf3 hr9 hF hbl hprev hcW hcm kk hbq g2 g3
            by_cases hi0' : 0 < i
            · have hi0i : (0 : Int) < (i : Int) := by omega
              obtain ⟨a, ha⟩ : ∃ a, M[i - 1]? = some a := ⟨_, List.getElem?_eq_getElem (by omega)⟩
              have hal := HK.out.2.2.1 a hi0' ha
              have hale : decide (b.id ≤ a.id) = false := decide_eq_false (by omega)
              have him : ((i : Int) - 1) = ((i - 1 : Nat) : Int) := by omega
              have him2 : ((i - 1 : Nat) : Int) < (M.length : Int) := by omega
              have him0 : (0 : Int) ≤ ((i - 1 : Nat) : Int) := by omega
              have HA := Lib.hid ha
              clear ha
              go_wp2_with (go_at_call 20; go_must (refine HK.out.1.mono ?_); rintro e w9 ⟨rfl, k9⟩
                           have ba : Below w9.heap.size w9 (w9.alloc (.cells #[.int .i64 b.id, .int .i64 b.kind, .int .i64 b.area] 33)) := (Below.refl w9.heap.size w9).alloc (Nat.le_refl _) _
                           obtain ⟨p1, p2, p3⟩ := HK.out.2.2.2 _ (below_step k9 ba) i b HX.out.2.1
                           obtain ⟨q1, q2, q3⟩ := HK.out.2.2.2 _ (below_step k9 ba) (i - 1) a HA.out
                           have K9 := Lib.hid (And.intro (below_step HK.out.2.1 k9) ba)
                           clear k9 ba)
              obtain ⟨W9, hW9⟩ : ∃ W9, W9 = w9.alloc (.cells #[.int .i64 b.id, .int .i64 b.kind, .int .i64 b.area] 33) := ⟨_, rfl⟩
              have hbx : W9.heap[w9.heap.size]? = some (.cells #[.int .i64 b.id, .int .i64 b.kind, .int .i64 b.area] 33 (0, 0)) := by rw [hW9]; exact heap_alloc_new _ _
              have z0 := cell_of_row _ _ 0 _ _ _ hbx
              have z1 := cell_of_row _ _ 1 _ _ _ hbx
              have z2 := cell_of_row _ _ 2 _ _ _ hbx
              have b9 : Below w5.heap.size w5 W9 := by rw [hW9]; exact below_step K9.out.1 K9.out.2
              rw [← hW9] at p1 p2 p3 q1 q2 q3 ⊢
              have HW9 := Lib.hid b9
              clear hbx b9 hW9
              go_quiet (fail)
              go_wp2_with fail
              go_roundw
              case rel => exact ⟨i + 1, by omega, by go_num, below_draws HW9.out nq⟩
              case measure => simp [intOf]; omega
            · have hi0i : decide ((0 : Int) < (i : Int)) = false := decide_eq_false (by omega)
              have hi00 : i = 0 := by omega
              clear hi00
              go_wp2_with (go_at_call 20; go_must (refine HK.out.1.mono ?_); rintro e w9 ⟨rfl, k9⟩
                           have ba : Below w9.heap.size w9 (w9.alloc (.cells #[.int .i64 b.id, .int .i64 b.kind, .int .i64 b.area] 33)) := (Below.refl w9.heap.size w9).alloc (Nat.le_refl _) _
                           obtain ⟨p1, p2, p3⟩ := HK.out.2.2.2 _ (below_step k9 ba) i b HX.out.2.1
                           have K9 := Lib.hid (And.intro (below_step HK.out.2.1 k9) ba)
                           clear k9 ba)
              obtain ⟨W9, hW9⟩ : ∃ W9, W9 = w9.alloc (.cells #[.int .i64 b.id, .int .i64 b.kind, .int .i64 b.area] 33) := ⟨_, rfl⟩
              have hbx : W9.heap[w9.heap.size]? = some (.cells #[.int .i64 b.id, .int .i64 b.kind, .int .i64 b.area] 33 (0, 0)) := by rw [hW9]; exact heap_alloc_new _ _
              have z0 := cell_of_row _ _ 0 _ _ _ hbx
              have z1 := cell_of_row _ _ 1 _ _ _ hbx
              have z2 := cell_of_row _ _ 2 _ _ _ hbx
              have b9 : Below w5.heap.size w5 W9 := by rw [hW9]; exact below_step K9.out.1 K9.out.2
              rw [← hW9] at p1 p2 p3 ⊢
              have HW9 := Lib.hid b9
              clear hbx b9 hW9
              go_quiet (fail)
              go_wp2_with fail
              go_roundw
              case rel => exact ⟨i + 1, by omega, by go_num, below_draws HW9.out nq⟩
              case measure => simp [intOf]; omega
      · have HB := Lib.hid hbl
        clear hbl
        have hin : decide ((i : Int) < (M.length : Int)) = false := decide_eq_false (by omega)
        go_wp2_with fail
        refine (iBoundsValid_any _ _ M _ (R.out.2.1.step HB.out) (by omega)).mono ?_
        rw [HF.out.2.2]
        rintro e w9 ⟨rfl, hb9⟩
        go_wp2_with fail
        go_ret
        exact ⟨rfl, below_step (below_step R.out.2.2 HB.out) hb9⟩

theorem walk (A : Option Addr) (c : Nat) (z : List Int) (w : World) (h1 : z.length ≤ c) (h2 : Reads w w.heap.size 1 A z.length (cellsB z)) (h3 : ∀ b ∈ z, 0 ≤ b ∧ b ≤ 255) (h4 : c ≤ maxLen) :
    Calls Try.prog 3 #[.slice A z.length c] w fun e w2 => e = .returned (.bool true) ∧ Below w.heap.size w w2 := by
  by_cases hn : z.length ≤ 1048576
  · exact walk_short A c z w (Bytes.mk_ h1 h2 h3 h4) hn
  · have e0 : decide ((1048576 : Int) < (z.length : Int)) = true := decide_eq_true (by omega)
    go_enter Try.func3, Try.ntmps3
    go_wp2_with fail
    go_ret
    exact ⟨rfl, Below.refl _ _⟩

set_option linter.unusedVariables false
set_option maxRecDepth 100000 in
theorem lifted (os : Os) (started : os.Started) (H : Type) (enc : TypeId × Value → H) :
    ReturnsInHanded {} Try.checked os 3 .any (Rows.fnFindsBoundsSpec.pre6 enc Try.prog Try.f3 Rows.fnFindsBoundsRow.domain false) (Rows.fnFindsBoundsSpec.post enc Try.prog Try.f3 false true false false) := by
  refine returnsInHanded_of_change (C := Try.checked) lawOwn started (by kernel_rfl) Try.func3
    (ChangeSpec.witness6 (enc := enc) (C := Try.checked) false ⟨#[], #[.slice none 0 0], []⟩ 8 (by kernel_rfl) (by kernel_rfl) (by kernel_rfl) (by kernel_rfl)) ?_
  intro W base args ds gs before hval0 hW hcnd _
  have hval : ∀ (j : Nat) t v, Try.f3.params[j]? = some t → args[j]? = some v → Value.okWide Try.prog W .any base t v := hval0
  have hW' := hW
  obtain ⟨p, q, hA0, hV, rfl, hfz, hnd⟩ := hW
  have hA : DataW.TrodAll enc Try.prog W 0 (fun _ => true) true Try.f3.params.toList args.toList ds p := hA0
  rw [Try.params3] at hA hval
  obtain ⟨v0, vs0, d0, ds0, p0, q0, hargs, rfl, rfl, h0, r0⟩ := trodAll_cons hA
  obtain ⟨rfl, rfl, rfl⟩ := trodAll_nil r0
  obtain rfl : args = #[v0] := by cases args; simp_all
  obtain ⟨rfl, rfl⟩ := trodVars_none hV
  have k0 := h0
  have lt0 : ∀ x ∈ p0, x.block < W.heap.size := by obtain ⟨m, hm⟩ := k0; exact DataW.trod_lt m _ _ _ hm
  obtain ⟨a0, len0, cap0, rfl⟩ := okWide_slice Try.underlying22 (hval 0 22 v0 rfl rfl)
  obtain ⟨z0, hl0, hc0, hr0, hb0, hm0⟩ : ∃ z : List Int, len0 = z.length ∧ len0 ≤ cap0 ∧ Reads W W.heap.size 1 a0 len0 (cellsB z) ∧ (∀ b ∈ z, 0 ≤ b ∧ b ≤ 255) ∧ cap0 ≤ maxLen := by
    obtain ⟨fuel, hf⟩ := h0
    exact open_bytes Try.underlying22 Try.underlying5 (by kernel_rfl) (by simpa [Value.cells] using hf)
  subst hl0
  clear hA0 hval0
  refine (walk a0 cap0 z0 W hc0 hr0 hb0 hm0).mono fun e W' ⟨he, bel⟩ => ?_
  subst he
  exact ⟨_, rfl, _, _, _, [], _, [], hW', trodAll_mk1 (shut_bool Try.underlying4 _), (trodAll_cons_mk (Below.trod lawLaid (by kernel_rfl) (of_decide_eq_true (by kernel_rfl)) k0 bel lt0) trodAll_mk0), rfl, bel.frame _, fun h => by cases h⟩

theorem closed : joinedFacts Try.checked.prog 3 Try.f3 Rows.fnFindsBoundsSpec Rows.fnFindsBoundsRow = true := by
  unfold joinedFacts
  repeat (refine and_t ?_ (by first | (with_reducible exact ent) | (with_reducible refine lif_c ?_; kernel_rfl) | (with_reducible refine mak_c ?_; kernel_rfl) | kernel_rfl))
  kernel_rfl
theorem proved : Rows.FnFindsBoundsSaid :=
  OpenClaim.holds_of_wide 3 Try.f3 rfl rfl rfl rfl rfl rfl rfl ⟨rfl, rfl, rfl, rfl, rfl⟩ rfl rfl rfl rfl rfl (by kernel_rfl) Try.func3 closed
    (of_decide_eq_true (by kernel_rfl)) (by unfold Func.isWrapper; rw [if_neg (of_decide_eq_false (by kernel_rfl))]; exact ⟨rfl, rfl⟩)
    (fun os started H enc _ => lifted os started H enc)
#print axioms proved
end Go.Proofs.Ytopdmcnbchpihaa.lawFindsBounds
