/-
  Whatever bytes are given: of contexts and finds drawn from them, each number of the program's table is that of the finds of its context and its type, and all of them together are the number of finds; the table is the model's. No condition.
-/
import Derived.Test.YtopdmcnbchpihaaEnt
import Derived.Test.YtopdmcnbchpihaaLif
import Derived.Test.YtopdmcnbchpihaaMak
import Derived.Test.YtopdmcnbchpihaaFdt
import Derived.Test.YtopdmcnbchpihaaFnt
import Derived.Test.YtopdmcnbchpihaaIft
import Derived.Test.YtopdmcnbchpihaaBti
import Derived.Test.YtopdmcnbchpihaaLm
import Derived.Test.YtopdmcnbchpihaaInts
import Derived.Test.YtopdmcnbchpihaaOpen
import Derived.Deep.RegionHeld3
namespace Go.Proofs.Ytopdmcnbchpihaa.lawFindsTable
open Go.ChangeShapes Go.WideShapes Go.ChangeAt Go.RowKit

theorem tab_small (ids : List Int) (l : List Ctx) : (tabG ids l).length ≤ 12 ∧ ∀ r ∈ tabG ids l, r.length ≤ 5 := by
  unfold tabG
  split
  · rename_i h
    have hn : ids.length ≤ 12 := validO_len (tabOk_parts h).1
    refine ⟨by rw [tableF_len]; omega, fun r hr => ?_⟩
    obtain ⟨a, _, rfl⟩ := List.mem_map.1 hr
    rw [rowF_len]
    omega
  · simp
set_option maxHeartbeats 2000000 in
set_option maxRecDepth 100000 in
theorem walk_short (A : Option Addr) (c : Nat) (z : List Int) (w : World) (h : Bytes w A c z) (hn : z.length ≤ 1048576) :
    Calls Try.prog 5 #[.slice A z.length c] w fun e w2 => e = .returned (.bool true) ∧ Below w.heap.size w w2 := by
  have e0 : decide ((1048576 : Int) < (z.length : Int)) = false := decide_eq_false (by omega)
  go_enter Try.func5, Try.ntmps5
  go_wp2_with fail
  refine (dTableFd_any A c z _ h).mono ?_
  rintro e w2 ⟨v1, v2, ids, L, rfl, ho1, ho2, hl1, hl2, hb2⟩
  obtain ⟨A1, c1, hv1, hcap1, hr1⟩ := own_slice ho1
  obtain ⟨A2, c2, hv2, hcap2, hr2⟩ := own_slice ho2
  subst hv1 hv2
  have HR := Lib.hid (And.intro hb2 (And.intro hr1 hr2))
  clear ho1 ho2 hb2 h hr1 hr2
  obtain ⟨M, hM⟩ : ∃ M, M = tabG ids L := ⟨_, rfl⟩
  obtain ⟨o, ho⟩ : ∃ o, o = tabOk ids L := ⟨_, rfl⟩
  obtain ⟨hMl, hMr⟩ := tab_small ids L
  rw [← hM] at hMl hMr
  have q2 : decide (M = M) = true := decide_eq_true rfl
  have eb : (o != o) = false := by simp
  have ec : (o == o) = true := by simp
  have HC := Lib.hid (And.intro hM (And.intro ho hMr))
  clear hM ho hMr
  go_wp2_with fail
  refine (iTable_any _ _ _ _ ids L _ HR.out.2.1 HR.out.2.2 (by omega) (by omega)).mono ?_
  rintro e w3 ⟨v4, vs4, rfl, hb3, ho4⟩
  rw [← HC.out.1] at ho4
  rw [← HC.out.2.1]
  obtain ⟨A4, c4, hv4, hcap4, hr4⟩ := ho4.nest
  subst hv4
  have H3 := Lib.hid (And.intro hb3 hr4)
  clear hb3 ho4 hr4
  go_wp2_with fail
  refine (sTable_any _ _ _ _ ids L _ (HR.out.2.1.step H3.out.1) (HR.out.2.2.step H3.out.1) (by omega) (by omega)).mono ?_
  rintro e w4 ⟨v5, vs5, rfl, hb4, ho5⟩
  rw [← HC.out.1] at ho5
  rw [← HC.out.2.1]
  obtain ⟨A5, c5, hv5, hcap5, hr5⟩ := ho5.nest
  subst hv5
  have H4 := Lib.hid (And.intro hb4 hr5)
  clear hb4 ho5 hr5
  go_wp2_with fail
  refine (sameCounts_any _ _ _ _ M M _ (H3.out.2.step H4.out.1) H4.out.2 (by omega) (fun r hr => by have := HC.out.2.2 r hr; omega)).mono ?_
  rintro e w5 ⟨rfl, hb5⟩
  have k5 := below_step H4.out.1 hb5
  have k25 := below_step H3.out.1 k5
  have R := Lib.hid (And.intro (HR.out.2.1.step k25) (And.intro (HR.out.2.2.step k25) (And.intro (H3.out.2.step k5) (below_step HR.out.1 k25))))
  have R4 := Lib.hid (H4.out.2.step hb5)
  clear hb5 k5 k25
  cases o
  · clear eb ec
    go_wp2_with fail
    refine (sameCounts_any _ _ _ _ M M _ R.out.2.2.1 R4.out (by omega) (fun r hr => by have := HC.out.2.2 r hr; omega)).mono ?_
    rintro e w6 ⟨rfl, hb6⟩
    go_wp2_with fail
    go_ret
    exact ⟨rfl, below_step R.out.2.2.2 hb6⟩
  · clear eb ec
    have hok : tabOk ids L = true := HC.out.2.1.symm
    have hMe : M = tableF ids L := by rw [HC.out.1, tabG_ok hok]
    have hMn : M.length = ids.length := by rw [hMe, tableF_len]
    have hat : ∀ (i : Nat) (x : Int), ids[i]? = some x → M[i]? = some (rowF L x) := fun i x hx => by rw [hMe]; exact tableF_at hx
    have hst : ∀ (i t : Nat) (x : Int), ids[i]? = some x → upTo ids L i (t + 1) = upTo ids L i t + numF L x ((t : Int) + 1) := fun i t x hx => upTo_step hok hx
    have hro : ∀ i : Nat, upTo ids L i 5 = upTo ids L (i + 1) 0 := upTo_row hok
    have hz : upTo ids L 0 0 = 0 := upTo_zero hok
    have hal : upTo ids L ids.length 0 = L.length := upTo_all hok
    have hle : ∀ i t : Nat, upTo ids L i t ≤ L.length := fun i t => List.countP_le_length
    have HF := Lib.hid (And.intro hat (And.intro hst (And.intro hro (And.intro hz (And.intro hal hle)))))
    have HN0 := Lib.hid hMn
    clear hok hMe hMn hat hst hro hz hal hle
    go_wp2_with fail
    go_loopw [9, 10] (fun n i wr => ∃ k : Nat, k ≤ ids.length ∧ i = .int .i64 k ∧ n = .int .i64 (upTo ids L k 0) ∧ Below w5.heap.size w5 wr) (fun _ i _ => ids.length - (intOf i).toNat)
    case atStart => exact ⟨0, Nat.zero_le _, rfl, by rw [HF.out.2.2.2.1]; rfl, Below.refl _ _⟩
    case round =>
      obtain ⟨i, hi, rfl, rfl, hbl⟩ := hrel
      have hMn := HN0.out
      by_cases hlt : i < ids.length
      · have hii : (i : Int) < (ids.length : Int) := by omega
        have him : (i : Int) < (M.length : Int) := by omega
        obtain ⟨x, hx⟩ : ∃ x, ids[i]? = some x := ⟨_, List.getElem?_eq_getElem hlt⟩
        have HX := Lib.hid (And.intro hbl (And.intro hx (HF.out.1 i x hx)))
        have HS := Lib.hid (fun t => HF.out.2.1 i t x hx)
        clear hbl hx
        obtain ⟨n0, hn0⟩ : ∃ n0, n0 = upTo ids L i 0 := ⟨_, rfl⟩
        rw [← hn0]
        have HN1 := Lib.hid hn0
        clear hn0 hMn
        go_wp2_with fail
        go_loopw [9, 11] (fun n i9 wq => ∃ t : Nat, t ≤ 5 ∧ i9 = .int .i64 t ∧ n = .int .i64 (upTo ids L i t) ∧ Below w5.heap.size w5 wq) (fun _ i9 _ => 5 - (intOf i9).toNat)
        case atStart => exact ⟨0, Nat.zero_le _, rfl, by rw [HN1.out], HX.out.1⟩
        case round =>
          obtain ⟨t, ht, rfl, rfl, hbq⟩ := hrel
          obtain ⟨bo, oo, Ar, cr, hA, hbo, g1, hcr, hrr⟩ := (R.out.2.2.1.step hbq).row HX.out.2.2
          subst hA
          rw [rowF_len] at g1 hrr hcr
          have hu := HF.out.2.2.2.2.2 i t
          by_cases ht5 : t < 5
          · have hti : (t : Int) < 5 := by omega
            have hs := HS.out t
            obtain ⟨br, orr, hAr, hbr, hcc⟩ := Reads.ints (l := rowF L x) hrr (by omega)
            subst hAr
            have g2 := hcc t _ (rowF_at ht5)
            obtain ⟨u, hue⟩ : ∃ u, u = upTo ids L i t := ⟨_, rfl⟩
            rw [← hue] at hu hs
            rw [← hue]
            obtain ⟨q, hq⟩ : ∃ q, q = numF L x ((t : Int) + 1) := ⟨_, rfl⟩
            have hql : q ≤ L.length := by rw [hq]; exact List.countP_le_length
            have G := Lib.hid (And.intro hq hue)
            have HS2 := Lib.hid (And.intro hbq hs)
            clear hrr hcr hcc hbq hs hue hq
            go_wp2_with fail
            clear g1 g2
            go_loopw [12, 13] (fun m i9 wq => ∃ j : Nat, j ≤ L.length ∧ i9 = .int .i64 j ∧ m = .int .i64 (numF (L.take j) x ((t : Int) + 1)) ∧ Below w5.heap.size w5 wq) (fun _ i9 _ => L.length - (intOf i9).toNat)
            case atStart => exact ⟨0, Nat.zero_le _, rfl, by simp [numF], HS2.out.1⟩
            case round =>
              obtain ⟨j, hj, rfl, rfl, hbq⟩ := hrel
              by_cases hjl : j < L.length
              · have hji : (j : Int) < (L.length : Int) := by omega
                obtain ⟨f, hf⟩ : ∃ f, L[j]? = some f := ⟨_, List.getElem?_eq_getElem hjl⟩
                have hnx := numF_next hf x ((t : Int) + 1)
                obtain ⟨m0, hm0⟩ : ∃ m0, m0 = numF (L.take j) x ((t : Int) + 1) := ⟨_, rfl⟩
                have hm1 : m0 ≤ L.length := by rw [hm0]; exact Nat.le_trans List.countP_le_length (by simp; omega)
                obtain ⟨bb, ob, hA, hbb, hc⟩ := (R.out.2.1.step hbq).ctx (by omega)
                subst hA
                obtain ⟨f1, f2, f3⟩ := hc j f hf
                obtain ⟨bi, oi, hA, hbi, hci⟩ := (R.out.1.step hbq).ints (by omega)
                subst hA
                have g1 := hci i x HX.out.2.1
                clear hci
                have hx1 := ext_cell (w := wr) (B := wr.heap.size) hbb
                have hx2 := ext_cell (w := wr) (B := wr.heap.size) hbi
                rw [← hm0] at hnx
                rw [← hm0]
                by_cases h1 : f.id = x
                · have e1 : (f.id == x) = true := by simp [h1]
                  by_cases h2 : f.kind = (t : Int) + 1
                  · have e2 : (f.kind == (t : Int) + 1) = true := by simp [h2]
                    rw [if_pos ⟨h1, h2⟩] at hnx
                    have HN := Lib.hid (And.intro hnx hbq)
                    clear hnx hm0 hf hc hbq h1 h2
                    go_wp2_with fail
                    refine wp_region_ext wr.heap.size (by kernel_rfl) (by kernel_rfl) ?_
                    repeat (go_big_quiet_step (fail))
                    refine wpQuiet_nil ?_
                    rintro _ ⟨x9, rfl⟩
                    have H9 := Lib.hid (below_step HN.out.2 x9.below)
                    clear hx1 hx2 f1 f2 f3 g1
                    go_wp2_with fail
                    go_roundw
                    case rel => exact ⟨j + 1, by omega, by go_num, by rw [HN.out.1]; go_num, H9.out⟩
                    case measure => simp [intOf]; omega
                  · have e2 : (f.kind == (t : Int) + 1) = false := by simp [h2]
                    rw [if_neg (fun e => h2 e.2)] at hnx
                    have HN := Lib.hid (And.intro hnx hbq)
                    clear hnx hm0 hf hc hbq h1 h2
                    go_wp2_with fail
                    refine wp_region_ext wr.heap.size (by kernel_rfl) (by kernel_rfl) ?_
                    repeat (go_big_quiet_step (fail))
                    refine wpQuiet_nil ?_
                    rintro _ ⟨x9, rfl⟩
                    have H9 := Lib.hid (below_step HN.out.2 x9.below)
                    clear hx1 hx2 f1 f2 f3 g1
                    go_wp2_with fail
                    go_roundw
                    case rel => exact ⟨j + 1, by omega, by go_num, by rw [HN.out.1]; go_num, H9.out⟩
                    case measure => simp [intOf]; omega
                · have e1 : (f.id == x) = false := by simp [h1]
                  rw [if_neg (fun e => h1 e.1)] at hnx
                  have HN := Lib.hid (And.intro hnx hbq)
                  clear hnx hm0 hf hc hbq h1
                  go_wp2_with fail
                  refine wp_region_ext wr.heap.size (by kernel_rfl) (by kernel_rfl) ?_
                  repeat (go_big_quiet_step (fail))
                  refine wpQuiet_nil ?_
                  rintro _ ⟨x9, rfl⟩
                  have H9 := Lib.hid (below_step HN.out.2 x9.below)
                  clear hx1 hx2 f1 f2 f3 g1
                  go_wp2_with fail
                  go_roundw
                  case rel => exact ⟨j + 1, by omega, by go_num, by rw [HN.out.1]; go_num, H9.out⟩
                  case measure => simp [intOf]; omega
              · have hjm : L.take j = L := List.take_of_length_le (by omega)
                rw [hjm, ← G.out.1]
                obtain ⟨bo, oo, Ar, cr, hA, hbo, g1, hcr, hrr⟩ := (R.out.2.2.1.step hbq).row HX.out.2.2
                injection hA with hA
                injection hA with hA1 hA2 _
                subst hA1 hA2
                rw [rowF_len] at g1 hrr
                obtain ⟨br, orr, hAr, hbr, hcc⟩ := Reads.ints (l := rowF L x) hrr (by omega)
                subst hAr
                have g2 := hcc t _ (rowF_at ht5)
                rw [← G.out.1] at g2
                have eu : ((q : Int) != (q : Int)) = false := by simp
                have HB := Lib.hid hbq
                clear hjm hbq hcc hrr hcr
                go_wp2_with fail
                go_roundw
                case rel => exact ⟨t + 1, by omega, by go_num, by rw [HS2.out.2, ← G.out.1]; go_num, HB.out⟩
                case measure => simp [intOf]; omega
          · have ht6 : t = 5 := by omega
            subst ht6
            have HB := Lib.hid hbq
            rw [HF.out.2.2.1 i]
            clear hbq hrr hcr hu
            go_wp2_with fail
            go_roundw
            case rel => exact ⟨i + 1, by omega, by go_num, rfl, HB.out⟩
            case measure => simp [intOf]; omega
      · have hie : i = ids.length := by omega
        subst hie
        rw [HF.out.2.2.2.2.1]
        have HB := Lib.hid hbl
        clear hbl
        have e1 : decide ((ids.length : Int) < (M.length : Int)) = false := decide_eq_false (by omega)
        have e2 : ((M.length : Int) == (ids.length : Int)) = true := by simp [hMn]
        go_wp2_with fail
        go_ret
        exact ⟨ret_bool (by first | rfl | simp), below_step R.out.2.2.2 HB.out⟩

theorem walk (A : Option Addr) (c : Nat) (z : List Int) (w : World) (h1 : z.length ≤ c) (h2 : Reads w w.heap.size 1 A z.length (cellsB z)) (h3 : ∀ b ∈ z, 0 ≤ b ∧ b ≤ 255) (h4 : c ≤ maxLen) :
    Calls Try.prog 5 #[.slice A z.length c] w fun e w2 => e = .returned (.bool true) ∧ Below w.heap.size w w2 := by
  by_cases hn : z.length ≤ 1048576
  · exact walk_short A c z w (Bytes.mk_ h1 h2 h3 h4) hn
  · have e0 : decide ((1048576 : Int) < (z.length : Int)) = true := decide_eq_true (by omega)
    go_enter Try.func5, Try.ntmps5
    go_wp2_with fail
    go_ret
    exact ⟨rfl, Below.refl _ _⟩

set_option linter.unusedVariables false
set_option maxRecDepth 100000 in
theorem lifted (os : Os) (started : os.Started) (H : Type) (enc : TypeId × Value → H) :
    ReturnsInHanded {} Try.checked os 5 .any (Rows.fnFindsTableSpec.pre6 enc Try.prog Try.f5 Rows.fnFindsTableRow.domain false) (Rows.fnFindsTableSpec.post enc Try.prog Try.f5 false true false false) := by
  refine returnsInHanded_of_change (C := Try.checked) lawOwn started (by kernel_rfl) Try.func5
    (ChangeSpec.witness6 (enc := enc) (C := Try.checked) false ⟨#[], #[.slice none 0 0], []⟩ 8 (by kernel_rfl) (by kernel_rfl) (by kernel_rfl) (by kernel_rfl)) ?_
  intro W base args ds gs before hval0 hW hcnd _
  have hval : ∀ (j : Nat) t v, Try.f5.params[j]? = some t → args[j]? = some v → Value.okWide Try.prog W .any base t v := hval0
  have hW' := hW
  obtain ⟨p, q, hA0, hV, rfl, hfz, hnd⟩ := hW
  have hA : DataW.TrodAll enc Try.prog W 0 (fun _ => true) true Try.f5.params.toList args.toList ds p := hA0
  rw [Try.params5] at hA hval
  obtain ⟨v0, vs0, d0, ds0, p0, q0, hargs, rfl, rfl, h0, r0⟩ := trodAll_cons hA
  obtain ⟨rfl, rfl, rfl⟩ := trodAll_nil r0
  obtain rfl : args = #[v0] := by cases args; simp_all
  obtain ⟨rfl, rfl⟩ := trodVars_none hV
  have k0 := h0
  have lt0 : ∀ x ∈ p0, x.block < W.heap.size := by obtain ⟨m, hm⟩ := k0; exact DataW.trod_lt m _ _ _ hm
  obtain ⟨a0, len0, cap0, rfl⟩ := okWide_slice Try.underlying22 (hval 0 22 v0 rfl rfl)
  obtain ⟨z0, hl0, hc0, hr0, hb0, hm0⟩ : ∃ z : List Int, len0 = z.length ∧ len0 ≤ cap0 ∧ Reads W W.heap.size 1 a0 len0 (cellsB z) ∧ (∀ b ∈ z, 0 ≤ b ∧ b ≤ 255) ∧ cap0 ≤ maxLen := by
    obtain ⟨fuel, hf⟩ := h0
    exact open_bytes Try.underlying22 Try.underlying5 (by kernel_rfl) (by simpa [Value.cells] using hf)
  subst hl0
  clear hA0 hval0
  refine (walk a0 cap0 z0 W hc0 hr0 hb0 hm0).mono fun e W' ⟨he, bel⟩ => ?_
  subst he
  exact ⟨_, rfl, _, _, _, [], _, [], hW', trodAll_mk1 (shut_bool Try.underlying4 _), (trodAll_cons_mk (Below.trod lawLaid (by kernel_rfl) (of_decide_eq_true (by kernel_rfl)) k0 bel lt0) trodAll_mk0), rfl, bel.frame _, fun h => by cases h⟩

theorem closed : joinedFacts Try.checked.prog 5 Try.f5 Rows.fnFindsTableSpec Rows.fnFindsTableRow = true := by
  unfold joinedFacts
  repeat (refine and_t ?_ (by first | (with_reducible exact ent) | (with_reducible refine lif_c ?_; kernel_rfl) | (with_reducible refine mak_c ?_; kernel_rfl) | kernel_rfl))
  kernel_rfl
theorem proved : Rows.FnFindsTableSaid :=
  OpenClaim.holds_of_wide 5 Try.f5 rfl rfl rfl rfl rfl rfl rfl ⟨rfl, rfl, rfl, rfl, rfl⟩ rfl rfl rfl rfl rfl (by kernel_rfl) Try.func5 closed
    (of_decide_eq_true (by kernel_rfl)) (by unfold Func.isWrapper; rw [if_neg (of_decide_eq_false (by kernel_rfl))]; exact ⟨rfl, rfl⟩)
    (fun os started H enc _ => lifted os started H enc)
#print axioms proved
end Go.Proofs.Ytopdmcnbchpihaa.lawFindsTable
