/-
  Whatever bytes are given: of contexts and relations drawn from them, the order is valid exactly if the model says so, and exactly if no context lies above itself; then no two contexts lie above each other. No condition.
-/
import Derived.Test.YtmcnjmflmpfjlaaEnt
import Derived.Test.YtmcnjmflmpfjlaaLif
import Derived.Test.YtmcnjmflmpfjlaaMak
import Derived.Test.YtmcnjmflmpfjlaaLw
import Derived.Test.YtmcnjmflmpfjlaaUu
import Derived.Deep.RegionHeld3
namespace Go.Proofs.Ytmcnjmflmpfjlaa.lawOrderValid
open Go.ChangeShapes Go.WideShapes Go.ChangeAt Go.RowKit

/-- The contexts of the first k places do not lie above themselves. -/
def fineG (ids : List Int) (l : List Ctx) (k : Nat) : Bool := okG ids l && (ids.take k).all fun a => !upG ids l a a
theorem fineG_zero (ids : List Int) (l : List Ctx) : fineG ids l 0 = okG ids l := by simp [fineG]
theorem fineG_all (ids : List Int) (l : List Ctx) : fineG ids l ids.length = ordOkG ids l := by simp [fineG, ordOkG]
theorem fineG_next {ids : List Int} {l : List Ctx} {k : Nat} {a : Int} (ha : ids[k]? = some a) : fineG ids l (k + 1) = (fineG ids l k && !upG ids l a a) := by
  unfold fineG
  rw [List.take_add_one, ha]
  simp [Bool.and_assoc]
theorem fineG_in {ids : List Int} {l : List Ctx} {k : Nat} (h : fineG ids l k = true) : okG ids l = true := by
  unfold fineG at h
  rw [Bool.and_eq_true] at h
  exact h.1
theorem fine_false {ids : List Int} {l : List Ctx} {ok t : Bool} (_ : ok = okG ids l) (ht : t = ordOkG ids l) (h : ∃ k, k ≤ ids.length ∧ fineG ids l k = false) : t = false := by
  rw [ht]
  cases ho : ordOkG ids l
  · rfl
  · exfalso
    obtain ⟨k, _, hk⟩ := h
    unfold ordOkG at ho
    rw [Bool.and_eq_true] at ho
    unfold fineG at hk
    rw [ho.1, Bool.true_and, List.all_eq_false] at hk
    obtain ⟨a, ha, hb⟩ := hk
    exact hb (List.all_eq_true.1 ho.2 a (List.mem_of_mem_take ha))
theorem no_circle {ids : List Int} {l : List Ctx} {a b : Int} {y : Bool} (ho : ordOkG ids l = true) (ha : a ∈ ids) (h1 : aboveG ids l a b = true) (h2 : aboveG ids l b a = y) : y = false := by
  cases y
  · rfl
  · exfalso
    unfold ordOkG at ho
    simp only [aboveG, Bool.and_eq_true, decide_eq_true_eq] at ho h1 h2
    have h3 := List.all_eq_true.1 ho.2 a ha
    rw [upG_trans ho.1 h1.2.2.2 h2.2.2.2] at h3
    cases h3
set_option maxHeartbeats 4000000 in
set_option maxRecDepth 100000 in
theorem walk_short (A : Option Addr) (c : Nat) (z : List Int) (w : World) (h : Bytes w A c z) (hn : z.length ≤ 1048576) :
    Calls Try.prog 17 #[.slice A z.length c] w fun e w2 => e = .returned (.bool true) ∧ Below w.heap.size w w2 := by
  have e0 : decide ((1048576 : Int) < (z.length : Int)) = false := decide_eq_false (by omega)
  go_enter Try.func17, Try.ntmps17
  go_wp2_with fail
  refine (dOrdV_any A c z _ h).mono ?_
  rintro e w2 ⟨v1, v2, ids, l, rfl, ho1, ho2, hl1, hl2, hb2⟩
  obtain ⟨A1, c1, hv1, hcap1, hr1⟩ := own_slice ho1
  obtain ⟨A2, c2, hv2, hcap2, hr2⟩ := own_slice ho2
  subst hv1 hv2
  obtain ⟨t, ht⟩ : ∃ t, t = ordOkG ids l := ⟨_, rfl⟩
  have et : (t != t) = false := by simp
  have HT := Lib.hid ht
  have HR := Lib.hid (And.intro hb2 (And.intro hr1 hr2))
  clear ho1 ho2 hb2 h hr1 hr2 ht
  go_wp2_with fail
  refine (iOrdValid_any _ _ _ _ ids l _ HR.out.2.1 HR.out.2.2 (by omega) (by omega)).mono ?_
  rintro e w3 ⟨rfl, hb3⟩
  rw [← HT.out]
  have H3 := Lib.hid hb3
  clear hb3
  go_wp2_with fail
  refine (sOrdValid_any _ _ _ _ ids l _ (HR.out.2.1.step H3.out) (HR.out.2.2.step H3.out) (by omega) (by omega)).mono ?_
  rintro e w4 ⟨rfl, hb4⟩
  rw [← HT.out]
  have H4 := Lib.hid hb4
  clear hb4
  go_wp2_with fail
  refine (iGroups_any _ _ _ _ ids l _ (HR.out.2.1.step (below_step H3.out H4.out)) (HR.out.2.2.step (below_step H3.out H4.out)) (by omega) (by omega)).mono ?_
  rintro e w5 ⟨v5, rfl, hb5, ho5⟩
  obtain ⟨A5, c5, hv5, hcap5, _⟩ := own_slice ho5
  subst hv5
  have k5 := below_step (below_step H3.out H4.out) hb5
  have R := Lib.hid (And.intro (HR.out.2.1.step k5) (And.intro (HR.out.2.2.step k5) (below_step HR.out.1 k5)))
  obtain ⟨ok, hok⟩ : ∃ ok, ok = okG ids l := ⟨_, rfl⟩
  rw [← hok]
  have hf0 : ok = fineG ids l 0 := by rw [fineG_zero]; exact hok
  have HK := Lib.hid (And.intro hok hf0)
  clear hb5 ho5 k5 hok hf0
  go_wp2_with fail
  go_loopw [9, 10] (fun v i wr => ∃ k : Nat, k ≤ ids.length ∧ i = .int .i64 k ∧ v = .bool (fineG ids l k) ∧ Below w5.heap.size w5 wr) (fun _ i _ => ids.length - (intOf i).toNat)
  case atStart => exact ⟨0, Nat.zero_le _, rfl, by rw [← HK.out.2], Below.refl _ _⟩
  case round =>
    obtain ⟨i, hi, rfl, rfl, hbl⟩ := hrel
    by_cases hii : i < ids.length
    · have hiii : (i : Int) < (ids.length : Int) := by omega
      obtain ⟨a, ha⟩ : ∃ a, ids[i]? = some a := ⟨_, List.getElem?_eq_getElem hii⟩
      obtain ⟨b1, o1, hA1, hbb1, hc1⟩ := (R.out.1.step hbl).ints (by omega)
      subst hA1
      have g1 := hc1 i _ ha
      have hx1 := ext_cell (w := wr) (B := wr.heap.size) hbb1
      have hnx := fineG_next ha (l := l)
      have hin := fun h => fineG_in (ids := ids) (l := l) (k := i) h
      obtain ⟨f, hf⟩ : ∃ f, f = fineG ids l i := ⟨_, rfl⟩
      rw [← hf] at hnx hin
      rw [← hf]
      have HB := Lib.hid (And.intro hbl (And.intro ha hc1))
      clear hbl ha hc1 hf
      cases f
      · have HN : Hid (fineG ids l (i + 1) = false) := by show _ = _; rw [hnx]; rfl
        have e7 : t = false := fine_false HK.out.1 HT.out (by rw [← HN.out]; exact ⟨i + 1, by omega, rfl⟩)
        clear hnx hin
        go_wp2_with fail
        refine wp_region_ext wr.heap.size (by kernel_rfl) (by kernel_rfl) ?_
        repeat (go_big_quiet_step (fail))
        refine wpQuiet_nil ?_
        rintro _ ⟨x9, rfl⟩
        have H9 := Lib.hid (below_step HB.out.1 x9.below)
        clear hx1 g1
        subst e7
        go_wp2_with fail
        go_loop [11] (fun i => i = .int .i64 0) (fun _ => 0)
        case atStart => rfl
        case round =>
          obtain rfl := hrel
          by_cases hp : 0 < ids.length
          · go_wp2_with fail
            go_roundw
            case rel => exact ⟨i + 1, by omega, by go_num, by rw [HN.out], H9.out⟩
            case measure => simp [intOf]; omega
          · omega
      · have hoi := hin rfl
        obtain ⟨u, hu⟩ : ∃ u, u = upG ids l a a := ⟨_, rfl⟩
        have hab : aboveG ids l a a = u := by rw [hu]; simp [aboveG, hoi, List.mem_of_getElem? HB.out.2.1]
        rw [← hu, Bool.true_and] at hnx
        have HN := Lib.hid (And.intro hnx (And.intro hab hoi))
        have HL := Lib.hid (And.intro (R.out.1.step HB.out.1) (R.out.2.1.step HB.out.1))
        clear hnx hin hoi hu hab
        cases u
        · go_wp2_with fail
          refine wp_region_ext wr.heap.size (by kernel_rfl) (by kernel_rfl) ?_
          repeat (go_big_quiet_step ((go_at_call 26; exact above_to _ _ _ _ ids l _ _ false _ HL.out.1 HL.out.2 (by omega) (by omega) HN.out.2.1)))
          refine wpQuiet_nil ?_
          rintro _ ⟨x9, rfl⟩
          have H9 := Lib.hid (below_step HB.out.1 x9.below)
          clear hx1 g1
          cases t
          · go_wp2_with fail
            go_loop [11] (fun i => i = .int .i64 0) (fun _ => 0)
            case atStart => rfl
            case round =>
              obtain rfl := hrel
              go_wp2_with fail
              go_roundw
              case rel => exact ⟨i + 1, by omega, by go_num, by rw [HN.out.1]; rfl, H9.out⟩
              case measure => simp [intOf]; omega
          · go_wp2_with fail
            go_loopw [11] (fun i wr => ∃ k : Nat, k ≤ ids.length ∧ i = .int .i64 k ∧ Below w5.heap.size w5 wr) (fun i _ => ids.length - (intOf i).toNat)
            case atStart => exact ⟨0, Nat.zero_le _, rfl, H9.out⟩
            case round =>
              obtain ⟨j, hj, rfl, hbl⟩ := hrel
              by_cases hjj : j < ids.length
              · have hjji : (j : Int) < (ids.length : Int) := by omega
                obtain ⟨b, hb⟩ : ∃ b, ids[j]? = some b := ⟨_, List.getElem?_eq_getElem hjj⟩
                obtain ⟨b2, o2, hA1, hbb2, hc2⟩ := (R.out.1.step hbl).ints (by omega)
                injection hA1 with hA1
                injection hA1 with q1 q2 q3
                subst q1 q2
                clear q3
                have g1 := hc2 i _ HB.out.2.1
                have g2 := hc2 j _ hb
                have hx1 := ext_cell (w := wr) (B := wr.heap.size) hbb2
                obtain ⟨x, hx⟩ : ∃ x, x = aboveG ids l a b := ⟨_, rfl⟩
                obtain ⟨y, hy⟩ : ∃ y, y = aboveG ids l b a := ⟨_, rfl⟩
                have hxy : x = true → y = false := fun e => no_circle HT.out.symm (List.mem_of_getElem? HB.out.2.1) (hx.symm.trans e) hy.symm
                have hbo : ∀ p q s, (p = a ∧ q = b ∧ s = x) ∨ (p = b ∧ q = a ∧ s = y) → aboveG ids l p q = s := by
                  rintro p q s (⟨rfl, rfl, rfl⟩ | ⟨rfl, rfl, rfl⟩)
                  · exact hx.symm
                  · exact hy.symm
                have HX := Lib.hid (And.intro (R.out.1.step hbl) (And.intro (R.out.2.1.step hbl) hbl))
                clear hb hc2 hx hy hbl
                cases x
                · have HBO := Lib.hid hbo
                  clear hbo hxy
                  go_wp2_with fail
                  refine wp_region_ext wr.heap.size (by kernel_rfl) (by kernel_rfl) ?_
                  repeat (go_big_quiet_step ((go_at_call 26; exact above_to _ _ _ _ ids l _ _ false _ HX.out.1 HX.out.2.1 (by omega) (by omega) (HBO.out _ _ _ (.inl ⟨rfl, rfl, rfl⟩)))))
                  refine wpQuiet_nil ?_
                  rintro _ ⟨x9, rfl⟩
                  have hb9 := below_step HX.out.2.2 x9.below
                  clear hx1 g1 g2
                  go_wp2_with fail
                  go_roundw
                  case rel => exact ⟨j + 1, by omega, by go_num, hb9⟩
                  case measure => simp [intOf]; omega
                · have e9 := hxy rfl
                  subst e9
                  have HBO := Lib.hid hbo
                  clear hbo hxy
                  go_wp2_with fail
                  refine wp_region_ext wr.heap.size (by kernel_rfl) (by kernel_rfl) ?_
                  repeat (go_big_quiet_step ((go_at_call 26; exact above_to _ _ _ _ ids l _ _ _ _ HX.out.1 HX.out.2.1 (by omega) (by omega) (HBO.out _ _ _ (by first | exact .inl ⟨rfl, rfl, rfl⟩ | exact .inr ⟨rfl, rfl, rfl⟩)))))
                  refine wpQuiet_nil ?_
                  rintro _ ⟨x9, rfl⟩
                  have hb9 := below_step HX.out.2.2 x9.below
                  clear hx1 g1 g2
                  go_wp2_with fail
                  go_roundw
                  case rel => exact ⟨j + 1, by omega, by go_num, hb9⟩
                  case measure => simp [intOf]; omega
              · have HM := Lib.hid hbl
                clear hbl
                go_wp2_with fail
                go_roundw
                case rel => exact ⟨i + 1, by omega, by go_num, by rw [HN.out.1]; rfl, HM.out⟩
                case measure => simp [intOf]; omega
        · go_wp2_with fail
          refine wp_region_ext wr.heap.size (by kernel_rfl) (by kernel_rfl) ?_
          repeat (go_big_quiet_step ((go_at_call 26; exact above_to _ _ _ _ ids l _ _ true _ HL.out.1 HL.out.2 (by omega) (by omega) HN.out.2.1)))
          refine wpQuiet_nil ?_
          rintro _ ⟨x9, rfl⟩
          have H9 := Lib.hid (below_step HB.out.1 x9.below)
          clear hx1 g1
          have e7 : t = false := fine_false HK.out.1 HT.out ⟨i + 1, by omega, HN.out.1⟩
          subst e7
          go_wp2_with fail
          go_loop [11] (fun i => i = .int .i64 0) (fun _ => 0)
          case atStart => rfl
          case round =>
            obtain rfl := hrel
            go_wp2_with fail
            go_roundw
            case rel => exact ⟨i + 1, by omega, by go_num, by rw [HN.out.1]; rfl, H9.out⟩
            case measure => simp [intOf]; omega
    · have hin : i = ids.length := by omega
      have HM := Lib.hid hbl
      have hlast : fineG ids l ids.length = t := by rw [fineG_all, HT.out]
      rw [hin, hlast]
      have e8 : (t == t) = true := by simp
      clear hbl hlast hin
      go_wp2_with fail
      go_ret
      exact ⟨rfl, below_step R.out.2.2 HM.out⟩

theorem walk (A : Option Addr) (c : Nat) (z : List Int) (w : World) (h1 : z.length ≤ c) (h2 : Reads w w.heap.size 1 A z.length (cellsB z)) (h3 : ∀ b ∈ z, 0 ≤ b ∧ b ≤ 255) (h4 : c ≤ maxLen) :
    Calls Try.prog 17 #[.slice A z.length c] w fun e w2 => e = .returned (.bool true) ∧ Below w.heap.size w w2 := by
  by_cases hn : z.length ≤ 1048576
  · exact walk_short A c z w (Bytes.mk_ h1 h2 h3 h4) hn
  · have e0 : decide ((1048576 : Int) < (z.length : Int)) = true := decide_eq_true (by omega)
    go_enter Try.func17, Try.ntmps17
    go_wp2_with fail
    go_ret
    exact ⟨rfl, Below.refl _ _⟩

set_option linter.unusedVariables false
set_option maxRecDepth 100000 in
theorem lifted (os : Os) (started : os.Started) (H : Type) (enc : TypeId × Value → H) :
    ReturnsInHanded {} Try.checked os 17 .any (Rows.fnOrderValidSpec.pre6 enc Try.prog Try.f17 Rows.fnOrderValidRow.domain false) (Rows.fnOrderValidSpec.post enc Try.prog Try.f17 false true false false) := by
  refine returnsInHanded_of_change (C := Try.checked) lawOwn started (by kernel_rfl) Try.func17
    (ChangeSpec.witness6 (enc := enc) (C := Try.checked) false ⟨#[], #[.slice none 0 0], []⟩ 8 (by kernel_rfl) (by kernel_rfl) (by kernel_rfl) (by kernel_rfl)) ?_
  intro W base args ds gs before hval0 hW hcnd _
  have hval : ∀ (j : Nat) t v, Try.f17.params[j]? = some t → args[j]? = some v → Value.okWide Try.prog W .any base t v := hval0
  have hW' := hW
  obtain ⟨p, q, hA0, hV, rfl, hfz, hnd⟩ := hW
  have hA : DataW.TrodAll enc Try.prog W 0 (fun _ => true) true Try.f17.params.toList args.toList ds p := hA0
  rw [Try.params17] at hA hval
  obtain ⟨v0, vs0, d0, ds0, p0, q0, hargs, rfl, rfl, h0, r0⟩ := trodAll_cons hA
  obtain ⟨rfl, rfl, rfl⟩ := trodAll_nil r0
  obtain rfl : args = #[v0] := by cases args; simp_all
  obtain ⟨rfl, rfl⟩ := trodVars_none hV
  have k0 := h0
  have lt0 : ∀ x ∈ p0, x.block < W.heap.size := by obtain ⟨m, hm⟩ := k0; exact DataW.trod_lt m _ _ _ hm
  obtain ⟨a0, len0, cap0, rfl⟩ := okWide_slice Try.underlying22 (hval 0 22 v0 rfl rfl)
  obtain ⟨z0, hl0, hc0, hr0, hb0, hm0⟩ : ∃ z : List Int, len0 = z.length ∧ len0 ≤ cap0 ∧ Reads W W.heap.size 1 a0 len0 (cellsB z) ∧ (∀ b ∈ z, 0 ≤ b ∧ b ≤ 255) ∧ cap0 ≤ maxLen := by
    obtain ⟨fuel, hf⟩ := h0
    exact open_bytes Try.underlying22 Try.underlying5 (by kernel_rfl) (by simpa [Value.cells] using hf)
  subst hl0
  clear hA0 hval0
  refine (walk a0 cap0 z0 W hc0 hr0 hb0 hm0).mono fun e W' ⟨he, bel⟩ => ?_
  subst he
  exact ⟨_, rfl, _, _, _, [], _, [], hW', trodAll_mk1 (shut_bool Try.underlying4 _), (trodAll_cons_mk (Below.trod lawLaid (by kernel_rfl) (of_decide_eq_true (by kernel_rfl)) k0 bel lt0) trodAll_mk0), rfl, bel.frame _, fun h => by cases h⟩

theorem closed : joinedFacts Try.checked.prog 17 Try.f17 Rows.fnOrderValidSpec Rows.fnOrderValidRow = true := by
  unfold joinedFacts
  repeat (refine and_t ?_ (by first | (with_reducible exact ent) | (with_reducible refine lif_c ?_; kernel_rfl) | (with_reducible refine mak_c ?_; kernel_rfl) | kernel_rfl))
  kernel_rfl
theorem proved : Rows.FnOrderValidSaid :=
  OpenClaim.holds_of_wide 17 Try.f17 rfl rfl rfl rfl rfl rfl rfl ⟨rfl, rfl, rfl, rfl, rfl⟩ rfl rfl rfl rfl rfl (by kernel_rfl) Try.func17 closed
    (of_decide_eq_true (by kernel_rfl)) (by unfold Func.isWrapper; rw [if_neg (of_decide_eq_false (by kernel_rfl))]; exact ⟨rfl, rfl⟩)
    (fun os started H enc _ => lifted os started H enc)
#print axioms proved
end Go.Proofs.Ytmcnjmflmpfjlaa.lawOrderValid
