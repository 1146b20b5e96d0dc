/-
  Whatever bytes are given: rows drawn from them, taken in an order drawn from them, are rows of theirs, and taken back in its inverse they are the rows that were drawn. No condition.
-/
import Derived.Test.YtapmeooffmonmaaOpen
import Derived.Test.YtapmeooffmonmaaSe7
import Derived.Test.YtapmeooffmonmaaSe9
import Derived.Test.YtapmeooffmonmaaInts
import Derived.Test.YtapmeooffmonmaaIsc
import Derived.Test.YtapmeooffmonmaaIse
namespace Go.Proofs.Ytapmeooffmonmaa.lawRowsTake
open Go.ChangeShapes Go.WideShapes Go.ChangeAt Go.RowKit

set_option maxHeartbeats 8000000 in
set_option maxRecDepth 100000 in
theorem walk_short (A : Option Addr) (c : Nat) (z : List Int) (w : World) (h : Bytes w A c z) (hn : z.length ≤ 1048576) :
    Calls Try.prog 7 #[.slice A z.length c] w fun e w2 => e = .returned (.bool true) ∧ Below w.heap.size w w2 := by
  have e0 : decide ((1048576 : Int) < (z.length : Int)) = false := decide_eq_false (by omega)
  go_enter Try.func7, Try.ntmps7
  go_wp2_with fail
  refine (dRowsT_any A c z _ h).mono ?_
  rintro e w2 ⟨v1, T, v2, o, rfl, ⟨⟨A1, c1, hv1, _, hn1⟩, hT, h5, hb2⟩, ho2, hol⟩
  obtain ⟨A2, c2, hv2, _, hr2⟩ := own_slice ho2
  subst hv1 hv2
  have hr : ∀ r ∈ T, r.length ≤ 2000000 := fun r h => by have := h5 r h; omega
  have HR := Lib.hid (And.intro hb2 (And.intro hn1 (And.intro hr2 hr)))
  clear hb2 hn1 h hr h5 ho2 hr2
  obtain ⟨X, hX0⟩ : ∃ X, X = takeG T o := ⟨_, rfl⟩
  obtain ⟨ok, hok⟩ : ∃ ok, ok = takeOk T o := ⟨_, rfl⟩
  obtain ⟨hX5, hXr⟩ : X.length ≤ 5 ∧ ∀ r ∈ X, r.length = 5 := by rw [hX0]; exact takeG_small T o
  have HX := Lib.hid (And.intro hX0 (And.intro hok hXr))
  clear hX0 hok hXr
  have eb : (ok != ok) = false := by simp
  have ec : (ok == ok) = true := by simp
  have hI := iRowsTake_any A1 A2 c1 c2 T o w2 HR.out.2.1 HR.out.2.2.1 (by omega) HR.out.2.2.2 (by omega)
  rw [← HX.out.1, ← HX.out.2.1] at hI
  go_wp2_with fail
  refine hI.mono ?_
  clear hI
  rintro e w3 ⟨v3, vs3, rfl, hb3, ho3⟩
  obtain ⟨A3, c3, hv3, _, hn3⟩ := ho3.nest
  subst hv3
  have K3 := Lib.hid (And.intro (below_step HR.out.1 hb3) (And.intro (HR.out.2.1.step hb3) (And.intro (HR.out.2.2.1.step hb3) hn3)))
  clear hb3 ho3 hn3
  have hO := sRowsTake_any A1 A2 c1 c2 T o w3 K3.out.2.1 K3.out.2.2.1 (by omega) (by omega)
  rw [← HX.out.1, ← HX.out.2.1] at hO
  go_wp2_with fail
  refine hO.mono ?_
  clear hO
  rintro e w4 ⟨v4, vs4, rfl, hb4, ho4⟩
  have K4 := Lib.hid (And.intro (below_step K3.out.1 hb4) (And.intro (K3.out.2.1.step hb4) (And.intro (K3.out.2.2.1.step hb4) (K3.out.2.2.2.step hb4))))
  clear hb4 ho4
  cases ok
  · clear eb ec
    go_wp2_with fail
    go_ret
    exact ⟨rfl, K4.out.1⟩
  · obtain ⟨i0, hi0, hz0, hz1, hz2⟩ := info_parts infoInt
    obtain ⟨hokT, ⟨p1, p2, p3⟩, _⟩ := takeOk_parts HX.out.2.1.symm
    have hT5 := (okS_parts hokT).1
    have hTl := (okS_parts hokT).2.2
    have hXT : ∀ (i : Nat) (x : Int) (r : List Bool), o[i]? = some x → T[x.toNat]? = some r → X[i]? = some r := fun i x r h1 h2 => by
      rw [HX.out.1, takeG_ok HX.out.2.1.symm, takeS_at h1, List.getD_eq_getElem?_getD, h2]
      rfl
    have hXl : X.length = o.length := by rw [HX.out.1, takeG_ok HX.out.2.1.symm, takeS_len]
    have HP := Lib.hid (And.intro p1 (And.intro p2 (And.intro p3 (And.intro hT5 (And.intro hXT hXl)))))
    have hol5 : o.length ≤ 5 := by omega
    clear hokT p1 p2 p3 hT5 hXT hXl eb ec
    go_wp2_with (at_make
                 go_must (refine wpList_make_full _ rfl (.tmp 46) (.tmp 46) _ rfl w4.heap.size 3 i0 _ 1 Try.underlying28 hi0 hz0 hz1 _ _ _ _ o.length rfl rfl rfl rfl (by rw [hz2]; omega) (by simp only [maxLen]; omega) (Nat.le_refl _) ?_)
                 intro w5 hown hg5)
    have hb5 : Below w4.heap.size w4 w5 := (Below.refl _ _).grown hg5 (Nat.le_refl _) (fun k hk => by cases hk)
    rw [zero_cellsI] at hown
    have K5 := Lib.hid (And.intro hb5 hown)
    clear hb5 hown hg5
    go_loopw [10] (fun v wr => ∃ (i : Nat) (u : List Int), i ≤ o.length ∧ v = .int .i64 i ∧ u.length = o.length ∧ (∀ (j : Nat) (x : Int), j < i → o[j]? = some x → u[x.toNat]? = some (j : Int)) ∧ Below w4.heap.size w4 wr ∧ wr.ownsRow w4.heap.size 3 1 (.slice (some ⟨w4.heap.size, 0, none⟩) o.length o.length) o.length (cellsI u)) (fun v _ => o.length - (intOf v).toNat)
    case atStart => exact ⟨0, List.replicate o.length 0, Nat.zero_le _, rfl, by simp, fun j x h => absurd h (by omega), K5.out.1, by simpa using K5.out.2⟩
    case round =>
      obtain ⟨i, u, hi, rfl, hul, hinv, hb, hown⟩ := hrel
      by_cases hil : i < o.length
      · have hii : (i : Int) < (o.length : Int) := by omega
        obtain ⟨x, hx⟩ : ∃ x, o[i]? = some x := ⟨_, List.getElem?_eq_getElem hil⟩
        have hx2 := HP.out.2.1 x (List.mem_of_getElem? hx)
        obtain ⟨n, rfl⟩ := Int.eq_ofNat_of_zero_le hx2.1
        have hnT : n < T.length := by omega
        have hno : n < o.length := by have := HP.out.1; omega
        have hnoi : (n : Int) < (o.length : Int) := by omega
        have hnTi : (n : Int) < (T.length : Int) := by omega
        have hn0 : (0 : Int) ≤ (n : Int) := by omega
        have hiX : (i : Int) < (X.length : Int) := by have := HP.out.2.2.2.2.2; omega
        obtain ⟨r, hr⟩ : ∃ r, T[n]? = some r := ⟨_, List.getElem?_eq_getElem hnT⟩
        have hXi := HP.out.2.2.2.2.1 i _ r hx (by simpa using hr)
        have hr5 := HP.out.2.2.2.1 r (List.mem_of_getElem? hr)
        obtain ⟨u0, hu0⟩ : ∃ u0, u[n]? = some u0 := ⟨_, List.getElem?_eq_getElem (by omega)⟩
        obtain ⟨dd1, dd2⟩ := own_cellI hown hu0
        obtain ⟨b2, off2, hA2, hbb2, hc2⟩ := (K4.out.2.2.1.below hb).ints (by omega)
        subst hA2
        have d1 := hc2 i _ hx
        obtain ⟨W, hW⟩ : ∃ W, W = wr.setCell ⟨w4.heap.size, n, none⟩ (.int .i64 (i : Int)) := ⟨_, rfl⟩
        have bW : Below w4.heap.size w4 W := by rw [hW]; exact hb.setCell (by simp) _
        obtain ⟨b1, off1, A7, c7, hA1, hbb1, e1, he1, rr1⟩ := (K4.out.2.1.below bW).row hr
        obtain ⟨b3, off3, A8, c8, hA3, hbb3, e3, he3, rr3⟩ := (K4.out.2.2.2.below bW).row hXi
        obtain ⟨b4, off4, hA4, hbb4, hc4⟩ := (K4.out.2.2.1.below bW).ints (by omega)
        injection hA4 with hA4
        injection hA4 with f1 f2 _
        subst f1 f2 hA1 hA3
        have e2 := hc4 i _ hx
        have oW := own_storeI hown n (i : Int)
        rw [← hW] at oW
        obtain ⟨q, hq⟩ : ∃ q, q = alikeS r r := ⟨_, rfl⟩
        have hAl : ∀ (A9 : Option Addr) (c9 : Nat) (W2 : World), Below W.heap.size W W2 → (A9 = A8 ∧ c9 = c8 ∨ A9 = A7 ∧ c9 = c7) → Calls Try.prog 27 #[.slice A9 r.length c9, .slice A7 r.length c7] W2 fun e w2 => e = .returned (.int .i64 q) ∧ Below W2.heap.size W2 w2 := fun A9 c9 W2 h2 hor => by
          rw [hq]
          rcases hor with ⟨rfl, rfl⟩ | ⟨rfl, rfl⟩
          · exact iAlike_any A9 A7 c9 c7 r r W2 (((rr3.more bW.size).below h2).more h2.size) (((rr1.more bW.size).below h2).more h2.size) (by omega) (by omega)
          · exact iAlike_any A9 A9 c9 c9 r r W2 (((rr1.more bW.size).below h2).more h2.size) (((rr1.more bW.size).below h2).more h2.size) (by omega) (by omega)
        have hqq : (q != q) = false := by simp
        have hWs := bW.size
        have hx1 := ext_cell (w := W) (Nat.lt_of_lt_of_le hbb1 hWs)
        have hx3 := ext_cell (w := W) (Nat.lt_of_lt_of_le hbb3 hWs)
        have hy2 := ext_cell (w := W) (Nat.lt_of_lt_of_le hbb2 hWs)
        have HB := Lib.hid (And.intro hinv (And.intro hx (And.intro bW (And.intro oW hAl))))
        clear hinv hx hb hown hr hXi hu0 hc2 hc4 rr1 rr3 bW oW hAl hq hx2 hr5
        have HW := Lib.hid hW
        clear hW
        go_wp2_with fail
        rw [← HW.out]
        refine wp_region_ext W.heap.size (by kernel_rfl) (by kernel_rfl) ?_
        repeat (go_big_quiet_step ((go_at_call 27; exact calls_ext (Nat.le_refl _) (HB.out.2.2.2.2 _ _ _ (Ext.below _) (by first | exact .inl ⟨rfl, rfl⟩ | exact .inr ⟨rfl, rfl⟩)))))
        refine wpQuiet_nil ?_
        rintro _ ⟨x9, rfl⟩
        have HY := Lib.hid (And.intro (HB.out.2.2.1.trans (x9.below.mono hWs)) (own_below HB.out.2.2.2.1 x9.below))
        clear hx1 hy2 hx3 hWs e1 e2 e3
        go_wp2_with fail
        go_roundw
        case rel =>
          refine ⟨i + 1, u.set n (i : Int), by omega, by go_num, by simpa using hul, fun j x hj hx => ?_, HY.out.1, HY.out.2⟩
          by_cases hji : j = i
          · subst hji
            have h1 := HB.out.2.1
            rw [hx] at h1
            injection h1 with h1
            subst h1
            rw [Int.toNat_natCast, List.getElem?_set_self (by omega)]
          · have hx0 := HP.out.2.1 x (List.mem_of_getElem? hx)
            have hne : ¬ n = x.toNat := fun e => by
              have h1 := (List.getElem?_inj (i := j) (j := i) (by have := (List.getElem?_eq_some_iff.1 hx).1; omega) HP.out.2.2.1).1 (by
                rw [hx, HB.out.2.1]; congr 1; omega)
              exact hji h1
            rw [List.getElem?_set_ne hne]
            exact HB.out.1 j x (by omega) hx
        case measure => simp [intOf]; omega
      · have hio : i = o.length := by omega
        subst hio
        obtain ⟨q1, q2⟩ := inv_takes HX.out.2.1.symm (hul.trans HP.out.1) (fun j x hx => hinv j x (by have := (List.getElem?_eq_some_iff.1 hx).1; omega) hx)
        rw [← HX.out.1] at q1 q2
        have hI := iRowsTake_any A3 (some ⟨w4.heap.size, 0, none⟩) c3 o.length X u wr ((K4.out.2.2.2.below hb).more hb.size) (by have := own_reads hown; rw [hul]; exact this) (by omega) (fun r h => by have := HX.out.2.2 r h; omega) (by omega)
        rw [q1, q2, hul] at hI
        have HI := Lib.hid (And.intro hI (And.intro hb HP.out.2.2.2.1))
        have hdn : decide ((o.length : Int) < (o.length : Int)) = false := decide_eq_false (by omega)
        clear hI hb hown hinv hul q1 q2
        go_wp2_with (go_at_call 24; go_must (refine HI.out.1.mono ?_); rintro e w9 ⟨v9, vs9, rfl, k9, o9⟩
                     obtain ⟨A9, c9, hv9, _, hn9⟩ := o9.nest
                     subst hv9
                     have b9 := below_step HI.out.2.1 k9
                     have K9 := Lib.hid (And.intro b9 hn9)
                     clear k9 o9 hn9 b9)
        have R9 := Lib.hid (And.intro (below_step K4.out.1 K9.out.1) (And.intro (K4.out.2.1.step K9.out.1) K9.out.2))
        go_loopw [13] (fun v wr => ∃ i : Nat, i ≤ T.length ∧ v = .int .i64 i ∧ Below w9.heap.size w9 wr) (fun v _ => T.length - (intOf v).toNat)
        case atStart => exact ⟨0, Nat.zero_le _, rfl, Below.refl _ _⟩
        case round =>
          obtain ⟨i, hi, rfl, hbi⟩ := hrel
          by_cases hiT : i < T.length
          · have hii : (i : Int) < (T.length : Int) := by omega
            have HBI := Lib.hid hbi
            clear hbi
            go_wp2_with fail
            go_loopw [14] (fun v wq => ∃ k : Nat, k ≤ 5 ∧ v = .int .i64 k ∧ Below w9.heap.size w9 wq) (fun v _ => 5 - (intOf v).toNat)
            case atStart => exact ⟨0, Nat.zero_le _, rfl, HBI.out⟩
            case round =>
              obtain ⟨k, hk, rfl, hbk⟩ := hrel
              by_cases hk5 : k < 5
              · have hki : (k : Int) < 5 := by omega
                obtain ⟨r, hr⟩ : ∃ r, T[i]? = some r := ⟨_, List.getElem?_eq_getElem hiT⟩
                have hr5 := HI.out.2.2 r (List.mem_of_getElem? hr)
                obtain ⟨x, hx⟩ : ∃ x, r[k]? = some x := ⟨_, List.getElem?_eq_getElem (by omega)⟩
                have hkr : (k : Int) < (r.length : Int) := by omega
                obtain ⟨b1, f1, b2, f2, cc2, hA1, hb1, d1, hb2, d2⟩ := (R9.out.2.1.below hbk).bit hr hx
                obtain ⟨b3, f3, b4, f4, cc4, hA3, hb3, d3, hb4, d4⟩ := (R9.out.2.2.below hbk).bit hr hx
                subst hA1 hA3
                have HBK := Lib.hid hbk
                clear hbk hr hx hr5
                cases x
                · go_wp2_with fail
                  go_quiet (fail)
                  go_wp2_with fail
                  go_roundw
                  case rel => exact ⟨k + 1, by omega, by go_num, below_draws HBK.out nq⟩
                  case measure => simp [intOf]; omega
                · go_wp2_with fail
                  go_quiet (fail)
                  go_wp2_with fail
                  go_roundw
                  case rel => exact ⟨k + 1, by omega, by go_num, below_draws HBK.out nq⟩
                  case measure => simp [intOf]; omega
              · have hdn : decide ((k : Int) < 5) = false := decide_eq_false (by omega)
                have HBK := Lib.hid hbk
                clear hbk
                go_wp2_with fail
                go_roundw
                case rel => exact ⟨i + 1, by omega, by go_num, HBK.out⟩
                case measure => simp [intOf]; omega
          · obtain rfl : i = T.length := by omega
            have hdm : decide ((T.length : Int) < (T.length : Int)) = false := decide_eq_false (by omega)
            have HBI := Lib.hid hbi
            clear hbi
            go_wp2_with fail
            go_ret
            exact ⟨by simp, below_step R9.out.1 HBI.out⟩
theorem walk (A : Option Addr) (c : Nat) (z : List Int) (w : World) (h1 : z.length ≤ c) (h2 : Reads w w.heap.size 1 A z.length (cellsB z)) (h3 : ∀ b ∈ z, 0 ≤ b ∧ b ≤ 255) (h4 : c ≤ maxLen) :
    Calls Try.prog 7 #[.slice A z.length c] w fun e w2 => e = .returned (.bool true) ∧ Below w.heap.size w w2 := by
  by_cases hn : z.length ≤ 1048576
  · exact walk_short A c z w (Bytes.mk_ h1 h2 h3 h4) hn
  · have e0 : decide ((1048576 : Int) < (z.length : Int)) = true := decide_eq_true (by omega)
    go_enter Try.func7, Try.ntmps7
    go_wp2_with fail
    go_ret
    exact ⟨rfl, Below.refl _ _⟩

set_option linter.unusedVariables false
set_option maxRecDepth 100000 in
theorem lifted (os : Os) (started : os.Started) (H : Type) (enc : TypeId × Value → H) :
    ReturnsInHanded {} Try.checked os 7 .any (Rows.fnRowsTakeSpec.pre6 enc Try.prog Try.f7 Rows.fnRowsTakeRow.domain false) (Rows.fnRowsTakeSpec.post enc Try.prog Try.f7 false true false false) := by
  refine returnsInHanded_of_change (C := Try.checked) lawOwn started (by kernel_rfl) Try.func7
    (ChangeSpec.witness6 (enc := enc) (C := Try.checked) false ⟨#[], #[.slice none 0 0], []⟩ 8 (by kernel_rfl) (by kernel_rfl) (by kernel_rfl) (by kernel_rfl)) ?_
  intro W base args ds gs before hval0 hW hcnd _
  have hval : ∀ (j : Nat) t v, Try.f7.params[j]? = some t → args[j]? = some v → Value.okWide Try.prog W .any base t v := hval0
  have hW' := hW
  obtain ⟨p, q, hA0, hV, rfl, hfz, hnd⟩ := hW
  have hA : DataW.TrodAll enc Try.prog W 0 (fun _ => true) true Try.f7.params.toList args.toList ds p := hA0
  rw [Try.params7] at hA hval
  obtain ⟨v0, vs0, d0, ds0, p0, q0, hargs, rfl, rfl, h0, r0⟩ := trodAll_cons hA
  obtain ⟨rfl, rfl, rfl⟩ := trodAll_nil r0
  obtain rfl : args = #[v0] := by cases args; simp_all
  obtain ⟨rfl, rfl⟩ := trodVars_none hV
  have k0 := h0
  have lt0 : ∀ x ∈ p0, x.block < W.heap.size := by obtain ⟨m, hm⟩ := k0; exact DataW.trod_lt m _ _ _ hm
  obtain ⟨a0, len0, cap0, rfl⟩ := okWide_slice Try.underlying22 (hval 0 22 v0 rfl rfl)
  obtain ⟨z0, hl0, hc0, hr0, hb0, hm0⟩ : ∃ z : List Int, len0 = z.length ∧ len0 ≤ cap0 ∧ Reads W W.heap.size 1 a0 len0 (cellsB z) ∧ (∀ b ∈ z, 0 ≤ b ∧ b ≤ 255) ∧ cap0 ≤ maxLen := by
    obtain ⟨fuel, hf⟩ := h0
    exact open_bytes Try.underlying22 Try.underlying5 (by kernel_rfl) (by simpa [Value.cells] using hf)
  subst hl0
  clear hA0 hval0
  refine (walk a0 cap0 z0 W hc0 hr0 hb0 hm0).mono fun e W' ⟨he, bel⟩ => ?_
  subst he
  exact ⟨_, rfl, _, _, _, [], _, [], hW', trodAll_mk1 (shut_bool Try.underlying4 _), (trodAll_cons_mk (Below.trod lawLaid (by kernel_rfl) (of_decide_eq_true (by kernel_rfl)) k0 bel lt0) trodAll_mk0), rfl, bel.frame _, fun h => by cases h⟩

theorem proved : Rows.FnRowsTakeSaid :=
  OpenClaim.holds_of_wide 7 Try.f7 rfl rfl rfl rfl rfl rfl rfl ⟨rfl, rfl, rfl, rfl, rfl⟩ rfl rfl rfl rfl rfl (by kernel_rfl) Try.func7 (by kernel_rfl)
    (of_decide_eq_true (by kernel_rfl)) (by unfold Func.isWrapper; rw [if_neg (of_decide_eq_false (by kernel_rfl))]; exact ⟨rfl, rfl⟩)
    (fun os started H enc _ => lifted os started H enc)
#print axioms proved
end Go.Proofs.Ytapmeooffmonmaa.lawRowsTake
