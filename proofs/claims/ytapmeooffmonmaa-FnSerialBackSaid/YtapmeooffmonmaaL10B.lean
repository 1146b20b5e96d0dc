/-
  Whatever bytes are given: rows drawn from them are serial if and only if they are so backwards. No condition.
-/
import Derived.Test.YtapmeooffmonmaaOpen
import Derived.Test.YtapmeooffmonmaaSe7
import Derived.Test.YtapmeooffmonmaaSe9
import Derived.Test.YtapmeooffmonmaaIsb
namespace Go.Proofs.Ytapmeooffmonmaa.lawSerialBack
open Go.ChangeShapes Go.WideShapes Go.ChangeAt Go.RowKit

set_option maxHeartbeats 8000000 in
set_option maxRecDepth 100000 in
theorem walk_short (A : Option Addr) (c : Nat) (z : List Int) (w : World) (h : Bytes w A c z) (hn : z.length ≤ 1048576) :
    Calls Try.prog 4 #[.slice A z.length c] w fun e w2 => e = .returned (.bool true) ∧ Below w.heap.size w w2 := by
  have e0 : decide ((1048576 : Int) < (z.length : Int)) = false := decide_eq_false (by omega)
  go_enter Try.func4, Try.ntmps4
  go_wp2_with fail
  refine (dRowsS_any A c z _ h).mono ?_
  rintro e w2 ⟨v1, T, rfl, ⟨A1, c1, hv1, _, hn1⟩, hT, h5, hb2⟩
  subst hv1
  have hr : ∀ r ∈ T, r.length ≤ 2000000 := fun r h => by have := h5 r h; omega
  have HR := Lib.hid (And.intro hb2 (And.intro hn1 hr))
  clear hb2 hn1 h hr h5
  obtain ⟨ok, hok⟩ : ∃ ok, ok = serOk T := ⟨_, rfl⟩
  have HOK := Lib.hid hok
  clear hok
  have eb : (ok != ok) = false := by simp
  have ec : (ok == ok) = true := by simp
  go_wp2_with fail
  refine (iSerial_any _ _ T _ HR.out.2.1 (by omega) HR.out.2.2).mono ?_
  rintro e w3 ⟨rfl, hb3⟩
  rw [← HOK.out]
  have K3 := Lib.hid (And.intro (below_step HR.out.1 hb3) (HR.out.2.1.step hb3))
  clear hb3
  go_wp2_with fail
  refine (sSerial_any _ _ T _ K3.out.2 (by omega)).mono ?_
  rintro e w4 ⟨rfl, rfl⟩
  rw [← HOK.out]
  go_wp2_with fail
  refine (sRowsV_any _ _ T _ K3.out.2 (by omega)).mono ?_
  rintro e w5 ⟨rfl, rfl⟩
  cases hv : okS T
  · go_wp2_with fail
    go_ret
    exact ⟨rfl, K3.out.1⟩
  · have hback : ok = serOk T.reverse := by rw [HOK.out, serOk, serOk, serS_back, okS_back]
    have HBK := Lib.hid hback
    clear hv hback
    obtain ⟨ir, hir, hrz, hrs, hrb⟩ := info_parts infoBools
    obtain ⟨_, vs, hvs, hrow⟩ := K3.out.2
    have hvl : vs.length = T.length := by have := hvs.1; omega
    have hb4 : Below w3.heap.size w3 (w3.alloc (.cells #[] 26)) := (Below.refl _ _).alloc (Nat.le_refl _) _
    have ho4 : (w3.alloc (.cells #[] 26)).ownsRow w3.heap.size 26 1 (.slice (some ⟨w3.heap.size, 0, none⟩) 0 0) 0 [] := own_empty (Nat.le_refl _) rfl
    have K4 := Lib.hid (And.intro hb4 (And.intro ho4 (And.intro hvs (And.intro hvl hrow))))
    clear hb4 ho4 hvs hvl hrow
    go_wp2_with fail
    go_loopw [6, 7] (fun v i wr => ∃ k : Nat, k ≤ T.length ∧ i = .int .i64 ((T.length : Int) - 1 - (k : Int)) ∧ Below w3.heap.size w3 wr ∧ wr.ownsRow w3.heap.size 26 1 v k (vs.reverse.take k)) (fun _ i _ => ((intOf i) + 1).toNat)
    case atStart => exact ⟨0, Nat.zero_le _, by go_num, K4.out.1, by rw [List.take_zero]; exact K4.out.2.1⟩
    case round =>
      obtain ⟨k, hk, rfl, hb, hown⟩ := hrel
      by_cases hkl : k < T.length
      · obtain ⟨i, hi⟩ : ∃ i : Nat, i = T.length - 1 - k := ⟨_, rfl⟩
        have hik : (T.length : Int) - 1 - (k : Int) = (i : Int) := by omega
        rw [hik]
        have hil : i < T.length := by omega
        obtain ⟨r, hr⟩ : ∃ r, T[i]? = some r := ⟨_, List.getElem?_eq_getElem hil⟩
        obtain ⟨A2, c2, hu, _, _⟩ := K4.out.2.2.2.2 i r hr
        obtain ⟨b, off, hA, hbb, hc⟩ := (K4.out.2.2.1.below hb).2 (by omega)
        subst hA
        have c1 := hc i _ hu
        have hii : (i : Int) < (T.length : Int) := by omega
        have hi0 : (0 : Int) ≤ (i : Int) := by omega
        have hsz := hb.size
        have hnext : vs.reverse.take (k + 1) = vs.reverse.take k ++ [.slice A2 r.length c2] := by
          have h1 : vs.reverse[k]? = some (.slice A2 r.length c2) := by
            rw [List.getElem?_reverse (by rw [K4.out.2.2.2.1]; exact hkl), K4.out.2.2.2.1, show T.length - 1 - k = i from by omega]
            exact hu
          rw [List.take_add_one, h1]
          rfl
        have HX := Lib.hid (And.intro hb (And.intro hown (And.intro hnext hik)))
        clear hb hown hnext hc hu hr hi hik
        go_wp2_with (at_builtin
                     go_must (refine wpList_append_reads _ rfl (.tmp 36) (.tmp 41) _ rfl w3.heap.size 26 ir _ 1 24 Try.underlying23 hir hrz hrs hrb rfl (by omega) u6 k (vs.reverse.take k) rfl (HX.out.2.1.alloc _) (wr.heap.size + 1) _ 1 1 [.slice A2 r.length c2] rfl (reads_val (by omega)) one_slice (by simp only [maxLen]; omega) (by omega) (by simp; omega) ?_)
                     intro v8 w8 hown8 hg8 hat8)
        go_roundw
        case rel =>
          obtain ⟨hb, hown, hnext, hik⟩ := HX.out
          refine ⟨k + 1, by omega, by rw [show (T.length : Int) - 1 - ((k + 1 : Nat) : Int) = (i : Int) - 1 from by omega], (hb.alloc (by omega) _).trans (app_below0 (hown.alloc _) (Nat.le_refl _) (by simp; omega) hg8), ?_⟩
          rw [hnext]
          exact hown8
        case measure => simp [intOf]
      · obtain rfl : k = T.length := by omega
        have hik : (T.length : Int) - 1 - (T.length : Int) = -1 := by omega
        rw [hik]
        obtain ⟨A6, c6, hv6, _, hr6⟩ := Reads.of_own hown
        subst hv6
        have hn6 : Nest encB wr wr.heap.size A6 T.reverse.length T.reverse := by
          refine ⟨rfl, vs.reverse, ?_, fun i r hr => ?_⟩
          · rw [List.length_reverse, ← K4.out.2.2.2.1]
            rw [← K4.out.2.2.2.1, show vs.reverse.take vs.length = vs.reverse from by rw [← List.length_reverse, List.take_length]] at hr6
            exact hr6
          · have hil : i < T.length := by have := (List.getElem?_eq_some_iff.1 hr).1; simpa using this
            rw [List.getElem?_reverse hil] at hr
            obtain ⟨A2, c2, hu, h1, h2⟩ := K4.out.2.2.2.2 _ r hr
            exact ⟨A2, c2, by rw [List.getElem?_reverse (by rw [K4.out.2.2.2.1]; exact hil), K4.out.2.2.2.1]; exact hu, h1, h2.step hb⟩
        have hrl : T.reverse.length = T.length := List.length_reverse
        have hS := iSerial_any A6 c6 T.reverse wr hn6 (by omega) (fun r h => HR.out.2.2 r (List.mem_reverse.1 h))
        rw [hrl, ← HBK.out] at hS
        have HX := Lib.hid (And.intro hb hS)
        clear hb hown hr6 hn6 hS hrl
        go_wp2_with fail
        refine HX.out.2.mono ?_
        rintro e w7 ⟨rfl, hb7⟩
        have K7 := Lib.hid (below_step K3.out.1 (below_step HX.out.1 hb7))
        clear hb7
        go_wp2_with fail
        go_ret
        exact ⟨rfl, K7.out⟩
theorem walk (A : Option Addr) (c : Nat) (z : List Int) (w : World) (h1 : z.length ≤ c) (h2 : Reads w w.heap.size 1 A z.length (cellsB z)) (h3 : ∀ b ∈ z, 0 ≤ b ∧ b ≤ 255) (h4 : c ≤ maxLen) :
    Calls Try.prog 4 #[.slice A z.length c] w fun e w2 => e = .returned (.bool true) ∧ Below w.heap.size w w2 := by
  by_cases hn : z.length ≤ 1048576
  · exact walk_short A c z w (Bytes.mk_ h1 h2 h3 h4) hn
  · have e0 : decide ((1048576 : Int) < (z.length : Int)) = true := decide_eq_true (by omega)
    go_enter Try.func4, Try.ntmps4
    go_wp2_with fail
    go_ret
    exact ⟨rfl, Below.refl _ _⟩

set_option linter.unusedVariables false
set_option maxRecDepth 100000 in
theorem lifted (os : Os) (started : os.Started) (H : Type) (enc : TypeId × Value → H) :
    ReturnsInHanded {} Try.checked os 4 .any (Rows.fnSerialBackSpec.pre6 enc Try.prog Try.f4 Rows.fnSerialBackRow.domain false) (Rows.fnSerialBackSpec.post enc Try.prog Try.f4 false true false false) := by
  refine returnsInHanded_of_change (C := Try.checked) lawOwn started (by kernel_rfl) Try.func4
    (ChangeSpec.witness6 (enc := enc) (C := Try.checked) false ⟨#[], #[.slice none 0 0], []⟩ 8 (by kernel_rfl) (by kernel_rfl) (by kernel_rfl) (by kernel_rfl)) ?_
  intro W base args ds gs before hval0 hW hcnd _
  have hval : ∀ (j : Nat) t v, Try.f4.params[j]? = some t → args[j]? = some v → Value.okWide Try.prog W .any base t v := hval0
  have hW' := hW
  obtain ⟨p, q, hA0, hV, rfl, hfz, hnd⟩ := hW
  have hA : DataW.TrodAll enc Try.prog W 0 (fun _ => true) true Try.f4.params.toList args.toList ds p := hA0
  rw [Try.params4] at hA hval
  obtain ⟨v0, vs0, d0, ds0, p0, q0, hargs, rfl, rfl, h0, r0⟩ := trodAll_cons hA
  obtain ⟨rfl, rfl, rfl⟩ := trodAll_nil r0
  obtain rfl : args = #[v0] := by cases args; simp_all
  obtain ⟨rfl, rfl⟩ := trodVars_none hV
  have k0 := h0
  have lt0 : ∀ x ∈ p0, x.block < W.heap.size := by obtain ⟨m, hm⟩ := k0; exact DataW.trod_lt m _ _ _ hm
  obtain ⟨a0, len0, cap0, rfl⟩ := okWide_slice Try.underlying22 (hval 0 22 v0 rfl rfl)
  obtain ⟨z0, hl0, hc0, hr0, hb0, hm0⟩ : ∃ z : List Int, len0 = z.length ∧ len0 ≤ cap0 ∧ Reads W W.heap.size 1 a0 len0 (cellsB z) ∧ (∀ b ∈ z, 0 ≤ b ∧ b ≤ 255) ∧ cap0 ≤ maxLen := by
    obtain ⟨fuel, hf⟩ := h0
    exact open_bytes Try.underlying22 Try.underlying5 (by kernel_rfl) (by simpa [Value.cells] using hf)
  subst hl0
  clear hA0 hval0
  refine (walk a0 cap0 z0 W hc0 hr0 hb0 hm0).mono fun e W' ⟨he, bel⟩ => ?_
  subst he
  exact ⟨_, rfl, _, _, _, [], _, [], hW', trodAll_mk1 (shut_bool Try.underlying4 _), (trodAll_cons_mk (Below.trod lawLaid (by kernel_rfl) (of_decide_eq_true (by kernel_rfl)) k0 bel lt0) trodAll_mk0), rfl, bel.frame _, fun h => by cases h⟩

theorem proved : Rows.FnSerialBackSaid :=
  OpenClaim.holds_of_wide 4 Try.f4 rfl rfl rfl rfl rfl rfl rfl ⟨rfl, rfl, rfl, rfl, rfl⟩ rfl rfl rfl rfl rfl (by kernel_rfl) Try.func4 (by kernel_rfl)
    (of_decide_eq_true (by kernel_rfl)) (by unfold Func.isWrapper; rw [if_neg (of_decide_eq_false (by kernel_rfl))]; exact ⟨rfl, rfl⟩)
    (fun os started H enc _ => lifted os started H enc)
#print axioms proved
end Go.Proofs.Ytapmeooffmonmaa.lawSerialBack
