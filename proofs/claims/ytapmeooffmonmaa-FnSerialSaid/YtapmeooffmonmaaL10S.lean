/-
  Whatever bytes are given: whether rows drawn from them are serial is the model's answer, and where they are no type is missing between two rows that have it. No condition.
-/
import Derived.Test.YtapmeooffmonmaaOpen
import Derived.Test.YtapmeooffmonmaaSe7
import Derived.Test.YtapmeooffmonmaaSe9
import Derived.Test.YtapmeooffmonmaaIsb
namespace Go.Proofs.Ytapmeooffmonmaa.lawSerial
open Go.ChangeShapes Go.WideShapes Go.ChangeAt Go.RowKit

set_option maxHeartbeats 8000000 in
set_option maxRecDepth 100000 in
theorem walk_short (A : Option Addr) (c : Nat) (z : List Int) (w : World) (h : Bytes w A c z) (hn : z.length ≤ 1048576) :
    Calls Try.prog 3 #[.slice A z.length c] w fun e w2 => e = .returned (.bool true) ∧ Below w.heap.size w w2 := by
  have e0 : decide ((1048576 : Int) < (z.length : Int)) = false := decide_eq_false (by omega)
  go_enter Try.func3, Try.ntmps3
  go_wp2_with fail
  refine (dRowsS_any A c z _ h).mono ?_
  rintro e w2 ⟨v1, T, rfl, ⟨A1, c1, hv1, _, hn1⟩, hT, h5, hb2⟩
  subst hv1
  have hr : ∀ r ∈ T, r.length ≤ 2000000 := fun r h => by have := h5 r h; omega
  have HR := Lib.hid (And.intro hb2 (And.intro hn1 hr))
  clear hb2 hn1 h hr h5
  obtain ⟨ok, hok⟩ : ∃ ok, ok = serOk T := ⟨_, rfl⟩
  have HOK := Lib.hid hok
  clear hok
  have eb : (ok != ok) = false := by simp
  have ec : (ok == ok) = true := by simp
  go_wp2_with fail
  refine (iSerial_any _ _ T _ HR.out.2.1 (by omega) HR.out.2.2).mono ?_
  rintro e w3 ⟨rfl, hb3⟩
  rw [← HOK.out]
  have K3 := Lib.hid (And.intro (below_step HR.out.1 hb3) (HR.out.2.1.step hb3))
  clear hb3
  go_wp2_with fail
  refine (sSerial_any _ _ T _ K3.out.2 (by omega)).mono ?_
  rintro e w4 ⟨rfl, rfl⟩
  rw [← HOK.out]
  cases ok
  · clear eb ec
    go_wp2_with fail
    go_ret
    exact ⟨rfl, K3.out.1⟩
  · have hser : okS T = true ∧ serS T = true := by
      have := HOK.out
      simpa [serOk] using this.symm
    have H5 := Lib.hid (And.intro (okS_parts hser.1).1 (serS_iff.1 hser.2))
    clear hser eb ec
    go_wp2_with fail
    go_loop [6] (fun v => ∃ k : Nat, k ≤ 5 ∧ v = .int .i64 k) (fun v => 5 - (intOf v).toNat)
    case atStart => exact ⟨0, Nat.zero_le _, rfl⟩
    case round =>
      obtain ⟨k, hk, rfl⟩ := hrel
      by_cases hk5 : k < 5
      · have hki : (k : Int) < 5 := by omega
        go_wp2_with fail
        go_loop [7] (fun v => ∃ i : Nat, i ≤ T.length ∧ v = .int .i64 i) (fun v => T.length - (intOf v).toNat)
        case atStart => exact ⟨0, Nat.zero_le _, rfl⟩
        case round =>
          obtain ⟨i, hi, rfl⟩ := hrel
          by_cases hil : i < T.length
          · have hii : (i : Int) < (T.length : Int) := by omega
            go_wp2_with fail
            go_loop [8] (fun v => ∃ j : Nat, j ≤ i ∧ v = .int .i64 j) (fun v => i - (intOf v).toNat)
            case atStart => exact ⟨0, Nat.zero_le _, rfl⟩
            case round =>
              obtain ⟨j, hj, rfl⟩ := hrel
              by_cases hji : j < i
              · have hjd : decide ((j : Int) < (i : Int)) = true := decide_eq_true (by omega)
                go_wp2_with fail
                go_loop [9] (fun v => ∃ m : Nat, m ≤ i ∧ j < m ∧ v = .int .i64 m) (fun v => i - (intOf v).toNat)
                case atStart => exact ⟨j + 1, by omega, by omega, by go_num⟩
                case round =>
                  obtain ⟨m, hm, hjm, rfl⟩ := hrel
                  by_cases hmi : m < i
                  · have hmd : decide ((m : Int) < (i : Int)) = true := decide_eq_true (by omega)
                    obtain ⟨ri, hri⟩ : ∃ r, T[i]? = some r := ⟨_, List.getElem?_eq_getElem hil⟩
                    obtain ⟨rj, hrj⟩ : ∃ r, T[j]? = some r := ⟨_, List.getElem?_eq_getElem (by omega)⟩
                    obtain ⟨rm, hrm⟩ : ∃ r, T[m]? = some r := ⟨_, List.getElem?_eq_getElem (by omega)⟩
                    have li := H5.out.1 ri (List.mem_of_getElem? hri)
                    have lj := H5.out.1 rj (List.mem_of_getElem? hrj)
                    have lm := H5.out.1 rm (List.mem_of_getElem? hrm)
                    obtain ⟨x, hx⟩ : ∃ x, ri[k]? = some x := ⟨_, List.getElem?_eq_getElem (by omega)⟩
                    obtain ⟨y, hy⟩ : ∃ y, rj[k]? = some y := ⟨_, List.getElem?_eq_getElem (by omega)⟩
                    obtain ⟨u, hu⟩ : ∃ u, rm[k]? = some u := ⟨_, List.getElem?_eq_getElem (by omega)⟩
                    have hlaw := H5.out.2 k hk5 j m i hjm hmi hil
                    rw [bitS_at hri hx, bitS_at hrj hy, bitS_at hrm hu] at hlaw
                    obtain ⟨b, off, b2, off2, c2, hA, _, d1, _, d2⟩ := K3.out.2.bit hri hx
                    obtain ⟨b', off', b3, off3, c3, hA', _, d3, _, d4⟩ := K3.out.2.bit hrj hy
                    obtain ⟨b'', off'', b4, off4, c4, hA'', _, d5, _, d6⟩ := K3.out.2.bit hrm hu
                    subst hA
                    injection hA' with hA'
                    injection hA' with f1 f2 _
                    subst f1 f2
                    injection hA'' with hA''
                    injection hA'' with f3 f4 _
                    subst f3 f4
                    have ki : (k : Int) < (ri.length : Int) := by omega
                    have kj : (k : Int) < (rj.length : Int) := by omega
                    have km : (k : Int) < (rm.length : Int) := by omega
                    have jl : (j : Int) < (T.length : Int) := by omega
                    have ml : (m : Int) < (T.length : Int) := by omega
                    clear hri hrj hrm hx hy hu li lj lm
                    cases x
                    · clear hlaw
                      go_wp2_with fail
                      go_round
                      case rel => exact ⟨m + 1, by omega, by omega, by go_num⟩
                      case measure => simp [intOf]; omega
                    · cases y
                      · clear hlaw
                        go_wp2_with fail
                        go_round
                        case rel => exact ⟨m + 1, by omega, by omega, by go_num⟩
                        case measure => simp [intOf]; omega
                      · obtain rfl := hlaw rfl rfl
                        clear hlaw
                        go_wp2_with fail
                        go_round
                        case rel => exact ⟨m + 1, by omega, by omega, by go_num⟩
                        case measure => simp [intOf]; omega
                  · have hmd : decide ((m : Int) < (i : Int)) = false := decide_eq_false (by omega)
                    go_wp2_with fail
                    go_round
                    case rel => exact ⟨j + 1, by omega, by go_num⟩
                    case measure => simp [intOf]; omega
              · have hjd : decide ((j : Int) < (i : Int)) = false := decide_eq_false (by omega)
                go_wp2_with fail
                go_round
                case rel => exact ⟨i + 1, by omega, by go_num⟩
                case measure => simp [intOf]; omega
          · have hid : decide ((i : Int) < (T.length : Int)) = false := decide_eq_false (by omega)
            go_wp2_with fail
            go_round
            case rel => exact ⟨k + 1, by omega, by go_num⟩
            case measure => simp [intOf]; omega
      · have hkd : decide ((k : Int) < 5) = false := decide_eq_false (by omega)
        go_wp2_with fail
        go_ret
        exact ⟨rfl, K3.out.1⟩
theorem walk (A : Option Addr) (c : Nat) (z : List Int) (w : World) (h1 : z.length ≤ c) (h2 : Reads w w.heap.size 1 A z.length (cellsB z)) (h3 : ∀ b ∈ z, 0 ≤ b ∧ b ≤ 255) (h4 : c ≤ maxLen) :
    Calls Try.prog 3 #[.slice A z.length c] w fun e w2 => e = .returned (.bool true) ∧ Below w.heap.size w w2 := by
  by_cases hn : z.length ≤ 1048576
  · exact walk_short A c z w (Bytes.mk_ h1 h2 h3 h4) hn
  · have e0 : decide ((1048576 : Int) < (z.length : Int)) = true := decide_eq_true (by omega)
    go_enter Try.func3, Try.ntmps3
    go_wp2_with fail
    go_ret
    exact ⟨rfl, Below.refl _ _⟩

set_option linter.unusedVariables false
set_option maxRecDepth 100000 in
theorem lifted (os : Os) (started : os.Started) (H : Type) (enc : TypeId × Value → H) :
    ReturnsInHanded {} Try.checked os 3 .any (Rows.fnSerialSpec.pre6 enc Try.prog Try.f3 Rows.fnSerialRow.domain false) (Rows.fnSerialSpec.post enc Try.prog Try.f3 false true false false) := by
  refine returnsInHanded_of_change (C := Try.checked) lawOwn started (by kernel_rfl) Try.func3
    (ChangeSpec.witness6 (enc := enc) (C := Try.checked) false ⟨#[], #[.slice none 0 0], []⟩ 8 (by kernel_rfl) (by kernel_rfl) (by kernel_rfl) (by kernel_rfl)) ?_
  intro W base args ds gs before hval0 hW hcnd _
  have hval : ∀ (j : Nat) t v, Try.f3.params[j]? = some t → args[j]? = some v → Value.okWide Try.prog W .any base t v := hval0
  have hW' := hW
  obtain ⟨p, q, hA0, hV, rfl, hfz, hnd⟩ := hW
  have hA : DataW.TrodAll enc Try.prog W 0 (fun _ => true) true Try.f3.params.toList args.toList ds p := hA0
  rw [Try.params3] at hA hval
  obtain ⟨v0, vs0, d0, ds0, p0, q0, hargs, rfl, rfl, h0, r0⟩ := trodAll_cons hA
  obtain ⟨rfl, rfl, rfl⟩ := trodAll_nil r0
  obtain rfl : args = #[v0] := by cases args; simp_all
  obtain ⟨rfl, rfl⟩ := trodVars_none hV
  have k0 := h0
  have lt0 : ∀ x ∈ p0, x.block < W.heap.size := by obtain ⟨m, hm⟩ := k0; exact DataW.trod_lt m _ _ _ hm
  obtain ⟨a0, len0, cap0, rfl⟩ := okWide_slice Try.underlying22 (hval 0 22 v0 rfl rfl)
  obtain ⟨z0, hl0, hc0, hr0, hb0, hm0⟩ : ∃ z : List Int, len0 = z.length ∧ len0 ≤ cap0 ∧ Reads W W.heap.size 1 a0 len0 (cellsB z) ∧ (∀ b ∈ z, 0 ≤ b ∧ b ≤ 255) ∧ cap0 ≤ maxLen := by
    obtain ⟨fuel, hf⟩ := h0
    exact open_bytes Try.underlying22 Try.underlying5 (by kernel_rfl) (by simpa [Value.cells] using hf)
  subst hl0
  clear hA0 hval0
  refine (walk a0 cap0 z0 W hc0 hr0 hb0 hm0).mono fun e W' ⟨he, bel⟩ => ?_
  subst he
  exact ⟨_, rfl, _, _, _, [], _, [], hW', trodAll_mk1 (shut_bool Try.underlying4 _), (trodAll_cons_mk (Below.trod lawLaid (by kernel_rfl) (of_decide_eq_true (by kernel_rfl)) k0 bel lt0) trodAll_mk0), rfl, bel.frame _, fun h => by cases h⟩

theorem proved : Rows.FnSerialSaid :=
  OpenClaim.holds_of_wide 3 Try.f3 rfl rfl rfl rfl rfl rfl rfl ⟨rfl, rfl, rfl, rfl, rfl⟩ rfl rfl rfl rfl rfl (by kernel_rfl) Try.func3 (by kernel_rfl)
    (of_decide_eq_true (by kernel_rfl)) (by unfold Func.isWrapper; rw [if_neg (of_decide_eq_false (by kernel_rfl))]; exact ⟨rfl, rfl⟩)
    (fun os started H enc _ => lifted os started H enc)
#print axioms proved
end Go.Proofs.Ytapmeooffmonmaa.lawSerial
