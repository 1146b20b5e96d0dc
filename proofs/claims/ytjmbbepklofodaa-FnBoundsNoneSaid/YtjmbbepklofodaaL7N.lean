/-
  Whatever bytes are given: of bounds and a context drawn from them, valid bounds without one of the context, the program allows the context all years; its answer is the model's. No condition.
-/
import Derived.Test.YtjmbbepklofodaaYf
import Derived.Test.YtjmbbepklofodaaSt
import Derived.Test.YtjmbbepklofodaaIb
import Derived.Test.YtjmbbepklofodaaOpen
import Derived.Deep.RegionHeld3
namespace Go.Proofs.Ytjmbbepklofodaa.lawBoundsNone
open Go.ChangeShapes Go.WideShapes Go.ChangeAt Go.RowKit

set_option maxHeartbeats 2000000 in
set_option maxRecDepth 100000 in
theorem walk_short (A : Option Addr) (c : Nat) (z : List Int) (w : World) (h : Bytes w A c z) (hn : z.length ≤ 1048576) :
    Calls Try.prog 4 #[.slice A z.length c] w fun e w2 => e = .returned (.bool true) ∧ Below w.heap.size w w2 := by
  have e0 : decide ((1048576 : Int) < (z.length : Int)) = false := decide_eq_false (by omega)
  go_enter Try.func4, Try.ntmps4
  go_wp2_with fail
  refine (dOfB_any A c z _ h).mono ?_
  rintro e w2 ⟨v, l, id, rfl, ⟨ho2, hl, hb2⟩, hid0, hid4⟩
  obtain ⟨Al, cl, hv, hcap, hrl⟩ := own_slice ho2
  subst hv
  go_wp2_with fail
  refine (iBoundsOf_any _ _ l id _ hrl (by omega)).mono ?_
  rintro e w3 ⟨rfl, hb3⟩
  go_wp2_with fail
  refine (sBoundsOf_any _ _ l id _ (hrl.step hb3) (by omega)).mono ?_
  rintro e w4 ⟨rfl, hb4⟩
  have k4 := below_step hb3 hb4
  have hr4 := hrl.step k4
  have HB := Lib.hid (below_step hb2 k4)
  clear hrl ho2 hb2 hb3 hb4 k4 h
  go_wp2_with fail
  refine (sValidB_any _ _ l _ hr4 (by omega)).mono ?_
  rintro e w5 ⟨rfl, hb5⟩
  have hr5 := hr4.step hb5
  clear hr4
  cases hv : validB l
  · go_wp2_with fail
    go_ret
    exact ⟨rfl, below_step HB.out hb5⟩
  · by_cases hid : id < 1
    · have e1 : decide (id < 1) = true := decide_eq_true hid
      go_wp2_with fail
      go_ret
      exact ⟨rfl, below_step HB.out hb5⟩
    · have e1 : decide (id < 1) = false := decide_eq_false hid
      have hid1 : 1 ≤ id := by omega
      clear hid
      go_wp2_with fail
      go_loop [11] (fun i => ∃ k : Nat, k ≤ l.length ∧ i = .int .i64 k ∧ ∀ j (hj : j < l.length), j < k → l[j].id ≠ id) (fun i => l.length - (intOf i).toNat)
      case atStart => exact ⟨0, Nat.zero_le _, rfl, fun j _ h => absurd h (by omega)⟩
      case round =>
        obtain ⟨k, hk, rfl, hg⟩ := hrel
        have HG := Lib.hid hg
        clear hg
        by_cases hlt : k < l.length
        · obtain ⟨b, off, hA, hbl, hc⟩ := hr5.ctx (by omega)
          subst hA
          have hk0 : l[k]? = some l[k] := List.getElem?_eq_getElem hlt
          obtain ⟨c1, c2, c3⟩ := hc k _ hk0
          clear hr5 hk0 hc
          by_cases h1 : l[k].id = id
          · have e2 : (l[k].id == id) = true := by simp [h1]
            clear h1
            go_wp2_with fail
            go_ret
            exact ⟨rfl, below_step HB.out hb5⟩
          · have e2 : (l[k].id == id) = false := by simp [h1]
            have H1 : Hid (l[k].id ≠ id) := h1
            clear h1
            go_wp2_with fail
            go_round
            case rel =>
              refine ⟨k + 1, by omega, by go_num, fun j hj hjk => ?_⟩
              by_cases hj2 : j < k
              · exact HG.out j hj hj2
              · obtain rfl : j = k := by omega
                exact H1.out
            case measure => simp [intOf]; omega
        · have hno : ∀ b ∈ l, b.id ≠ id := by
            intro b hb
            obtain ⟨j, hj, rfl⟩ := List.getElem_of_mem hb
            exact HG.out j hj (by omega)
          have hlo := lowB_none hno
          have hhi := highB_none hno
          have hok : boundsOkG l id = true := by
            simp only [boundsOkG, hv, hlo, hhi, inR, Bool.true_and, Bool.and_eq_true, decide_eq_true_eq]
            omega
          have h2 : boundsLowG l id = 0 := by simp [boundsLowG, hok, hlo]
          have h3 : boundsHighG l id = 999 := by simp [boundsHighG, hok, hhi]
          clear hno hlo hhi
          rw [hok, h2, h3]
          go_wp2_with fail
          go_ret
          exact ⟨rfl, below_step HB.out hb5⟩

theorem walk (A : Option Addr) (c : Nat) (z : List Int) (w : World) (h1 : z.length ≤ c) (h2 : Reads w w.heap.size 1 A z.length (cellsB z)) (h3 : ∀ b ∈ z, 0 ≤ b ∧ b ≤ 255) (h4 : c ≤ maxLen) :
    Calls Try.prog 4 #[.slice A z.length c] w fun e w2 => e = .returned (.bool true) ∧ Below w.heap.size w w2 := by
  by_cases hn : z.length ≤ 1048576
  · exact walk_short A c z w (Bytes.mk_ h1 h2 h3 h4) hn
  · have e0 : decide ((1048576 : Int) < (z.length : Int)) = true := decide_eq_true (by omega)
    go_enter Try.func4, Try.ntmps4
    go_wp2_with fail
    go_ret
    exact ⟨rfl, Below.refl _ _⟩

set_option linter.unusedVariables false
set_option maxRecDepth 100000 in
theorem lifted (os : Os) (started : os.Started) (H : Type) (enc : TypeId × Value → H) :
    ReturnsInHanded {} Try.checked os 4 .any (Rows.fnBoundsNoneSpec.pre6 enc Try.prog Try.f4 Rows.fnBoundsNoneRow.domain false) (Rows.fnBoundsNoneSpec.post enc Try.prog Try.f4 false true false false) := by
  refine returnsInHanded_of_change (C := Try.checked) lawOwn started (by kernel_rfl) Try.func4
    (ChangeSpec.witness6 (enc := enc) (C := Try.checked) false ⟨#[], #[.slice none 0 0], []⟩ 8 (by kernel_rfl) (by kernel_rfl) (by kernel_rfl) (by kernel_rfl)) ?_
  intro W base args ds gs before hval0 hW hcnd _
  have hval : ∀ (j : Nat) t v, Try.f4.params[j]? = some t → args[j]? = some v → Value.okWide Try.prog W .any base t v := hval0
  have hW' := hW
  obtain ⟨p, q, hA0, hV, rfl, hfz, hnd⟩ := hW
  have hA : DataW.TrodAll enc Try.prog W 0 (fun _ => true) true Try.f4.params.toList args.toList ds p := hA0
  rw [Try.params4] at hA hval
  obtain ⟨v0, vs0, d0, ds0, p0, q0, hargs, rfl, rfl, h0, r0⟩ := trodAll_cons hA
  obtain ⟨rfl, rfl, rfl⟩ := trodAll_nil r0
  obtain rfl : args = #[v0] := by cases args; simp_all
  obtain ⟨rfl, rfl⟩ := trodVars_none hV
  have k0 := h0
  have lt0 : ∀ x ∈ p0, x.block < W.heap.size := by obtain ⟨m, hm⟩ := k0; exact DataW.trod_lt m _ _ _ hm
  obtain ⟨a0, len0, cap0, rfl⟩ := okWide_slice Try.underlying22 (hval 0 22 v0 rfl rfl)
  obtain ⟨z0, hl0, hc0, hr0, hb0, hm0⟩ : ∃ z : List Int, len0 = z.length ∧ len0 ≤ cap0 ∧ Reads W W.heap.size 1 a0 len0 (cellsB z) ∧ (∀ b ∈ z, 0 ≤ b ∧ b ≤ 255) ∧ cap0 ≤ maxLen := by
    obtain ⟨fuel, hf⟩ := h0
    exact open_bytes Try.underlying22 Try.underlying5 (by kernel_rfl) (by simpa [Value.cells] using hf)
  subst hl0
  clear hA0 hval0
  refine (walk a0 cap0 z0 W hc0 hr0 hb0 hm0).mono fun e W' ⟨he, bel⟩ => ?_
  subst he
  exact ⟨_, rfl, _, _, _, [], _, [], hW', trodAll_mk1 (shut_bool Try.underlying4 _), (trodAll_cons_mk (Below.trod lawLaid (by kernel_rfl) (of_decide_eq_true (by kernel_rfl)) k0 bel lt0) trodAll_mk0), rfl, bel.frame _, fun h => by cases h⟩

theorem proved : Rows.FnBoundsNoneSaid :=
  OpenClaim.holds_of_wide 4 Try.f4 rfl rfl rfl rfl rfl rfl rfl ⟨rfl, rfl, rfl, rfl, rfl⟩ rfl rfl rfl rfl rfl (by kernel_rfl) Try.func4 (by kernel_rfl)
    (of_decide_eq_true (by kernel_rfl)) (by unfold Func.isWrapper; rw [if_neg (of_decide_eq_false (by kernel_rfl))]; exact ⟨rfl, rfl⟩)
    (fun os started H enc _ => lifted os started H enc)
#print axioms proved
end Go.Proofs.Ytjmbbepklofodaa.lawBoundsNone
