/-
  Whatever bytes are given: of contexts and relations drawn from them, the program counts as many orders as the model; if it counts, there is at least one, and at most as many as without relations: the factorial of the number of contexts. No condition.
-/
import Derived.Test.YtmcnjmflmpfjlaaEnt
import Derived.Test.YtmcnjmflmpfjlaaLif
import Derived.Test.YtmcnjmflmpfjlaaMak
import Derived.Test.YtmcnjmflmpfjlaaDk
import Derived.Test.YtmcnjmflmpfjlaaIc
import Derived.Test.YtmcnjmflmpfjlaaDq
import Derived.Test.YtmcnjmflmpfjlaaOpen
import Derived.Deep.RegionHeld3
namespace Go.Proofs.Ytmcnjmflmpfjlaa.lawDigCount
open Go.ChangeShapes Go.WideShapes Go.ChangeAt Go.RowKit

set_option maxHeartbeats 2000000 in
set_option maxRecDepth 100000 in
theorem walk_short (A : Option Addr) (c : Nat) (z : List Int) (w : World) (h : Bytes w A c z) (hn : z.length ≤ 1048576) :
    Calls Try.prog 10 #[.slice A z.length c] w fun e w2 => e = .returned (.bool true) ∧ Below w.heap.size w w2 := by
  have e0 : decide ((1048576 : Int) < (z.length : Int)) = false := decide_eq_false (by omega)
  go_enter Try.func10, Try.ntmps10
  go_wp2_with fail
  refine (dDigCnt_any A c z _ h).mono ?_
  rintro e w2 ⟨v1, v2, ids, l, rfl, ho1, ho2, hl1, hl2, hb2⟩
  obtain ⟨A1, c1, hv1, hcap1, hr1⟩ := own_slice ho1
  obtain ⟨A2, c2, hv2, hcap2, hr2⟩ := own_slice ho2
  subst hv1 hv2
  have HR := Lib.hid (And.intro hb2 (And.intro hr1 hr2))
  clear ho1 ho2 hb2 h hr1 hr2
  obtain ⟨n, hnc⟩ : ∃ n : Int, n = cntG ids l := ⟨_, rfl⟩
  have HC := Lib.hid hnc
  have eo : (n != n) = false := by simp
  have eo2 : (n == n) = true := by simp
  clear hnc
  go_wp2_with fail
  refine (iDigCount_any _ _ _ _ ids l _ HR.out.2.1 HR.out.2.2 (by omega) (by omega)).mono ?_
  rintro e w3 ⟨rfl, hb3⟩
  rw [← HC.out]
  have H3 := Lib.hid hb3
  clear hb3
  go_wp2_with fail
  refine (sDigCount_any _ _ _ _ ids l _ (HR.out.2.1.step H3.out) (HR.out.2.2.step H3.out) (by omega) (by omega)).mono ?_
  rintro e w4 ⟨rfl, hb4⟩
  rw [← HC.out]
  have k4 := below_step H3.out hb4
  have R := Lib.hid (And.intro (HR.out.2.1.step k4) (And.intro (HR.out.2.2.step k4) (below_step HR.out.1 k4)))
  clear hb4 k4
  by_cases h0 : n < 0
  · have e1 : decide (n < 0) = true := decide_eq_true h0
    clear h0
    go_wp2_with fail
    go_ret
    exact ⟨rfl, R.out.2.2⟩
  · have e1 : decide (n < 0) = false := decide_eq_false h0
    rw [HC.out] at h0
    obtain ⟨hoo, h6, _⟩ := cnt_ok h0
    obtain ⟨hr1, hr2⟩ := cnt_range h0
    have hv := (okG_parts (ordOk_ok hoo)).1
    have hnone := cnt_none hv h6
    rw [← HC.out] at hr1 hr2
    have e2 : decide (n ≥ 1) = true := decide_eq_true hr1
    have e3 : decide (n ≤ ((factN ids.length : Nat) : Int)) = true := decide_eq_true hr2
    have hf := fact_le h6
    have hmono : ∀ k, k ≤ ids.length → factN k ≤ 720 := fun k hk => fact_le (by omega)
    have HN := Lib.hid (And.intro hnone hmono)
    clear h0 hoo hv hnone hr1 hr2 hmono
    go_wp2_with fail
    go_loop [7, 8] (fun v i => ∃ k : Nat, 1 ≤ k ∧ (k ≤ ids.length ∨ k = 1) ∧ i = .int .i64 ((k : Int) + 1) ∧ v = .int .i64 (factN k : Nat)) (fun _ i => 10 - (intOf i).toNat)
    case atStart => exact ⟨1, Nat.le_refl _, .inr rfl, rfl, rfl⟩
    case round =>
      obtain ⟨k, hk1, hk, rfl, rfl⟩ := hrel
      by_cases hkk : k + 1 ≤ ids.length
      · have e4 : decide ((k : Int) + 1 ≤ (ids.length : Int)) = true := decide_eq_true (by omega)
        have hnx : ((factN (k + 1) : Nat) : Int) = (factN k : Int) * ((k : Int) + 1) := by
          rw [factN, Nat.mul_comm]
          push_cast
          rfl
        have hb1 := HN.out.2 (k + 1) hkk
        have hb2 : (factN k : Int) * ((k : Int) + 1) ≤ 720 := by rw [← hnx]; omega
        have hb3 : 0 ≤ (factN k : Int) * ((k : Int) + 1) := by rw [← hnx]; omega
        obtain ⟨f, hf2⟩ : ∃ f, f = factN k := ⟨_, rfl⟩
        rw [← hf2] at hnx hb2 hb3 ⊢
        have HX := Lib.hid hnx
        clear hnx hf2 hb1
        go_wp2_with fail
        go_round
        case rel => exact ⟨k + 1, by omega, .inl hkk, by go_num, by rw [HX.out]⟩
        case measure => simp [intOf]; omega
      · have e4 : decide ((k : Int) + 1 ≤ (ids.length : Int)) = false := decide_eq_false (by omega)
        have hfk : factN k = factN ids.length := by
          rcases hk with hk | hk
          · have : k = ids.length := by omega
            rw [this]
          · have : ids.length = 0 ∨ ids.length = 1 := by omega
            rcases this with h | h <;> rw [hk, h] <;> rfl
        rw [hfk]
        have be : Below w4.heap.size w4 (w4.alloc (.cells #[] 44)) := (Below.refl _ _).alloc (Nat.le_refl _) _
        have hre : Reads (w4.alloc (.cells #[] 44)) (w4.alloc (.cells #[] 44)).heap.size 3 (some ⟨w4.heap.size, 0, none⟩) ([] : List Ctx).length (cellsC []) := own_reads (own_empty (w := w4) (base := w4.heap.size) (e := 44) (size := 3) (Nat.le_refl _) rfl)
        have hcn := iDigCount_any _ _ c1 0 ids [] _ (R.out.1.step be) hre (by omega) (by simp)
        rw [HN.out.1] at hcn
        obtain ⟨f, hf2⟩ : ∃ f, f = factN ids.length := ⟨_, rfl⟩
        rw [← hf2] at hcn e3 ⊢
        have ef : ((f : Int) == (f : Int)) = true := by simp
        have HX := Lib.hid (And.intro hcn be)
        clear hfk be hre hcn hf2
        go_wp2_with (go_at_call 38; go_must (refine HX.out.1.mono ?_); rintro e w8 ⟨rfl, hb8⟩)
        go_ret
        exact ⟨rfl, below_step R.out.2.2 (below_step HX.out.2 hb8)⟩

theorem walk (A : Option Addr) (c : Nat) (z : List Int) (w : World) (h1 : z.length ≤ c) (h2 : Reads w w.heap.size 1 A z.length (cellsB z)) (h3 : ∀ b ∈ z, 0 ≤ b ∧ b ≤ 255) (h4 : c ≤ maxLen) :
    Calls Try.prog 10 #[.slice A z.length c] w fun e w2 => e = .returned (.bool true) ∧ Below w.heap.size w w2 := by
  by_cases hn : z.length ≤ 1048576
  · exact walk_short A c z w (Bytes.mk_ h1 h2 h3 h4) hn
  · have e0 : decide ((1048576 : Int) < (z.length : Int)) = true := decide_eq_true (by omega)
    go_enter Try.func10, Try.ntmps10
    go_wp2_with fail
    go_ret
    exact ⟨rfl, Below.refl _ _⟩

set_option linter.unusedVariables false
set_option maxRecDepth 100000 in
theorem lifted (os : Os) (started : os.Started) (H : Type) (enc : TypeId × Value → H) :
    ReturnsInHanded {} Try.checked os 10 .any (Rows.fnDigCountSpec.pre6 enc Try.prog Try.f10 Rows.fnDigCountRow.domain false) (Rows.fnDigCountSpec.post enc Try.prog Try.f10 false true false false) := by
  refine returnsInHanded_of_change (C := Try.checked) lawOwn started (by kernel_rfl) Try.func10
    (ChangeSpec.witness6 (enc := enc) (C := Try.checked) false ⟨#[], #[.slice none 0 0], []⟩ 8 (by kernel_rfl) (by kernel_rfl) (by kernel_rfl) (by kernel_rfl)) ?_
  intro W base args ds gs before hval0 hW hcnd _
  have hval : ∀ (j : Nat) t v, Try.f10.params[j]? = some t → args[j]? = some v → Value.okWide Try.prog W .any base t v := hval0
  have hW' := hW
  obtain ⟨p, q, hA0, hV, rfl, hfz, hnd⟩ := hW
  have hA : DataW.TrodAll enc Try.prog W 0 (fun _ => true) true Try.f10.params.toList args.toList ds p := hA0
  rw [Try.params10] at hA hval
  obtain ⟨v0, vs0, d0, ds0, p0, q0, hargs, rfl, rfl, h0, r0⟩ := trodAll_cons hA
  obtain ⟨rfl, rfl, rfl⟩ := trodAll_nil r0
  obtain rfl : args = #[v0] := by cases args; simp_all
  obtain ⟨rfl, rfl⟩ := trodVars_none hV
  have k0 := h0
  have lt0 : ∀ x ∈ p0, x.block < W.heap.size := by obtain ⟨m, hm⟩ := k0; exact DataW.trod_lt m _ _ _ hm
  obtain ⟨a0, len0, cap0, rfl⟩ := okWide_slice Try.underlying22 (hval 0 22 v0 rfl rfl)
  obtain ⟨z0, hl0, hc0, hr0, hb0, hm0⟩ : ∃ z : List Int, len0 = z.length ∧ len0 ≤ cap0 ∧ Reads W W.heap.size 1 a0 len0 (cellsB z) ∧ (∀ b ∈ z, 0 ≤ b ∧ b ≤ 255) ∧ cap0 ≤ maxLen := by
    obtain ⟨fuel, hf⟩ := h0
    exact open_bytes Try.underlying22 Try.underlying5 (by kernel_rfl) (by simpa [Value.cells] using hf)
  subst hl0
  clear hA0 hval0
  refine (walk a0 cap0 z0 W hc0 hr0 hb0 hm0).mono fun e W' ⟨he, bel⟩ => ?_
  subst he
  exact ⟨_, rfl, _, _, _, [], _, [], hW', trodAll_mk1 (shut_bool Try.underlying4 _), (trodAll_cons_mk (Below.trod lawLaid (by kernel_rfl) (of_decide_eq_true (by kernel_rfl)) k0 bel lt0) trodAll_mk0), rfl, bel.frame _, fun h => by cases h⟩

theorem closed : joinedFacts Try.checked.prog 10 Try.f10 Rows.fnDigCountSpec Rows.fnDigCountRow = true := by
  unfold joinedFacts
  repeat (refine and_t ?_ (by first | (with_reducible exact ent) | (with_reducible refine lif_c ?_; kernel_rfl) | (with_reducible refine mak_c ?_; kernel_rfl) | kernel_rfl))
  kernel_rfl
theorem proved : Rows.FnDigCountSaid :=
  OpenClaim.holds_of_wide 10 Try.f10 rfl rfl rfl rfl rfl rfl rfl ⟨rfl, rfl, rfl, rfl, rfl⟩ rfl rfl rfl rfl rfl (by kernel_rfl) Try.func10 closed
    (of_decide_eq_true (by kernel_rfl)) (by unfold Func.isWrapper; rw [if_neg (of_decide_eq_false (by kernel_rfl))]; exact ⟨rfl, rfl⟩)
    (fun os started H enc _ => lifted os started H enc)
#print axioms proved
end Go.Proofs.Ytmcnjmflmpfjlaa.lawDigCount
