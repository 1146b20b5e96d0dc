/-
  Whatever bytes are given: of a phase model drawn from the first ones, the program tells its validity as the model does; a valid one is none without the last context's weights, and none with a weight that is too great. No condition.
-/
import Derived.Test.YtnkdpogplkomhaaEnt
import Derived.Test.YtnkdpogplkomhaaLif
import Derived.Test.YtnkdpogplkomhaaMak
import Derived.Test.YtnkdpogplkomhaaPq
import Derived.Test.YtnkdpogplkomhaaPv
import Derived.Test.YtnkdpogplkomhaaIpm
import Derived.Test.YtnkdpogplkomhaaChg
import Derived.Test.YtnkdpogplkomhaaOpen
namespace Go.Proofs.Ytnkdpogplkomhaa.lawPhasePart
open Go.ChangeShapes Go.WideShapes Go.ChangeAt Go.RowKit

theorem phOk_less {ids : List Int} {l : List Ctx} {L : List (List Int)} (h : phOk ids l L = true) (h0 : 0 < ids.length) : phOk ids l (L.take (L.length - 1)) = false := by
  have h1 := (okW_parts (phOk_parts h).2.2).1
  have h2 : okW (L.take (L.length - 1)) ids.length = false := by
    simp only [okW, List.length_take, Bool.and_eq_false_iff, decide_eq_false_iff_not]
    exact .inl (by omega)
  simp [phOk, h2]
theorem phOk_bad {ids : List Int} {l : List Ctx} {L : List (List Int)} {k : Nat} (hk : k < L.length) : phOk ids l (L.set k [0, 0, 0, 0, 0, 10]) = false := by
  have h2 : okW (L.set k [0, 0, 0, 0, 0, 10]) ids.length = false := okW_not (k := k) (r := [0, 0, 0, 0, 0, 10]) (by rw [List.getElem?_set_self hk]) (by decide)
  simp [phOk, h2]
theorem place_mod (y n : Nat) (h : 0 < n) : ∃ k : Nat, k < n ∧ (y : Int) % (n : Int) = (k : Int) ∧ (y : Int).tmod (n : Int) = (k : Int) := ⟨y % n, Nat.mod_lt _ h, rfl, rfl⟩
set_option maxHeartbeats 2000000 in
set_option maxRecDepth 100000 in
theorem walk_short (A : Option Addr) (c : Nat) (z : List Int) (B : Option Addr) (cb : Nat) (y : List Int) (w : World) (h : Bytes w A c z) (_ : Bytes w B cb y) (hn : z.length ≤ 1048576) (hy : y.length ≤ 1048576) :
    Calls Try.prog 7 #[.slice A z.length c, .slice B y.length cb] w fun e w2 => e = .returned (.bool true) ∧ Below w.heap.size w w2 := by
  have e0 : decide ((1048576 : Int) < (z.length : Int)) = false := decide_eq_false (by omega)
  have e1 : decide ((1048576 : Int) < (y.length : Int)) = false := decide_eq_false (by omega)
  go_enter Try.func7, Try.ntmps7
  go_wp2_with fail
  refine (dPhV_any A c z _ h).mono ?_
  rintro e w2 ⟨v1, v2, C, cc, ids, l, L, rfl, ho1, ho2, hN, hcc, hl1, hl2, hl3, hrw, hb2⟩
  obtain ⟨A1, c1, hv1, hcap1, hr1⟩ := own_slice ho1
  obtain ⟨A2, c2, hv2, hcap2, hr2⟩ := own_slice ho2
  subst hv1 hv2
  have hrw9 : ∀ r ∈ L, r.length ≤ 1000000000 := fun r hr => by have := hrw r hr; omega
  have HR := Lib.hid (And.intro hb2 (And.intro hr1 (And.intro hr2 (And.intro hN hrw9))))
  clear ho1 ho2 hb2 h hr1 hr2 hN hrw hrw9
  obtain ⟨ok, hok⟩ : ∃ ok : Bool, ok = phOk ids l L := ⟨_, rfl⟩
  have HOK := Lib.hid hok
  have eo : (ok != ok) = false := by simp
  have eo2 : (ok == ok) = true := by simp
  clear hok
  go_wp2_with fail
  refine (iPhValid_any _ _ _ _ _ _ ids l L _ HR.out.2.1 HR.out.2.2.1 HR.out.2.2.2.1 (by omega) (by omega) (by omega) HR.out.2.2.2.2).mono ?_
  rintro e w3 ⟨rfl, hb3⟩
  rw [← HOK.out]
  have H3 := Lib.hid hb3
  clear hb3
  go_wp2_with fail
  refine (sPhValid_any _ _ _ _ _ _ ids l L _ (HR.out.2.1.step H3.out) (HR.out.2.2.1.step H3.out) (HR.out.2.2.2.1.step H3.out) (by omega) (by omega) (by omega) HR.out.2.2.2.2).mono ?_
  rintro e w4 ⟨rfl, hb4⟩
  rw [← HOK.out]
  have k4 := below_step H3.out hb4
  have R := Lib.hid (And.intro (HR.out.2.1.step k4) (And.intro (HR.out.2.2.1.step k4) (And.intro (HR.out.2.2.2.1.step k4) (And.intro (below_step HR.out.1 k4) HR.out.2.2.2.2))))
  clear hb4 k4
  cases ok
  · go_wp2_with fail
    go_ret
    exact ⟨rfl, R.out.2.2.2.1⟩
  · by_cases h0 : ids.length = 0
    · have e2 : ((ids.length : Int) == 0) = true := by simp [h0]
      have H0 := Lib.hid h0
      clear h0
      go_wp2_with fail
      go_ret
      exact ⟨rfl, R.out.2.2.2.1⟩
    · have e2 : ((ids.length : Int) == 0) = false := by rw [beq_eq_false_iff_ne]; omega
      have hpos : 0 < ids.length := by omega
      obtain ⟨k, hk, m1, m2⟩ := place_mod y.length ids.length hpos
      have hLl : L.length = ids.length := (okW_parts (phOk_parts HOK.out.symm).2.2).1
      have hkL : k < L.length := by omega
      obtain ⟨q, hq⟩ : ∃ q, q + 1 = L.length := ⟨L.length - 1, by omega⟩
      have hL1 : (L.length : Int) - 1 = (q : Int) := by omega
      have hcc1 : (q : Int) ≤ (cc : Int) := by omega
      have hqn : q ≤ L.length := by omega
      obtain ⟨go, off, hgo, _, _⟩ : ∃ b off, C = some ⟨b, off, none⟩ ∧ b < w4.heap.size ∧ True := by
        obtain ⟨_, vs, h2, _⟩ := R.out.2.2.1
        obtain ⟨b, off, e, hb, _⟩ := h2.2 (by omega)
        exact ⟨b, off, e, hb, trivial⟩
      subst hgo
      have hT : (L.take q).length = q := by simp; omega
      have hB1 : phOk ids l (L.take q) = false := by
        have := phOk_less HOK.out.symm hpos
        rw [show L.length - 1 = q by omega] at this
        exact this
      have hP1 := iPhValid_any A1 A2 (some ⟨go, off, none⟩) c1 c2 cc ids l (L.take q) w4 R.out.1 R.out.2.1 (by rw [hT]; exact nest_take R.out.2.2.1 hqn) (by omega) (by omega) (by omega) (fun r hr => R.out.2.2.2.2 r (List.mem_of_mem_take hr))
      rw [hT, hB1] at hP1
      have hC1 := fun (W : World) (A8 : Option Addr) (c8 : Nat) (bW : Below w4.heap.size w4 W) (h8 : Reads W W.heap.size 1 A8 6 (([0, 0, 0, 0, 0, 10] : List Int).map (Value.int .i64))) (h6 : 6 ≤ c8) => chg_any (some ⟨go, off, none⟩) A8 cc k c8 L [0, 0, 0, 0, 0, 10] W (R.out.2.2.1.step bW) (by omega) hkL h8 h6
      have hB2 : phOk ids l (L.set k [0, 0, 0, 0, 0, 10]) = false := phOk_bad hkL
      have hS : (L.set k [0, 0, 0, 0, 0, 10]).length = L.length := by simp
      have hP2 := fun (W : World) (B2 : Option Addr) (cb2 : Nat) (bW : Below w4.heap.size w4 W) (hN2 : Nest (Value.int .i64) W W.heap.size B2 L.length (L.set k [0, 0, 0, 0, 0, 10])) => iPhValid_any A1 A2 B2 c1 c2 cb2 ids l (L.set k [0, 0, 0, 0, 0, 10]) W (R.out.1.step bW) (R.out.2.1.step bW) (by rw [hS]; exact hN2) (by omega) (by omega) (by omega) (fun r hr => by
        rcases List.mem_or_eq_of_mem_set hr with h | h
        · exact R.out.2.2.2.2 r h
        · subst h; simp)
      simp only [hB2, hS] at hP2
      have HP := Lib.hid (And.intro hP1 (And.intro hC1 hP2))
      have HL := Lib.hid hLl
      have HQ := Lib.hid (And.intro hq hT)
      clear hP1 hC1 hP2 hLl hB1 hB2 hS hT hq h0
      go_wp2_with fail
      refine HP.out.1.mono ?_
      rintro e w5 ⟨rfl, b5⟩
      have b6 : Below w4.heap.size w4 (w5.alloc (.cells #[.int .i64 0, .int .i64 0, .int .i64 0, .int .i64 0, .int .i64 0, .int .i64 10] 3)) := below_step b5 ((Below.refl _ _).alloc (Nat.le_refl _) _)
      have hlit : (w5.alloc (.cells #[.int .i64 0, .int .i64 0, .int .i64 0, .int .i64 0, .int .i64 0, .int .i64 10] 3)).heap[w5.heap.size]? = some (.cells #[.int .i64 0, .int .i64 0, .int .i64 0, .int .i64 0, .int .i64 0, .int .i64 10] 3 (0, 0)) := heap_alloc_new _ _
      have h8 : Reads (w5.alloc (.cells #[.int .i64 0, .int .i64 0, .int .i64 0, .int .i64 0, .int .i64 0, .int .i64 10] 3)) (w5.alloc (.cells #[.int .i64 0, .int .i64 0, .int .i64 0, .int .i64 0, .int .i64 0, .int .i64 10] 3)).heap.size 1 (some ⟨w5.heap.size, 0, none⟩) 6 (([0, 0, 0, 0, 0, 10] : List Int).map (Value.int .i64)) := by
        refine ⟨rfl, fun _ => ⟨w5.heap.size, 0, rfl, by simp, fun j u hu => ?_⟩⟩
        rw [Nat.zero_add, cell_of_row _ _ j _ _ _ hlit]
        simpa using hu
      have HC := Lib.hid (HP.out.2.1 _ _ 6 b6 h8 (Nat.le_refl _))
      have HB := Lib.hid b6
      clear b5 b6 hlit h8
      go_wp2_with fail
      refine HC.out.mono ?_
      rintro e w7 ⟨B2, c7, rfl, h7, hn7, b7⟩
      have b47 := below_step HB.out b7
      have HD := Lib.hid (And.intro (HP.out.2.2 w7 B2 c7 b47 hn7) b47)
      clear b47 b7 hn7
      go_wp2_with fail
      refine HD.out.1.mono ?_
      rintro e w8 ⟨rfl, b8⟩
      have HE := Lib.hid (below_step R.out.2.2.2.1 (below_step HD.out.2 b8))
      clear b8
      go_wp2_with fail
      go_ret
      exact ⟨rfl, HE.out⟩

theorem walk (A : Option Addr) (c : Nat) (z : List Int) (B : Option Addr) (cb : Nat) (y : List Int) (w : World) (hc : z.length ≤ c) (hr : Reads w w.heap.size 1 A z.length (cellsB z)) (hz : ∀ b ∈ z, 0 ≤ b ∧ b ≤ 255) (hm : c ≤ maxLen)
    (hc2 : y.length ≤ cb) (hr2 : Reads w w.heap.size 1 B y.length (cellsB y)) (hz2 : ∀ b ∈ y, 0 ≤ b ∧ b ≤ 255) (hm2 : cb ≤ maxLen) :
    Calls Try.prog 7 #[.slice A z.length c, .slice B y.length cb] w fun e w2 => e = .returned (.bool true) ∧ Below w.heap.size w w2 := by
  by_cases hn : z.length ≤ 1048576
  · by_cases hy : y.length ≤ 1048576
    · exact walk_short A c z B cb y w (Bytes.mk_ hc hr hz hm) (Bytes.mk_ hc2 hr2 hz2 hm2) hn hy
    · have e0 : decide ((1048576 : Int) < (z.length : Int)) = false := decide_eq_false (by omega)
      have e1 : decide ((1048576 : Int) < (y.length : Int)) = true := decide_eq_true (by omega)
      go_enter Try.func7, Try.ntmps7
      go_wp2_with fail
      go_ret
      exact ⟨rfl, Below.refl _ _⟩
  · have e0 : decide ((1048576 : Int) < (z.length : Int)) = true := decide_eq_true (by omega)
    go_enter Try.func7, Try.ntmps7
    go_wp2_with fail
    go_ret
    exact ⟨rfl, Below.refl _ _⟩

set_option linter.unusedVariables false
set_option maxRecDepth 100000 in
theorem lifted (os : Os) (started : os.Started) (H : Type) (enc : TypeId × Value → H) :
    ReturnsInHanded {} Try.checked os 7 .any (Rows.fnPhasePartSpec.pre6 enc Try.prog Try.f7 Rows.fnPhasePartRow.domain false) (Rows.fnPhasePartSpec.post enc Try.prog Try.f7 false true false false) := by
  refine returnsInHanded_of_change (C := Try.checked) lawOwn started (by kernel_rfl) Try.func7
    (ChangeSpec.witness6 (enc := enc) (C := Try.checked) false ⟨#[], #[.slice none 0 0, .slice none 0 0], []⟩ 8 (by kernel_rfl) (by kernel_rfl) (by kernel_rfl) (by kernel_rfl)) ?_
  intro W base args ds gs before hval0 hW hcnd _
  have hval : ∀ (j : Nat) t v, Try.f7.params[j]? = some t → args[j]? = some v → Value.okWide Try.prog W .any base t v := hval0
  have hW' := hW
  obtain ⟨p, q, hA0, hV, rfl, hfz, hnd⟩ := hW
  have hA : DataW.TrodAll enc Try.prog W 0 (fun _ => true) true Try.f7.params.toList args.toList ds p := hA0
  rw [Try.params7] at hA hval
  obtain ⟨v0, vs0, d0, ds0, p0, q0, hargs, rfl, rfl, h0, r0⟩ := trodAll_cons hA
  obtain ⟨v1, vs1, d1, ds1, p1, q1, rfl, rfl, rfl, h1, r1⟩ := trodAll_cons r0
  obtain ⟨rfl, rfl, rfl⟩ := trodAll_nil r1
  obtain rfl : args = #[v0, v1] := by cases args; simp_all
  obtain ⟨rfl, rfl⟩ := trodVars_none hV
  have k0 := h0
  have lt0 : ∀ x ∈ p0, x.block < W.heap.size := by obtain ⟨m, hm⟩ := k0; exact DataW.trod_lt m _ _ _ hm
  obtain ⟨a0, len0, cap0, rfl⟩ := okWide_slice Try.underlying22 (hval 0 22 v0 rfl rfl)
  obtain ⟨z0, hl0, hc0, hr0, hb0, hm0⟩ : ∃ z : List Int, len0 = z.length ∧ len0 ≤ cap0 ∧ Reads W W.heap.size 1 a0 len0 (cellsB z) ∧ (∀ b ∈ z, 0 ≤ b ∧ b ≤ 255) ∧ cap0 ≤ maxLen := by
    obtain ⟨fuel, hf⟩ := h0
    exact open_bytes Try.underlying22 Try.underlying5 (by kernel_rfl) (by simpa [Value.cells] using hf)
  subst hl0
  have k1 := h1
  have lt1 : ∀ x ∈ p1, x.block < W.heap.size := by obtain ⟨m, hm⟩ := k1; exact DataW.trod_lt m _ _ _ hm
  obtain ⟨a1, len1, cap1, rfl⟩ := okWide_slice Try.underlying22 (hval 1 22 v1 rfl rfl)
  obtain ⟨z1, hl1, hc1, hr1, hb1, hm1⟩ : ∃ z : List Int, len1 = z.length ∧ len1 ≤ cap1 ∧ Reads W W.heap.size 1 a1 len1 (cellsB z) ∧ (∀ b ∈ z, 0 ≤ b ∧ b ≤ 255) ∧ cap1 ≤ maxLen := by
    obtain ⟨fuel, hf⟩ := h1
    exact open_bytes Try.underlying22 Try.underlying5 (by kernel_rfl) (by simpa [Value.cells] using hf)
  subst hl1
  clear hA0 hval0
  refine (walk a0 cap0 z0 a1 cap1 z1 W hc0 hr0 hb0 hm0 hc1 hr1 hb1 hm1).mono fun e W' ⟨he, bel⟩ => ?_
  subst he
  exact ⟨_, rfl, _, _, _, [], _, [], hW', trodAll_mk1 (shut_bool Try.underlying4 _), (trodAll_cons_mk (Below.trod lawLaid (by kernel_rfl) (of_decide_eq_true (by kernel_rfl)) k0 bel lt0) (trodAll_cons_mk (Below.trod lawLaid (by kernel_rfl) (of_decide_eq_true (by kernel_rfl)) k1 bel lt1) trodAll_mk0)), rfl, bel.frame _, fun h => by cases h⟩

theorem closed : joinedFacts Try.checked.prog 7 Try.f7 Rows.fnPhasePartSpec Rows.fnPhasePartRow = true := by
  unfold joinedFacts
  repeat (refine and_t ?_ (by first | (with_reducible exact ent) | (with_reducible refine lif_c ?_; kernel_rfl) | (with_reducible refine mak_c ?_; kernel_rfl) | kernel_rfl))
  kernel_rfl
theorem proved : Rows.FnPhasePartSaid :=
  OpenClaim.holds_of_wide 7 Try.f7 rfl rfl rfl rfl rfl rfl rfl ⟨rfl, rfl, rfl, rfl, rfl⟩ rfl rfl rfl rfl rfl (by kernel_rfl) Try.func7 closed
    (of_decide_eq_true (by kernel_rfl)) (by unfold Func.isWrapper; rw [if_neg (of_decide_eq_false (by kernel_rfl))]; exact ⟨rfl, rfl⟩)
    (fun os started H enc _ => lifted os started H enc)
#print axioms proved
end Go.Proofs.Ytnkdpogplkomhaa.lawPhasePart
