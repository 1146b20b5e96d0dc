/- What the model's reading of a word returns. -/
import Derived.Test.YtbbjdpmffokcfaaDoorSn
import Derived.Test.YtbbjdpmffokcfaaDoorP1
namespace Go.Proofs.YtbbjdpmffokcfaaDoor
open Go.RowKit

def two (a : UInt8) (t : List UInt8) : Option (List UInt8 × List UInt8) := match cutL a t with
  | [x, y] => some (x, y)
  | _ => none
def wordF (t : List UInt8) : Ctx := match two 62 t with
  | some p => ⟨numF p.1, numF p.2, 1⟩
  | none => match two 61 t with
    | some p => ⟨numF p.1, numF p.2, 2⟩
    | none => ⟨0, 0, 0⟩
theorem two_some {a : UInt8} {t : List UInt8} (h : (cutL a t).length = 2) : ∃ x y, cutL a t = [x, y] ∧ two a t = some (x, y) := by
  unfold two
  match hc : cutL a t, h with
  | [x, y], _ => exact ⟨x, y, rfl, rfl⟩
theorem two_none {a : UInt8} {t : List UInt8} (h : (cutL a t).length ≠ 2) : two a t = none := by
  unfold two
  split
  · rename_i x y he
    rw [he] at h
    exact absurd rfl h
  · rfl
theorem sNum_same (t : List UInt8) (hl : t.length ≤ 2000000) (w : World) : Calls Tryd.prog 45 #[.string (txt t)] w fun e w2 => e = .returned (.int .i64 (numF t)) ∧ w2 = w :=
  (sNum_any t w hl).mono fun _ _ ⟨h1, h2⟩ => ⟨h1, h2.symm⟩
theorem sCut62 (t : List UInt8) (w : World) (hl : t.length ≤ 2000000) : Calls Tryd.prog 32 #[.string (txt t), .int .u8 62] w (MadeS w (cutL 62 t)) := sCut_any t 62 w hl
theorem sCut61 (t : List UInt8) (w : World) (hl : t.length ≤ 2000000) : Calls Tryd.prog 32 #[.string (txt t), .int .u8 61] w (MadeS w (cutL 61 t)) := sCut_any t 61 w hl
theorem sCut32 (t : List UInt8) (w : World) (hl : t.length ≤ 2000000) : Calls Tryd.prog 32 #[.string (txt t), .int .u8 32] w (MadeS w (cutL 32 t)) := sCut_any t 32 w hl
/-- A list of texts, as it is read. -/
theorem Reads.strs {w : World} {B n : Nat} {A : Option Addr} {ws : List (List UInt8)} (h : Reads w B 1 A n (ws.map strV)) (hn : 0 < n) : ∃ b off, A = some ⟨b, off, none⟩ ∧ b < B ∧ ∀ (k : Nat) (x : List UInt8), ws[k]? = some x → w.cell? ⟨b, off + k, none⟩ = some (.string (txt x)) := by
  obtain ⟨b, off, e, hb, hc⟩ := h.2 hn
  exact ⟨b, off, e, hb, fun k x hk => hc k _ (by rw [List.getElem?_map, hk]; rfl)⟩
/-- The result's block, and the table's. -/
def Rm (w W : World) : Prop := Below (w.heap.size + 2) ((w.alloc (.cells #[.int .i64 0, .int .i64 0, .int .i64 0] 45)).alloc (.cells #[.string ⟨#[62]⟩, .string ⟨#[61]⟩] 9)) W
section
variable {w W W2 : World}
theorem Rm.step (h : Rm w W) (k : Below W.heap.size W W2) : Rm w W2 := Below.trans h (k.mono (by have := Below.size h; simp at this; omega))
theorem Rm.size (h : Rm w W) : w.heap.size + 1 < W.heap.size := by
  have := Below.size h
  simp at this
  omega
theorem Rm.below (h : Rm w W) : Below w.heap.size w W := (((Below.refl _ _).alloc (Nat.le_refl _) _).alloc (by simp) _).trans (Below.mono h (by omega))
theorem Rm.res (h : Rm w W) : W.cell? ⟨w.heap.size, 0, none⟩ = some (.int .i64 0) ∧ W.cell? ⟨w.heap.size, 1, none⟩ = some (.int .i64 0) ∧ W.cell? ⟨w.heap.size, 2, none⟩ = some (.int .i64 0) ∧
    W.frozen? ⟨w.heap.size, 0, none⟩ = false ∧ W.frozen? ⟨w.heap.size, 1, none⟩ = false ∧ W.frozen? ⟨w.heap.size, 2, none⟩ = false := by
  have hb : W.heap[w.heap.size]? = some (.cells #[.int .i64 0, .int .i64 0, .int .i64 0] 45 (0, 0)) :=
    (Below.block h w.heap.size (by omega)).trans ((Below.heap_alloc _ _ _ (by simp)).trans (heap_alloc_new w _))
  exact ⟨cell_of_row _ _ 0 _ _ _ hb, cell_of_row _ _ 1 _ _ _ hb, cell_of_row _ _ 2 _ _ _ hb, frozen_of_row _ _ 0 _ _ hb, frozen_of_row _ _ 1 _ _ hb, frozen_of_row _ _ 2 _ _ hb⟩
theorem Rm.tab (h : Rm w W) : W.cell? ⟨w.heap.size + 1, 0, none⟩ = some (.string ⟨#[62]⟩) ∧ W.cell? ⟨w.heap.size + 1, 1, none⟩ = some (.string ⟨#[61]⟩) := by
  have hb : W.heap[w.heap.size + 1]? = some (.cells #[.string ⟨#[62]⟩, .string ⟨#[61]⟩] 9 (0, 0)) :=
    (Below.block h (w.heap.size + 1) (by omega)).trans (by
      have := heap_alloc_new (w.alloc (.cells #[.int .i64 0, .int .i64 0, .int .i64 0] 45)) (.cells #[.string ⟨#[62]⟩, .string ⟨#[61]⟩] 9)
      simpa using this)
  exact ⟨cell_of_row _ _ 0 _ _ _ hb, cell_of_row _ _ 1 _ _ _ hb⟩
end

set_option maxHeartbeats 4000000 in
set_option maxRecDepth 100000 in
theorem sWord_any (t : List UInt8) (w : World) (hl : t.length ≤ 2000000) :
    Calls Tryd.prog 33 #[.string (txt t)] w fun e w2 => e = .returned (.agg #[.int .i64 (wordF t).id, .int .i64 (wordF t).kind, .int .i64 (wordF t).area]) ∧ Below w.heap.size w w2 := by
  have h0 : Rm w ((w.alloc (.cells #[.int .i64 0, .int .i64 0, .int .i64 0] 45)).alloc (.cells #[.string ⟨#[62]⟩, .string ⟨#[61]⟩] 9)) := Below.refl _ _
  have H0 := Lib.hid h0
  clear h0
  go_enter Tryd.func33, Tryd.ntmps33
  go_wp2_with fail
  go_loopw [4] (fun vi wr => ∃ k : Nat, k ≤ 2 ∧ vi = .int .i64 k ∧ Hid (1 ≤ k → (cutL 62 t).length ≠ 2) ∧ Hid (2 ≤ k → (cutL 61 t).length ≠ 2) ∧ Rm w wr) (fun vi _ => 2 - (intOf vi).toNat)
  case atStart => exact ⟨0, by omega, rfl, fun h => absurd h (by omega), fun h => absurd h (by omega), H0.out⟩
  case round =>
    obtain ⟨k, hk, rfl, K1, K2, hm⟩ := hrel
    have HM := Lib.hid hm
    obtain ⟨t0, t1⟩ := hm.tab
    have hmz := hm.size
    match k, hk with
    | 0, _ =>
      go_wp2_with fail
      refine (sCut62 t _ hl).mono ?_
      rintro e w3 ⟨v, rfl, hb3, ho3⟩
      obtain ⟨Av, cv, hv, hcv, hrv⟩ := Reads.of_own ho3
      subst hv
      have hm3 := HM.out.step hb3
      obtain ⟨r0, r1, r2, f0, f1, f2⟩ := hm3.res
      have hmz3 := hm3.size
      by_cases h2 : (cutL 62 t).length = 2
      · obtain ⟨x, y, hc, ht⟩ := two_some h2
        have HW : Hid (wordF t = ⟨numF x, numF y, 1⟩) := by
          show wordF t = _
          unfold wordF
          rw [ht]
        have hxy := fun z hz => (cutL_mem (a := 62) (t := t) (w := z) hz).1
        rw [hc] at hxy hrv
        have hx := hxy x (by simp)
        have hy := hxy y (by simp)
        obtain ⟨b, off, hA, hbl, hcl⟩ := hrv.strs (by simp)
        subst hA
        have cx := hcl 0 x rfl
        have cy := hcl 1 y rfl
        rw [Nat.add_zero] at cx
        have hcv2 : (2 : Nat) ≤ cv := by omega
        have hw1 : IntKind.i64.wrap 1 = 1 := rfl
        have hw2 : IntKind.i64.wrap 2 = 2 := rfl
        rw [hc]
        clear hc ht h2 hxy hrv hcl ho3
        go_wp2_with fail
        refine region_still_tail 11 (by kernel_rfl) (by kernel_rfl) ?_
        intro W hW hz hb
        simp only [List.take_succ_cons, List.take_zero, List.drop_succ_cons, List.drop_zero]
        repeat (first | still_step | still_call (sNum_same _ (by omega) _))
        refine wpStill_nil ?_
        have hmW := hm3.step hb
        obtain ⟨r0, r1, r2, f0, f1, f2⟩ := hmW.res
        clear hW hz hb
        go_wp2_with fail
        refine bodyPost_ret (v := .agg #[.int .i64 (numF x), .int .i64 (numF y), .int .i64 1]) (by simp [results, Tryd.results33, go_sem, *]) rfl ⟨by rw [HW.out], ?_⟩
        exact ((hmW.below.setCell (Nat.le_refl _) _).setCell (Nat.le_refl _) _).setCell (Nat.le_refl _) _
      · have e2 : (((cutL 62 t).length : Int) == 2) = false := by rw [beq_eq_false_iff_ne]; omega
        have H2 := Lib.hid h2
        clear h2 hrv
        go_wp2_with fail
        go_roundw
        case rel => exact ⟨1, by omega, rfl, fun _ => H2.out, fun h => absurd h (by omega), hm3⟩
        case measure => simp [intOf]
    | 1, _ =>
      go_wp2_with fail
      refine (sCut61 t _ hl).mono ?_
      rintro e w3 ⟨v, rfl, hb3, ho3⟩
      obtain ⟨Av, cv, hv, hcv, hrv⟩ := Reads.of_own ho3
      subst hv
      have hm3 := HM.out.step hb3
      obtain ⟨r0, r1, r2, f0, f1, f2⟩ := hm3.res
      have hmz3 := hm3.size
      by_cases h2 : (cutL 61 t).length = 2
      · obtain ⟨x, y, hc, ht⟩ := two_some h2
        have HW : Hid (wordF t = ⟨numF x, numF y, 2⟩) := by
          show wordF t = _
          unfold wordF
          rw [two_none (K1.out (by omega)), ht]
        have hxy := fun z hz => (cutL_mem (a := 61) (t := t) (w := z) hz).1
        rw [hc] at hxy hrv
        have hx := hxy x (by simp)
        have hy := hxy y (by simp)
        obtain ⟨b, off, hA, hbl, hcl⟩ := hrv.strs (by simp)
        subst hA
        have cx := hcl 0 x rfl
        have cy := hcl 1 y rfl
        rw [Nat.add_zero] at cx
        have hcv2 : (2 : Nat) ≤ cv := by omega
        have hw1 : IntKind.i64.wrap 1 = 1 := rfl
        have hw2 : IntKind.i64.wrap 2 = 2 := rfl
        rw [hc]
        clear hc ht h2 hxy hrv hcl ho3
        go_wp2_with fail
        refine region_still_tail 11 (by kernel_rfl) (by kernel_rfl) ?_
        intro W hW hz hb
        simp only [List.take_succ_cons, List.take_zero, List.drop_succ_cons, List.drop_zero]
        repeat (first | still_step | still_call (sNum_same _ (by omega) _))
        refine wpStill_nil ?_
        have hmW := hm3.step hb
        obtain ⟨r0, r1, r2, f0, f1, f2⟩ := hmW.res
        clear hW hz hb
        go_wp2_with fail
        refine bodyPost_ret (v := .agg #[.int .i64 (numF x), .int .i64 (numF y), .int .i64 2]) (by simp [results, Tryd.results33, go_sem, *]) rfl ⟨by rw [HW.out], ?_⟩
        exact ((hmW.below.setCell (Nat.le_refl _) _).setCell (Nat.le_refl _) _).setCell (Nat.le_refl _) _
      · have e2 : (((cutL 61 t).length : Int) == 2) = false := by rw [beq_eq_false_iff_ne]; omega
        have H2 := Lib.hid h2
        clear h2 hrv
        go_wp2_with fail
        go_roundw
        case rel => exact ⟨2, by omega, rfl, fun _ => K1.out (by omega), fun _ => H2.out, hm3⟩
        case measure => simp [intOf]
    | 2, _ =>
      have HW : Hid (wordF t = ⟨0, 0, 0⟩) := by
        show wordF t = _
        unfold wordF
        rw [two_none (K1.out (by omega)), two_none (K2.out (by omega))]
      obtain ⟨r0, r1, r2, f0, f1, f2⟩ := hm.res
      have hb := hm.below
      clear hm
      go_wp2_with fail
      refine bodyPost_ret (v := .agg #[.int .i64 0, .int .i64 0, .int .i64 0]) (by simp [results, Tryd.results33, go_sem, *]) rfl ⟨by rw [HW.out], ?_⟩
      exact ((hb.setCell (Nat.le_refl _) _).setCell (Nat.le_refl _) _).setCell (Nat.le_refl _) _
end Go.Proofs.YtbbjdpmffokcfaaDoor
