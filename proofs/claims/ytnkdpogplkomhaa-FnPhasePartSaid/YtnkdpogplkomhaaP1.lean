/- What the program's checks and its order of relations return. -/
import Derived.Test.YtnkdpogplkomhaaRel
import Derived.StillTailTactics
namespace Go.Proofs.Ytnkdpogplkomhaa
open Go.RowKit

theorem iIn_any (n lo hi : Int) (w : World) :
    Calls Try.prog 45 #[.int .i64 n, .int .i64 lo, .int .i64 hi] w fun e w2 => e = .returned (.bool (inR n lo hi)) ∧ w = w2 := by
  go_enter Try.func45, Try.ntmps45
  go_wp2
  all_goals (go_ret; refine ⟨?_, rfl⟩; simp [inR]; try omega)

/-- A region whose first n operations only read and call quietly, and whose others come in one order. -/
theorem region_still_tail {P : Program} {id : Nat} {Q : Exit → Act → World → Prop} {a : Act} {w : World} {l : List Oper} (n : Nat) (hm : P.follows .mixedOrders = true) (hB : Region.lexTailB .any l.toArray n = true)
    (h : ∀ W : World, (∀ p, W.cell? p = w.cell? p) → W.heap.size = w.heap.size → Below w.heap.size w W → wpStill P l.toArray W (fun a' => wpList P l.toArray Q (l.drop n) a' W) (l.take n) a) : (Code.region id l.toArray true).wp P Q a w :=
  wp_region_still_tail n hm hB (h (w.drewN 1) (fun _ => rfl) rfl (below_draws (Below.refl _ _) 1))

/-- The order of two numbers, as -1, 0 or 1. -/
def cmpI (a b : Int) : Int := if a < b then -1 else if b < a then 1 else 0
theorem cmpI_any (a b : Int) (w : World) :
    Calls Try.prog 116 #[.int .i64 a, .int .i64 b] w fun e w2 => e = .returned (.int .i64 (cmpI a b)) ∧ w = w2 := by
  go_enter Try.func116, Try.ntmps116
  go_wp2
  all_goals (go_ret; exact ⟨ret_int (by unfold cmpI; (repeat' split) <;> omega), rfl⟩)

theorem cmpI_same (a b : Int) (w : World) : Calls Try.prog 116 #[.int .i64 a, .int .i64 b] w fun e w2 => e = .returned (.int .i64 (cmpI a b)) ∧ w2 = w :=
  (cmpI_any a b w).mono fun _ _ ⟨h1, h2⟩ => ⟨h1, h2.symm⟩

/-- The first of some numbers that is not 0, or 0. -/
def orL : List Int → Int
  | [] => 0
  | x :: r => if x = 0 then orL r else x
theorem orL_drop (l : List Int) (k : Nat) (hk : k < l.length) (h0 : l[k] = 0) : orL (l.drop k) = orL (l.drop (k + 1)) := by
  rw [List.drop_eq_getElem_cons hk, orL, if_pos h0]
theorem orL_at (l : List Int) (k : Nat) (hk : k < l.length) (h0 : ¬ l[k] = 0) : orL (l.drop k) = l[k] := by
  rw [List.drop_eq_getElem_cons hk, orL, if_neg h0]
theorem or_any (A : Option Addr) (cap : Nat) (l : List Int) (w : World) (hr : Reads w w.heap.size 1 A l.length (cellsI l)) (hl : l.length ≤ 1000000) :
    Calls Try.prog 115 #[.slice A l.length cap] w fun e w2 => e = .returned (.int .i64 (orL l)) ∧ w = w2 := by
  go_enter Try.func115, Try.ntmps115
  go_wp2_with fail
  go_loop [8] (fun i => ∃ k : Nat, k ≤ l.length ∧ i = .int .i64 k ∧ orL l = orL (l.drop k)) (fun i => l.length - (intOf i).toNat)
  case atStart => exact ⟨0, Nat.zero_le _, rfl, rfl⟩
  case round =>
    obtain ⟨k, hk, rfl, ho⟩ := hrel
    have HO := Lib.hid ho; clear ho
    by_cases hlt : k < l.length
    · obtain ⟨b, off, hA, hbl, hc⟩ := hr.ints (by omega)
      subst hA
      have hk0 : l[k]? = some l[k] := List.getElem?_eq_getElem hlt
      have c1 := hc k _ hk0
      clear hc hk0 hr
      by_cases h0 : l[k] = 0
      · have e0 : (l[k] == 0) = true := by simp [h0]
        have HD := Lib.hid (orL_drop l k hlt h0)
        clear h0
        go_wp2_with fail
        go_round
        case rel => exact ⟨k + 1, by omega, by go_num, by rw [HO.out, HD.out]⟩
        case measure => simp [intOf]; omega
      · have e0 : (l[k] == 0) = false := by simp [h0]
        have HD := Lib.hid (orL_at l k hlt h0)
        clear h0
        go_wp2_with fail
        go_ret
        exact ⟨ret_int (by rw [HO.out, HD.out]), rfl⟩
    · go_wp2_with fail
      go_ret
      exact ⟨ret_int (by rw [HO.out, List.drop_of_length_le (by omega)]; rfl), rfl⟩

/-- The order of two relations. -/
def cmpR (a b : Ctx) : Int := orL [cmpI a.id b.id, cmpI a.kind b.kind, cmpI a.area b.area]
theorem cmpR_neg (a b : Ctx) : decide (cmpR a b < 0) = lessR a b := by
  unfold cmpR lessR
  rw [decide_eq_decide]
  simp only [orL, cmpI]
  repeat' split
  all_goals omega
theorem cmpR_zero (a b : Ctx) : cmpR a b = 0 ↔ a = b := by
  constructor
  · intro h
    unfold cmpR at h
    simp only [orL, cmpI] at h
    have : a.id = b.id ∧ a.kind = b.kind ∧ a.area = b.area := by
      revert h
      repeat' split
      all_goals (intro h; omega)
    exact Ctx.ext_ this.1 this.2.1 this.2.2
  · rintro rfl
    simp [cmpR, orL, cmpI]
theorem reads_ints3 {w : World} {x y z : Int} {t : TypeId} {B : Nat} (hB : w.heap.size < B) : Reads (w.alloc (.cells #[.int .i64 x, .int .i64 y, .int .i64 z] t)) B 1 (some ⟨w.heap.size, 0, none⟩) [x, y, z].length (cellsI [x, y, z]) := by
  refine ⟨rfl, fun _ => ⟨_, 0, rfl, hB, fun j u hu => ?_⟩⟩
  rw [cell_of_row _ _ _ _ _ _ (heap_alloc_new _ _)]
  simpa [cellsI] using hu

set_option maxHeartbeats 2000000 in
set_option maxRecDepth 100000 in
theorem cmpR_any (a b : Ctx) (w : World) :
    Calls Try.prog 104 #[.agg #[.int .i64 a.id, .int .i64 a.kind, .int .i64 a.area], .agg #[.int .i64 b.id, .int .i64 b.kind, .int .i64 b.area]] w fun e w2 => e = .returned (.int .i64 (cmpR a b)) ∧ Below w.heap.size w w2 := by
  go_enter Try.func104, Try.ntmps104
  go_wp2_with fail
  refine region_still_tail 15 (by kernel_rfl) (by kernel_rfl) ?_
  intro W hW hz hb
  simp only [List.take_succ_cons, List.take_zero, List.drop_succ_cons, List.drop_zero]
  repeat (first | still_step | still_call (cmpI_same _ _ _))
  refine wpStill_nil ?_
  have k1 : Below w.heap.size w W := below_step (((Below.refl _ _).alloc (Nat.le_refl _) _).alloc (by simp) _) hb
  clear hW hz hb
  go_wp2_with (go_at_call 115; go_must (refine (or_any _ _ [cmpI a.id b.id, cmpI a.kind b.kind, cmpI a.area b.area] _ (reads_ints3 (by simp)) (by simp)).mono ?_); rintro e w2 ⟨rfl, rfl⟩)
  go_ret
  exact ⟨rfl, k1.alloc k1.size _⟩

set_option maxHeartbeats 800000 in
set_option maxRecDepth 100000 in
theorem iRel_any (a b c : Int) (w : World) :
    Calls Try.prog 103 #[.agg #[.int .i64 a, .int .i64 b, .int .i64 c]] w fun e w2 => e = .returned (.bool (okR ⟨a, b, c⟩)) ∧ Below w.heap.size w w2 := by
  have hb := (Below.refl w.heap.size w).alloc (Nat.le_refl _) (.cells #[.int .i64 a, .int .i64 b, .int .i64 c] 111)
  cases h1 : inR a 1 99
  · go_enter Try.func103, Try.ntmps103
    go_wp2_with (go_at_call 45; refine (iIn_any _ _ _ _).mono ?_; rintro e w2 ⟨rfl, rfl⟩)
    all_goals (go_ret; exact ⟨ret_bool (by simp [okR, h1]), (Below.refl _ _).alloc (Nat.le_refl _) _⟩)
  · cases h2 : inR b 1 99
    · go_enter Try.func103, Try.ntmps103
      go_wp2_with (go_at_call 45; refine (iIn_any _ _ _ _).mono ?_; rintro e w2 ⟨rfl, rfl⟩)
      all_goals (go_ret; exact ⟨ret_bool (by simp [okR, h2]), (Below.refl _ _).alloc (Nat.le_refl _) _⟩)
    · have HO : Hid (okR ⟨a, b, c⟩ = (decide (a ≠ b) && (decide (c = 1) || (decide (c = 2) && decide (a < b))))) := by
        show okR ⟨a, b, c⟩ = _
        simp [okR, h1, h2]
      by_cases e1 : c = 1
      · have f1 : (c == 1) = true := by simp [e1]
        have E1 := Lib.hid e1
        clear e1
        go_enter Try.func103, Try.ntmps103
        go_wp2_with (go_at_call 45; refine (iIn_any _ _ _ _).mono ?_; rintro e w2 ⟨rfl, rfl⟩)
        all_goals (go_ret; exact ⟨ret_bool (by rw [HO.out, E1.out]; by_cases h : a = b <;> simp [h]), (Below.refl _ _).alloc (Nat.le_refl _) _⟩)
      · have f1 : (c == 1) = false := by simp [e1]
        have E1 := Lib.hid e1
        by_cases e2 : c = 2
        · have f2 : (c == 2) = true := by simp [e2]
          have E2 := Lib.hid e2
          clear e1 e2
          go_enter Try.func103, Try.ntmps103
          go_wp2_with (go_at_call 45; refine (iIn_any _ _ _ _).mono ?_; rintro e w2 ⟨rfl, rfl⟩)
          all_goals (go_ret; exact ⟨ret_bool (by rw [HO.out, E2.out]; by_cases h : a < b <;> simp [h]; omega), (Below.refl _ _).alloc (Nat.le_refl _) _⟩)
        · have f2 : (c == 2) = false := by simp [e2]
          have E2 := Lib.hid e2
          clear e1 e2
          go_enter Try.func103, Try.ntmps103
          go_wp2_with (go_at_call 45; refine (iIn_any _ _ _ _).mono ?_; rintro e w2 ⟨rfl, rfl⟩)
          all_goals (go_ret; exact ⟨ret_bool (by rw [HO.out]; simp [E1.out, E2.out]), (Below.refl _ _).alloc (Nat.le_refl _) _⟩)
end Go.Proofs.Ytnkdpogplkomhaa
