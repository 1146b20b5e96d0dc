/- Whether years agree with an order (a method of the program's order of dates). -/
import Derived.Test.YtnkdpogplkomhaaQq
import Derived.Test.YtnkdpogplkomhaaJj
namespace Go.Proofs.Ytnkdpogplkomhaa
open Go.RowKit

/-- Years agree with what is told directly: none is less than one directly below it, and those of a group are the same. -/
def agreeD (ids : List Int) (l : List Ctx) (Y : List Int) : Bool :=
  (List.range ids.length).all fun i => (List.range ids.length).all fun j => (!sameQ ids l i j || decide (Y.getD i 0 = Y.getD j 0)) && (!dirQ ids l i j || decide (Y.getD j 0 ≤ Y.getD i 0))
section
variable {ids : List Int} {l : List Ctx} {Y : List Int}
theorem agree_iff (hl : Y.length = ids.length) : agreeD ids l Y = true ↔ ∀ (i : Nat) (y : Int), i < ids.length → Y[i]? = some y → ∀ (j : Nat) (z : Int), j < ids.length → Y[j]? = some z → (sameQ ids l i j = true → y = z) ∧ (dirQ ids l i j = true → z ≤ y) := by
  have hat : ∀ {i : Nat}, i < ids.length → Y[i]? = some (Y.getD i 0) := fun hi => by simp [hl, hi]
  simp only [agreeD, List.all_eq_true, List.mem_range, Bool.and_eq_true, Bool.or_eq_true, Bool.not_eq_true', decide_eq_true_eq]
  constructor
  · intro h i y hi hy j z hj hz
    rw [hat hi] at hy
    rw [hat hj] at hz
    injection hy with hy
    injection hz with hz
    subst hy hz
    obtain ⟨h1, h2⟩ := h i hi j hj
    exact ⟨fun e => h1.resolve_left (by rw [e]; simp), fun e => h2.resolve_left (by rw [e]; simp)⟩
  · intro h i hi j hj
    obtain ⟨h1, h2⟩ := h i _ hi (hat hi) j _ hj (hat hj)
    refine ⟨?_, ?_⟩
    · cases e : sameQ ids l i j
      · exact .inl rfl
      · exact .inr (h1 e)
    · cases e : dirQ ids l i j
      · exact .inl rfl
      · exact .inr (h2 e)
theorem agree_not (hl : Y.length = ids.length) {i j : Nat} {y z : Int} (hi : i < ids.length) (hj : j < ids.length) (hy : Y[i]? = some y) (hz : Y[j]? = some z) (h : (sameQ ids l i j = true ∧ y ≠ z) ∨ (dirQ ids l i j = true ∧ y < z)) : agreeD ids l Y = false := by
  cases e : agreeD ids l Y
  · rfl
  · obtain ⟨h1, h2⟩ := (agree_iff hl).1 e i y hi hy j z hj hz
    rcases h with ⟨h3, h4⟩ | ⟨h3, h4⟩
    · exact absurd (h1 h3) h4
    · have := h2 h3; omega
end
set_option maxHeartbeats 4000000 in
set_option maxRecDepth 100000 in
theorem dAgree_any (A A2 A3 D : Option Addr) (ca c2 c3 cd : Nat) (ids : List Int) (l : List Ctx) (Y : List Int) (w : World) (rg : Reads w w.heap.size 1 A2 ids.length (cellsI (groupsG ids l))) (rf : Reads w w.heap.size 1 A3 ids.length (cellsU (rowsN ids.length (dirQ ids l))))
    (hd : Reads w w.heap.size 1 D Y.length (cellsI Y)) (hlen : Y.length = ids.length) (hn12 : ids.length ≤ 12) :
    Calls Try.prog 46 #[.agg #[.slice A ids.length ca, .slice A2 ids.length c2, .slice A3 ids.length c3], .slice D Y.length cd] w fun e w2 => e = .returned (.bool (agreeD ids l Y)) ∧ Below w.heap.size w w2 := by
  obtain ⟨W2, hW2⟩ : ∃ W2, W2 = w.alloc (.cells #[.slice A ids.length ca, .slice A2 ids.length c2, .slice A3 ids.length c3] 73) := ⟨_, rfl⟩
  have bA : Below w.heap.size w W2 := by rw [hW2]; exact (Below.refl w.heap.size w).alloc (Nat.le_refl _) _
  have hs2 : w.heap.size < W2.heap.size := by rw [hW2]; simp
  have hz : W2.heap[w.heap.size]? = some (.cells #[.slice A ids.length ca, .slice A2 ids.length c2, .slice A3 ids.length c3] 73 (0, 0)) := by rw [hW2]; exact heap_alloc_new _ _
  have hE : ∀ (W : World) (i j : Nat), Below W2.heap.size W2 W → i < ids.length → j < ids.length → Calls Try.prog 79 #[.agg #[.slice A ids.length ca, .slice A2 ids.length c2, .slice A3 ids.length c3], .int .i64 (i : Int), .int .i64 (j : Int)] W fun e w2 => e = .returned (.bool (sameQ ids l i j)) ∧ Below W.heap.size W w2 := fun W i j hW hi hj => by
    have hG := groupsG_len ids l
    have h1 := dEqual_any A A2 A3 ids.length ca c2 ids.length c3 (groupsG ids l) i j W (by rw [hG]; exact (rg.step bA).step hW) (by omega) (by omega)
    rw [hG] at h1
    exact h1
  have hF : ∀ (W : World) (i j : Nat), Below W2.heap.size W2 W → i < ids.length → j < ids.length → Calls Try.prog 80 #[.agg #[.slice A ids.length ca, .slice A2 ids.length c2, .slice A3 ids.length c3], .int .i64 (i : Int), .int .i64 (j : Int)] W fun e w2 => e = .returned (.bool (dirQ ids l i j)) ∧ Below W.heap.size W w2 := fun W i j hW hi hj =>
    dAbove_any A A2 A3 ids.length ca ids.length c2 c3 ids.length (dirQ ids l) i j W ((rf.step bA).step hW) hn12 hi hj
  have HR := Lib.hid (And.intro (hd.step bA) hlen)
  have HC := Lib.hid (And.intro hE (And.intro hF (And.intro hz bA)))
  have HY := Lib.hid hlen
  obtain ⟨m, hm⟩ : ∃ m, m = Y.length := ⟨_, rfl⟩
  have hmn : m ≤ 12 := by omega
  have HM := Lib.hid hm
  rw [← hm] at HR ⊢
  have HML : Hid (m = ids.length) := hm.trans hlen
  clear hE hF hz bA rg rf hd hlen hm
  go_enter Try.func46, Try.ntmps46
  go_wp2_with fail
  rw [← hW2]
  clear hW2
  go_loopw [11] (fun i wr => ∃ k : Nat, k ≤ m ∧ i = .int .i64 k ∧ Below W2.heap.size W2 wr ∧ ∀ (i : Nat) (y : Int), i < k → Y[i]? = some y → ∀ (j : Nat) (z : Int), j < ids.length → Y[j]? = some z → (sameQ ids l i j = true → y = z) ∧ (dirQ ids l i j = true → z ≤ y)) (fun i _ => m - (intOf i).toNat)
  case atStart => exact ⟨0, Nat.zero_le _, rfl, Below.refl _ _, fun i y h => absurd h (by omega)⟩
  case round =>
    obtain ⟨k, hk, rfl, hbl, hg⟩ := hrel
    rename World => w6
    have hsz := hbl.size
    by_cases hlt : k < m
    · have hki : (k : Int) < (m : Int) := by omega
      obtain ⟨y, hy⟩ : ∃ y, Y[k]? = some y := ⟨_, List.getElem?_eq_getElem (by have := HM.out; omega)⟩
      have hR2 := HR.out.1.step hbl
      obtain ⟨bY, oY, hAY, hbY, hcY⟩ := (hR2).ints (by omega)
      subst hAY
      have d2 := hcY k y hy
      have HX := Lib.hid (And.intro hbl (And.intro hg hy))
      have H6 := Lib.hid hcY
      clear hcY hg hy hbl hR2
      go_wp2_with fail
      go_loopw [18] (fun i wr => ∃ j : Nat, j ≤ m ∧ i = .int .i64 j ∧ Below w6.heap.size w6 wr ∧ ∀ (j2 : Nat) (z : Int), j2 < j → Y[j2]? = some z → (sameQ ids l k j2 = true → y = z) ∧ (dirQ ids l k j2 = true → z ≤ y)) (fun i _ => m - (intOf i).toNat)
      case atStart => exact ⟨0, Nat.zero_le _, rfl, Below.refl _ _, fun j z h => absurd h (by omega)⟩
      case round =>
        obtain ⟨j, hj, rfl, hbj, hgj⟩ := hrel
        by_cases hjn : j < m
        · have hji : (j : Int) < (m : Int) := by omega
          obtain ⟨z, hzj⟩ : ∃ z, Y[j]? = some z := ⟨_, List.getElem?_eq_getElem (by have := HM.out; omega)⟩
          have d3 := (below_cell hbj _ (oY + j) hbY).trans (H6.out j z hzj)
          have hbW := below_step HX.out.1 hbj
          have hzr := (hbW.block _ hs2).trans HC.out.2.2.1
          have z0 := cell_of_row _ _ 0 _ _ _ hzr
          have z1 := cell_of_row _ _ 1 _ _ _ hzr
          have z2 := cell_of_row _ _ 2 _ _ _ hzr
          have hsz2 : w.heap.size < wr.heap.size := Nat.lt_of_lt_of_le hs2 hbW.size
          have hkn : k < ids.length := by have := HML.out; omega
          have hjd : j < ids.length := by have := HML.out; omega
          have hE := HC.out.1 wr k j hbW hkn hjd
          have hF : ∀ W, Below wr.heap.size wr W → _ := fun W hW => HC.out.2.1 W k j (below_step hbW hW) hkn hjd
          have hkw := below_step HC.out.2.2.2 hbW
          have hno : (sameQ ids l k j = true ∧ y ≠ z) ∨ (dirQ ids l k j = true ∧ y < z) → agreeD ids l Y = false := agree_not HY.out hkn hjd HX.out.2.2 hzj
          have goon : ∀ W : World, Below w6.heap.size w6 W → (sameQ ids l k j = true → y = z) → (dirQ ids l k j = true → z ≤ y) → ∃ j2 : Nat, j2 ≤ m ∧ Value.int .i64 ((j : Int) + 1) = .int .i64 j2 ∧ Below w6.heap.size w6 W ∧ ∀ (j3 : Nat) (z : Int), j3 < j2 → Y[j3]? = some z → (sameQ ids l k j3 = true → y = z) ∧ (dirQ ids l k j3 = true → z ≤ y) := fun W hW q1 q2 => by
            refine ⟨j + 1, by omega, by go_num, hW, fun j3 z2 h3 hz2 => ?_⟩
            rcases (by omega : j3 < j ∨ j3 = j) with h | h
            · exact hgj j3 z2 h hz2
            · subst h
              rw [hzj] at hz2
              injection hz2 with hz2
              subst hz2
              exact ⟨q1, q2⟩
          cases hs : sameQ ids l k j
          · rw [hs] at hE
            cases hd : dirQ ids l k j
            · simp only [hd] at hF
              have HQ := Lib.hid (And.intro hE (And.intro hF (And.intro (goon · · (fun h => by rw [hs] at h; cases h) (fun h => by rw [hd] at h; cases h)) hbj)))
              clear hE hF hno goon hs hd hgj hzj hbW hzr hkw hbj
              go_wp2_with (first
                | (go_at_call 79; go_must (refine HQ.out.1.mono ?_); rintro e w7 ⟨rfl, b7⟩
                   have z0 := (below_cell b7 _ 0 hsz2).trans z0
                   have z1 := (below_cell b7 _ 1 hsz2).trans z1
                   have z2 := (below_cell b7 _ 2 hsz2).trans z2)
                | (go_at_call 80; go_must (refine (HQ.out.2.1 w7 b7).mono ?_); rintro e w8 ⟨rfl, b8⟩))
              go_roundw
              case rel => exact HQ.out.2.2.1 _ (below_step HQ.out.2.2.2 (below_step b7 b8))
              case measure => simp [intOf]; omega
            · simp only [hd] at hF
              by_cases hyz : y < z
              · have e9 : decide (y < z) = true := decide_eq_true hyz
                have HQ := Lib.hid (And.intro hE (And.intro hF (And.intro (hno (.inr ⟨hd, hyz⟩)) hkw)))
                clear hE hF hno goon hs hd hgj hzj hbW hzr hkw hbj hyz
                go_wp2_with (first
                  | (go_at_call 79; go_must (refine HQ.out.1.mono ?_); rintro e w7 ⟨rfl, b7⟩
                     have z0 := (below_cell b7 _ 0 hsz2).trans z0
                     have z1 := (below_cell b7 _ 1 hsz2).trans z1
                     have z2 := (below_cell b7 _ 2 hsz2).trans z2)
                  | (go_at_call 80; go_must (refine (HQ.out.2.1 w7 b7).mono ?_); rintro e w8 ⟨rfl, b8⟩))
                go_ret
                exact ⟨ret_bool HQ.out.2.2.1.symm, below_step HQ.out.2.2.2 (below_step b7 b8)⟩
              · have e9 : decide (y < z) = false := decide_eq_false hyz
                have HQ := Lib.hid (And.intro hE (And.intro hF (And.intro (goon · · (fun h => by rw [hs] at h; cases h) (fun _ => by omega)) hbj)))
                clear hE hF hno goon hs hd hgj hzj hbW hzr hkw hbj hyz
                go_wp2_with (first
                  | (go_at_call 79; go_must (refine HQ.out.1.mono ?_); rintro e w7 ⟨rfl, b7⟩
                     have z0 := (below_cell b7 _ 0 hsz2).trans z0
                     have z1 := (below_cell b7 _ 1 hsz2).trans z1
                     have z2 := (below_cell b7 _ 2 hsz2).trans z2)
                  | (go_at_call 80; go_must (refine (HQ.out.2.1 w7 b7).mono ?_); rintro e w8 ⟨rfl, b8⟩))
                go_roundw
                case rel => exact HQ.out.2.2.1 _ (below_step HQ.out.2.2.2 (below_step b7 b8))
                case measure => simp [intOf]; omega
          · rw [hs] at hE
            by_cases hyz : y = z
            · have e9 : (y != z) = false := by simp [hyz]
              have e8 : decide (y < z) = false := decide_eq_false (by omega)
              obtain ⟨q, hq⟩ : ∃ q, q = dirQ ids l k j := ⟨_, rfl⟩
              simp only [← hq] at hF
              have HQ := Lib.hid (And.intro hE (And.intro hF (And.intro (goon · · (fun _ => hyz) (fun _ => by omega)) hbj)))
              clear hE hF hno goon hs hgj hzj hbW hzr hkw hbj hyz hq
              cases q
              · go_wp2_with (first
                  | (go_at_call 79; go_must (refine HQ.out.1.mono ?_); rintro e w7 ⟨rfl, b7⟩
                     have z0 := (below_cell b7 _ 0 hsz2).trans z0
                     have z1 := (below_cell b7 _ 1 hsz2).trans z1
                     have z2 := (below_cell b7 _ 2 hsz2).trans z2)
                  | (go_at_call 80; go_must (refine (HQ.out.2.1 w7 b7).mono ?_); rintro e w8 ⟨rfl, b8⟩))
                go_roundw
                case rel => exact HQ.out.2.2.1 _ (below_step HQ.out.2.2.2 (below_step b7 b8))
                case measure => simp [intOf]; omega
              · go_wp2_with (first
                  | (go_at_call 79; go_must (refine HQ.out.1.mono ?_); rintro e w7 ⟨rfl, b7⟩
                     have z0 := (below_cell b7 _ 0 hsz2).trans z0
                     have z1 := (below_cell b7 _ 1 hsz2).trans z1
                     have z2 := (below_cell b7 _ 2 hsz2).trans z2)
                  | (go_at_call 80; go_must (refine (HQ.out.2.1 w7 b7).mono ?_); rintro e w8 ⟨rfl, b8⟩))
                go_roundw
                case rel => exact HQ.out.2.2.1 _ (below_step HQ.out.2.2.2 (below_step b7 b8))
                case measure => simp [intOf]; omega
            · have e9 : (y != z) = true := by simp [hyz]
              have HQ := Lib.hid (And.intro hE (And.intro (hno (.inl ⟨hs, hyz⟩)) hkw))
              clear hE hF hno goon hs hgj hzj hbW hzr hkw hbj hyz
              go_wp2_with (go_at_call 79; go_must (refine HQ.out.1.mono ?_); rintro e w7 ⟨rfl, b7⟩)
              go_ret
              exact ⟨ret_bool HQ.out.2.1.symm, below_step HQ.out.2.2 b7⟩
        · have HQ := Lib.hid (And.intro hbj hgj)
          have hjk : j = m := by omega
          have HJ := Lib.hid hjk
          clear hbj hgj hjk
          go_wp2_with fail
          go_roundw
          case rel =>
            refine ⟨k + 1, by omega, by go_num, below_step HX.out.1 HQ.out.1, fun i y2 hi hy2 => ?_⟩
            rcases (by omega : i < k ∨ i = k) with h | h
            · exact HX.out.2.1 i y2 h hy2
            · subst h
              rw [HX.out.2.2] at hy2
              injection hy2 with hy2
              subst hy2
              exact fun j3 z hj3 hz => HQ.out.2 j3 z (by rw [HJ.out, HML.out]; exact hj3) hz
          case measure => simp [intOf]; omega
    · have hkk : k = m := by omega
      have HX := Lib.hid (And.intro hbl (And.intro hg hkk))
      clear hbl hg hkk
      go_wp2_with fail
      go_ret
      exact ⟨ret_bool ((agree_iff HY.out).2 fun i y hi hy => HX.out.2.1 i y (by rw [HX.out.2.2, HML.out]; exact hi) hy).symm, below_step HC.out.2.2.2 HX.out.1⟩
end Go.Proofs.Ytnkdpogplkomhaa
