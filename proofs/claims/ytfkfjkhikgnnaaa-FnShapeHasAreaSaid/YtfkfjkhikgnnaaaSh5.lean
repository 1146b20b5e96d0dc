/- How many points of a shape the model counts. -/
import Derived.Test.YtfkfjkhikgnnaaaSh4
namespace Go.Proofs.Ytfkfjkhikgnnaaa
open Go.RowKit

/-- One point of the box, one column. -/
def cellC (L : List Sp) (c d : Nat) : Int := if hasB L.length (ptG L) ⟨(boxLo L).lo + (c : Int), (boxLo L).hi + (d : Int)⟩ = true then 1 else 0
def colC (L : List Sp) (c : Nat) : Int := sumG (cellC L c) (heightS L + 1)
theorem countS_cols {L : List Sp} (h : okSh L = true) : countS L = sumG (colC L) (widthS L + 1) := by
  unfold countS
  rw [if_pos h]
  rfl
theorem cellC_le (L : List Sp) (c : Nat) : ∀ d : Nat, 0 ≤ sumG (cellC L c) d ∧ sumG (cellC L c) d ≤ d
  | 0 => by simp [sumG]
  | d + 1 => by
    have := cellC_le L c d
    have : 0 ≤ cellC L c d ∧ cellC L c d ≤ 1 := by unfold cellC; split <;> omega
    show 0 ≤ sumG (cellC L c) d + cellC L c d ∧ sumG (cellC L c) d + cellC L c d ≤ ((d + 1 : Nat) : Int)
    omega
theorem colC_le {L : List Sp} (h : okSh L = true) : ∀ c : Nat, 0 ≤ sumG (colC L) c ∧ sumG (colC L) c ≤ 100 * (c : Int)
  | 0 => by simp [sumG]
  | c + 1 => by
    have := colC_le h c
    have h1 := cellC_le L c (heightS L + 1)
    have h2 := box_size h
    have h3 := box_range h
    show 0 ≤ sumG (colC L) c + colC L c ∧ sumG (colC L) c + colC L c ≤ 100 * ((c + 1 : Nat) : Int)
    have : colC L c = sumG (cellC L c) (heightS L + 1) := rfl
    omega
set_option maxHeartbeats 8000000 in
set_option maxRecDepth 100000 in
theorem sShCount_any (A : Option Addr) (cap : Nat) (L : List Sp) (w : World) (hr : Reads w w.heap.size 2 A L.length (cellsS L)) (hl : L.length ≤ 1000000000) :
    Calls Try.prog 37 #[.slice A L.length cap] w fun e w2 => e = .returned (.int .i64 (countS L)) ∧ Below w.heap.size w w2 := by
  have hV := sShBox_any A cap L w hr hl
  cases h1 : okSh L
  · rw [h1] at hV
    have H := Lib.hid (And.intro hV (by simp [countS, h1] : countS L = -1))
    clear hV h1 hr
    go_enter Try.func37, Try.ntmps37
    go_wp2_with (go_at_call 24; go_must (refine H.out.1.mono ?_); rintro e w2 ⟨rfl, k2⟩)
    go_ret
    exact ⟨ret_int H.out.2.symm, (k2.alloc k2.size _).alloc (by simp; have := k2.size; omega) _⟩
  · rw [h1] at hV
    obtain ⟨hs1, hs2⟩ := box_size h1
    have hrg := box_range h1
    have hcn := countS_cols h1
    have hH := fun (W : World) (hW : Below w.heap.size w W) (c d : Nat) (hc : c ≤ widthS L) (hd : d ≤ heightS L) => sHas_any A cap L ⟨(boxLo L).lo + (c : Int), (boxLo L).hi + (d : Int)⟩ W (hr.step hW) h1 (inP_sm (inP_iff.2 (by simp only; omega)))
    rw [show boxA L = boxLo L from by simp [boxA, h1], show boxB L = boxHi L from by simp [boxB, h1]] at hV
    obtain ⟨x0, hx0⟩ : ∃ x, x = (boxLo L).lo := ⟨_, rfl⟩
    obtain ⟨y0, hy0⟩ : ∃ x, x = (boxLo L).hi := ⟨_, rfl⟩
    obtain ⟨x1, hx1⟩ : ∃ x, x = (boxHi L).lo := ⟨_, rfl⟩
    obtain ⟨y1, hy1⟩ : ∃ x, x = (boxHi L).hi := ⟨_, rfl⟩
    obtain ⟨m, hm⟩ : ∃ m, m = widthS L := ⟨_, rfl⟩
    obtain ⟨n, hn⟩ : ∃ n, n = heightS L := ⟨_, rfl⟩
    rw [← hx0, ← hx1, ← hy0, ← hy1] at hV hrg
    rw [← hx0, ← hx1, ← hm] at hs1
    rw [← hy0, ← hy1, ← hn] at hs2
    rw [← hm] at hcn
    have hcc : ∀ c d : Nat, cellC L c d = if hasB L.length (ptG L) ⟨x0 + (c : Int), y0 + (d : Int)⟩ = true then 1 else 0 := fun c d => by rw [hx0, hy0]; rfl
    have hcl : ∀ c, colC L c = sumG (cellC L c) (n + 1) := fun c => by rw [hn]; rfl
    rw [← hx0, ← hy0, ← hm, ← hn] at hH
    have H := Lib.hid (And.intro hV (And.intro hH (And.intro hcn (And.intro hcc (And.intro hcl h1)))))
    clear hV hH hcn hcc hcl h1 hr hx0 hx1 hy0 hy1 hm hn
    go_enter Try.func37, Try.ntmps37
    go_wp2_with (go_at_call 24; go_must (refine H.out.1.mono ?_); rintro e w2 ⟨rfl, k2⟩)
    obtain ⟨W1, hW1⟩ : ∃ W1, W1 = (w2.alloc (.cells #[.int .i64 x0, .int .i64 y0] 27)).alloc (.cells #[.int .i64 (x0 + (m : Int)), .int .i64 (y0 + (n : Int))] 27) := ⟨_, rfl⟩
    have b1 : Below w2.heap.size w2 W1 := by rw [hW1]; exact ((Below.refl _ _).alloc (Nat.le_refl _) _).alloc (by simp) _
    have sz1 : W1.heap.size = w2.heap.size + 2 := by rw [hW1]; simp
    have g0 : W1.heap[w2.heap.size]? = some (.cells #[.int .i64 x0, .int .i64 y0] 27 (0, 0)) := by
      rw [hW1]
      exact (Below.heap_alloc _ _ _ (by simp)).trans (heap_alloc_new _ _)
    have g1 : W1.heap[w2.heap.size + 1]? = some (.cells #[.int .i64 (x0 + (m : Int)), .int .i64 (y0 + (n : Int))] 27 (0, 0)) := by
      have := heap_alloc_new (w2.alloc (.cells #[.int .i64 x0, .int .i64 y0] 27)) (.cells #[.int .i64 (x0 + (m : Int)), .int .i64 (y0 + (n : Int))] 27)
      rw [show (w2.alloc (.cells #[.int .i64 x0, .int .i64 y0] 27)).heap.size = w2.heap.size + 1 from by simp] at this
      rw [hW1]
      exact this
    obtain ⟨M, hM⟩ : ∃ M, M = w2.heap.size := ⟨_, rfl⟩
    have K1 := Lib.hid (And.intro (below_step k2 b1) (And.intro g0 g1))
    rw [← hW1, ← hM]
    rw [← hM] at K1 sz1
    clear k2 b1 g0 g1 hW1 hM
    subst hs1 hs2
    go_loopw [6, 7] (fun o x wr => ∃ c : Nat, c ≤ m + 1 ∧ x = .int .i64 (x0 + (c : Int)) ∧ o = .int .i64 (sumG (colC L) c) ∧ Below W1.heap.size W1 wr) (fun _ x _ => (x0 + (m : Int) + 1 - intOf x).toNat)
    case atStart => exact ⟨0, Nat.zero_le _, by simp, rfl, Below.refl _ _⟩
    case round =>
      obtain ⟨c, hc, rfl, rfl, hbl⟩ := hrel
      have hq := colC_le H.out.2.2.2.2.2 c
      have u0 := cell_of_row _ _ 0 _ _ _ ((hbl.block M (by omega)).trans K1.out.2.1)
      have u1 := cell_of_row _ _ 1 _ _ _ ((hbl.block M (by omega)).trans K1.out.2.1)
      have u2 := cell_of_row _ _ 0 _ _ _ ((hbl.block (M + 1) (by omega)).trans K1.out.2.2)
      have HB := Lib.hid hbl
      obtain ⟨o, ho⟩ : ∃ o, o = sumG (colC L) c := ⟨_, rfl⟩
      rw [← ho] at hq ⊢
      have HO := Lib.hid ho
      clear hbl ho
      by_cases hct : c ≤ m
      · have hci : x0 + (c : Int) ≤ x0 + (m : Int) := by omega
        go_wp2_with fail
        clear u0 u1 u2
        go_loopw [6, 8] (fun o x wr => ∃ d : Nat, d ≤ n + 1 ∧ x = .int .i64 (y0 + (d : Int)) ∧ o = .int .i64 (sumG (colC L) c + sumG (cellC L c) d) ∧ Below W1.heap.size W1 wr) (fun _ x _ => (y0 + (n : Int) + 1 - intOf x).toNat)
        case atStart => exact ⟨0, Nat.zero_le _, by simp, by rw [HO.out]; simp [sumG], HB.out⟩
        case round =>
          obtain ⟨d, hd, rfl, rfl, hbd⟩ := hrel
          have hq2 := cellC_le L c d
          have u3 := cell_of_row _ _ 1 _ _ _ ((hbd.block (M + 1) (by omega)).trans K1.out.2.2)
          rw [← HO.out]
          obtain ⟨z, hz⟩ : ∃ z, z = sumG (cellC L c) d := ⟨_, rfl⟩
          rw [← hz] at hq2 ⊢
          have hnx : sumG (cellC L c) (d + 1) = z + cellC L c d := by rw [hz]; rfl
          by_cases hdt : d ≤ n
          · have hdi : y0 + (d : Int) ≤ y0 + (n : Int) := by omega
            have hH := H.out.2.1 wr (K1.out.1.trans (hbd.mono K1.out.1.size)) c d hct hdt
            have hcell := H.out.2.2.2.1 c d
            cases hb : hasB L.length (ptG L) ⟨x0 + (c : Int), y0 + (d : Int)⟩
            · rw [hb] at hH hcell
              rw [if_neg (by simp)] at hcell
              have HX := Lib.hid (And.intro hH (And.intro hbd (by rw [hnx, hcell] : sumG (cellC L c) (d + 1) = z + 0)))
              clear hH hbd hnx hcell hz hb
              go_wp2_with (go_at_call 56; go_must (refine HX.out.1.mono ?_); rintro e w4 ⟨rfl, k4⟩)
              go_roundw
              case rel => exact ⟨d + 1, by omega, by simp; omega, by rw [HX.out.2.2, Int.add_zero], below_step HX.out.2.1 k4⟩
              case measure => simp [intOf]; omega
            · rw [hb] at hH hcell
              rw [if_pos rfl] at hcell
              have HX := Lib.hid (And.intro hH (And.intro hbd (by rw [hnx, hcell] : sumG (cellC L c) (d + 1) = z + 1)))
              clear hH hbd hnx hcell hz hb
              go_wp2_with (go_at_call 56; go_must (refine HX.out.1.mono ?_); rintro e w4 ⟨rfl, k4⟩)
              go_roundw
              case rel => exact ⟨d + 1, by omega, by simp; omega, by rw [HX.out.2.2, Int.add_assoc], below_step HX.out.2.1 k4⟩
              case measure => simp [intOf]; omega
          · have hdn : ¬ y0 + (d : Int) ≤ y0 + (n : Int) := by omega
            have hdn1 : d = n + 1 := by omega
            have HX := Lib.hid (And.intro hbd (show sumG (colC L) (c + 1) = o + z from by rw [HO.out, hz, hdn1, ← H.out.2.2.2.2.1 c]; rfl))
            clear hbd hz hnx
            go_wp2_with fail
            go_roundw
            case rel => exact ⟨c + 1, by omega, by simp; omega, by rw [HX.out.2], HX.out.1⟩
            case measure => simp [intOf]; omega
      · have hcn : ¬ x0 + (c : Int) ≤ x0 + (m : Int) := by omega
        have hcm : c = m + 1 := by omega
        have HX := Lib.hid (show countS L = o from by rw [H.out.2.2.1, HO.out, hcm])
        clear hcm
        go_wp2_with fail
        go_ret
        exact ⟨ret_int HX.out.symm, K1.out.1.trans (HB.out.mono K1.out.1.size)⟩
end Go.Proofs.Ytfkfjkhikgnnaaa
