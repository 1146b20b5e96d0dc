/- What the model's test of a free place is. -/
import Derived.Test.YtmcnjmflmpfjlaaUu
import Derived.Test.YtmcnjmflmpfjlaaPe
namespace Go.Proofs.Ytmcnjmflmpfjlaa
open Go.RowKit

theorem freeB_no {f : Nat → Nat → Bool} {n a k : Nat} {d : Nat → Bool} (hk : k < n) (h1 : d k = false) (h2 : f k a = true) : freeB f n d a = false := by
  rw [← Bool.not_eq_true]
  intro h
  rw [(freeB_iff.1 h).2 k hk h1] at h2
  exact absurd h2 (by simp)
theorem freeB_to {f : Nat → Nat → Bool} {n a : Nat} {d : Nat → Bool} (h : ∀ k, k < n → d k = false → f k a = false) : freeB f n d a = !d a := by
  unfold freeB
  rw [List.all_eq_true.2 (fun k hk => by
    cases hd : d k
    · simp [h k (List.mem_range.1 hk) hd]
    · rfl), Bool.true_and]
set_option maxHeartbeats 1600000 in
set_option maxRecDepth 100000 in
theorem sFree_any (A D : Option Addr) (ca cd n a : Nat) (f : Nat → Nat → Bool) (d : Nat → Bool) (w : World) (hm : Nest encB w w.heap.size A n (tabN n f)) (hd : Reads w w.heap.size 1 D n ((rowN n d).map encB)) (hn : n ≤ 12) (han : a < n) :
    Calls Try.prog 77 #[.slice A n ca, .slice D n cd, .int .i64 (a : Int)] w fun e w2 => e = .returned (.bool (freeB f n d a)) ∧ w = w2 := by
  have hd' : Reads w w.heap.size 1 D (rowN n d).length ((rowN n d).map encB) := by rw [rowN_len]; exact hd
  obtain ⟨bd, od, hD, hbd, g1⟩ := Reads.cellE hd' (rowN_at d han)
  subst hD
  simp only [encB] at g1
  have hani : (a : Int) < (n : Int) := by omega
  have HD := Lib.hid (And.intro hm hd')
  clear hm hd hd'
  go_enter Try.func77, Try.ntmps77
  go_wp2_with fail
  go_loop [7] (fun i => ∃ k : Nat, k ≤ n ∧ i = .int .i64 k ∧ ∀ j : Nat, j < k → d j = false → f j a = false) (fun i => n - (intOf i).toNat)
  case atStart => exact ⟨0, Nat.zero_le _, rfl, fun j h => absurd h (by omega)⟩
  case round =>
    obtain ⟨k, hk, rfl, hg⟩ := hrel
    have HG := Lib.hid hg; clear hg
    by_cases hlt : k < n
    · have hki : (k : Int) < (n : Int) := by omega
      obtain ⟨b1, o1, hD1, hb1, f1⟩ := Reads.cellE HD.out.2 (rowN_at d hlt)
      injection hD1 with hD1
      injection hD1 with e1 e2 e3
      subst e1 e2
      obtain ⟨b, off, A3, c3, hA2, hbb, f2, hc3, hrow⟩ := HD.out.1.row (tabN_row f hlt)
      obtain ⟨b3, off3, hA3, hbb3, f3⟩ := Reads.cellE hrow (rowN_at (f k) han)
      subst hA2 hA3
      rw [rowN_len] at f2
      simp only [encB] at f1 f3
      obtain ⟨x, hx⟩ : ∃ x, d k = x := ⟨_, rfl⟩
      obtain ⟨y, hy⟩ : ∃ y, f k a = y := ⟨_, rfl⟩
      rw [hx] at f1
      rw [hy] at f3
      have HX := Lib.hid (And.intro hx hy)
      clear hx hy hrow
      cases x
      · cases y
        · go_wp2_with fail
          go_round
          case rel =>
            refine ⟨k + 1, by omega, by go_num, fun j hj hc => ?_⟩
            by_cases hj2 : j < k
            · exact HG.out j hj2 hc
            · obtain rfl : j = k := by omega
              exact HX.out.2
          case measure => simp [intOf]; omega
        · go_wp2_with fail
          go_ret
          exact ⟨ret_bool (freeB_no hlt HX.out.1 HX.out.2).symm, rfl⟩
      · go_wp2_with fail
        go_round
        case rel =>
          refine ⟨k + 1, by omega, by go_num, fun j hj hc => ?_⟩
          by_cases hj2 : j < k
          · exact HG.out j hj2 hc
          · obtain rfl : j = k := by omega
            rw [HX.out.1] at hc
            exact absurd hc (by simp)
        case measure => simp [intOf]; omega
    · have hke : k = n := by omega
      subst hke
      obtain ⟨x, hx⟩ : ∃ x, d a = x := ⟨_, rfl⟩
      rw [hx] at g1
      have HX := Lib.hid hx
      clear hx
      cases x
      all_goals
        go_wp2_with fail
        go_ret
        exact ⟨ret_bool (by rw [freeB_to HG.out, HX.out]; rfl), rfl⟩
end Go.Proofs.Ytmcnjmflmpfjlaa
