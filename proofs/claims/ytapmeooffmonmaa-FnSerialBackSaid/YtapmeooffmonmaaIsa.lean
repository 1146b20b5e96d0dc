/- The program's checks of rows, and whether they are serial. -/
import Derived.Test.YtapmeooffmonmaaSe2
namespace Go.Proofs.Ytapmeooffmonmaa
open Go.RowKit

theorem iInS_any (n lo hi : Int) (w : World) :
    Calls Try.prog 57 #[.int .i64 n, .int .i64 lo, .int .i64 hi] w fun e w2 => e = .returned (.bool (inR n lo hi)) ∧ w = w2 := by
  go_enter Try.func57, Try.ntmps57
  go_wp2
  all_goals (go_ret; refine ⟨?_, rfl⟩; simp [inR]; try omega)
theorem okS_inR (rows : List (List Bool)) : okS rows = ((rows.all fun r => decide (r.length = 5)) && inR (rows.length : Int) 1 5) := by
  unfold okS inR
  congr 1
  congr 1 <;> rw [decide_eq_decide] <;> omega
set_option maxHeartbeats 1600000 in
set_option maxRecDepth 100000 in
theorem iRowsVs_any (A : Option Addr) (cap : Nat) (rows : List (List Bool)) (w : World) (hr : Nest encB w w.heap.size A rows.length rows) (hl : rows.length ≤ 1000000000000) :
    Calls Try.prog 31 #[.slice A rows.length cap] w fun e w2 => e = .returned (.bool (okS rows)) ∧ w = w2 := by
  obtain ⟨q, hq⟩ : ∃ q, q = inR (rows.length : Int) 1 5 := ⟨_, rfl⟩
  have hok := okS_inR rows
  have hI := iInS_any (rows.length : Int) 1 5 w
  rw [← hq] at hok hI
  have H := Lib.hid (And.intro hI (And.intro hok hr))
  clear hok hI hr hq
  cases q
  · go_enter Try.func31, Try.ntmps31
    go_wp2_with (go_at_call 57; go_must (refine H.out.1.mono ?_); rintro e w2 ⟨rfl, rfl⟩)
    go_ret
    refine ⟨ret_bool ?_, rfl⟩
    rw [H.out.2.1]
    simp
  · go_enter Try.func31, Try.ntmps31
    go_wp2_with (go_at_call 57; go_must (refine H.out.1.mono ?_); rintro e w2 ⟨rfl, rfl⟩)
    go_loop [11] (fun i => ∃ k : Nat, k ≤ rows.length ∧ i = .int .i64 k ∧ ∀ j r, j < k → rows[j]? = some r → r.length = 5) (fun i => rows.length - (intOf i).toNat)
    case atStart => exact ⟨0, Nat.zero_le _, rfl, fun j r h => absurd h (by omega)⟩
    case round =>
      obtain ⟨k, hk, rfl, hg⟩ := hrel
      have HG := Lib.hid hg
      clear hg
      by_cases hlt : k < rows.length
      · have hki : (k : Int) < (rows.length : Int) := by omega
        obtain ⟨r, hx⟩ : ∃ r, rows[k]? = some r := ⟨_, List.getElem?_eq_getElem hlt⟩
        obtain ⟨b, off, A2, c2, hA, hb, c1, _, _⟩ := H.out.2.2.row hx
        subst hA
        have HX := Lib.hid hx
        clear hx
        by_cases h5 : r.length = 5
        · have e5 : ((r.length : Int) != 5) = false := by simp; omega
          have H5 := Lib.hid h5
          clear h5
          go_wp2_with fail
          go_round
          case rel =>
            refine ⟨k + 1, by omega, by go_num, fun j r2 hj hr2 => ?_⟩
            by_cases hj2 : j < k
            · exact HG.out j r2 hj2 hr2
            · obtain rfl : j = k := by omega
              rw [HX.out] at hr2
              rw [← Option.some.inj hr2]
              exact H5.out
          case measure => simp [intOf]; omega
        · have e5 : ((r.length : Int) != 5) = true := by simp; omega
          have H5 := Lib.hid h5
          clear h5
          go_wp2_with fail
          go_ret
          refine ⟨ret_bool ?_, rfl⟩
          cases ho : okS rows
          · rfl
          · exact absurd ((okS_parts ho).1 r (List.mem_of_getElem? HX.out)) H5.out
      · have hkl : decide ((k : Int) < (rows.length : Int)) = false := decide_eq_false (by omega)
        go_wp2_with fail
        go_ret
        refine ⟨ret_bool ?_, rfl⟩
        have hall : (rows.all fun r => decide (r.length = 5)) = true := by
          rw [List.all_eq_true]
          intro r hr
          obtain ⟨j, hj, rfl⟩ := List.getElem_of_mem hr
          exact decide_eq_true (HG.out j _ (by omega) (List.getElem?_eq_getElem hj))
        rw [H.out.2.1, hall]
        rfl
theorem iRowsV_any (A : Option Addr) (cap : Nat) (rows : List (List Bool)) (w : World) (hr : Nest encB w w.heap.size A rows.length rows) (hl : rows.length ≤ 2000000) (_ : ∀ r ∈ rows, r.length ≤ 2000000) :
    Calls Try.prog 31 #[.slice A rows.length cap] w fun e w2 => e = .returned (.bool (okS rows)) ∧ Below w.heap.size w w2 :=
  (iRowsVs_any A cap rows w hr (by omega)).mono fun e w2 ⟨h1, h2⟩ => ⟨h1, h2 ▸ Below.refl _ _⟩
end Go.Proofs.Ytapmeooffmonmaa
