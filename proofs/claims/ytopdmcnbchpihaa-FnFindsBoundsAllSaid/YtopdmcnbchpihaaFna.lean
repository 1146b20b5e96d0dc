/- The model's FindsValid. -/
import Derived.Test.YtopdmcnbchpihaaFf
import Derived.Test.YtopdmcnbchpihaaTriFind
namespace Go.Proofs.Ytopdmcnbchpihaa
open Go.RowKit

theorem l6InF_any (n lo hi : Int) (w : World) :
    Calls Try.prog 91 #[.int .i64 n, .int .i64 lo, .int .i64 hi] w fun e w2 => e = .returned (.bool (inR n lo hi)) ∧ w = w2 := by
  go_enter Try.func91, Try.ntmps91
  go_wp2
  all_goals (go_ret; refine ⟨?_, rfl⟩; simp [inR]; try omega)

set_option maxHeartbeats 1600000 in
set_option maxRecDepth 100000 in
theorem sValidF_any (A : Option Addr) (cap : Nat) (l : List Ctx) (w : World) (hr : Reads w w.heap.size 3 A l.length (cellsC l)) (hl : l.length ≤ 1000000000000000) :
    Calls Try.prog 37 #[.slice A l.length cap] w fun e w2 => e = .returned (.bool (validF l)) ∧ Below w.heap.size w w2 := by
  go_enter Try.func37, Try.ntmps37
  go_wp2_with fail
  go_loopw [3] (fun i wr => ∃ k : Nat, k ≤ l.length ∧ i = .int .i64 k ∧ Below w.heap.size w wr ∧ ∀ j (hj : j < l.length), j < k → okF l[j] = true) (fun i _ => l.length - (intOf i).toNat)
  case atStart => exact ⟨0, Nat.zero_le _, rfl, Below.refl _ _, fun j _ h => absurd h (by omega)⟩
  case round =>
    obtain ⟨k, hk, rfl, hb, hg⟩ := hrel
    have HG := Lib.hid hg; clear hg
    by_cases hlt : k < l.length
    · obtain ⟨b, off, hA, hbl, hc⟩ := (hr.below hb).ctx (by omega)
      subst hA
      have hk0 : l[k]? = some l[k] := List.getElem?_eq_getElem hlt
      have HK := Lib.hid hk0
      obtain ⟨c1, c2, c3⟩ := hc k _ hk0
      clear hr hk0 hc
      have HB := Lib.hid hb
      have hsz := hb.size
      clear hb
      cases h1 : inR l[k].id 1 99
      · have HO : Hid (okF l[k] = false) := by show okF l[k] = false; simp [okF, h1]
        go_wp2_with (go_at_call 91; refine (l6InF_any _ _ _ _).mono ?_; rintro e w2 ⟨rfl, rfl⟩)
        go_ret
        exact ⟨ret_bool (validF_bad (List.mem_of_getElem? HK.out) HO.out).symm, HB.out⟩
      · cases h2 : inR l[k].kind 1 5
        · have HO : Hid (okF l[k] = false) := by show okF l[k] = false; simp [okF, h2]
          go_wp2_with (go_at_call 91; refine (l6InF_any _ _ _ _).mono ?_; rintro e w2 ⟨rfl, rfl⟩)
          go_ret
          exact ⟨ret_bool (validF_bad (List.mem_of_getElem? HK.out) HO.out).symm, HB.out⟩
        · cases h3 : inR l[k].area 0 999
          · have HO : Hid (okF l[k] = false) := by show okF l[k] = false; simp [okF, h3]
            go_wp2_with (go_at_call 91; refine (l6InF_any _ _ _ _).mono ?_; rintro e w2 ⟨rfl, rfl⟩)
            go_ret
            exact ⟨ret_bool (validF_bad (List.mem_of_getElem? HK.out) HO.out).symm, HB.out⟩
          · have HO : Hid (okF l[k] = true) := by show okF l[k] = true; simp [okF, h1, h2, h3]
            go_wp2_with (go_at_call 91; refine (l6InF_any _ _ _ _).mono ?_; rintro e w2 ⟨rfl, rfl⟩)
            go_roundw
            case rel =>
              refine ⟨k + 1, by omega, by go_num, HB.out, fun j hj hjk => ?_⟩
              by_cases hj2 : j < k
              · exact HG.out j hj hj2
              · obtain rfl : j = k := by omega
                exact HO.out
            case measure => simp [intOf]; omega
    · have hkl : k = l.length := by omega
      go_wp2_with fail
      go_ret
      refine ⟨ret_bool ?_, hb⟩
      have hall : l.all okF = true := by
        rw [List.all_eq_true]
        intro b hb
        obtain ⟨j, hj, rfl⟩ := List.getElem_of_mem hb
        exact HG.out j hj (by omega)
      show _ = validF l
      unfold validF
      rw [hall, Bool.true_and, decide_eq_decide]
      omega
end Go.Proofs.Ytopdmcnbchpihaa
