/- What the model's order is for any arguments, and whether it is valid. -/
import Derived.Test.YtmcnjmflmpfjlaaU3
namespace Go.Proofs.Ytmcnjmflmpfjlaa
open Go.RowKit

theorem ordOk_of {ids : List Int} {l : List Ctx} (hok : okG ids l = true) (h : ∀ (k : Nat) (a : Int), ids[k]? = some a → upG ids l a a = false) : ordOkG ids l = true := by
  unfold ordOkG
  rw [hok, Bool.true_and, List.all_eq_true]
  intro a ha
  obtain ⟨k, hk⟩ := List.mem_iff_getElem?.1 ha
  rw [h k a hk]; rfl
theorem ordOk_no {ids : List Int} {l : List Ctx} {k : Nat} {a : Int} (hk : ids[k]? = some a) (h : upG ids l a a = true) : ordOkG ids l = false := by
  unfold ordOkG
  rw [Bool.and_eq_false_iff]
  right
  rw [List.all_eq_false]
  exact ⟨a, List.mem_of_getElem? hk, by simp [h]⟩
set_option maxHeartbeats 1600000 in
set_option maxRecDepth 100000 in
theorem sValid4_any (A B : Option Addr) (ca cb : Nat) (ids : List Int) (l : List Ctx) (w : World) (ha : Reads w w.heap.size 1 A ids.length (cellsI ids)) (hb : Reads w w.heap.size 3 B l.length (cellsC l)) (hok : okG ids l = true) :
    Calls Try.prog 89 #[.slice A ids.length ca, .slice B l.length cb] w fun e w2 => e = .returned (.bool (ordOkG ids l)) ∧ Below w.heap.size w w2 := by
  have hn : ids.length ≤ 12 := validO_len (okG_parts hok).1
  have HOK := Lib.hid hok
  have hor := sOrder_any A B ca cb ids l w ha hb hok
  clear hok
  go_enter Try.func89, Try.ntmps89
  go_wp2_with fail
  refine hor.mono ?_
  rintro e w2 ⟨v2, vs2, rfl, hb2, ho2⟩
  obtain ⟨A2, c2, rfl, _, hm2⟩ := ho2.nest
  have htl : (ordG ids l).length = ids.length := ordG_len ids l
  rw [htl] at hm2 ⊢
  have HM := Lib.hid (And.intro hb2 hm2)
  clear hor htl hb2 ho2 hm2 ha hb
  go_wp2_with fail
  go_loop [6] (fun i => ∃ k : Nat, k ≤ ids.length ∧ i = .int .i64 k ∧ ∀ (j : Nat) (a : Int), j < k → ids[j]? = some a → upG ids l a a = false) (fun i => ids.length - (intOf i).toNat)
  case atStart => exact ⟨0, Nat.zero_le _, rfl, fun j a h => absurd h (by omega)⟩
  case round =>
    obtain ⟨k, hk, rfl, hg⟩ := hrel
    have HG := Lib.hid hg; clear hg
    by_cases hlt : k < ids.length
    · obtain ⟨a, hka⟩ : ∃ a, ids[k]? = some a := ⟨_, List.getElem?_eq_getElem hlt⟩
      obtain ⟨r, hr1, hr2, hr3⟩ := ordG_at (l := l) hka hka
      obtain ⟨b, off, A3, c3, hA2, hbb, f1, hc3, hrow⟩ := HM.out.2.row hr1
      obtain ⟨b3, off3, hA3, hbb3, f2⟩ := Reads.cellE hrow hr3
      subst hA2 hA3
      rw [hr2] at f1
      simp only [encB] at f2
      have hki : (k : Int) < (ids.length : Int) := by omega
      obtain ⟨x, hx⟩ : ∃ x, upG ids l a a = x := ⟨_, rfl⟩
      rw [hx] at f2
      have HX := Lib.hid (And.intro hka hx)
      clear hka hr1 hr2 hr3 hrow hx
      cases x
      · go_wp2_with fail
        go_round
        case rel =>
          refine ⟨k + 1, by omega, by go_num, fun j c hj hc => ?_⟩
          by_cases hj2 : j < k
          · exact HG.out j c hj2 hc
          · obtain rfl : j = k := by omega
            rw [HX.out.1] at hc
            injection hc with hc
            exact hc ▸ HX.out.2
        case measure => simp [intOf]; omega
      · go_wp2_with fail
        go_ret
        exact ⟨ret_bool (ordOk_no HX.out.1 HX.out.2).symm, HM.out.1⟩
    · go_wp2_with fail
      go_ret
      exact ⟨ret_bool (ordOk_of HOK.out fun j a hj => HG.out j a (by have := (List.getElem?_eq_some_iff.1 hj).1; omega) hj).symm, HM.out.1⟩
theorem sOrdValid_any (A B : Option Addr) (ca cb : Nat) (ids : List Int) (l : List Ctx) (w : World) (ha : Reads w w.heap.size 1 A ids.length (cellsI ids)) (hb : Reads w w.heap.size 3 B l.length (cellsC l)) (hn : ids.length ≤ 1000000000) (hl : l.length ≤ 1000000000) :
    Calls Try.prog 52 #[.slice A ids.length ca, .slice B l.length cb] w fun e w2 => e = .returned (.bool (ordOkG ids l)) ∧ Below w.heap.size w w2 := by
  cases hok : okG ids l
  · go_enter Try.func52, Try.ntmps52
    go_wp2_with (go_at_call 60; go_must (refine (sOk_any _ _ _ _ ids l _ ha hb (by omega) (by omega)).mono ?_); rw [hok]; rintro e w2 ⟨rfl, k2⟩)
    go_ret
    exact ⟨ret_bool (by simp [ordOkG, hok]), k2⟩
  · go_enter Try.func52, Try.ntmps52
    go_wp2_with (first
      | (go_at_call 60; go_must (refine (sOk_any _ _ _ _ ids l _ ha hb (by omega) (by omega)).mono ?_); rw [hok]; rintro e w2 ⟨rfl, k2⟩)
      | (go_at_call 89; go_must (refine (sValid4_any _ _ _ _ ids l _ (ha.step k2) (hb.step k2) hok).mono ?_); rintro e w3 ⟨rfl, k3⟩))
    go_ret
    exact ⟨rfl, below_step k2 k3⟩
end Go.Proofs.Ytmcnjmflmpfjlaa
