/- Facts of rows that are alike. No function of the program. -/
import Derived.Test.YtapmeooffmonmaaSe1
namespace Go.Proofs.Ytapmeooffmonmaa
open Go.RowKit

theorem alF_comm (a b : List Bool) : ∀ k : Nat, alF a b k = alF b a k
  | 0 => rfl
  | k + 1 => by
    show alF a b k + _ = alF b a k + _
    rw [alF_comm a b k, Bool.and_comm, bne_comm]
theorem alF_self_le (a b : List Bool) : ∀ k : Nat, alF a b k ≤ alF a a k
  | 0 => Int.le_refl _
  | k + 1 => by
    have := alF_self_le a b k
    show alF a b k + _ ≤ alF a a k + _
    cases a.getD k false <;> cases b.getD k false <;> simp <;> omega
theorem alikeS_comm (a b : List Bool) : alikeS a b = alikeS b a := by
  unfold alikeS
  by_cases h : a.length = 5 ∧ b.length = 5
  · rw [if_pos h, if_pos ⟨h.2, h.1⟩, alF_comm]
  · rw [if_neg h, if_neg fun h2 => h ⟨h2.2, h2.1⟩]
theorem alikeS_self_le {a b : List Bool} (h : alikeS a b ≠ -99) : alikeS a b ≤ alikeS a a ∧ alikeS a b ≤ alikeS b b := by
  obtain ⟨h1, h2⟩ := alikeS_ne.1 h
  have e1 : alikeS a b = alF a b 5 := if_pos ⟨h1, h2⟩
  have e2 : alikeS a a = alF a a 5 := if_pos ⟨h1, h1⟩
  have e3 : alikeS b b = alF b b 5 := if_pos ⟨h2, h2⟩
  rw [e1, e2, e3]
  exact ⟨alF_self_le a b 5, by rw [alF_comm]; exact alF_self_le b a 5⟩
/-- An order that was found: the rows can be taken in it, and are serial then. -/
theorem ord_take {T : List (List Bool)} (h : ordSOk T = true) : takeOk T (ordSG T) = true ∧ serOk (takeG T (ordSG T)) = true := by
  obtain ⟨h1, h2, h3⟩ := ordS_some h
  have h4 := takeOk_perm h1 h2
  refine ⟨h4, ?_⟩
  rw [takeG_ok h4, serOk, takeOk_ok h4, h3]
  rfl
theorem takeG_small (T : List (List Bool)) (o : List Int) : (takeG T o).length ≤ 5 ∧ ∀ r ∈ takeG T o, r.length = 5 := by
  cases h : takeOk T o
  · rw [takeG_no h]; simp
  · rw [takeG_ok h]
    obtain ⟨a, _, b⟩ := okS_parts (takeOk_ok h)
    exact ⟨b, a⟩
theorem alF_self_next (a : List Bool) (k : Nat) : alF a a (k + 1) = alF a a k + if a.getD k false = true then 1 else 0 := by
  show alF a a k + _ = _
  cases a.getD k false <;> simp
/-- Whether the first k of two rows are the same. -/
def sameB (a b : List Bool) : Nat → Bool
  | 0 => true
  | k + 1 => sameB a b k && (a.getD k false == b.getD k false)
theorem alF_same (a b : List Bool) : ∀ k : Nat, (alF a b k = alF a a k ↔ sameB a b k = true) ∧ (sameB a b k = true → alF b b k = alF a a k)
  | 0 => by simp [alF, sameB]
  | k + 1 => by
    obtain ⟨h1, h2⟩ := alF_same a b k
    have h3 := alF_self_le a b k
    have e1 : alF a b (k + 1) = alF a b k + if (a.getD k false && b.getD k false) = true then 1 else if (a.getD k false != b.getD k false) = true then -1 else 0 := rfl
    have e4 : sameB a b (k + 1) = (sameB a b k && (a.getD k false == b.getD k false)) := rfl
    rw [e1, alF_self_next, alF_self_next, e4]
    cases hx : a.getD k false <;> cases hy : b.getD k false <;> simp
    · exact ⟨h1, h2⟩
    · omega
    · omega
    · exact ⟨h1, h2⟩
theorem sameF_all (a b : List Bool) : (sameB a b 5 == (alF a b 5 == alF a a 5 && alF b b 5 == alF a a 5)) = true := by
  obtain ⟨h1, h2⟩ := alF_same a b 5
  cases h : sameB a b 5
  · have : (alF a b 5 == alF a a 5) = false := by rw [beq_eq_false_iff_ne]; intro e; rw [h1.1 e] at h; cases h
    simp [this]
  · simp [h1.2 h, h2 h]
/-- Rows that were taken in an order are taken back in its inverse. -/
theorem inv_takes {T : List (List Bool)} {o v : List Int} (h : takeOk T o = true) (hv : v.length = T.length) (hi : ∀ (j : Nat) (x : Int), o[j]? = some x → v[x.toNat]? = some (j : Int)) : takeOk (takeG T o) v = true ∧ takeG (takeG T o) v = T := by
  rw [takeG_ok h]
  obtain ⟨h1, ⟨p1, p2, p3⟩, h3⟩ := takeOk_parts h
  have hok : takeOk (takeS T o) v = true := by
    simp only [takeOk, Bool.and_eq_true, decide_eq_true_eq, List.all_eq_true, List.mem_range]
    refine ⟨by rw [← takeG_ok h]; rw [takeG_ok h]; exact takeOk_ok h, by rw [takeS_len]; omega, fun i hil => ?_⟩
    rw [takeS_len] at hil
    exact List.mem_of_getElem? (hi i _ (List.getElem?_eq_getElem hil))
  refine ⟨hok, ?_⟩
  rw [takeG_ok hok]
  refine List.ext_getElem? fun j => ?_
  rcases Nat.lt_or_ge j T.length with hj | hj
  · obtain ⟨i, hio⟩ := List.mem_iff_getElem?.1 (h3 j hj)
    have h5 := hi i _ hio
    rw [Int.toNat_natCast] at h5
    have h6 := takeS_at (rows := takeS T o) h5
    rw [Int.toNat_natCast, List.getD_eq_getElem?_getD, takeS_at hio, Int.toNat_natCast] at h6
    rw [h6]
    simp [hj]
  · rw [List.getElem?_eq_none (by rw [takeS_len]; omega), List.getElem?_eq_none hj]
end Go.Proofs.Ytapmeooffmonmaa
