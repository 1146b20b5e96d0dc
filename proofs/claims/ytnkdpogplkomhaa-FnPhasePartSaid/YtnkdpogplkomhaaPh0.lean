/- Phase models: weights of the years of each context (plain data). -/
import Derived.Test.YtnkdpogplkomhaaPe
namespace Go.Proofs.Ytnkdpogplkomhaa
open Go.RowKit

/-- A context's weights: one for each of six years, each from 0 to 9. -/
def rowW (r : List Int) : Bool := decide (r.length = 6) && r.all fun x => inR x 0 9
def okW (W : List (List Int)) (n : Nat) : Bool := decide (W.length = n) && W.all rowW
/-- A phase model: a valid order of at most four contexts, with weights for each. -/
def phOk (ids : List Int) (l : List Ctx) (W : List (List Int)) : Bool := ordOkG ids l && decide (ids.length ≤ 4) && okW W ids.length
theorem rowW_len {r : List Int} (h : rowW r = true) : r.length = 6 := by simp only [rowW, Bool.and_eq_true, decide_eq_true_eq] at h; exact h.1
theorem rowW_in {r : List Int} (h : rowW r = true) {x : Int} (hx : x ∈ r) : 0 ≤ x ∧ x ≤ 9 := by
  simp only [rowW, Bool.and_eq_true, decide_eq_true_eq, List.all_eq_true, inR] at h
  exact h.2 x hx
theorem okW_parts {W : List (List Int)} {n : Nat} (h : okW W n = true) : W.length = n ∧ ∀ r ∈ W, rowW r = true := by
  simpa only [okW, Bool.and_eq_true, decide_eq_true_eq, List.all_eq_true] using h
theorem phOk_parts {ids : List Int} {l : List Ctx} {W : List (List Int)} (h : phOk ids l W = true) : ordOkG ids l = true ∧ ids.length ≤ 4 ∧ okW W ids.length = true := by
  simp only [phOk, Bool.and_eq_true, decide_eq_true_eq] at h
  exact ⟨h.1.1, h.1.2, h.2⟩
theorem rowW_not {r : List Int} {k : Nat} {x : Int} (hx : r[k]? = some x) (h : inR x 0 9 = false) : rowW r = false := by
  cases e : rowW r
  · rfl
  · have := rowW_in e (List.mem_of_getElem? hx)
    simp only [inR, Bool.and_eq_false_iff, decide_eq_false_iff_not] at h
    omega
theorem okW_not {W : List (List Int)} {n k : Nat} {r : List Int} (hr : W[k]? = some r) (h : rowW r = false) : okW W n = false := by
  cases e : okW W n
  · rfl
  · have := (okW_parts e).2 r (List.mem_of_getElem? hr)
    rw [h] at this; cases this
theorem rowW_of {r : List Int} (h : r.length = 6) (ha : ∀ (k : Nat) (x : Int), r[k]? = some x → inR x 0 9 = true) : rowW r = true := by
  simp only [rowW, h, decide_true, Bool.true_and, List.all_eq_true]
  intro x hx
  obtain ⟨k, hk, e⟩ := List.mem_iff_getElem.1 hx
  exact ha k x (by rw [List.getElem?_eq_getElem hk, e])
theorem okW_of {W : List (List Int)} {n : Nat} (ha : ∀ (k : Nat) (r : List Int), W[k]? = some r → rowW r = true) : okW W n = decide ((W.length : Int) = (n : Int)) := by
  have h1 : W.all rowW = true := by
    simp only [List.all_eq_true]
    intro x hx
    obtain ⟨k, hk, e⟩ := List.mem_iff_getElem.1 hx
    exact ha k x (by rw [List.getElem?_eq_getElem hk, e])
  simp only [okW, h1, Bool.and_true, Int.natCast_inj]
end Go.Proofs.Ytnkdpogplkomhaa
