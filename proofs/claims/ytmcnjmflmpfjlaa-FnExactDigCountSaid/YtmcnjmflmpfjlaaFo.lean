/- Trees of parents as plain data: the root of a node, a node hung at its root, two roots joined. -/
import Derived.Test.YtmcnjmflmpfjlaaGrp
namespace Go.Proofs.Ytmcnjmflmpfjlaa
open Go.RowKit

/-- The root of node i, where each parent has a lesser number. -/
def rootF (par : Nat → Option Nat) (i : Nat) : Nat :=
  match par i with
  | none => i
  | some j => if _h : j < i then rootF par j else i
termination_by i
def OkP (par : Nat → Option Nat) : Prop := ∀ i j, par i = some j → j < i
def updP (par : Nat → Option Nat) (i r : Nat) : Nat → Option Nat := fun k => if k = i then some r else par k
theorem rootF_none {par : Nat → Option Nat} {i : Nat} (h : par i = none) : rootF par i = i := by
  rw [rootF, h]
theorem rootF_some {par : Nat → Option Nat} {i j : Nat} (hP : OkP par) (h : par i = some j) : rootF par i = rootF par j := by
  rw [rootF, h]
  simp [hP i j h]
theorem rootF_le {par : Nat → Option Nat} (hP : OkP par) (i : Nat) : rootF par i ≤ i := by
  induction i using Nat.strongRecOn with
  | ind i ih =>
    cases h : par i with
    | none => rw [rootF_none h]; exact Nat.le_refl _
    | some j =>
      have h1 := hP i j h
      have h2 := ih j h1
      rw [rootF_some hP h]; omega
theorem rootF_root {par : Nat → Option Nat} (hP : OkP par) (i : Nat) : par (rootF par i) = none := by
  induction i using Nat.strongRecOn with
  | ind i ih =>
    cases h : par i with
    | none => rw [rootF_none h]; exact h
    | some j => rw [rootF_some hP h]; exact ih j (hP i j h)
theorem okP_upd {par : Nat → Option Nat} (hP : OkP par) {i r : Nat} (h : r < i) : OkP (updP par i r) := by
  intro k j hk
  unfold updP at hk
  split at hk
  · injection hk with hk; omega
  · exact hP k j hk
/-- A node is hung directly below its root: all roots are as they were. -/
theorem rootF_hang {par : Nat → Option Nat} (hP : OkP par) {i r : Nat} (hr : rootF par i = r) (hlt : r < i) (k : Nat) : rootF (updP par i r) k = rootF par k := by
  have hP2 := okP_upd hP hlt
  have hrr : updP par i r r = none := by
    unfold updP
    rw [if_neg (by omega), ← hr]
    exact rootF_root hP i
  induction k using Nat.strongRecOn with
  | ind k ih =>
    by_cases hk : k = i
    · subst hk
      rw [rootF_some hP2 (show updP par k r k = some r by simp [updP]), rootF_none hrr, hr]
    · have he : updP par i r k = par k := by simp [updP, hk]
      cases h : par k with
      | none => rw [rootF_none (he.trans h), rootF_none h]
      | some j => rw [rootF_some hP2 (he.trans h), rootF_some hP h, ih j (hP k j h)]
/-- One root is hung below another one. -/
theorem rootF_join {par : Nat → Option Nat} (hP : OkP par) {a b : Nat} (ha : par a = none) (hb : par b = none) (hlt : a < b) (k : Nat) : rootF (updP par b a) k = if rootF par k = b then a else rootF par k := by
  have hP2 := okP_upd hP hlt
  have haa : updP par b a a = none := by
    unfold updP
    rw [if_neg (by omega)]
    exact ha
  induction k using Nat.strongRecOn with
  | ind k ih =>
    by_cases hk : k = b
    · subst hk
      rw [rootF_some hP2 (show updP par k a k = some a by simp [updP]), rootF_none haa, rootF_none hb, if_pos rfl]
    · have he : updP par b a k = par k := by simp [updP, hk]
      cases h : par k with
      | none => rw [rootF_none (he.trans h), rootF_none h, if_neg hk]
      | some j => rw [rootF_some hP2 (he.trans h), rootF_some hP h, ih j (hP k j h)]

/-- The labels of the contexts are the contexts of the roots. -/
def LabP (ids : List Int) (par : Nat → Option Nat) (g : List Int) : Prop := g.length = ids.length ∧ ∀ k, k < ids.length → g[k]? = ids[rootF par k]?
theorem labP_start {ids : List Int} {par : Nat → Option Nat} (h : ∀ k, k < ids.length → par k = none) : LabP ids par ids :=
  ⟨rfl, fun k hk => by rw [rootF_none (h k hk)]⟩
/-- The roots behind joining the trees of i and j. -/
def JoinP (par par2 : Nat → Option Nat) (i j n : Nat) : Prop := ∀ k, k < n → rootF par2 k = if rootF par k = max (rootF par i) (rootF par j) then min (rootF par i) (rootF par j) else rootF par k
theorem labP_join {ids g : List Int} {par par2 : Nat → Option Nat} {r : Ctx} (hv : validI ids = true) (hP : OkP par) (h : LabP ids par g) (h1 : r.id ∈ ids) (h2 : r.kind ∈ ids) (h3 : r.area = 2)
    (hj : JoinP par par2 (placeI ids r.id) (placeI ids r.kind) ids.length) : LabP ids par2 (stepG ids g r) := by
  refine ⟨by rw [stepG_len]; exact h.1, fun k hk => ?_⟩
  rw [stepG, if_pos h3, joinG_at]
  have hA := labG_of h.1 h1
  have hB := labG_of h.1 h2
  have hp := (placeI_at h1).2.1
  have hq := (placeI_at h2).2.1
  rw [h.2 _ hp] at hA
  rw [h.2 _ hq] at hB
  rw [hj k hk, h.2 k hk]
  have hk2 := Nat.lt_of_le_of_lt (rootF_le hP k) hk
  revert hA hB
  generalize labG ids g r.id = a
  generalize labG ids g r.kind = b
  generalize rootF par (placeI ids r.id) = ra
  generalize rootF par (placeI ids r.kind) = rb
  revert hk2
  generalize rootF par k = rk
  intro hk2 hA hB
  have hK := List.getElem?_eq_getElem hk2
  revert hK
  generalize ids[rk] = c
  intro hK
  rw [hK, Option.map_some]
  rcases Nat.lt_trichotomy ra rb with hab | hab | hab
  · have hlt := asc_lt hv hA hB hab
    rw [Nat.max_eq_right (by omega), Nat.min_eq_left (by omega), Int.min_eq_left (by omega)]
    by_cases hc : rk = rb
    · subst hc
      rw [if_pos rfl]
      rw [hB] at hK; injection hK with hK; subst hK
      rw [if_pos (.inr rfl), hA]
    · rw [if_neg hc, hK]
      by_cases hc2 : rk = ra
      · subst hc2
        rw [hA] at hK; injection hK with hK; subst hK
        simp
      · have n1 : c ≠ a := fun e => hc2 (asc_eq hv (e ▸ hK) hA)
        have n2 : c ≠ b := fun e => hc (asc_eq hv (e ▸ hK) hB)
        simp [n1, n2]
  · subst hab
    rw [hA] at hB; injection hB with hB; subst hB
    rw [Nat.max_self, Nat.min_self, Int.min_self]
    by_cases hc : rk = ra
    · subst hc
      rw [hA] at hK; injection hK with hK; subst hK
      simp [hA]
    · have n1 : c ≠ a := fun e => hc (asc_eq hv (e ▸ hK) hA)
      simp [hc, n1, hK]
  · have hlt := asc_lt hv hB hA hab
    rw [Nat.max_eq_left (by omega), Nat.min_eq_right (by omega), Int.min_eq_right (by omega)]
    by_cases hc : rk = ra
    · subst hc
      rw [if_pos rfl]
      rw [hA] at hK; injection hK with hK; subst hK
      rw [if_pos (.inl rfl), hB]
    · rw [if_neg hc, hK]
      by_cases hc2 : rk = rb
      · subst hc2
        rw [hB] at hK; injection hK with hK; subst hK
        simp
      · have n1 : c ≠ b := fun e => hc2 (asc_eq hv (e ▸ hK) hB)
        have n2 : c ≠ a := fun e => hc (asc_eq hv (e ▸ hK) hA)
        simp [n1, n2]
theorem labP_skip {ids g : List Int} {par : Nat → Option Nat} {r : Ctx} (h : LabP ids par g) (h3 : ¬ r.area = 2) : LabP ids par (stepG ids g r) := by
  rw [stepG, if_neg h3]; exact h
theorem labP_roots {ids g : List Int} {par par2 : Nat → Option Nat} (h : LabP ids par g) (hr : ∀ k, rootF par2 k = rootF par k) : LabP ids par2 g :=
  ⟨h.1, fun k hk => by rw [hr k]; exact h.2 k hk⟩
end Go.Proofs.Ytmcnjmflmpfjlaa
