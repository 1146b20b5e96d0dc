/- What lies above or below a set of contexts. Plain data. -/
import Derived.Test.YtmcnjmflmpfjlaaOg
namespace Go.Proofs.Ytmcnjmflmpfjlaa
open Go.RowKit

def linkB (ids : List Int) (l : List Ctx) (set : List Int) (down : Bool) (x : Int) : Bool := ids.any fun k => decide (k ∈ set) && ((upG ids l x k && !down) || (upG ids l k x && down))
def linkG (ids : List Int) (l : List Ctx) (set : List Int) (down : Bool) : List Int := ids.filter (linkB ids l set down)
def setG (ids : List Int) (l : List Ctx) (set : List Int) (down : Bool) : List Int := if okG ids l && validI set then linkG ids l set down else []
section
variable {ids set : List Int} {l : List Ctx} {x : Int}
theorem setG_mem {down : Bool} : x ∈ setG ids l set down ↔ okG ids l = true ∧ validI set = true ∧ x ∈ ids ∧ ∃ k ∈ ids, k ∈ set ∧ (if down = true then upG ids l k x else upG ids l x k) = true := by
  unfold setG
  cases okG ids l <;> cases validI set <;> simp [linkG, linkB]
  intro _
  cases down <;> simp
theorem setG_len (down : Bool) : (setG ids l set down).length ≤ ids.length := by
  unfold setG
  split
  · exact List.length_filter_le _ _
  · simp
theorem setG_valid {down : Bool} (h : okG ids l = true) : validI (setG ids l set down) = true := by
  unfold setG
  split
  · exact validO_sub lessI_tr (okG_parts h).1 List.filter_sublist
  · rfl
/-- Each context is there exactly if it lies above some context of the set. -/
theorem above_any (h : okG ids l = true) (hs : validI set = true) (hx : x ∈ ids) : decide (x ∈ setG ids l set false) = set.any fun k => aboveG ids l x k := by
  rw [Bool.eq_iff_iff, decide_eq_true_eq, setG_mem, List.any_eq_true]
  constructor
  · rintro ⟨_, _, _, k, hk, hks, hu⟩
    exact ⟨k, hks, by simpa [aboveG, h, hx, hk] using hu⟩
  · rintro ⟨k, hks, hu⟩
    simp only [aboveG, Bool.and_eq_true, decide_eq_true_eq] at hu
    exact ⟨h, hs, hx, k, hu.2.2.1, hks, by simpa using hu.2.2.2⟩
theorem above_closed {y : Int} (hy : y ∈ setG ids l (setG ids l set false) false) : y ∈ setG ids l set false := by
  obtain ⟨h1, _, h3, k, hk, hks, hu⟩ := setG_mem.1 hy
  obtain ⟨_, i2, _, j, hj, hjs, hv⟩ := setG_mem.1 hks
  exact setG_mem.2 ⟨h1, i2, h3, j, hj, hjs, by simpa using upG_trans h1 (by simpa using hu) (by simpa using hv)⟩
/-- Below is the other direction of above. -/
theorem below_one {s : Int} (hx : x ∈ ids) : decide (x ∈ setG ids l [s] true) = decide (s ∈ setG ids l [x] false) := by
  rw [decide_eq_decide, setG_mem, setG_mem]
  constructor
  · rintro ⟨h1, _, _, k, hk, hks, hu⟩
    have e : k = s := by simpa using hks
    subst e
    refine ⟨h1, ?_, hk, x, hx, by simp, by simpa using hu⟩
    exact validO_sub lessI_tr (okG_parts h1).1 (List.singleton_sublist.2 hx)
  · rintro ⟨h1, _, h3, k, hk, hks, hu⟩
    have e : k = x := by simpa using hks
    subst e
    refine ⟨h1, ?_, hx, s, h3, by simp, by simpa using hu⟩
    exact validO_sub lessI_tr (okG_parts h1).1 (List.singleton_sublist.2 h3)
/-- A smaller set has no more below it. -/
theorem below_more {part : List Int} (hp : part.Sublist set) (hs : validI set = true) {y : Int} (hy : y ∈ setG ids l part true) : y ∈ setG ids l set true := by
  obtain ⟨h1, _, h3, k, hk, hks, hu⟩ := setG_mem.1 hy
  exact setG_mem.2 ⟨h1, hs, h3, k, hk, hp.subset hks, hu⟩
end
end Go.Proofs.Ytmcnjmflmpfjlaa
