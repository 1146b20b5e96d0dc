/- What the laws on groups need, as plain facts. -/
import Derived.Test.YtgnhdclhligngaaHo
import Derived.Test.YtgnhdclhligngaaSel
namespace Go.Proofs.Ytgnhdclhligngaa
open Go.RowKit

theorem headL_mem {ids g : List Int} {x : Int} (h : x ∈ ids) : headL ids g x = labG ids g x := if_pos h
theorem head_own {ids : List Int} {l : List Ctx} (h : okG ids l = true) {k : Nat} {x y : Int} (hx : (groupsG ids l)[k]? = some x) (hy : ids[k]? = some y) : x ≤ y ∧ headL ids (groupsG ids l) x = x := by
  obtain ⟨hv, _, _⟩ := okG_parts h
  obtain ⟨j, hj, h1, h2⟩ := (headsG_all h).2 k x hx
  constructor
  · rcases Nat.lt_or_ge j k with hlt | hge
    · exact Int.le_of_lt (asc_lt hv h1 hy hlt)
    · obtain rfl : j = k := by omega
      rw [h1] at hy
      injection hy with hy
      omega
  · rw [headL_mem (List.mem_of_getElem? h1)]
    exact labG_at hv h1 h2
theorem head_equal {ids : List Int} {l : List Ctx} (h : okG ids l = true) {k : Nat} {r : Ctx} (hr : l[k]? = some r) (h2 : r.area = 2) : headL ids (groupsG ids l) r.id = headL ids (groupsG ids l) r.kind := by
  have hm := List.mem_of_getElem? hr
  obtain ⟨h3, h4⟩ := (okG_parts h).2.2 r hm
  rw [headL_mem h3, headL_mem h4]
  exact groupsG_equal h r hm h2
end Go.Proofs.Ytgnhdclhligngaa
