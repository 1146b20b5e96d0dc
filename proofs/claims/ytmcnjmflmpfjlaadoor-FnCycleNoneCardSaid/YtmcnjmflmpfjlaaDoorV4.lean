/- What the program's table of an order is. -/
import Derived.Test.YtmcnjmflmpfjlaaDoorV3
import Derived.Test.YtmcnjmflmpfjlaaDoorUu
namespace Go.Proofs.YtmcnjmflmpfjlaaDoor
open Go.RowKit

theorem has_to (r p : Nat) (t : Bool) (hr : r < 65536) (hp : p < 16) (ht : r.testBit p = t) (w : World) :
    Calls Tryd.prog 29 #[.int .u16 (r : Int), .int .i64 (p : Int)] w fun e w2 => e = .returned (.bool t) ∧ w2 = w :=
  (has_any r p hr hp w).mono fun _ _ ⟨h1, h2⟩ => ⟨by rw [h1, ht], h2.symm⟩
section
variable {α : Type} {enc : α → Value} {w : World} {base n go cap : Nat} {e1 e2 : TypeId} {vs : List Value} {L : List (List α)}
/-- A row of one's own is laid into a place of the slice. -/
theorem OwnV.put {u : Value} {r : List α} (h : OwnV enc w base e1 e2 (.slice (some ⟨go, 0, none⟩) n cap) vs L) (hu : w.ownsRow base e1 1 u r.length (r.map enc))
    (hf : ∀ g, u.ownBlock = some g → (Value.slice (some ⟨go, 0, none⟩) n cap).ownBlock ≠ some g ∧ ∀ (i : Nat) (u1 : Value), vs[i]? = some u1 → u1.ownBlock ≠ some g) (i : Nat) :
    OwnV enc (w.setCell ⟨go, i, none⟩ u) base e1 e2 (.slice (some ⟨go, 0, none⟩) n cap) (vs.set i u) (L.set i r) := by
  have hob : (Value.slice (some ⟨go, 0, none⟩) n cap).ownBlock = some go := rfl
  have hn : n = L.length := by
    obtain ⟨A, c, hv, _, _⟩ := h.nest
    injection hv
  subst hn
  have key : ∀ (u1 : Value) (r1 : List α), w.ownsRow base e1 1 u1 r1.length (r1.map enc) → (∀ g, u1.ownBlock = some g → (Value.slice (some ⟨go, 0, none⟩) L.length cap).ownBlock ≠ some g) → (w.setCell ⟨go, i, none⟩ u).ownsRow base e1 1 u1 r1.length (r1.map enc) := fun u1 r1 h1 h2 =>
    ownsRow_setCell_other h1 (fun e => h2 go e hob) _
  have set_at : ∀ {k : Nat} {x : Value}, (vs.set i u)[k]? = some x → (k = i ∧ x = u) ∨ (k ≠ i ∧ vs[k]? = some x) := by
    intro k x hx
    rw [List.getElem?_set] at hx
    by_cases hk : i = k
    · subst hk
      rw [if_pos rfl] at hx
      split at hx
      · injection hx with hx
        exact .inl ⟨rfl, hx.symm⟩
      · cases hx
    · rw [if_neg hk] at hx
      exact .inr ⟨fun e => hk e.symm, hx⟩
  refine ⟨by rw [List.length_set, List.length_set]; exact h.len, ?_, fun k r1 hr1 => ?_, fun k u1 g hu1 hg1 => ?_, fun k j u1 u2 g hkj h1 h2 hg1 => ?_⟩
  · rw [List.length_set]
    exact (h.out.stored i u).1
  · rw [List.getElem?_set] at hr1
    by_cases hk : i = k
    · subst hk
      rw [if_pos rfl] at hr1
      split at hr1
      · rename_i hi
        injection hr1 with hr1
        subst hr1
        exact ⟨u, by rw [List.getElem?_set_self (by rw [h.len]; exact hi)], key u _ hu fun g hg => (hf g hg).1⟩
      · cases hr1
    · rw [if_neg hk] at hr1
      obtain ⟨u1, hu1, ho1⟩ := h.row k r1 hr1
      exact ⟨u1, by rw [List.getElem?_set_ne hk]; exact hu1, key u1 r1 ho1 fun g hg => h.far k u1 g hu1 hg⟩
  · rcases set_at hu1 with ⟨_, rfl⟩ | ⟨_, hu1⟩
    · exact (hf g hg1).1
    · exact h.far k u1 g hu1 hg1
  · rcases set_at h1 with ⟨hk, rfl⟩ | ⟨hk, i1⟩
    · rcases set_at h2 with ⟨hj, rfl⟩ | ⟨hj, i2⟩
      · omega
      · exact (hf g hg1).2 j u2 i2
    · rcases set_at h2 with ⟨hj, rfl⟩ | ⟨hj, i2⟩
      · exact fun hg2 => (hf g hg2).2 k u1 i1 hg1
      · exact h.apart k j u1 u2 g hkj i1 i2 hg1
theorem zero_nils (n : Nat) : (madeCells (Value.slice none 0 0).cells (n * 1)).toList = List.replicate n (Value.slice none 0 0) := by
  refine List.ext_getElem? fun i => ?_
  by_cases hi : i < n
  · simp [madeCells, hi, Value.cells, Nat.mod_one]
  · simp [madeCells, hi]
theorem OwnV.nils {v : Value} (h : w.ownsRow base e2 1 v n (List.replicate n (Value.slice none 0 0))) : OwnV enc w base e1 e2 v (List.replicate n (Value.slice none 0 0)) (List.replicate n ([] : List α)) := by
  have at_ : ∀ {i : Nat} {u : Value}, (List.replicate n (Value.slice none 0 0))[i]? = some u → u = .slice none 0 0 := fun h => List.eq_of_mem_replicate (List.mem_of_getElem? h)
  refine ⟨by simp, by simpa using h, fun i r hr => ?_, fun i u g hu hg => ?_, fun i j u1 u2 g _ hu hu2 hg => ?_⟩
  · have hi : i < n := by have := (List.getElem?_eq_some_iff.1 hr).1; simpa using this
    have : r = [] := List.eq_of_mem_replicate (List.mem_of_getElem? hr)
    subst this
    exact ⟨_, by rw [List.getElem?_replicate, if_pos hi], World.ownsRow_nil w base e1 1⟩
  · rw [at_ hu] at hg
    cases hg
  · rw [at_ hu] at hg
    cases hg
end
theorem tab_ord (ids : List Int) (l : List Ctx) : tabN (szG ids l) (clos (dirA ids (groupsG ids l) l) (szG ids l)) = ordOfG ids l := by
  unfold ordOfG
  cases hok : okG ids l
  · rw [szG_no hok]; rfl
  · rw [szG_ok hok, if_pos rfl]
    refine List.ext_getElem? fun i => ?_
    by_cases hi : i < ids.length
    · obtain ⟨a, ha⟩ : ∃ a, ids[i]? = some a := ⟨_, List.getElem?_eq_getElem hi⟩
      rw [tabN_row _ hi, ordG, List.getElem?_map, ha, Option.map_some]
      congr 1
      refine List.ext_getElem? fun j => ?_
      by_cases hj : j < ids.length
      · obtain ⟨b, hb⟩ : ∃ b, ids[j]? = some b := ⟨_, List.getElem?_eq_getElem hj⟩
        rw [rowN_at _ hj, List.getElem?_map, hb, Option.map_some, upA hok ha hb]
      · rw [List.getElem?_eq_none (by rw [rowN_len]; omega), List.getElem?_eq_none (by simp; omega)]
    · rw [List.getElem?_eq_none (by rw [tabN_len]; omega), List.getElem?_eq_none (by rw [ordG_len]; omega)]
end Go.Proofs.YtmcnjmflmpfjlaaDoor
