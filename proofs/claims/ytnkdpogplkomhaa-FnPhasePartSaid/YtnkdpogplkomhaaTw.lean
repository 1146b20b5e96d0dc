/- Tables of Booleans in memory: what they are made of; a row that is laid into a table. No function of the program. -/
import Derived.Test.YtnkdpogplkomhaaTab
import Derived.Test.YtnkdpogplkomhaaPe
namespace Go.Proofs.Ytnkdpogplkomhaa
open Go.RowKit

def encB (b : Bool) : Value := .bool b
theorem infoBool : (Try.prog.info? 4).map (fun i => (i.zero, i.size, i.bytes)) = some (some (.bool false), 1, 1) := by kernel_rfl
theorem infoBools : (Try.prog.info? 85).map (fun i => (i.zero, i.size, i.bytes)) = some (some (.slice none 0 0), 1, 24) := by kernel_rfl
theorem zero_bools (n : Nat) : (madeCells (Value.bool false).cells (n * 1)).toList = (rowN n fun _ => false).map encB := by
  refine List.ext_getElem? fun i => ?_
  by_cases hi : i < n
  · simp [rowN, encB, madeCells, hi, Value.cells, Nat.mod_one]
  · simp [rowN, madeCells, hi]
theorem reads_val {w : World} {u : Value} {t : TypeId} {B : Nat} (hB : w.heap.size < B) : Reads (w.alloc (.cells #[u] t)) B 1 (some ⟨w.heap.size, 0, none⟩) 1 [u] := by
  refine ⟨rfl, fun _ => ⟨_, 0, rfl, hB, fun j x hx => ?_⟩⟩
  rw [cell_of_row _ _ _ _ _ _ (heap_alloc_new _ _)]
  simpa using hx
theorem one_slice {A : Option Addr} {n c : Nat} : ∀ u ∈ [Value.slice A n c], u.oneCell' = true := by
  intro u hu
  simp at hu
  subst hu
  rfl
section
variable {α : Type} {enc : α → Value} {w : World} {base n go cap : Nat} {e1 e2 : TypeId} {vs : List Value} {L : List (List α)}
/-- A row of one's own is laid into a place of the slice. -/
theorem OwnV.put {u : Value} {r : List α} (h : OwnV enc w base e1 e2 (.slice (some ⟨go, 0, none⟩) n cap) vs L) (hu : w.ownsRow base e1 1 u r.length (r.map enc))
    (hf : ∀ g, u.ownBlock = some g → (Value.slice (some ⟨go, 0, none⟩) n cap).ownBlock ≠ some g ∧ ∀ (i : Nat) (u1 : Value), vs[i]? = some u1 → u1.ownBlock ≠ some g) (i : Nat) :
    OwnV enc (w.setCell ⟨go, i, none⟩ u) base e1 e2 (.slice (some ⟨go, 0, none⟩) n cap) (vs.set i u) (L.set i r) := by
  have hob : (Value.slice (some ⟨go, 0, none⟩) n cap).ownBlock = some go := rfl
  have hn : n = L.length := by
    obtain ⟨A, c, hv, _, _⟩ := h.nest
    injection hv
  subst hn
  have key : ∀ (u1 : Value) (r1 : List α), w.ownsRow base e1 1 u1 r1.length (r1.map enc) → (∀ g, u1.ownBlock = some g → (Value.slice (some ⟨go, 0, none⟩) L.length cap).ownBlock ≠ some g) → (w.setCell ⟨go, i, none⟩ u).ownsRow base e1 1 u1 r1.length (r1.map enc) := fun u1 r1 h1 h2 =>
    ownsRow_setCell_other h1 (fun e => h2 go e hob) _
  have set_at : ∀ {k : Nat} {x : Value}, (vs.set i u)[k]? = some x → (k = i ∧ x = u) ∨ (k ≠ i ∧ vs[k]? = some x) := by
    intro k x hx
    rw [List.getElem?_set] at hx
    by_cases hk : i = k
    · subst hk
      rw [if_pos rfl] at hx
      split at hx
      · injection hx with hx
        exact .inl ⟨rfl, hx.symm⟩
      · cases hx
    · rw [if_neg hk] at hx
      exact .inr ⟨fun e => hk e.symm, hx⟩
  refine ⟨by rw [List.length_set, List.length_set]; exact h.len, ?_, fun k r1 hr1 => ?_, fun k u1 g hu1 hg1 => ?_, fun k j u1 u2 g hkj h1 h2 hg1 => ?_⟩
  · rw [List.length_set]
    exact (h.out.stored i u).1
  · rw [List.getElem?_set] at hr1
    by_cases hk : i = k
    · subst hk
      rw [if_pos rfl] at hr1
      split at hr1
      · rename_i hi
        injection hr1 with hr1
        subst hr1
        exact ⟨u, by rw [List.getElem?_set_self (by rw [h.len]; exact hi)], key u _ hu fun g hg => (hf g hg).1⟩
      · cases hr1
    · rw [if_neg hk] at hr1
      obtain ⟨u1, hu1, ho1⟩ := h.row k r1 hr1
      exact ⟨u1, by rw [List.getElem?_set_ne hk]; exact hu1, key u1 r1 ho1 fun g hg => h.far k u1 g hu1 hg⟩
  · rcases set_at hu1 with ⟨_, rfl⟩ | ⟨_, hu1⟩
    · exact (hf g hg1).1
    · exact h.far k u1 g hu1 hg1
  · rcases set_at h1 with ⟨hk, rfl⟩ | ⟨hk, i1⟩
    · rcases set_at h2 with ⟨hj, rfl⟩ | ⟨hj, i2⟩
      · omega
      · exact (hf g hg1).2 j u2 i2
    · rcases set_at h2 with ⟨hj, rfl⟩ | ⟨hj, i2⟩
      · exact fun hg2 => (hf g hg2).2 k u1 i1 hg1
      · exact h.apart k j u1 u2 g hkj i1 i2 hg1
theorem zero_nils (n : Nat) : (madeCells (Value.slice none 0 0).cells (n * 1)).toList = List.replicate n (Value.slice none 0 0) := by
  refine List.ext_getElem? fun i => ?_
  by_cases hi : i < n
  · simp [madeCells, hi, Value.cells, Nat.mod_one]
  · simp [madeCells, hi]
theorem OwnV.nils {v : Value} (h : w.ownsRow base e2 1 v n (List.replicate n (Value.slice none 0 0))) : OwnV enc w base e1 e2 v (List.replicate n (Value.slice none 0 0)) (List.replicate n ([] : List α)) := by
  have at_ : ∀ {i : Nat} {u : Value}, (List.replicate n (Value.slice none 0 0))[i]? = some u → u = .slice none 0 0 := fun h => List.eq_of_mem_replicate (List.mem_of_getElem? h)
  refine ⟨by simp, by simpa using h, fun i r hr => ?_, fun i u g hu hg => ?_, fun i j u1 u2 g _ hu hu2 hg => ?_⟩
  · have hi : i < n := by have := (List.getElem?_eq_some_iff.1 hr).1; simpa using this
    have : r = [] := List.eq_of_mem_replicate (List.mem_of_getElem? hr)
    subst this
    exact ⟨_, by rw [List.getElem?_replicate, if_pos hi], World.ownsRow_nil w base e1 1⟩
  · rw [at_ hu] at hg
    cases hg
  · rw [at_ hu] at hg
    cases hg
end
/-- The first i of the new ones, and then the old ones. -/
def mixL {α : Type} (new old : List α) (i : Nat) : List α := new.take i ++ old.drop i
section
variable {α : Type} {new old : List α} {i : Nat}
theorem mixL_zero (new old : List α) : mixL new old 0 = old := by simp [mixL]
theorem mixL_all (hl : new.length = old.length) : mixL new old old.length = new := by simp [mixL, ← hl]
theorem mixL_len (hl : new.length = old.length) (hi : i ≤ old.length) : (mixL new old i).length = old.length := by
  simp [mixL]; omega
theorem mixL_old (hl : new.length = old.length) {k : Nat} (h : i ≤ k) : (mixL new old i)[k]? = old[k]? := by
  unfold mixL
  rcases Nat.lt_or_ge i new.length with h1 | h1
  · rw [List.getElem?_append_right (by simp; omega), List.length_take, Nat.min_eq_left (by omega), List.getElem?_drop]
    congr 1; omega
  · rw [List.getElem?_eq_none (by simp; omega), List.getElem?_eq_none (by omega)]
theorem mixL_new (hl : new.length = old.length) {k : Nat} (h : k < i) : (mixL new old i)[k]? = new[k]? := by
  unfold mixL
  rcases Nat.lt_or_ge k new.length with h1 | h1
  · rw [List.getElem?_append_left (by simp; omega), List.getElem?_take, if_pos h]
  · rw [List.getElem?_eq_none (by simp; omega), List.getElem?_eq_none h1]
theorem mixL_set (hl : new.length = old.length) {x : α} (hx : new[i]? = some x) : (mixL new old i).set i x = mixL new old (i + 1) := by
  have hi : i < new.length := (List.getElem?_eq_some_iff.1 hx).1
  refine List.ext_getElem? fun k => ?_
  rw [List.getElem?_set, mixL_len hl (by omega)]
  by_cases hk : i = k
  · subst hk
    rw [if_pos rfl, if_pos (by omega), mixL_new hl (by omega), hx]
  · rw [if_neg hk]
    rcases Nat.lt_or_ge k i with h | h
    · rw [mixL_new hl h, mixL_new hl (by omega)]
    · rw [mixL_old hl h, mixL_old hl (by omega)]
theorem mixL_same (hl : new.length = old.length) (h : new[i]? = old[i]?) : mixL new old (i + 1) = mixL new old i := by
  refine List.ext_getElem? fun k => ?_
  rcases Nat.lt_trichotomy k i with h1 | rfl | h1
  · rw [mixL_new hl h1, mixL_new hl (by omega)]
  · rw [mixL_new hl (by omega), mixL_old hl (Nat.le_refl _), h]
  · rw [mixL_old hl (by omega), mixL_old hl (by omega)]
end
end Go.Proofs.Ytnkdpogplkomhaa
