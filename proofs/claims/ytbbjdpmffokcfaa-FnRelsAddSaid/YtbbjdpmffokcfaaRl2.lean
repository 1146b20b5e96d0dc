/- More on lists of relations as plain data: dropped and added again, added from the last one on, told the other way round. -/
import Derived.Test.YtbbjdpmffokcfaaRel
namespace Go.Proofs.Ytbbjdpmffokcfaa
open Go.RowKit

theorem okR_mem {l : List Ctx} {c : Ctx} (h : validR l = true) (hc : c ∈ l) : okR c = true := validO_ok h c hc
theorem dropOkR_parts {l : List Ctx} {c : Ctx} (h : dropOkR l c = true) : validR l = true ∧ ∃ k : Nat, findR l c = k ∧ k < l.length ∧ l[k]? = some c ∧ dropR l c = l.take k ++ l.drop (k + 1) := by
  simp only [dropOkR, Bool.and_eq_true, decide_eq_true_eq] at h
  refine ⟨h.1, ?_⟩
  rcases findP_spec (fun d => eqC d c) l with ⟨e, _⟩ | ⟨k, d, e, hk, hp, _⟩
  · have := h.2; unfold findR at this; omega
  · have hd : d = c := (eqC_iff _ _).1 hp
    subst hd
    have hf : findR l d = k := e
    refine ⟨k, hf, (List.getElem?_eq_some_iff.1 hk).1, hk, ?_⟩
    unfold dropR
    rw [if_pos h.1, hf, if_pos (by omega), Int.toNat_natCast]
theorem lessR_no {a b : Ctx} (h : lessR a b = true) : lessR b a = false := by
  cases hb : lessR b a
  · rfl
  · have := lessR_tr _ _ _ h hb
    rw [lessR_ir] at this
    cases this
theorem lessR_ne {a b : Ctx} (h : lessR a b = true) : a ≠ b := fun e => by
  rw [e, lessR_ir] at h
  cases h
theorem pair_at {l : List Ctx} (h : validR l = true) {i j : Nat} {a b : Ctx} (hi : l[i]? = some a) (hj : l[j]? = some b) (hij : i < j) : lessR a b = true := by
  have hp := pairO lessR_tr h
  rw [List.pairwise_iff_getElem] at hp
  obtain ⟨h1, rfl⟩ := List.getElem?_eq_some_iff.1 hi
  obtain ⟨h2, rfl⟩ := List.getElem?_eq_some_iff.1 hj
  exact hp i j h1 h2 hij
/-- What is dropped is gone, and adding it leads back. -/
theorem dropR_back {l : List Ctx} {c : Ctx} (h : dropOkR l c = true) : dropOkR (dropR l c) c = false ∧ addOkR (dropR l c) c = true ∧ addR (dropR l c) c = l := by
  obtain ⟨hv, k, hf, hk, hc, hd⟩ := dropOkR_parts h
  have hv2 : validR (dropR l c) = true := by rw [hd]; exact validO_sub lessR_tr hv (part_sub l k)
  have htk : (l.take k).length = k := by rw [List.length_take]; omega
  have hat : ∀ (j : Nat) (d : Ctx), (l.take k ++ l.drop (k + 1))[j]? = some d → (j < k ∧ l[j]? = some d) ∨ (k ≤ j ∧ l[j + 1]? = some d) := by
    intro j d hj
    rcases Nat.lt_or_ge j k with hlt | hge
    · rw [List.getElem?_append_left (by omega), List.getElem?_take, if_pos hlt] at hj
      exact .inl ⟨hlt, hj⟩
    · rw [List.getElem?_append_right (by omega), htk, List.getElem?_drop, show k + 1 + (j - k) = j + 1 from by omega] at hj
      exact .inr ⟨hge, hj⟩
  have hno : findR (dropR l c) c = -1 := by
    rw [hd]
    refine findP_none _ _ fun j d hj => eqC_no fun e => ?_
    subst e
    rcases hat j d hj with ⟨hlt, hj2⟩ | ⟨hge, hj2⟩
    · exact lessR_ne (pair_at hv hj2 hc hlt) rfl
    · exact lessR_ne (pair_at hv hc hj2 (by omega)) rfl
  have hlen := validO_len hv
  have hl2 : (dropR l c).length < 30 := by rw [hd, List.length_append, htk, List.length_drop]; omega
  have hadd := addR_new (c := c) hv2 (okR_mem hv (List.mem_of_getElem? hc)) (by rw [hno]; omega) hl2
  refine ⟨by simp [dropOkR, hno], hadd.2, ?_⟩
  rw [hadd.1, hd, insO_at c _ k (by rw [List.length_append, htk, List.length_drop]; omega)]
  · rw [List.take_left' htk, List.drop_left' htk]
    have h1 : l[k] = c := (List.getElem?_eq_some_iff.1 hc).2
    have h2 : l.drop k = c :: l.drop (k + 1) := by rw [List.drop_eq_getElem_cons hk, h1]
    rw [← h2, List.take_append_drop]
  · intro j d hj hd2
    rcases hat j d hd2 with ⟨hlt, hj2⟩ | ⟨hge, hj2⟩
    · exact pair_at hv hj2 hc hlt
    · omega
  · intro d hd2
    rcases hat k d hd2 with ⟨hlt, hj2⟩ | ⟨hge, hj2⟩
    · omega
    · exact lessR_no (pair_at hv hc hj2 (by omega))
/-- The relations of a valid list, added from the last one on. -/
theorem addR_down {l : List Ctx} {k : Nat} (h : validR l = true) (hk : k < l.length) : addOkR (l.drop (k + 1)) l[k] = true ∧ addR (l.drop (k + 1)) l[k] = l.drop k := by
  have hv2 : validR (l.drop (k + 1)) = true := validO_sub lessR_tr h (List.drop_sublist _ _)
  have hlen := validO_len h
  have hk0 : l[k]? = some l[k] := List.getElem?_eq_getElem hk
  have hno : findR (l.drop (k + 1)) l[k] = -1 := by
    refine findP_none _ _ fun j d hj => eqC_no fun e => ?_
    rw [List.getElem?_drop] at hj
    exact lessR_ne (pair_at h hk0 hj (by omega)) e.symm
  have hadd := addR_new (c := l[k]) hv2 (okR_mem h (List.getElem_mem hk)) (by rw [hno]; omega) (by rw [List.length_drop]; omega)
  refine ⟨hadd.2, ?_⟩
  rw [hadd.1, insO_at l[k] _ 0 (Nat.zero_le _) (fun j d hj => absurd hj (by omega))]
  · rw [List.take_zero, List.drop_zero, List.nil_append, ← List.drop_eq_getElem_cons hk]
  · intro d hd
    rw [List.getElem?_drop] at hd
    exact lessR_no (pair_at h hk0 hd (by omega))
theorem okR_turned {x : Ctx} (h : okR x = true) (h2 : x.area = 2) : okR ⟨x.kind, x.id, 2⟩ = false ∧ okR ⟨x.kind, x.id, 1⟩ = true := by
  simp only [okR, inR, Bool.and_eq_true, Bool.or_eq_true, decide_eq_true_eq, h2] at h ⊢
  constructor
  · rw [Bool.eq_false_iff]
    intro h3
    simp only [Bool.and_eq_true, Bool.or_eq_true, decide_eq_true_eq] at h3
    omega
  · simp; omega
theorem addR_none {c : Ctx} : addOkR [] c = okR c := by
  simp [addOkR, validR, validO, roomR, findR, findP, findFromP]
end Go.Proofs.Ytbbjdpmffokcfaa
