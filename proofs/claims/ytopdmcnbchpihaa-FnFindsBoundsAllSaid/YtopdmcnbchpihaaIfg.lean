/- A row of one's own that grows within a table of rows; the years of finds by their contexts. -/
import Derived.Test.YtopdmcnbchpihaaFf
import Derived.Test.YtopdmcnbchpihaaVv
namespace Go.Proofs.Ytopdmcnbchpihaa
open Go.RowKit

theorem own_base {w : World} {base base2 e size n : Nat} {v : Value} {xs : List Value} (h : w.ownsRow base e size v n xs) (hb : ∀ g, v.ownBlock = some g → base2 ≤ g) : w.ownsRow base2 e size v n xs := by
  refine ⟨h.1, ?_⟩
  rcases h.2 with hn | ⟨g, cap, cur, rfl, _, rest⟩
  · exact .inl hn
  · exact .inr ⟨g, cap, cur, rfl, hb g rfl, rest⟩
section
variable {α : Type} {enc : α → Value} {w w2 : World} {base n go cap : Nat} {e1 e2 : TypeId} {vs : List Value} {L : List (List α)}
/-- A row has grown, in place or into a new block, and is laid into its place. -/
theorem OwnV.regrow {u u2 : Value} {r2 : List α} {i : Nat} (h : OwnV enc w base e1 e2 (.slice (some ⟨go, 0, none⟩) n cap) vs L) (hu : vs[i]? = some u) (hg : w.grownBy w2 u.ownBlock) (ho : w2.ownsRow base e1 1 u2 r2.length (r2.map enc))
    (hat : u2.ownBlock = u.ownBlock ∨ u2.ownBlock = some w.heap.size) : OwnV enc (w2.setCell ⟨go, i, none⟩ u2) base e1 e2 (.slice (some ⟨go, 0, none⟩) n cap) (vs.set i u2) (L.set i r2) := by
  have hob : (Value.slice (some ⟨go, 0, none⟩) n cap).ownBlock = some go := rfl
  have hn : n = L.length := by
    obtain ⟨A, c, hv, _, _⟩ := h.nest
    injection hv
  subst hn
  have hgo := (h.out.lt go rfl).2
  have hout : w2.ownsRow base e2 1 (.slice (some ⟨go, 0, none⟩) L.length cap) L.length vs := h.out.kept hg (.inr (by
    rw [hob]
    intro e
    exact h.far i u go hu e.symm rfl))
  have hfar2 : ∀ g, u2.ownBlock = some g → (Value.slice (some ⟨go, 0, none⟩) L.length cap).ownBlock ≠ some g := fun g hg2 => by
    rcases hat with e | e
    · exact h.far i u g hu (e ▸ hg2)
    · rw [hg2] at e
      injection e with e
      rw [hob]
      intro e2
      injection e2 with e2
      omega
  have hap2 : ∀ (j : Nat) (u1 : Value) (g : Nat), j ≠ i → vs[j]? = some u1 → u1.ownBlock = some g → u2.ownBlock ≠ some g := fun j u1 g hj h1 hg1 e => by
    rcases hat with e2 | e2
    · exact h.apart j i u1 u g hj h1 hu hg1 (e2 ▸ e)
    · rw [e] at e2
      injection e2 with e2
      have := (h.lt h1 hg1).2
      omega
  have key : ∀ (j : Nat) (u1 : Value) (r1 : List α), j ≠ i → vs[j]? = some u1 → w.ownsRow base e1 1 u1 r1.length (r1.map enc) → (w2.setCell ⟨go, i, none⟩ u2).ownsRow base e1 1 u1 r1.length (r1.map enc) := fun j u1 r1 hj h1 h2 => by
    refine ownsRow_setCell_other (h2.kept hg ?_) (fun e => h.far j u1 go h1 e hob) _
    cases e : u1.ownBlock with
    | none => exact .inl rfl
    | some g => exact .inr fun e2 => h.apart j i u1 u g hj h1 hu e e2.symm
  have set_at : ∀ {k : Nat} {x : Value}, (vs.set i u2)[k]? = some x → (k = i ∧ x = u2) ∨ (k ≠ i ∧ vs[k]? = some x) := by
    intro k x hx
    rw [List.getElem?_set] at hx
    by_cases hk : i = k
    · subst hk
      rw [if_pos rfl] at hx
      split at hx
      · injection hx with hx
        exact .inl ⟨rfl, hx.symm⟩
      · cases hx
    · rw [if_neg hk] at hx
      exact .inr ⟨fun e => hk e.symm, hx⟩
  refine ⟨by rw [List.length_set, List.length_set]; exact h.len, ?_, fun k r1 hr1 => ?_, fun k u1 g hu1 hg1 => ?_, fun k j u1 u2' g hkj h1 h2 hg1 => ?_⟩
  · rw [List.length_set]
    exact (hout.stored i u2).1
  · rw [List.getElem?_set] at hr1
    by_cases hk : i = k
    · subst hk
      rw [if_pos rfl] at hr1
      split at hr1
      · rename_i hi
        injection hr1 with hr1
        subst hr1
        exact ⟨u2, by rw [List.getElem?_set_self (by rw [h.len]; exact hi)], ownsRow_setCell_other ho (fun e => hfar2 go e hob) _⟩
      · cases hr1
    · rw [if_neg hk] at hr1
      obtain ⟨u1, hu1, ho1⟩ := h.row k r1 hr1
      exact ⟨u1, by rw [List.getElem?_set_ne hk]; exact hu1, key k u1 r1 (fun e => hk e.symm) hu1 ho1⟩
  · rcases set_at hu1 with ⟨_, rfl⟩ | ⟨_, hu1⟩
    · exact hfar2 g hg1
    · exact h.far k u1 g hu1 hg1
  · rcases set_at h1 with ⟨hk, rfl⟩ | ⟨hk, i1⟩
    · rcases set_at h2 with ⟨hj, rfl⟩ | ⟨hj, i2⟩
      · omega
      · exact fun e => hap2 j u2' g hj i2 e hg1
    · rcases set_at h2 with ⟨hj, rfl⟩ | ⟨hj, i2⟩
      · exact hap2 k u1 g hk i1 hg1
      · exact h.apart k j u1 u2' g hkj i1 i2 hg1
end
/-- The years of finds, by the contexts X. -/
def yearsT (X : List Int) (L : List Ctx) : List (List Int) := X.map (yearsF L)
section
variable {X : List Int} {L : List Ctx}
theorem yearsT_len (X : List Int) (L : List Ctx) : (yearsT X L).length = X.length := by simp [yearsT]
theorem yearsT_at {i : Nat} {x : Int} (h : X[i]? = some x) : (yearsT X L)[i]? = some (yearsF L x) := by simp [yearsT, h]
theorem yearsT_zero (X : List Int) : yearsT X [] = List.replicate X.length [] := by
  unfold yearsT
  rw [show X.map (yearsF []) = X.map (fun _ => ([] : List Int)) from rfl]
  simp [List.map_const']
theorem pair_at (hX : X.Pairwise (· < ·)) {i j : Nat} {x : Int} (hi : X[i]? = some x) (hj : X[j]? = some x) : i = j := by
  obtain ⟨h1, e1⟩ := List.getElem?_eq_some_iff.1 hi
  obtain ⟨h2, e2⟩ := List.getElem?_eq_some_iff.1 hj
  rcases Nat.lt_trichotomy i j with h | h | h
  · have := List.pairwise_iff_getElem.1 hX i j h1 h2 h; omega
  · exact h
  · have := List.pairwise_iff_getElem.1 hX j i h2 h1 h; omega
theorem yearsT_next (hX : X.Pairwise (· < ·)) {k q : Nat} {f : Ctx} (hf : L[k]? = some f) (hq : X[q]? = some f.id) : yearsT X (L.take (k + 1)) = (yearsT X (L.take k)).set q (yearsF (L.take k) f.id ++ [f.area]) := by
  refine List.ext_getElem? fun i => ?_
  by_cases hi : i < X.length
  · have hx : X[i]? = some X[i] := List.getElem?_eq_getElem hi
    rw [yearsT_at hx, yearsF_next hf]
    by_cases e : i = q
    · subst e
      have hid : f.id = X[i] := by rw [hx] at hq; exact (Option.some.inj hq).symm
      rw [if_pos hid, List.getElem?_set_self (by rw [yearsT_len]; exact hi), hid]
    · rw [List.getElem?_set_ne (Ne.symm e), yearsT_at hx, if_neg]
      intro hid
      rw [hid] at hq
      exact e (pair_at hX hx hq)
  · rw [List.getElem?_eq_none (by rw [yearsT_len]; omega), List.getElem?_eq_none (by rw [List.length_set, yearsT_len]; omega)]
/-- The bounds that the program finds, one for each context. -/
def bndQ (L : List Ctx) : List Ctx := (ctxF L).map fun id => findB id (yearsF L id)
theorem bndQ_len (L : List Ctx) : (bndQ L).length = (ctxF L).length := by simp [bndQ]
theorem bndQ_is (h : fbOk L = true) : bndQ L = fbG L := by
  have hv := (fbOk_parts h).1
  have key : ∀ (M : List Ctx), (∀ b ∈ M, findB b.id (yearsF L b.id) = b) → (M.map Ctx.id).map (fun id => findB id (yearsF L id)) = M := by
    intro M hM
    rw [List.map_map]
    have : ∀ b ∈ M, ((fun id => findB id (yearsF L id)) ∘ Ctx.id) b = id b := fun b hb => hM b hb
    rw [List.map_congr_left this, List.map_id]
  unfold bndQ
  rw [ctxF_ids hv, fbG_ok h]
  refine key _ fun b hb => ?_
  have := (fb_find h (b := b) (by rw [fbG_ok h]; exact hb)).2.1
  exact this
end
end Go.Proofs.Ytopdmcnbchpihaa
