/- What the law on the contexts of a circle needs, as plain facts. -/
import Derived.Test.YtpkmnigkcefnpaaDoorCc
import Derived.Test.YtpkmnigkcefnpaaDoorMm
namespace Go.Proofs.YtpkmnigkcefnpaaDoor
open Go.RowKit

theorem nodup_of {α : Type} {l : List α} (h : ∀ (i j : Nat) (x : α), i < j → l[i]? = some x → l[j]? = some x → False) : l.Nodup := by
  rw [List.Nodup, List.pairwise_iff_getElem]
  intro i j hi hj hij e
  exact h i j _ hij (List.getElem?_eq_getElem hi) (by rw [List.getElem?_eq_getElem hj, e])
theorem nodup_at {α : Type} {l : List α} (h : l.Nodup) {i j : Nat} {x : α} (hij : i < j) (hi : l[i]? = some x) (hj : l[j]? = some x) : False := by
  rw [List.Nodup, List.pairwise_iff_getElem] at h
  obtain ⟨h1, e1⟩ := List.getElem?_eq_some_iff.1 hi
  obtain ⟨h2, e2⟩ := List.getElem?_eq_some_iff.1 hj
  exact h i j h1 h2 hij (e1.trans e2.symm)
theorem chain_at {f : Nat → Nat → Bool} : ∀ {p : List Nat} {i x y : Nat}, chainB f p = true → p[i]? = some x → p[i + 1]? = some y → f x y = true
  | [], i, x, y, _, h, _ => by simp at h
  | [a], i, x, y, _, _, h => by simp at h
  | a :: b :: p, 0, x, y, hc, h1, h2 => by
    simp only [chainB, Bool.and_eq_true] at hc
    simp at h1 h2
    rw [← h1, ← h2]
    exact hc.1
  | a :: b :: p, i + 1, x, y, hc, h1, h2 => by
    simp only [chainB, Bool.and_eq_true] at hc
    exact chain_at (p := b :: p) (i := i) hc.2 (by simpa using h1) (by simpa using h2)
theorem last_at : ∀ {p : List Nat} {x : Nat}, p[p.length - 1]? = some x → lastD p = x
  | [], x, h => by simp at h
  | [a], x, h => by simpa [lastD] using h
  | a :: b :: p, x, h => by
    have := last_at (p := b :: p) (x := x) (by simpa using h)
    exact this
/-- Each place of a circle leads to the next one, the last one to the first one. -/
theorem back_next {f : Nat → Nat → Bool} {a t u : Nat} {p : List Nat} (h : Back f a t u p) {i x y : Nat} (hx : p[i]? = some x) (hy : p[(i + 1) % p.length]? = some y) : f x y = true := by
  have hi : i < p.length := (List.getElem?_eq_some_iff.1 hx).1
  obtain ⟨⟨h1, h2, h3, h4⟩, h5⟩ := h
  by_cases hl : i + 1 < p.length
  · rw [Nat.mod_eq_of_lt hl] at hy
    exact chain_at h2 hx hy
  · have e : i + 1 = p.length := by omega
    rw [e, Nat.mod_self] at hy
    have e2 : lastD p = x := last_at (by rw [show p.length - 1 = i from by omega]; exact hx)
    rw [List.head?_eq_getElem?, hy] at h3
    injection h3 with h3
    rw [← e2, h4, h3]
    exact h5
/-- A relation that tells that the group of x lies directly above that of y. -/
def goodC (ids : List Int) (l : List Ctx) (x y : Int) (r : Ctx) : Bool := decide (r.area = 1) && (decide (r.id ∈ membersG ids l x) && decide (r.kind ∈ membersG ids l y))
theorem cyc_facts {ids : List Int} {l : List Ctx} {C : List Int} (hC : C = cycG ids l) (h0 : C.length ≠ 0) : okG ids l = true ∧ C.Nodup ∧ (∀ x ∈ C, x ∈ headsG ids l) ∧
    ∀ (i : Nat) (x y : Int), C[i]? = some x → C[(i + 1) % C.length]? = some y → ¬ ∀ (k : Nat) (r : Ctx), l[k]? = some r → goodC ids l x y r = false := by
  obtain ⟨hok, he⟩ := cycG_ok (by rw [← hC]; exact h0)
  have hfc := cycP_first (dirG_in hok)
  have hsm := (cycP_small (dirG_in hok)).2
  obtain ⟨p, hp⟩ : ∃ p, p = cycP (dirG ids (groupsG ids l) l) ids.length ids.length := ⟨_, rfl⟩
  rw [← hp] at he hfc hsm
  rw [he] at hC
  have hlen : C.length = p.length := by rw [hC, idsAt_len]
  have hnd := firstC_nodup hfc
  rcases hfc with ⟨h1, _⟩ | ⟨a, t, u, hb, _, _⟩
  · rw [hlen, h1] at h0
    exact absurd rfl h0
  have hown : ∀ q ∈ p, hcI ids (groupsG ids l) q = q := by
    intro q hq
    obtain ⟨i, hi⟩ := List.mem_iff_getElem?.1 hq
    have hil : i < p.length := (List.getElem?_eq_some_iff.1 hi).1
    obtain ⟨y, hy⟩ : ∃ y, p[(i + 1) % p.length]? = some y := ⟨_, List.getElem?_eq_getElem (Nat.mod_lt _ (by omega))⟩
    exact (dirG_own hok (back_next hb hi hy)).1
  have hat : ∀ {i q : Nat}, p[i]? = some q → ∃ c, C[i]? = some c ∧ ids[q]? = some c ∧ (groupsG ids l)[q]? = some c ∧ hcG ids (groupsG ids l) c = q := by
    intro i q hq
    have hm := List.mem_of_getElem? hq
    obtain ⟨c, h1, h2, h3⟩ := head_at hok (hsm q hm) (hown q hm)
    exact ⟨c, by rw [hC, idsAt_at hq, h1]; rfl, h1, h2, h3⟩
  have hto : ∀ {i : Nat} {x : Int}, C[i]? = some x → ∃ q, p[i]? = some q ∧ ids[q]? = some x ∧ (groupsG ids l)[q]? = some x ∧ hcG ids (groupsG ids l) x = q := by
    intro i x hx
    have hil : i < p.length := by rw [← hlen]; exact (List.getElem?_eq_some_iff.1 hx).1
    obtain ⟨q, hq⟩ : ∃ q, p[i]? = some q := ⟨_, List.getElem?_eq_getElem hil⟩
    obtain ⟨c, h1, h2, h3, h4⟩ := hat hq
    rw [hx] at h1
    injection h1 with h1
    subst h1
    exact ⟨q, hq, h2, h3, h4⟩
  refine ⟨hok, ?_, fun x hx => ?_, fun i x y hx hy hno => ?_⟩
  · refine nodup_of fun i j x hij hx hx2 => ?_
    obtain ⟨q, h1, _, _, h4⟩ := hto hx
    obtain ⟨q2, i1, _, _, i4⟩ := hto hx2
    have e2 : q = q2 := h4.symm.trans i4
    subst e2
    exact nodup_at hnd hij h1 i1
  · obtain ⟨i, hi⟩ := List.mem_iff_getElem?.1 hx
    obtain ⟨q, _, h2, h3, _⟩ := hto hi
    unfold headsG
    rw [groupsOfG, if_pos hok, selG_mem]
    exact ⟨q, x, h3, h2, by simp [sameP]⟩
  · obtain ⟨q, h1, h2, _, h4⟩ := hto hx
    obtain ⟨q2, i1, i2, _, i4⟩ := hto hy
    rw [hlen] at i1
    have hd := back_next hb h1 i1
    obtain ⟨r, hr, hr1, hr2, hr3⟩ := dirG_iff.1 hd
    obtain ⟨hmA, hmB⟩ := (okG_parts hok).2.2 r hr
    have hxm := List.mem_of_getElem? h2
    have hym := List.mem_of_getElem? i2
    obtain ⟨k, hk⟩ := List.mem_iff_getElem?.1 hr
    have h9 := hno k r hk
    unfold goodC at h9
    rw [mem_members hok hxm hmA, mem_members hok hym hmB, decide_eq_true hr1, decide_eq_true (hcG_inj hok hmA hxm (hr2.trans h4.symm)), decide_eq_true (hcG_inj hok hmB hym (hr3.trans i4.symm))] at h9
    cases h9
end Go.Proofs.YtpkmnigkcefnpaaDoor
