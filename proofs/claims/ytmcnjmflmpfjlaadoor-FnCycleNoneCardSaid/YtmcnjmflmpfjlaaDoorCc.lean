/- What the laws on circles need, as plain facts. -/
import Derived.Test.YtmcnjmflmpfjlaaDoorV8
import Derived.Test.YtmcnjmflmpfjlaaDoorUu
namespace Go.Proofs.YtmcnjmflmpfjlaaDoor
open Go.RowKit

theorem idsAt_len (ids : List Int) (p : List Nat) : (idsAt ids p).length = p.length := by simp [idsAt]
theorem dirS_in (ids : List Int) (l : List Ctx) (h : 0 < szG ids l) : ∀ i j, dirG ids (groupsG ids l) l i j = true → i < szG ids l ∧ j < szG ids l := by
  intro i j hij
  cases hok : okG ids l
  · rw [szG_no hok] at h; omega
  · rw [szG_ok hok]
    exact dirG_in hok i j hij
theorem cycG_len (ids : List Int) (l : List Ctx) : (cycG ids l).length ≤ 12 := by
  unfold cycG
  rw [idsAt_len]
  rcases Nat.eq_zero_or_pos (szG ids l) with h | h
  · rw [h, cycP_nil]; simp
  · have := (cycP_small (dirS_in ids l h)).1
    have := szG_le ids l
    omega
theorem cycG_ok {ids : List Int} {l : List Ctx} (h : (cycG ids l).length ≠ 0) : okG ids l = true ∧ cycG ids l = idsAt ids (cycP (dirG ids (groupsG ids l) l) ids.length ids.length) := by
  cases hok : okG ids l
  · exfalso
    apply h
    unfold cycG
    rw [szG_no hok, cycP_nil]
    rfl
  · refine ⟨rfl, ?_⟩
    unfold cycG
    rw [szG_ok hok]
section
variable {ids : List Int} {l : List Ctx}
/-- A place of a head: the context at it, and its own place. -/
theorem head_at (h : okG ids l = true) {p : Nat} (hp : p < ids.length) (hs : hcI ids (groupsG ids l) p = p) : ∃ c, ids[p]? = some c ∧ (groupsG ids l)[p]? = some c ∧ hcG ids (groupsG ids l) c = p := by
  obtain ⟨x, j, h0, h1, h2, h3, e⟩ := hcI_head h hp
  rw [hs] at e
  subst e
  exact ⟨x, h2, h3, by rw [hcG_place, placeI_own (okG_parts h).1 h2]; exact hs⟩
theorem cyc_none (h : okG ids l = true) : decide ((cycG ids l).length = 0) = ordOkG ids l := by
  have hc : cycG ids l = idsAt ids (cycP (dirG ids (groupsG ids l) l) ids.length ids.length) := by unfold cycG; rw [szG_ok h]
  rw [hc, idsAt_len]
  rcases cycP_first (dirG_in h) with ⟨h1, h2⟩ | ⟨a, t, u, hb, _, _⟩
  · rw [h1]
    symm
    refine ordOk_of h fun k a hk => ?_
    cases hu : upG ids l a a
    · rfl
    · exfalso
      unfold upG at hu
      obtain ⟨t, u, p, hp⟩ := clos_back (T := fun i j => clos (dirG ids (groupsG ids l) l) ids.length i j = true) (fun i j hij U h0 ht => clos_least h0 ht hij) hu
      exact h2 _ _ _ _ hp
  · have hl : (cycP (dirG ids (groupsG ids l) l) ids.length ids.length).length ≠ 0 := by rw [hb.1.1]; omega
    rw [decide_eq_false hl]
    have hin := (dirG_in h _ _ hb.2).2
    obtain ⟨c, h1, _, h3⟩ := head_at h hin (dirG_own h hb.2).2
    symm
    refine ordOk_no h1 ?_
    unfold upG
    rw [h3]
    exact back_clos (U := fun i j => clos (dirG ids (groupsG ids l) l) ids.length i j = true) (fun i j hij => clos_direct hij) (fun i j k h1 h2 => clos_trans (dirG_in h) h1 h2) hb
theorem idsAt_at {p : List Nat} {i x : Nat} (hx : p[i]? = some x) : (idsAt ids p)[i]? = some (ids[x]?.getD 0) := by simp [idsAt, hx]
theorem cyc_first {C : List Int} (hC : C = cycG ids l) {i : Nat} {x y : Int} (hx : C[i]? = some x) (hy : C[0]? = some y) : y ≤ x := by
  have hlen : (cycG ids l).length ≠ 0 := by
    rw [← hC]
    have := (List.getElem?_eq_some_iff.1 hx).1
    omega
  obtain ⟨hok, he⟩ := cycG_ok hlen
  rw [hC, he] at hx hy
  have hfc := cycP_first (dirG_in hok)
  have hsm := (cycP_small (dirG_in hok)).2
  obtain ⟨p, hp⟩ : ∃ p, p = cycP (dirG ids (groupsG ids l) l) ids.length ids.length := ⟨_, rfl⟩
  rw [← hp] at hx hy hfc hsm
  have hi : i < p.length := by have := (List.getElem?_eq_some_iff.1 hx).1; rw [idsAt_len] at this; exact this
  obtain ⟨a, ha⟩ : ∃ a, p[i]? = some a := ⟨_, List.getElem?_eq_getElem hi⟩
  obtain ⟨b, hb⟩ : ∃ b, p[0]? = some b := ⟨_, List.getElem?_eq_getElem (by omega)⟩
  have hba : b ≤ a := firstC_least hfc (by rw [List.head?_eq_getElem?]; exact hb) (List.mem_of_getElem? ha)
  rw [idsAt_at ha] at hx
  rw [idsAt_at hb] at hy
  have ha2 := hsm a (List.mem_of_getElem? ha)
  have hb2 := hsm b (List.mem_of_getElem? hb)
  obtain ⟨xa, hxa⟩ : ∃ xa, ids[a]? = some xa := ⟨_, List.getElem?_eq_getElem ha2⟩
  obtain ⟨xb, hxb⟩ : ∃ xb, ids[b]? = some xb := ⟨_, List.getElem?_eq_getElem hb2⟩
  rw [hxa] at hx
  rw [hxb] at hy
  injection hx with hx
  injection hy with hy
  simp at hx hy
  subst hx hy
  rcases Nat.lt_or_ge b a with h | h
  · exact Int.le_of_lt (asc_lt (okG_parts hok).1 hxb hxa h)
  · obtain rfl : a = b := by omega
    rw [hxa] at hxb
    injection hxb with hxb
    omega
theorem cyc_short (h3 : 3 ≤ (cycG ids l).length) {i k : Nat} {r s : Ctx} (hr : l[i]? = some r) (hs : l[k]? = some s) (h1 : r.area = 1) (h2 : s.area = 1) (e1 : r.id = s.kind) (e2 : r.kind = s.id) : False := by
  obtain ⟨hok, he⟩ := cycG_ok (show (cycG ids l).length ≠ 0 by omega)
  rw [he, idsAt_len] at h3
  have d1 : dirG ids (groupsG ids l) l (hcG ids (groupsG ids l) r.id) (hcG ids (groupsG ids l) r.kind) = true := dirG_iff.2 ⟨r, List.mem_of_getElem? hr, h1, rfl, rfl⟩
  have d2 : dirG ids (groupsG ids l) l (hcG ids (groupsG ids l) r.kind) (hcG ids (groupsG ids l) r.id) = true := dirG_iff.2 ⟨s, List.mem_of_getElem? hs, h2, by rw [e2], by rw [e1]⟩
  rcases cycP_first (dirG_in hok) with ⟨h4, _⟩ | ⟨a, t, u, hb, hm, _⟩
  · rw [h4] at h3
    simp at h3
  · have := hm _ _ _ _ ⟨way_next (way_start (hcG ids (groupsG ids l) r.id)) d1, d2⟩
    have := hb.1.1
    omega
end
end Go.Proofs.YtmcnjmflmpfjlaaDoor
