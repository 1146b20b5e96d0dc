/- A relation more of the kind above between two contexts that are alone in their groups: what lies above what, and how many orders there are. Plain data. -/
import Derived.Test.YtmcnjmflmpfjlaaDq
import Derived.Test.YtmcnjmflmpfjlaaMm
namespace Go.Proofs.Ytmcnjmflmpfjlaa
open Go.RowKit

theorem split_at {L : List Ctx} {k : Nat} {r : Ctx} (h : L[k]? = some r) : L = L.take k ++ r :: L.drop (k + 1) := by
  obtain ⟨hkl, hke⟩ := List.getElem?_eq_some_iff.1 h
  rw [← hke, ← List.drop_eq_getElem_cons hkl, List.take_append_drop]
theorem mem_split {l L : List Ctx} {k : Nat} {r : Ctx} (h : L[k]? = some r) (hcut : L.take k ++ L.drop (k + 1) = l) (s : Ctx) : s ∈ L ↔ s = r ∨ s ∈ l := by
  rw [← hcut]
  conv => lhs; rw [split_at h]
  simp only [List.mem_append, List.mem_cons]
  constructor
  · rintro (h | h | h)
    · exact .inr (.inl h)
    · exact .inl h
    · exact .inr (.inr h)
  · rintro (h | h | h)
    · exact .inr (.inl h)
    · exact .inl h
    · exact .inr (.inr h)
theorem up_add {ids : List Int} {l L : List Ctx} {k : Nat} {r : Ctx} (hok : okG ids l = true) (hok2 : okG ids L = true) (hk : L[k]? = some r) (hcut : L.take k ++ L.drop (k + 1) = l) (h1 : r.area = 1) (x y : Int) :
    upG ids L x y = true ↔ upG ids l x y = true ∨ ((hcG ids (groupsG ids l) x = hcG ids (groupsG ids l) r.id ∨ upG ids l x r.id = true) ∧ (hcG ids (groupsG ids l) r.kind = hcG ids (groupsG ids l) y ∨ upG ids l r.kind y = true)) := by
  have hG : groupsG ids l = groupsG ids L := by rw [← hcut]; exact groupsG_drop hk (by omega)
  have hmem := mem_split hk hcut
  have hin2 := dirG_in hok2
  have hin := dirG_in hok
  unfold upG
  rw [← hG] at hin2 ⊢
  obtain ⟨hc, hhc⟩ : ∃ hc, hc = hcG ids (groupsG ids l) := ⟨_, rfl⟩
  obtain ⟨d, hd⟩ : ∃ d, d = dirG ids (groupsG ids l) l := ⟨_, rfl⟩
  obtain ⟨D, hD⟩ : ∃ D, D = dirG ids (groupsG ids l) L := ⟨_, rfl⟩
  have hDd : ∀ p q, D p q = true ↔ d p q = true ∨ (p = hc r.id ∧ q = hc r.kind) := fun p q => by
    rw [hD, hd, dirG_iff, dirG_iff, ← hhc]
    constructor
    · rintro ⟨s, hs, h2, h3, h4⟩
      rcases (hmem s).1 hs with rfl | hs
      · exact .inr ⟨h3.symm, h4.symm⟩
      · exact .inl ⟨s, hs, h2, h3, h4⟩
    · rintro (⟨s, hs, h2⟩ | ⟨h3, h4⟩)
      · exact ⟨s, (hmem s).2 (.inr hs), h2⟩
      · exact ⟨r, (hmem r).2 (.inl rfl), h1, h3.symm, h4.symm⟩
  rw [← hd] at hin
  rw [← hD] at hin2
  rw [← hd, ← hD, ← hhc]
  obtain ⟨n, hn⟩ : ∃ n, n = ids.length := ⟨_, rfl⟩
  rw [← hn] at hin hin2 ⊢
  constructor
  · intro h
    refine clos_least (T := fun p q => clos d n p q = true ∨ ((p = hc r.id ∨ clos d n p (hc r.id) = true) ∧ (hc r.kind = q ∨ clos d n (hc r.kind) q = true))) (fun p q hpq => ?_) (fun p q s h1 h2 => ?_) h
    · rcases (hDd p q).1 hpq with h2 | ⟨h2, h3⟩
      · exact .inl (clos_direct h2)
      · exact .inr ⟨.inl h2, .inl h3.symm⟩
    · rcases h1 with h1 | ⟨h1, h3⟩
      · rcases h2 with h2 | ⟨h2, h4⟩
        · exact .inl (clos_trans hin h1 h2)
        · refine .inr ⟨.inr ?_, h4⟩
          rcases h2 with rfl | h2
          · exact h1
          · exact clos_trans hin h1 h2
      · rcases h2 with h2 | ⟨_, h4⟩
        · refine .inr ⟨h1, .inr ?_⟩
          rcases h3 with h3 | h3
          · rw [h3]; exact h2
          · exact clos_trans hin h3 h2
        · exact .inr ⟨h1, h4⟩
  · have hup : ∀ p q, clos d n p q = true → clos D n p q = true := fun p q h => clos_mono hin2 (fun i j hij => (hDd i j).2 (.inl hij)) h
    have he : clos D n (hc r.id) (hc r.kind) = true := clos_direct ((hDd _ _).2 (.inr ⟨rfl, rfl⟩))
    rintro (h | ⟨h2, h3⟩)
    · exact hup _ _ h
    · have h4 : clos D n (hc x) (hc r.kind) = true := by
        rcases h2 with h2 | h2
        · rw [h2]; exact he
        · exact clos_trans hin2 (hup _ _ h2) he
      rcases h3 with h3 | h3
      · rw [← h3]; exact h4
      · exact clos_trans hin2 h4 (hup _ _ h3)
/-- A context that is alone in its group. -/
def AloneG (ids : List Int) (l : List Ctx) (a : Int) : Prop := ∀ x, x ∈ ids → labG ids (groupsG ids l) x = labG ids (groupsG ids l) a → x = a
theorem alone_of {ids : List Int} {l : List Ctx} (h : okG ids l = true) {a : Int} (ha : a ∈ ids) (hm : (membersG ids l a).length ≤ 1) : AloneG ids l a := by
  intro x hx e
  have h1 := of_decide_eq_true ((mem_members h ha hx).trans (decide_eq_true e))
  have h2 := of_decide_eq_true ((mem_members h ha ha).trans (decide_eq_true rfl))
  obtain ⟨i, hi, hie⟩ := List.mem_iff_getElem.1 h1
  obtain ⟨j, hj, hje⟩ := List.mem_iff_getElem.1 h2
  have hij : i = j := by omega
  subst hij
  rw [← hie, hje]
theorem countP_fun {f g : Nat → Nat → Bool} {n : Nat} (h : ∀ i j, i < n → j < n → f i j = g i j) (m : Nat) (d : Nat → Bool) : countP f n m d = countP g n m d := by
  refine count_congr (P := fun _ => True) (fun _ _ _ _ _ => trivial) (fun d a _ ha => ?_) m d trivial
  rw [Bool.eq_iff_iff, freeB_iff, freeB_iff]
  constructor
  · rintro ⟨h1, h2⟩
    exact ⟨h1, fun k hk hd => by rw [← h k a hk ha]; exact h2 k hk hd⟩
  · rintro ⟨h1, h2⟩
    exact ⟨h1, fun k hk hd => by rw [h k a hk ha]; exact h2 k hk hd⟩
section
variable {ids : List Int} {l : List Ctx} {a b : Int}
theorem add_ok (ho : ordOkG ids l = true) (ha : a ∈ ids) (hb : b ∈ ids) (hadd : addOkR l ⟨a, b, 1⟩ = true) : okG ids (addR l ⟨a, b, 1⟩) = true := by
  obtain ⟨h1, _, h3⟩ := okG_parts (ordOk_ok ho)
  obtain ⟨k, _, hk, hat, hcut⟩ := addR_at hadd
  unfold okG
  rw [h1, addR_valid hadd, Bool.true_and, Bool.true_and]
  unfold amongR
  rw [List.all_eq_true]
  intro s hs
  have hs2 := (mem_split hat hcut s).1 hs
  rcases hs2 with rfl | hs2
  · simp [ha, hb]
  · simp [h3 s hs2]
theorem ordF_add (ho : ordOkG ids l = true) (ha : a ∈ ids) (hb : b ∈ ids) (hadd : addOkR l ⟨a, b, 1⟩ = true) (hal : AloneG ids l a) (hbl : AloneG ids l b) {i j : Nat} (hi : i < ids.length) (hj : j < ids.length) :
    ordF ids (addR l ⟨a, b, 1⟩) i j = moreB (ordF ids l) (placeI ids a) (placeI ids b) i j := by
  have hok := ordOk_ok ho
  have hv := (okG_parts hok).1
  obtain ⟨k, _, _, hat, hcut⟩ := addR_at hadd
  have hup := up_add hok (add_ok ho ha hb hadd) hat hcut rfl (ids.getD i 0) (ids.getD j 0)
  dsimp only at hup
  obtain ⟨hpi, hmi⟩ := place_of hv hi
  obtain ⟨hpj, hmj⟩ := place_of hv hj
  obtain ⟨_, ha2, ha3⟩ := placeI_at ha
  obtain ⟨_, hb2, hb3⟩ := placeI_at hb
  have ea : ids.getD (placeI ids a) 0 = a := by simp [ha3]
  have eb : ids.getD (placeI ids b) 0 = b := by simp [hb3]
  have h1 : hcG ids (groupsG ids l) (ids.getD i 0) = hcG ids (groupsG ids l) a ↔ i = placeI ids a := by
    constructor
    · intro h
      rw [← hpi, hal _ hmi (hcG_inj hok hmi ha h)]
    · intro h
      rw [h, ea]
  have h2 : hcG ids (groupsG ids l) b = hcG ids (groupsG ids l) (ids.getD j 0) ↔ j = placeI ids b := by
    constructor
    · intro h
      rw [← hpj, hbl _ hmj (hcG_inj hok hmj hb h.symm)]
    · intro h
      rw [h, eb]
  have f1 : ∀ p q, p < ids.length → q < ids.length → ∀ (L : List Ctx), ordF ids L p q = upG ids L (ids.getD p 0) (ids.getD q 0) := fun p q hp hq L => by unfold ordF; rw [decide_eq_true hp, decide_eq_true hq]; rfl
  unfold moreB
  rw [f1 i j hi hj, f1 i j hi hj, f1 i _ hi ha2, f1 _ j hb2 hj, ea, eb, Bool.eq_iff_iff, hup, h1, h2]
  simp only [Bool.or_eq_true, Bool.and_eq_true, decide_eq_true_eq]
theorem add_ord (ho : ordOkG ids l = true) (ha : a ∈ ids) (hb : b ∈ ids) (hadd : addOkR l ⟨a, b, 1⟩ = true) (hal : AloneG ids l a) (hbl : AloneG ids l b) (hne : a ≠ b) (hba : upG ids l b a = false) : ordOkG ids (addR l ⟨a, b, 1⟩) = true := by
  have hok := ordOk_ok ho
  have hv := (okG_parts hok).1
  refine ordOk_of (add_ok ho ha hb hadd) fun i x hx => ?_
  have hi := (List.getElem?_eq_some_iff.1 hx).1
  have ex : ids.getD i 0 = x := by simp [hx]
  obtain ⟨_, ha2, ha3⟩ := placeI_at ha
  obtain ⟨_, hb2, hb3⟩ := placeI_at hb
  have ea : ids.getD (placeI ids a) 0 = a := by simp [ha3]
  have eb : ids.getD (placeI ids b) 0 = b := by simp [hb3]
  have hpab : placeI ids a ≠ placeI ids b := fun e => hne (by rw [← ea, ← eb, e])
  have hf := ordF_add ho ha hb hadd hal hbl hi hi
  have f1 : ∀ p q, p < ids.length → q < ids.length → ∀ (L : List Ctx), ordF ids L p q = upG ids L (ids.getD p 0) (ids.getD q 0) := fun p q hp hq L => by unfold ordF; rw [decide_eq_true hp, decide_eq_true hq]; rfl
  have hfba : ordF ids l (placeI ids b) (placeI ids a) = false := by rw [f1 _ _ hb2 ha2, ea, eb]; exact hba
  rw [f1 i i hi hi, ex] at hf
  rw [hf]
  unfold moreB
  rw [ordF_irr ho i, Bool.false_or, Bool.and_eq_false_iff]
  refine Classical.byContradiction fun hno => ?_
  rw [not_or] at hno
  obtain ⟨h1, h2⟩ := hno
  simp only [Bool.not_eq_false, Bool.or_eq_true, decide_eq_true_eq] at h1 h2
  have key : i = placeI ids a ∨ ordF ids l i (placeI ids a) = true := h1
  rcases h1 with h1 | h1
  · rcases h2 with h2 | h2
    · exact hpab (h1.symm.trans h2)
    · rw [h1, hfba] at h2; cases h2
  · rcases h2 with h2 | h2
    · rw [h2, hfba] at h1; cases h1
    · have := ordF_tr hok _ _ _ h2 h1
      rw [hfba] at this
      cases this
/-- Of two contexts that are alone in their groups and not above each other, one is dug first. -/
theorem pair_count (hcn : ¬ cntG ids l < 0) (ha : a ∈ ids) (hb : b ∈ ids) (hab1 : addOkR l ⟨a, b, 1⟩ = true) (hab2 : addOkR l ⟨b, a, 1⟩ = true) (hal : AloneG ids l a) (hbl : AloneG ids l b) (hne : a ≠ b) (h1 : upG ids l a b = false) (h2 : upG ids l b a = false) :
    cntG ids (addR l ⟨a, b, 1⟩) + cntG ids (addR l ⟨b, a, 1⟩) = cntG ids l ∧ 0 ≤ cntG ids (addR l ⟨a, b, 1⟩) ∧ 0 ≤ cntG ids (addR l ⟨b, a, 1⟩) := by
  obtain ⟨ho, h6, hc⟩ := cnt_ok hcn
  have hok := ordOk_ok ho
  obtain ⟨_, ha2, ha3⟩ := placeI_at ha
  obtain ⟨_, hb2, hb3⟩ := placeI_at hb
  have ea : ids.getD (placeI ids a) 0 = a := by simp [ha3]
  have eb : ids.getD (placeI ids b) 0 = b := by simp [hb3]
  have hpab : placeI ids a ≠ placeI ids b := fun e => hne (by rw [← ea, ← eb, e])
  have f1 : ∀ p q, p < ids.length → q < ids.length → ordF ids l p q = upG ids l (ids.getD p 0) (ids.getD q 0) := fun p q hp hq => by unfold ordF; rw [decide_eq_true hp, decide_eq_true hq]; rfl
  have g1 : ordF ids l (placeI ids a) (placeI ids b) = false := by rw [f1 _ _ ha2 hb2, ea, eb]; exact h1
  have g2 : ordF ids l (placeI ids b) (placeI ids a) = false := by rw [f1 _ _ hb2 ha2, ea, eb]; exact h2
  have o1 := add_ord ho ha hb hab1 hal hbl hne h2
  have o2 := add_ord ho hb ha hab2 hbl hal (fun e => hne e.symm) h1
  have hp := count_pair (ordF_irr ho) (ordF_tr hok) ha2 hb2 hpab g1 g2 ids.length (fun _ => false) left_none (fun i j _ _ _ h => by cases h) rfl rfl
  have c1 : cntG ids (addR l ⟨a, b, 1⟩) = (countP (moreB (ordF ids l) (placeI ids a) (placeI ids b)) ids.length ids.length fun _ => false : Nat) := by
    unfold cntG
    rw [o1, decide_eq_true h6, countP_fun fun i j hi hj => ordF_add ho ha hb hab1 hal hbl hi hj]
    rfl
  have c2 : cntG ids (addR l ⟨b, a, 1⟩) = (countP (moreB (ordF ids l) (placeI ids b) (placeI ids a)) ids.length ids.length fun _ => false : Nat) := by
    unfold cntG
    rw [o2, decide_eq_true h6, countP_fun fun i j hi hj => ordF_add ho hb ha hab2 hbl hal hi hj]
    rfl
  rw [c1, c2, hc]
  omega
end
end Go.Proofs.Ytmcnjmflmpfjlaa
