/- Texts that lie together in one: Grp, Sel, Clo, Way, Bit, Thr, Og, Ab, Tb, Fr, Ct, Ce, Lk, Fo, Hq. -/
import Derived.Test.YtnkdpogplkomhaaRel
import Derived.Test.YtnkdpogplkomhaaBase
/- Numbers of contexts, and groups of equal contexts, as plain data. -/
namespace Go.Proofs.Ytnkdpogplkomhaa
open Go.RowKit

def okI (n : Int) : Bool := inR n 1 99
def lessI (a b : Int) : Bool := decide (a < b)
theorem lessI_tr (a b c : Int) (h1 : lessI a b = true) (h2 : lessI b c = true) : lessI a c = true := by
  simp only [lessI, decide_eq_true_eq] at *
  omega
theorem lessI_ir (a : Int) : lessI a a = false := by simp [lessI]
def validI (l : List Int) : Bool := validO okI lessI 12 l
def findI (l : List Int) (n : Int) : Int := findP (fun x => decide (x = n)) l
theorem findI_at (l : List Int) (n : Int) (k : Nat) (h : ∀ (j : Nat) (c : Int), j < k → l[j]? = some c → c ≠ n) (hc : l[k]? = some n) : findI l n = k :=
  findP_at _ l k n (fun j c hj hc => by simpa using h j c hj hc) hc (by simp)
theorem findI_none (l : List Int) (n : Int) (h : ∀ (j : Nat) (c : Int), l[j]? = some c → c ≠ n) : findI l n = -1 :=
  findP_none _ l fun j c hc => by simpa using h j c hc
theorem findI_spec (l : List Int) (n : Int) : (findI l n = -1 ∧ n ∉ l) ∨ ∃ k : Nat, findI l n = k ∧ k < l.length ∧ l[k]? = some n ∧ n ∈ l := by
  rcases findP_spec (fun x => decide (x = n)) l with ⟨h1, h2⟩ | ⟨k, c, h1, h2, h3, _⟩
  · refine .inl ⟨h1, fun hm => ?_⟩
    obtain ⟨j, hj⟩ := List.mem_iff_getElem?.1 hm
    simpa using h2 j n hj
  · have : c = n := by simpa using h3
    subst this
    exact .inr ⟨k, h1, (List.getElem?_eq_some_iff.1 h2).1, h2, List.mem_of_getElem? h2⟩
theorem findI_mem (l : List Int) (n : Int) : decide (0 ≤ findI l n) = decide (n ∈ l) := by
  rcases findI_spec l n with ⟨h1, h2⟩ | ⟨k, h1, _, _, h2⟩
  · simp [h1, h2]
  · simp [h1, h2]
theorem asc_lt {l : List Int} (hv : validI l = true) {i j : Nat} {x y : Int} (hi : l[i]? = some x) (hj : l[j]? = some y) (h : i < j) : x < y := by
  obtain ⟨n, rfl⟩ : ∃ n, j = i + n + 1 := ⟨j - i - 1, by omega⟩
  have := ascO lessI_tr hv n i x y hi hj
  simpa [lessI] using this
theorem asc_le {l : List Int} (hv : validI l = true) {i j : Nat} {x y : Int} (hi : l[i]? = some x) (hj : l[j]? = some y) (h : x ≤ y) : i ≤ j := by
  rcases Nat.lt_or_ge j i with h2 | h2
  · have := asc_lt hv hj hi h2; omega
  · exact h2
theorem asc_eq {l : List Int} (hv : validI l = true) {i j : Nat} {x : Int} (hi : l[i]? = some x) (hj : l[j]? = some x) : i = j :=
  Nat.le_antisymm (asc_le hv hi hj (Int.le_refl _)) (asc_le hv hj hi (Int.le_refl _))
theorem findI_own {l : List Int} (hv : validI l = true) {k : Nat} {x : Int} (h : l[k]? = some x) : findI l x = k :=
  findI_at l x k (fun j c hj hc e => by subst e; have := asc_eq hv hc h; omega) h

def placeI (l : List Int) (n : Int) : Nat := (findI l n).toNat
theorem placeI_own {l : List Int} (hv : validI l = true) {k : Nat} {x : Int} (h : l[k]? = some x) : placeI l x = k := by
  unfold placeI; rw [findI_own hv h]; simp
theorem placeI_at {l : List Int} {x : Int} (h : x ∈ l) : findI l x = (placeI l x : Nat) ∧ placeI l x < l.length ∧ l[placeI l x]? = some x := by
  rcases findI_spec l x with ⟨_, h2⟩ | ⟨k, h1, h2, h3, _⟩
  · exact absurd h h2
  · have : placeI l x = k := by unfold placeI; rw [h1]; simp
    rw [this]; exact ⟨h1, h2, h3⟩
def amongR (ids : List Int) (rels : List Ctx) : Bool := rels.all fun r => decide (r.id ∈ ids) && decide (r.kind ∈ ids)
def okG (ids : List Int) (rels : List Ctx) : Bool := validI ids && (validR rels && amongR ids rels)
theorem okG_parts {ids : List Int} {rels : List Ctx} (h : okG ids rels = true) : validI ids = true ∧ validR rels = true ∧ ∀ r ∈ rels, r.id ∈ ids ∧ r.kind ∈ ids := by
  simp only [okG, Bool.and_eq_true, amongR, List.all_eq_true, decide_eq_true_eq] at h
  exact ⟨h.1, h.2.1, h.2.2⟩
theorem okG_sub {ids : List Int} {rels m : List Ctx} (h : okG ids rels = true) (hs : m.Sublist rels) : okG ids m = true := by
  obtain ⟨h1, h2, h3⟩ := okG_parts h
  have h4 : validR m = true := validO_sub lessR_tr h2 hs
  simp only [okG, Bool.and_eq_true, amongR, List.all_eq_true, decide_eq_true_eq]
  exact ⟨h1, h4, fun r hr => h3 r (hs.subset hr)⟩
def joinG (g : List Int) (a b : Int) : List Int := g.map fun n => if n = a ∨ n = b then min a b else n
def labG (ids g : List Int) (a : Int) : Int := g[placeI ids a]?.getD 0
def stepG (ids g : List Int) (r : Ctx) : List Int := if r.area = 2 then joinG g (labG ids g r.id) (labG ids g r.kind) else g
def groupsG (ids : List Int) (rels : List Ctx) : List Int := rels.foldl (stepG ids) ids
def groupsOfG (ids : List Int) (rels : List Ctx) : List Int := if okG ids rels then groupsG ids rels else []
theorem joinG_len (g : List Int) (a b : Int) : (joinG g a b).length = g.length := by simp [joinG]
theorem stepG_len (ids g : List Int) (r : Ctx) : (stepG ids g r).length = g.length := by
  unfold stepG; split
  · exact joinG_len _ _ _
  · rfl
theorem foldG_len (ids : List Int) (rels : List Ctx) : ∀ g : List Int, (rels.foldl (stepG ids) g).length = g.length := by
  induction rels with
  | nil => intro g; rfl
  | cons r rels ih => intro g; rw [List.foldl_cons, ih, stepG_len]
theorem groupsG_len (ids : List Int) (rels : List Ctx) : (groupsG ids rels).length = ids.length := foldG_len ids rels ids
theorem groupsG_next {ids : List Int} {rels : List Ctx} {k : Nat} (hk : k < rels.length) : groupsG ids (rels.take (k + 1)) = stepG ids (groupsG ids (rels.take k)) rels[k] := by
  unfold groupsG
  rw [List.take_add_one, List.getElem?_eq_getElem hk, List.foldl_append]
  rfl
theorem foldG_inv {ids : List Int} (P : List Int → Prop) : ∀ (rels : List Ctx) (g : List Int), P g → (∀ g r, r ∈ rels → P g → P (stepG ids g r)) → P (rels.foldl (stepG ids) g)
  | [], _, h, _ => h
  | r :: rels, g, h, hs => by
    rw [List.foldl_cons]
    exact foldG_inv P rels _ (hs g r List.mem_cons_self h) fun g r hr => hs g r (List.mem_cons_of_mem _ hr)
theorem joinG_at (g : List Int) (a b : Int) (k : Nat) : (joinG g a b)[k]? = g[k]?.map fun n => if n = a ∨ n = b then min a b else n := by simp [joinG]
theorem labG_at {ids g : List Int} {x y : Int} {k : Nat} (hv : validI ids = true) (hx : ids[k]? = some x) (hy : g[k]? = some y) : labG ids g x = y := by
  unfold labG; rw [placeI_own hv hx, hy]; rfl
theorem labG_of {ids g : List Int} {x : Int} (hl : g.length = ids.length) (hx : x ∈ ids) : g[placeI ids x]? = some (labG ids g x) := by
  have := (placeI_at hx).2.1
  unfold labG
  rw [List.getElem?_eq_getElem (by omega)]; rfl

/-- Each head is a context that is no later, and its own head. -/
def HeadsG (ids g : List Int) : Prop := g.length = ids.length ∧ ∀ (i : Nat) (x : Int), g[i]? = some x → ∃ j : Nat, j ≤ i ∧ ids[j]? = some x ∧ g[j]? = some x
theorem headsG_step {ids g : List Int} {r : Ctx} (hv : validI ids = true) (h1 : r.id ∈ ids) (h2 : r.kind ∈ ids) (h : HeadsG ids g) : HeadsG ids (stepG ids g r) := by
  refine ⟨by rw [stepG_len]; exact h.1, ?_⟩
  unfold stepG
  split
  · have ha := labG_of h.1 h1
    have hb := labG_of h.1 h2
    revert ha hb
    generalize labG ids g r.id = a
    generalize labG ids g r.kind = b
    intro ha hb i x hx
    obtain ⟨ja, _, hja, hga⟩ := h.2 _ _ ha
    obtain ⟨jb, _, hjb, hgb⟩ := h.2 _ _ hb
    rw [joinG_at] at hx
    cases hg : g[i]? with
    | none => rw [hg] at hx; simp at hx
    | some y =>
      rw [hg] at hx
      simp only [Option.map_some, Option.some.injEq] at hx
      obtain ⟨j, hj, hjy, hgy⟩ := h.2 i y hg
      by_cases hc : y = a ∨ y = b
      · rw [if_pos hc] at hx
        rcases Int.le_total a b with hab | hab
        · rw [Int.min_eq_left hab] at hx
          subst hx
          have hle : ja ≤ j := asc_le hv hja hjy (by rcases hc with rfl | rfl <;> omega)
          refine ⟨ja, by omega, hja, ?_⟩
          rw [joinG_at, hga]
          simp [Int.min_eq_left hab]
        · rw [Int.min_eq_right hab] at hx
          subst hx
          have hle : jb ≤ j := asc_le hv hjb hjy (by rcases hc with rfl | rfl <;> omega)
          refine ⟨jb, by omega, hjb, ?_⟩
          rw [joinG_at, hgb]
          simp [Int.min_eq_right hab]
      · rw [if_neg hc] at hx
        subst hx
        refine ⟨j, hj, hjy, ?_⟩
        rw [joinG_at, hgy]
        simp [hc]
  · exact h.2
theorem headsG_all {ids : List Int} {rels : List Ctx} (h : okG ids rels = true) : HeadsG ids (groupsG ids rels) := by
  obtain ⟨h1, _, h3⟩ := okG_parts h
  exact foldG_inv (HeadsG ids) rels ids ⟨rfl, fun i x hx => ⟨i, Nat.le_refl _, hx, hx⟩⟩ fun g r hr hg => headsG_step h1 (h3 r hr).1 (h3 r hr).2 hg

theorem labG_step {ids g : List Int} {r : Ctx} {x y : Int} (hl : g.length = ids.length) (hx : x ∈ ids) (hy : y ∈ ids) (h : labG ids g x = labG ids g y) : labG ids (stepG ids g r) x = labG ids (stepG ids g r) y := by
  unfold stepG
  split
  · have h1 := labG_of hl hx
    have h2 := labG_of hl hy
    unfold labG at *
    rw [joinG_at, joinG_at, h1, h2, h]
  · exact h
theorem foldG_keep {ids : List Int} {x y : Int} (hx : x ∈ ids) (hy : y ∈ ids) (rels : List Ctx) (g : List Int) (hl : g.length = ids.length) (h : labG ids g x = labG ids g y) : labG ids (rels.foldl (stepG ids) g) x = labG ids (rels.foldl (stepG ids) g) y :=
  (foldG_inv (fun g => g.length = ids.length ∧ labG ids g x = labG ids g y) rels g ⟨hl, h⟩ fun g r _ hg => ⟨by rw [stepG_len]; exact hg.1, labG_step hg.1 hx hy hg.2⟩).2
theorem foldG_equal {ids : List Int} : ∀ (rels : List Ctx) (g : List Int), g.length = ids.length → (∀ r ∈ rels, r.id ∈ ids ∧ r.kind ∈ ids) → ∀ r ∈ rels, r.area = 2 → labG ids (rels.foldl (stepG ids) g) r.id = labG ids (rels.foldl (stepG ids) g) r.kind
  | [], _, _, _, r, hr, _ => by cases hr
  | s :: rels, g, hl, hi, r, hr, ha => by
    rw [List.foldl_cons]
    rcases List.mem_cons.1 hr with rfl | hr
    · have hs := hi r List.mem_cons_self
      refine foldG_keep hs.1 hs.2 rels _ (by rw [stepG_len]; exact hl) ?_
      unfold stepG
      rw [if_pos ha]
      have h1 := labG_of hl hs.1
      have h2 := labG_of hl hs.2
      show ((joinG g _ _)[placeI ids r.id]?).getD 0 = ((joinG g _ _)[placeI ids r.kind]?).getD 0
      rw [joinG_at, joinG_at, h1, h2]
      simp
    · exact foldG_equal rels _ (by rw [stepG_len]; exact hl) (fun r hr => hi r (List.mem_cons_of_mem _ hr)) r hr ha
/-- Equal contexts have one head. -/
theorem groupsG_equal {ids : List Int} {rels : List Ctx} (h : okG ids rels = true) : ∀ r ∈ rels, r.area = 2 → labG ids (groupsG ids rels) r.id = labG ids (groupsG ids rels) r.kind :=
  foldG_equal rels ids rfl (okG_parts h).2.2
/-- No labels that agree on the equalities part what the groups join. -/
theorem groupsG_least {ids h : List Int} {rels : List Ctx} (hk : okG ids rels = true) (hl : h.length = ids.length) (he : ∀ r ∈ rels, r.area = 2 → labG ids h r.id = labG ids h r.kind) :
    ∀ (i j : Nat) (x : Int), (groupsG ids rels)[i]? = some x → (groupsG ids rels)[j]? = some x → h[i]? = h[j]? := by
  obtain ⟨h1, _, h3⟩ := okG_parts hk
  refine (foldG_inv (fun g => g.length = ids.length ∧ ∀ (i j : Nat) (x : Int), g[i]? = some x → g[j]? = some x → h[i]? = h[j]?) rels ids ⟨rfl, fun i j x hi hj => by rw [asc_eq h1 hi hj]⟩ ?_).2
  rintro g r hr ⟨hgl, hg⟩
  refine ⟨by rw [stepG_len]; exact hgl, ?_⟩
  unfold stepG
  split
  · rename_i ha
    have hA := labG_of hgl (h3 r hr).1
    have hB := labG_of hgl (h3 r hr).2
    have hpq : h[placeI ids r.id]? = h[placeI ids r.kind]? := by rw [labG_of hl (h3 r hr).1, labG_of hl (h3 r hr).2, he r hr ha]
    revert hA hB hpq
    generalize placeI ids r.id = p
    generalize placeI ids r.kind = q
    generalize labG ids g r.id = a
    generalize labG ids g r.kind = b
    intro hA hB hpq i j x hi hj
    rw [joinG_at] at hi hj
    cases gi : g[i]? with
    | none => rw [gi] at hi; simp at hi
    | some y =>
      cases gj : g[j]? with
      | none => rw [gj] at hj; simp at hj
      | some z =>
        rw [gi] at hi
        rw [gj] at hj
        simp only [Option.map_some, Option.some.injEq] at hi hj
        have key : ∀ (k : Nat) (u : Int), g[k]? = some u → (u = a ∨ u = b) → h[k]? = h[p]? := by
          intro k u hu hc
          rcases hc with rfl | rfl
          · exact hg k p u hu hA
          · rw [hpq]; exact hg k q u hu hB
        by_cases c1 : y = a ∨ y = b
        · by_cases c2 : z = a ∨ z = b
          · rw [key i y gi c1, key j z gj c2]
          · rw [if_pos c1] at hi
            rw [if_neg c2] at hj
            exfalso
            apply c2
            omega
        · by_cases c2 : z = a ∨ z = b
          · rw [if_neg c1] at hi
            rw [if_pos c2] at hj
            exfalso
            apply c1
            omega
          · rw [if_neg c1] at hi
            rw [if_neg c2] at hj
            subst hi
            exact hg i j y gi (hj ▸ gj)
  · exact hg
/-- A context of no equality is alone. -/
theorem groupsG_alone {ids : List Int} {rels : List Ctx} (hk : okG ids rels = true) {i : Nat} {c : Int} (hc : ids[i]? = some c) (hn : ∀ r ∈ rels, r.area = 2 → r.id ≠ c ∧ r.kind ≠ c) : (groupsG ids rels)[i]? = some c := by
  obtain ⟨h1, _, h3⟩ := okG_parts hk
  refine (foldG_inv (fun g => g.length = ids.length ∧ g[i]? = some c ∧ ∀ (j : Nat), g[j]? = some c → j = i) rels ids ⟨rfl, hc, fun j hj => asc_eq h1 hj hc⟩ ?_).2.1
  rintro g r hr ⟨hgl, hg, hg2⟩
  refine ⟨by rw [stepG_len]; exact hgl, ?_⟩
  unfold stepG
  split
  · rename_i ha
    have hA := labG_of hgl (h3 r hr).1
    have hB := labG_of hgl (h3 r hr).2
    have nA : labG ids g r.id ≠ c := fun e => by
      rw [e] at hA
      have h4 := hg2 _ hA
      have h5 := (placeI_at (h3 r hr).1).2.2
      rw [h4, hc] at h5
      injection h5 with h5
      exact (hn r hr ha).1 h5.symm
    have nB : labG ids g r.kind ≠ c := fun e => by
      rw [e] at hB
      have h4 := hg2 _ hB
      have h5 := (placeI_at (h3 r hr).2).2.2
      rw [h4, hc] at h5
      injection h5 with h5
      exact (hn r hr ha).2 h5.symm
    revert nA nB
    generalize labG ids g r.id = a
    generalize labG ids g r.kind = b
    intro nA nB
    constructor
    · rw [joinG_at, hg, Option.map_some, if_neg (by omega)]
    · intro j hj
      rw [joinG_at] at hj
      cases gj : g[j]? with
      | none => rw [gj] at hj; simp at hj
      | some z =>
        rw [gj] at hj
        simp only [Option.map_some, Option.some.injEq] at hj
        by_cases c2 : z = a ∨ z = b
        · rw [if_pos c2] at hj; omega
        · rw [if_neg c2] at hj
          exact hg2 j (hj ▸ gj)
  · exact ⟨hg, hg2⟩
theorem groupsG_none {ids : List Int} {rels : List Ctx} (h : ∀ r ∈ rels, r.area ≠ 2) : groupsG ids rels = ids :=
  foldG_inv (fun g => g = ids) rels ids rfl fun g r hr hg => by rw [stepG, if_neg (h r hr)]; exact hg
end Go.Proofs.Ytnkdpogplkomhaa

/- Heads and members of groups as plain data: the contexts at whose places a label fits. -/
namespace Go.Proofs.Ytnkdpogplkomhaa
open Go.RowKit

/-- The contexts ids[i] of which p (g[i], ids[i]) holds. -/
def selG (p : Int → Int → Bool) (ids g : List Int) : List Int := ((g.zip ids).filter fun q => p q.1 q.2).map Prod.snd
theorem selG_nil (p : Int → Int → Bool) (ids : List Int) : selG p ids [] = [] := by simp [selG]
theorem selG_next {p : Int → Int → Bool} {ids g : List Int} {k : Nat} {x y : Int} (hx : g[k]? = some x) (hy : ids[k]? = some y) :
    selG p (ids.take (k + 1)) (g.take (k + 1)) = selG p (ids.take k) (g.take k) ++ (if p x y = true then [y] else []) := by
  have h1 := (List.getElem?_eq_some_iff.1 hx).1
  have h2 := (List.getElem?_eq_some_iff.1 hy).1
  unfold selG
  rw [List.take_add_one, List.take_add_one, hx, hy, Option.toList, Option.toList, List.zip_append (by rw [List.length_take, List.length_take]; omega), List.filter_append, List.map_append]
  congr 1
  simp only [List.zip_cons_cons, List.zip_nil_right]
  cases hp : p x y <;> simp [hp]
theorem selG_yes {p : Int → Int → Bool} {ids g : List Int} {k : Nat} {x y : Int} (hx : g[k]? = some x) (hy : ids[k]? = some y) (h : p x y = true) :
    selG p (ids.take (k + 1)) (g.take (k + 1)) = selG p (ids.take k) (g.take k) ++ [y] := by rw [selG_next hx hy, if_pos h]
theorem selG_no {p : Int → Int → Bool} {ids g : List Int} {k : Nat} {x y : Int} (hx : g[k]? = some x) (hy : ids[k]? = some y) (h : p x y = false) :
    selG p (ids.take (k + 1)) (g.take (k + 1)) = selG p (ids.take k) (g.take k) := by rw [selG_next hx hy, h]; simp
theorem selG_len (p : Int → Int → Bool) (ids g : List Int) : (selG p ids g).length ≤ g.length := by
  unfold selG
  rw [List.length_map]
  refine Nat.le_trans (List.length_filter_le _ _) ?_
  rw [List.length_zip]; omega
theorem selG_all (p : Int → Int → Bool) {ids g : List Int} (h : g.length ≤ ids.length) : selG p (ids.take g.length) (g.take g.length) = selG p ids g := by
  unfold selG
  rw [List.zip_eq_zip_take_min (l₁ := g) (l₂ := ids), Nat.min_eq_left h]
theorem groupsOfG_len (ids : List Int) (rels : List Ctx) : (groupsOfG ids rels).length ≤ ids.length := by
  unfold groupsOfG; split
  · rw [groupsG_len]; exact Nat.le_refl _
  · simp
def sameP (x y : Int) : Bool := decide (x = y)
def headsG (ids : List Int) (rels : List Ctx) : List Int := selG sameP ids (groupsOfG ids rels)
def toP (a : Int) (x _y : Int) : Bool := decide (x = a)
def membersG (ids : List Int) (rels : List Ctx) (id : Int) : List Int := if okG ids rels && decide (id ∈ ids) then selG (toP (labG ids (groupsG ids rels) id)) ids (groupsG ids rels) else []
end Go.Proofs.Ytnkdpogplkomhaa

/- What follows from a relation of places: the least transitive one, found place by place. Plain data. -/
namespace Go.Proofs.Ytnkdpogplkomhaa

/-- What is directly so, or through the places below k. -/
def wayB (f : Nat → Nat → Bool) : Nat → Nat → Nat → Bool
  | 0, i, j => f i j
  | k + 1, i, j => wayB f k i j || (wayB f k i k && wayB f k k j)
theorem wayB_more {f : Nat → Nat → Bool} {i j : Nat} (h : f i j = true) : ∀ k, wayB f k i j = true
  | 0 => h
  | k + 1 => by simp [wayB, wayB_more h k]
theorem wayB_through {f : Nat → Nat → Bool} : ∀ (m : Nat) {i x j : Nat}, x < m → wayB f m i x = true → wayB f m x j = true → wayB f m i j = true
  | 0, _, _, _, h, _, _ => absurd h (by omega)
  | m + 1, i, x, j, hx, h1, h2 => by
    have ih := @wayB_through f m
    simp only [wayB, Bool.or_eq_true, Bool.and_eq_true] at h1 h2 ⊢
    by_cases hm : x = m
    · subst hm
      have a1 : wayB f x i x = true := h1.elim id And.left
      have a2 : wayB f x x j = true := h2.elim id And.right
      exact .inr ⟨a1, a2⟩
    · have hx2 : x < m := by omega
      rcases h1 with h1 | ⟨h1, h3⟩
      · rcases h2 with h2 | ⟨h2, h4⟩
        · exact .inl (ih hx2 h1 h2)
        · exact .inr ⟨ih hx2 h1 h2, h4⟩
      · rcases h2 with h2 | ⟨h2, h4⟩
        · exact .inr ⟨h1, ih hx2 h3 h2⟩
        · exact .inr ⟨h1, h4⟩
theorem wayB_least {f : Nat → Nat → Bool} {T : Nat → Nat → Prop} (h0 : ∀ i j, f i j = true → T i j) (ht : ∀ i j k, T i j → T j k → T i k) : ∀ (m i j : Nat), wayB f m i j = true → T i j
  | 0, i, j, h => h0 i j h
  | m + 1, i, j, h => by
    simp only [wayB, Bool.or_eq_true, Bool.and_eq_true] at h
    rcases h with h | ⟨h1, h2⟩
    · exact wayB_least h0 ht m i j h
    · exact ht _ _ _ (wayB_least h0 ht m i m h1) (wayB_least h0 ht m m j h2)
/-- All that follows, of n places. -/
def clos (f : Nat → Nat → Bool) (n : Nat) (i j : Nat) : Bool := wayB f n i j
def InN (f : Nat → Nat → Bool) (n : Nat) : Prop := ∀ i j, f i j = true → i < n ∧ j < n
theorem clos_in {f : Nat → Nat → Bool} {n : Nat} (hf : InN f n) : InN (clos f n) n := fun i j h => wayB_least (T := fun i j => i < n ∧ j < n) hf (fun _ _ _ h1 h2 => ⟨h1.1, h2.2⟩) n i j h
theorem clos_direct {f : Nat → Nat → Bool} {n i j : Nat} (h : f i j = true) : clos f n i j = true := wayB_more h n
theorem clos_trans {f : Nat → Nat → Bool} {n i j k : Nat} (hf : InN f n) (h1 : clos f n i j = true) (h2 : clos f n j k = true) : clos f n i k = true :=
  wayB_through n (clos_in hf i j h1).2 h1 h2
theorem clos_least {f : Nat → Nat → Bool} {n : Nat} {T : Nat → Nat → Prop} (h0 : ∀ i j, f i j = true → T i j) (ht : ∀ i j k, T i j → T j k → T i k) {i j : Nat} (h : clos f n i j = true) : T i j := wayB_least h0 ht n i j h
/-- It is the only one: transitive, with all that is direct, and no more than that. -/
theorem clos_only {f : Nat → Nat → Bool} {n : Nat} {g : Nat → Nat → Bool} (h0 : ∀ i j, f i j = true → g i j = true) (ht : ∀ i j k, g i j = true → g j k = true → g i k = true)
    (hl : ∀ i j, g i j = true → clos f n i j = true) (i j : Nat) : g i j = clos f n i j := by
  rw [Bool.eq_iff_iff]
  exact ⟨hl i j, fun h => clos_least (T := fun i j => g i j = true) h0 ht h⟩
theorem clos_first {f : Nat → Nat → Bool} {n i j : Nat} (hf : InN f n) (h : clos f n i j = true) : ∃ x, f i x = true ∧ (x = j ∨ clos f n x j = true) := by
  have key : ∀ a b, (∃ x, f a x = true ∧ (x = b ∨ clos f n x b = true)) → clos f n a b = true := by
    rintro a b ⟨x, h1, rfl | h2⟩
    · exact clos_direct h1
    · exact clos_trans hf (clos_direct h1) h2
  refine clos_least (T := fun i j => ∃ x, f i x = true ∧ (x = j ∨ clos f n x j = true)) (fun i j h => ⟨j, h, .inl rfl⟩) ?_ h
  rintro a b c ⟨x, h1, h2⟩ h3
  have h4 := key b c h3
  rcases h2 with rfl | h2
  · exact ⟨x, h1, .inr h4⟩
  · exact ⟨x, h1, .inr (clos_trans hf h2 h4)⟩
theorem clos_mono {f g : Nat → Nat → Bool} {n : Nat} (hg : InN g n) (h : ∀ i j, f i j = true → g i j = true) {i j : Nat} (hc : clos f n i j = true) : clos g n i j = true :=
  clos_least (T := fun i j => clos g n i j = true) (fun i j hij => clos_direct (h i j hij)) (fun _ _ _ h1 h2 => clos_trans hg h1 h2) hc
end Go.Proofs.Ytnkdpogplkomhaa

/- Ways and circles of places: the first of the shortest circles, found by ways that grow step by step. Plain data. -/
namespace Go.Proofs.Ytnkdpogplkomhaa

def chainB (f : Nat → Nat → Bool) : List Nat → Bool
  | [] => true
  | [_] => true
  | a :: b :: r => f a b && chainB f (b :: r)
def lastD : List Nat → Nat
  | [] => 0
  | [a] => a
  | _ :: b :: r => lastD (b :: r)
def lexB : List Nat → List Nat → Bool
  | a :: p, b :: q => decide (a < b) || (decide (a = b) && lexB p q)
  | [], _ :: _ => true
  | _, [] => false
theorem lexB_irr : ∀ p : List Nat, lexB p p = false
  | [] => rfl
  | a :: p => by simp [lexB, lexB_irr p]
theorem lexB_tr : ∀ {p q r : List Nat}, lexB p q = true → lexB q r = true → lexB p r = true
  | [], q, [], h1, h2 => by cases q <;> simp [lexB] at h2
  | [], _, _ :: _, _, _ => rfl
  | a :: p, [], _, h1, _ => by simp [lexB] at h1
  | a :: p, b :: q, [], _, h2 => by simp [lexB] at h2
  | a :: p, b :: q, c :: r, h1, h2 => by
    simp only [lexB, Bool.or_eq_true, Bool.and_eq_true, decide_eq_true_eq] at *
    rcases h1 with h1 | ⟨h1, h3⟩
    · rcases h2 with h2 | ⟨h2, h4⟩ <;> exact .inl (by omega)
    · rcases h2 with h2 | ⟨h2, h4⟩
      · exact .inl (by omega)
      · exact .inr ⟨by omega, lexB_tr h3 h4⟩
theorem lexB_app : ∀ {p q : List Nat} (r s : List Nat), p.length = q.length → lexB p q = true → lexB (p ++ r) (q ++ s) = true
  | [], [], _, _, _, h => by simp [lexB] at h
  | a :: p, b :: q, r, s, hl, h => by
    simp only [lexB, Bool.or_eq_true, Bool.and_eq_true, decide_eq_true_eq, List.cons_append] at *
    rcases h with h | ⟨h, h2⟩
    · exact .inl h
    · exact .inr ⟨h, lexB_app r s (by simpa using hl) h2⟩
theorem lexB_last : ∀ (p : List Nat) {a b : Nat}, a < b → lexB (p ++ [a]) (p ++ [b]) = true
  | [], a, b, h => by simp [lexB, h]
  | c :: p, a, b, h => by simp [lexB, lexB_last p h]
theorem lastD_app (p : List Nat) (a : Nat) : lastD (p ++ [a]) = a := by
  induction p with
  | nil => rfl
  | cons b p ih =>
    cases p with
    | nil => rfl
    | cons c p => exact ih
theorem chainB_app {f : Nat → Nat → Bool} : ∀ (p : List Nat) (a : Nat), p ≠ [] → chainB f (p ++ [a]) = (chainB f p && f (lastD p) a)
  | [], _, h => absurd rfl h
  | [b], a, _ => by simp [chainB, lastD]
  | b :: c :: p, a, _ => by
    have := chainB_app (f := f) (c :: p) a (by simp)
    simp only [List.cons_append] at this ⊢
    rw [chainB, this, chainB, Bool.and_assoc]
    rfl
/-- A way of t steps from a to v. -/
def Way (f : Nat → Nat → Bool) (a t v : Nat) (p : List Nat) : Prop := p.length = t + 1 ∧ chainB f p = true ∧ p.head? = some a ∧ lastD p = v
theorem way_start {f : Nat → Nat → Bool} (a : Nat) : Way f a 0 a [a] := ⟨rfl, rfl, rfl, rfl⟩
theorem way_zero {f : Nat → Nat → Bool} {a v : Nat} {p : List Nat} (h : Way f a 0 v p) : p = [a] ∧ v = a := by
  obtain ⟨h1, _, h3, h4⟩ := h
  match p, h1, h3, h4 with
  | [x], _, h3, h4 => simp at h3; subst h3; exact ⟨rfl, h4.symm⟩
theorem way_next {f : Nat → Nat → Bool} {a t v j : Nat} {p : List Nat} (h : Way f a t v p) (hj : f v j = true) : Way f a (t + 1) j (p ++ [j]) := by
  obtain ⟨h1, h2, h3, h4⟩ := h
  have hne : p ≠ [] := by rintro rfl; simp at h1
  refine ⟨by simp [h1], ?_, ?_, lastD_app p j⟩
  · rw [chainB_app p j hne, h2, h4, hj]; rfl
  · cases p with
    | nil => exact absurd rfl hne
    | cons x p => simpa using h3
theorem way_back {f : Nat → Nat → Bool} {a t v : Nat} {p : List Nat} (h : Way f a (t + 1) v p) : ∃ q u, p = q ++ [v] ∧ Way f a t u q ∧ f u v = true := by
  obtain ⟨h1, h2, h3, h4⟩ := h
  rcases List.eq_nil_or_concat p with rfl | ⟨q, b, rfl⟩
  · simp at h1
  · rw [List.concat_eq_append] at *
    rw [lastD_app] at h4
    subst h4
    have hq : q.length = t + 1 := by simpa using h1
    have hne : q ≠ [] := by rintro rfl; simp at hq
    rw [chainB_app q b hne, Bool.and_eq_true] at h2
    refine ⟨q, lastD q, rfl, ⟨hq, h2.1, ?_, rfl⟩, h2.2⟩
    cases q with
    | nil => exact absurd rfl hne
    | cons x q => simpa using h3
/-- What stands in a way is reached in as many steps as stand ahead of it. -/
theorem way_mem {f : Nat → Nat → Bool} {a x : Nat} : ∀ {t v : Nat} {p : List Nat}, Way f a t v p → x ∈ p → ∃ s q, s ≤ t ∧ Way f a s x q
  | 0, v, p, h, hx => by
    obtain ⟨rfl, _⟩ := way_zero h
    simp at hx
    subst hx
    exact ⟨0, _, Nat.le_refl _, way_start _⟩
  | t + 1, v, p, h, hx => by
    obtain ⟨q, u, rfl, hq, _⟩ := way_back h
    rcases List.mem_append.1 hx with hx | hx
    · obtain ⟨s, q2, hs, h2⟩ := way_mem hq hx
      exact ⟨s, q2, by omega, h2⟩
    · simp at hx
      subst hx
      exact ⟨t + 1, _, Nat.le_refl _, h⟩

def metB (ps : List (List Nat)) (j : Nat) : Bool := ps.any fun p => decide (j ∈ p)
def addC (f : Nat → Nat → Bool) (ps nx : List (List Nat)) (c : List Nat × Nat) : List (List Nat) := if f (lastD c.1) c.2 && (!metB ps c.2 && !metB nx c.2) then nx ++ [c.1 ++ [c.2]] else nx
def prs (ps : List (List Nat)) (n : Nat) : List (List Nat × Nat) := ps.flatMap fun p => (List.range n).map fun j => (p, j)
def nextP (f : Nat → Nat → Bool) (n : Nat) (ps : List (List Nat)) : List (List Nat) := (prs ps n).foldl (addC f ps) []
def walkL (f : Nat → Nat → Bool) (n a : Nat) : Nat → List (List Nat) → List Nat
  | 0, _ => []
  | m + 1, ps => match ps.find? fun p => f (lastD p) a with
    | some p => p
    | none => walkL f n a m (nextP f n ps)
def walkP (f : Nat → Nat → Bool) (n a : Nat) : List Nat := walkL f n a n [[a]]

def keyC (c : List Nat × Nat) : List Nat := c.1 ++ [c.2]
theorem prs_sorted {t n : Nat} : ∀ (ps : List (List Nat)), (∀ p ∈ ps, p.length = t + 1) → ps.Pairwise (fun p q => lexB p q = true) → (prs ps n).Pairwise (fun c d => lexB (keyC c) (keyC d) = true)
  | [], _, _ => by simp [prs]
  | p :: ps, hl, hs => by
    rw [List.pairwise_cons] at hs
    have ih := prs_sorted (t := t) (n := n) ps (fun q hq => hl q (List.mem_cons_of_mem _ hq)) hs.2
    unfold prs at ih ⊢
    rw [List.flatMap_cons, List.pairwise_append]
    refine ⟨?_, ih, ?_⟩
    · rw [List.pairwise_map]
      exact List.pairwise_lt_range.imp fun h => lexB_last p h
    · rintro ⟨p1, j1⟩ h1 ⟨p2, j2⟩ h2
      obtain ⟨j, _, e⟩ := List.mem_map.1 h1
      injection e with e1 e2
      subst e1 e2
      obtain ⟨q, hq, h2⟩ := List.mem_flatMap.1 h2
      obtain ⟨j3, _, e⟩ := List.mem_map.1 h2
      injection e with e1 e2
      subst e1 e2
      exact lexB_app _ _ (by rw [hl p List.mem_cons_self, hl q (List.mem_cons_of_mem _ hq)]) (hs.1 q hq)
/-- What the fold over candidates keeps. -/
theorem fold_inv {f : Nat → Nat → Bool} {ps : List (List Nat)} : ∀ (cs dn : List (List Nat × Nat)) (nx : List (List Nat)), (dn ++ cs).Pairwise (fun c d => lexB (keyC c) (keyC d) = true) →
    (∀ c ∈ dn ++ cs, c.1 ∈ ps) →
    (∀ q ∈ nx, ∃ c ∈ dn, q = keyC c ∧ f (lastD c.1) c.2 = true ∧ metB ps c.2 = false) → nx.Pairwise (fun p q => lexB p q = true) →
    (∀ c ∈ dn, f (lastD c.1) c.2 = true → metB ps c.2 = false → ∃ q ∈ nx, lastD q = c.2 ∧ (q = keyC c ∨ lexB q (keyC c) = true)) →
    (∀ q ∈ cs.foldl (addC f ps) nx, ∃ c ∈ dn ++ cs, q = keyC c ∧ f (lastD c.1) c.2 = true ∧ metB ps c.2 = false) ∧ (cs.foldl (addC f ps) nx).Pairwise (fun p q => lexB p q = true) ∧
    (∀ c ∈ dn ++ cs, f (lastD c.1) c.2 = true → metB ps c.2 = false → ∃ q ∈ cs.foldl (addC f ps) nx, lastD q = c.2 ∧ (q = keyC c ∨ lexB q (keyC c) = true))
  | [], dn, nx, _, _, h1, h2, h3 => by
    simp only [List.append_nil, List.foldl_nil]
    exact ⟨h1, h2, h3⟩
  | c :: cs, dn, nx, hs, hm, h1, h2, h3 => by
    have e : dn ++ c :: cs = (dn ++ [c]) ++ cs := by simp
    rw [e] at hs hm ⊢
    rw [List.foldl_cons]
    have hsd : ∀ d ∈ dn, lexB (keyC d) (keyC c) = true := by
      intro d hd
      rw [List.pairwise_append] at hs
      have := hs.1
      rw [List.pairwise_append] at this
      exact this.2.2 d hd c (by simp)
    have hcm : c.1 ∈ ps := hm c (by simp)
    have hmet : metB ps c.2 = false → ∀ q ∈ nx, c.2 ∈ q → lastD q = c.2 := by
      intro hps q hq hin
      obtain ⟨d, hd, rfl, _, _⟩ := h1 q hq
      unfold keyC at hin ⊢
      rw [lastD_app]
      rcases List.mem_append.1 hin with hin | hin
      · exfalso
        have : metB ps c.2 = true := List.any_eq_true.2 ⟨d.1, hm d (by simp [hd]), by simp [hin]⟩
        rw [hps] at this
        cases this
      · have : c.2 = d.2 := by simpa using hin
        exact this.symm
    by_cases hc : (f (lastD c.1) c.2 && (!metB ps c.2 && !metB nx c.2)) = true
    · have ha : addC f ps nx c = nx ++ [keyC c] := by unfold addC; rw [if_pos hc]; rfl
      simp only [Bool.and_eq_true, Bool.not_eq_true'] at hc
      obtain ⟨hf, hps, hnx⟩ := hc
      rw [ha]
      refine fold_inv cs (dn ++ [c]) (nx ++ [keyC c]) hs hm ?_ ?_ ?_
      · intro q hq
        rcases List.mem_append.1 hq with hq | hq
        · obtain ⟨d, hd, h⟩ := h1 q hq
          exact ⟨d, by simp [hd], h⟩
        · simp at hq
          exact ⟨c, by simp, hq, hf, hps⟩
      · rw [List.pairwise_append]
        refine ⟨h2, by simp, fun q hq r hr => ?_⟩
        simp at hr
        subst hr
        obtain ⟨d, hd, rfl, _, _⟩ := h1 q hq
        exact hsd d hd
      · intro d hd hdf hdm
        rcases List.mem_append.1 hd with hd | hd
        · obtain ⟨q, hq, h⟩ := h3 d hd hdf hdm
          exact ⟨q, by simp [hq], h⟩
        · simp at hd
          subst hd
          exact ⟨keyC d, by simp, lastD_app _ _, .inl rfl⟩
    · have ha : addC f ps nx c = nx := by unfold addC; rw [if_neg hc]
      rw [ha]
      refine fold_inv cs (dn ++ [c]) nx hs hm ?_ h2 ?_
      · intro q hq
        obtain ⟨d, hd, h⟩ := h1 q hq
        exact ⟨d, by simp [hd], h⟩
      · intro d hd hdf hdm
        rcases List.mem_append.1 hd with hd | hd
        · exact h3 d hd hdf hdm
        · simp at hd
          subst hd
          rw [hdf, hdm] at hc
          have hnx : metB nx d.2 = true := by simpa using hc
          obtain ⟨q, hq, hin⟩ := List.any_eq_true.1 hnx
          have hin : d.2 ∈ q := by simpa using hin
          have hl := hmet hdm q hq hin
          obtain ⟨d2, hd2, rfl, _, _⟩ := h1 q hq
          exact ⟨keyC d2, hq, hl, .inr (hsd d2 hd2)⟩

def Far (f : Nat → Nat → Bool) (a t v : Nat) : Prop := ∀ s p, s < t → ¬ Way f a s v p
structure Inv (f : Nat → Nat → Bool) (a t : Nat) (ps : List (List Nat)) : Prop where
  way : ∀ p ∈ ps, ∃ v, Way f a t v p
  sorted : ps.Pairwise (fun p q => lexB p q = true)
  all : ∀ v q, Way f a t v q → Far f a t v → ∃ p ∈ ps, lastD p = v ∧ (p = q ∨ lexB p q = true)
theorem inv_start {f : Nat → Nat → Bool} (a : Nat) : Inv f a 0 [[a]] :=
  ⟨fun p hp => ⟨a, by simp at hp; subst hp; exact way_start a⟩, by simp, fun v q hq _ => ⟨[a], by simp, (way_zero hq).2.symm, .inl (way_zero hq).1.symm⟩⟩
theorem inv_next {f : Nat → Nat → Bool} {n a t : Nat} {ps : List (List Nat)} (hf : ∀ i j, f i j = true → j < n) (h : Inv f a t ps) : Inv f a (t + 1) (nextP f n ps) := by
  have hlen : ∀ p ∈ ps, p.length = t + 1 := fun p hp => by obtain ⟨v, hv⟩ := h.way p hp; exact hv.1
  have hmem : ∀ c ∈ prs ps n, c.1 ∈ ps := by
    rintro c hc
    obtain ⟨p, hp, hc⟩ := List.mem_flatMap.1 hc
    obtain ⟨j, _, rfl⟩ := List.mem_map.1 hc
    exact hp
  obtain ⟨h1, h2, h3⟩ := fold_inv (f := f) (ps := ps) (prs ps n) [] [] (by simpa using prs_sorted ps hlen h.sorted) (by simpa using hmem) (by simp) (by simp) (by simp)
  refine ⟨fun q hq => ?_, h2, fun v q hq hfar => ?_⟩
  · obtain ⟨c, hc, rfl, hcf, _⟩ := h1 q hq
    have hc : c ∈ prs ps n := by simpa using hc
    obtain ⟨u, hu⟩ := h.way c.1 (hmem c hc)
    have : lastD c.1 = u := hu.2.2.2
    exact ⟨c.2, way_next hu (this ▸ hcf)⟩
  · obtain ⟨q0, u, rfl, hq0, huv⟩ := way_back hq
    have hfu : Far f a t u := fun s p hs hp => hfar (s + 1) (p ++ [v]) (by omega) (way_next hp huv)
    obtain ⟨p, hp, hpu, hle⟩ := h.all u q0 hq0 hfu
    have hvn : v < n := hf u v huv
    have hmet : metB ps v = false := by
      cases hm : metB ps v
      · rfl
      · exfalso
        obtain ⟨p2, hp2, hin⟩ := List.any_eq_true.1 hm
        have hin : v ∈ p2 := by simpa using hin
        obtain ⟨v2, hv2⟩ := h.way p2 hp2
        obtain ⟨s, q2, hs, hq2⟩ := way_mem hv2 hin
        exact hfar s q2 (by omega) hq2
    have hc : (p, v) ∈ prs ps n := List.mem_flatMap.2 ⟨p, hp, List.mem_map.2 ⟨v, List.mem_range.2 hvn, rfl⟩⟩
    obtain ⟨r, hr, hrl, hrk⟩ := h3 (p, v) (by simpa using hc) (by simpa [hpu] using huv) hmet
    refine ⟨r, hr, hrl, ?_⟩
    have hk : keyC (p, v) = q0 ++ [v] ∨ lexB (keyC (p, v)) (q0 ++ [v]) = true := by
      rcases hle with rfl | hle
      · exact .inl rfl
      · exact .inr (lexB_app _ _ (by rw [hlen p hp, hq0.1]) hle)
    rcases hrk with rfl | hrk
    · exact hk
    · rcases hk with hk | hk
      · exact .inr (hk ▸ hrk)
      · exact .inr (lexB_tr hrk hk)
/-- No way of fewer than t steps leads back. -/
def NoBack (f : Nat → Nat → Bool) (a t : Nat) : Prop := ∀ s u p, s < t → Way f a s u p → f u a = false
/-- The first of the shortest ways that lead back. -/
def BestAt (f : Nat → Nat → Bool) (a : Nat) (p : List Nat) : Prop := ∃ t u, Way f a t u p ∧ f u a = true ∧ NoBack f a t ∧ ∀ u2 q, Way f a t u2 q → f u2 a = true → p = q ∨ lexB p q = true
theorem walkL_spec {f : Nat → Nat → Bool} {n a : Nat} (hf : ∀ i j, f i j = true → j < n) : ∀ (m t : Nat) (ps : List (List Nat)), Inv f a t ps → NoBack f a t → (BestAt f a (walkL f n a m ps)) ∨ (walkL f n a m ps = [] ∧ NoBack f a (t + m))
  | 0, t, ps, _, hn => .inr ⟨rfl, hn⟩
  | m + 1, t, ps, h, hn => by
    have hfar : ∀ u q, Way f a t u q → f u a = true → Far f a t u := fun u q _ hu s p hs hp => by
      have := hn s u p hs hp
      rw [hu] at this
      cases this
    rw [walkL]
    cases hfd : ps.find? fun p => f (lastD p) a with
    | some p =>
      left
      have hp := List.mem_of_find?_eq_some hfd
      have hcl : f (lastD p) a = true := by simpa using List.find?_some hfd
      obtain ⟨u, hu⟩ := h.way p hp
      have hul : lastD p = u := hu.2.2.2
      refine ⟨t, u, hu, hul ▸ hcl, hn, fun u2 q hq hu2 => ?_⟩
      obtain ⟨r, hr, hrl, hrq⟩ := h.all u2 q hq (hfar u2 q hq hu2)
      have hpr : p = r ∨ lexB p r = true := by
        obtain ⟨pa, pb, hsplit, hno⟩ := (List.find?_eq_some_iff_append.1 hfd).2
        rw [hsplit] at hr
        rcases List.mem_append.1 hr with hr | hr
        · have := hno r hr
          rw [hrl, hu2] at this
          simp at this
        · rcases List.mem_cons.1 hr with rfl | hr
          · exact .inl rfl
          · have hs := h.sorted
            rw [hsplit, List.pairwise_append, List.pairwise_cons] at hs
            exact .inr (hs.2.1.1 r hr)
      rcases hpr with rfl | hpr
      · exact hrq
      · rcases hrq with rfl | hrq
        · exact .inr hpr
        · exact .inr (lexB_tr hpr hrq)
    | none =>
      have hno : NoBack f a (t + 1) := by
        intro s u p hs hp
        rcases Nat.lt_or_ge s t with hlt | hge
        · exact hn s u p hlt hp
        · obtain rfl : s = t := by omega
          cases hu : f u a
          · rfl
          · exfalso
            obtain ⟨r, hr, hrl, _⟩ := h.all u p hp (hfar u p hp hu)
            have := List.find?_eq_none.1 hfd r hr
            rw [hrl, hu] at this
            exact this rfl
      have := walkL_spec hf m (t + 1) (nextP f n ps) (inv_next hf h) hno
      rw [show t + 1 + m = t + (m + 1) from by omega] at this
      exact this
theorem walkP_spec {f : Nat → Nat → Bool} {n : Nat} (hf : ∀ i j, f i j = true → j < n) (a : Nat) : BestAt f a (walkP f n a) ∨ (walkP f n a = [] ∧ NoBack f a n) := by
  have := walkL_spec hf n 0 [[a]] (inv_start a) (fun s _ _ hs => absurd hs (by omega))
  simpa [walkP] using this

theorem nodup_le : ∀ (n : Nat) (l : List Nat), l.Nodup → (∀ x ∈ l, x < n) → l.length ≤ n
  | 0, l, _, h => by
    cases l with
    | nil => simp
    | cons x l => exact absurd (h x List.mem_cons_self) (by omega)
  | n + 1, l, hd, h => by
    have h1 := nodup_le n (l.erase n) (hd.erase n) (fun x hx => by
      have h2 := (hd.mem_erase_iff).1 hx
      have := h x h2.2
      have := h2.1
      omega)
    have h2 := List.length_erase (a := n) (l := l)
    split at h2 <;> omega
theorem twice_of : ∀ {p : List Nat}, ¬ p.Nodup → ∃ l1 x l2 l3, p = l1 ++ x :: (l2 ++ x :: l3)
  | [], h => absurd List.nodup_nil h
  | b :: r, h => by
    by_cases hb : b ∈ r
    · obtain ⟨l2, l3, rfl⟩ := List.append_of_mem hb
      exact ⟨[], b, l2, l3, rfl⟩
    · obtain ⟨l1, x, l2, l3, rfl⟩ := twice_of (p := r) (fun hr => h (List.nodup_cons.2 ⟨hb, hr⟩))
      exact ⟨b :: l1, x, l2, l3, rfl⟩
theorem chainB_split {f : Nat → Nat → Bool} (x : Nat) (m : List Nat) : ∀ l : List Nat, chainB f (l ++ x :: m) = (chainB f (l ++ [x]) && chainB f (x :: m))
  | [] => by simp [chainB]
  | [a] => by simp [chainB]
  | a :: b :: l => by
    have := chainB_split (f := f) x m (b :: l)
    simp only [List.cons_append, chainB] at this ⊢
    rw [this, Bool.and_assoc]
theorem lastD_split (x : Nat) (m : List Nat) : ∀ l : List Nat, lastD (l ++ x :: m) = lastD (x :: m)
  | [] => rfl
  | [_] => rfl
  | _ :: b :: l => lastD_split x m (b :: l)
/-- A circle from a: a way of t steps whose end leads back. -/
def Back (f : Nat → Nat → Bool) (a t u : Nat) (p : List Nat) : Prop := Way f a t u p ∧ f u a = true
theorem head_split {l m : List Nat} {x a : Nat} (h : (l ++ x :: m).head? = some a) (r : List Nat) : (l ++ x :: r).head? = some a := by
  cases l with
  | nil => simpa using h
  | cons b l => simpa using h
theorem back_cut {f : Nat → Nat → Bool} {a t u : Nat} {p : List Nat} (h : Back f a t u p) (hd : ¬ p.Nodup) : ∃ s q, s < t ∧ Back f a s u q := by
  obtain ⟨⟨h1, h2, h3, h4⟩, h5⟩ := h
  obtain ⟨l1, x, l2, l3, rfl⟩ := twice_of hd
  rw [chainB_split, Bool.and_eq_true] at h2
  have h6 := h2.2
  rw [← List.cons_append, chainB_split, Bool.and_eq_true] at h6
  rw [lastD_split, ← List.cons_append, lastD_split] at h4
  refine ⟨(l1 ++ x :: l3).length - 1, l1 ++ x :: l3, ?_, ⟨?_, ?_, head_split h3 l3, ?_⟩, h5⟩
  · simp at h1 ⊢; omega
  · simp; omega
  · rw [chainB_split, h2.1, h6.2]; rfl
  · rw [lastD_split]; exact h4
theorem chainB_mem {f : Nat → Nat → Bool} {n : Nat} (hf : ∀ i j, f i j = true → j < n) : ∀ {p : List Nat} {a : Nat}, chainB f (a :: p) = true → ∀ x ∈ p, x < n
  | [], _, _, x, hx => by simp at hx
  | b :: p, a, h, x, hx => by
    simp only [chainB, Bool.and_eq_true] at h
    rcases List.mem_cons.1 hx with rfl | hx
    · exact hf _ _ h.1
    · exact chainB_mem hf h.2 x hx
theorem back_in {f : Nat → Nat → Bool} {n a t u : Nat} {p : List Nat} (hf : ∀ i j, f i j = true → j < n) (h : Back f a t u p) : ∀ x ∈ p, x < n := by
  obtain ⟨⟨h1, h2, h3, h4⟩, h5⟩ := h
  cases p with
  | nil => simp at h1
  | cons b p =>
    simp at h3
    subst h3
    intro x hx
    rcases List.mem_cons.1 hx with rfl | hx
    · exact hf _ _ h5
    · exact chainB_mem hf h2 x hx
theorem back_short {f : Nat → Nat → Bool} {n a : Nat} (hf : ∀ i j, f i j = true → j < n) (t : Nat) : ∀ {u : Nat} {p : List Nat}, Back f a t u p → ∃ s u2 q, s < n ∧ s ≤ t ∧ Back f a s u2 q := by
  induction t using Nat.strongRecOn with
  | ind t ih =>
    intro u p h
    by_cases hd : p.Nodup
    · have h1 := nodup_le n p hd (back_in hf h)
      have h2 := h.1.1
      exact ⟨t, u, p, by omega, Nat.le_refl _, h⟩
    · obtain ⟨s, q, hs, hq⟩ := back_cut h hd
      obtain ⟨s2, u2, q2, h1, h2, h3⟩ := ih s hs hq
      exact ⟨s2, u2, q2, h1, by omega, h3⟩
theorem noBack_all {f : Nat → Nat → Bool} {n a : Nat} (hf : ∀ i j, f i j = true → j < n) (h : NoBack f a n) {t u : Nat} {p : List Nat} : ¬ Back f a t u p := by
  intro hb
  obtain ⟨s, u2, q, hs, _, hq⟩ := back_short hf t hb
  have := h s u2 q hs hq.1
  rw [hq.2] at this
  cases this

def betterC (best path : List Nat) : List Nat := if decide (0 < path.length) && (decide (best.length = 0) || decide (path.length < best.length)) then path else best
def cycP (f : Nat → Nat → Bool) (n m : Nat) : List Nat := (List.range m).foldl (fun best i => betterC best (walkP f n i)) []
theorem cycP_next (f : Nat → Nat → Bool) (n m : Nat) : cycP f n (m + 1) = betterC (cycP f n m) (walkP f n m) := by
  unfold cycP
  rw [List.range_succ, List.foldl_append]
  rfl
/-- No circle, or the first of the shortest ones. -/
def FirstC (f : Nat → Nat → Bool) (p : List Nat) : Prop := (p = [] ∧ ∀ a t u q, ¬ Back f a t u q) ∨ ∃ a t u, Back f a t u p ∧ (∀ b s v q, Back f b s v q → t ≤ s) ∧ ∀ b v q, Back f b t v q → p = q ∨ lexB p q = true
theorem lexB_head {p q : List Nat} {a b : Nat} (hp : p.head? = some a) (hq : q.head? = some b) (h : a < b) : lexB p q = true := by
  cases p with
  | nil => simp at hp
  | cons x p =>
    cases q with
    | nil => simp at hq
    | cons y q =>
      simp at hp hq
      subst hp hq
      simp [lexB, h]
theorem cycP_inv {f : Nat → Nat → Bool} {n : Nat} (hf : ∀ i j, f i j = true → j < n) : ∀ m : Nat,
    (cycP f n m = [] ∧ ∀ a, a < m → ∀ t u q, ¬ Back f a t u q) ∨ ∃ a t u, a < m ∧ Back f a t u (cycP f n m) ∧ (∀ b, b < m → ∀ s v q, Back f b s v q → t ≤ s) ∧ ∀ b, b < m → ∀ v q, Back f b t v q → cycP f n m = q ∨ lexB (cycP f n m) q = true
  | 0 => .inl ⟨rfl, fun a h => absurd h (by omega)⟩
  | m + 1 => by
    rw [cycP_next]
    have hlen : ∀ {a t u p}, Back f a t u p → p.length = t + 1 := fun h => h.1.1
    rcases walkP_spec hf m with ⟨t, u, hw, hu, hno, hbest⟩ | ⟨he, hno⟩
    · have hwl := hw.1
      have hmin : ∀ s v q, Back f m s v q → t ≤ s := fun s v q hq => by
        rcases Nat.lt_or_ge s t with hlt | hge
        · have := hno s v q hlt hq.1
          rw [hq.2] at this
          cases this
        · exact hge
      rcases cycP_inv hf m with ⟨h1, h2⟩ | ⟨a, t0, u0, ham, hb, hm0, hl0⟩
      · have hc : betterC (cycP f n m) (walkP f n m) = walkP f n m := by
          unfold betterC
          rw [h1, hwl]
          simp
        rw [hc]
        refine .inr ⟨m, t, u, by omega, ⟨hw, hu⟩, fun b hb s v q hq => ?_, fun b hb v q hq => ?_⟩
        · rcases Nat.lt_or_ge b m with hlt | hge
          · exact absurd hq (h2 b hlt s v q)
          · obtain rfl : b = m := by omega
            exact hmin s v q hq
        · rcases Nat.lt_or_ge b m with hlt | hge
          · exact absurd hq (h2 b hlt t v q)
          · obtain rfl : b = m := by omega
            exact hbest v q hq.1 hq.2
      · have hbl := hlen hb
        by_cases hlt : t < t0
        · have hc : betterC (cycP f n m) (walkP f n m) = walkP f n m := by
            unfold betterC
            rw [hwl, hbl, if_pos (by simp [hlt])]
          rw [hc]
          refine .inr ⟨m, t, u, by omega, ⟨hw, hu⟩, fun b hb s v q hq => ?_, fun b hb v q hq => ?_⟩
          · rcases Nat.lt_or_ge b m with hl | hge
            · have := hm0 b hl s v q hq; omega
            · obtain rfl : b = m := by omega
              exact hmin s v q hq
          · rcases Nat.lt_or_ge b m with hl | hge
            · have := hm0 b hl t v q hq; omega
            · obtain rfl : b = m := by omega
              exact hbest v q hq.1 hq.2
        · have hc : betterC (cycP f n m) (walkP f n m) = cycP f n m := by
            unfold betterC
            rw [hwl, hbl, if_neg (by simp; omega)]
          rw [hc]
          refine .inr ⟨a, t0, u0, by omega, hb, fun b hb2 s v q hq => ?_, fun b hb2 v q hq => ?_⟩
          · rcases Nat.lt_or_ge b m with hl | hge
            · exact hm0 b hl s v q hq
            · obtain rfl : b = m := by omega
              have := hmin s v q hq; omega
          · rcases Nat.lt_or_ge b m with hl | hge
            · exact hl0 b hl v q hq
            · obtain rfl : b = m := by omega
              exact .inr (lexB_head hb.1.2.2.1 hq.1.2.2.1 ham)
    · have hc : betterC (cycP f n m) (walkP f n m) = cycP f n m := by
        unfold betterC
        rw [he]
        simp
      rw [hc]
      rcases cycP_inv hf m with ⟨h1, h2⟩ | ⟨a, t0, u0, ham, hb, hm0, hl0⟩
      · refine .inl ⟨h1, fun a ha t u q => ?_⟩
        rcases Nat.lt_or_ge a m with hl | hge
        · exact h2 a hl t u q
        · obtain rfl : a = m := by omega
          exact noBack_all hf hno
      · refine .inr ⟨a, t0, u0, by omega, hb, fun b hb2 s v q hq => ?_, fun b hb2 v q hq => ?_⟩
        · rcases Nat.lt_or_ge b m with hl | hge
          · exact hm0 b hl s v q hq
          · obtain rfl : b = m := by omega
            exact absurd hq (noBack_all hf hno)
        · rcases Nat.lt_or_ge b m with hl | hge
          · exact hl0 b hl v q hq
          · obtain rfl : b = m := by omega
            exact absurd hq (noBack_all hf hno)

theorem cycP_first {f : Nat → Nat → Bool} {n : Nat} (hf : ∀ i j, f i j = true → i < n ∧ j < n) : FirstC f (cycP f n n) := by
  have hin : ∀ {b s v q}, Back f b s v q → b < n := fun {b s v q} h => (hf _ _ h.2).2
  rcases cycP_inv (fun i j h => (hf i j h).2) n with ⟨h1, h2⟩ | ⟨a, t, u, _, hb, h3, h4⟩
  · exact .inl ⟨h1, fun a t u q h => h2 a (hin h) t u q h⟩
  · exact .inr ⟨a, t, u, hb, fun b s v q h => h3 b (hin h) s v q h, fun b v q h => h4 b (hin h) v q h⟩
/-- There is but one. -/
theorem firstC_only {f : Nat → Nat → Bool} {p q : List Nat} (hp : FirstC f p) (hq : FirstC f q) : p = q := by
  rcases hp with ⟨rfl, h1⟩ | ⟨a, t, u, hb, hm, hl⟩
  · rcases hq with ⟨rfl, _⟩ | ⟨b, s, v, hb2, _, _⟩
    · rfl
    · exact absurd hb2 (h1 b s v q)
  · rcases hq with ⟨rfl, h1⟩ | ⟨b, s, v, hb2, hm2, hl2⟩
    · exact absurd hb (h1 a t u p)
    · have e : t = s := Nat.le_antisymm (hm b s v q hb2) (hm2 a t u p hb)
      subst e
      rcases hl b v q hb2 with h | h
      · exact h
      · rcases hl2 a u p hb with h2 | h2
        · exact h2.symm
        · have := lexB_tr h h2
          rw [lexB_irr] at this
          cases this
/-- A circle can begin at each of its places. -/
theorem back_turn {f : Nat → Nat → Bool} {a t u x : Nat} {l m : List Nat} (h : Back f a t u (l ++ x :: m)) : ∃ v, Back f x t v (x :: m ++ l) := by
  obtain ⟨⟨h1, h2, h3, h4⟩, h5⟩ := h
  cases l with
  | nil => exact ⟨u, ⟨by simpa using h1, by simpa using h2, by simp, by simpa using h4⟩, by simp at h3; rw [h3]; exact h5⟩
  | cons b l =>
    simp at h3
    subst h3
    rw [chainB_split, Bool.and_eq_true] at h2
    rw [lastD_split] at h4
    have hc : chainB f ((x :: m) ++ b :: l) = true := by
      rw [chainB_split, Bool.and_eq_true, chainB_app _ _ (by simp), Bool.and_eq_true]
      have h6 := h2.1
      rw [chainB_app _ _ (by simp), Bool.and_eq_true] at h6
      exact ⟨⟨h2.2, by rw [h4]; exact h5⟩, h6.1⟩
    refine ⟨lastD (b :: l), ⟨by simp at h1 ⊢; omega, hc, by simp, by rw [lastD_split]⟩, ?_⟩
    have h6 := h2.1
    rw [chainB_app _ _ (by simp), Bool.and_eq_true] at h6
    exact h6.2
theorem firstC_nodup {f : Nat → Nat → Bool} {p : List Nat} (h : FirstC f p) : p.Nodup := by
  rcases h with ⟨rfl, _⟩ | ⟨a, t, u, hb, hm, _⟩
  · exact List.nodup_nil
  · by_cases hd : p.Nodup
    · exact hd
    · obtain ⟨s, q, hs, hq⟩ := back_cut hb hd
      have := hm a s u q hq
      omega
theorem firstC_least {f : Nat → Nat → Bool} {p : List Nat} (h : FirstC f p) {a x : Nat} (ha : p.head? = some a) (hx : x ∈ p) : a ≤ x := by
  rcases h with ⟨rfl, _⟩ | ⟨b, t, u, hb, hm, hl⟩
  · simp at ha
  · obtain ⟨l, m, rfl⟩ := List.append_of_mem hx
    obtain ⟨v, hv⟩ := back_turn hb
    rcases Nat.lt_or_ge x a with hlt | hge
    · rcases hl x v _ hv with h | h
      · rw [h] at ha
        simp at ha
        omega
      · have h2 := lexB_head hv.1.2.2.1 ha hlt
        have := lexB_tr h h2
        rw [lexB_irr] at this
        cases this
    · exact hge
/-- A circle is found if something follows from itself. -/
theorem clos_back {f : Nat → Nat → Bool} {T : Nat → Nat → Prop} (hT : ∀ i j, T i j → (∀ (U : Nat → Nat → Prop), (∀ i j, f i j = true → U i j) → (∀ i j k, U i j → U j k → U i k) → U i j)) {a : Nat} (h : T a a) : ∃ t u p, Back f a t u p := by
  have key := hT a a h (fun i j => ∃ t u p, Way f i t u p ∧ f u j = true) (fun i j hij => ⟨0, i, [i], way_start i, hij⟩) (by
    rintro i j k ⟨t, u, p, hp, hu⟩ ⟨s, v, q, hq, hv⟩
    have : ∀ s v q, Way f j s v q → ∃ t2 p2, Way f i t2 v p2 := by
      intro s
      induction s with
      | zero =>
        intro v q hq
        obtain ⟨_, rfl⟩ := way_zero hq
        exact ⟨t + 1, _, way_next hp hu⟩
      | succ s ih =>
        intro v q hq
        obtain ⟨q0, u0, rfl, hq0, h0⟩ := way_back hq
        obtain ⟨t2, p2, h2⟩ := ih u0 q0 hq0
        exact ⟨t2 + 1, _, way_next h2 h0⟩
    obtain ⟨t2, p2, h2⟩ := this s v q hq
    exact ⟨t2, v, p2, h2, hv⟩)
  obtain ⟨t, u, p, hp, hu⟩ := key
  exact ⟨t, u, p, hp, hu⟩
theorem back_clos {f : Nat → Nat → Bool} {U : Nat → Nat → Prop} (h0 : ∀ i j, f i j = true → U i j) (ht : ∀ i j k, U i j → U j k → U i k) {a : Nat} : ∀ {t u : Nat} {p : List Nat}, Back f a t u p → U a a := by
  have key : ∀ (t : Nat) {u j : Nat} {p : List Nat}, Way f a t u p → f u j = true → U a j := by
    intro t
    induction t with
    | zero =>
      intro u j p h hj
      obtain ⟨_, rfl⟩ := way_zero h
      exact h0 _ _ hj
    | succ t ih =>
      intro u j p h hj
      obtain ⟨q, v, rfl, hq, hv⟩ := way_back h
      exact ht _ _ _ (ih hq hv) (h0 _ _ hj)
  intro t u p h
  exact key t h.1 h.2
end Go.Proofs.Ytnkdpogplkomhaa

/- Rows of places as numbers: a bit for each place. Plain data. -/
namespace Go.Proofs.Ytnkdpogplkomhaa

/-- The number whose bits are the places below n at which f holds. -/
def bitN : Nat → (Nat → Bool) → Nat
  | 0, _ => 0
  | n + 1, f => bitN n f ||| (if f n = true then 2 ^ n else 0)
theorem bitN_test (f : Nat → Bool) (j : Nat) : ∀ n : Nat, (bitN n f).testBit j = (decide (j < n) && f j)
  | 0 => by simp [bitN]
  | n + 1 => by
    rw [bitN, Nat.testBit_or, bitN_test f j n]
    by_cases e : n = j
    · subst e
      cases h : f n <;> simp
    · have e2 : ¬ j = n := fun h => e h.symm
      have e3 : decide (j < n + 1) = decide (j < n) := by rw [decide_eq_decide]; omega
      rw [e3]
      cases h : f n <;> simp [e]
theorem bitN_lt (n : Nat) (f : Nat → Bool) : bitN n f < 2 ^ n :=
  Nat.lt_pow_two_of_testBit _ fun i hi => by rw [bitN_test, decide_eq_false (by omega)]; rfl
theorem bitN_16 {n : Nat} (f : Nat → Bool) (hn : n ≤ 16) : bitN n f < 65536 := Nat.lt_of_lt_of_le (bitN_lt n f) (Nat.pow_le_pow_right (by omega) hn : 2 ^ n ≤ 2 ^ 16)
theorem bitN_ext {n : Nat} {f g : Nat → Bool} (h : ∀ j, j < n → f j = g j) : bitN n f = bitN n g := by
  refine Nat.eq_of_testBit_eq fun j => ?_
  rw [bitN_test, bitN_test]
  by_cases hj : j < n
  · rw [h j hj]
  · simp [hj]
theorem bitN_or (n : Nat) (f g : Nat → Bool) : bitN n f ||| bitN n g = bitN n (fun j => f j || g j) := by
  refine Nat.eq_of_testBit_eq fun j => ?_
  rw [Nat.testBit_or, bitN_test, bitN_test, bitN_test]
  cases decide (j < n) <;> simp
theorem bitN_and (n : Nat) (f g : Nat → Bool) : bitN n f &&& bitN n g = bitN n (fun j => f j && g j) := by
  refine Nat.eq_of_testBit_eq fun j => ?_
  rw [Nat.testBit_and, bitN_test, bitN_test, bitN_test]
  cases decide (j < n) <;> simp
theorem bitN_one {n i : Nat} (hi : i < n) : bitN n (fun j => decide (j = i)) = 2 ^ i := by
  refine Nat.eq_of_testBit_eq fun j => ?_
  rw [bitN_test, Nat.testBit_two_pow]
  by_cases e : j = i
  · subst e
    simp [hi]
  · have e2 : ¬ i = j := fun h => e h.symm
    simp [e, e2]
theorem bitN_zero (n : Nat) : bitN n (fun _ => false) = 0 := by
  refine Nat.eq_of_testBit_eq fun j => ?_
  rw [bitN_test]
  simp
theorem bitN_none {n : Nat} {f : Nat → Bool} (h : bitN n f = 0) {j : Nat} (hj : j < n) : f j = false := by
  have := bitN_test f j n
  rw [h, Nat.zero_testBit, decide_eq_true hj, Bool.true_and] at this
  exact this.symm
theorem bitN_has {n : Nat} {f : Nat → Bool} {j : Nat} (hj : j < n) (h : f j = true) : bitN n f ≠ 0 := fun e => by
  have := bitN_none e hj
  rw [h] at this
  cases this
theorem bitN_any (n : Nat) (f : Nat → Bool) : decide (bitN n f = 0) = !(List.range n).any f := by
  cases h : (List.range n).any f
  · rw [Bool.not_false, decide_eq_true_eq]
    refine (bitN_ext (g := fun _ => false) fun j hj => ?_).trans (bitN_zero n)
    rw [List.any_eq_false] at h
    have := h j (List.mem_range.2 hj)
    simpa using this
  · obtain ⟨j, hj, hf⟩ := List.any_eq_true.1 h
    rw [Bool.not_true, decide_eq_false_iff_not]
    exact bitN_has (List.mem_range.1 hj) hf
/-- The least place below n at which p holds. -/
def leastB (n : Nat) (p : Nat → Bool) : Nat := ((List.range n).find? p).getD 0
theorem find_range {p : Nat → Bool} {y : Nat} : ∀ {n : Nat}, (List.range n).find? p = some y → p y = true ∧ y < n ∧ ∀ z, z < y → p z = false
  | n, h => by
    have h1 : p y = true := List.find?_some h
    have h2 := List.mem_range.1 (List.mem_of_find?_eq_some h)
    refine ⟨h1, h2, fun z hz => ?_⟩
    obtain ⟨xs, ys, hs, hno⟩ := (List.find?_eq_some_iff_append.1 h).2
    have hlen : xs.length = y := by
      have h3 : (List.range n)[xs.length]? = some y := by rw [hs]; simp
      rw [List.getElem?_range (by have := congrArg List.length hs; simp at this; omega)] at h3
      injection h3
    have h4 : (List.range n)[z]? = xs[z]? := by rw [hs, List.getElem?_append_left (by omega)]
    rw [List.getElem?_range (by omega)] at h4
    have := hno z (List.mem_of_getElem? h4.symm)
    simpa using this
theorem leastB_spec {n : Nat} {p : Nat → Bool} {y : Nat} (hy : y < n) (h : p y = true) : p (leastB n p) = true ∧ leastB n p < n ∧ ∀ z, z < leastB n p → p z = false := by
  unfold leastB
  cases hf : (List.range n).find? p with
  | none =>
    have := List.find?_eq_none.1 hf y (List.mem_range.2 hy)
    rw [h] at this
    exact absurd rfl this
  | some x => exact find_range hf
theorem least_only {p : Nat → Bool} {x y : Nat} (hx : p x = true) (hx2 : ∀ z, z < x → p z = false) (hy : p y = true) (hy2 : ∀ z, z < y → p z = false) : x = y := by
  rcases Nat.lt_trichotomy x y with h | h | h
  · rw [hy2 x h] at hx; cases hx
  · exact h
  · rw [hx2 y h] at hy; cases hy
end Go.Proofs.Ytnkdpogplkomhaa

/- The first of the shortest circles through a place, found from its end: by how many steps lead back. Plain data. -/
namespace Go.Proofs.Ytnkdpogplkomhaa

/-- From x, k + 1 steps lead to a. -/
def stB (f : Nat → Nat → Bool) (n a : Nat) : Nat → Nat → Bool
  | 0, x => f x a
  | k + 1, x => (List.range n).any fun y => f x y && stB f n a k y
theorem stB_of {f : Nat → Nat → Bool} {n a : Nat} (hf : ∀ i j, f i j = true → j < n) : ∀ (q : List Nat) (x : Nat), chainB f (x :: q) = true → f (lastD (x :: q)) a = true → stB f n a q.length x = true
  | [], _, _, h => h
  | y :: q, x, hc, h => by
    simp only [chainB, Bool.and_eq_true] at hc
    exact List.any_eq_true.2 ⟨y, List.mem_range.2 (hf _ _ hc.1), by rw [hc.1, stB_of hf q y hc.2 h]; rfl⟩
def downL (f : Nat → Nat → Bool) (n a : Nat) : Nat → Nat → List Nat
  | 0, _ => []
  | k + 1, x => leastB n (fun y => f x y && stB f n a k y) :: downL f n a k (leastB n (fun y => f x y && stB f n a k y))
theorem downL_next {f : Nat → Nat → Bool} {n a k x : Nat} (h : stB f n a (k + 1) x = true) :
    ∃ y, y = leastB n (fun y => f x y && stB f n a k y) ∧ downL f n a (k + 1) x = y :: downL f n a k y ∧ y < n ∧ f x y = true ∧ stB f n a k y = true ∧ ∀ z, z < y → (f x z && stB f n a k z) = false := by
  obtain ⟨y0, h0, h1⟩ := List.any_eq_true.1 h
  obtain ⟨h2, h3, h4⟩ := leastB_spec (p := fun y => f x y && stB f n a k y) (List.mem_range.1 h0) h1
  rw [Bool.and_eq_true] at h2
  exact ⟨_, rfl, rfl, h3, h2.1, h2.2, h4⟩
theorem downL_len (f : Nat → Nat → Bool) (n a : Nat) : ∀ (k x : Nat), (downL f n a k x).length = k
  | 0, _ => rfl
  | k + 1, x => by rw [downL, List.length_cons, downL_len f n a k]
theorem downL_spec {f : Nat → Nat → Bool} {n a : Nat} (hf : ∀ i j, f i j = true → j < n) : ∀ (k x : Nat), stB f n a k x = true →
    chainB f (x :: downL f n a k x) = true ∧ f (lastD (x :: downL f n a k x)) a = true ∧
    ∀ q : List Nat, q.length = k → chainB f (x :: q) = true → f (lastD (x :: q)) a = true → downL f n a k x = q ∨ lexB (downL f n a k x) q = true
  | 0, x, h => ⟨rfl, h, fun q hq _ _ => by
    have : q = [] := List.eq_nil_of_length_eq_zero hq
    subst this
    exact .inl rfl⟩
  | k + 1, x, h => by
    obtain ⟨y, _, h1, h2, h3, h4, h5⟩ := downL_next h
    rw [h1]
    obtain ⟨i1, i2, i3⟩ := downL_spec hf k y h4
    refine ⟨by simp only [chainB, Bool.and_eq_true]; exact ⟨h3, i1⟩, i2, fun q hq hc hl => ?_⟩
    cases q with
    | nil => simp at hq
    | cons z q =>
      simp only [chainB, Bool.and_eq_true] at hc
      have hql : q.length = k := by simpa using hq
      have hz : stB f n a k z = true := by
        have := stB_of hf q z hc.2 hl
        rw [hql] at this
        exact this
      rcases Nat.lt_trichotomy y z with hlt | rfl | hgt
      · exact .inr (by simp [lexB, hlt])
      · rcases i3 q hql hc.2 hl with rfl | h6
        · exact .inl rfl
        · exact .inr (by simp [lexB, h6])
      · have := h5 z hgt
        rw [hc.1, hz] at this
        cases this
/-- The first of the shortest circles that begin at a. -/
def thrP (f : Nat → Nat → Bool) (n a : Nat) : List Nat :=
  match (List.range n).find? fun k => stB f n a k a with
  | some t => a :: downL f n a t a
  | none => []
theorem thrP_some {f : Nat → Nat → Bool} {n a t : Nat} (ht : t < n) (h : stB f n a t a = true) (hno : ∀ s, s < t → stB f n a s a = false) : thrP f n a = a :: downL f n a t a := by
  unfold thrP
  cases hf : (List.range n).find? fun k => stB f n a k a with
  | none =>
    have := List.find?_eq_none.1 hf t (List.mem_range.2 ht)
    rw [h] at this
    exact absurd rfl this
  | some x =>
    obtain ⟨h1, _, h3⟩ := find_range hf
    rw [least_only (p := fun k => stB f n a k a) h1 h3 h hno]
theorem thrP_none {f : Nat → Nat → Bool} {n a : Nat} (hno : ∀ s, s < n → stB f n a s a = false) : thrP f n a = [] := by
  unfold thrP
  cases hf : (List.range n).find? fun k => stB f n a k a with
  | none => rfl
  | some x =>
    obtain ⟨h1, h2, _⟩ := find_range hf
    rw [hno x h2] at h1
    cases h1
theorem way_cons {f : Nat → Nat → Bool} {a t v : Nat} {p : List Nat} (h : Way f a t v p) : ∃ q, p = a :: q ∧ q.length = t ∧ chainB f (a :: q) = true ∧ lastD (a :: q) = v := by
  obtain ⟨h1, h2, h3, h4⟩ := h
  cases p with
  | nil => simp at h1
  | cons b q =>
    simp at h3
    subst h3
    exact ⟨q, rfl, by simpa using h1, h2, h4⟩
theorem thrP_spec {f : Nat → Nat → Bool} {n : Nat} (hf : ∀ i j, f i j = true → j < n) (a : Nat) : BestAt f a (thrP f n a) ∨ (thrP f n a = [] ∧ NoBack f a n) := by
  have hno : ∀ t, (∀ s, s < t → stB f n a s a = false) → NoBack f a t := by
    intro t hn s u p hs hw
    obtain ⟨q, rfl, hq, hc, hl⟩ := way_cons hw
    cases hu : f u a with
    | false => rfl
    | true =>
      have := stB_of hf q a hc (by rw [hl]; exact hu)
      rw [hq, hn s hs] at this
      cases this
  cases hfd : (List.range n).find? fun k => stB f n a k a with
  | some t =>
    obtain ⟨h1, h2, h3⟩ := find_range hfd
    rw [thrP_some h2 h1 h3]
    obtain ⟨i1, i2, i3⟩ := downL_spec hf t a h1
    refine .inl ⟨t, _, ⟨by rw [List.length_cons, downL_len], i1, rfl, rfl⟩, i2, hno t h3, fun u2 q hw hu => ?_⟩
    obtain ⟨q, rfl, hq, hc, hl⟩ := way_cons hw
    rcases i3 q hq hc (by rw [hl]; exact hu) with h | h
    · exact .inl (by rw [h])
    · exact .inr (by simp [lexB, h])
  | none =>
    have h : ∀ s, s < n → stB f n a s a = false := fun s hs => by
      have := List.find?_eq_none.1 hfd s (List.mem_range.2 hs)
      simpa using this
    exact .inr ⟨thrP_none h, hno n h⟩
/-- Both ways of finding it find the same. -/
theorem bestAt_only {f : Nat → Nat → Bool} {a : Nat} {p q : List Nat} (hp : BestAt f a p) (hq : BestAt f a q) : p = q := by
  obtain ⟨t, u, h1, h2, h3, h4⟩ := hp
  obtain ⟨s, v, i1, i2, i3, i4⟩ := hq
  have e : t = s := by
    rcases Nat.lt_trichotomy t s with h | h | h
    · have := i3 t u p h h1
      rw [h2] at this
      cases this
    · exact h
    · have := h3 s v q h i1
      rw [i2] at this
      cases this
  subst e
  rcases h4 v q i1 i2 with h | h
  · exact h
  · rcases i4 u p h1 h2 with h5 | h5
    · exact h5.symm
    · have := lexB_tr h h5
      rw [lexB_irr] at this
      cases this
theorem bestAt_short {f : Nat → Nat → Bool} {n a : Nat} (hf : ∀ i j, f i j = true → j < n) {p : List Nat} (hp : BestAt f a p) : ¬ NoBack f a n := by
  obtain ⟨t, u, h1, h2, _, _⟩ := hp
  exact fun h => noBack_all hf h ⟨h1, h2⟩
theorem thrP_walk {f : Nat → Nat → Bool} {n : Nat} (hf : ∀ i j, f i j = true → j < n) (a : Nat) : thrP f n a = walkP f n a := by
  rcases thrP_spec hf a with h1 | ⟨h1, h2⟩
  · rcases walkP_spec hf a with h3 | ⟨_, h4⟩
    · exact bestAt_only h1 h3
    · exact absurd h4 (bestAt_short hf h1)
  · rcases walkP_spec hf a with h3 | ⟨h3, _⟩
    · exact absurd h2 (bestAt_short hf h3)
    · rw [h1, h3]
/-- A relation whose places stand for classes, each with its least place at its head: circles are the same over all places. -/
theorem cyc_heads {f F : Nat → Nat → Bool} {hc : Nat → Nat} {n : Nat} (hfi : ∀ i j, f i j = true → i < n ∧ j < n) (hFi : ∀ i j, F i j = true → i < n ∧ j < n)
    (hle : ∀ i, i < n → hc i ≤ i) (hF : ∀ i j, i < n → j < n → F i j = f (hc i) (hc j)) (hf : ∀ i j, f i j = true → hc i = i ∧ hc j = j) :
    cycP F n n = cycP f n n := by
  have up : ∀ i j, f i j = true → F i j = true := fun i j h => by
    obtain ⟨h1, h2⟩ := hfi i j h
    obtain ⟨h3, h4⟩ := hf i j h
    rw [hF i j h1 h2, h3, h4]
    exact h
  have upC : ∀ p : List Nat, chainB f p = true → chainB F p = true := by
    intro p
    induction p with
    | nil => exact id
    | cons a p ih =>
      cases p with
      | nil => exact id
      | cons b p =>
        intro h
        simp only [chainB, Bool.and_eq_true] at h ⊢
        exact ⟨up _ _ h.1, ih h.2⟩
  have upB : ∀ {a t u p}, Back f a t u p → Back F a t u p := fun h => ⟨⟨h.1.1, upC _ h.1.2.1, h.1.2.2.1, h.1.2.2.2⟩, up _ _ h.2⟩
  have mapC : ∀ p : List Nat, chainB F p = true → chainB f (p.map hc) = true := by
    intro p
    induction p with
    | nil => exact id
    | cons a p ih =>
      cases p with
      | nil => exact fun _ => rfl
      | cons b p =>
        intro h
        simp only [chainB, Bool.and_eq_true, List.map_cons] at h ⊢
        obtain ⟨h1, h2⟩ := hFi _ _ h.1
        exact ⟨by rw [← hF a b h1 h2]; exact h.1, ih h.2⟩
  have mapL : ∀ p : List Nat, p ≠ [] → lastD (p.map hc) = hc (lastD p) := by
    intro p
    induction p with
    | nil => exact fun h => absurd rfl h
    | cons a p ih =>
      cases p with
      | nil => exact fun _ => rfl
      | cons b p => exact fun _ => ih (by simp)
  have mapB : ∀ {a t u p}, Back F a t u p → Back f (hc a) t (hc u) (p.map hc) := by
    rintro a t u p ⟨⟨h1, h2, h3, h4⟩, h5⟩
    obtain ⟨i1, i2⟩ := hFi _ _ h5
    have hne : p ≠ [] := by rintro rfl; simp at h1
    refine ⟨⟨by simpa using h1, mapC p h2, ?_, by rw [mapL p hne, h4]⟩, by rw [← hF u a i1 i2]; exact h5⟩
    cases p with
    | nil => exact absurd rfl hne
    | cons b p => simp at h3; simp [h3]
  have lexM : ∀ p : List Nat, (∀ x ∈ p, x < n) → lexB p (p.map hc) = false := by
    intro p
    induction p with
    | nil => exact fun _ => rfl
    | cons a p ih =>
      intro h
      have h1 := hle a (h a List.mem_cons_self)
      simp only [List.map_cons, lexB, Bool.or_eq_false_iff, Bool.and_eq_false_iff]
      refine ⟨by simp; omega, ?_⟩
      by_cases e : a = hc a
      · exact .inr (ih fun x hx => h x (List.mem_cons_of_mem _ hx))
      · exact .inl (by simp [e])
  have hin : ∀ {a t u p}, Back F a t u p → ∀ x ∈ p, x < n := fun h => back_in (fun i j h => (hFi i j h).2) h
  have key : FirstC f (cycP F n n) := by
    rcases cycP_first hFi with ⟨h1, h2⟩ | ⟨a, t, u, hb, hm, hl⟩
    · exact .inl ⟨h1, fun a t u q h => h2 a t u q (upB h)⟩
    · have hm2 := mapB hb
      have e : cycP F n n = (cycP F n n).map hc := by
        rcases hl _ _ _ (upB hm2) with h | h
        · exact h
        · rw [lexM _ (hin hb)] at h
          cases h
      rw [← e] at hm2
      exact .inr ⟨_, t, _, hm2, fun b s v q h => hm b s v q (upB h), fun b v q h => hl b v q (upB h)⟩
  exact firstC_only key (cycP_first hfi)
end Go.Proofs.Ytnkdpogplkomhaa

/- The order of contexts as plain data: what lies above what, by the places of heads. -/
namespace Go.Proofs.Ytnkdpogplkomhaa
open Go.RowKit

/-- The place of the head of a context. -/
def hcG (ids G : List Int) (a : Int) : Nat := placeI ids (labG ids G a)
/-- What is told of places by relations of the kind above. -/
def dirG (ids G : List Int) (l : List Ctx) (p q : Nat) : Bool := l.any fun r => decide (r.area = 1) && (decide (hcG ids G r.id = p) && decide (hcG ids G r.kind = q))
def upG (ids : List Int) (l : List Ctx) (a b : Int) : Bool := clos (dirG ids (groupsG ids l) l) ids.length (hcG ids (groupsG ids l) a) (hcG ids (groupsG ids l) b)
theorem hcG_lt {ids : List Int} {l : List Ctx} (h : okG ids l = true) {a : Int} (ha : a ∈ ids) : hcG ids (groupsG ids l) a < ids.length := by
  obtain ⟨j, _, hj, _⟩ := (headsG_all h).2 _ _ (labG_of (groupsG_len ids l) ha)
  exact (placeI_at (List.mem_of_getElem? hj)).2.1
theorem dirG_iff {ids G : List Int} {l : List Ctx} {p q : Nat} : dirG ids G l p q = true ↔ ∃ r ∈ l, r.area = 1 ∧ hcG ids G r.id = p ∧ hcG ids G r.kind = q := by
  simp [dirG]
theorem dirG_in {ids : List Int} {l : List Ctx} (h : okG ids l = true) : InN (dirG ids (groupsG ids l) l) ids.length := by
  intro p q hpq
  obtain ⟨r, hr, _, rfl, rfl⟩ := dirG_iff.1 hpq
  obtain ⟨h1, h2⟩ := (okG_parts h).2.2 r hr
  exact ⟨hcG_lt h h1, hcG_lt h h2⟩
theorem upG_direct {ids : List Int} {l : List Ctx} {r : Ctx} (hr : r ∈ l) (h1 : r.area = 1) : upG ids l r.id r.kind = true :=
  clos_direct (dirG_iff.2 ⟨r, hr, h1, rfl, rfl⟩)
theorem upG_trans {ids : List Int} {l : List Ctx} (h : okG ids l = true) {a b c : Int} (h1 : upG ids l a b = true) (h2 : upG ids l b c = true) : upG ids l a c = true :=
  clos_trans (dirG_in h) h1 h2
theorem upG_same {ids : List Int} {l : List Ctx} {a b c : Int} (h : labG ids (groupsG ids l) a = labG ids (groupsG ids l) b) : upG ids l a c = upG ids l b c ∧ upG ids l c a = upG ids l c b := by
  unfold upG hcG
  rw [h]
  exact ⟨rfl, rfl⟩
/-- Places of heads are the same only where heads are. -/
theorem hcG_inj {ids : List Int} {l : List Ctx} (h : okG ids l = true) {a b : Int} (ha : a ∈ ids) (hb : b ∈ ids) (e : hcG ids (groupsG ids l) a = hcG ids (groupsG ids l) b) : labG ids (groupsG ids l) a = labG ids (groupsG ids l) b := by
  obtain ⟨j, _, hj, _⟩ := (headsG_all h).2 _ _ (labG_of (groupsG_len ids l) ha)
  obtain ⟨k, _, hk, _⟩ := (headsG_all h).2 _ _ (labG_of (groupsG_len ids l) hb)
  have h1 := (placeI_at (List.mem_of_getElem? hj)).2.2
  have h2 := (placeI_at (List.mem_of_getElem? hk)).2.2
  unfold hcG at e
  rw [e, h2] at h1
  injection h1 with h1
  exact h1.symm
theorem upG_first {ids : List Int} {l : List Ctx} (h : okG ids l = true) {a b : Int} (ha : a ∈ ids) (hb : b ∈ ids) (hu : upG ids l a b = true) :
    ∃ r ∈ l, r.area = 1 ∧ labG ids (groupsG ids l) r.id = labG ids (groupsG ids l) a ∧ (labG ids (groupsG ids l) r.kind = labG ids (groupsG ids l) b ∨ upG ids l r.kind b = true) := by
  obtain ⟨x, h1, h2⟩ := clos_first (dirG_in h) hu
  obtain ⟨r, hr, h3, h4, rfl⟩ := dirG_iff.1 h1
  obtain ⟨h5, h6⟩ := (okG_parts h).2.2 r hr
  refine ⟨r, hr, h3, hcG_inj h h5 ha h4, ?_⟩
  rcases h2 with h2 | h2
  · exact .inl (hcG_inj h h6 hb h2)
  · exact .inr h2
/-- Without a relation of the kind above the groups are the same, and no more lies above. -/
theorem groupsG_drop {ids : List Int} {l : List Ctx} {k : Nat} {r : Ctx} (hr : l[k]? = some r) (h : r.area ≠ 2) : groupsG ids (l.take k ++ l.drop (k + 1)) = groupsG ids l := by
  have hk := (List.getElem?_eq_some_iff.1 hr)
  obtain ⟨hk, he⟩ := hk
  have e : l = l.take k ++ r :: l.drop (k + 1) := by
    rw [← he, ← List.drop_eq_getElem_cons hk, List.take_append_drop]
  unfold groupsG
  conv => rhs; rw [e]
  rw [List.foldl_append, List.foldl_append, List.foldl_cons, stepG, if_neg h]
theorem upG_drop {ids : List Int} {l : List Ctx} (hok : okG ids l = true) {k : Nat} {r : Ctx} (hr : l[k]? = some r) (h : r.area ≠ 2) {a b : Int} (hu : upG ids (l.take k ++ l.drop (k + 1)) a b = true) : upG ids l a b = true := by
  unfold upG at hu ⊢
  rw [groupsG_drop hr h] at hu
  refine clos_mono (dirG_in hok) (fun p q hpq => ?_) hu
  obtain ⟨s, hs, h1, h2⟩ := dirG_iff.1 hpq
  exact dirG_iff.2 ⟨s, (part_sub l k).subset hs, h1, h2⟩
/-- No context lies above itself. -/
def ordOkG (ids : List Int) (l : List Ctx) : Bool := okG ids l && ids.all fun a => !upG ids l a a
def ordG (ids : List Int) (l : List Ctx) : List (List Bool) := ids.map fun a => ids.map fun b => upG ids l a b
def ordOfG (ids : List Int) (l : List Ctx) : List (List Bool) := if okG ids l then ordG ids l else []
def aboveG (ids : List Int) (l : List Ctx) (a b : Int) : Bool := okG ids l && (decide (a ∈ ids) && (decide (b ∈ ids) && upG ids l a b))
theorem ordG_at {ids : List Int} {l : List Ctx} {i j : Nat} {a b : Int} (ha : ids[i]? = some a) (hb : ids[j]? = some b) : ∃ r, (ordG ids l)[i]? = some r ∧ r.length = ids.length ∧ r[j]? = some (upG ids l a b) := by
  refine ⟨ids.map fun b => upG ids l a b, ?_, by simp, ?_⟩
  · simp [ordG, ha]
  · simp [hb]
end Go.Proofs.Ytnkdpogplkomhaa

/- The order over the places of all contexts, not of heads alone. Plain data. -/
namespace Go.Proofs.Ytnkdpogplkomhaa
open Go.RowKit

/-- What the group of a place lies directly above. -/
def dirA (ids G : List Int) (l : List Ctx) (i j : Nat) : Bool := l.any fun r => decide (r.area = 1) && (decide (G[placeI ids r.id]? = G[i]?) && decide (G[placeI ids r.kind]? = G[j]?))
/-- The place of the head of a place. -/
def hcI (ids G : List Int) (i : Nat) : Nat := placeI ids (G[i]?.getD 0)
theorem dirA_iff {ids G : List Int} {l : List Ctx} {i j : Nat} : dirA ids G l i j = true ↔ ∃ r ∈ l, r.area = 1 ∧ G[placeI ids r.id]? = G[i]? ∧ G[placeI ids r.kind]? = G[j]? := by
  simp [dirA]
section
variable {ids : List Int} {l : List Ctx}
theorem hcI_head (h : okG ids l = true) {i : Nat} (hi : i < ids.length) : ∃ (x : Int) (j : Nat), (groupsG ids l)[i]? = some x ∧ j ≤ i ∧ ids[j]? = some x ∧ (groupsG ids l)[j]? = some x ∧ hcI ids (groupsG ids l) i = j := by
  have hg : (groupsG ids l).length = ids.length := groupsG_len ids l
  obtain ⟨x, hx⟩ : ∃ x, (groupsG ids l)[i]? = some x := ⟨_, List.getElem?_eq_getElem (by omega)⟩
  obtain ⟨j, h1, h2, h3⟩ := (headsG_all h).2 i x hx
  refine ⟨x, j, hx, h1, h2, h3, ?_⟩
  unfold hcI
  rw [hx]
  exact placeI_own (okG_parts h).1 h2
theorem hcI_le (h : okG ids l = true) {i : Nat} (hi : i < ids.length) : hcI ids (groupsG ids l) i ≤ i := by
  obtain ⟨x, j, _, h1, _, _, e⟩ := hcI_head h hi
  omega
theorem hcI_self (h : okG ids l = true) {i : Nat} (hi : i < ids.length) : hcI ids (groupsG ids l) (hcI ids (groupsG ids l) i) = hcI ids (groupsG ids l) i := by
  obtain ⟨x, j, h0, h1, h2, h3, e⟩ := hcI_head h hi
  rw [e]
  unfold hcI
  rw [h3]
  exact placeI_own (okG_parts h).1 h2
theorem hcI_same (h : okG ids l = true) {i j : Nat} (hi : i < ids.length) (hj : j < ids.length) : hcI ids (groupsG ids l) i = hcI ids (groupsG ids l) j ↔ (groupsG ids l)[i]? = (groupsG ids l)[j]? := by
  obtain ⟨x, a, h0, _, h2, _, e⟩ := hcI_head h hi
  obtain ⟨y, b, i0, _, i2, _, e2⟩ := hcI_head h hj
  rw [e, e2, h0, i0]
  constructor
  · rintro rfl
    rw [h2] at i2
    exact i2
  · intro e3
    injection e3 with e3
    subst e3
    exact asc_eq (okG_parts h).1 h2 i2
theorem hcG_place {a : Int} (G : List Int) : hcG ids G a = hcI ids G (placeI ids a) := rfl
theorem dirA_heads (h : okG ids l = true) {i j : Nat} (hi : i < ids.length) (hj : j < ids.length) : dirA ids (groupsG ids l) l i j = dirG ids (groupsG ids l) l (hcI ids (groupsG ids l) i) (hcI ids (groupsG ids l) j) := by
  rw [Bool.eq_iff_iff, dirA_iff, dirG_iff]
  constructor
  · rintro ⟨r, hr, h1, h2, h3⟩
    obtain ⟨m1, m2⟩ := (okG_parts h).2.2 r hr
    exact ⟨r, hr, h1, (hcI_same h (placeI_at m1).2.1 hi).2 h2, (hcI_same h (placeI_at m2).2.1 hj).2 h3⟩
  · rintro ⟨r, hr, h1, h2, h3⟩
    obtain ⟨m1, m2⟩ := (okG_parts h).2.2 r hr
    exact ⟨r, hr, h1, (hcI_same h (placeI_at m1).2.1 hi).1 h2, (hcI_same h (placeI_at m2).2.1 hj).1 h3⟩
theorem dirA_in (h : okG ids l = true) : InN (dirA ids (groupsG ids l) l) ids.length := by
  intro i j hij
  obtain ⟨r, hr, _, h2, h3⟩ := dirA_iff.1 hij
  obtain ⟨m1, m2⟩ := (okG_parts h).2.2 r hr
  have hg : (groupsG ids l).length = ids.length := groupsG_len ids l
  rw [labG_of hg m1] at h2
  rw [labG_of hg m2] at h3
  have := (List.getElem?_eq_some_iff.1 h2.symm).1
  have := (List.getElem?_eq_some_iff.1 h3.symm).1
  omega
theorem dirG_own (h : okG ids l = true) {p q : Nat} (hpq : dirG ids (groupsG ids l) l p q = true) : hcI ids (groupsG ids l) p = p ∧ hcI ids (groupsG ids l) q = q := by
  obtain ⟨r, hr, _, rfl, rfl⟩ := dirG_iff.1 hpq
  obtain ⟨m1, m2⟩ := (okG_parts h).2.2 r hr
  exact ⟨hcI_self h (placeI_at m1).2.1, hcI_self h (placeI_at m2).2.1⟩
theorem clos_heads (h : okG ids l = true) {i j : Nat} (hi : i < ids.length) (hj : j < ids.length) :
    clos (dirA ids (groupsG ids l) l) ids.length i j = clos (dirG ids (groupsG ids l) l) ids.length (hcI ids (groupsG ids l) i) (hcI ids (groupsG ids l) j) := by
  rw [Bool.eq_iff_iff]
  constructor
  · intro hc
    refine clos_least (T := fun i j => clos (dirG ids (groupsG ids l) l) ids.length (hcI ids (groupsG ids l) i) (hcI ids (groupsG ids l) j) = true) (fun i j hij => ?_) (fun _ _ _ h1 h2 => clos_trans (dirG_in h) h1 h2) hc
    obtain ⟨h1, h2⟩ := dirA_in h i j hij
    rw [dirA_heads h h1 h2] at hij
    exact clos_direct hij
  · intro hc
    have key := clos_least (T := fun p q => (hcI ids (groupsG ids l) p = p ∧ p < ids.length) ∧ (hcI ids (groupsG ids l) q = q ∧ q < ids.length) ∧ ∀ i j, i < ids.length → j < ids.length → hcI ids (groupsG ids l) i = p → hcI ids (groupsG ids l) j = q → clos (dirA ids (groupsG ids l) l) ids.length i j = true)
      (fun p q hpq => ?_) (fun p q r h1 h2 => ?_) hc
    · exact key.2.2 i j hi hj rfl rfl
    · obtain ⟨h1, h2⟩ := dirG_own h hpq
      obtain ⟨h3, h4⟩ := dirG_in h p q hpq
      refine ⟨⟨h1, h3⟩, ⟨h2, h4⟩, fun i j hi hj e1 e2 => clos_direct ?_⟩
      rw [dirA_heads h hi hj, e1, e2]
      exact hpq
    · exact ⟨h1.1, h2.2.1, fun i j hi hj e1 e2 => clos_trans (dirA_in h) (h1.2.2 i q hi h1.2.1.2 e1 h1.2.1.1) (h2.2.2 q j h1.2.1.2 hj h1.2.1.1 e2)⟩
/-- The order of the contexts at two places. -/
theorem upA (h : okG ids l = true) {i j : Nat} {a b : Int} (ha : ids[i]? = some a) (hb : ids[j]? = some b) : clos (dirA ids (groupsG ids l) l) ids.length i j = upG ids l a b := by
  have hi := (List.getElem?_eq_some_iff.1 ha).1
  have hj := (List.getElem?_eq_some_iff.1 hb).1
  rw [clos_heads h hi hj]
  unfold upG
  rw [hcG_place, hcG_place, placeI_own (okG_parts h).1 ha, placeI_own (okG_parts h).1 hb]
/-- The first of the shortest circles is the same over all places. -/
theorem cycA (h : okG ids l = true) : cycP (dirA ids (groupsG ids l) l) ids.length ids.length = cycP (dirG ids (groupsG ids l) l) ids.length ids.length :=
  cyc_heads (dirG_in h) (dirA_in h) (fun _ hi => hcI_le h hi) (fun _ _ hi hj => dirA_heads h hi hj) (fun _ _ hij => dirG_own h hij)
/-- One relation more. -/
theorem dirA_next {G : List Int} {k : Nat} {r : Ctx} (hr : l[k]? = some r) (i j : Nat) : dirA ids G (l.take (k + 1)) i j = (dirA ids G (l.take k) i j || (decide (r.area = 1) && (decide (G[placeI ids r.id]? = G[i]?) && decide (G[placeI ids r.kind]? = G[j]?)))) := by
  unfold dirA
  rw [List.take_add_one, hr, List.any_append]
  simp
end
end Go.Proofs.Ytnkdpogplkomhaa

/- Tables of a relation of places. Plain data. -/
namespace Go.Proofs.Ytnkdpogplkomhaa

/-- The table of a relation of n places. -/
def tabN (n : Nat) (f : Nat → Nat → Bool) : List (List Bool) := (List.range n).map fun i => (List.range n).map (f i)
def rowN (n : Nat) (f : Nat → Bool) : List Bool := (List.range n).map f
theorem rowN_len (n : Nat) (f : Nat → Bool) : (rowN n f).length = n := by simp [rowN]
theorem tabN_len (n : Nat) (f : Nat → Nat → Bool) : (tabN n f).length = n := by simp [tabN]
theorem tabN_row {n i : Nat} (f : Nat → Nat → Bool) (hi : i < n) : (tabN n f)[i]? = some (rowN n (f i)) := by simp [tabN, rowN, hi]
theorem rowN_at {n j : Nat} (f : Nat → Bool) (hj : j < n) : (rowN n f)[j]? = some (f j) := by simp [rowN, hj]
theorem rowN_congr {n : Nat} {f g : Nat → Bool} (h : ∀ j, j < n → f j = g j) : rowN n f = rowN n g := by
  unfold rowN
  exact List.map_congr_left fun j hj => h j (List.mem_range.1 hj)
theorem tabN_congr {n : Nat} {f g : Nat → Nat → Bool} (h : ∀ i j, i < n → j < n → f i j = g i j) : tabN n f = tabN n g := by
  unfold tabN
  exact List.map_congr_left fun i hi => List.map_congr_left fun j hj => h i j (List.mem_range.1 hi) (List.mem_range.1 hj)
theorem rowN_set {n j : Nat} (f : Nat → Bool) (x : Bool) : (rowN n f).set j x = rowN n (fun b => if b = j then x else f b) := by
  refine List.ext_getElem? fun b => ?_
  rw [List.getElem?_set]
  by_cases hb : j = b
  · subst hb
    by_cases hj : j < n <;> simp [rowN, hj]
  · rw [if_neg hb]
    by_cases h : b < n
    · have hb2 : ¬ b = j := fun e => hb e.symm
      simp [rowN, h, hb2]
    · simp [rowN, h]
theorem tabN_set {n i j : Nat} (f : Nat → Nat → Bool) (x : Bool) : (tabN n f).set i ((rowN n (f i)).set j x) = tabN n (fun a b => if a = i ∧ b = j then x else f a b) := by
  refine List.ext_getElem? fun a => ?_
  rw [List.getElem?_set]
  by_cases ha : i = a
  · subst ha
    by_cases hi : i < n
    · rw [if_pos rfl, if_pos (by rw [tabN_len]; exact hi), tabN_row _ hi, rowN_set]
      simp
    · rw [if_pos rfl, if_neg (by rw [tabN_len]; exact hi)]
      simp [tabN, hi]
  · rw [if_neg ha]
    by_cases h : a < n
    · rw [tabN_row _ h, tabN_row _ h]
      congr 1
      have ha2 : ¬ a = i := fun e => ha e.symm
      exact rowN_congr fun b _ => by simp [ha2]
    · simp [tabN, h]
end Go.Proofs.Ytnkdpogplkomhaa

/- Orders of digging over places: what can be dug next, the first such order, and what keeps what lies above. Plain data. -/
namespace Go.Proofs.Ytnkdpogplkomhaa

/-- Nothing that is left lies above a place that is left. -/
def freeB (f : Nat → Nat → Bool) (n : Nat) (d : Nat → Bool) (at_ : Nat) : Bool := (List.range n).all (fun k => d k || !f k at_) && !d at_
def dugB (d : Nat → Bool) (at_ : Nat) : Nat → Bool := fun k => d k || decide (k = at_)
/-- An order whose next place is always free. -/
def seqB (f : Nat → Nat → Bool) (n : Nat) : (Nat → Bool) → List Nat → Bool
  | _, [] => true
  | d, a :: p => decide (a < n) && (freeB f n d a && seqB f n (dugB d a) p)
/-- Always the least place that is free. -/
def digP (f : Nat → Nat → Bool) (n : Nat) : Nat → (Nat → Bool) → List Nat
  | 0, _ => []
  | m + 1, d => leastB n (freeB f n d) :: digP f n m (dugB d (leastB n (freeB f n d)))
def leftN (n : Nat) (d : Nat → Bool) : Nat := ((List.range n).filter fun k => !d k).length
section
variable {f : Nat → Nat → Bool} {n : Nat} {d : Nat → Bool}
theorem freeB_iff {a : Nat} : freeB f n d a = true ↔ d a = false ∧ ∀ k, k < n → d k = false → f k a = false := by
  unfold freeB
  rw [Bool.and_eq_true, List.all_eq_true, Bool.not_eq_true']
  constructor
  · rintro ⟨h1, h2⟩
    refine ⟨h2, fun k hk hd => ?_⟩
    have := h1 k (List.mem_range.2 hk)
    rw [hd] at this
    simpa using this
  · rintro ⟨h1, h2⟩
    refine ⟨fun k hk => ?_, h1⟩
    cases hd : d k
    · rw [h2 k (List.mem_range.1 hk) hd]; rfl
    · rfl
theorem dugB_self (a : Nat) : dugB d a a = true := by simp [dugB]
theorem dugB_of {a k : Nat} (h : d k = true) : dugB d a k = true := by simp [dugB, h]
theorem dugB_no {a k : Nat} : dugB d a k = false ↔ d k = false ∧ k ≠ a := by simp [dugB]
theorem filter_less {α : Type} {p q : α → Bool} {x : α} : ∀ {l : List α}, (∀ y ∈ l, p y = true → q y = true) → x ∈ l → q x = true → p x = false → (l.filter p).length < (l.filter q).length
  | [], _, hx, _, _ => by cases hx
  | y :: l, h, hx, hq, hp => by
    have hle : ∀ {l : List α}, (∀ y ∈ l, p y = true → q y = true) → (l.filter p).length ≤ (l.filter q).length := by
      intro l hl
      induction l with
      | nil => simp
      | cons z l ih =>
        have ih := ih fun y hy => hl y (List.mem_cons_of_mem _ hy)
        have hz := hl z List.mem_cons_self
        cases hpz : p z
        · cases hqz : q z <;> simp [hpz, hqz] <;> omega
        · simp [hpz, hz hpz]; omega
    have hl : ∀ y ∈ l, p y = true → q y = true := fun z hz => h z (List.mem_cons_of_mem _ hz)
    rcases List.mem_cons.1 hx with rfl | hx
    · have := hle hl
      simp [hp, hq]
      omega
    · have := filter_less hl hx hq hp
      have hy := h y List.mem_cons_self
      cases hpy : p y
      · cases hqy : q y <;> simp [hpy, hqy] <;> omega
      · simp [hpy, hy hpy]; omega
/-- Where nothing lies above itself, something can be dug next. -/
theorem free_some (hi : ∀ i, f i i = false) (ht : ∀ i j k, f i j = true → f j k = true → f i k = true) {a : Nat} (ha : a < n) (hd : d a = false) : ∃ b, b < n ∧ freeB f n d b = true := by
  generalize hm : ((List.range n).filter fun j => f j a).length = m
  induction m using Nat.strongRecOn generalizing a with
  | ind m ih =>
    cases hf : freeB f n d a
    · have h1 : ¬ ∀ k, k < n → d k = false → f k a = false := fun h => by
        rw [freeB_iff.2 ⟨hd, h⟩] at hf
        cases hf
      obtain ⟨k, hk⟩ := Classical.not_forall.1 h1
      have hk2 : k < n ∧ d k = false ∧ f k a = true := by
        refine ⟨Classical.byContradiction fun h => hk fun h2 => absurd h2 h, ?_, ?_⟩
        · cases hdk : d k
          · rfl
          · exact absurd (fun _ h => by rw [hdk] at h; cases h) hk
        · cases hfk : f k a
          · exact absurd (fun _ _ => hfk) hk
          · rfl
      obtain ⟨h2, h3, h4⟩ := hk2
      have hlt : ((List.range n).filter fun j => f j k).length < ((List.range n).filter fun j => f j a).length :=
        filter_less (x := k) (fun j _ hj => ht j k a hj h4) (List.mem_range.2 h2) h4 (hi k)
      exact ih _ (by omega) h2 h3 rfl
    · exact ⟨a, ha, hf⟩
theorem left_next {a : Nat} (ha : a < n) (hd : d a = false) : leftN n (dugB d a) + 1 = leftN n d := by
  unfold leftN
  have key : ∀ l : List Nat, l.Nodup → a ∈ l → (l.filter fun k => !dugB d a k).length + 1 = (l.filter fun k => !d k).length := by
    intro l
    induction l with
    | nil => intro _ h; cases h
    | cons b l ih =>
      intro hn hm
      rw [List.nodup_cons] at hn
      by_cases hb : b = a
      · subst hb
        have e : (l.filter fun k => !dugB d b k) = l.filter fun k => !d k := by
          refine List.filter_congr fun k hk => ?_
          have hkb : ¬ k = b := fun e => hn.1 (e ▸ hk)
          simp [dugB, hkb]
        simp [dugB_self, hd, e]
      · have hm2 : a ∈ l := by
          rcases List.mem_cons.1 hm with h | h
          · exact absurd h.symm hb
          · exact h
        have := ih hn.2 hm2
        have e : dugB d a b = d b := by simp [dugB, hb]
        cases hdb : d b
        · simp [e, hdb]; omega
        · simp [e, hdb]; omega
  exact key _ List.nodup_range (List.mem_range.2 ha)
theorem left_pos {m : Nat} (h : leftN n d = m + 1) : ∃ a, a < n ∧ d a = false := by
  unfold leftN at h
  obtain ⟨a, ha⟩ : ∃ a, a ∈ (List.range n).filter fun k => !d k := by
    cases hl : (List.range n).filter fun k => !d k with
    | nil => rw [hl] at h; simp at h
    | cons a r => exact ⟨a, List.mem_cons_self⟩
  obtain ⟨h1, h2⟩ := List.mem_filter.1 ha
  exact ⟨a, List.mem_range.1 h1, by simpa using h2⟩
theorem left_none : leftN n (fun _ => false) = n := by
  unfold leftN
  rw [List.filter_eq_self.2 (by simp)]
  simp
theorem digP_len : ∀ (m : Nat) (d : Nat → Bool), (digP f n m d).length = m
  | 0, _ => rfl
  | m + 1, d => by rw [digP, List.length_cons, digP_len m]
/-- The order that was found is one, each time with the least free place. -/
theorem digP_seq (hi : ∀ i, f i i = false) (ht : ∀ i j k, f i j = true → f j k = true → f i k = true) : ∀ (m : Nat) (d : Nat → Bool), leftN n d = m → seqB f n d (digP f n m d) = true
  | 0, _, _ => rfl
  | m + 1, d, h => by
    obtain ⟨a, ha, hd⟩ := left_pos h
    obtain ⟨b, hb, hf⟩ := free_some hi ht ha hd
    obtain ⟨h1, h2, _⟩ := leastB_spec hb hf
    rw [digP, seqB, Bool.and_eq_true, Bool.and_eq_true, decide_eq_true_eq]
    refine ⟨h2, h1, digP_seq hi ht m _ ?_⟩
    have := left_next h2 (freeB_iff.1 h1).1
    omega
/-- In such an order no place comes twice, and none behind one that it lies above. -/
theorem seq_apart : ∀ {p : List Nat} {d : Nat → Bool}, seqB f n d p = true → (∀ a ∈ p, a < n ∧ d a = false) ∧ p.Pairwise fun a b => a ≠ b ∧ f b a = false
  | [], _, _ => ⟨by simp, List.Pairwise.nil⟩
  | a :: p, d, h => by
    rw [seqB, Bool.and_eq_true, Bool.and_eq_true, decide_eq_true_eq] at h
    obtain ⟨h1, h2, h3⟩ := h
    obtain ⟨i1, i2⟩ := seq_apart h3
    obtain ⟨hd, hk⟩ := freeB_iff.1 h2
    refine ⟨fun b hb => ?_, List.pairwise_cons.2 ⟨fun b hb => ?_, i2⟩⟩
    · rcases List.mem_cons.1 hb with rfl | hb
      · exact ⟨h1, hd⟩
      · exact ⟨(i1 b hb).1, (dugB_no.1 (i1 b hb).2).1⟩
    · obtain ⟨j1, j2⟩ := dugB_no.1 (i1 b hb).2
      exact ⟨fun e => j2 e.symm, hk b (i1 b hb).1 j1⟩
/-- What stands ahead of a part of it has been dug. -/
theorem seq_split {p q : List Nat} : ∀ {r : List Nat} {d : Nat → Bool}, p = r → seqB f n d (r ++ q) = (seqB f n d r && seqB f n (r.foldl dugB d) q)
  | [], d, _ => by simp [seqB]
  | a :: r, d, _ => by
    rw [List.cons_append, seqB, seqB, seq_split rfl (q := q) (r := r), List.foldl_cons, Bool.and_assoc, Bool.and_assoc]
theorem digP_split : ∀ (m k : Nat) (d : Nat → Bool), k ≤ m → digP f n m d = (digP f n m d).take k ++ digP f n (m - k) (((digP f n m d).take k).foldl dugB d)
  | m, 0, d, _ => by simp
  | 0, k + 1, d, h => absurd h (by omega)
  | m + 1, k + 1, d, h => by
    rw [digP, List.take_succ_cons, List.foldl_cons, List.cons_append, show m + 1 - (k + 1) = m - k from by omega]
    congr 1
    exact digP_split m k _ (by omega)
/-- Two neighbours with the greater place first can't be exchanged. -/
theorem digP_first {k a b : Nat} {m : Nat} {d : Nat → Bool} (ha : (digP f n m d)[k]? = some a) (hb : (digP f n m d)[k + 1]? = some b) (hba : b < a) (q : List Nat) : seqB f n d ((digP f n m d).take k ++ b :: q) = false := by
  have hk : k + 1 < m := by have := (List.getElem?_eq_some_iff.1 hb).1; rwa [digP_len] at this
  have hs := digP_split (f := f) (n := n) m k d (by omega)
  obtain ⟨D, hD⟩ : ∃ D, D = ((digP f n m d).take k).foldl dugB d := ⟨_, rfl⟩
  rw [← hD] at hs
  obtain ⟨r, hr⟩ : ∃ r, m - k = r + 1 := ⟨m - k - 1, by omega⟩
  rw [hr, digP] at hs
  have hlen : ((digP f n m d).take k).length = k := by rw [List.length_take, digP_len]; omega
  have ha2 : leastB n (freeB f n D) = a := by
    rw [hs, List.getElem?_append_right (by omega), hlen, Nat.sub_self] at ha
    simpa using ha
  rw [seq_split rfl, ← hD, seqB]
  cases hf : freeB f n D b
  · simp
  · by_cases hbn : b < n
    · have := (leastB_spec hbn hf).2.2
      rw [ha2] at this
      exfalso
      rw [this b hba] at hf
      cases hf
    · simp [hbn]
end
end Go.Proofs.Ytnkdpogplkomhaa

/- How many orders of digging there are. Plain data. -/
namespace Go.Proofs.Ytnkdpogplkomhaa

def countP (f : Nat → Nat → Bool) (n : Nat) : Nat → (Nat → Bool) → Nat
  | 0, _ => 1
  | m + 1, d => (((List.range n).filter (freeB f n d)).map fun a => countP f n m (dugB d a)).sum
def factN : Nat → Nat
  | 0 => 1
  | n + 1 => (n + 1) * factN n
theorem factN_pos : ∀ n, 0 < factN n
  | 0 => by simp [factN]
  | n + 1 => Nat.mul_pos (by omega) (factN_pos n)
theorem sum_le {α : Type} {g : α → Nat} {c : Nat} : ∀ {l : List α}, (∀ x ∈ l, g x ≤ c) → (l.map g).sum ≤ l.length * c
  | [], _ => by simp
  | x :: l, h => by
    have h1 := h x List.mem_cons_self
    have h2 := sum_le (g := g) (c := c) fun y hy => h y (List.mem_cons_of_mem x hy)
    simp only [List.map_cons, List.sum_cons, List.length_cons, Nat.add_mul]
    omega
theorem sum_eq {α : Type} {g : α → Nat} {c : Nat} : ∀ {l : List α}, (∀ x ∈ l, g x = c) → (l.map g).sum = l.length * c
  | [], _ => by simp
  | x :: l, h => by
    have h1 := h x List.mem_cons_self
    have h2 := sum_eq (g := g) (c := c) fun y hy => h y (List.mem_cons_of_mem x hy)
    simp only [List.map_cons, List.sum_cons, List.length_cons, Nat.add_mul]
    omega
theorem sum_ge {α : Type} {g : α → Nat} {x : α} : ∀ {l : List α}, x ∈ l → g x ≤ (l.map g).sum
  | [], h => by cases h
  | y :: l, h => by
    simp only [List.map_cons, List.sum_cons]
    rcases List.mem_cons.1 h with rfl | h
    · omega
    · have := sum_ge (g := g) h
      omega
section
variable {f : Nat → Nat → Bool} {n : Nat}
theorem free_le (d : Nat → Bool) : ((List.range n).filter (freeB f n d)).length ≤ leftN n d := by
  unfold leftN
  have key : ∀ l : List Nat, (l.filter (freeB f n d)).length ≤ (l.filter fun k => !d k).length := by
    intro l
    induction l with
    | nil => simp
    | cons a l ih =>
      cases hf : freeB f n d a
      · cases hd : d a <;> simp [hf, hd] <;> omega
      · have := (freeB_iff.1 hf).1
        simp [hf, this]; omega
  exact key _
/-- There are no more orders than without relations. -/
theorem count_le : ∀ (m : Nat) (d : Nat → Bool), leftN n d = m → countP f n m d ≤ factN m
  | 0, _, _ => by simp [countP, factN]
  | m + 1, d, h => by
    rw [countP, factN]
    have h1 := free_le (f := f) (n := n) d
    refine Nat.le_trans (sum_le (c := factN m) fun a ha => ?_) (Nat.mul_le_mul_right _ (by omega))
    obtain ⟨h2, h3⟩ := List.mem_filter.1 ha
    have := left_next (List.mem_range.1 h2) (freeB_iff.1 h3).1
    exact count_le m _ (by omega)
theorem count_pos (hi : ∀ i, f i i = false) (ht : ∀ i j k, f i j = true → f j k = true → f i k = true) : ∀ (m : Nat) (d : Nat → Bool), leftN n d = m → 1 ≤ countP f n m d
  | 0, _, _ => by simp [countP]
  | m + 1, d, h => by
    obtain ⟨a, ha, hd⟩ := left_pos h
    obtain ⟨b, hb, hf⟩ := free_some hi ht ha hd
    have h2 := left_next hb (freeB_iff.1 hf).1
    have h3 := count_pos hi ht m (dugB d b) (by omega)
    rw [countP]
    exact Nat.le_trans h3 (sum_ge (g := fun a => countP f n m (dugB d a)) (List.mem_filter.2 ⟨List.mem_range.2 hb, hf⟩))
/-- Without relations all orders are possible. -/
theorem count_all (h0 : ∀ i j, i < n → j < n → f i j = false) : ∀ (m : Nat) (d : Nat → Bool), leftN n d = m → countP f n m d = factN m
  | 0, _, _ => by simp [countP, factN]
  | m + 1, d, h => by
    have e : (List.range n).filter (freeB f n d) = (List.range n).filter fun k => !d k := by
      refine List.filter_congr fun k hk => ?_
      cases hd : d k
      · rw [freeB_iff.2 ⟨hd, fun j hj _ => h0 j k hj (List.mem_range.1 hk)⟩]; rfl
      · cases hf : freeB f n d k
        · rfl
        · rw [(freeB_iff.1 hf).1] at hd; cases hd
    have hl : ((List.range n).filter fun k => !d k).length = m + 1 := h
    rw [countP, factN, e, sum_eq (c := factN m) fun a ha => ?_, hl]
    obtain ⟨h2, h3⟩ := List.mem_filter.1 ha
    have := left_next (List.mem_range.1 h2) (d := d) (by simpa using h3)
    exact count_all h0 m _ (by omega)
/-- Equal relations and equal places left: equally many. -/
theorem count_congr {g : Nat → Nat → Bool} {P : (Nat → Bool) → Prop} (hP : ∀ d a, P d → a < n → freeB f n d a = true → P (dugB d a)) (h : ∀ d a, P d → a < n → freeB f n d a = freeB g n d a) : ∀ (m : Nat) (d : Nat → Bool), P d → countP f n m d = countP g n m d
  | 0, _, _ => rfl
  | m + 1, d, hd => by
    rw [countP, countP]
    have e : (List.range n).filter (freeB f n d) = (List.range n).filter (freeB g n d) := List.filter_congr fun a ha => h d a hd (List.mem_range.1 ha)
    rw [← e]
    congr 1
    refine List.map_congr_left fun a ha => ?_
    obtain ⟨h1, h2⟩ := List.mem_filter.1 ha
    exact count_congr hP h m _ (hP d a hd (List.mem_range.1 h1) h2)
end
section
/-- The order with one place more told to lie above another. -/
def moreB (f : Nat → Nat → Bool) (a b : Nat) (i j : Nat) : Bool := f i j || ((decide (i = a) || f i a) && (decide (j = b) || f b j))
variable {f : Nat → Nat → Bool} {n a b : Nat}
/-- What has been dug has all above it dug. -/
def ClosedD (f : Nat → Nat → Bool) (n : Nat) (d : Nat → Bool) : Prop := ∀ i j, i < n → j < n → f i j = true → d j = true → d i = true
theorem closed_dug {d : Nat → Bool} {x : Nat} (h : ClosedD f n d) (hf : freeB f n d x = true) : ClosedD f n (dugB d x) := by
  intro i j hi hj hij hd
  obtain ⟨_, h2⟩ := freeB_iff.1 hf
  unfold dugB at hd ⊢
  rw [Bool.or_eq_true, decide_eq_true_eq] at hd
  rcases hd with hd | rfl
  · rw [h i j hi hj hij hd]; rfl
  · cases hdi : d i
    · rw [h2 i hi hdi] at hij; cases hij
    · rfl
theorem moreB_free (d : Nat → Bool) {x : Nat} : freeB (moreB f a b) n d x = (freeB f n d x && (!(decide (x = b) || f b x) || (List.range n).all fun k => d k || !(decide (k = a) || f k a))) := by
  rw [Bool.eq_iff_iff, freeB_iff, Bool.and_eq_true, freeB_iff]
  unfold moreB
  constructor
  · rintro ⟨h1, h2⟩
    refine ⟨⟨h1, fun k hk hd => ?_⟩, ?_⟩
    · have := h2 k hk hd
      rw [Bool.or_eq_false_iff] at this
      exact this.1
    · cases hx : (decide (x = b) || f b x)
      · rfl
      · rw [Bool.not_true, Bool.false_or, List.all_eq_true]
        intro k hk
        cases hd : d k
        · have := h2 k (List.mem_range.1 hk) hd
          rw [hx, Bool.and_true, Bool.or_eq_false_iff] at this
          rw [this.2]; rfl
        · rfl
  · rintro ⟨⟨h1, h2⟩, h3⟩
    refine ⟨h1, fun k hk hd => ?_⟩
    rw [h2 k hk hd, Bool.false_or]
    cases hx : (decide (x = b) || f b x)
    · simp
    · rw [hx, Bool.not_true, Bool.false_or, List.all_eq_true] at h3
      have := h3 k (List.mem_range.2 hk)
      rw [hd, Bool.false_or, Bool.not_eq_true'] at this
      rw [this]; rfl
/-- Once the upper one has been dug, it makes no difference any more. -/
theorem count_done (han : a < n) : ∀ (m : Nat) (d : Nat → Bool), ClosedD f n d → d a = true → countP (moreB f a b) n m d = countP f n m d := by
  intro m d hc hd
  refine count_congr (f := moreB f a b) (g := f) (P := fun d => ClosedD f n d ∧ d a = true) (fun d x ⟨h1, h2⟩ _ hf => ?_) (fun d x ⟨h1, h2⟩ _ => ?_) m d ⟨hc, hd⟩
  · rw [moreB_free, Bool.and_eq_true] at hf
    exact ⟨closed_dug h1 hf.1, dugB_of h2⟩
  · rw [moreB_free]
    have hall : ((List.range n).all fun k => d k || !(decide (k = a) || f k a)) = true := by
      rw [List.all_eq_true]
      intro k hk
      cases hdk : d k
      · have h3 : ¬ k = a := fun e => by rw [e, h2] at hdk; cases hdk
        have h4 : f k a = false := by
          cases hfk : f k a
          · rfl
          · rw [h1 k a (List.mem_range.1 hk) han hfk h2] at hdk; cases hdk
        simp [h3, h4]
      · rfl
    rw [hall, Bool.or_true, Bool.and_true]
theorem sum_add {α : Type} {g h : α → Nat} : ∀ (l : List α), (l.map fun x => g x + h x).sum = (l.map g).sum + (l.map h).sum
  | [] => rfl
  | x :: l => by
    simp only [List.map_cons, List.sum_cons, sum_add l]
    omega
theorem sum_filter {α : Type} {g : α → Nat} {p q : α → Bool} (h : ∀ x, p x = true → q x = true) : ∀ (l : List α), ((l.filter p).map g).sum = ((l.filter q).map fun x => if p x = true then g x else 0).sum
  | [] => rfl
  | x :: l => by
    have ih := sum_filter (g := g) h l
    cases hp : p x
    · cases hq : q x
      · simp [hp, hq, ih]
      · simp [hp, hq, ih]
    · simp [hp, h x hp, ih]
/-- Of two places that do not lie above each other one is dug first. -/
theorem count_pair (hi : ∀ i, f i i = false) (ht : ∀ i j k, f i j = true → f j k = true → f i k = true) (han : a < n) (hbn : b < n) (hab : a ≠ b) (h1 : f a b = false) (h2 : f b a = false) :
    ∀ (m : Nat) (d : Nat → Bool), leftN n d = m → ClosedD f n d → d a = false → d b = false → countP (moreB f a b) n m d + countP (moreB f b a) n m d = countP f n m d
  | 0, d, hl, _, hda, _ => by
    exfalso
    have := left_next han hda
    omega
  | m + 1, d, hl, hc, hda, hdb => by
    rw [countP, countP, countP]
    rw [sum_filter (g := fun x => countP (moreB f a b) n m (dugB d x)) (p := freeB (moreB f a b) n d) (q := freeB f n d) (fun x hx => by rw [moreB_free, Bool.and_eq_true] at hx; exact hx.1),
      sum_filter (g := fun x => countP (moreB f b a) n m (dugB d x)) (p := freeB (moreB f b a) n d) (q := freeB f n d) (fun x hx => by rw [moreB_free, Bool.and_eq_true] at hx; exact hx.1), ← sum_add]
    congr 1
    refine List.map_congr_left fun x hx => ?_
    obtain ⟨hxn, hxf⟩ := List.mem_filter.1 hx
    have hxn := List.mem_range.1 hxn
    obtain ⟨hdx, hxa⟩ := freeB_iff.1 hxf
    have hcd := closed_dug hc hxf
    have hln := left_next hxn hdx
    have hna : ((List.range n).all fun k => d k || !(decide (k = a) || f k a)) = false := by
      rw [List.all_eq_false]
      exact ⟨a, List.mem_range.2 han, by simp [hda]⟩
    have hnb : ((List.range n).all fun k => d k || !(decide (k = b) || f k b)) = false := by
      rw [List.all_eq_false]
      exact ⟨b, List.mem_range.2 hbn, by simp [hdb]⟩
    have hbx : f b x = false := hxa b hbn hdb
    have hax : f a x = false := hxa a han hda
    have e1 : freeB (moreB f a b) n d x = !decide (x = b) := by
      rw [moreB_free, hxf, hna, hbx]
      simp
    have e2 : freeB (moreB f b a) n d x = !decide (x = a) := by
      rw [moreB_free, hxf, hnb, hax]
      simp
    rw [e1, e2]
    by_cases hxa2 : x = a
    · subst hxa2
      have hne : decide (x = b) = false := decide_eq_false hab
      rw [hne]
      simp only [Bool.not_false, if_true, decide_true, Bool.not_true, if_neg (by simp : ¬ (false = true)), Nat.add_zero]
      exact count_done hxn m _ hcd (dugB_self x)
    · by_cases hxb2 : x = b
      · subst hxb2
        have hne : decide (x = a) = false := decide_eq_false hxa2
        rw [hne]
        simp only [Bool.not_false, if_true, decide_true, Bool.not_true, if_neg (by simp : ¬ (false = true)), Nat.zero_add]
        exact count_done hxn m _ hcd (dugB_self x)
      · simp only [decide_eq_false hxa2, decide_eq_false hxb2, Bool.not_false, if_true]
        exact count_pair hi ht han hbn hab h1 h2 m _ (by omega) hcd (dugB_no.2 ⟨hda, fun e => hxa2 e.symm⟩) (dugB_no.2 ⟨hdb, fun e => hxb2 e.symm⟩)
end
end Go.Proofs.Ytnkdpogplkomhaa

/- How many orders of digging there are, counted from the last place. Plain data. -/
namespace Go.Proofs.Ytnkdpogplkomhaa

def sumN (n : Nat) (g : Nat → Nat) : Nat := ((List.range n).map g).sum
theorem sumN_congr {n : Nat} {g h : Nat → Nat} (e : ∀ a, a < n → g a = h a) : sumN n g = sumN n h := by
  unfold sumN
  congr 1
  exact List.map_congr_left fun a ha => e a (List.mem_range.1 ha)
theorem sum_zero {α : Type} : ∀ (l : List α), (l.map fun _ => 0).sum = 0
  | [] => rfl
  | _ :: l => by simp [sum_zero l]
theorem sum_swap {α β : Type} (g : α → β → Nat) (r : List β) : ∀ (l : List α), (l.map fun a => (r.map (g a)).sum).sum = (r.map fun b => (l.map fun a => g a b).sum).sum
  | [] => by simp [sum_zero r]
  | a :: l => by
    simp only [List.map_cons, List.sum_cons]
    rw [sum_swap g r l, ← sum_add]
theorem sumN_swap (n : Nat) (g : Nat → Nat → Nat) : sumN n (fun a => sumN n (g a)) = sumN n fun b => sumN n fun a => g a b := sum_swap g _ _
theorem sumN_if (n : Nat) (c : Bool) (g : Nat → Nat) : (if c = true then sumN n g else 0) = sumN n fun a => if c = true then g a else 0 := by
  cases c
  · simp [sumN, sum_zero]
  · simp
theorem sum_if {α : Type} {g : α → Nat} {p : α → Bool} : ∀ (l : List α), ((l.filter p).map g).sum = (l.map fun x => if p x = true then g x else 0).sum
  | [] => rfl
  | x :: l => by
    cases h : p x <;> simp [h, sum_if l]
theorem sumN_filter (n : Nat) (g : Nat → Nat) (p : Nat → Bool) : (((List.range n).filter p).map g).sum = sumN n fun a => if p a = true then g a else 0 := sum_if _
theorem sumN_le {n : Nat} {g h : Nat → Nat} (e : ∀ a, a < n → g a ≤ h a) : sumN n g ≤ sumN n h := by
  have key : ∀ l : List Nat, (∀ a ∈ l, g a ≤ h a) → (l.map g).sum ≤ (l.map h).sum := by
    intro l
    induction l with
    | nil => intro _; simp
    | cons a l ih =>
      intro hl
      have h1 := hl a List.mem_cons_self
      have h2 := ih fun b hb => hl b (List.mem_cons_of_mem _ hb)
      simp only [List.map_cons, List.sum_cons]
      omega
  exact key _ fun a ha => e a (List.mem_range.1 ha)
theorem sumN_one {n k : Nat} (x : Nat) (hk : k < n) : sumN n (fun p => if p = k then x else 0) = x := by
  have key : ∀ l : List Nat, l.Nodup → (l.map fun p => if p = k then x else 0).sum = if k ∈ l then x else 0 := by
    intro l
    induction l with
    | nil => intro _; simp
    | cons a l ih =>
      intro hn
      rw [List.nodup_cons] at hn
      rw [List.map_cons, List.sum_cons, ih hn.2]
      by_cases e : a = k
      · subst e
        simp [hn.1]
      · have e2 : ¬ k = a := fun h => e h.symm
        simp [e, e2]
  unfold sumN
  rw [key _ List.nodup_range, if_pos (List.mem_range.2 hk)]
theorem sumN_add (n : Nat) (g h : Nat → Nat) : sumN n (fun a => g a + h a) = sumN n g + sumN n h := sum_add _

/-- A place that is left and lies above no other one that is left. -/
def lastF (f : Nat → Nat → Bool) (n : Nat) (d : Nat → Bool) (a : Nat) : Bool := !d a && (List.range n).all fun k => d k || (decide (k = a) || !f a k)
def cntE (f : Nat → Nat → Bool) (n : Nat) : Nat → (Nat → Bool) → Nat
  | 0, _ => 1
  | m + 1, d => sumN n fun a => if lastF f n d a = true then cntE f n m (dugB d a) else 0
section
variable {f : Nat → Nat → Bool} {n : Nat} {d : Nat → Bool}
theorem lastF_iff {a : Nat} : lastF f n d a = true ↔ d a = false ∧ ∀ k, k < n → d k = false → k ≠ a → f a k = false := by
  unfold lastF
  rw [Bool.and_eq_true, List.all_eq_true, Bool.not_eq_true']
  constructor
  · rintro ⟨h1, h2⟩
    refine ⟨h1, fun k hk hd hne => ?_⟩
    have := h2 k (List.mem_range.2 hk)
    rw [hd, decide_eq_false hne] at this
    simpa using this
  · rintro ⟨h1, h2⟩
    refine ⟨h1, fun k hk => ?_⟩
    cases hd : d k
    · by_cases e : k = a
      · simp [e]
      · simp [h2 k (List.mem_range.1 hk) hd e]
    · rfl
theorem dug_comm (d : Nat → Bool) (a b : Nat) : dugB (dugB d a) b = dugB (dugB d b) a := by
  funext k
  simp only [dugB, Bool.or_assoc]
  congr 1
  exact Bool.or_comm _ _
theorem left_one {a b : Nat} (h : leftN n d = 1) (ha : a < n) (hb : b < n) (hda : d a = false) (hdb : d b = false) : a = b := by
  refine Classical.byContradiction fun hne => ?_
  have h1 := left_next ha hda
  have h2 := left_next hb (d := dugB d a) (dugB_no.2 ⟨hdb, fun e => hne e.symm⟩)
  omega
theorem swap_dec {a b : Nat} (ha : a < n) (hb : b < n) : (lastF f n d b && freeB f n (dugB d b) a) = (freeB f n d a && lastF f n (dugB d a) b) := by
  rw [Bool.eq_iff_iff, Bool.and_eq_true, Bool.and_eq_true, lastF_iff, freeB_iff, freeB_iff, lastF_iff]
  constructor
  · rintro ⟨⟨h1, h2⟩, h3, h4⟩
    obtain ⟨h5, h6⟩ := dugB_no.1 h3
    refine ⟨⟨h5, fun k hk hd => ?_⟩, dugB_no.2 ⟨h1, fun e => h6 e.symm⟩, fun k hk hd hne => h2 k hk (dugB_no.1 hd).1 hne⟩
    by_cases e : k = b
    · subst e
      exact h2 a ha h5 h6
    · exact h4 k hk (dugB_no.2 ⟨hd, e⟩)
  · rintro ⟨⟨h1, h2⟩, h3, h4⟩
    obtain ⟨h5, h6⟩ := dugB_no.1 h3
    refine ⟨⟨h5, fun k hk hd hne => ?_⟩, dugB_no.2 ⟨h1, fun e => h6 e.symm⟩, fun k hk hd => h2 k hk (dugB_no.1 hd).1⟩
    by_cases e : k = a
    · subst e
      exact h2 b hb h5
    · exact h4 k hk (dugB_no.2 ⟨hd, e⟩) hne
/-- Counted from the last place, there are as many as counted from the first one. -/
theorem cntE_first (hi : ∀ i, f i i = false) : ∀ (m : Nat) (d : Nat → Bool), leftN n d = m + 1 → cntE f n (m + 1) d = sumN n fun a => if freeB f n d a = true then cntE f n m (dugB d a) else 0
  | 0, d, h => by
    rw [cntE]
    refine sumN_congr fun a ha => ?_
    have e : lastF f n d a = freeB f n d a := by
      rw [Bool.eq_iff_iff, lastF_iff, freeB_iff]
      constructor
      · rintro ⟨h1, _⟩
        refine ⟨h1, fun k hk hd => ?_⟩
        rw [left_one h hk ha hd h1]
        exact hi a
      · rintro ⟨h1, _⟩
        exact ⟨h1, fun k hk hd hne => absurd (left_one h hk ha hd h1) hne⟩
    rw [e]
  | m + 1, d, h => by
    rw [cntE]
    have e1 : ∀ b, b < n → (if lastF f n d b = true then cntE f n (m + 1) (dugB d b) else 0) = sumN n fun a => if (lastF f n d b && freeB f n (dugB d b) a) = true then cntE f n m (dugB (dugB d b) a) else 0 := by
      intro b hb
      cases hl : lastF f n d b
      · simp [sumN, sum_zero]
      · have := left_next hb (lastF_iff.1 hl).1
        rw [if_pos rfl, cntE_first hi m (dugB d b) (by omega)]
        rfl
    have e2 : ∀ a, a < n → (if freeB f n d a = true then cntE f n (m + 1) (dugB d a) else 0) = sumN n fun b => if (freeB f n d a && lastF f n (dugB d a) b) = true then cntE f n m (dugB (dugB d a) b) else 0 := by
      intro a _
      cases hl : freeB f n d a
      · simp [sumN, sum_zero]
      · rw [if_pos rfl, cntE]
        rfl
    rw [sumN_congr e1, sumN_congr e2, sumN_swap]
    refine sumN_congr fun a ha => sumN_congr fun b hb => ?_
    rw [swap_dec ha hb, dug_comm]
theorem cntE_count (hi : ∀ i, f i i = false) : ∀ (m : Nat) (d : Nat → Bool), leftN n d = m → cntE f n m d = countP f n m d
  | 0, _, _ => rfl
  | m + 1, d, h => by
    rw [cntE_first hi m d h, countP, sumN_filter]
    refine sumN_congr fun a ha => ?_
    cases hf : freeB f n d a
    · rfl
    · have := left_next ha (freeB_iff.1 hf).1
      rw [if_pos rfl, if_pos rfl, cntE_count hi m _ (by omega)]
theorem leftN_ext {e : Nat → Bool} (h : ∀ k, k < n → d k = e k) : leftN n d = leftN n e := by
  unfold leftN
  rw [List.filter_congr fun k hk => by rw [h k (List.mem_range.1 hk)]]
theorem cntE_ext : ∀ (m : Nat) {d e : Nat → Bool}, (∀ k, k < n → d k = e k) → cntE f n m d = cntE f n m e
  | 0, _, _, _ => rfl
  | m + 1, d, e, h => by
    rw [cntE, cntE]
    refine sumN_congr fun a ha => ?_
    have h1 : lastF f n d a = lastF f n e a := by
      unfold lastF
      rw [h a ha]
      congr 1
      rw [Bool.eq_iff_iff, List.all_eq_true, List.all_eq_true]
      constructor <;> intro hh k hk
      · rw [← h k (List.mem_range.1 hk)]; exact hh k hk
      · rw [h k (List.mem_range.1 hk)]; exact hh k hk
    rw [h1, cntE_ext m (d := dugB d a) (e := dugB e a) fun k hk => by simp [dugB, h k hk]]
end
/-- The places that a row of bits has not. -/
def offB (x : Nat) (k : Nat) : Bool := !x.testBit k
/-- The number of orders of the places of a row. -/
def cntX (f : Nat → Nat → Bool) (n x : Nat) : Nat := cntE f n (leftN n (offB x)) (offB x)
/-- The place p can be the last one of the row x. -/
def endB (f : Nat → Nat → Bool) (n x p : Nat) : Bool := x.testBit p && (List.range n).all fun k => !x.testBit k || (decide (k = p) || !f p k)
theorem endB_last (f : Nat → Nat → Bool) (n x p : Nat) : endB f n x p = lastF f n (offB x) p := by
  simp [endB, lastF, offB]
theorem xor_bit (x p k : Nat) : (x ^^^ 2 ^ p).testBit k = (x.testBit k ^^ decide (p = k)) := by
  rw [Nat.testBit_xor, Nat.testBit_two_pow]
theorem off_xor {x p : Nat} (h : x.testBit p = true) : offB (x ^^^ 2 ^ p) = dugB (offB x) p := by
  funext k
  simp only [offB, dugB, xor_bit]
  by_cases e : k = p
  · subst e
    simp [h]
  · have e2 : ¬ p = k := fun h => e h.symm
    simp [e, e2]
theorem lt_of_bit {x y p : Nat} (hy : y.testBit p = false) (hx : x.testBit p = true) (h : ∀ j, p < j → y.testBit j = x.testBit j) : y < x := by
  have e : y / 2 ^ p / 2 = x / 2 ^ p / 2 := by
    refine Nat.eq_of_testBit_eq fun j => ?_
    rw [Nat.testBit_div_two, Nat.testBit_div_two, Nat.testBit_div_two_pow, Nat.testBit_div_two_pow]
    exact h _ (by omega)
  rw [Nat.testBit_eq_decide_div_mod_eq, decide_eq_true_eq] at hx
  rw [Nat.testBit_eq_decide_div_mod_eq, decide_eq_false_iff_not] at hy
  have e2 : x / 2 ^ p = y / 2 ^ p + 1 := by omega
  have hp : 0 < 2 ^ p := Nat.two_pow_pos p
  have h1 := Nat.mul_div_le x (2 ^ p)
  have h2 := Nat.lt_mul_div_succ y hp
  rw [e2] at h1
  omega
theorem xor_less {x p : Nat} (h : x.testBit p = true) : x ^^^ 2 ^ p < x := by
  refine lt_of_bit (p := p) ?_ h fun j hj => ?_
  · simp [h]
  · have : ¬ p = j := by omega
    simp [this]
theorem bit_lt {n x p : Nat} (hx : x < 2 ^ n) (h : x.testBit p = true) : p < n := by
  refine Nat.not_le.1 fun hp => ?_
  rw [Nat.testBit_lt_two_pow (Nat.lt_of_lt_of_le hx (Nat.pow_le_pow_right (by omega) hp))] at h
  cases h
section
variable {f : Nat → Nat → Bool} {n : Nat}
theorem left_off_pos {x : Nat} (h0 : x ≠ 0) (hx : x < 2 ^ n) : ∃ m, leftN n (offB x) = m + 1 := by
  obtain ⟨p, hp⟩ := Nat.exists_testBit_of_ne_zero h0
  have := left_next (bit_lt hx hp) (d := offB x) (by simp [offB, hp])
  exact ⟨_, this.symm⟩
theorem cntX_zero : cntX f n 0 = 1 ∨ 0 < n := by
  cases n with
  | zero => left; rfl
  | succ n => right; omega
theorem left_zero : leftN n (offB 0) = 0 := by
  unfold leftN
  rw [List.filter_eq_nil_iff.2 fun k _ => by simp [offB]]
  rfl
theorem cntX_0 : cntX f n 0 = 1 := by
  unfold cntX
  rw [left_zero]
  rfl
theorem cntX_next {x : Nat} (h0 : x ≠ 0) (hx : x < 2 ^ n) : cntX f n x = sumN n fun p => if endB f n x p = true then cntX f n (x ^^^ 2 ^ p) else 0 := by
  obtain ⟨m, hm⟩ := left_off_pos h0 hx
  unfold cntX
  rw [hm, cntE]
  refine sumN_congr fun p hp => ?_
  rw [← endB_last]
  cases he : endB f n x p
  · rfl
  · have hb : x.testBit p = true := (Bool.and_eq_true_iff.1 he).1
    have := left_next hp (d := offB x) (by simp [offB, hb])
    rw [if_pos rfl, if_pos rfl, off_xor hb, show leftN n (dugB (offB x) p) = m by omega]
theorem cntX_le (hi : ∀ i, f i i = false) (x : Nat) : cntX f n x ≤ factN n := by
  unfold cntX
  rw [cntE_count hi _ _ rfl]
  refine Nat.le_trans (count_le _ _ rfl) ?_
  have h1 : leftN n (offB x) ≤ n := by
    unfold leftN
    have := List.length_filter_le (fun k => !offB x k) (List.range n)
    simpa using this
  have key : ∀ {a b : Nat}, a ≤ b → factN a ≤ factN b := by
    intro a b h
    induction h with
    | refl => exact Nat.le_refl _
    | step _ ih =>
      refine Nat.le_trans ih ?_
      rw [factN]
      exact Nat.le_mul_of_pos_left _ (by omega)
  exact key h1
theorem cntX_full (hi : ∀ i, f i i = false) : cntX f n (2 ^ n - 1) = countP f n n fun _ => false := by
  have h : ∀ k, k < n → offB (2 ^ n - 1) k = false := by
    intro k hk
    simp [offB, Nat.testBit_two_pow_sub_one, hk]
  unfold cntX
  rw [leftN_ext (e := fun _ => false) h, left_none, cntE_ext n (e := fun _ => false) h, cntE_count hi _ _ left_none]
/-- What has been added up for the row x, when the rows below t and the first k places of t are done. -/
def partX (f : Nat → Nat → Bool) (n t k x : Nat) : Nat := if x = 0 then 1 else sumN n fun p => if (endB f n x p && (decide (x ^^^ 2 ^ p < t) || (decide (x ^^^ 2 ^ p = t) && decide (p < k)))) = true then cntX f n (x ^^^ 2 ^ p) else 0
theorem partX_le (hi : ∀ i, f i i = false) {t k x : Nat} (hx : x < 2 ^ n) : partX f n t k x ≤ factN n := by
  unfold partX
  by_cases h0 : x = 0
  · rw [if_pos h0]
    exact factN_pos n
  · rw [if_neg h0]
    refine Nat.le_trans (sumN_le (h := fun p => if endB f n x p = true then cntX f n (x ^^^ 2 ^ p) else 0) fun p _ => ?_) (by rw [← cntX_next h0 hx]; exact cntX_le hi x)
    cases he : endB f n x p
    · simp
    · simp only [Bool.true_and, if_true]
      split
      · exact Nat.le_refl _
      · omega
theorem partX_done {t k x : Nat} (hx : x < 2 ^ n) (ht : x ≤ t) : partX f n t k x = cntX f n x := by
  unfold partX
  by_cases h0 : x = 0
  · rw [if_pos h0, h0, cntX_0]
  · rw [if_neg h0, cntX_next h0 hx]
    refine sumN_congr fun p _ => ?_
    cases he : endB f n x p
    · rfl
    · have := xor_less (Bool.and_eq_true_iff.1 he).1
      rw [decide_eq_true (show x ^^^ 2 ^ p < t by omega)]
      rfl
theorem partX_first (x : Nat) : partX f n 0 0 x = if x = 0 then 1 else 0 := by
  unfold partX
  by_cases h0 : x = 0
  · rw [if_pos h0, if_pos h0]
  · rw [if_neg h0, if_neg h0]
    simp [sumN, sum_zero]
theorem partX_turn (t x : Nat) : partX f n t n x = partX f n (t + 1) 0 x := by
  unfold partX
  by_cases h0 : x = 0
  · rw [if_pos h0, if_pos h0]
  · rw [if_neg h0, if_neg h0]
    refine sumN_congr fun p hp => ?_
    have e : (decide (x ^^^ 2 ^ p < t) || (decide (x ^^^ 2 ^ p = t) && decide (p < n))) = (decide (x ^^^ 2 ^ p < t + 1) || (decide (x ^^^ 2 ^ p = t + 1) && decide (p < 0))) := by
      rw [decide_eq_true hp, decide_eq_false (show ¬ p < 0 by omega), Bool.and_false, Bool.or_false, Bool.and_true, Bool.eq_iff_iff, Bool.or_eq_true]
      simp only [decide_eq_true_eq]
      omega
    rw [e]
/-- One place more of the row t is done: only the row with this place is touched. -/
theorem partX_step {t k x : Nat} (hk : k < n) (ht : t < 2 ^ n) : partX f n t (k + 1) x = partX f n t k x + if (decide (x = t ||| 2 ^ k) && (!t.testBit k && endB f n (t ||| 2 ^ k) k)) = true then cntX f n t else 0 := by
  have hor : ∀ j, (t ||| 2 ^ k).testBit j = (t.testBit j || decide (k = j)) := fun j => by rw [Nat.testBit_or, Nat.testBit_two_pow]
  have hne : t ||| 2 ^ k ≠ 0 := fun e => by
    have := hor k
    rw [e, Nat.zero_testBit] at this
    simp at this
  have hback : t.testBit k = false → (t ||| 2 ^ k) ^^^ 2 ^ k = t := fun h => by
    refine Nat.eq_of_testBit_eq fun j => ?_
    rw [xor_bit, hor]
    by_cases e : k = j
    · subst e
      simp [h]
    · simp [e]
  have hfrom : x.testBit k = true → x ^^^ 2 ^ k = t → x = t ||| 2 ^ k ∧ t.testBit k = false := fun h1 h2 => by
    subst h2
    refine ⟨Nat.eq_of_testBit_eq fun j => ?_, by simp [h1]⟩
    rw [hor, xor_bit]
    by_cases e : k = j
    · subst e
      simp [h1]
    · simp [e]
  unfold partX
  by_cases h0 : x = 0
  · rw [if_pos h0, if_pos h0, decide_eq_false (show ¬ x = t ||| 2 ^ k from fun e => hne (e ▸ h0))]
    simp
  · rw [if_neg h0, if_neg h0]
    rw [← sumN_one (n := n) (k := k) (if (decide (x = t ||| 2 ^ k) && (!t.testBit k && endB f n (t ||| 2 ^ k) k)) = true then cntX f n t else 0) hk, ← sumN_add]
    refine sumN_congr fun p hp => ?_
    by_cases e : p = k
    · subst e
      rw [if_pos rfl]
      cases he : endB f n x p
      · have : (decide (x = t ||| 2 ^ p) && (!t.testBit p && endB f n (t ||| 2 ^ p) p)) = false := by
          by_cases hx : x = t ||| 2 ^ p
          · rw [← hx, he]; simp
          · simp [hx]
        rw [this]
        simp
      · have hxb : x.testBit p = true := (Bool.and_eq_true_iff.1 he).1
        by_cases hx : x ^^^ 2 ^ p = t
        · obtain ⟨h1, h2⟩ := hfrom hxb hx
          rw [← h1, he, h2, hx]
          simp
        · have h3 : ¬ (x = t ||| 2 ^ p ∧ t.testBit p = false) := fun ⟨h1, h2⟩ => hx (by rw [h1]; exact hback h2)
          have : (decide (x = t ||| 2 ^ p) && (!t.testBit p && endB f n (t ||| 2 ^ p) p)) = false := by
            by_cases hx1 : x = t ||| 2 ^ p
            · cases ht2 : t.testBit p
              · exact absurd ⟨hx1, ht2⟩ h3
              · simp
            · simp [hx1]
          rw [this]
          simp [hx]
    · rw [if_neg e, Nat.add_zero]
      have : decide (p < k + 1) = decide (p < k) := by rw [decide_eq_decide]; omega
      rw [this]
      rfl
end
end Go.Proofs.Ytnkdpogplkomhaa

/- What lies above or below a set of contexts. Plain data. -/
namespace Go.Proofs.Ytnkdpogplkomhaa
open Go.RowKit

def linkB (ids : List Int) (l : List Ctx) (set : List Int) (down : Bool) (x : Int) : Bool := ids.any fun k => decide (k ∈ set) && ((upG ids l x k && !down) || (upG ids l k x && down))
def linkG (ids : List Int) (l : List Ctx) (set : List Int) (down : Bool) : List Int := ids.filter (linkB ids l set down)
def setG (ids : List Int) (l : List Ctx) (set : List Int) (down : Bool) : List Int := if okG ids l && validI set then linkG ids l set down else []
section
variable {ids set : List Int} {l : List Ctx} {x : Int}
theorem setG_mem {down : Bool} : x ∈ setG ids l set down ↔ okG ids l = true ∧ validI set = true ∧ x ∈ ids ∧ ∃ k ∈ ids, k ∈ set ∧ (if down = true then upG ids l k x else upG ids l x k) = true := by
  unfold setG
  cases okG ids l <;> cases validI set <;> simp [linkG, linkB]
  intro _
  cases down <;> simp
theorem setG_len (down : Bool) : (setG ids l set down).length ≤ ids.length := by
  unfold setG
  split
  · exact List.length_filter_le _ _
  · simp
theorem setG_valid {down : Bool} (h : okG ids l = true) : validI (setG ids l set down) = true := by
  unfold setG
  split
  · exact validO_sub lessI_tr (okG_parts h).1 List.filter_sublist
  · rfl
/-- Each context is there exactly if it lies above some context of the set. -/
theorem above_any (h : okG ids l = true) (hs : validI set = true) (hx : x ∈ ids) : decide (x ∈ setG ids l set false) = set.any fun k => aboveG ids l x k := by
  rw [Bool.eq_iff_iff, decide_eq_true_eq, setG_mem, List.any_eq_true]
  constructor
  · rintro ⟨_, _, _, k, hk, hks, hu⟩
    exact ⟨k, hks, by simpa [aboveG, h, hx, hk] using hu⟩
  · rintro ⟨k, hks, hu⟩
    simp only [aboveG, Bool.and_eq_true, decide_eq_true_eq] at hu
    exact ⟨h, hs, hx, k, hu.2.2.1, hks, by simpa using hu.2.2.2⟩
theorem above_closed {y : Int} (hy : y ∈ setG ids l (setG ids l set false) false) : y ∈ setG ids l set false := by
  obtain ⟨h1, _, h3, k, hk, hks, hu⟩ := setG_mem.1 hy
  obtain ⟨_, i2, _, j, hj, hjs, hv⟩ := setG_mem.1 hks
  exact setG_mem.2 ⟨h1, i2, h3, j, hj, hjs, by simpa using upG_trans h1 (by simpa using hu) (by simpa using hv)⟩
/-- Below is the other direction of above. -/
theorem below_one {s : Int} (hx : x ∈ ids) : decide (x ∈ setG ids l [s] true) = decide (s ∈ setG ids l [x] false) := by
  rw [decide_eq_decide, setG_mem, setG_mem]
  constructor
  · rintro ⟨h1, _, _, k, hk, hks, hu⟩
    have e : k = s := by simpa using hks
    subst e
    refine ⟨h1, ?_, hk, x, hx, by simp, by simpa using hu⟩
    exact validO_sub lessI_tr (okG_parts h1).1 (List.singleton_sublist.2 hx)
  · rintro ⟨h1, _, h3, k, hk, hks, hu⟩
    have e : k = x := by simpa using hks
    subst e
    refine ⟨h1, ?_, hx, s, h3, by simp, by simpa using hu⟩
    exact validO_sub lessI_tr (okG_parts h1).1 (List.singleton_sublist.2 h3)
/-- A smaller set has no more below it. -/
theorem below_more {part : List Int} (hp : part.Sublist set) (hs : validI set = true) {y : Int} (hy : y ∈ setG ids l part true) : y ∈ setG ids l set true := by
  obtain ⟨h1, _, h3, k, hk, hks, hu⟩ := setG_mem.1 hy
  exact setG_mem.2 ⟨h1, hs, h3, k, hk, hp.subset hks, hu⟩
end
end Go.Proofs.Ytnkdpogplkomhaa

/- Trees of parents as plain data: the root of a node, a node hung at its root, two roots joined. -/
namespace Go.Proofs.Ytnkdpogplkomhaa
open Go.RowKit

/-- The root of node i, where each parent has a lesser number. -/
def rootF (par : Nat → Option Nat) (i : Nat) : Nat :=
  match par i with
  | none => i
  | some j => if _h : j < i then rootF par j else i
termination_by i
def OkP (par : Nat → Option Nat) : Prop := ∀ i j, par i = some j → j < i
def updP (par : Nat → Option Nat) (i r : Nat) : Nat → Option Nat := fun k => if k = i then some r else par k
theorem rootF_none {par : Nat → Option Nat} {i : Nat} (h : par i = none) : rootF par i = i := by
  rw [rootF, h]
theorem rootF_some {par : Nat → Option Nat} {i j : Nat} (hP : OkP par) (h : par i = some j) : rootF par i = rootF par j := by
  rw [rootF, h]
  simp [hP i j h]
theorem rootF_le {par : Nat → Option Nat} (hP : OkP par) (i : Nat) : rootF par i ≤ i := by
  induction i using Nat.strongRecOn with
  | ind i ih =>
    cases h : par i with
    | none => rw [rootF_none h]; exact Nat.le_refl _
    | some j =>
      have h1 := hP i j h
      have h2 := ih j h1
      rw [rootF_some hP h]; omega
theorem rootF_root {par : Nat → Option Nat} (hP : OkP par) (i : Nat) : par (rootF par i) = none := by
  induction i using Nat.strongRecOn with
  | ind i ih =>
    cases h : par i with
    | none => rw [rootF_none h]; exact h
    | some j => rw [rootF_some hP h]; exact ih j (hP i j h)
theorem okP_upd {par : Nat → Option Nat} (hP : OkP par) {i r : Nat} (h : r < i) : OkP (updP par i r) := by
  intro k j hk
  unfold updP at hk
  split at hk
  · injection hk with hk; omega
  · exact hP k j hk
/-- A node is hung directly below its root: all roots are as they were. -/
theorem rootF_hang {par : Nat → Option Nat} (hP : OkP par) {i r : Nat} (hr : rootF par i = r) (hlt : r < i) (k : Nat) : rootF (updP par i r) k = rootF par k := by
  have hP2 := okP_upd hP hlt
  have hrr : updP par i r r = none := by
    unfold updP
    rw [if_neg (by omega), ← hr]
    exact rootF_root hP i
  induction k using Nat.strongRecOn with
  | ind k ih =>
    by_cases hk : k = i
    · subst hk
      rw [rootF_some hP2 (show updP par k r k = some r by simp [updP]), rootF_none hrr, hr]
    · have he : updP par i r k = par k := by simp [updP, hk]
      cases h : par k with
      | none => rw [rootF_none (he.trans h), rootF_none h]
      | some j => rw [rootF_some hP2 (he.trans h), rootF_some hP h, ih j (hP k j h)]
/-- One root is hung below another one. -/
theorem rootF_join {par : Nat → Option Nat} (hP : OkP par) {a b : Nat} (ha : par a = none) (hb : par b = none) (hlt : a < b) (k : Nat) : rootF (updP par b a) k = if rootF par k = b then a else rootF par k := by
  have hP2 := okP_upd hP hlt
  have haa : updP par b a a = none := by
    unfold updP
    rw [if_neg (by omega)]
    exact ha
  induction k using Nat.strongRecOn with
  | ind k ih =>
    by_cases hk : k = b
    · subst hk
      rw [rootF_some hP2 (show updP par k a k = some a by simp [updP]), rootF_none haa, rootF_none hb, if_pos rfl]
    · have he : updP par b a k = par k := by simp [updP, hk]
      cases h : par k with
      | none => rw [rootF_none (he.trans h), rootF_none h, if_neg hk]
      | some j => rw [rootF_some hP2 (he.trans h), rootF_some hP h, ih j (hP k j h)]

/-- The labels of the contexts are the contexts of the roots. -/
def LabP (ids : List Int) (par : Nat → Option Nat) (g : List Int) : Prop := g.length = ids.length ∧ ∀ k, k < ids.length → g[k]? = ids[rootF par k]?
theorem labP_start {ids : List Int} {par : Nat → Option Nat} (h : ∀ k, k < ids.length → par k = none) : LabP ids par ids :=
  ⟨rfl, fun k hk => by rw [rootF_none (h k hk)]⟩
/-- The roots behind joining the trees of i and j. -/
def JoinP (par par2 : Nat → Option Nat) (i j n : Nat) : Prop := ∀ k, k < n → rootF par2 k = if rootF par k = max (rootF par i) (rootF par j) then min (rootF par i) (rootF par j) else rootF par k
theorem labP_join {ids g : List Int} {par par2 : Nat → Option Nat} {r : Ctx} (hv : validI ids = true) (hP : OkP par) (h : LabP ids par g) (h1 : r.id ∈ ids) (h2 : r.kind ∈ ids) (h3 : r.area = 2)
    (hj : JoinP par par2 (placeI ids r.id) (placeI ids r.kind) ids.length) : LabP ids par2 (stepG ids g r) := by
  refine ⟨by rw [stepG_len]; exact h.1, fun k hk => ?_⟩
  rw [stepG, if_pos h3, joinG_at]
  have hA := labG_of h.1 h1
  have hB := labG_of h.1 h2
  have hp := (placeI_at h1).2.1
  have hq := (placeI_at h2).2.1
  rw [h.2 _ hp] at hA
  rw [h.2 _ hq] at hB
  rw [hj k hk, h.2 k hk]
  have hk2 := Nat.lt_of_le_of_lt (rootF_le hP k) hk
  revert hA hB
  generalize labG ids g r.id = a
  generalize labG ids g r.kind = b
  generalize rootF par (placeI ids r.id) = ra
  generalize rootF par (placeI ids r.kind) = rb
  revert hk2
  generalize rootF par k = rk
  intro hk2 hA hB
  have hK := List.getElem?_eq_getElem hk2
  revert hK
  generalize ids[rk] = c
  intro hK
  rw [hK, Option.map_some]
  rcases Nat.lt_trichotomy ra rb with hab | hab | hab
  · have hlt := asc_lt hv hA hB hab
    rw [Nat.max_eq_right (by omega), Nat.min_eq_left (by omega), Int.min_eq_left (by omega)]
    by_cases hc : rk = rb
    · subst hc
      rw [if_pos rfl]
      rw [hB] at hK; injection hK with hK; subst hK
      rw [if_pos (.inr rfl), hA]
    · rw [if_neg hc, hK]
      by_cases hc2 : rk = ra
      · subst hc2
        rw [hA] at hK; injection hK with hK; subst hK
        simp
      · have n1 : c ≠ a := fun e => hc2 (asc_eq hv (e ▸ hK) hA)
        have n2 : c ≠ b := fun e => hc (asc_eq hv (e ▸ hK) hB)
        simp [n1, n2]
  · subst hab
    rw [hA] at hB; injection hB with hB; subst hB
    rw [Nat.max_self, Nat.min_self, Int.min_self]
    by_cases hc : rk = ra
    · subst hc
      rw [hA] at hK; injection hK with hK; subst hK
      simp [hA]
    · have n1 : c ≠ a := fun e => hc (asc_eq hv (e ▸ hK) hA)
      simp [hc, n1, hK]
  · have hlt := asc_lt hv hB hA hab
    rw [Nat.max_eq_left (by omega), Nat.min_eq_right (by omega), Int.min_eq_right (by omega)]
    by_cases hc : rk = ra
    · subst hc
      rw [if_pos rfl]
      rw [hA] at hK; injection hK with hK; subst hK
      rw [if_pos (.inl rfl), hB]
    · rw [if_neg hc, hK]
      by_cases hc2 : rk = rb
      · subst hc2
        rw [hB] at hK; injection hK with hK; subst hK
        simp
      · have n1 : c ≠ b := fun e => hc2 (asc_eq hv (e ▸ hK) hB)
        have n2 : c ≠ a := fun e => hc (asc_eq hv (e ▸ hK) hA)
        simp [n1, n2]
theorem labP_skip {ids g : List Int} {par : Nat → Option Nat} {r : Ctx} (h : LabP ids par g) (h3 : ¬ r.area = 2) : LabP ids par (stepG ids g r) := by
  rw [stepG, if_neg h3]; exact h
theorem labP_roots {ids g : List Int} {par par2 : Nat → Option Nat} (h : LabP ids par g) (hr : ∀ k, rootF par2 k = rootF par k) : LabP ids par2 g :=
  ⟨h.1, fun k hk => by rw [hr k]; exact h.2 k hk⟩
end Go.Proofs.Ytnkdpogplkomhaa

/- Heaps of places as lists: a place that moves up, one that moves down, the least one on top. Plain data. -/
namespace Go.Proofs.Ytnkdpogplkomhaa

def parQ (k : Nat) : Nat := (k - 1) / 2
def swF (f : Nat → Nat) (i j k : Nat) : Nat := if k = i then f j else if k = j then f i else f k
def HeapF (f : Nat → Nat) (n : Nat) : Prop := ∀ k, 0 < k → k < n → f (parQ k) ≤ f k
/-- In order but for the place j, which may be too low. -/
def UpF (f : Nat → Nat) (n j : Nat) : Prop := (∀ k, 0 < k → k < n → k ≠ j → f (parQ k) ≤ f k) ∧ ∀ k, 0 < k → k < n → parQ k = j → 0 < j → f (parQ j) ≤ f k
/-- In order but for the place i, which may be too high. -/
def DownF (f : Nat → Nat) (n i : Nat) : Prop := (∀ k, 0 < k → k < n → parQ k ≠ i → f (parQ k) ≤ f k) ∧ ∀ k, 0 < k → k < n → parQ k = i → 0 < i → f (parQ i) ≤ f k
section
variable {f : Nat → Nat} {n i j : Nat}
theorem heap_up (h : HeapF f n) (x : Nat) : UpF (fun k => if k = n then x else f k) (n + 1) n := by
  refine ⟨fun k h0 hk hne => ?_, fun k h0 hk hp h1 => ?_⟩
  · dsimp only
    rw [if_neg hne, if_neg (by unfold parQ; omega)]
    exact h k h0 (by omega)
  · unfold parQ at hp
    omega
theorem up_stop (h : UpF f n j) (hs : j = 0 ∨ f (parQ j) ≤ f j) : HeapF f n := by
  intro k h0 hk
  by_cases e : k = j
  · subst e
    rcases hs with hs | hs
    · omega
    · exact hs
  · exact h.1 k h0 hk e
theorem up_step (h : UpF f n j) (h0 : 0 < j) (hjn : j < n) (hlt : f j < f (parQ j)) : UpF (swF f (parQ j) j) n (parQ j) := by
  obtain ⟨h1, h2⟩ := h
  have hpj : parQ j < j := by unfold parQ; omega
  refine ⟨fun k hk0 hkn hne => ?_, fun k hk0 hkn hp hi0 => ?_⟩
  · have hpk : parQ k < k := by unfold parQ; omega
    unfold swF
    rw [if_neg hne]
    by_cases e1 : k = j
    · subst e1
      rw [if_pos rfl, if_pos rfl]
      omega
    · rw [if_neg e1]
      have hk1 := h1 k hk0 hkn e1
      by_cases e2 : parQ k = parQ j
      · rw [if_pos e2]
        rw [e2] at hk1
        omega
      · rw [if_neg e2]
        by_cases e3 : parQ k = j
        · rw [if_pos e3]
          exact h2 k hk0 hkn e3 h0
        · rw [if_neg e3]
          exact hk1
  · have hpp : parQ (parQ j) < parQ j := by unfold parQ at *; omega
    have hpk : parQ k < k := by unfold parQ; omega
    have hpi := h1 (parQ j) hi0 (by omega) (by omega)
    unfold swF
    rw [if_neg (show parQ (parQ j) ≠ parQ j by omega), if_neg (show parQ (parQ j) ≠ j by omega), if_neg (show k ≠ parQ j by omega)]
    by_cases e1 : k = j
    · rw [if_pos e1]
      exact hpi
    · rw [if_neg e1]
      have := h1 k hk0 hkn e1
      rw [hp] at this
      omega
theorem heap_down (h : HeapF f n) (x : Nat) : DownF (fun k => if k = 0 then x else f k) n 0 := by
  refine ⟨fun k h0 hk hne => ?_, fun k h0 hk hp h1 => absurd h1 (by omega)⟩
  dsimp only
  rw [if_neg hne, if_neg (by omega)]
  exact h k h0 hk
theorem down_stop (h : DownF f n i) (hs : ∀ k, 0 < k → k < n → parQ k = i → f i ≤ f k) : HeapF f n := by
  intro k h0 hk
  by_cases e : parQ k = i
  · rw [e]
    exact hs k h0 hk e
  · exact h.1 k h0 hk e
theorem down_step (h : DownF f n i) (h0 : 0 < j) (hjn : j < n) (hp : parQ j = i) (hlt : f j < f i) (hmin : ∀ k, 0 < k → k < n → parQ k = i → f j ≤ f k) : DownF (swF f i j) n j := by
  obtain ⟨h1, h2⟩ := h
  have hij : i < j := by rw [← hp]; unfold parQ; omega
  refine ⟨fun k hk0 hkn hne => ?_, fun k hk0 hkn hpk hj0 => ?_⟩
  · have hpk : parQ k < k := by unfold parQ; omega
    unfold swF
    by_cases e1 : k = j
    · subst e1
      rw [hp, if_pos rfl, if_neg (by omega), if_pos rfl]
      omega
    · by_cases e2 : k = i
      · rw [if_neg (show parQ k ≠ i by omega), if_neg hne, if_pos e2]
        have := h2 j h0 hjn hp (by omega)
        rw [← e2] at this
        rw [e2] at this ⊢
        exact this
      · rw [if_neg e2, if_neg e1, if_neg hne]
        by_cases e3 : parQ k = i
        · rw [if_pos e3]
          exact hmin k hk0 hkn e3
        · rw [if_neg e3]
          exact h1 k hk0 hkn e3
  · unfold swF
    have hkj : j < k := by rw [← hpk]; unfold parQ; omega
    rw [hp, if_pos rfl, if_neg (by omega), if_neg (by omega)]
    have := h1 k hk0 hkn (by omega)
    rw [hpk] at this
    exact this
theorem heap_least (h : HeapF f n) : ∀ k, k < n → f 0 ≤ f k := by
  intro k
  induction k using Nat.strongRecOn with
  | ind k ih =>
    intro hk
    by_cases e : k = 0
    · subst e; exact Nat.le_refl _
    · have h1 := h k (by omega) hk
      have h2 := ih (parQ k) (by unfold parQ; omega) (by unfold parQ; omega)
      omega
theorem heap_less {m : Nat} (h : HeapF f n) (hm : m ≤ n) : HeapF f m := fun k h0 hk => h k h0 (by omega)
theorem heap_ext {g : Nat → Nat} (h : HeapF f n) (he : ∀ k, k < n → f k = g k) : HeapF g n := fun k h0 hk => by
  rw [← he k hk, ← he (parQ k) (by unfold parQ; omega)]
  exact h k h0 hk
theorem up_ext {g : Nat → Nat} (h : UpF f n j) (hj : j < n) (he : ∀ k, k < n → f k = g k) : UpF g n j :=
  ⟨fun k h0 hk hne => by rw [← he k hk, ← he (parQ k) (by unfold parQ; omega)]; exact h.1 k h0 hk hne,
    fun k h0 hk hp h1 => by rw [← he k hk, ← he (parQ j) (by unfold parQ; omega)]; exact h.2 k h0 hk hp h1⟩
theorem down_ext {g : Nat → Nat} (h : DownF f n i) (hi : i < n) (he : ∀ k, k < n → f k = g k) : DownF g n i :=
  ⟨fun k h0 hk hne => by rw [← he k hk, ← he (parQ k) (by unfold parQ; omega)]; exact h.1 k h0 hk hne,
    fun k h0 hk hp h1 => by rw [← he k hk, ← he (parQ i) (by unfold parQ; omega)]; exact h.2 k h0 hk hp h1⟩
end
/-- Two elements of a list are exchanged. -/
def swL (L : List Nat) (i j : Nat) : List Nat := (L.set i (L.getD j 0)).set j (L.getD i 0)
def atL (L : List Nat) (k : Nat) : Nat := L.getD k 0
theorem atL_get {L : List Nat} {k x : Nat} (h : L[k]? = some x) : atL L k = x := by simp [atL, h]
theorem atL_some {L : List Nat} {k : Nat} (h : k < L.length) : L[k]? = some (atL L k) := by simp [atL, h]
theorem swL_len (L : List Nat) (i j : Nat) : (swL L i j).length = L.length := by simp [swL]
theorem swL_at {L : List Nat} {i j k : Nat} (hi : i < L.length) (hj : j < L.length) (hne : i ≠ j) : atL (swL L i j) k = swF (atL L) i j k := by
  unfold atL swL swF
  simp only [List.getD_eq_getElem?_getD, List.getElem?_set, List.length_set]
  by_cases e1 : j = k
  · subst e1
    rw [if_pos rfl, if_pos hj, if_neg (by omega), if_pos rfl]
    rfl
  · rw [if_neg e1]
    by_cases e2 : i = k
    · subst e2
      rw [if_pos rfl, if_pos hi, if_pos rfl]
      rfl
    · rw [if_neg e2, if_neg (fun e => e2 e.symm), if_neg (fun e => e1 e.symm)]
theorem swL_perm {L : List Nat} {i j : Nat} (hi : i < L.length) (hj : j < L.length) : (swL L i j).Perm L := by
  have h := List.set_set_perm hi hj
  have e1 : L.getD j 0 = L[j] := by simp [List.getD_eq_getElem?_getD, hj]
  have e2 : L.getD i 0 = L[i] := by simp [List.getD_eq_getElem?_getD, hi]
  unfold swL
  rw [e1, e2]
  exact h
end Go.Proofs.Ytnkdpogplkomhaa
