/- Numbers of contexts, and groups of equal contexts, as plain data. -/
import Derived.Test.YtapmeooffmonmaaRel
namespace Go.Proofs.Ytapmeooffmonmaa
open Go.RowKit

def okI (n : Int) : Bool := inR n 1 99
def lessI (a b : Int) : Bool := decide (a < b)
theorem lessI_tr (a b c : Int) (h1 : lessI a b = true) (h2 : lessI b c = true) : lessI a c = true := by
  simp only [lessI, decide_eq_true_eq] at *
  omega
theorem lessI_ir (a : Int) : lessI a a = false := by simp [lessI]
def validI (l : List Int) : Bool := validO okI lessI 12 l
def findI (l : List Int) (n : Int) : Int := findP (fun x => decide (x = n)) l
theorem findI_at (l : List Int) (n : Int) (k : Nat) (h : ∀ (j : Nat) (c : Int), j < k → l[j]? = some c → c ≠ n) (hc : l[k]? = some n) : findI l n = k :=
  findP_at _ l k n (fun j c hj hc => by simpa using h j c hj hc) hc (by simp)
theorem findI_none (l : List Int) (n : Int) (h : ∀ (j : Nat) (c : Int), l[j]? = some c → c ≠ n) : findI l n = -1 :=
  findP_none _ l fun j c hc => by simpa using h j c hc
theorem findI_spec (l : List Int) (n : Int) : (findI l n = -1 ∧ n ∉ l) ∨ ∃ k : Nat, findI l n = k ∧ k < l.length ∧ l[k]? = some n ∧ n ∈ l := by
  rcases findP_spec (fun x => decide (x = n)) l with ⟨h1, h2⟩ | ⟨k, c, h1, h2, h3, _⟩
  · refine .inl ⟨h1, fun hm => ?_⟩
    obtain ⟨j, hj⟩ := List.mem_iff_getElem?.1 hm
    simpa using h2 j n hj
  · have : c = n := by simpa using h3
    subst this
    exact .inr ⟨k, h1, (List.getElem?_eq_some_iff.1 h2).1, h2, List.mem_of_getElem? h2⟩
theorem findI_mem (l : List Int) (n : Int) : decide (0 ≤ findI l n) = decide (n ∈ l) := by
  rcases findI_spec l n with ⟨h1, h2⟩ | ⟨k, h1, _, _, h2⟩
  · simp [h1, h2]
  · simp [h1, h2]
theorem asc_lt {l : List Int} (hv : validI l = true) {i j : Nat} {x y : Int} (hi : l[i]? = some x) (hj : l[j]? = some y) (h : i < j) : x < y := by
  obtain ⟨n, rfl⟩ : ∃ n, j = i + n + 1 := ⟨j - i - 1, by omega⟩
  have := ascO lessI_tr hv n i x y hi hj
  simpa [lessI] using this
theorem asc_le {l : List Int} (hv : validI l = true) {i j : Nat} {x y : Int} (hi : l[i]? = some x) (hj : l[j]? = some y) (h : x ≤ y) : i ≤ j := by
  rcases Nat.lt_or_ge j i with h2 | h2
  · have := asc_lt hv hj hi h2; omega
  · exact h2
theorem asc_eq {l : List Int} (hv : validI l = true) {i j : Nat} {x : Int} (hi : l[i]? = some x) (hj : l[j]? = some x) : i = j :=
  Nat.le_antisymm (asc_le hv hi hj (Int.le_refl _)) (asc_le hv hj hi (Int.le_refl _))
theorem findI_own {l : List Int} (hv : validI l = true) {k : Nat} {x : Int} (h : l[k]? = some x) : findI l x = k :=
  findI_at l x k (fun j c hj hc e => by subst e; have := asc_eq hv hc h; omega) h

def placeI (l : List Int) (n : Int) : Nat := (findI l n).toNat
theorem placeI_own {l : List Int} (hv : validI l = true) {k : Nat} {x : Int} (h : l[k]? = some x) : placeI l x = k := by
  unfold placeI; rw [findI_own hv h]; simp
theorem placeI_at {l : List Int} {x : Int} (h : x ∈ l) : findI l x = (placeI l x : Nat) ∧ placeI l x < l.length ∧ l[placeI l x]? = some x := by
  rcases findI_spec l x with ⟨_, h2⟩ | ⟨k, h1, h2, h3, _⟩
  · exact absurd h h2
  · have : placeI l x = k := by unfold placeI; rw [h1]; simp
    rw [this]; exact ⟨h1, h2, h3⟩
def amongR (ids : List Int) (rels : List Ctx) : Bool := rels.all fun r => decide (r.id ∈ ids) && decide (r.kind ∈ ids)
def okG (ids : List Int) (rels : List Ctx) : Bool := validI ids && (validR rels && amongR ids rels)
theorem okG_parts {ids : List Int} {rels : List Ctx} (h : okG ids rels = true) : validI ids = true ∧ validR rels = true ∧ ∀ r ∈ rels, r.id ∈ ids ∧ r.kind ∈ ids := by
  simp only [okG, Bool.and_eq_true, amongR, List.all_eq_true, decide_eq_true_eq] at h
  exact ⟨h.1, h.2.1, h.2.2⟩
theorem okG_sub {ids : List Int} {rels m : List Ctx} (h : okG ids rels = true) (hs : m.Sublist rels) : okG ids m = true := by
  obtain ⟨h1, h2, h3⟩ := okG_parts h
  have h4 : validR m = true := validO_sub lessR_tr h2 hs
  simp only [okG, Bool.and_eq_true, amongR, List.all_eq_true, decide_eq_true_eq]
  exact ⟨h1, h4, fun r hr => h3 r (hs.subset hr)⟩
def joinG (g : List Int) (a b : Int) : List Int := g.map fun n => if n = a ∨ n = b then min a b else n
def labG (ids g : List Int) (a : Int) : Int := g[placeI ids a]?.getD 0
def stepG (ids g : List Int) (r : Ctx) : List Int := if r.area = 2 then joinG g (labG ids g r.id) (labG ids g r.kind) else g
def groupsG (ids : List Int) (rels : List Ctx) : List Int := rels.foldl (stepG ids) ids
def groupsOfG (ids : List Int) (rels : List Ctx) : List Int := if okG ids rels then groupsG ids rels else []
theorem joinG_len (g : List Int) (a b : Int) : (joinG g a b).length = g.length := by simp [joinG]
theorem stepG_len (ids g : List Int) (r : Ctx) : (stepG ids g r).length = g.length := by
  unfold stepG; split
  · exact joinG_len _ _ _
  · rfl
theorem foldG_len (ids : List Int) (rels : List Ctx) : ∀ g : List Int, (rels.foldl (stepG ids) g).length = g.length := by
  induction rels with
  | nil => intro g; rfl
  | cons r rels ih => intro g; rw [List.foldl_cons, ih, stepG_len]
theorem groupsG_len (ids : List Int) (rels : List Ctx) : (groupsG ids rels).length = ids.length := foldG_len ids rels ids
theorem groupsG_next {ids : List Int} {rels : List Ctx} {k : Nat} (hk : k < rels.length) : groupsG ids (rels.take (k + 1)) = stepG ids (groupsG ids (rels.take k)) rels[k] := by
  unfold groupsG
  rw [List.take_add_one, List.getElem?_eq_getElem hk, List.foldl_append]
  rfl
theorem foldG_inv {ids : List Int} (P : List Int → Prop) : ∀ (rels : List Ctx) (g : List Int), P g → (∀ g r, r ∈ rels → P g → P (stepG ids g r)) → P (rels.foldl (stepG ids) g)
  | [], _, h, _ => h
  | r :: rels, g, h, hs => by
    rw [List.foldl_cons]
    exact foldG_inv P rels _ (hs g r List.mem_cons_self h) fun g r hr => hs g r (List.mem_cons_of_mem _ hr)
theorem joinG_at (g : List Int) (a b : Int) (k : Nat) : (joinG g a b)[k]? = g[k]?.map fun n => if n = a ∨ n = b then min a b else n := by simp [joinG]
theorem labG_at {ids g : List Int} {x y : Int} {k : Nat} (hv : validI ids = true) (hx : ids[k]? = some x) (hy : g[k]? = some y) : labG ids g x = y := by
  unfold labG; rw [placeI_own hv hx, hy]; rfl
theorem labG_of {ids g : List Int} {x : Int} (hl : g.length = ids.length) (hx : x ∈ ids) : g[placeI ids x]? = some (labG ids g x) := by
  have := (placeI_at hx).2.1
  unfold labG
  rw [List.getElem?_eq_getElem (by omega)]; rfl

/-- Each head is a context that is no later, and its own head. -/
def HeadsG (ids g : List Int) : Prop := g.length = ids.length ∧ ∀ (i : Nat) (x : Int), g[i]? = some x → ∃ j : Nat, j ≤ i ∧ ids[j]? = some x ∧ g[j]? = some x
theorem headsG_step {ids g : List Int} {r : Ctx} (hv : validI ids = true) (h1 : r.id ∈ ids) (h2 : r.kind ∈ ids) (h : HeadsG ids g) : HeadsG ids (stepG ids g r) := by
  refine ⟨by rw [stepG_len]; exact h.1, ?_⟩
  unfold stepG
  split
  · have ha := labG_of h.1 h1
    have hb := labG_of h.1 h2
    revert ha hb
    generalize labG ids g r.id = a
    generalize labG ids g r.kind = b
    intro ha hb i x hx
    obtain ⟨ja, _, hja, hga⟩ := h.2 _ _ ha
    obtain ⟨jb, _, hjb, hgb⟩ := h.2 _ _ hb
    rw [joinG_at] at hx
    cases hg : g[i]? with
    | none => rw [hg] at hx; simp at hx
    | some y =>
      rw [hg] at hx
      simp only [Option.map_some, Option.some.injEq] at hx
      obtain ⟨j, hj, hjy, hgy⟩ := h.2 i y hg
      by_cases hc : y = a ∨ y = b
      · rw [if_pos hc] at hx
        rcases Int.le_total a b with hab | hab
        · rw [Int.min_eq_left hab] at hx
          subst hx
          have hle : ja ≤ j := asc_le hv hja hjy (by rcases hc with rfl | rfl <;> omega)
          refine ⟨ja, by omega, hja, ?_⟩
          rw [joinG_at, hga]
          simp [Int.min_eq_left hab]
        · rw [Int.min_eq_right hab] at hx
          subst hx
          have hle : jb ≤ j := asc_le hv hjb hjy (by rcases hc with rfl | rfl <;> omega)
          refine ⟨jb, by omega, hjb, ?_⟩
          rw [joinG_at, hgb]
          simp [Int.min_eq_right hab]
      · rw [if_neg hc] at hx
        subst hx
        refine ⟨j, hj, hjy, ?_⟩
        rw [joinG_at, hgy]
        simp [hc]
  · exact h.2
theorem headsG_all {ids : List Int} {rels : List Ctx} (h : okG ids rels = true) : HeadsG ids (groupsG ids rels) := by
  obtain ⟨h1, _, h3⟩ := okG_parts h
  exact foldG_inv (HeadsG ids) rels ids ⟨rfl, fun i x hx => ⟨i, Nat.le_refl _, hx, hx⟩⟩ fun g r hr hg => headsG_step h1 (h3 r hr).1 (h3 r hr).2 hg

theorem labG_step {ids g : List Int} {r : Ctx} {x y : Int} (hl : g.length = ids.length) (hx : x ∈ ids) (hy : y ∈ ids) (h : labG ids g x = labG ids g y) : labG ids (stepG ids g r) x = labG ids (stepG ids g r) y := by
  unfold stepG
  split
  · have h1 := labG_of hl hx
    have h2 := labG_of hl hy
    unfold labG at *
    rw [joinG_at, joinG_at, h1, h2, h]
  · exact h
theorem foldG_keep {ids : List Int} {x y : Int} (hx : x ∈ ids) (hy : y ∈ ids) (rels : List Ctx) (g : List Int) (hl : g.length = ids.length) (h : labG ids g x = labG ids g y) : labG ids (rels.foldl (stepG ids) g) x = labG ids (rels.foldl (stepG ids) g) y :=
  (foldG_inv (fun g => g.length = ids.length ∧ labG ids g x = labG ids g y) rels g ⟨hl, h⟩ fun g r _ hg => ⟨by rw [stepG_len]; exact hg.1, labG_step hg.1 hx hy hg.2⟩).2
theorem foldG_equal {ids : List Int} : ∀ (rels : List Ctx) (g : List Int), g.length = ids.length → (∀ r ∈ rels, r.id ∈ ids ∧ r.kind ∈ ids) → ∀ r ∈ rels, r.area = 2 → labG ids (rels.foldl (stepG ids) g) r.id = labG ids (rels.foldl (stepG ids) g) r.kind
  | [], _, _, _, r, hr, _ => by cases hr
  | s :: rels, g, hl, hi, r, hr, ha => by
    rw [List.foldl_cons]
    rcases List.mem_cons.1 hr with rfl | hr
    · have hs := hi r List.mem_cons_self
      refine foldG_keep hs.1 hs.2 rels _ (by rw [stepG_len]; exact hl) ?_
      unfold stepG
      rw [if_pos ha]
      have h1 := labG_of hl hs.1
      have h2 := labG_of hl hs.2
      show ((joinG g _ _)[placeI ids r.id]?).getD 0 = ((joinG g _ _)[placeI ids r.kind]?).getD 0
      rw [joinG_at, joinG_at, h1, h2]
      simp
    · exact foldG_equal rels _ (by rw [stepG_len]; exact hl) (fun r hr => hi r (List.mem_cons_of_mem _ hr)) r hr ha
/-- Equal contexts have one head. -/
theorem groupsG_equal {ids : List Int} {rels : List Ctx} (h : okG ids rels = true) : ∀ r ∈ rels, r.area = 2 → labG ids (groupsG ids rels) r.id = labG ids (groupsG ids rels) r.kind :=
  foldG_equal rels ids rfl (okG_parts h).2.2
/-- No labels that agree on the equalities part what the groups join. -/
theorem groupsG_least {ids h : List Int} {rels : List Ctx} (hk : okG ids rels = true) (hl : h.length = ids.length) (he : ∀ r ∈ rels, r.area = 2 → labG ids h r.id = labG ids h r.kind) :
    ∀ (i j : Nat) (x : Int), (groupsG ids rels)[i]? = some x → (groupsG ids rels)[j]? = some x → h[i]? = h[j]? := by
  obtain ⟨h1, _, h3⟩ := okG_parts hk
  refine (foldG_inv (fun g => g.length = ids.length ∧ ∀ (i j : Nat) (x : Int), g[i]? = some x → g[j]? = some x → h[i]? = h[j]?) rels ids ⟨rfl, fun i j x hi hj => by rw [asc_eq h1 hi hj]⟩ ?_).2
  rintro g r hr ⟨hgl, hg⟩
  refine ⟨by rw [stepG_len]; exact hgl, ?_⟩
  unfold stepG
  split
  · rename_i ha
    have hA := labG_of hgl (h3 r hr).1
    have hB := labG_of hgl (h3 r hr).2
    have hpq : h[placeI ids r.id]? = h[placeI ids r.kind]? := by rw [labG_of hl (h3 r hr).1, labG_of hl (h3 r hr).2, he r hr ha]
    revert hA hB hpq
    generalize placeI ids r.id = p
    generalize placeI ids r.kind = q
    generalize labG ids g r.id = a
    generalize labG ids g r.kind = b
    intro hA hB hpq i j x hi hj
    rw [joinG_at] at hi hj
    cases gi : g[i]? with
    | none => rw [gi] at hi; simp at hi
    | some y =>
      cases gj : g[j]? with
      | none => rw [gj] at hj; simp at hj
      | some z =>
        rw [gi] at hi
        rw [gj] at hj
        simp only [Option.map_some, Option.some.injEq] at hi hj
        have key : ∀ (k : Nat) (u : Int), g[k]? = some u → (u = a ∨ u = b) → h[k]? = h[p]? := by
          intro k u hu hc
          rcases hc with rfl | rfl
          · exact hg k p u hu hA
          · rw [hpq]; exact hg k q u hu hB
        by_cases c1 : y = a ∨ y = b
        · by_cases c2 : z = a ∨ z = b
          · rw [key i y gi c1, key j z gj c2]
          · rw [if_pos c1] at hi
            rw [if_neg c2] at hj
            exfalso
            apply c2
            omega
        · by_cases c2 : z = a ∨ z = b
          · rw [if_neg c1] at hi
            rw [if_pos c2] at hj
            exfalso
            apply c1
            omega
          · rw [if_neg c1] at hi
            rw [if_neg c2] at hj
            subst hi
            exact hg i j y gi (hj ▸ gj)
  · exact hg
/-- A context of no equality is alone. -/
theorem groupsG_alone {ids : List Int} {rels : List Ctx} (hk : okG ids rels = true) {i : Nat} {c : Int} (hc : ids[i]? = some c) (hn : ∀ r ∈ rels, r.area = 2 → r.id ≠ c ∧ r.kind ≠ c) : (groupsG ids rels)[i]? = some c := by
  obtain ⟨h1, _, h3⟩ := okG_parts hk
  refine (foldG_inv (fun g => g.length = ids.length ∧ g[i]? = some c ∧ ∀ (j : Nat), g[j]? = some c → j = i) rels ids ⟨rfl, hc, fun j hj => asc_eq h1 hj hc⟩ ?_).2.1
  rintro g r hr ⟨hgl, hg, hg2⟩
  refine ⟨by rw [stepG_len]; exact hgl, ?_⟩
  unfold stepG
  split
  · rename_i ha
    have hA := labG_of hgl (h3 r hr).1
    have hB := labG_of hgl (h3 r hr).2
    have nA : labG ids g r.id ≠ c := fun e => by
      rw [e] at hA
      have h4 := hg2 _ hA
      have h5 := (placeI_at (h3 r hr).1).2.2
      rw [h4, hc] at h5
      injection h5 with h5
      exact (hn r hr ha).1 h5.symm
    have nB : labG ids g r.kind ≠ c := fun e => by
      rw [e] at hB
      have h4 := hg2 _ hB
      have h5 := (placeI_at (h3 r hr).2).2.2
      rw [h4, hc] at h5
      injection h5 with h5
      exact (hn r hr ha).2 h5.symm
    revert nA nB
    generalize labG ids g r.id = a
    generalize labG ids g r.kind = b
    intro nA nB
    constructor
    · rw [joinG_at, hg, Option.map_some, if_neg (by omega)]
    · intro j hj
      rw [joinG_at] at hj
      cases gj : g[j]? with
      | none => rw [gj] at hj; simp at hj
      | some z =>
        rw [gj] at hj
        simp only [Option.map_some, Option.some.injEq] at hj
        by_cases c2 : z = a ∨ z = b
        · rw [if_pos c2] at hj; omega
        · rw [if_neg c2] at hj
          exact hg2 j (hj ▸ gj)
  · exact ⟨hg, hg2⟩
theorem groupsG_none {ids : List Int} {rels : List Ctx} (h : ∀ r ∈ rels, r.area ≠ 2) : groupsG ids rels = ids :=
  foldG_inv (fun g => g = ids) rels ids rfl fun g r hr hg => by rw [stepG, if_neg (h r hr)]; exact hg
end Go.Proofs.Ytapmeooffmonmaa
