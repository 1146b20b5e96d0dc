/- Texts that lie together in one: Mx, My, Mz, Mq. -/
import Derived.Test.YtnkdpogplkomhaaPe
import Derived.Test.YtnkdpogplkomhaaVr
/- The least relations of an order, as plain data: a transitive order out of its neighbours; relations put in their place one after another; a list with no entry twice is no longer than one that has all its entries. -/
namespace Go.Proofs.Ytnkdpogplkomhaa
open Go.RowKit

/-- Something lies between. -/
def btwB (f : Nat → Nat → Bool) (n i j : Nat) : Bool := (List.range n).any fun k => f i k && f k j
theorem btwB_iff {f : Nat → Nat → Bool} {n i j : Nat} : btwB f n i j = true ↔ ∃ k, k < n ∧ f i k = true ∧ f k j = true := by
  simp [btwB]
/-- Neighbours. -/
def covB (f : Nat → Nat → Bool) (n i j : Nat) : Bool := f i j && !btwB f n i j
theorem covB_iff {f : Nat → Nat → Bool} {n i j : Nat} : covB f n i j = true ↔ f i j = true ∧ ∀ k, k < n → f i k = true → f k j = false := by
  unfold covB
  rw [Bool.and_eq_true, Bool.not_eq_true', ← Bool.not_eq_true, btwB_iff]
  constructor
  · rintro ⟨h1, h2⟩
    refine ⟨h1, fun k hk h3 => ?_⟩
    cases h4 : f k j
    · rfl
    · exact absurd ⟨k, hk, h3, h4⟩ h2
  · rintro ⟨h1, h2⟩
    refine ⟨h1, ?_⟩
    rintro ⟨k, hk, h3, h4⟩
    rw [h2 k hk h3] at h4
    cases h4
/-- How many of the first n hold. -/
def cntN (p : Nat → Bool) : Nat → Nat
  | 0 => 0
  | n + 1 => cntN p n + (if p n = true then 1 else 0)
theorem cntN_le {p q : Nat → Bool} (h : ∀ k, p k = true → q k = true) : ∀ n, cntN p n ≤ cntN q n
  | 0 => Nat.le_refl _
  | n + 1 => by
    have := cntN_le h n
    unfold cntN
    by_cases hp : p n = true
    · rw [if_pos hp, if_pos (h n hp)]; omega
    · rw [if_neg hp]; omega
theorem cntN_lt {p q : Nat → Bool} (h : ∀ k, p k = true → q k = true) {m : Nat} (hq : q m = true) (hp : p m = false) : ∀ n, m < n → cntN p n < cntN q n
  | 0, hm => absurd hm (by omega)
  | n + 1, hm => by
    unfold cntN
    by_cases e : m = n
    · subst e
      have := cntN_le h m
      rw [if_pos hq, if_neg (by rw [hp]; exact Bool.false_ne_true)]
      omega
    · have := cntN_lt h hq hp n (by omega)
      by_cases hpn : p n = true
      · rw [if_pos hpn, if_pos (h n hpn)]; omega
      · rw [if_neg hpn]; omega
/-- What is transitive and never in a circle is what follows from its neighbours. -/
theorem cov_clos {f : Nat → Nat → Bool} {n : Nat} (hin : InN f n) (ht : ∀ i j k, f i j = true → f j k = true → f i k = true) (hi : ∀ i, f i i = false) (i j : Nat) : clos (covB f n) n i j = f i j := by
  have hin2 : InN (covB f n) n := fun i j h => hin i j (covB_iff.1 h).1
  rw [Bool.eq_iff_iff]
  constructor
  · exact clos_least (T := fun i j => f i j = true) (fun i j h => (covB_iff.1 h).1) ht
  · -- by how many lie between
    have key : ∀ m i j, cntN (fun k => f i k && f k j) n ≤ m → f i j = true → clos (covB f n) n i j = true := by
      intro m
      induction m with
      | zero =>
        intro i j hm h
        refine clos_direct (covB_iff.2 ⟨h, fun k hk h1 => ?_⟩)
        cases h2 : f k j
        · rfl
        · exfalso
          have := cntN_lt (p := fun _ => false) (q := fun k => f i k && f k j) (fun _ h => by cases h) (m := k) (by rw [h1, h2]; rfl) rfl n hk
          omega
      | succ m ih =>
        intro i j hm h
        by_cases hb : btwB f n i j = true
        · obtain ⟨k, hk, h1, h2⟩ := btwB_iff.1 hb
          have c1 : cntN (fun x => f i x && f x k) n < cntN (fun x => f i x && f x j) n := by
            refine cntN_lt (m := k) (fun x hx => ?_) (by simp [h1, h2]) (by simp [hi]) n hk
            rw [Bool.and_eq_true] at hx ⊢
            exact ⟨hx.1, ht _ _ _ hx.2 h2⟩
          have c2 : cntN (fun x => f k x && f x j) n < cntN (fun x => f i x && f x j) n := by
            refine cntN_lt (m := k) (fun x hx => ?_) (by simp [h1, h2]) (by simp [hi]) n hk
            rw [Bool.and_eq_true] at hx ⊢
            exact ⟨ht _ _ _ h1 hx.1, hx.2⟩
          exact clos_trans hin2 (ih i k (by omega) h1) (ih k j (by omega) h2)
        · refine clos_direct ?_
          unfold covB
          rw [h, Bool.true_and, Bool.not_eq_true']
          simpa using hb
    exact key _ i j (Nat.le_refl _)
/-- Without one pair of neighbours less follows. -/
theorem cov_less {f g : Nat → Nat → Bool} {n : Nat} (ht : ∀ i j k, f i j = true → f j k = true → f i k = true) {i j : Nat} (hc : covB f n i j = true) (hin : InN f n)
    (hg : ∀ p q, g p q = true → covB f n p q = true ∧ ¬ (p = i ∧ q = j)) : clos g n i j = false := by
  cases h : clos g n i j
  · rfl
  · exfalso
    have hing : InN g n := fun p q hpq => hin p q (covB_iff.1 (hg p q hpq).1).1
    have hup : ∀ p q, clos g n p q = true → f p q = true := fun p q h => clos_least (T := fun p q => f p q = true) (fun p q h => (covB_iff.1 (hg p q h).1).1) ht h
    obtain ⟨x, h1, h2⟩ := clos_first hing h
    rcases h2 with rfl | h2
    · exact (hg _ _ h1).2 ⟨rfl, rfl⟩
    · have h3 := (covB_iff.1 hc).2 x (hing _ _ h1).2 (covB_iff.1 (hg _ _ h1).1).1
      rw [hup _ _ h2] at h3
      cases h3

section
variable {α : Type} {lt : α → α → Bool}
/-- All of them put in their place, one after another. -/
def putAll (lt : α → α → Bool) (cs out : List α) : List α := cs.foldl (fun o c => insO lt c o) out
theorem putAll_mem (d : α) : ∀ (cs out : List α), d ∈ putAll lt cs out ↔ d ∈ cs ∨ d ∈ out
  | [], out => by simp [putAll]
  | c :: cs, out => by
    have ih := putAll_mem d cs (insO lt c out)
    unfold putAll at ih ⊢
    rw [List.foldl_cons, ih, insO_mem, List.mem_cons]
    constructor
    · rintro (h | h | h) <;> simp [h]
    · rintro ((h | h) | h) <;> simp [h]
theorem putAll_len : ∀ (cs out : List α), (putAll lt cs out).length = cs.length + out.length
  | [], out => by simp [putAll]
  | c :: cs, out => by
    have ih := putAll_len cs (insO lt c out)
    unfold putAll at ih ⊢
    rw [List.foldl_cons, ih, insO_length, List.length_cons]
    omega
theorem putAll_pair (tr : ∀ a b c, lt a b = true → lt b c = true → lt a c = true) (tot : ∀ a b, a ≠ b → lt a b = false → lt b a = true) : ∀ (cs out : List α), cs.Nodup → (∀ c ∈ cs, c ∉ out) → out.Pairwise (fun c d => lt c d = true) → (putAll lt cs out).Pairwise (fun c d => lt c d = true)
  | [], out, _, _, h => h
  | c :: cs, out, hn, ho, h => by
    rw [List.nodup_cons] at hn
    have h1 := insO_pair tr c out h fun d hd hf => tot d c (fun e => ho c List.mem_cons_self (e ▸ hd)) hf
    refine putAll_pair tr tot cs (insO lt c out) hn.2 (fun d hd hm => ?_) h1
    rcases (insO_mem c d out).1 hm with rfl | hm
    · exact hn.1 hd
    · exact ho d (List.mem_cons_of_mem _ hd) hm
theorem putAll_app (a b out : List α) : putAll lt (a ++ b) out = putAll lt b (putAll lt a out) := by
  unfold putAll
  rw [List.foldl_append]
/-- An ordered list is told by what it has. -/
theorem asc_only (ir : ∀ a, lt a a = false) (tr : ∀ a b c, lt a b = true → lt b c = true → lt a c = true) : ∀ (a b : List α), a.Pairwise (fun c d => lt c d = true) → b.Pairwise (fun c d => lt c d = true) → (∀ d, d ∈ a ↔ d ∈ b) → a = b
  | [], [], _, _, _ => rfl
  | [], y :: b, _, _, h => absurd ((h y).2 List.mem_cons_self) (by simp)
  | x :: a, [], _, _, h => absurd ((h x).1 List.mem_cons_self) (by simp)
  | x :: a, y :: b, ha, hb, h => by
    rw [List.pairwise_cons] at ha hb
    have asy : ∀ u v, lt u v = true → lt v u = true → False := fun u v h1 h2 => by
      have := tr _ _ _ h1 h2
      rw [ir] at this
      cases this
    have hxy : x = y := by
      rcases List.mem_cons.1 ((h x).1 List.mem_cons_self) with e | h1
      · exact e
      · rcases List.mem_cons.1 ((h y).2 List.mem_cons_self) with e | h2
        · exact e.symm
        · exact (asy _ _ (ha.1 _ h2) (hb.1 _ h1)).elim
    subst hxy
    congr 1
    refine asc_only ir tr a b ha.2 hb.2 fun d => ?_
    constructor
    · intro hd
      rcases List.mem_cons.1 ((h d).1 (List.mem_cons_of_mem _ hd)) with e | h1
      · have := ha.1 _ hd
        rw [e, ir] at this
        cases this
      · exact h1
    · intro hd
      rcases List.mem_cons.1 ((h d).2 (List.mem_cons_of_mem _ hd)) with e | h1
      · have := hb.1 _ hd
        rw [e, ir] at this
        cases this
      · exact h1
end
theorem asc_nodup {α : Type} {lt : α → α → Bool} (ir : ∀ a, lt a a = false) {l : List α} (h : l.Pairwise (fun c d => lt c d = true)) : l.Nodup :=
  h.imp fun {a b} hab e => by
    rw [e, ir] at hab
    cases hab
theorem nodup_sub {α : Type} : ∀ (a b : List α), a.Nodup → (∀ x ∈ a, x ∈ b) → a.length ≤ b.length
  | [], b, _, _ => by simp
  | x :: a, b, hn, h => by
    rw [List.nodup_cons] at hn
    obtain ⟨b1, b2, rfl⟩ := List.append_of_mem (h x List.mem_cons_self)
    have h1 := nodup_sub a (b1 ++ b2) hn.2 fun y hy => by
      have hne : y ≠ x := fun e => hn.1 (e ▸ hy)
      have h2 := h y (List.mem_cons_of_mem _ hy)
      simp only [List.mem_append, List.mem_cons] at h2 ⊢
      rcases h2 with h2 | h2 | h2
      · exact .inl h2
      · exact absurd h2 hne
      · exact .inr h2
    simp only [List.length_append, List.length_cons] at h1 ⊢
    omega
end Go.Proofs.Ytnkdpogplkomhaa

/- The least relations of an order: what they have, that they have the same groups and the same order, that they are told by these, that none can be missed, and that there are no more of them than of the given ones. Plain data. -/
namespace Go.Proofs.Ytnkdpogplkomhaa
open Go.RowKit

def clG (ids : List Int) (l : List Ctx) : Nat → Nat → Bool := clos (dirG ids (groupsG ids l) l) ids.length
def eqsG (ids G : List Int) (i : Nat) : List Ctx := if G.getD i 0 = ids.getD i 0 then [] else [⟨G.getD i 0, ids.getD i 0, 2⟩]
def abvG (ids : List Int) (f : Nat → Nat → Bool) (i j : Nat) : List Ctx := ((List.range j).filter (covB f ids.length i)).map fun q => ⟨ids.getD i 0, ids.getD q 0, 1⟩
def candG (ids G : List Int) (f : Nat → Nat → Bool) (i : Nat) : List Ctx := (List.range i).flatMap fun p => eqsG ids G p ++ abvG ids f p ids.length
def matOf (ids G : List Int) (f : Nat → Nat → Bool) : List Ctx := putAll lessR (candG ids G f ids.length) []
def matG (ids : List Int) (l : List Ctx) : List Ctx := matOf ids (groupsG ids l) (clG ids l)
theorem candG_next (ids G : List Int) (f : Nat → Nat → Bool) (i : Nat) : candG ids G f (i + 1) = candG ids G f i ++ (eqsG ids G i ++ abvG ids f i ids.length) := by
  unfold candG
  rw [List.range_succ, List.flatMap_append]
  simp
theorem abvG_next (ids : List Int) (f : Nat → Nat → Bool) (i j : Nat) : abvG ids f i (j + 1) = abvG ids f i j ++ (if covB f ids.length i j = true then [⟨ids.getD i 0, ids.getD j 0, 1⟩] else []) := by
  unfold abvG
  rw [List.range_succ, List.filter_append, List.map_append]
  congr 1
  by_cases h : covB f ids.length i j = true
  · rw [if_pos h]; simp [h]
  · rw [if_neg h]; simp [h]
theorem mem_eqs {ids G : List Int} {i : Nat} {r : Ctx} : r ∈ eqsG ids G i ↔ G.getD i 0 ≠ ids.getD i 0 ∧ r = ⟨G.getD i 0, ids.getD i 0, 2⟩ := by
  unfold eqsG
  by_cases h : G.getD i 0 = ids.getD i 0
  · rw [if_pos h]; exact ⟨fun h2 => (by cases h2), fun h2 => absurd h h2.1⟩
  · rw [if_neg h]; simp only [List.mem_singleton]; exact ⟨fun e => ⟨h, e⟩, fun e => e.2⟩
theorem mem_abv {ids : List Int} {f : Nat → Nat → Bool} {i j : Nat} {r : Ctx} : r ∈ abvG ids f i j ↔ ∃ q, q < j ∧ covB f ids.length i q = true ∧ r = ⟨ids.getD i 0, ids.getD q 0, 1⟩ := by
  unfold abvG
  rw [List.mem_map]
  constructor
  · rintro ⟨q, h, rfl⟩
    rw [List.mem_filter, List.mem_range] at h
    exact ⟨q, h.1, h.2, rfl⟩
  · rintro ⟨q, h1, h2, rfl⟩
    exact ⟨q, List.mem_filter.2 ⟨List.mem_range.2 h1, h2⟩, rfl⟩
theorem mem_cand {ids G : List Int} {f : Nat → Nat → Bool} {i : Nat} {r : Ctx} : r ∈ candG ids G f i ↔
    (∃ p, p < i ∧ G.getD p 0 ≠ ids.getD p 0 ∧ r = ⟨G.getD p 0, ids.getD p 0, 2⟩) ∨ ∃ p q, p < i ∧ q < ids.length ∧ covB f ids.length p q = true ∧ r = ⟨ids.getD p 0, ids.getD q 0, 1⟩ := by
  unfold candG
  rw [List.mem_flatMap]
  constructor
  · rintro ⟨p, hp, h⟩
    rw [List.mem_range] at hp
    rcases List.mem_append.1 h with h | h
    · obtain ⟨h1, h2⟩ := mem_eqs.1 h
      exact .inl ⟨p, hp, h1, h2⟩
    · obtain ⟨q, h1, h2, h3⟩ := mem_abv.1 h
      exact .inr ⟨p, q, hp, h1, h2, h3⟩
  · rintro (⟨p, hp, h1, h2⟩ | ⟨p, q, hp, hq, h1, h2⟩)
    · exact ⟨p, List.mem_range.2 hp, List.mem_append_left _ (mem_eqs.2 ⟨h1, h2⟩)⟩
    · exact ⟨p, List.mem_range.2 hp, List.mem_append_right _ (mem_abv.2 ⟨q, hq, h1, h2⟩)⟩
theorem mem_matOf {ids G : List Int} {f : Nat → Nat → Bool} {r : Ctx} : r ∈ matOf ids G f ↔
    (∃ p, p < ids.length ∧ G.getD p 0 ≠ ids.getD p 0 ∧ r = ⟨G.getD p 0, ids.getD p 0, 2⟩) ∨ ∃ p q, p < ids.length ∧ q < ids.length ∧ covB f ids.length p q = true ∧ r = ⟨ids.getD p 0, ids.getD q 0, 1⟩ := by
  unfold matOf
  rw [putAll_mem, mem_cand]
  simp
theorem ids_inj {ids : List Int} (hv : validI ids = true) {i j : Nat} (hi : i < ids.length) (hj : j < ids.length) (h : ids.getD i 0 = ids.getD j 0) : i = j := by
  have h1 : ids[i]? = some (ids.getD i 0) := by simp [hi]
  have h2 : ids[j]? = some (ids.getD i 0) := by rw [h]; simp [hj]
  exact asc_eq hv h1 h2
/-- Each candidate is new where it is put. -/
theorem cand_new {ids G : List Int} {f : Nat → Nat → Bool} (hv : validI ids = true) {i j : Nat} (hi : i < ids.length) (hj : j < ids.length) :
    (∀ d ∈ putAll lessR (candG ids G f i) [], d ≠ ⟨G.getD i 0, ids.getD i 0, 2⟩) ∧ ∀ d ∈ putAll lessR (candG ids G f i ++ (eqsG ids G i ++ abvG ids f i j)) [], d ≠ ⟨ids.getD i 0, ids.getD j 0, 1⟩ := by
  constructor
  · intro d hd e
    rw [putAll_mem, mem_cand] at hd
    subst e
    rcases hd with (⟨p, hp, _, h2⟩ | ⟨p, q, hp, _, _, h2⟩) | h
    · have := congrArg Ctx.kind h2
      have := ids_inj hv (by omega) hi this.symm
      omega
    · have := congrArg Ctx.area h2
      simp at this
    · cases h
  · intro d hd e
    rw [putAll_mem, List.mem_append, List.mem_append, mem_cand, mem_eqs, mem_abv] at hd
    subst e
    rcases hd with ((⟨p, hp, _, h2⟩ | ⟨p, q, hp, _, _, h2⟩) | (⟨_, h2⟩ | ⟨q, hq, _, h2⟩)) | h
    · have := congrArg Ctx.area h2
      simp at this
    · have := congrArg Ctx.id h2
      have := ids_inj hv (by omega) hi this.symm
      omega
    · have := congrArg Ctx.area h2
      simp at this
    · have := congrArg Ctx.kind h2
      have := ids_inj hv (by omega) hj this.symm
      omega
    · cases h
theorem abv_nodup {ids : List Int} {f : Nat → Nat → Bool} (hv : validI ids = true) (i : Nat) : ∀ j, j ≤ ids.length → (abvG ids f i j).Nodup
  | 0, _ => by simp [abvG]
  | j + 1, hj => by
    rw [abvG_next]
    split
    · rw [List.nodup_append]
      refine ⟨abv_nodup hv i j (by omega), by simp, fun a ha b hb e => ?_⟩
      rw [List.mem_singleton] at hb
      subst e
      obtain ⟨q, hq, _, h2⟩ := mem_abv.1 ha
      rw [hb] at h2
      have := congrArg Ctx.kind h2
      have := ids_inj hv (by omega) (by omega) this.symm
      omega
    · rw [List.append_nil]
      exact abv_nodup hv i j (by omega)
theorem cand_nodup {ids G : List Int} {f : Nat → Nat → Bool} (hv : validI ids = true) : ∀ i, i ≤ ids.length → (candG ids G f i).Nodup
  | 0, _ => by simp [candG]
  | i + 1, hi => by
    rw [candG_next, List.nodup_append]
    refine ⟨cand_nodup hv i (by omega), ?_, fun a ha b hb e => ?_⟩
    · rw [List.nodup_append]
      refine ⟨?_, abv_nodup hv i _ (Nat.le_refl _), fun a ha b hb e => ?_⟩
      · unfold eqsG
        split <;> simp
      · subst e
        have h1 := congrArg Ctx.area (mem_eqs.1 ha).2
        obtain ⟨q, _, _, h2⟩ := mem_abv.1 hb
        have h3 := congrArg Ctx.area h2
        rw [h1] at h3
        simp at h3
    · subst e
      rcases mem_cand.1 ha with ⟨p, hp, _, h2⟩ | ⟨p, q, hp, _, _, h2⟩
      · rcases List.mem_append.1 hb with hb | hb
        · have h3 := (mem_eqs.1 hb).2
          rw [h2] at h3
          have := congrArg Ctx.kind h3
          have := ids_inj hv (by omega) (by omega) this
          omega
        · obtain ⟨q, _, _, h3⟩ := mem_abv.1 hb
          rw [h2] at h3
          have := congrArg Ctx.area h3
          simp at this
      · rcases List.mem_append.1 hb with hb | hb
        · have h3 := (mem_eqs.1 hb).2
          rw [h2] at h3
          have := congrArg Ctx.area h3
          simp at this
        · obtain ⟨q, _, _, h3⟩ := mem_abv.1 hb
          rw [h2] at h3
          have := congrArg Ctx.id h3
          have := ids_inj hv (by omega) (by omega) this
          omega
theorem matOf_pair {ids G : List Int} {f : Nat → Nat → Bool} (hv : validI ids = true) : (matOf ids G f).Pairwise (fun c d => lessR c d = true) :=
  putAll_pair lessR_tr lessR_tot _ _ (cand_nodup hv _ (Nat.le_refl _)) (fun _ _ h => by cases h) List.Pairwise.nil

/-- Groups are told by which contexts have one head. -/
theorem heads_same {ids G H : List Int} (hv : validI ids = true) (hG : HeadsG ids G) (hH : HeadsG ids H) (h : ∀ (i j : Nat), i < ids.length → j < ids.length → (G[i]? = G[j]? ↔ H[i]? = H[j]?)) : G = H := by
  have lt : ∀ {k : Nat} {x : Int}, ids[k]? = some x → k < ids.length := fun h => (List.getElem?_eq_some_iff.1 h).1
  apply List.ext_getElem?
  intro i
  by_cases hi : i < ids.length
  · have g1 : G[i]? = some (G.getD i 0) := by have := hG.1; simp [this, hi]
    have h1 : H[i]? = some (H.getD i 0) := by have := hH.1; simp [this, hi]
    obtain ⟨k, hki, hk, hgk⟩ := hG.2 _ _ g1
    obtain ⟨j, hji, hj, hhj⟩ := hH.2 _ _ h1
    have e1 : H[i]? = H[k]? := (h i k hi (lt hk)).1 (g1.trans hgk.symm)
    have e2 : G[i]? = G[j]? := (h i j hi (lt hj)).2 (h1.trans hhj.symm)
    obtain ⟨j2, hj2, hj3, _⟩ := hH.2 k _ (e1.symm.trans h1)
    obtain ⟨k2, hk2, hk3, _⟩ := hG.2 j _ (e2.symm.trans g1)
    have e3 := asc_eq hv hj hj3
    have e4 := asc_eq hv hk hk3
    have : j = k := by omega
    subst this
    rw [hk] at hj
    rw [g1, h1, hj]
  · rw [List.getElem?_eq_none (by have := hG.1; omega), List.getElem?_eq_none (by have := hH.1; omega)]

section
variable {ids : List Int} {l : List Ctx}
theorem clG_head (h : okG ids l = true) {i j : Nat} (hf : clG ids l i j = true) : (groupsG ids l).getD i 0 = ids.getD i 0 ∧ (groupsG ids l).getD j 0 = ids.getD j 0 := by
  have key : ∀ a, a ∈ ids → (groupsG ids l).getD (hcG ids (groupsG ids l) a) 0 = ids.getD (hcG ids (groupsG ids l) a) 0 := fun a ha => by
    obtain ⟨j, _, hj, hg⟩ := (headsG_all h).2 _ _ (labG_of (groupsG_len ids l) ha)
    have : hcG ids (groupsG ids l) a = j := placeI_own (okG_parts h).1 hj
    rw [this, List.getD_eq_getElem?_getD, List.getD_eq_getElem?_getD, hj, hg]
  refine clos_least (T := fun i j => (groupsG ids l).getD i 0 = ids.getD i 0 ∧ (groupsG ids l).getD j 0 = ids.getD j 0) (fun i j hd => ?_) (fun _ _ _ h1 h2 => ⟨h1.1, h2.2⟩) hf
  obtain ⟨r, hr, _, rfl, rfl⟩ := dirG_iff.1 hd
  obtain ⟨h1, h2⟩ := (okG_parts h).2.2 r hr
  exact ⟨key _ h1, key _ h2⟩
theorem clG_in (h : okG ids l = true) : InN (clG ids l) ids.length := clos_in (dirG_in h)
theorem clG_tr (h : okG ids l = true) (i j k : Nat) (h1 : clG ids l i j = true) (h2 : clG ids l j k = true) : clG ids l i k = true := clos_trans (dirG_in h) h1 h2
/-- A head's place is that of its own head. -/
theorem hc_own (h : okG ids l = true) {i : Nat} (hi : i < ids.length) (hh : (groupsG ids l).getD i 0 = ids.getD i 0) : hcG ids (groupsG ids l) (ids.getD i 0) = i := by
  have hv := (okG_parts h).1
  have h1 : ids[i]? = some (ids.getD i 0) := by simp [hi]
  have h2 : (groupsG ids l)[i]? = some ((groupsG ids l).getD i 0) := by have := groupsG_len ids l; simp [this, hi]
  unfold hcG
  rw [labG_at hv h1 h2, hh]
  exact placeI_own hv h1
theorem clG_up (h : okG ids l = true) {i j : Nat} (hi : i < ids.length) (hj : j < ids.length) (h1 : (groupsG ids l).getD i 0 = ids.getD i 0) (h2 : (groupsG ids l).getD j 0 = ids.getD j 0) : clG ids l i j = upG ids l (ids.getD i 0) (ids.getD j 0) := by
  unfold upG
  rw [hc_own h hi h1, hc_own h hj h2]
  rfl
theorem clG_irr (h : ordOkG ids l = true) (i : Nat) : clG ids l i i = false := by
  unfold ordOkG at h
  rw [Bool.and_eq_true] at h
  obtain ⟨hok, hall⟩ := h
  cases hc : clG ids l i i
  · rfl
  · have hi := (clG_in hok i i hc).1
    have hh := (clG_head hok hc).1
    rw [clG_up hok hi hi hh hh] at hc
    rw [List.all_eq_true] at hall
    have := hall (ids.getD i 0) (by rw [List.getD_eq_getElem?_getD, List.getElem?_eq_getElem hi]; exact List.getElem_mem hi)
    rw [hc] at this
    cases this
theorem getD_mem {i : Nat} (hi : i < ids.length) : ids.getD i 0 ∈ ids := by
  rw [List.getD_eq_getElem?_getD, List.getElem?_eq_getElem hi]
  exact List.getElem_mem hi
theorem head_less (h : okG ids l = true) {i : Nat} (hi : i < ids.length) : (groupsG ids l).getD i 0 ∈ ids ∧ ((groupsG ids l).getD i 0 ≠ ids.getD i 0 → (groupsG ids l).getD i 0 < ids.getD i 0) := by
  have hv := (okG_parts h).1
  have h1 : ids[i]? = some (ids.getD i 0) := by simp [hi]
  have h2 : (groupsG ids l)[i]? = some ((groupsG ids l).getD i 0) := by have := groupsG_len ids l; simp [this, hi]
  obtain ⟨j, hj, hjx, _⟩ := (headsG_all h).2 _ _ h2
  refine ⟨List.mem_of_getElem? hjx, fun hne => ?_⟩
  rcases Nat.lt_or_ge j i with hlt | hge
  · exact asc_lt hv hjx h1 hlt
  · have : j = i := by omega
    subst this
    rw [h1] at hjx
    injection hjx with hjx
    exact absurd hjx.symm hne
theorem mat_okR (h : ordOkG ids l = true) : ∀ r ∈ matG ids l, okR r = true ∧ r.id ∈ ids ∧ r.kind ∈ ids := by
  have hok : okG ids l = true := by unfold ordOkG at h; rw [Bool.and_eq_true] at h; exact h.1
  have hin : ∀ a, a ∈ ids → inR a 1 99 = true := fun a ha => validO_ok (okG_parts hok).1 a ha
  intro r hr
  rcases mem_matOf.1 hr with ⟨p, hp, hne, rfl⟩ | ⟨p, q, hp, hq, hc, rfl⟩
  · obtain ⟨h1, h2⟩ := head_less hok hp
    have h3 := h2 hne
    refine ⟨?_, h1, getD_mem hp⟩
    simp only [okR, hin _ h1, hin _ (getD_mem hp), Bool.true_and]
    rw [decide_eq_true hne, decide_eq_true h3]
    rfl
  · refine ⟨?_, getD_mem hp, getD_mem hq⟩
    have hne : ids.getD p 0 ≠ ids.getD q 0 := fun e => by
      have := ids_inj (okG_parts hok).1 hp hq e
      subst this
      have h1 := (covB_iff.1 hc).1
      rw [clG_irr h] at h1
      cases h1
    simp only [okR, hin _ (getD_mem hp), hin _ (getD_mem hq), Bool.true_and]
    rw [decide_eq_true hne]
    rfl
end
end Go.Proofs.Ytnkdpogplkomhaa

/- The least relations have the same groups and the same order, are told by these, and none can be missed; there are no more of them than of the given ones. Plain data. -/
namespace Go.Proofs.Ytnkdpogplkomhaa
open Go.RowKit

theorem cntN_one {p q : Nat → Bool} {i : Nat} : ∀ (n : Nat), (∀ k, k < n → p k = true → q k = true ∨ k = i) → cntN p n ≤ cntN q n + 1 ∧ (n ≤ i → cntN p n ≤ cntN q n)
  | 0, _ => ⟨by simp [cntN], fun _ => Nat.le_refl _⟩
  | n + 1, h => by
    obtain ⟨h1, h2⟩ := cntN_one n fun k hk => h k (by omega)
    unfold cntN
    by_cases hp : p n = true
    · rw [if_pos hp]
      rcases h n (by omega) hp with hq | e
      · rw [if_pos hq]
        refine ⟨by omega, fun hi => ?_⟩
        have := h2 (by omega)
        omega
      · have := h2 (by omega)
        refine ⟨by omega, fun hi => by omega⟩
    · rw [if_neg hp]
      refine ⟨by omega, fun hi => ?_⟩
      have := h2 (by omega)
      omega
theorem cntN_filter (p : Nat → Bool) : ∀ n, ((List.range n).filter p).length = cntN p n
  | 0 => rfl
  | n + 1 => by
    have e : cntN p (n + 1) = cntN p n + (if p n = true then 1 else 0) := rfl
    rw [List.range_succ, List.filter_append, List.length_append, cntN_filter p n, e]
    by_cases h : p n = true
    · rw [if_pos h]; simp [h]
    · rw [if_neg h]; simp [h]
/-- The place of a context that is not its own head. -/
def lostB (ids g : List Int) (i : Nat) : Bool := decide (g.getD i 0 ≠ ids.getD i 0)
theorem lost_step {ids g : List Int} {r : Ctx} (hv : validI ids = true) (hl : g.length = ids.length) : cntN (lostB ids (stepG ids g r)) ids.length ≤ cntN (lostB ids g) ids.length + (if r.area = 2 then 1 else 0) := by
  unfold stepG
  split
  · obtain ⟨a, ha⟩ : ∃ a, a = labG ids g r.id := ⟨_, rfl⟩
    obtain ⟨b, hb⟩ : ∃ b, b = labG ids g r.kind := ⟨_, rfl⟩
    rw [← ha, ← hb]
    refine (cntN_one (i := placeI ids (max a b)) _ fun k hk h => ?_).1
    have h1 : ids[k]? = some (ids.getD k 0) := by simp [hk]
    have h2 : g[k]? = some (g.getD k 0) := by simp [hl, hk]
    have h3 : (joinG g a b).getD k 0 = if g.getD k 0 = a ∨ g.getD k 0 = b then min a b else g.getD k 0 := by
      rw [List.getD_eq_getElem?_getD, joinG_at, h2]
      rfl
    unfold lostB at h ⊢
    rw [h3] at h
    simp only [decide_eq_true_eq] at h ⊢
    by_cases e : g.getD k 0 = ids.getD k 0
    · right
      by_cases hc : g.getD k 0 = a ∨ g.getD k 0 = b
      · rw [if_pos hc] at h
        have : ids.getD k 0 = max a b := by omega
        rw [this] at h1
        exact (placeI_own hv h1).symm
      · rw [if_neg hc] at h
        exact absurd e h
    · exact .inl e
  · omega
theorem lost_fold {ids : List Int} (hv : validI ids = true) : ∀ (rels : List Ctx) (g : List Int), g.length = ids.length → cntN (lostB ids (rels.foldl (stepG ids) g)) ids.length ≤ cntN (lostB ids g) ids.length + (rels.filter fun r => decide (r.area = 2)).length
  | [], g, _ => by simp
  | r :: rels, g, hl => by
    have ih := lost_fold hv rels (stepG ids g r) (by rw [stepG_len]; exact hl)
    have h1 := lost_step (r := r) hv hl
    rw [List.foldl_cons, List.filter_cons]
    by_cases e : r.area = 2
    · rw [if_pos e] at h1
      simp only [e, decide_true, if_true, List.length_cons]
      omega
    · rw [if_neg e] at h1
      simp only [e, decide_false]
      simp only [Bool.false_eq_true, if_false]
      omega
theorem lost_none (ids : List Int) : ∀ n, cntN (lostB ids ids) n = 0
  | 0 => rfl
  | n + 1 => by
    unfold cntN
    rw [lost_none ids n, if_neg (by simp [lostB])]
theorem cov_direct {d : Nat → Nat → Bool} {n p q : Nat} (hin : InN d n) (h : covB (clos d n) n p q = true) : d p q = true := by
  obtain ⟨h1, h2⟩ := covB_iff.1 h
  obtain ⟨x, h3, h4⟩ := clos_first hin h1
  rcases h4 with rfl | h4
  · exact h3
  · rw [h2 x (hin _ _ h3).2 (clos_direct h3)] at h4
    cases h4
theorem two_lengths (l : List Ctx) : l.length = (l.filter fun r => decide (r.area = 2)).length + (l.filter fun r => !decide (r.area = 2)).length := by
  induction l with
  | nil => rfl
  | cons r l ih =>
    rw [List.filter_cons, List.filter_cons, List.length_cons, ih]
    by_cases e : r.area = 2
    · simp [e]; omega
    · simp [e]; omega
theorem part_lost {l : List Ctx} (h : l.Nodup) {k : Nat} {r : Ctx} (hk : l[k]? = some r) : r ∉ l.take k ++ l.drop (k + 1) := by
  obtain ⟨hkl, hke⟩ := List.getElem?_eq_some_iff.1 hk
  have e : l = l.take k ++ r :: l.drop (k + 1) := by rw [← hke, ← List.drop_eq_getElem_cons hkl, List.take_append_drop]
  rw [e, List.nodup_append] at h
  obtain ⟨h1, h2, h3⟩ := h
  rw [List.nodup_cons] at h2
  intro hm
  rcases List.mem_append.1 hm with hm | hm
  · exact h3 r hm r List.mem_cons_self rfl
  · exact h2.1 hm
section
variable {ids : List Int} {l : List Ctx}
theorem ordOk_okG (h : ordOkG ids l = true) : okG ids l = true := by
  unfold ordOkG at h
  rw [Bool.and_eq_true] at h
  exact h.1
/-- There are no more of them. -/
theorem mat_len (h : ordOkG ids l = true) : (matG ids l).length ≤ l.length := by
  have hok := ordOk_okG h
  have hv := (okG_parts hok).1
  have hnd : (matG ids l).Nodup := asc_nodup lessR_ir (matOf_pair hv)
  rw [two_lengths (matG ids l), two_lengths l]
  have hA : ((matG ids l).filter fun r => decide (r.area = 2)).length ≤ (l.filter fun r => decide (r.area = 2)).length := by
    refine Nat.le_trans (nodup_sub _ (((List.range ids.length).filter (lostB ids (groupsG ids l))).map fun i => (⟨(groupsG ids l).getD i 0, ids.getD i 0, 2⟩ : Ctx)) (hnd.sublist List.filter_sublist) fun r hr => ?_) ?_
    · rw [List.mem_filter, decide_eq_true_eq] at hr
      rcases mem_matOf.1 hr.1 with ⟨p, hp, hne, rfl⟩ | ⟨p, q, _, _, _, rfl⟩
      · exact List.mem_map.2 ⟨p, List.mem_filter.2 ⟨List.mem_range.2 hp, decide_eq_true hne⟩, rfl⟩
      · have := hr.2
        simp at this
    · rw [List.length_map, cntN_filter]
      have := lost_fold hv l ids rfl
      rw [lost_none] at this
      unfold groupsG
      omega
  have hB : ((matG ids l).filter fun r => !decide (r.area = 2)).length ≤ (l.filter fun r => !decide (r.area = 2)).length := by
    refine Nat.le_trans (nodup_sub _ ((l.filter fun r => !decide (r.area = 2)).map fun r => (⟨ids.getD (hcG ids (groupsG ids l) r.id) 0, ids.getD (hcG ids (groupsG ids l) r.kind) 0, 1⟩ : Ctx)) (hnd.sublist List.filter_sublist) fun r hr => ?_) (by rw [List.length_map]; exact Nat.le_refl _)
    rw [List.mem_filter] at hr
    rcases mem_matOf.1 hr.1 with ⟨p, hp, hne, rfl⟩ | ⟨p, q, _, _, hc, rfl⟩
    · have := hr.2
      simp at this
    · obtain ⟨s, hs, h1, h2, h3⟩ := dirG_iff.1 (cov_direct (dirG_in hok) hc)
      refine List.mem_map.2 ⟨s, List.mem_filter.2 ⟨hs, by rw [h1]; rfl⟩, ?_⟩
      rw [h2, h3]
  omega
theorem mat_ok (h : ordOkG ids l = true) : okG ids (matG ids l) = true := by
  have hok := ordOk_okG h
  obtain ⟨hv, hvr, _⟩ := okG_parts hok
  have h1 := mat_okR h
  have h2 : validR (matG ids l) = true := validO_mk (fun r hr => (h1 r hr).1) (matOf_pair hv) (Nat.le_trans (mat_len h) (validO_len hvr))
  unfold okG amongR
  rw [hv, h2, Bool.true_and, Bool.true_and, List.all_eq_true]
  intro r hr
  obtain ⟨_, h3, h4⟩ := h1 r hr
  simp [h3, h4]
/-- They have the same groups. -/
theorem mat_groups (h : ordOkG ids l = true) : groupsG ids (matG ids l) = groupsG ids l := by
  have hok := ordOk_okG h
  have hok2 := mat_ok h
  have hv := (okG_parts hok).1
  have hG := headsG_all hok
  have at1 : ∀ {i : Nat}, i < ids.length → ids[i]? = some (ids.getD i 0) := fun hi => by simp [hi]
  have at2 : ∀ {i : Nat}, i < ids.length → (groupsG ids l)[i]? = some ((groupsG ids l).getD i 0) := fun hi => by simp [groupsG_len ids l, hi]
  have at3 : ∀ {i : Nat}, i < ids.length → (groupsG ids (matG ids l))[i]? = some ((groupsG ids (matG ids l)).getD i 0) := fun hi => by simp [groupsG_len ids (matG ids l), hi]
  have own : ∀ {i : Nat}, i < ids.length → labG ids (groupsG ids l) ((groupsG ids l).getD i 0) = (groupsG ids l).getD i 0 := fun hi => by
    obtain ⟨j, _, hj, hg⟩ := hG.2 _ _ (at2 hi)
    exact labG_at hv hj hg
  have key : ∀ {i : Nat}, i < ids.length → (groupsG ids (matG ids l)).getD i 0 = labG ids (groupsG ids (matG ids l)) ((groupsG ids l).getD i 0) := fun {i} hi => by
    have e1 : labG ids (groupsG ids (matG ids l)) (ids.getD i 0) = (groupsG ids (matG ids l)).getD i 0 := labG_at hv (at1 hi) (at3 hi)
    by_cases e : (groupsG ids l).getD i 0 = ids.getD i 0
    · rw [e, e1]
    · have := groupsG_equal hok2 ⟨(groupsG ids l).getD i 0, ids.getD i 0, 2⟩ (mem_matOf.2 (.inl ⟨i, hi, e, rfl⟩)) rfl
      dsimp only at this
      rw [this, e1]
  refine (heads_same hv hG (headsG_all hok2) fun i j hi hj => ⟨fun e => ?_, fun e => ?_⟩).symm
  · rw [at2 hi, at2 hj] at e
    injection e with e
    rw [at3 hi, at3 hj, key hi, key hj, e]
  · rw [at3 hj] at e
    refine groupsG_least hok2 hG.1 (fun r hr h2 => ?_) i j _ e (at3 hj)
    rcases mem_matOf.1 hr with ⟨p, hp, hne, rfl⟩ | ⟨p, q, _, _, _, rfl⟩
    · dsimp only
      rw [own hp]
      exact (labG_at hv (at1 hp) (at2 hp)).symm
    · simp at h2
theorem mat_dir (h : ordOkG ids l = true) : dirG ids (groupsG ids l) (matG ids l) = covB (clG ids l) ids.length := by
  have hok := ordOk_okG h
  funext p q
  rw [Bool.eq_iff_iff, dirG_iff]
  constructor
  · rintro ⟨r, hr, h1, rfl, rfl⟩
    rcases mem_matOf.1 hr with ⟨p, hp, hne, rfl⟩ | ⟨p, q, hp, hq, hc, rfl⟩
    · simp at h1
    · obtain ⟨h2, h3⟩ := clG_head hok (covB_iff.1 hc).1
      dsimp only
      rw [hc_own hok hp h2, hc_own hok hq h3]
      exact hc
  · intro hc
    have h1 := (covB_iff.1 hc).1
    obtain ⟨hp, hq⟩ := clG_in hok _ _ h1
    obtain ⟨h2, h3⟩ := clG_head hok h1
    exact ⟨_, mem_matOf.2 (.inr ⟨p, q, hp, hq, hc, rfl⟩), rfl, hc_own hok hp h2, hc_own hok hq h3⟩
/-- The same order. -/
theorem mat_cl (h : ordOkG ids l = true) : clG ids (matG ids l) = clG ids l := by
  have hok := ordOk_okG h
  funext i j
  show clos (dirG ids (groupsG ids (matG ids l)) (matG ids l)) ids.length i j = _
  rw [mat_groups h, mat_dir h]
  exact cov_clos (clG_in hok) (clG_tr hok) (clG_irr h) i j
theorem up_cl (ids : List Int) (l : List Ctx) (a b : Int) : upG ids l a b = clG ids l (hcG ids (groupsG ids l) a) (hcG ids (groupsG ids l) b) := rfl
theorem mat_up (h : ordOkG ids l = true) (a b : Int) : upG ids (matG ids l) a b = upG ids l a b := by
  rw [up_cl, up_cl, mat_groups h, mat_cl h]
theorem mat_ord (h : ordOkG ids l = true) : ordOkG ids (matG ids l) = true := by
  have h2 := h
  unfold ordOkG at h2 ⊢
  rw [Bool.and_eq_true] at h2 ⊢
  refine ⟨mat_ok h, ?_⟩
  rw [← h2.2]
  congr 1
  funext a
  rw [mat_up h]
/-- They are their own least ones. -/
theorem mat_twice (h : ordOkG ids l = true) : matG ids (matG ids l) = matG ids l := by
  show matOf ids (groupsG ids (matG ids l)) (clG ids (matG ids l)) = _
  rw [mat_groups h, mat_cl h]
  rfl
end
/-- The same groups and the same order. -/
def sameG (ids : List Int) (a b : List Ctx) : Bool := okG ids a && (okG ids b && (decide (ordG ids a = ordG ids b) && decide (groupsG ids a = groupsG ids b)))
theorem sameG_parts {ids : List Int} {a b : List Ctx} (h : sameG ids a b = true) : okG ids a = true ∧ okG ids b = true ∧ ordG ids a = ordG ids b ∧ groupsG ids a = groupsG ids b := by
  simp only [sameG, Bool.and_eq_true, decide_eq_true_eq] at h
  exact ⟨h.1, h.2.1, h.2.2.1, h.2.2.2⟩
theorem sameG_back {ids : List Int} {a b : List Ctx} (h : sameG ids a b = true) : sameG ids b a = true := by
  obtain ⟨h1, h2, h3, h4⟩ := sameG_parts h
  simp [sameG, h1, h2, h3, h4]
theorem sameG_self {ids : List Int} {a : List Ctx} (h : okG ids a = true) : sameG ids a a = true := by simp [sameG, h]
theorem ordG_up {ids : List Int} {a b : List Ctx} (h : ordG ids a = ordG ids b) {x y : Int} (hx : x ∈ ids) (hy : y ∈ ids) : upG ids a x y = upG ids b x y := by
  obtain ⟨i, hi⟩ := List.mem_iff_getElem?.1 hx
  obtain ⟨j, hj⟩ := List.mem_iff_getElem?.1 hy
  obtain ⟨r, h1, _, h2⟩ := ordG_at (l := a) hi hj
  obtain ⟨s, h3, _, h4⟩ := ordG_at (l := b) hi hj
  rw [h, h3] at h1
  injection h1 with h1
  rw [h1, h2] at h4
  injection h4
theorem same_cl {ids : List Int} {a b : List Ctx} (h : sameG ids a b = true) : clG ids a = clG ids b := by
  obtain ⟨h1, h2, h3, h4⟩ := sameG_parts h
  have key : ∀ {a b : List Ctx}, okG ids a = true → okG ids b = true → ordG ids a = ordG ids b → groupsG ids a = groupsG ids b → ∀ i j, clG ids a i j = true → clG ids b i j = true := fun {a b} h1 h2 h3 h4 i j hc => by
    obtain ⟨hi, hj⟩ := clG_in h1 _ _ hc
    obtain ⟨e1, e2⟩ := clG_head h1 hc
    rw [clG_up h1 hi hj e1 e2, ordG_up h3 (getD_mem hi) (getD_mem hj)] at hc
    rw [h4] at e1 e2
    rw [clG_up h2 hi hj e1 e2]
    exact hc
  funext i j
  rw [Bool.eq_iff_iff]
  exact ⟨key h1 h2 h3 h4 i j, key h2 h1 h3.symm h4.symm i j⟩
/-- There is one matrix. -/
theorem same_mat {ids : List Int} {a b : List Ctx} (h : sameG ids a b = true) : ordOkG ids a = ordOkG ids b ∧ matG ids a = matG ids b := by
  obtain ⟨h1, h2, h3, h4⟩ := sameG_parts h
  have hc := same_cl h
  constructor
  · unfold ordOkG
    rw [h1, h2, Bool.true_and, Bool.true_and]
    have : (fun x => !upG ids a x x) = fun x => !upG ids b x x := by
      funext x
      rw [up_cl, up_cl, h4, hc]
    rw [this]
  · unfold matG
    rw [h4, hc]
section
variable {ids : List Int} {l : List Ctx}
theorem mat_same (h : ordOkG ids l = true) : sameG ids l (matG ids l) = true := by
  have hok := ordOk_okG h
  have : ordG ids (matG ids l) = ordG ids l := by
    unfold ordG
    refine List.map_congr_left fun a _ => List.map_congr_left fun b _ => mat_up h a b
  simp [sameG, hok, mat_ok h, this, mat_groups h]
/-- None can be missed. -/
theorem mat_least (h : ordOkG ids l = true) {k : Nat} {r : Ctx} (hk : (matG ids l)[k]? = some r) : sameG ids l ((matG ids l).take k ++ (matG ids l).drop (k + 1)) = false := by
  have hok := ordOk_okG h
  have hv := (okG_parts hok).1
  have hnd : (matG ids l).Nodup := asc_nodup lessR_ir (matOf_pair hv)
  have hout := part_lost hnd hk
  have hsub := part_sub (matG ids l) k
  revert hout hsub
  generalize (matG ids l).take k ++ (matG ids l).drop (k + 1) = D
  intro hout hsub
  cases hs : sameG ids l D
  · rfl
  · exfalso
    obtain ⟨_, hokD, _, h4⟩ := sameG_parts hs
    have hcl := same_cl hs
    rcases mem_matOf.1 (List.mem_of_getElem? hk) with ⟨p, hp, hne, rfl⟩ | ⟨p, q, hp, hq, hc, rfl⟩
    · have hpi : ids[p]? = some (ids.getD p 0) := by simp [hp]
      have hal := groupsG_alone hokD hpi fun s hs h2 => by
        rcases mem_matOf.1 (hsub.subset hs) with ⟨i, hi, hne2, rfl⟩ | ⟨i, j, _, _, _, rfl⟩
        · refine ⟨fun e => ?_, fun e => ?_⟩
          · dsimp only at e
            have h5 : (groupsG ids l)[i]? = some ((groupsG ids l).getD i 0) := by simp [groupsG_len ids l, hi]
            obtain ⟨j, _, hj, hg⟩ := (headsG_all hok).2 _ _ h5
            rw [e] at hj hg
            have := asc_eq hv hj hpi
            subst this
            rw [List.getD_eq_getElem?_getD, hg] at hne
            exact hne rfl
          · dsimp only at e
            have := ids_inj hv hi hp e
            subst this
            exact hout hs
        · simp at h2
      rw [← h4] at hal
      rw [List.getD_eq_getElem?_getD, hal] at hne
      exact hne rfl
    · have h5 := cov_less (f := clG ids l) (g := dirG ids (groupsG ids D) D) (clG_tr hok) hc (clG_in hok) fun p' q' hd => by
        rw [← h4] at hd
        obtain ⟨s, hs, h6, h7, h8⟩ := dirG_iff.1 hd
        have hd2 : dirG ids (groupsG ids l) (matG ids l) p' q' = true := dirG_iff.2 ⟨s, hsub.subset hs, h6, h7, h8⟩
        rw [mat_dir h] at hd2
        refine ⟨hd2, fun ⟨e1, e2⟩ => ?_⟩
        subst e1 e2
        rcases mem_matOf.1 (hsub.subset hs) with ⟨i, _, _, rfl⟩ | ⟨i, j, hi, hj, hc2, rfl⟩
        · simp at h6
        · obtain ⟨e3, e4⟩ := clG_head hok (covB_iff.1 hc2).1
          dsimp only at h7 h8
          rw [hc_own hok hi e3] at h7
          rw [hc_own hok hj e4] at h8
          subst h7 h8
          exact hout hs
      have h6 : clG ids D p q = true := by rw [← hcl]; exact (covB_iff.1 hc).1
      unfold clG at h6
      rw [h5] at h6
      cases h6
end
end Go.Proofs.Ytnkdpogplkomhaa

/- The least relations row by row, as the program finds them: they are the matrix. Plain data. -/
namespace Go.Proofs.Ytnkdpogplkomhaa
open Go.RowKit

def cellQ (ids G : List Int) (F : Nat → Nat → Bool) (i j : Nat) : List Ctx := (if G.getD j 0 = ids.getD i 0 ∧ j ≠ i then [⟨ids.getD i 0, ids.getD j 0, 2⟩] else []) ++ (if G.getD j 0 = ids.getD j 0 ∧ covB F ids.length i j = true then [⟨ids.getD i 0, ids.getD j 0, 1⟩] else [])
def rowQ (ids G : List Int) (F : Nat → Nat → Bool) (i k : Nat) : List Ctx := (List.range k).flatMap fun j => cellQ ids G F i j
def upToQ (ids G : List Int) (F : Nat → Nat → Bool) (i : Nat) : List Ctx := (List.range i).flatMap fun p => if G.getD p 0 = ids.getD p 0 then rowQ ids G F p ids.length else []
def matQ (ids : List Int) (l : List Ctx) : List Ctx := upToQ ids (groupsG ids l) (ordF ids l) ids.length
section
variable {ids G : List Int} {F : Nat → Nat → Bool}
theorem rowQ_next (i k : Nat) : rowQ ids G F i (k + 1) = rowQ ids G F i k ++ cellQ ids G F i k := by
  unfold rowQ
  rw [List.range_succ, List.flatMap_append]
  simp
theorem upToQ_next (i : Nat) : upToQ ids G F (i + 1) = upToQ ids G F i ++ (if G.getD i 0 = ids.getD i 0 then rowQ ids G F i ids.length else []) := by
  unfold upToQ
  rw [List.range_succ, List.flatMap_append]
  simp
theorem cellQ_len (i j : Nat) : (cellQ ids G F i j).length ≤ 2 := by
  unfold cellQ
  split <;> split <;> simp
theorem rowQ_len (i : Nat) : ∀ k, (rowQ ids G F i k).length ≤ 2 * k
  | 0 => by simp [rowQ]
  | k + 1 => by
    have := rowQ_len i k
    have := cellQ_len (ids := ids) (G := G) (F := F) i k
    rw [rowQ_next, List.length_append]
    omega
theorem upToQ_len : ∀ i, (upToQ ids G F i).length ≤ i * (2 * ids.length)
  | 0 => by simp [upToQ]
  | i + 1 => by
    have h1 := upToQ_len i
    have h2 := rowQ_len (ids := ids) (G := G) (F := F) i ids.length
    rw [upToQ_next, List.length_append, Nat.add_mul]
    split
    · omega
    · simp; omega
theorem upToQ_200 {i k : Nat} (hn : ids.length ≤ 12) (hi : i ≤ ids.length) (hk : k ≤ ids.length) : (upToQ ids G F i).length + (rowQ ids G F i k).length ≤ 320 := by
  have h1 := upToQ_len (ids := ids) (G := G) (F := F) i
  have h2 := rowQ_len (ids := ids) (G := G) (F := F) i k
  have h3 : i * (2 * ids.length) ≤ 12 * 24 := Nat.mul_le_mul (by omega) (by omega)
  omega
theorem mem_cellQ {i j : Nat} {r : Ctx} : r ∈ cellQ ids G F i j ↔ (G.getD j 0 = ids.getD i 0 ∧ j ≠ i ∧ r = ⟨ids.getD i 0, ids.getD j 0, 2⟩) ∨ (G.getD j 0 = ids.getD j 0 ∧ covB F ids.length i j = true ∧ r = ⟨ids.getD i 0, ids.getD j 0, 1⟩) := by
  unfold cellQ
  rw [List.mem_append]
  constructor
  · rintro (h | h)
    · split at h
      · rename_i hc; exact .inl ⟨hc.1, hc.2, by simpa using h⟩
      · cases h
    · split at h
      · rename_i hc; exact .inr ⟨hc.1, hc.2, by simpa using h⟩
      · cases h
  · rintro (⟨h1, h2, rfl⟩ | ⟨h1, h2, rfl⟩)
    · left; rw [if_pos ⟨h1, h2⟩]; exact List.mem_singleton.2 rfl
    · right; rw [if_pos ⟨h1, h2⟩]; exact List.mem_singleton.2 rfl
theorem mem_rowQ {i k : Nat} {r : Ctx} : r ∈ rowQ ids G F i k ↔ ∃ j, j < k ∧ r ∈ cellQ ids G F i j := by
  unfold rowQ
  rw [List.mem_flatMap]
  constructor
  · rintro ⟨j, hj, h⟩; exact ⟨j, List.mem_range.1 hj, h⟩
  · rintro ⟨j, hj, h⟩; exact ⟨j, List.mem_range.2 hj, h⟩
theorem mem_upToQ {i : Nat} {r : Ctx} : r ∈ upToQ ids G F i ↔ ∃ p, p < i ∧ G.getD p 0 = ids.getD p 0 ∧ r ∈ rowQ ids G F p ids.length := by
  unfold upToQ
  rw [List.mem_flatMap]
  constructor
  · rintro ⟨p, hp, h⟩
    split at h
    · rename_i hc; exact ⟨p, List.mem_range.1 hp, hc, h⟩
    · cases h
  · rintro ⟨p, hp, h1, h2⟩
    exact ⟨p, List.mem_range.2 hp, by rw [if_pos h1]; exact h2⟩
end
section
variable {ids : List Int} {l : List Ctx}
theorem cov_head (h : okG ids l = true) {i j : Nat} (hi : i < ids.length) (hj : j < ids.length) (g1 : (groupsG ids l).getD i 0 = ids.getD i 0) (g2 : (groupsG ids l).getD j 0 = ids.getD j 0) : covB (ordF ids l) ids.length i j = covB (clG ids l) ids.length i j := by
  have e : ∀ p q, p < ids.length → q < ids.length → ordF ids l p q = clG ids l (hcG ids (groupsG ids l) (ids.getD p 0)) (hcG ids (groupsG ids l) (ids.getD q 0)) := fun p q hp hq => by
    unfold ordF
    rw [decide_eq_true hp, decide_eq_true hq]
    rfl
  rw [Bool.eq_iff_iff, covB_iff, covB_iff]
  constructor
  · rintro ⟨h1, h2⟩
    rw [e i j hi hj, hc_own h hi g1, hc_own h hj g2] at h1
    refine ⟨h1, fun k hk h3 => ?_⟩
    have gk := (clG_head h h3).2
    have h4 := h2 k hk (by rw [e i k hi hk, hc_own h hi g1, hc_own h hk gk]; exact h3)
    rw [e k j hk hj, hc_own h hk gk, hc_own h hj g2] at h4
    exact h4
  · rintro ⟨h1, h2⟩
    refine ⟨by rw [e i j hi hj, hc_own h hi g1, hc_own h hj g2]; exact h1, fun k hk h3 => ?_⟩
    rw [e i k hi hk, hc_own h hi g1] at h3
    have := h2 _ (hcG_lt h (getD_mem hk)) h3
    rw [e k j hk hj, hc_own h hj g2]
    exact this
theorem id_less (hv : validI ids = true) {i j : Nat} (hij : i < j) (hj : j < ids.length) : ids.getD i 0 < ids.getD j 0 :=
  asc_lt hv (i := i) (j := j) (by simp [show i < ids.length by omega]) (by simp [hj]) hij
theorem matQ_pair (h : okG ids l = true) : (matQ ids l).Pairwise (fun c d => lessR c d = true) := by
  have hv := (okG_parts h).1
  have hfirst : ∀ {p k : Nat} {r : Ctx}, r ∈ rowQ ids (groupsG ids l) (ordF ids l) p k → r.id = ids.getD p 0 ∧ ∃ j, j < k ∧ r.kind = ids.getD j 0 := fun {p k r} hr => by
    obtain ⟨j, hj, hc⟩ := mem_rowQ.1 hr
    rcases mem_cellQ.1 hc with ⟨_, _, rfl⟩ | ⟨_, _, rfl⟩
    · exact ⟨rfl, j, hj, rfl⟩
    · exact ⟨rfl, j, hj, rfl⟩
  have hrow : ∀ p k, k ≤ ids.length → p < ids.length → (rowQ ids (groupsG ids l) (ordF ids l) p k).Pairwise (fun c d => lessR c d = true) := by
    intro p k
    induction k with
    | zero => intro _ _; simp [rowQ]
    | succ k ih =>
      intro hk hp
      rw [rowQ_next, List.pairwise_append]
      refine ⟨ih (by omega) hp, ?_, fun a ha b hb => ?_⟩
      · unfold cellQ
        split
        · rename_i hc
          rw [if_neg (fun h2 => hc.2 (ids_inj hv (by omega) hp (h2.1.symm.trans hc.1)))]
          simp
        · split <;> simp
      · obtain ⟨h1, j, hj, h2⟩ := hfirst ha
        have h3 : b.id = ids.getD p 0 ∧ b.kind = ids.getD k 0 := by
          rcases mem_cellQ.1 hb with ⟨_, _, rfl⟩ | ⟨_, _, rfl⟩
          · exact ⟨rfl, rfl⟩
          · exact ⟨rfl, rfl⟩
        have h4 := id_less hv hj (show k < ids.length by omega)
        simp only [lessR, decide_eq_true_eq]
        right
        exact ⟨h1.trans h3.1.symm, .inl (by rw [h2, h3.2]; exact h4)⟩
  have hup : ∀ i, i ≤ ids.length → (upToQ ids (groupsG ids l) (ordF ids l) i).Pairwise (fun c d => lessR c d = true) := by
    intro i
    induction i with
    | zero => intro _; simp [upToQ]
    | succ i ih =>
      intro hi
      rw [upToQ_next, List.pairwise_append]
      refine ⟨ih (by omega), ?_, fun a ha b hb => ?_⟩
      · split
        · exact hrow i _ (Nat.le_refl _) (by omega)
        · exact List.Pairwise.nil
      · split at hb
        · obtain ⟨p, hp, _, hr⟩ := mem_upToQ.1 ha
          have h1 := (hfirst hr).1
          have h2 := (hfirst hb).1
          have h4 := id_less hv hp (show i < ids.length by omega)
          simp only [lessR, decide_eq_true_eq]
          left
          rw [h1, h2]
          exact h4
        · cases hb
  exact hup _ (Nat.le_refl _)
/-- They are the matrix. -/
theorem matQ_eq (h : okG ids l = true) : matQ ids l = matG ids l := by
  have hv := (okG_parts h).1
  refine asc_only lessR_ir lessR_tr _ _ (matQ_pair h) (matOf_pair hv) fun r => ?_
  show r ∈ upToQ _ _ _ _ ↔ r ∈ matOf _ _ _
  rw [mem_upToQ, mem_matOf]
  constructor
  · rintro ⟨p, hp, hg, hr⟩
    obtain ⟨j, hj, hc⟩ := mem_rowQ.1 hr
    rcases mem_cellQ.1 hc with ⟨h1, h2, rfl⟩ | ⟨h1, h2, rfl⟩
    · refine .inl ⟨j, hj, fun e => h2 (ids_inj hv hj hp (e.symm.trans h1)), by rw [h1]⟩
    · exact .inr ⟨p, j, hp, hj, by rw [← cov_head h hp hj hg h1]; exact h2, rfl⟩
  · rintro (⟨p, hp, hne, rfl⟩ | ⟨p, q, hp, hq, hc, rfl⟩)
    · have h2 : (groupsG ids l)[p]? = some ((groupsG ids l).getD p 0) := by have := groupsG_len ids l; simp [this, hp]
      obtain ⟨j, _, hj, hg⟩ := (headsG_all h).2 _ _ h2
      have hjl := (List.getElem?_eq_some_iff.1 hj).1
      have e1 : ids.getD j 0 = (groupsG ids l).getD p 0 := by rw [List.getD_eq_getElem?_getD, hj]; rfl
      have e2 : (groupsG ids l).getD j 0 = (groupsG ids l).getD p 0 := by rw [List.getD_eq_getElem?_getD, hg]; rfl
      refine ⟨j, hjl, by rw [e1, e2], mem_rowQ.2 ⟨p, hp, mem_cellQ.2 (.inl ⟨e1.symm, fun e => ?_, by rw [e1]⟩)⟩⟩
      subst e
      exact hne e1.symm
    · obtain ⟨g1, g2⟩ := clG_head h (covB_iff.1 hc).1
      exact ⟨p, hp, g1, mem_rowQ.2 ⟨q, hq, mem_cellQ.2 (.inr ⟨g2, by rw [cov_head h hp hq g1 g2]; exact hc, rfl⟩)⟩⟩
/-- What the program's iterator gives. -/
def matS (ids : List Int) (l : List Ctx) : List Ctx := if ordOkG ids l = true then matG ids l else []
theorem matS_ok (h : ordOkG ids l = true) : matS ids l = matG ids l := if_pos h
theorem matS_no (h : ordOkG ids l = false) : matS ids l = [] := by simp [matS, h]
theorem matS_len (ids : List Int) (l : List Ctx) : (matS ids l).length ≤ l.length := by
  cases h : ordOkG ids l
  · rw [matS_no h]; simp
  · rw [matS_ok h]; exact mat_len h
end
end Go.Proofs.Ytnkdpogplkomhaa
