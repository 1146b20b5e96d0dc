/- Texts that lie together in one: Qa, Qb, Rp, Qc, Qd, Qe, Qf, Qg. -/
import Derived.Test.YtnkdpogplkomhaaJj
import Derived.Test.YtnkdpogplkomhaaPe
import Derived.Test.YtnkdpogplkomhaaTriSpan
import Derived.Test.YtnkdpogplkomhaaIl
import Derived.Test.YtnkdpogplkomhaaVv
import Derived.Test.YtnkdpogplkomhaaGg
import Derived.Test.YtnkdpogplkomhaaV5
import Derived.Test.YtnkdpogplkomhaaEe
import Derived.Test.YtnkdpogplkomhaaKk
import Derived.Deep.RegionLaw
import Derived.Deep.RegionHeld3
import Derived.Laws.Bits64b
import Derived.BigQuiet
import Derived.BigRegion
import Derived.Laws.ResultCell
import Derived.Deep.LoopGhost
/- Spans found by a queue of places that have changed, as plain data. -/
namespace Go.Proofs.Ytnkdpogplkomhaa
open Go.RowKit

instance : DecidableEq Sp := fun a b => decidable_of_iff (eqS a b = true) (eqS_iff a b)
def atQ (S : List Sp) (i : Nat) : Sp := S.getD i ⟨0, 999⟩
theorem atQ_of {S : List Sp} {i : Nat} (h : i < S.length) : S[i]? = some (atQ S i) := by simp [atQ, h]
theorem atQ_set {S : List Sp} {p i : Nat} {s : Sp} (h : p < S.length) : atQ (S.set p s) i = if p = i then s else atQ S i := by
  unfold atQ
  rw [List.getD_eq_getElem?_getD, List.getElem?_set, List.getD_eq_getElem?_getD]
  by_cases e : p = i
  · rw [if_pos e, if_pos e, if_pos h]; rfl
  · rw [if_neg e, if_neg e]
/-- A span without the years outside of others. -/
def cutQ (s : Sp) (a b : Int) : Sp := ⟨max s.lo a, min s.hi b⟩
def narS (S : List Sp) (p : Nat) (a b : Int) : List Sp := S.set p (cutQ (atQ S p) a b)
def narL (S : List Sp) (L : List Nat) (p : Nat) (a b : Int) : List Nat := if cutQ (atQ S p) a b = atQ S p ∨ p ∈ L then L else L ++ [p]
theorem narS_len (S : List Sp) (p : Nat) (a b : Int) : (narS S p a b).length = S.length := by simp [narS]
theorem set_same {S : List Sp} {p : Nat} (h : p < S.length) : S.set p (atQ S p) = S := by
  refine List.ext_getElem? fun k => ?_
  rw [List.getElem?_set]
  by_cases e : p = k
  · subst e
    rw [if_pos rfl, if_pos h, atQ_of h]
  · rw [if_neg e]
theorem narS_same {S : List Sp} {p : Nat} {a b : Int} (hp : p < S.length) (h : cutQ (atQ S p) a b = atQ S p) : narS S p a b = S := by
  unfold narS
  rw [h, set_same hp]
theorem narL_same {S : List Sp} {L : List Nat} {p : Nat} {a b : Int} (h : cutQ (atQ S p) a b = atQ S p) : narL S L p a b = L := if_pos (.inl h)
theorem narL_in {S : List Sp} {L : List Nat} {p : Nat} {a b : Int} (h : p ∈ L) : narL S L p a b = L := if_pos (.inr h)
theorem narL_new {S : List Sp} {L : List Nat} {p : Nat} {a b : Int} (h : cutQ (atQ S p) a b ≠ atQ S p) (h2 : p ∉ L) : narL S L p a b = L ++ [p] := if_neg (by simp [h, h2])
theorem cutQ_full {s : Sp} {a b : Int} (h1 : a ≤ s.lo) (h2 : s.hi ≤ b) : cutQ s a b = s := Sp.ext_ (by simp [cutQ]; omega) (by simp [cutQ]; omega)
theorem narS_full {S : List Sp} {p : Nat} {a b : Int} (hp : p < S.length) (h1 : a ≤ (atQ S p).lo) (h2 : (atQ S p).hi ≤ b) : narS S p a b = S := narS_same hp (cutQ_full h1 h2)
theorem narL_full {S : List Sp} {L : List Nat} {p : Nat} {a b : Int} (h1 : a ≤ (atQ S p).lo) (h2 : (atQ S p).hi ≤ b) : narL S L p a b = L := narL_same (cutQ_full h1 h2)
/-- What spans and a queue are: within what years fit, and each place that is not queued has passed its years on. -/
def sizeQ (s : Sp) : Nat := (999 - s.lo).toNat + s.hi.toNat
def sumQ (S : List Sp) : Nat := (S.map sizeQ).sum
theorem sumQ_set : ∀ {S : List Sp} {p : Nat} {s t : Sp}, S[p]? = some t → sumQ (S.set p s) + sizeQ t = sumQ S + sizeQ s
  | [], p, s, t, h => by simp at h
  | u :: S, 0, s, t, h => by
    simp at h
    subst h
    simp [sumQ]
    omega
  | u :: S, p + 1, s, t, h => by
    have := sumQ_set (S := S) (p := p) (s := s) (t := t) (by simpa using h)
    simp [sumQ] at this ⊢
    omega
theorem sumQ_le : ∀ {S : List Sp}, (∀ s ∈ S, 0 ≤ s.lo ∧ s.hi ≤ 999) → sumQ S ≤ S.length * 1998
  | [], _ => by simp [sumQ]
  | u :: S, h => by
    have h1 := sumQ_le (S := S) fun s hs => h s (by simp [hs])
    obtain ⟨h2, h3⟩ := h u (by simp)
    simp [sumQ, sizeQ] at h1 ⊢
    omega
structure SoundQ (n : Nat) (tl th : Nat → Int) (S : List Sp) : Prop where
  len : S.length = n
  at_ : ∀ i, i < n → 0 ≤ (atQ S i).lo ∧ (atQ S i).lo ≤ tl i ∧ th i ≤ (atQ S i).hi ∧ (atQ S i).hi ≤ 999
/-- The places below k have heard of the span at p. -/
def PassQ (E F : Nat → Nat → Bool) (S : List Sp) (p k : Nat) : Prop := ∀ o, o < k →
  (E o p = true → (atQ S p).lo ≤ (atQ S o).lo ∧ (atQ S o).hi ≤ (atQ S p).hi) ∧ (F o p = true → (atQ S p).lo ≤ (atQ S o).lo) ∧ (F p o = true → (atQ S o).hi ≤ (atQ S p).hi)
structure InvQ (E F : Nat → Nat → Bool) (n : Nat) (tl th : Nat → Int) (top : Nat) (S : List Sp) (L : List Nat) : Prop where
  sound : SoundQ n tl th S
  ins : ∀ p, p ∈ L → p < n
  size : sumQ S + L.length ≤ top
  pass : ∀ p, p < n → p ∉ L → PassQ E F S p n
section
variable {E F : Nat → Nat → Bool} {n top p q k : Nat} {tl th : Nat → Int} {S : List Sp} {L : List Nat} {a b : Int}
theorem narS_at (hp : p < S.length) (i : Nat) : atQ (narS S p a b) i = if p = i then cutQ (atQ S p) a b else atQ S i := atQ_set hp
/-- A narrower span stays within what years fit. -/
theorem sound_nar (h : SoundQ n tl th S) (hp : p < n) (ha : a ≤ tl p) (hb : th p ≤ b) (ha1 : tl p ≤ 999) (hb1 : 0 ≤ th p) : SoundQ n tl th (narS S p a b) := by
  refine ⟨by rw [narS_len, h.len], fun i hi => ?_⟩
  rw [narS_at (by rw [h.len]; exact hp)]
  by_cases e : p = i
  · subst e
    obtain ⟨h1, h2, h3, h4⟩ := h.at_ p hp
    rw [if_pos rfl]
    simp only [cutQ]
    omega
  · rw [if_neg e]
    exact h.at_ i hi
theorem size_nar (h : SoundQ n tl th S) (hp : p < n) (ha : a ≤ tl p) (hb : th p ≤ b) (ha1 : tl p ≤ 999) (hb1 : 0 ≤ th p) : sumQ (narS S p a b) + (narL S L p a b).length ≤ sumQ S + L.length := by
  by_cases hc : cutQ (atQ S p) a b = atQ S p
  · rw [narS_same (by rw [h.len]; exact hp) hc, narL_same hc]
    exact Nat.le_refl _
  · have h1 := sumQ_set (s := cutQ (atQ S p) a b) (atQ_of (S := S) (i := p) (by rw [h.len]; exact hp))
    obtain ⟨h2, h3, h4, h5⟩ := h.at_ p hp
    have h6 : sizeQ (cutQ (atQ S p) a b) < sizeQ (atQ S p) := by
      have h7 : ¬ (max (atQ S p).lo a = (atQ S p).lo ∧ min (atQ S p).hi b = (atQ S p).hi) := fun h8 => hc (Sp.ext_ h8.1 h8.2)
      simp only [sizeQ, cutQ]
      omega
    have h8 : (narL S L p a b).length ≤ L.length + 1 := by
      unfold narL
      split
      · omega
      · simp
    have h9 : sumQ (narS S p a b) + sizeQ (atQ S p) = sumQ S + sizeQ (cutQ (atQ S p) a b) := h1
    omega
/-- What has passed its years on has still done so where another span is narrower. -/
theorem pass_nar (hp : p < S.length) (h : PassQ E F S q k) (hne : p ≠ q) : PassQ E F (narS S p a b) q k := by
  intro o ho
  obtain ⟨h1, h2, h3⟩ := h o ho
  rw [narS_at hp q, narS_at hp o, if_neg hne]
  by_cases e : p = o
  · subst e
    rw [if_pos rfl]
    refine ⟨fun h4 => ?_, fun h4 => ?_, fun h4 => ?_⟩
    · obtain ⟨h5, h6⟩ := h1 h4
      simp only [cutQ]
      omega
    · have := h2 h4
      simp only [cutQ]
      omega
    · have := h3 h4
      simp only [cutQ]
      omega
  · rw [if_neg e]
    exact ⟨h1, h2, h3⟩
theorem narL_mem (h : p ∈ L) : p ∈ narL S L q a b := by
  unfold narL
  split
  · exact h
  · simp [h]
theorem narL_ins (h : ∀ p, p ∈ L → p < n) (hq : q < n) : ∀ p, p ∈ narL S L q a b → p < n := by
  unfold narL
  split
  · exact h
  · intro p hp
    rcases List.mem_append.1 hp with h1 | h1
    · exact h p h1
    · simp at h1
      omega
theorem narL_own (hc : cutQ (atQ S p) a b ≠ atQ S p) : p ∈ narL S L p a b := by
  by_cases h : p ∈ L
  · exact narL_mem h
  · rw [narL_new hc h]
    simp
/-- What has passed its years on, but for one place. -/
theorem nar_pass (h : SoundQ n tl th S) (hp : p < n) (hq : q ∉ narL S L p a b) (hpass : q ∉ L → PassQ E F S q k) : PassQ E F (narS S p a b) q k := by
  have hql : q ∉ L := fun h1 => hq (narL_mem h1)
  by_cases hc : cutQ (atQ S p) a b = atQ S p
  · rw [narS_same (by rw [h.len]; exact hp) hc]
    exact hpass hql
  · refine pass_nar (by rw [h.len]; exact hp) (hpass hql) fun e => ?_
    subst e
    exact hq (narL_own hc)
theorem inv_nar (h : InvQ E F n tl th top S L) (hp : p < n) (ha : a ≤ tl p) (hb : th p ≤ b) (ha1 : tl p ≤ 999) (hb1 : 0 ≤ th p) : InvQ E F n tl th top (narS S p a b) (narL S L p a b) :=
  ⟨sound_nar h.sound hp ha hb ha1 hb1, narL_ins h.ins hp, Nat.le_trans (size_nar h.sound hp ha hb ha1 hb1) h.size, fun _ hq hqL => nar_pass h.sound hp hqL (h.pass _ hq)⟩
/-- Narrower spans keep within bounds. -/
theorem bnd_nar {lo hi : Nat → Int} (hp : p < S.length) (h : ∀ i, i < n → lo i ≤ (atQ S i).lo ∧ (atQ S i).hi ≤ hi i) : ∀ i, i < n → lo i ≤ (atQ (narS S p a b) i).lo ∧ (atQ (narS S p a b) i).hi ≤ hi i := fun i hi' => by
  have h1 := h i hi'
  rw [narS_at hp]
  by_cases e : p = i
  · subst e
    rw [if_pos rfl]
    simp only [cutQ]
    omega
  · rw [if_neg e]
    exact h1
/-- What the span s of the place p asks of another place. -/
def askQ (E F : Nat → Nat → Bool) (p : Nat) (s : Sp) (o : Nat) : Int × Int :=
  if E o p = true then (s.lo, s.hi) else if F o p = true then (s.lo, 999) else if F p o = true then (0, s.hi) else (0, 999)
/-- The queue has lost its first place, whose span s the places below k have heard of. -/
structure MidQ (E F : Nat → Nat → Bool) (n : Nat) (tl th : Nat → Int) (top p : Nat) (s : Sp) (k : Nat) (S : List Sp) (L : List Nat) : Prop where
  sound : SoundQ n tl th S
  ins : ∀ q, q ∈ L → q < n
  size : sumQ S + L.length + 1 ≤ top
  own : atQ S p = s
  pass : ∀ q, q < n → q ∉ L → q ≠ p → PassQ E F S q n
  mine : PassQ E F S p k
theorem mid_zero {L : List Nat} (h : InvQ E F n tl th top S (p :: L)) : MidQ E F n tl th top p (atQ S p) 0 S L :=
  ⟨h.sound, fun q hq => h.ins q (by simp [hq]), by have := h.size; simp at this; omega, rfl, fun q h1 h2 h3 => h.pass q h1 (by simp [h2, h3]), fun o ho => by omega⟩
theorem mid_end {s : Sp} (h : MidQ E F n tl th (top + 1) p s n S L) : InvQ E F n tl th top S L :=
  ⟨h.sound, h.ins, by have := h.size; omega, fun q h1 h2 => by
    by_cases e : q = p
    · subst e
      exact h.mine
    · exact h.pass q h1 h2 e⟩
theorem mid_next {s : Sp} (h : MidQ E F n tl th top p s k S L) (hk : k < n) (hp : p < n) (hE : E p p = true) (ht : ∀ i, i < n → tl i ≤ 999 ∧ 0 ≤ th i)
    (h1 : E k p = true → tl p ≤ tl k ∧ th k ≤ th p) (h2 : F k p = true → tl p ≤ tl k) (h3 : F p k = true → th k ≤ th p) (hx1 : F k p = true → F p k = false) (hx2 : E k p = true → F k p = false ∧ F p k = false) :
    MidQ E F n tl th top p s (k + 1) (narS S k (askQ E F p s k).1 (askQ E F p s k).2) (narL S L k (askQ E F p s k).1 (askQ E F p s k).2) := by
  obtain ⟨a, b, hab⟩ : ∃ a b, askQ E F p s k = (a, b) := ⟨_, _, rfl⟩
  rw [hab]
  dsimp only
  obtain ⟨t1, t2⟩ := ht k hk
  obtain ⟨s1, s2, s3, s4⟩ := h.sound.at_ p hp
  obtain ⟨u1, u2, u3, u4⟩ := h.sound.at_ k hk
  rw [h.own] at s1 s2 s3 s4
  have hkl : k < S.length := by rw [h.sound.len]; exact hk
  have hask : (a ≤ tl k ∧ th k ≤ b) ∧ ((E k p = true → a = s.lo ∧ b = s.hi) ∧ (F k p = true → a = s.lo) ∧ (F p k = true → b = s.hi)) := by
    unfold askQ at hab
    split at hab
    · rename_i h4
      obtain ⟨rfl, rfl⟩ := Prod.mk.inj hab
      obtain ⟨g1, g2⟩ := h1 h4
      exact ⟨⟨by omega, by omega⟩, fun _ => ⟨rfl, rfl⟩, fun _ => rfl, fun _ => rfl⟩
    · rename_i h4
      split at hab
      · rename_i h5
        obtain ⟨rfl, rfl⟩ := Prod.mk.inj hab
        have g1 := h2 h5
        exact ⟨⟨by omega, by omega⟩, fun h6 => absurd h6 h4, fun _ => rfl, fun h6 => by rw [hx1 h5] at h6; cases h6⟩
      · rename_i h5
        split at hab
        · rename_i h6
          obtain ⟨rfl, rfl⟩ := Prod.mk.inj hab
          have g1 := h3 h6
          exact ⟨⟨by omega, by omega⟩, fun h7 => absurd h7 h4, fun h7 => absurd h7 h5, fun _ => rfl⟩
        · rename_i h6
          obtain ⟨rfl, rfl⟩ := Prod.mk.inj hab
          exact ⟨⟨by omega, by omega⟩, fun h7 => absurd h7 h4, fun h7 => absurd h7 h5, fun h7 => absurd h7 h6⟩
  obtain ⟨⟨q1, q2⟩, q3, q4, q5⟩ := hask
  have hown : atQ (narS S k a b) p = s := by
    rw [narS_at hkl]
    by_cases e : k = p
    · subst e
      obtain ⟨e1, e2⟩ := q3 hE
      rw [if_pos rfl, h.own, e1, e2]
      exact cutQ_full (Int.le_refl _) (Int.le_refl _)
    · rw [if_neg e]
      exact h.own
  refine ⟨sound_nar h.sound hk q1 q2 t1 t2, narL_ins h.ins hk, by have := size_nar (L := L) h.sound hk q1 q2 t1 t2; have := h.size; omega, hown, fun q g1 g2 g3 => nar_pass h.sound hk g2 fun g4 => h.pass q g1 g4 g3, fun o ho => ?_⟩
  show (E o p = true → (atQ (narS S k a b) p).lo ≤ _ ∧ _ ≤ (atQ (narS S k a b) p).hi) ∧ (F o p = true → (atQ (narS S k a b) p).lo ≤ _) ∧ (F p o = true → _ ≤ (atQ (narS S k a b) p).hi)
  rw [hown]
  by_cases e : k = o
  · subst e
    rw [narS_at hkl, if_pos rfl]
    simp only [cutQ]
    refine ⟨fun g => ?_, fun g => ?_, fun g => ?_⟩
    · obtain ⟨e1, e2⟩ := q3 g
      omega
    · have := q4 g
      omega
    · have := q5 g
      omega
  · have := h.mine o (by omega)
    rw [h.own] at this
    rw [narS_at hkl, if_neg e]
    exact this
end
section
variable {ids : List Int} {l B : List Ctx} {S : List Sp} {top : Nat}
/-- Places of one group. -/
def sameQ (ids : List Int) (l : List Ctx) (i j : Nat) : Bool := decide ((groupsG ids l).getD i 0 = (groupsG ids l).getD j 0)
def dirQ (ids : List Int) (l : List Ctx) : Nat → Nat → Bool := dirA ids (groupsG ids l) l
theorem sameQ_self (i : Nat) : sameQ ids l i i = true := by simp [sameQ]
theorem same_join {i j : Nat} (hi : i < ids.length) (hj : j < ids.length) (h : sameQ ids l i j = true) : joinK ids l i j = true ∧ joinK ids l j i = true := by
  simp only [sameQ, decide_eq_true_eq] at h
  exact ⟨by rw [joinK_at hi hj, joinJ_iff]; exact .inr h, by rw [joinK_at hj hi, joinJ_iff]; exact .inr h.symm⟩
theorem clos_ord (h : okG ids l = true) {i j : Nat} (hi : i < ids.length) (hj : j < ids.length) : clos (dirQ ids l) ids.length i j = ordF ids l i j := by
  have h1 : ids[i]? = some (ids.getD i 0) := by simp [hi]
  have h2 : ids[j]? = some (ids.getD j 0) := by simp [hj]
  rw [dirQ, upA h h1 h2]
  simp [ordF, hi, hj]
theorem dir_ord (h : okG ids l = true) {i j : Nat} (hd : dirQ ids l i j = true) : i < ids.length ∧ j < ids.length ∧ ordF ids l i j = true := by
  obtain ⟨hi, hj⟩ := dirA_in h i j hd
  exact ⟨hi, hj, by rw [← clos_ord h hi hj]; exact clos_direct hd⟩
theorem dir_join (h : okG ids l = true) {i j : Nat} (hd : dirQ ids l i j = true) : joinK ids l i j = true := by
  obtain ⟨hi, hj, ho⟩ := dir_ord h hd
  rw [joinK_at hi hj, joinJ_iff]
  exact .inl ho
theorem ord_irr (h : ordOkG ids l = true) {i : Nat} (hi : i < ids.length) : ordF ids l i i = false := by
  have h1 := h
  simp only [ordOkG, Bool.and_eq_true, List.all_eq_true, Bool.not_eq_true'] at h1
  have h2 := h1.2 ids[i] (List.getElem_mem hi)
  simp [ordF, hi, h2]
theorem dir_anti (h : ordOkG ids l = true) {i j : Nat} (hd : dirQ ids l i j = true) : dirQ ids l j i = false := by
  cases he : dirQ ids l j i
  · rfl
  · obtain ⟨hi, hj, h1⟩ := dir_ord (ordOk_okG h) hd
    obtain ⟨_, _, h2⟩ := dir_ord (ordOk_okG h) he
    have h3 := ordF_tr (ordOk_okG h) _ _ _ h1 h2
    rw [ord_irr h hi] at h3
    cases h3
theorem same_dir (h : ordOkG ids l = true) {i j : Nat} (hi : i < ids.length) (hj : j < ids.length) (hs : sameQ ids l i j = true) : dirQ ids l i j = false ∧ dirQ ids l j i = false := by
  simp only [sameQ, decide_eq_true_eq] at hs
  constructor
  · cases he : dirQ ids l i j
    · rfl
    · have h1 := (dir_ord (ordOk_okG h) he).2.2
      rw [(ordF_same (ordOk_okG h) hi hj hs j).1, ord_irr h hj] at h1
      cases h1
  · cases he : dirQ ids l j i
    · rfl
    · have h1 := (dir_ord (ordOk_okG h) he).2.2
      rw [(ordF_same (ordOk_okG h) hi hj hs j).2, ord_irr h hj] at h1
      cases h1
theorem lowD_top (h : argsD ids l B = true) (i : Nat) : lowD ids l B i ≤ 999 := maxF_most (by omega) fun j _ _ => lowB_max (argsD_parts h).2.1 _
theorem highD_zero (h : argsD ids l B = true) (i : Nat) : 0 ≤ highD ids l B i := minF_least (by omega) fun j _ _ => highB_min (argsD_parts h).2.1 _
/-- An empty queue's spans are those that are as tight as possible. -/
theorem inv_end (h : argsD ids l B = true) (hi : InvQ (sameQ ids l) (dirQ ids l) ids.length (lowD ids l B) (highD ids l B) top S []) (hb : ∀ i, i < ids.length → loP ids B i ≤ (atQ S i).lo ∧ (atQ S i).hi ≤ hiP ids B i) : S = allD ids l B := by
  have hok := ordOk_okG (argsD_parts h).1
  have hJ : ∀ i j, joinK ids l i j = true → (atQ S j).lo ≤ (atQ S i).lo ∧ (atQ S j).hi ≤ (atQ S i).hi := by
    intro i j hJ
    simp only [joinK, Bool.and_eq_true, decide_eq_true_eq] at hJ
    obtain ⟨h1, h2, h3⟩ := hJ
    rcases joinJ_iff.1 h3 with h4 | h4
    · rw [← clos_ord hok h1 h2] at h4
      refine clos_least (f := dirQ ids l) (T := fun i j => (atQ S j).lo ≤ (atQ S i).lo ∧ (atQ S j).hi ≤ (atQ S i).hi) (fun i j hd => ?_) (fun i j k a1 a2 => ⟨Int.le_trans a2.1 a1.1, Int.le_trans a2.2 a1.2⟩) h4
      obtain ⟨g1, g2, _⟩ := dir_ord hok hd
      exact ⟨(hi.pass j g2 (by simp) i g1).2.1 hd, (hi.pass i g1 (by simp) j g2).2.2 hd⟩
    · have h5 : sameQ ids l i j = true := by simp only [sameQ, decide_eq_true_eq]; exact h4
      have h6 : sameQ ids l j i = true := by simp only [sameQ, decide_eq_true_eq]; exact h4.symm
      exact ⟨((hi.pass j h2 (by simp) i h1).1 h5).1, ((hi.pass i h1 (by simp) j h2).1 h6).2⟩
  refine List.ext_getElem? fun i => ?_
  by_cases hi' : i < ids.length
  · rw [allD_at hi', atQ_of (by rw [hi.sound.len]; exact hi')]
    obtain ⟨h1, h2, h3, h4⟩ := hi.sound.at_ i hi'
    have h5 : lowD ids l B i ≤ (atQ S i).lo := maxF_most h1 fun j hj hjJ => by
      have := (hb j (List.mem_range.1 hj)).1
      have := (hJ i j hjJ).1
      omega
    have h6 : (atQ S i).hi ≤ highD ids l B i := minF_least h4 fun j hj hjJ => by
      have := (hb j (List.mem_range.1 hj)).2
      have := (hJ j i hjJ).2
      omega
    exact congrArg some (Sp.ext_ (Int.le_antisymm h2 h5) (Int.le_antisymm h6 h3))
  · rw [List.getElem?_eq_none (by rw [hi.sound.len]; omega), List.getElem?_eq_none (by rw [allD_len]; omega)]
/-- All years, and nothing queued. -/
def fullQ (n : Nat) : List Sp := List.replicate n ⟨0, 999⟩
theorem fullQ_at (n i : Nat) : atQ (fullQ n) i = ⟨0, 999⟩ := by
  unfold atQ fullQ
  rw [List.getD_eq_getElem?_getD, List.getElem?_replicate]
  split <;> rfl
theorem inv_full : InvQ (sameQ ids l) (dirQ ids l) ids.length (lowD ids l B) (highD ids l B) (ids.length * 1998) (fullQ ids.length) [] := by
  refine ⟨⟨by simp [fullQ], fun i _ => ?_⟩, by simp, ?_, fun p _ _ o _ => ?_⟩
  · rw [fullQ_at]
    exact ⟨Int.le_refl _, spLow_zero i, spHigh_top i, Int.le_refl _⟩
  · have := sumQ_le (S := fullQ ids.length) fun s hs => by
      simp only [fullQ, List.mem_replicate] at hs
      rw [hs.2]
      exact ⟨Int.le_refl _, Int.le_refl _⟩
    simp [fullQ] at this ⊢
    omega
  · rw [fullQ_at, fullQ_at]
    simp
theorem low_join (h : okG ids l = true) {i j : Nat} (hJ : joinK ids l i j = true) : lowD ids l B j ≤ lowD ids l B i ∧ highD ids l B j ≤ highD ids l B i :=
  ⟨spLow_mono (joinK_tr h) hJ, spHigh_mono (joinK_tr h) hJ⟩
/-- One place more has heard of a span. -/
theorem mid_step {p k : Nat} {s : Sp} {L : List Nat} (h : argsD ids l B = true) (hm : MidQ (sameQ ids l) (dirQ ids l) ids.length (lowD ids l B) (highD ids l B) top p s k S L) (hk : k < ids.length) (hp : p < ids.length) :
    MidQ (sameQ ids l) (dirQ ids l) ids.length (lowD ids l B) (highD ids l B) top p s (k + 1) (narS S k (askQ (sameQ ids l) (dirQ ids l) p s k).1 (askQ (sameQ ids l) (dirQ ids l) p s k).2) (narL S L k (askQ (sameQ ids l) (dirQ ids l) p s k).1 (askQ (sameQ ids l) (dirQ ids l) p s k).2) := by
  have ho := (argsD_parts h).1
  have hok := ordOk_okG ho
  refine mid_next hm hk hp (sameQ_self p) (fun i _ => ⟨lowD_top h i, highD_zero h i⟩) (fun h1 => ?_) (fun h1 => (low_join hok (dir_join hok h1)).1) (fun h1 => (low_join hok (dir_join hok h1)).2) (fun h1 => dir_anti ho h1) (fun h1 => same_dir ho hk hp h1)
  obtain ⟨j1, j2⟩ := same_join hk hp h1
  exact ⟨(low_join hok j1).1, (low_join hok j2).2⟩
/-- A bound has narrowed its context's span. -/
theorem inv_bound {k : Nat} {b : Ctx} {L : List Nat} (h : argsD ids l B = true) (hb : B[k]? = some b) (hi : InvQ (sameQ ids l) (dirQ ids l) ids.length (lowD ids l B) (highD ids l B) top S L)
    (hl : ∀ i, i < ids.length → loP ids (B.take k) i ≤ (atQ S i).lo ∧ (atQ S i).hi ≤ hiP ids (B.take k) i) :
    InvQ (sameQ ids l) (dirQ ids l) ids.length (lowD ids l B) (highD ids l B) top (narS S (placeI ids b.id) b.kind b.area) (narL S L (placeI ids b.id) b.kind b.area) ∧
    ∀ i, i < ids.length → loP ids (B.take (k + 1)) i ≤ (atQ (narS S (placeI ids b.id) b.kind b.area) i).lo ∧ (atQ (narS S (placeI ids b.id) b.kind b.area) i).hi ≤ hiP ids (B.take (k + 1)) i := by
  obtain ⟨h1, h2, h3⟩ := argsD_parts h
  have hm := List.mem_of_getElem? hb
  obtain ⟨_, p2, p3⟩ := placeI_at (h3 b hm)
  have p4 : b.id = ids.getD (placeI ids b.id) 0 := by rw [List.getD_eq_getElem?_getD, p3]; rfl
  obtain ⟨d1, d2⟩ := dates_in (l := l) p2 hm p4
  refine ⟨inv_nar hi p2 d1 d2 (lowD_top h _) (highD_zero h _), fun i hi' => ?_⟩
  have hv := (okG_parts (ordOk_okG h1)).1
  obtain ⟨g1, g2⟩ := hl i hi'
  rw [narS_at (by rw [hi.sound.len]; exact p2)]
  unfold loP hiP lowB highB at *
  rw [maxF_next hb, minF_next hb]
  by_cases e : placeI ids b.id = i
  · subst e
    rw [if_pos rfl, if_pos (show ofB _ b = true from decide_eq_true p4), if_pos (show ofB _ b = true from decide_eq_true p4)]
    simp only [cutQ]
    omega
  · have hne : ofB (ids.getD i 0) b = false := by
      simp only [ofB, decide_eq_false_iff_not]
      intro e2
      exact e (placeI_own hv (by rw [e2]; simp [hi']))
    rw [if_neg e, if_neg (by rw [hne]; exact Bool.false_ne_true), if_neg (by rw [hne]; exact Bool.false_ne_true)]
    exact ⟨g1, g2⟩
end
end Go.Proofs.Ytnkdpogplkomhaa

/- The queue of places and the spans of all places, in memory. -/
namespace Go.Proofs.Ytnkdpogplkomhaa
open Go.RowKit

def numQ (L : List Nat) : List Int := L.map fun (n : Nat) => (n : Int)
theorem numQ_len (L : List Nat) : (numQ L).length = L.length := by simp [numQ]
theorem numQ_mem {L : List Nat} {p : Nat} : decide ((p : Int) ∈ numQ L) = decide (p ∈ L) := by
  rw [decide_eq_decide]
  simp only [numQ, List.mem_map]
  constructor
  · rintro ⟨a, h1, h2⟩
    have : a = p := by omega
    exact this ▸ h1
  · exact fun h => ⟨p, h, rfl⟩
theorem numQ_app (L : List Nat) (p : Nat) : numQ L ++ [(p : Int)] = numQ (L ++ [p]) := by simp [numQ]
theorem qCells_app (l m : List Int) : cellsI (l ++ m) = cellsI l ++ cellsI m := by simp [cellsI]
/-- A slice of numbers in a block of one's own, from any of its cells on. -/
def TailQ (w : World) (base : Nat) (v : Value) (l : List Int) : Prop :=
  (v = .slice none 0 0 ∧ l = []) ∨ ∃ g off cap cur, v = .slice (some ⟨g, off, none⟩) l.length cap ∧ base ≤ g ∧ w.heap[g]? = some (.cells cur 3 (0, 0)) ∧ l.length ≤ cap ∧ cap ≤ maxLen ∧ off + cap ≤ cur.size ∧ (cur.toList.drop off).take l.length = cellsI l
section
variable {w w2 : World} {base : Nat} {v : Value} {l : List Int}
theorem TailQ.lt (h : TailQ w base v l) : ∀ k, v.ownBlock = some k → base ≤ k ∧ k < w.heap.size := by
  intro k hk
  rcases h with ⟨rfl, _⟩ | ⟨g, off, cap, cur, rfl, hb, hg, _⟩
  · simp [Value.ownBlock] at hk
  · simp [Value.ownBlock] at hk
    subst hk
    exact ⟨hb, (Array.getElem?_eq_some_iff.1 hg).1⟩
theorem TailQ.other (h : TailQ w base v l) (hk : ∀ k, v.ownBlock = some k → w2.heap[k]? = w.heap[k]?) : TailQ w2 base v l := by
  rcases h with h | ⟨g, off, cap, cur, hv, hb, hg, rest⟩
  · exact .inl h
  · exact .inr ⟨g, off, cap, cur, hv, hb, (hk g (by rw [hv]; rfl)).trans hg, rest⟩
theorem TailQ.step (h : TailQ w base v l) (hb : Below w.heap.size w w2) : TailQ w2 base v l := h.other fun k hk => hb.block k (h.lt k hk).2
theorem TailQ.reads (h : TailQ w base v l) : ∃ A c, v = .slice A l.length c ∧ Reads w w.heap.size 1 A l.length (cellsI l) := by
  rcases h with ⟨rfl, rfl⟩ | ⟨g, off, cap, cur, rfl, hb, hg, hn, hm, hs, ht⟩
  · exact ⟨none, 0, rfl, Reads.nil_⟩
  · refine ⟨_, cap, rfl, by rw [length_cellsI]; omega, fun _ => ⟨g, off, rfl, (Array.getElem?_eq_some_iff.1 hg).1, fun j u hu => ?_⟩⟩
    rw [cell_of_row _ _ _ _ _ _ hg]
    rw [← ht, List.getElem?_take] at hu
    split at hu
    · rw [List.getElem?_drop] at hu
      simpa using hu
    · cases hu
theorem TailQ.of_own (h : w.ownsRow base 3 1 v l.length (cellsI l)) : TailQ w base v l := by
  rcases h.2 with ⟨hv, hn⟩ | ⟨g, cap, cur, hv, hb, hg, hn, hm, hs, ht⟩
  · exact .inl ⟨hv, List.eq_nil_of_length_eq_zero hn⟩
  · exact .inr ⟨g, 0, cap, cur, hv, hb, hg, hn, hm, by omega, by simpa using ht⟩
/-- Without its first number: the slice from 1 on. -/
theorem TailQ.tail {x : Int} {A : Option Addr} {n cap : Nat} (h : TailQ w base (.slice A n cap) (x :: l)) : ∃ g off, A = some ⟨g, off, none⟩ ∧ n = l.length + 1 ∧ l.length + 1 ≤ cap ∧ base ≤ g ∧ g < w.heap.size ∧ w.cell? ⟨g, off, none⟩ = some (.int .i64 x) ∧
    (cap = 1 → TailQ w base (.slice (some ⟨g, off, none⟩) l.length 0) l) ∧ TailQ w base (.slice (some ⟨g, off + 1, none⟩) l.length (cap - 1)) l := by
  rcases h with ⟨_, h⟩ | ⟨g, off, cap2, cur, hv, hb, hg, hn, hm, hs, ht⟩
  · cases h
  · injection hv with e1 e2 e3
    subst e1 e3
    rw [List.length_cons] at hn ht e2
    have hlt : off < cur.toList.length := by rw [Array.length_toList]; omega
    have h0 : cur.toList.drop off = cur.toList[off] :: cur.toList.drop (off + 1) := List.drop_eq_getElem_cons hlt
    rw [h0, List.take_succ_cons] at ht
    have ht2 : cur.toList[off] :: (cur.toList.drop (off + 1)).take l.length = .int .i64 x :: cellsI l := ht
    injection ht2 with h1 h2
    refine ⟨g, off, rfl, e2, hn, hb, (Array.getElem?_eq_some_iff.1 hg).1, ?_, fun hc => ?_, .inr ⟨g, off + 1, cap - 1, cur, rfl, hb, hg, by omega, by omega, by omega, h2⟩⟩
    · rw [cell_of_row _ _ _ _ _ _ hg, ← h1]
      have : off < cur.size := by omega
      simp [this]
    · subst hc
      have hl : l = [] := List.eq_nil_of_length_eq_zero (by omega)
      subst hl
      exact .inr ⟨g, off, 0, cur, rfl, hb, hg, Nat.le_refl _, by omega, by omega, rfl⟩
end
section
variable {P : Program} (w : World)
theorem run_append_room_at (t ty e : TypeId) (i : TypeInfo) (ht : P.underlying t = some (.slice e)) (hi : P.info? e = some i) (hsz : i.size = 1)
    (g off sLen sCap : Nat) (cur : Array Value) (hg : w.heap[g]? = some (.cells cur e (0, 0)))
    (a : Addr) (c : Nat) (x : Value) (hnews : w.cell? (a.add 0) = some x) (h1 : x.oneCell' = true)
    (hroom : sLen + 1 ≤ sCap) (hfit : off + sLen + 1 ≤ cur.size) :
    (Builtin.append_ #[t, t] ty #[.slice (some ⟨g, off, none⟩) sLen sCap, .slice (some a) 1 c]).run P w =
      .ok (.slice (some ⟨g, off, none⟩) (sLen + 1) sCap) (w.setRow g (cur.toList.take (off + sLen) ++ [x] ++ cur.toList.drop (off + sLen + 1)).toArray) := by
  have hf := run_firstCells_some (P := P) w i.size 1 a 1 c [x] (by rw [hsz]; rfl) (fun j u hu => by
    cases j with
    | zero => simp at hu; subst hu; exact hnews
    | succ j => simp at hu)
  have hst := run_storeCells_at P g (off + sLen) e [x] 0 cur w hg (by simpa using hfit) (by simpa using h1)
  simp only [Nat.add_zero] at hst
  rw [hsz] at hf
  simp [Builtin.append_, run_underlying ht, sizeOf, typeInfo, hi, hsz, Builtin.lenOf, hroom, hf, Addr.add_lit, hst]
end
theorem run_append_tail {base : Nat} {t ty : TypeId} {i : TypeInfo} {w : World} (ht : Try.prog.underlying t = some (.slice 3)) (hi : Try.prog.info? 3 = some i) (hz : i.zero = some (.int .i64 0)) (hsize : i.size = 1) (hby : i.bytes = 8)
    (v : Value) (l : List Int) (hT : TailQ w base v l) (B : Nat) (A : Option Addr) (c : Nat) (x : Int) (hr : Reads w B 1 A 1 (cellsI [x])) (hl : l.length ≤ 1000000) (hbase : base ≤ w.heap.size) :
    ∃ v2 w2, (Builtin.append_ #[t, t] ty #[v, .slice A 1 c]).run Try.prog w = .ok v2 w2 ∧ TailQ w2 base v2 (l ++ [x]) ∧ w.grownBy w2 v.ownBlock ∧ (v2.ownBlock = v.ownBlock ∨ v2.ownBlock = some w.heap.size) := by
  rcases hT with ⟨rfl, rfl⟩ | ⟨g, off, cap, cur, rfl, hb, hg, hn, hm, hs, htk⟩
  · obtain ⟨v2, w2, h1, h2, h3, h4⟩ := run_append_reads (P := Try.prog) w base t ty 3 i _ 1 8 ht hi hz hsize hby rfl (by omega) _ 0 [] (World.ownsRow_nil w base 3 1) B A 1 c (cellsI [x]) hr (cellsI_one _) (by simp only [maxLen]; omega) (by omega) hbase
    exact ⟨v2, w2, h1, .of_own h2, h3, h4⟩
  · obtain ⟨b, o, rfl, _, hc⟩ := hr.2 (by omega)
    have hx : w.cell? ((⟨b, o, none⟩ : Addr).add 0) = some (.int .i64 x) := by
      have := hc 0 (.int .i64 x) rfl
      simpa [Addr.add] using this
    by_cases hroom : l.length + 1 ≤ cap
    · have hrun := run_append_room_at (P := Try.prog) w t ty 3 i ht hi hsize g off l.length cap cur hg _ c _ hx rfl hroom (by omega)
      refine ⟨_, _, hrun, .inr ⟨g, off, cap, _, by simp, hb, setRow_heap w g cur _ 3 _ hg, by simpa using hroom, hm, ?_, ?_⟩, ⟨rfl, rfl, rfl, by simp, fun k _ hk => setRow_other w g k _ (fun e => hk (by simp [Value.ownBlock, e]))⟩, .inl rfl⟩
      · simp only [List.size_toArray, List.length_append, List.length_take, List.length_drop, Array.length_toList, List.length_cons, List.length_nil]
        omega
      · have e1 : (cur.toList.take (off + l.length)).length = off + l.length := by
          have : cur.toList.length = cur.size := Array.length_toList
          rw [List.length_take]
          omega
        have e2 : (cur.toList.take (off + l.length)).drop off = cellsI l := by
          rw [List.drop_take]
          simpa using htk
        show (List.drop off (cur.toList.take (off + l.length) ++ [Value.int .i64 x] ++ cur.toList.drop (off + l.length + 1))).take (l ++ [x]).length = cellsI (l ++ [x])
        rw [List.append_assoc, List.drop_append_of_le_length (by omega), e2, qCells_app, ← List.append_assoc]
        have e3 : (l ++ [x]).length = (cellsI l ++ [Value.int .i64 x]).length := by simp [cellsI]
        rw [e3]
        exact List.take_left
    · have hrun := run_append_grow (P := Try.prog) w t ty 3 i _ ht hi hz ⟨g, off, none⟩ l.length cap (cellsI l) (by rw [length_cellsI, hsize]; omega) (fun j u hu => by
          rw [Addr.add_lit, cell_of_row _ _ _ _ _ _ hg]
          rw [← htk, List.getElem?_take] at hu
          split at hu
          · rw [List.getElem?_drop] at hu
            simpa using hu
          · cases hu) ⟨b, o, none⟩ 1 c (cellsI [x]) (by rw [hsize]; rfl) (fun j u hu => by
          cases j with
          | zero => simp [cellsI] at hu; subst hu; exact hx
          | succ j => simp [cellsI] at hu) (by omega) (by omega) (growslice_fits (by omega) (by rw [hby]; omega))
      have hge := grownCap_ge w (l.length + 1) cap 3
      have hcm : grownCap w (l.length + 1) cap 3 ≤ maxLen := grownCap_le_maxLen w (l.length + 1) cap 3 (by simp only [maxLen]; omega)
      refine ⟨_, _, hrun, .inr ⟨w.heap.size, 0, _, _, by simp, hbase, heap_alloc_new w.drew _, by simpa using hge, hcm, ?_, ?_⟩, ⟨rfl, rfl, rfl, by simp, fun k hk _ => Below.heap_alloc w.drew _ k hk⟩, .inr rfl⟩
      · simp only [Array.size_append, List.size_toArray, size_zeroCells, length_cellsI, List.length_cons, List.length_nil]
        have : (Value.int .i64 0).cells.size = 1 := rfl
        rw [this]
        omega
      · simp only [Array.toList_append, List.drop_zero]
        rw [← qCells_app]
        have e3 : (l ++ [x]).length = (cellsI (l ++ [x])).length := by simp [cellsI]
        rw [e3]
        exact List.take_left
theorem wpList_append_tail {ops : Array Oper} {rest : List Oper} {o : Oper} {a : Act} {Q : Exit → Act → World → Prop} {w : World} (hgd : o.guard = none) (s x : Operand) (t : TypeId)
    (ho : o.op = .call { callee := .builtin .append, args := #[s, x], argTypes := #[t, t] })
    (base : Nat) (i : TypeInfo) (ht : Try.prog.underlying t = some (.slice 3)) (hi : Try.prog.info? 3 = some i) (hz : i.zero = some (.int .i64 0)) (hsize : i.size = 1) (hby : i.bytes = 8)
    (v : Value) (l : List Int) (hs : a.eval s = v) (hT : TailQ w base v l)
    (B : Nat) (A : Option Addr) (c : Nat) (y : Int) (hx : a.eval x = .slice A 1 c) (hr : Reads w B 1 A 1 (cellsI [y])) (hl : l.length ≤ 1000000) (hbase : base ≤ w.heap.size)
    (h : ∀ v2 w2, TailQ w2 base v2 (l ++ [y]) → w.grownBy w2 v.ownBlock → (v2.ownBlock = v.ownBlock ∨ v2.ownBlock = some w.heap.size) → wpList Try.prog ops Q rest (a.put o.dst v2) w2) : wpList Try.prog ops Q (o :: rest) a w := by
  refine wpList_plain hgd fun K hK => ?_
  obtain ⟨v2, w2, hrun, h2, h3, h4⟩ := run_append_tail (ty := o.type) ht hi hz hsize hby v l hT B A c y hr hl hbase
  unfold Oper.wp execOp
  simp only [ho, resolve, invoke, builtin, Sem.run_bind, Sem.run_pure, Result.andThen_ok, List.map_toArray, List.map_cons, List.map_nil, hs, hx, hrun]
  exact hK _ _ (h v2 w2 h2 h3 h4)
/-- The block hb holds the queue: its order, its spans in a row of the call's own, and its places. -/
structure QMem (w : World) (base hb : Nat) (o1 o2 o3 vs vc : Value) (S : List Sp) (l : List Int) : Prop where
  blk : w.heap[hb]? = some (.cells #[o1, o2, o3, vs, vc] 131 (0, 0))
  spans : w.ownsRow base 33 2 vs S.length (cellsS S)
  row : TailQ w base vc l
  lo : base ≤ hb
  far1 : vs.ownBlock ≠ some hb
  far2 : vc.ownBlock ≠ some hb
  apart : ∀ k, vs.ownBlock = some k → vc.ownBlock ≠ some k
/-- Only the queue's block, its spans' row and its places' row have turned, and new blocks. -/
structure QKeep (w w2 : World) (hb : Nat) (vs vc vc2 : Value) : Prop where
  os : w2.os = w.os
  tape : w2.tape = w.tape
  output : w2.output = w.output
  size : w.heap.size ≤ w2.heap.size
  block : ∀ k, k < w.heap.size → k ≠ hb → vs.ownBlock ≠ some k → vc.ownBlock ≠ some k → w2.heap[k]? = w.heap[k]?
  late : ∀ k, vc2.ownBlock = some k → vc.ownBlock = some k ∨ w.heap.size ≤ k
section
variable {w w2 w3 : World} {base hb : Nat} {o1 o2 o3 vs vc vc2 vc3 : Value} {S : List Sp} {l l2 : List Int}
theorem QKeep.of_below (h : Below w.heap.size w w2) (hb : Nat) (vs vc : Value) : QKeep w w2 hb vs vc vc := ⟨h.os, h.tape, h.output, h.size, fun k hk _ _ _ => h.block k hk, fun _ h => .inl h⟩
theorem QKeep.refl (w : World) (hb : Nat) (vs vc : Value) : QKeep w w hb vs vc vc := .of_below (Below.refl _ _) hb vs vc
theorem QKeep.trans (h : QKeep w w2 hb vs vc vc2) (k : QKeep w2 w3 hb vs vc2 vc3) : QKeep w w3 hb vs vc vc3 :=
  ⟨k.os.trans h.os, k.tape.trans h.tape, k.output.trans h.output, Nat.le_trans h.size k.size, fun i hi hne h1 h2 => by
    refine (k.block i (by have := h.size; omega) hne h1 fun e => ?_).trans (h.block i hi hne h1 h2)
    rcases h.late i e with h3 | h3
    · exact h2 h3
    · omega, fun i hi => by
    rcases k.late i hi with h1 | h1
    · exact h.late i h1
    · right; have := h.size; omega⟩
theorem QKeep.cell (h : QKeep w w2 hb vs vc vc2) {b o : Nat} (hb1 : b < w.heap.size) (hb2 : b ≠ hb) (hb3 : vs.ownBlock ≠ some b) (hb4 : vc.ownBlock ≠ some b) : w2.cell? ⟨b, o, none⟩ = w.cell? ⟨b, o, none⟩ :=
  World.cell?_of_block (w := w) (a := ⟨b, o, none⟩) (h.block b hb1 hb2 hb3 hb4)
theorem QMem.lt (h : QMem w base hb o1 o2 o3 vs vc S l) : hb < w.heap.size := (Array.getElem?_eq_some_iff.1 h.blk).1
theorem QMem.base_ (h : QMem w base hb o1 o2 o3 vs vc S l) : base ≤ w.heap.size := Nat.le_trans h.lo (Nat.le_of_lt h.lt)
theorem QKeep.below (k : QKeep w w2 hb vs vc vc2) (h : QMem w base hb o1 o2 o3 vs vc S l) : Below base w w2 :=
  ⟨k.os, k.tape, k.output, k.size, fun i hi => k.block i (by have := h.base_; omega) (by have := h.lo; omega) (fun e => by have := (h.spans.lt i e).1; omega) (fun e => by have := (h.row.lt i e).1; omega)⟩
theorem QMem.cells (h : QMem w base hb o1 o2 o3 vs vc S l) : w.cell? ⟨hb, 0, none⟩ = some o1 ∧ w.cell? ⟨hb, 1, none⟩ = some o2 ∧ w.cell? ⟨hb, 2, none⟩ = some o3 ∧ w.cell? ⟨hb, 3, none⟩ = some vs ∧ w.cell? ⟨hb, 4, none⟩ = some vc ∧ w.frozen? ⟨hb, 4, none⟩ = false :=
  ⟨cell_of_row _ _ 0 _ _ _ h.blk, cell_of_row _ _ 1 _ _ _ h.blk, cell_of_row _ _ 2 _ _ _ h.blk, cell_of_row _ _ 3 _ _ _ h.blk, cell_of_row _ _ 4 _ _ _ h.blk, frozen_of_row _ _ 4 _ _ h.blk⟩
theorem QMem.step (h : QMem w base hb o1 o2 o3 vs vc S l) (hb2 : Below w.heap.size w w2) : QMem w2 base hb o1 o2 o3 vs vc S l :=
  ⟨(hb2.block hb h.lt).trans h.blk, own_below h.spans hb2, h.row.step hb2, h.lo, h.far1, h.far2, h.apart⟩
/-- A span is laid into its row. -/
theorem QMem.lay {g n cap k : Nat} (h : QMem w base hb o1 o2 o3 (.slice (some ⟨g, 0, none⟩) n cap) vc S l) (hn : n = S.length) (hk : k < n) (c : Sp) :
    QMem ((w.setCell ⟨g, k * 2, none⟩ (.int .i64 c.lo)).setCell ⟨g, k * 2 + 1, none⟩ (.int .i64 c.hi)) base hb o1 o2 o3 (.slice (some ⟨g, 0, none⟩) n cap) vc (S.set k c) l ∧
    QKeep w ((w.setCell ⟨g, k * 2, none⟩ (.int .i64 c.lo)).setCell ⟨g, k * 2 + 1, none⟩ (.int .i64 c.hi)) hb (.slice (some ⟨g, 0, none⟩) n cap) vc vc := by
  subst hn
  have h1 := own_store2 h.spans hk c
  have hg : w.grownBy ((w.setCell ⟨g, k * 2, none⟩ (.int .i64 c.lo)).setCell ⟨g, k * 2 + 1, none⟩ (.int .i64 c.hi)) (some g) := grown_store (grown_store (World.grownBy.refl _ _))
  refine ⟨⟨(hg.block hb h.lt fun e => h.far1 (by injection e with e; rw [e]; rfl)).trans h.blk, by rw [List.length_set]; exact h1, h.row.other fun k hk => hg.block k (h.row.lt k hk).2 fun e => h.apart g rfl (by injection e with e; rw [← e]; exact hk), h.lo, h.far1, h.far2, h.apart⟩,
    ⟨hg.os, hg.tape, hg.output, hg.size, fun i hi _ hne _ => hg.block i hi fun e => hne (by injection e with e; rw [e]; rfl), fun _ h => .inl h⟩⟩
/-- Another slice of places is laid into the queue's block. -/
theorem QMem.put {w8 : World} {o : Obj} (h : QMem w base hb o1 o2 o3 vs vc S l) (hg : (w.alloc o).grownBy w8 vc.ownBlock) (hT : TailQ w8 base vc2 l2) (hat : vc2.ownBlock = vc.ownBlock ∨ vc2.ownBlock = some (w.alloc o).heap.size) :
    w8.heap[hb]? = some (.cells #[o1, o2, o3, vs, vc] 131 (0, 0)) ∧ QMem (w8.setCell ⟨hb, 4, none⟩ vc2) base hb o1 o2 o3 vs vc2 S l2 ∧ QKeep w (w8.setCell ⟨hb, 4, none⟩ vc2) hb vs vc vc2 := by
  have hsz : (w.alloc o).heap.size = w.heap.size + 1 := by simp
  have hbk : w8.heap[hb]? = some (.cells #[o1, o2, o3, vs, vc] 131 (0, 0)) := by
    have h1 : (w.alloc o).heap[hb]? = w.heap[hb]? := Below.heap_alloc w o hb h.lt
    exact ((hg.block hb (by have := h.lt; omega) fun e => h.far2 e.symm).trans h1).trans h.blk
  have hfar : vc2.ownBlock ≠ some hb := fun e => by
    rcases hat with h1 | h1
    · exact h.far2 (h1 ▸ e)
    · rw [h1] at e
      injection e with e
      have := h.lt
      omega
  have hap : ∀ k, vs.ownBlock = some k → vc2.ownBlock ≠ some k := fun k hk e => by
    rcases hat with h1 | h1
    · exact h.apart k hk (h1 ▸ e)
    · rw [h1] at e
      injection e with e
      have := (h.spans.lt k hk).2
      omega
  have hsp : w8.ownsRow base 33 2 vs S.length (cellsS S) := by
    refine (h.spans.alloc o).kept hg ?_
    cases hv : vs.ownBlock with
    | none => exact .inl rfl
    | some k => exact .inr fun e => h.apart k hv e.symm
  refine ⟨hbk, ⟨by rw [heap_setCell_same _ _ _ _ _ _ hbk]; simp, ownsRow_setCell_other hsp h.far1 _, hT.other fun k hk => heap_setCell_other _ _ _ _ fun e => hfar (by rw [hk, e]), h.lo, h.far1, hfar, hap⟩,
    ⟨hg.os, hg.tape, hg.output, ?_, fun i hi hne h1 h2 => ?_, fun k hk => ?_⟩⟩
  · have := hg.size
    simp only [World.setCell, Array.size_modify]
    omega
  · have e1 : (w.alloc o).heap[i]? = w.heap[i]? := Below.heap_alloc w o i hi
    exact (heap_setCell_other _ _ _ _ hne).trans ((hg.block i (by omega) fun e => h2 e.symm).trans e1)
  · rcases hat with h1 | h1
    · exact .inl (h1 ▸ hk)
    · rw [h1] at hk
      injection hk with hk
      right
      omega
theorem QMem.cut (h : QMem w base hb o1 o2 o3 vs vc S l) (hT : TailQ w base vc2 l2) (hat : vc2.ownBlock = vc.ownBlock) :
    QMem (w.setCell ⟨hb, 4, none⟩ vc2) base hb o1 o2 o3 vs vc2 S l2 ∧ QKeep w (w.setCell ⟨hb, 4, none⟩ vc2) hb vs vc vc2 := by
  have hfar : vc2.ownBlock ≠ some hb := by rw [hat]; exact h.far2
  refine ⟨⟨by rw [heap_setCell_same _ _ _ _ _ _ h.blk]; simp, ownsRow_setCell_other h.spans h.far1 _, hT.other fun k hk => heap_setCell_other _ _ _ _ fun e => hfar (by rw [hk, e]), h.lo, h.far1, hfar, by rw [hat]; exact h.apart⟩,
    ⟨rfl, rfl, rfl, by simp [World.setCell], fun i _ hne _ _ => heap_setCell_other _ _ _ _ hne, fun k hk => .inl (hat ▸ hk)⟩⟩
end
end Go.Proofs.Ytnkdpogplkomhaa

/- What the library's Repeat of one span returns. -/
namespace Go.Proofs.Ytnkdpogplkomhaa
open Go.RowKit

theorem cellsS_take (S : List Sp) (j : Nat) : (cellsS S).take (j * 2) = cellsS (S.take j) := by
  have h : cellsS S = cellsS (S.take j) ++ cellsS (S.drop j) := by rw [← cellsS_append, List.take_append_drop]
  rcases Nat.lt_or_ge j S.length with h1 | h1
  · rw [h, List.take_append_of_le_length (by rw [length_cellsS, List.length_take]; omega)]
    exact List.take_of_length_le (by rw [length_cellsS, List.length_take]; omega)
  · rw [List.take_of_length_le (l := S) h1]
    exact List.take_of_length_le (by rw [length_cellsS]; omega)
theorem cellsS_drop (S : List Sp) (j : Nat) : (cellsS S).drop (j * 2) = cellsS (S.drop j) := by
  rcases Nat.lt_or_ge j S.length with h1 | h1
  · have h : cellsS S = cellsS (S.take j) ++ cellsS (S.drop j) := by rw [← cellsS_append, List.take_append_drop]
    have h2 : j * 2 = (cellsS (S.take j)).length := by rw [length_cellsS, List.length_take]; omega
    rw [h, h2, List.drop_left]
  · have h2 : S.drop j = [] := List.drop_eq_nil_of_le h1
    rw [h2, List.drop_eq_nil_of_le (by rw [length_cellsS]; omega)]
    rfl
def fillR (f : Sp) (n j : Nat) : List Sp := List.replicate j f ++ List.replicate (n - j) zeroS
theorem fillR_len {f : Sp} {n j : Nat} (h : j ≤ n) : (fillR f n j).length = n := by simp [fillR]; omega
theorem fillR_more {f : Sp} {n j c : Nat} (h : j + c ≤ n) : (fillR f n j).take j ++ List.replicate c f ++ (fillR f n j).drop (j + c) = fillR f n (j + c) := by
  unfold fillR
  rw [List.take_append_of_le_length (by simp), List.take_of_length_le (by simp), List.drop_append, List.drop_eq_nil_of_le (by simp), List.length_replicate, List.drop_replicate, List.nil_append, List.replicate_append_replicate]
  congr 2
  omega
section
variable {P : Program}
/-- Spans are copied into a row of the call's own, from place j on. -/
theorem run_copy_sp (w : World) (dT sT ty elem : TypeId) (hu : P.underlying dT = some (.slice elem)) (hsz : (P.info? elem).map (·.size) = some 2) (base e g n j : Nat) (S : List Sp) (hS : S.length = n)
    (own : w.ownsRow base e 2 (.slice (some ⟨g, 0, none⟩) n n) n (cellsS S)) (dLen dCap : Nat) (hoff : j + dLen ≤ n) (ad : Addr) (sLen sCap : Nat) (T : List Sp) (hT : T.length = Nat.min sLen dLen)
    (hsrc : ∀ k u, (cellsS T)[k]? = some u → w.cell? (ad.add k) = some u) :
    ∃ w2, (Builtin.copy_ #[dT, sT] ty #[.slice (some ⟨g, j * 2, none⟩) dLen dCap, .slice (some ad) sLen sCap]).run P w = .ok (goInt T.length) w2 ∧
      w2.ownsRow base e 2 (.slice (some ⟨g, 0, none⟩) n n) n (cellsS (S.take j ++ T ++ S.drop (j + T.length))) ∧ w.grownBy w2 (some g) := by
  rcases own.2 with ⟨hv, _⟩ | ⟨g', cap', cur, hv, hb, hg, hnc, hcm, hcs, htk⟩
  · cases hv
  · simp only [Value.slice.injEq, Option.some.injEq, Addr.mk.injEq, and_true, true_and] at hv
    obtain ⟨rfl, rfl⟩ := hv
    have hcur : cur.toList = cellsS S := by rw [← htk]; exact (List.take_of_length_le (by rw [Array.length_toList, hcs]; exact Nat.le_refl _)).symm
    have hTd : T.length ≤ dLen := by rw [hT]; exact Nat.min_le_right _ _
    have hsize : cur.size = S.length * 2 := by rw [← Array.length_toList, hcur, length_cellsS]
    have hl := run_loadCells_list (P := P) w ad (cellsS T) hsrc
    have hst := run_storeCells_at P g (j * 2) e (cellsS T) 0 cur w hg (by rw [length_cellsS]; omega) (cellsS_one T)
    rw [length_cellsS] at hl
    refine ⟨w.setRow g (cur.toList.take (j * 2 + 0) ++ cellsS T ++ cur.toList.drop (j * 2 + 0 + (cellsS T).length)).toArray, ?_, ⟨?_, .inr ⟨g, n, _, rfl, hb, setRow_heap w g cur _ e _ hg, Nat.le_refl _, hcm, ?_, ?_⟩⟩, ⟨rfl, rfl, rfl, by simp, fun k _ hk => setRow_other w g k _ (fun e => hk (by rw [e]))⟩⟩
    · cases hq : P.info? elem with
      | none => simp [hq] at hsz
      | some i =>
        have hi : i.size = 2 := by simpa [hq] using hsz
        simp [Builtin.copy_, run_underlying hu, Builtin.lenOf, Builtin.firstCells, sizeOf, typeInfo, hq, hi, ← hT, hl, hst]
    · rw [length_cellsS]
      simp
      omega
    · simp only [List.size_toArray, List.length_append, List.length_take, List.length_drop, hcur, length_cellsS]
      omega
    · have h1 : j * 2 + 0 + (cellsS T).length = (j + T.length) * 2 := by rw [length_cellsS]; omega
      rw [h1, hcur, Nat.add_zero, cellsS_take, cellsS_drop, ← cellsS_append, ← cellsS_append]
      exact List.take_of_length_le (by rw [length_cellsS]; simp; omega)
theorem run_copy_fill (w : World) (dT sT ty elem : TypeId) (hu : P.underlying dT = some (.slice elem)) (hsz : (P.info? elem).map (·.size) = some 2) (base e g n j m : Nat) (f : Sp) (hj : j ≤ n)
    (own : w.ownsRow base e 2 (.slice (some ⟨g, 0, none⟩) n n) n (cellsS (fillR f n j))) (dLen dCap : Nat) (hoff : j + dLen ≤ n) (ad : Addr) (sLen sCap : Nat) (hm : m = Nat.min sLen dLen)
    (hsrc : ∀ k u, (cellsS (List.replicate m f))[k]? = some u → w.cell? (ad.add k) = some u) :
    ∃ w2, (Builtin.copy_ #[dT, sT] ty #[.slice (some ⟨g, j * 2, none⟩) dLen dCap, .slice (some ad) sLen sCap]).run P w = .ok (goInt m) w2 ∧
      w2.ownsRow base e 2 (.slice (some ⟨g, 0, none⟩) n n) n (cellsS (fillR f n (j + m))) ∧ w.grownBy w2 (some g) := by
  obtain ⟨w2, h1, h2, h3⟩ := run_copy_sp w dT sT ty elem hu hsz base e g n j (fillR f n j) (fillR_len hj) own dLen dCap hoff ad sLen sCap (List.replicate m f) (by simpa using hm) hsrc
  rw [List.length_replicate] at h1 h2
  have hmd : m ≤ dLen := by rw [hm]; exact Nat.min_le_right _ _
  rw [fillR_more (by omega)] at h2
  exact ⟨w2, h1, h2, h3⟩
theorem step_copy_fill (w : World) {ops : Array Oper} {o : Oper} {a : Act} {K : Act → World → Prop} {Q : Exit → Act → World → Prop} {E : Prop} (hgd : o.guard = none) (d s : Operand) (dT sT : TypeId)
    (ho : o.op = .call { callee := .builtin .copy, args := #[d, s], argTypes := #[dT, sT] }) (elem : TypeId) (hu : P.underlying dT = some (.slice elem)) (hsz : (P.info? elem).map (·.size) = some 2) (base e g n j m : Nat) (f : Sp) (hj : j ≤ n)
    (own : w.ownsRow base e 2 (.slice (some ⟨g, 0, none⟩) n n) n (cellsS (fillR f n j))) (dLen dCap : Nat) (hoff : j + dLen ≤ n) (ad : Addr) (sLen sCap : Nat) (hm : m = Nat.min sLen dLen)
    (hsrc : ∀ k u, (cellsS (List.replicate m f))[k]? = some u → w.cell? (ad.add k) = some u) (hd : a.eval d = .slice (some ⟨g, j * 2, none⟩) dLen dCap) (hs : a.eval s = .slice (some ad) sLen sCap)
    (h : ∀ w2, w2.ownsRow base e 2 (.slice (some ⟨g, 0, none⟩) n n) n (cellsS (fillR f n (j + m))) → w.grownBy w2 (some g) → K (a.put o.dst (goInt m)) w2) :
    if Region.wanted o (yielded ops a.tmps) = true then Oper.wp P o a w K Q else E := by
  rw [if_pos (by simp [Region.wanted, hgd])]
  obtain ⟨w2, hrun, h2, h3⟩ := run_copy_fill (P := P) w dT sT o.type elem hu hsz base e g n j m f hj own dLen dCap hoff ad sLen sCap hm hsrc
  unfold Oper.wp execOp
  simp only [ho, resolve, invoke, builtin, Sem.run_bind, Sem.run_pure, Result.andThen_ok, List.map_toArray, List.map_cons, List.map_nil, hd, hs, hrun]
  exact h w2 h2 h3
theorem wpList_copy_fill {ops : Array Oper} {rest : List Oper} {o : Oper} {a : Act} {w : World} {Q : Exit → Act → World → Prop} (hgd : o.guard = none) (d s : Operand) (dT sT : TypeId)
    (ho : o.op = .call { callee := .builtin .copy, args := #[d, s], argTypes := #[dT, sT] }) (elem : TypeId) (hu : P.underlying dT = some (.slice elem)) (hsz : (P.info? elem).map (·.size) = some 2) (base e g n j m : Nat) (f : Sp) (hj : j ≤ n)
    (own : w.ownsRow base e 2 (.slice (some ⟨g, 0, none⟩) n n) n (cellsS (fillR f n j))) (dLen dCap : Nat) (hoff : j + dLen ≤ n) (ad : Addr) (sLen sCap : Nat) (hm : m = Nat.min sLen dLen)
    (hsrc : ∀ k u, (cellsS (List.replicate m f))[k]? = some u → w.cell? (ad.add k) = some u) (hd : a.eval d = .slice (some ⟨g, j * 2, none⟩) dLen dCap) (hs : a.eval s = .slice (some ad) sLen sCap)
    (h : ∀ w2, w2.ownsRow base e 2 (.slice (some ⟨g, 0, none⟩) n n) n (cellsS (fillR f n (j + m))) → w.grownBy w2 (some g) → wpList P ops Q rest (a.put o.dst (goInt m)) w2) :
    wpList P ops Q (o :: rest) a w := by
  refine wpList_plain hgd fun K hK => ?_
  obtain ⟨w2, hrun, h2, h3⟩ := run_copy_fill (P := P) w dT sT o.type elem hu hsz base e g n j m f hj own dLen dCap hoff ad sLen sCap hm hsrc
  unfold Oper.wp execOp
  simp only [ho, resolve, invoke, builtin, Sem.run_bind, Sem.run_pure, Result.andThen_ok, List.map_toArray, List.map_cons, List.map_nil, hd, hs, hrun]
  exact hK _ _ (h w2 h2 h3)
end
theorem mul64_one (n : Nat) (hn : n ≤ 12) (w : World) : Calls Try.prog 120 #[.int .u64 1, .int .u64 (n : Int)] w fun e w2 => e = .returned (.tuple #[.int .u64 0, .int .u64 (n : Int)]) ∧ w = w2 := by
  have e1 : bits .and .u64 (n : Int) 4294967295 = (n : Int) := by
    have h := bits_and_u64_nat n 4294967295 (by omega) (by omega)
    have e : n &&& 4294967295 = n % 4294967296 := Nat.and_two_pow_sub_one_eq_mod n 32
    rw [e, Nat.mod_eq_of_lt (by omega)] at h
    exact h
  have e2 : (n : Int) / 4294967296 = 0 := by omega
  have e3 : bits .and .u64 (1 : Int) 4294967295 = 1 := by decide
  have e4 : IntKind.u64.wrap (n : Int) = n := by rw [IntKind.wrap_u64]; omega
  have e5 : bits .and .u64 (0 : Int) 4294967295 = 0 := by decide
  go_enter Try.func120, Try.ntmps120
  go_wp2_with fail
  go_ret2
  exact ⟨rfl, rfl⟩
theorem mul_one_ (n : Nat) (hn : n ≤ 12) (w : World) : Calls Try.prog 114 #[.int .u64 1, .int .u64 (n : Int)] w fun e w2 => e = .returned (.tuple #[.int .u64 0, .int .u64 (n : Int)]) ∧ w = w2 := by
  go_enter Try.func114, Try.ntmps114
  go_wp2_with (go_at_call 120; go_must (refine (mul64_one n hn w).mono ?_); rintro e w2 ⟨rfl, rfl⟩)
  go_ret2
  exact ⟨rfl, rfl⟩
theorem fillR_zero (f : Sp) (n : Nat) : fillR f n 0 = List.replicate n zeroS := by simp [fillR]
theorem fillR_all (f : Sp) (n : Nat) : fillR f n n = List.replicate n f := by simp [fillR]
set_option maxHeartbeats 400000 in
set_option maxRecDepth 100000 in
theorem repeat_any (b c n : Nat) (f : Sp) (w : World) (hx : Reads w w.heap.size 2 (some ⟨b, 0, none⟩) 1 (cellsS [f])) (hn : n ≤ 12) :
    Calls Try.prog 102 #[.slice (some ⟨b, 0, none⟩) 1 c, .int .i64 (n : Int)] w fun e w2 => ∃ v, e = .returned v ∧ Below w.heap.size w w2 ∧ w2.ownsRow w.heap.size 33 2 v n (cellsS (List.replicate n f)) := by
  obtain ⟨i0, hi0, hz0, hz1, hz2⟩ := info_parts infoSpan
  have hsz : (Try.prog.info? 33).map (·.size) = some 2 := by rw [hi0]; simp [hz1]
  obtain ⟨m, hm⟩ : ∃ m, m = Nat.min 1 n := ⟨_, rfl⟩
  have hm1 : m ≤ 1 ∧ m ≤ n ∧ (0 < n → 0 < m) := by
    have e : Nat.min 1 n = min 1 n := rfl
    rw [hm, e]
    omega
  have hbl : b < w.heap.size := by
    obtain ⟨b2, o2, e2, h2, _⟩ := hx.2 (by omega)
    injection e2 with e2
    injection e2 with e3 e4
    subst e3
    exact h2
  have hsrc : ∀ k u, (cellsS (List.replicate m f))[k]? = some u → w.cell? ⟨b, 0 + k, none⟩ = some u := fun k u hu => by
    obtain ⟨b2, o2, e2, _, hc⟩ := hx.2 (by omega)
    injection e2 with e2
    injection e2 with e3 e4
    subst e3 e4
    refine hc k u ?_
    rcases (by omega : m = 0 ∨ m = 1) with h0 | h0
    · subst h0
      simp [cellsS] at hu
    · subst h0
      exact hu
  have e4 : IntKind.u64.wrap (n : Int) = n := by rw [IntKind.wrap_u64]; omega
  have HS := Lib.hid hsrc
  have HM := Lib.hid hm
  clear hx hsrc hm
  go_enter Try.func102, Try.ntmps102
  go_wp2_with (first
    | (go_at_call 114; go_must (refine (mul_one_ n hn w).mono ?_); rintro e w2 ⟨rfl, rfl⟩)
    | (at_make
       go_must (refine wpList_make_full _ rfl (.tmp 29) (.tmp 29) _ rfl w.heap.size 33 i0 _ 2 Try.underlying29 hi0 hz0 hz1 _ _ _ _ n rfl rfl rfl rfl (by rw [hz2]; omega) (by simp only [maxLen]; omega) (Nat.le_refl _) ?_)
       intro w5 hown hg5
       rw [zero_cellsS, ← fillR_zero f n] at hown
       have b5 : Below w.heap.size w w5 := (Below.refl _ _).grown hg5 (Nat.le_refl _) (fun k hk => by cases hk))
    | (refine (wpList_copy_fill rfl (.tmp 31) (.tmp 32) _ _ rfl 33 Try.underlying29 hsz w.heap.size 33 w.heap.size n 0 m f (Nat.zero_le _) hown n n (by omega) ⟨b, 0, none⟩ 1 c HM.out (fun k u hu => by rw [Addr.add_lit]; exact (b5.cell (p := ⟨b, 0 + k, none⟩) hbl).trans (HS.out k u hu)) rfl rfl ?_)
       intro w6 hown6 hg6
       have b6 : Below w.heap.size w w6 := b5.grown hg6 b5.size (fun k hk => by injection hk with hk; omega)))
  rw [Nat.zero_add] at hown6
  have H6 := Lib.hid (And.intro hown6 (And.intro b6 (And.intro hm1.2.1 hm1.2.2)))
  clear hown hown6 b5 b6 hg5 hg6 hm1 HS HM e4
  go_loopw [8] (fun i wr => ∃ k : Nat, k ≤ n ∧ (0 < n → 0 < k) ∧ i = .int .i64 k ∧ Below w.heap.size w wr ∧ wr.ownsRow w.heap.size 33 2 (.slice (some ⟨w.heap.size, 0, none⟩) n n) n (cellsS (fillR f n k))) (fun i _ => n - (intOf i).toNat)
  case atStart => exact ⟨m, H6.out.2.2.1, H6.out.2.2.2, rfl, H6.out.2.1, H6.out.1⟩
  case round =>
    obtain ⟨k, hk, hk0, rfl, hbl2, hown⟩ := hrel
    by_cases hlt : k < n
    · have hkn : (k : Int) < (n : Int) := by omega
      have hne : (n = k) = False := eq_false (by omega)
      have hn0 : (n = 0) = False := eq_false (by omega)
      have hk1 : 0 < k := hk0 (by omega)
      obtain ⟨m2, hm2⟩ : ∃ m2, m2 = Nat.min k (n - k) := ⟨_, rfl⟩
      have hm3 : m2 ≤ k ∧ m2 ≤ n - k ∧ 0 < m2 := by
        have e : Nat.min k (n - k) = min k (n - k) := rfl
        rw [hm2, e]
        omega
      have hm4 : k + m2 ≤ n := by omega
      have hm5 : 0 < m2 := hm3.2.2
      have hsrc : ∀ x u, (cellsS (List.replicate m2 f))[x]? = some u → wr.cell? ((⟨w.heap.size, 0, none⟩ : Addr).add x) = some u := fun x u hu => by
        rw [Addr.add_lit, Nat.zero_add, hown.cellAt x (by have := (List.getElem?_eq_some_iff.1 hu).1; rw [length_cellsS, List.length_replicate] at this; omega)]
        have h1 : (cellsS (List.replicate m2 f)) = (cellsS (fillR f n k)).take (m2 * 2) := by
          rw [cellsS_take]
          congr 1
          unfold fillR
          rw [List.take_append_of_le_length (by simp; omega), List.take_replicate, Nat.min_eq_left hm3.1]
        rw [h1, List.getElem?_take] at hu
        split at hu
        · exact hu
        · cases hu
      have hd1 := below_draws (Below.refl wr.heap.size wr) 1
      have HK := Lib.hid (And.intro (own_below hown hd1) (And.intro hbl2 (And.intro (show ∀ x u, (cellsS (List.replicate m2 f))[x]? = some u → (wr.drewN 1).cell? ((⟨w.heap.size, 0, none⟩ : Addr).add x) = some u from hsrc) (And.intro hm2 hk0))))
      clear hown hsrc hm2 hm3 hk0 hd1
      go_wp2_with fail
      go_region_held3 (fun _ => True)
        (first | trivial | assumption)
        (first
          | (go_must (refine step_copy_fill (wr.drewN 1) (by rfl) (.tmp 41) (.tmp 44) 29 29 (by rfl) 33 Try.underlying29 hsz w.heap.size 33 w.heap.size n k m2 f hk HK.out.1 (n - k) (n - k) (by omega) ⟨w.heap.size, 0, none⟩ k n HK.out.2.2.2.1 HK.out.2.2.1 (by rfl) (by rfl) ?_)
             intro w6 hown6 hg6))
      have ew : IntKind.i64.wrap ((k : Int) + (m2 : Int)) = ((k + m2 : Nat) : Int) := by rw [IntKind.wrap_i64]; omega
      have b6 : Below w.heap.size w w6 := (below_draws HK.out.2.1 1).grown hg6 HK.out.2.1.size (fun k hk => by injection hk with hk; omega)
      all_goals
        rw [ew]
        go_wp2_with fail
        go_roundw
        case rel => exact ⟨k + m2, hm4, fun _ => by omega, rfl, b6, hown6⟩
        case measure => simp [intOf]; omega
    · have hkn : k = n := by omega
      subst hkn
      have HK := Lib.hid (And.intro hown hbl2)
      clear hown hbl2
      go_wp2_with fail
      go_ret
      refine ⟨_, rfl, HK.out.2, ?_⟩
      have h1 := HK.out.1
      rw [fillR_all] at h1
      exact h1
end Go.Proofs.Ytnkdpogplkomhaa

/- What the program's methods of an order of dates return, and how it narrows a span. -/
namespace Go.Proofs.Ytnkdpogplkomhaa
open Go.RowKit

set_option maxHeartbeats 800000 in
set_option maxRecDepth 100000 in
theorem dEqual_any (A1 A2 A3 : Option Addr) (n1 c1 c2 n3 c3 : Nat) (G : List Int) (i j : Nat) (w : World) (ha : Reads w w.heap.size 1 A2 G.length (cellsI G)) (hi : i < G.length) (hj : j < G.length) :
    Calls Try.prog 79 #[.agg #[.slice A1 n1 c1, .slice A2 G.length c2, .slice A3 n3 c3], .int .i64 (i : Int), .int .i64 (j : Int)] w fun e w2 => e = .returned (.bool (decide (G.getD i 0 = G.getD j 0))) ∧ Below w.heap.size w w2 := by
  obtain ⟨b, off, hA, hbb, hc⟩ := ha.ints (by omega)
  subst hA
  obtain ⟨x, hx⟩ : ∃ x, G[i]? = some x := ⟨_, List.getElem?_eq_getElem hi⟩
  obtain ⟨y, hy⟩ : ∃ y, G[j]? = some y := ⟨_, List.getElem?_eq_getElem hj⟩
  have d1 := hc i x hx
  have d2 := hc j y hy
  have e1 : G.getD i 0 = x := by rw [List.getD_eq_getElem?_getD, hx]; rfl
  have e2 : G.getD j 0 = y := by rw [List.getD_eq_getElem?_getD, hy]; rfl
  rw [e1, e2]
  have hii : (i : Int) < (G.length : Int) := by omega
  have hjj : (j : Int) < (G.length : Int) := by omega
  have HB := Lib.hid ((Below.refl w.heap.size w).alloc (Nat.le_refl _) (.cells #[.slice A1 n1 c1, .slice (some ⟨b, off, none⟩) G.length c2, .slice A3 n3 c3] 73))
  clear hc hx hy e1 e2 ha
  go_enter Try.func79, Try.ntmps79
  go_wp2_with fail
  go_quiet (fail)
  go_wp2_with fail
  go_ret
  exact ⟨ret_bool rfl, below_draws HB.out _⟩
set_option maxHeartbeats 800000 in
set_option maxRecDepth 100000 in
theorem dAbove_any (A1 A2 A3 : Option Addr) (n1 c1 n2 c2 c3 n : Nat) (F : Nat → Nat → Bool) (i j : Nat) (w : World) (ha : Reads w w.heap.size 1 A3 n (cellsU (rowsN n F))) (hn : n ≤ 12) (hi : i < n) (hj : j < n) :
    Calls Try.prog 80 #[.agg #[.slice A1 n1 c1, .slice A2 n2 c2, .slice A3 n c3], .int .i64 (i : Int), .int .i64 (j : Int)] w fun e w2 => e = .returned (.bool (F i j)) ∧ Below w.heap.size w w2 := by
  obtain ⟨b, off, hA, hbb, hc⟩ := ha.rows (by omega)
  subst hA
  have d1 := hc i _ (rowsN_at F hi)
  have ht : (bitN n (F i)).testBit j = F i j := by rw [bitN_test, decide_eq_true hj, Bool.true_and]
  have hh := fun (W : World) => has_any (bitN n (F i)) j (bitN_16 _ (by omega)) (by omega) W
  rw [ht] at hh
  obtain ⟨r, hr⟩ : ∃ r, r = bitN n (F i) := ⟨_, rfl⟩
  rw [← hr] at d1
  simp only [← hr] at hh
  have hii : (i : Int) < (n : Int) := by omega
  have HB := Lib.hid ((Below.refl w.heap.size w).alloc (Nat.le_refl _) (.cells #[.slice A1 n1 c1, .slice A2 n2 c2, .slice (some ⟨b, off, none⟩) n c3] 73))
  have HH := Lib.hid hh
  clear hc ht hr ha hh
  go_enter Try.func80, Try.ntmps80
  go_wp2_with (go_at_call 63; go_must (refine (HH.out _).mono ?_); rintro e w2 ⟨rfl, rfl⟩)
  go_ret
  exact ⟨rfl, HB.out⟩
theorem spEq_run (a b : Sp) (W : World) : (binOp .eql 33 (.agg #[.int .i64 a.lo, .int .i64 a.hi]) (.agg #[.int .i64 b.lo, .int .i64 b.hi])).run Try.prog W = .ok (.bool (decide (a = b))) W := by
  by_cases h1 : a.lo = b.lo
  · by_cases h2 : a.hi = b.hi
    · have e : a = b := Sp.ext_ h1 h2
      subst e
      have e2 : decide (a = a) = true := by simp
      rw [e2]
      go_simp
    · have e2 : decide (a = b) = false := decide_eq_false fun e => h2 (by rw [e])
      have e3 : (a.hi == b.hi) = false := by simp [h2]
      rw [e2, h1]
      clear h1 h2 e2
      go_simp
  · have e2 : decide (a = b) = false := decide_eq_false fun e => h1 (by rw [e])
    have e3 : (a.lo == b.lo) = false := by simp [h1]
    rw [e2]
    clear h1 e2
    go_simp
end Go.Proofs.Ytnkdpogplkomhaa

/- What the program's queue of an order of dates is at first, and how a span is narrowed. -/
namespace Go.Proofs.Ytnkdpogplkomhaa
open Go.RowKit

set_option maxHeartbeats 400000 in
set_option maxRecDepth 100000 in
theorem queue_any (A1 A2 A3 : Option Addr) (n c1 n2 c2 n3 c3 : Nat) (w : World) (hn : n ≤ 12) :
    Calls Try.prog 84 #[.agg #[.slice A1 n c1, .slice A2 n2 c2, .slice A3 n3 c3]] w fun e w2 => ∃ hb vs, e = .returned (.pointer (some ⟨hb, 0, none⟩)) ∧
      QMem w2 w.heap.size hb (.slice A1 n c1) (.slice A2 n2 c2) (.slice A3 n3 c3) vs (.slice none 0 0) (fullQ n) (numQ []) ∧ Below w.heap.size w w2 := by
  obtain ⟨W1, hW1⟩ : ∃ W1, W1 = w.alloc (.cells #[.slice A1 n c1, .slice A2 n2 c2, .slice A3 n3 c3] 73) := ⟨_, rfl⟩
  have bW1 : Below w.heap.size w W1 := by rw [hW1]; exact (Below.refl w.heap.size w).alloc (Nat.le_refl _) _
  have hs1 : w.heap.size < W1.heap.size := by rw [hW1]; simp
  have k0 : W1.cell? ⟨w.heap.size, 0, none⟩ = some (.slice A1 n c1) := by rw [hW1]; exact (cell_of_row _ _ _ _ _ _ (heap_alloc_new _ _)).trans rfl
  have k1 : W1.cell? ⟨w.heap.size, 1, none⟩ = some (.slice A2 n2 c2) := by rw [hW1]; exact (cell_of_row _ _ _ _ _ _ (heap_alloc_new _ _)).trans rfl
  have k2 : W1.cell? ⟨w.heap.size, 2, none⟩ = some (.slice A3 n3 c3) := by rw [hW1]; exact (cell_of_row _ _ _ _ _ _ (heap_alloc_new _ _)).trans rfl
  have bA : Below W1.heap.size W1 ((W1.alloc (.cells #[.int .i64 0, .int .i64 999] 33)).drew) := ((Below.refl _ _).alloc (Nat.le_refl _) _).drew
  have rA : Reads ((W1.alloc (.cells #[.int .i64 0, .int .i64 999] 33)).drew) ((W1.alloc (.cells #[.int .i64 0, .int .i64 999] 33)).drew).heap.size 2 (some ⟨W1.heap.size, 0, none⟩) 1 (cellsS [⟨0, 999⟩]) :=
    (readsS_one (w := W1) (c := ⟨0, 999⟩) (B := (W1.alloc (.cells #[.int .i64 0, .int .i64 999] 33)).heap.size) (by simp)).below ((Below.refl _ _).drew)
  have HA : Hid (((W1.alloc (.cells #[.int .i64 0, .int .i64 999] 33)).drew).cell? ⟨w.heap.size, 0, none⟩ = some (.slice A1 n c1) ∧ ((W1.alloc (.cells #[.int .i64 0, .int .i64 999] 33)).drew).cell? ⟨w.heap.size, 1, none⟩ = some (.slice A2 n2 c2) ∧ ((W1.alloc (.cells #[.int .i64 0, .int .i64 999] 33)).drew).cell? ⟨w.heap.size, 2, none⟩ = some (.slice A3 n3 c3)) :=
    ⟨(below_cell bA _ _ hs1).trans k0, (below_cell bA _ _ hs1).trans k1, (below_cell bA _ _ hs1).trans k2⟩
  have HR := Lib.hid (And.intro rA (And.intro bA bW1))
  clear bA rA bW1
  go_enter Try.func84, Try.ntmps84
  go_wp2_with fail
  rw [← hW1]
  clear hW1
  go_region_held3 (fun w' => w'.cell? ⟨w.heap.size, 0, none⟩ = some (.slice A1 n c1) ∧ w'.cell? ⟨w.heap.size, 1, none⟩ = some (.slice A2 n2 c2) ∧ w'.cell? ⟨w.heap.size, 2, none⟩ = some (.slice A3 n3 c3))
    (first | assumption | exact ⟨k0, k1, k2⟩ | exact HA.out | exact h3 | exact ⟨(World.cell?_alloc_lt w3 _ _ h4).trans h3.1, (World.cell?_alloc_lt w3 _ _ h4).trans h3.2.1, (World.cell?_alloc_lt w3 _ _ h4).trans h3.2.2⟩ | fail)
    (first
      | (go_at_call 102
         go_must (refine (repeat_any W1.heap.size 1 n ⟨0, 999⟩ ((W1.alloc (.cells #[.int .i64 0, .int .i64 999] 33)).drew) HR.out.1 hn).mono ?_)
         rintro e w3 ⟨v3, rfl, b3, o3⟩
         have h3 : w3.cell? ⟨w.heap.size, 0, none⟩ = some (.slice A1 n c1) ∧ w3.cell? ⟨w.heap.size, 1, none⟩ = some (.slice A2 n2 c2) ∧ w3.cell? ⟨w.heap.size, 2, none⟩ = some (.slice A3 n3 c3) := by
           have e1 : w.heap.size < ((W1.alloc (.cells #[.int .i64 0, .int .i64 999] 33)).drew).heap.size := by simp [World.drew]; omega
           exact ⟨(below_cell b3 _ _ e1).trans HA.out.1, (below_cell b3 _ _ e1).trans HA.out.2.1, (below_cell b3 _ _ e1).trans HA.out.2.2⟩
         have h4 : w.heap.size < w3.heap.size := Nat.lt_of_lt_of_le (by simp [World.drew]; omega) b3.size
         obtain ⟨A4, c4, hv4, _, _⟩ := Reads.of_own o3
         subst hv4))
  all_goals
    go_wp2_with fail
    go_ret
    have hsz : w.heap.size ≤ ((W1.alloc (.cells #[.int .i64 0, .int .i64 999] 33)).drew).heap.size := by simp [World.drew]; omega
    have b4 : Below w.heap.size w w3 := HR.out.2.2.trans ((HR.out.2.1.mono (Nat.le_of_lt hs1)).trans (b3.mono hsz))
    have hl : (fullQ n).length = n := by simp [fullQ]
    refine ⟨w3.heap.size, .slice A4 n c4, rfl, ⟨heap_alloc_new _ _, ?_, .inl ⟨rfl, rfl⟩, Nat.le_of_lt h4, fun e => ?_, (fun e => by cases e), (fun k _ e => by cases e)⟩, b4.alloc (Nat.le_of_lt h4) _⟩
    · rw [hl]
      exact (own_less o3 hsz).alloc _
    · have := (o3.lt _ e).2
      omega
set_option maxHeartbeats 1600000 in
set_option maxRecDepth 100000 in
theorem narrow_any (base hb : Nat) (o1 o2 o3 vs vc : Value) (S : List Sp) (L : List Nat) (p : Nat) (a b : Int) (w : World) (h : QMem w base hb o1 o2 o3 vs vc S (numQ L)) (hp : p < S.length) (hS : S.length ≤ 12) (hL : L.length ≤ 100000) :
    Calls Try.prog 85 #[.pointer (some ⟨hb, 0, none⟩), .int .i64 (p : Int), .int .i64 a, .int .i64 b] w fun e w2 => e = .returned (.tuple #[]) ∧
      ∃ vc2, QMem w2 base hb o1 o2 o3 vs vc2 (narS S p a b) (numQ (narL S L p a b)) ∧ QKeep w w2 hb vs vc vc2 := by
  obtain ⟨g, cap, hvs, hbg, hgl⟩ := h.spans.form (by omega)
  subst hvs
  obtain ⟨A4, c4, hvc, hrl⟩ := h.row.reads
  subst hvc
  obtain ⟨_, _, _, k3, k4, k5⟩ := h.cells
  have hat := atQ_of hp
  obtain ⟨c1, c2, f1, f2⟩ := own_cellsS h.spans hat
  obtain ⟨s, hs⟩ : ∃ s, s = atQ S p := ⟨_, rfl⟩
  rw [← hs] at c1 c2
  obtain ⟨t, ht⟩ : ∃ t, t = cutQ s a b := ⟨_, rfl⟩
  have m1 : (if s.lo < a then a else s.lo) = t.lo := by rw [ht]; simp only [cutQ]; omega
  have m2 : (if b < s.hi then b else s.hi) = t.hi := by rw [ht]; simp only [cutQ]; omega
  have hpi : (p : Int) < (S.length : Int) := by omega
  have hlt := h.lt
  have heq := spEq_run t s
  have HM := Lib.hid (And.intro h (And.intro hs ht))
  clear h hat hs ht hrl
  by_cases hst : t = s
  · have e1 : decide (t = s) = true := decide_eq_true hst
    simp only [e1] at heq
    have HX := Lib.hid hst
    clear hst e1
    go_enter Try.func85, Try.ntmps85
    go_wp2_with fail
    (try simp only [Exit.inBlock, Exit.then]); refine bodyPost_ret (results_none rfl _ _ _) rfl ?_
    obtain ⟨h, hs, ht⟩ := HM.out
    have hc : cutQ (atQ S p) a b = atQ S p := by rw [← hs, ← ht]; exact HX.out
    have hb2 := ((Below.refl w.heap.size w).alloc (Nat.le_refl _) (.cells #[.int .i64 s.lo, .int .i64 s.hi] 33)).alloc (by simp) (.cells #[.int .i64 t.lo, .int .i64 t.hi] 33)
    rw [narS_same hp hc, narL_same hc]
    exact ⟨rfl, _, h.step hb2, .of_below hb2 _ _ _⟩
  · have e1 : decide (t = s) = false := decide_eq_false hst
    simp only [e1] at heq
    have HX := Lib.hid hst
    clear hst e1
    obtain ⟨i0, hi0, hz0, hz1, hz2⟩ := info_parts infoInt
    have hset : S.set p t = narS S p a b := by rw [narS, HM.out.2.2, HM.out.2.1]
    have hne : cutQ (atQ S p) a b ≠ atQ S p := fun e => HX.out (by rw [HM.out.2.2, HM.out.2.1]; exact e)
    obtain ⟨W3, hW3, hm3, hb3⟩ : ∃ W3, W3 = ((((w.setCell ⟨g, p * 2, none⟩ (.int .i64 t.lo)).setCell ⟨g, p * 2 + 1, none⟩ (.int .i64 t.hi)).alloc (.cells #[.int .i64 s.lo, .int .i64 s.hi] 33)).alloc (.cells #[.int .i64 t.lo, .int .i64 t.hi] 33)).drew ∧
        QMem W3 base hb o1 o2 o3 (.slice (some ⟨g, 0, none⟩) S.length cap) (.slice A4 (numQ L).length c4) (narS S p a b) (numQ L) ∧ QKeep w W3 hb (.slice (some ⟨g, 0, none⟩) S.length cap) (.slice A4 (numQ L).length c4) (.slice A4 (numQ L).length c4) := by
      obtain ⟨r1, r2⟩ := HM.out.1.lay rfl hp t
      rw [hset] at r1
      have b1 := (((Below.refl _ _).alloc (Nat.le_refl _) (.cells #[.int .i64 s.lo, .int .i64 s.hi] 33)).alloc (by simp) (.cells #[.int .i64 t.lo, .int .i64 t.hi] 33)).drew (B := ((w.setCell ⟨g, p * 2, none⟩ (.int .i64 t.lo)).setCell ⟨g, p * 2 + 1, none⟩ (.int .i64 t.hi)).heap.size) (a := (w.setCell ⟨g, p * 2, none⟩ (.int .i64 t.lo)).setCell ⟨g, p * 2 + 1, none⟩ (.int .i64 t.hi))
      exact ⟨_, rfl, r1.step b1, r2.trans (.of_below b1 _ _ _)⟩
    have HW := Lib.hid hW3
    clear hW3 hset
    obtain ⟨_, _, _, _, q4, q5⟩ := hm3.cells
    have hlt3 := hm3.lt
    by_cases hin : p ∈ L
    · obtain ⟨A5, c5, hv5, hr5⟩ := hm3.row.reads
      injection hv5 with e1 e2 e3
      subst e1 e3
      clear e2
      have hC := containsI_any A4 c4 (numQ L) (p : Int) W3 hr5 (by rw [numQ_len]; omega)
      rw [numQ_mem, decide_eq_true hin] at hC
      have H3 := Lib.hid (And.intro hm3 (And.intro hb3 (And.intro hin hC)))
      clear hm3 hb3 hin hr5 hC
      go_enter Try.func85, Try.ntmps85
      go_wp2_with fail
      go_region
      rw [← HW.out]
      clear c1 c2 f1 f2 k3 k4 k5 m1 m2
      go_wp2_with (go_at_call 76; go_must (refine H3.out.2.2.2.mono ?_); rintro e w4 ⟨rfl, rfl⟩)
      go_end0
      rw [narL_in H3.out.2.2.1]
      exact ⟨rfl, _, H3.out.1, H3.out.2.1⟩
    · obtain ⟨A5, c5, hv5, hr5⟩ := hm3.row.reads
      injection hv5 with e1 e2 e3
      subst e1 e3
      clear e2
      have hC := containsI_any A4 c4 (numQ L) (p : Int) W3 hr5 (by rw [numQ_len]; omega)
      rw [numQ_mem, decide_eq_false hin] at hC
      have bA : Below W3.heap.size W3 (W3.alloc (.cells #[.int .i64 (p : Int)] 3)) := (Below.refl _ _).alloc (Nat.le_refl _) _
      have H3 := Lib.hid (And.intro hm3 (And.intro hb3 (And.intro hin (And.intro hC (hm3.row.step bA)))))
      have hbase : base ≤ (W3.alloc (.cells #[.int .i64 (p : Int)] 3)).heap.size := by have := hm3.base_; simp; omega
      have hll : (numQ L).length ≤ 1000000 := by rw [numQ_len]; omega
      have HL := Lib.hid hll
      clear hm3 hb3 hin hr5 hC bA hll
      go_enter Try.func85, Try.ntmps85
      go_wp2_with fail
      go_region
      rw [← HW.out]
      clear c1 c2 f1 f2 k3 k4 k5 m1 m2
      go_wp2_with (first
        | (go_at_call 76; go_must (refine H3.out.2.2.2.1.mono ?_); rintro e w4 ⟨rfl, rfl⟩)
        | (at_builtin
           go_must (refine wpList_append_tail rfl (.tmp 47) (.tmp 49) _ rfl base i0 Try.underlying23 hi0 hz0 hz1 hz2 (.slice A4 (numQ L).length c4) (numQ L) rfl H3.out.2.2.2.2 (W3.heap.size + 1) _ 1 (p : Int) rfl (reads_int (by omega)) HL.out hbase ?_)
           intro v8 w8 hT8 hg8 hat8
           obtain ⟨hbk, hm8, hb8⟩ := H3.out.1.put hg8 hT8 hat8
           obtain ⟨A8, c8, hv8, _⟩ := hT8.reads
           subst hv8
           have k8 := cell_of_row _ _ 4 _ _ _ hbk
           have f8 := frozen_of_row _ _ 4 _ _ hbk
           have H8 := Lib.hid (And.intro hm8 hb8)
           clear hbk hm8 hb8 hT8 hg8 hat8))
      go_end0
      have hnl := narL_new hne H3.out.2.2.1
      rw [hnl, ← numQ_app]
      have hln : (numQ L ++ [(p : Int)]).length = (numQ L).length + 1 := by simp
      have r := H8.out
      rw [hln] at r
      exact ⟨rfl, _, r.1, H3.out.2.1.trans r.2⟩
end Go.Proofs.Ytnkdpogplkomhaa

/- How the program's queue passes a span on. -/
namespace Go.Proofs.Ytnkdpogplkomhaa
open Go.RowKit

/-- Two places have one number in a list. -/
def likeQ (G : List Int) (i j : Nat) : Bool := decide (G.getD i 0 = G.getD j 0)
theorem slice_tail (g off m c : Nat) (h : m + 1 ≤ c) (hm : m ≤ 100000) (W : World) : (Instr.slice 23 (.slice (some ⟨g, off, none⟩) (m + 1) c) (some (.int .i64 1)) none none).run Try.prog W = .ok (.slice (if c = 1 then some ⟨g, off, none⟩ else some ⟨g, off + 1, none⟩) m (c - 1)) W := by
  by_cases hc : c = 1
  · subst hc
    obtain rfl : m = 0 := by omega
    go_simp
  · rw [if_neg hc]
    have h1 : (1 : Int) ≤ (m : Int) + 1 := by omega
    go_simp
set_option maxHeartbeats 4000000 in
set_option maxRecDepth 100000 in
theorem passNext_any (base hb : Nat) (A1 A2 A3 : Option Addr) (n c1 c2 c3 : Nat) (vs vc : Value) (S : List Sp) (L : List Nat) (p : Nat) (G : List Int) (F : Nat → Nat → Bool) (I : Nat → List Sp → List Nat → Prop) (w : World)
    (h : QMem w base hb (.slice A1 n c1) (.slice A2 n c2) (.slice A3 n c3) vs vc S (numQ (p :: L))) (hG : G.length = n) (ra : Reads w base 1 A2 n (cellsI G)) (rf : Reads w base 1 A3 n (cellsU (rowsN n F))) (hn : n ≤ 12) (hp : p < n) (h0 : I 0 S L)
    (hI : ∀ k S L, I k S L → S.length = n ∧ L.length ≤ 50000 ∧ ∀ i, i < n → 0 ≤ (atQ S i).lo ∧ (atQ S i).hi ≤ 999)
    (hstep : ∀ k S2 L2, k < n → I k S2 L2 → I (k + 1) (narS S2 k (askQ (likeQ G) F p (atQ S p) k).1 (askQ (likeQ G) F p (atQ S p) k).2) (narL S2 L2 k (askQ (likeQ G) F p (atQ S p) k).1 (askQ (likeQ G) F p (atQ S p) k).2)) :
    Calls Try.prog 86 #[.pointer (some ⟨hb, 0, none⟩)] w fun e w2 => e = .returned (.tuple #[]) ∧
      ∃ vc2 S2 L2, QMem w2 base hb (.slice A1 n c1) (.slice A2 n c2) (.slice A3 n c3) vs vc2 S2 (numQ L2) ∧ I n S2 L2 ∧ QKeep w w2 hb vs vc vc2 := by
  have hS := (hI _ _ _ h0).1
  obtain ⟨gs, cs, hvs, hbgs, hgsl⟩ := h.spans.form (by omega)
  subst hvs
  obtain ⟨A4, c4, hvc, _⟩ := h.row.reads
  subst hvc
  obtain ⟨m, hm⟩ : ∃ m, m = (numQ L).length := ⟨_, rfl⟩
  have hrow : TailQ w base (.slice A4 ((numQ L).length + 1) c4) ((p : Int) :: numQ L) := h.row
  obtain ⟨g, off, hA4, _, hcap, hbg, hgl, k0, t1, t2⟩ := hrow.tail
  subst hA4
  obtain ⟨_, _, _, k3, k4, k5⟩ := h.cells
  have k4' : w.cell? ⟨hb, 4, none⟩ = some (.slice (some ⟨g, off, none⟩) (m + 1) c4) := by rw [hm]; exact k4
  have hat := atQ_of (S := S) (i := p) (by omega)
  obtain ⟨e1, e2, f1, f2⟩ := own_cellsS h.spans hat
  obtain ⟨s, hs⟩ : ∃ s, s = atQ S p := ⟨_, rfl⟩
  rw [← hs] at e1 e2
  simp only [← hs] at hstep
  have hlt := h.lt
  have hmm : m ≤ 50000 := by rw [hm, numQ_len]; exact (hI _ _ _ h0).2.1
  have hcap2 : m + 1 ≤ c4 := by rw [hm]; exact hcap
  have hpi : (p : Int) < (n : Int) := by omega
  have h' : QMem w base hb (.slice A1 n c1) (.slice A2 n c2) (.slice A3 n c3) (.slice (some ⟨gs, 0, none⟩) S.length cs) (.slice (some ⟨g, off, none⟩) (m + 1) c4) S (numQ (p :: L)) := by rw [hm]; exact h
  have HH := Lib.hid (And.intro h' (And.intro ra (And.intro rf (And.intro h0 (And.intro hI (And.intro hstep (And.intro t1 (And.intro t2 hm))))))))
  clear h h' ra rf h0 hI hstep hrow k4 hat t1 t2 hm hs
  obtain ⟨A5, hA5, hT5, hob⟩ : ∃ A5, A5 = (if c4 = 1 then some (⟨g, off, none⟩ : Addr) else some ⟨g, off + 1, none⟩) ∧ TailQ w base (.slice A5 m (c4 - 1)) (numQ L) ∧ (Value.slice A5 m (c4 - 1)).ownBlock = some g := by
    refine ⟨_, rfl, ?_⟩
    have h1 := HH.out.2.2.2.2.2.2.1
    have h2 := HH.out.2.2.2.2.2.2.2.1
    rw [← HH.out.2.2.2.2.2.2.2.2] at h1 h2
    by_cases hc : c4 = 1
    · rw [if_pos hc]
      have h3 := h1 hc
      rw [hc]
      exact ⟨h3, rfl⟩
    · rw [if_neg hc]
      exact ⟨h2, rfl⟩
  have hsl := slice_tail g off m c4 hcap2 (by omega)
  rw [← hA5] at hsl
  have hgh : ¬ gs = hb := fun e => HH.out.1.far1 (by rw [e]; rfl)
  have HT := Lib.hid (And.intro hT5 hob)
  clear hA5 hT5 hob
  rw [hS] at *
  clear hS
  obtain ⟨W1, hW1⟩ : ∃ W1, W1 = (w.setCell ⟨hb, 4, none⟩ (.slice A5 m (c4 - 1))).alloc (.cells #[.int .i64 s.lo, .int .i64 s.hi] 33) := ⟨_, rfl⟩
  have hx1 : W1.cell? ⟨w.heap.size, 0, none⟩ = some (.int .i64 s.lo) ∧ W1.cell? ⟨w.heap.size, 1, none⟩ = some (.int .i64 s.hi) := by
    have e : w.heap.size = (w.setCell ⟨hb, 4, none⟩ (.slice A5 m (c4 - 1))).heap.size := by simp [World.setCell]
    rw [hW1, e]
    exact ⟨(cell_of_row _ _ _ _ _ _ (heap_alloc_new _ _)).trans rfl, (cell_of_row _ _ _ _ _ _ (heap_alloc_new _ _)).trans rfl⟩
  have hsz1 : w.heap.size < W1.heap.size := by rw [hW1]; simp [World.setCell]
  obtain ⟨hm1, hk1⟩ : QMem W1 base hb (.slice A1 n c1) (.slice A2 n c2) (.slice A3 n c3) (.slice (some ⟨gs, 0, none⟩) n cs) (.slice A5 m (c4 - 1)) S (numQ L) ∧ QKeep w W1 hb (.slice (some ⟨gs, 0, none⟩) n cs) (.slice (some ⟨g, off, none⟩) (m + 1) c4) (.slice A5 m (c4 - 1)) := by
    have h1 := HH.out.1
    obtain ⟨r1, r2⟩ := h1.cut HT.out.1 (by rw [HT.out.2]; rfl)
    have b1 := (Below.refl _ (w.setCell ⟨hb, 4, none⟩ (.slice A5 m (c4 - 1)))).alloc (Nat.le_refl _) (.cells #[.int .i64 s.lo, .int .i64 s.hi] 33)
    rw [hW1]
    exact ⟨r1.step b1, r2.trans (.of_below b1 _ _ _)⟩
  have hfv : (Value.slice (some ⟨gs, 0, none⟩) n cs).ownBlock ≠ some w.heap.size ∧ (Value.slice A5 m (c4 - 1)).ownBlock ≠ some w.heap.size ∧ w.heap.size ≠ hb :=
    ⟨fun e => by have e2 : gs = w.heap.size := (by injection e); omega, fun e => by rw [HT.out.2] at e; injection e with e; omega, by omega⟩
  have HM := Lib.hid (And.intro hx1 (And.intro hm1 (And.intro hk1 hfv)))
  have HW := Lib.hid hW1
  clear hx1 hm1 hk1 hfv hW1
  go_enter Try.func86, Try.ntmps86
  go_wp2_with fail
  rw [← HW.out]
  clear HW k0 k3 k4' k5 e1 e2 f1 f2 hsl HT
  go_loopw [31] (fun i wr => ∃ (k : Nat) (S2 : List Sp) (L2 : List Nat) (vc2 : Value), k ≤ n ∧ i = .int .i64 k ∧ QMem wr base hb (.slice A1 n c1) (.slice A2 n c2) (.slice A3 n c3) (.slice (some ⟨gs, 0, none⟩) n cs) vc2 S2 (numQ L2) ∧ I k S2 L2 ∧ QKeep W1 wr hb (.slice (some ⟨gs, 0, none⟩) n cs) (.slice A5 m (c4 - 1)) vc2) (fun i _ => n - (intOf i).toNat)
  case atStart => exact ⟨0, S, L, _, Nat.zero_le _, rfl, HM.out.2.1, HH.out.2.2.2.1, .refl _ _ _ _⟩
  case round =>
    obtain ⟨k, S2, L2, vc2, hk, rfl, hm, hi, hke⟩ := hrel
    obtain ⟨x1, x2⟩ : wr.cell? ⟨w.heap.size, 0, none⟩ = some (.int .i64 s.lo) ∧ wr.cell? ⟨w.heap.size, 1, none⟩ = some (.int .i64 s.hi) :=
      ⟨(hke.cell hsz1 HM.out.2.2.2.2.2 HM.out.2.2.2.1 HM.out.2.2.2.2.1).trans HM.out.1.1, (hke.cell hsz1 HM.out.2.2.2.2.2 HM.out.2.2.2.1 HM.out.2.2.2.2.1).trans HM.out.1.2⟩
    obtain ⟨q0, q1, q2, _, _, _⟩ := hm.cells
    have hszr : w.heap.size < wr.heap.size := Nat.lt_of_lt_of_le hsz1 hke.size
    have hltr := hm.lt
    have hbw : Below base w wr := (HM.out.2.2.1.trans hke).below HH.out.1
    by_cases hkn : k < n
    · have hki : (k : Int) < (n : Int) := by omega
      have hE : ∀ W, Below wr.heap.size wr W → Calls Try.prog 79 #[.agg #[.slice A1 n c1, .slice A2 n c2, .slice A3 n c3], .int .i64 (k : Int), .int .i64 (p : Int)] W fun e w2 => e = .returned (.bool (likeQ G k p)) ∧ Below W.heap.size W w2 := fun W hb => by
        have h1 := dEqual_any A1 A2 A3 n c1 c2 n c3 G k p W (by rw [hG]; exact ((HH.out.2.1.below hbw).below (hb.mono hm.base_)).more (Nat.le_trans hm.base_ hb.size)) (by omega) (by omega)
        rw [hG] at h1
        exact h1
      have hF : ∀ (i j : Nat) W, i < n → j < n → Below wr.heap.size wr W → Calls Try.prog 80 #[.agg #[.slice A1 n c1, .slice A2 n c2, .slice A3 n c3], .int .i64 (i : Int), .int .i64 (j : Int)] W fun e w2 => e = .returned (.bool (F i j)) ∧ Below W.heap.size W w2 := fun i j W h1 h2 hb =>
        dAbove_any A1 A2 A3 n c1 n c2 c3 n F i j W (((HH.out.2.2.1.below hbw).below (hb.mono hm.base_)).more (Nat.le_trans hm.base_ hb.size)) hn h1 h2
      obtain ⟨hl1, hl2, hl3⟩ := HH.out.2.2.2.2.1 _ _ _ hi
      have hst := HH.out.2.2.2.2.2.1 k S2 L2 hkn hi
      have HR := Lib.hid (And.intro hm (And.intro hi (And.intro hke (And.intro hl1 (And.intro hl2 hl3)))))
      clear hm hi hke hbw
      cases h1 : likeQ G k p
      · cases h2 : F k p
        · cases h3 : F p k
          · have hask : askQ (likeQ G) F p s k = (0, 999) := by simp [askQ, h1, h2, h3]
            rw [hask] at hst
            have hn1 : narS S2 k 0 999 = S2 := narS_full (by rw [hl1]; exact hkn) (hl3 k hkn).1 (hl3 k hkn).2
            have hn2 : narL S2 L2 k 0 999 = L2 := narL_full (hl3 k hkn).1 (hl3 k hkn).2
            rw [hn1, hn2] at hst
            simp only [h1] at hE
            have HE := Lib.hid (And.intro hE (And.intro hst hF))
            clear hE hF hst hask h1 hn1 hn2 hl1 hl2 hl3
            go_wp2_with (first
              | (go_at_call 79; go_must (refine (HE.out.1 wr (Below.refl _ _)).mono ?_); rintro e w5 ⟨rfl, b5⟩
                 have hm5 := HR.out.1.step b5
                 obtain ⟨z0, z1, z2, _, _, _⟩ := hm5.cells
                 have y1 := (below_cell b5 _ 0 hszr).trans x1
                 have y2 := (below_cell b5 _ 1 hszr).trans x2
                 have H := Lib.hid (And.intro hm5 (And.intro b5 (Nat.lt_of_lt_of_le hszr b5.size)))
                 clear hm5 b5)
              | (go_at_call 80; go_must (refine (HE.out.2.2 _ _ _ (by first | exact hkn | exact hp) (by first | exact hp | exact hkn) H.out.2.1).mono ?_); rintro e w6 ⟨rfl, b6⟩
                 have hm6 := H.out.1.step b6
                 obtain ⟨z0, z1, z2, _, _, _⟩ := hm6.cells
                 have y1 := (below_cell b6 _ 0 H.out.2.2).trans y1
                 have y2 := (below_cell b6 _ 1 H.out.2.2).trans y2
                 have H := Lib.hid (And.intro hm6 (And.intro (H.out.2.1.trans (b6.mono H.out.2.1.size)) (Nat.lt_of_lt_of_le H.out.2.2 b6.size)))
                 clear hm6 b6))
            go_roundw
            case rel => exact ⟨k + 1, _, _, vc2, by omega, by go_num, H.out.1, HE.out.2.1, HR.out.2.2.1.trans (.of_below H.out.2.1 _ _ _)⟩
            case measure => simp [intOf]; omega
          · have hask : askQ (likeQ G) F p s k = (0, s.hi) := by simp [askQ, h1, h2, h3]
            rw [hask] at hst
            simp only [h1] at hE
            have HE := Lib.hid (And.intro hE (And.intro hst hF))
            clear hE hF hst hask h1 hl1 hl2 hl3
            go_wp2_with (first
              | (go_at_call 79; go_must (refine (HE.out.1 wr (Below.refl _ _)).mono ?_); rintro e w5 ⟨rfl, b5⟩
                 have hm5 := HR.out.1.step b5
                 obtain ⟨z0, z1, z2, _, _, _⟩ := hm5.cells
                 have y1 := (below_cell b5 _ 0 hszr).trans x1
                 have y2 := (below_cell b5 _ 1 hszr).trans x2
                 have H := Lib.hid (And.intro hm5 (And.intro b5 (Nat.lt_of_lt_of_le hszr b5.size)))
                 clear hm5 b5)
              | (go_at_call 80; go_must (refine (HE.out.2.2 _ _ _ (by first | exact hkn | exact hp) (by first | exact hp | exact hkn) H.out.2.1).mono ?_); rintro e w6 ⟨rfl, b6⟩
                 have hm6 := H.out.1.step b6
                 obtain ⟨z0, z1, z2, _, _, _⟩ := hm6.cells
                 have y1 := (below_cell b6 _ 0 H.out.2.2).trans y1
                 have y2 := (below_cell b6 _ 1 H.out.2.2).trans y2
                 have H := Lib.hid (And.intro hm6 (And.intro (H.out.2.1.trans (b6.mono H.out.2.1.size)) (Nat.lt_of_lt_of_le H.out.2.2 b6.size)))
                 clear hm6 b6)
              | (go_at_call 85; go_must (refine (narrow_any base hb _ _ _ _ vc2 S2 L2 k 0 s.hi _ H.out.1 (by rw [HR.out.2.2.2.1]; exact hkn) (by rw [HR.out.2.2.2.1]; exact hn) (by have := HR.out.2.2.2.2.1; omega)).mono ?_); rintro e w8 ⟨rfl, vc6, hm8, hk8⟩))
            go_roundw
            case rel => exact ⟨k + 1, _, _, vc6, by omega, by go_num, hm8, HE.out.2.1, HR.out.2.2.1.trans ((QKeep.of_below H.out.2.1 _ _ _).trans hk8)⟩
            case measure => simp [intOf]; omega
        · have hask : askQ (likeQ G) F p s k = (s.lo, 999) := by simp [askQ, h1, h2]
          rw [hask] at hst
          simp only [h1] at hE
          have HE := Lib.hid (And.intro hE (And.intro hst hF))
          clear hE hF hst hask h1 hl1 hl2 hl3
          go_wp2_with (first
            | (go_at_call 79; go_must (refine (HE.out.1 wr (Below.refl _ _)).mono ?_); rintro e w5 ⟨rfl, b5⟩
               have hm5 := HR.out.1.step b5
               obtain ⟨z0, z1, z2, _, _, _⟩ := hm5.cells
               have y1 := (below_cell b5 _ 0 hszr).trans x1
               have y2 := (below_cell b5 _ 1 hszr).trans x2
               have H := Lib.hid (And.intro hm5 (And.intro b5 (Nat.lt_of_lt_of_le hszr b5.size)))
               clear hm5 b5)
            | (go_at_call 80; go_must (refine (HE.out.2.2 _ _ _ (by first | exact hkn | exact hp) (by first | exact hp | exact hkn) H.out.2.1).mono ?_); rintro e w6 ⟨rfl, b6⟩
               have hm6 := H.out.1.step b6
               obtain ⟨z0, z1, z2, _, _, _⟩ := hm6.cells
               have y1 := (below_cell b6 _ 0 H.out.2.2).trans y1
               have y2 := (below_cell b6 _ 1 H.out.2.2).trans y2
               have H := Lib.hid (And.intro hm6 (And.intro (H.out.2.1.trans (b6.mono H.out.2.1.size)) (Nat.lt_of_lt_of_le H.out.2.2 b6.size)))
               clear hm6 b6)
            | (go_at_call 85; go_must (refine (narrow_any base hb _ _ _ _ vc2 S2 L2 k s.lo 999 _ H.out.1 (by rw [HR.out.2.2.2.1]; exact hkn) (by rw [HR.out.2.2.2.1]; exact hn) (by have := HR.out.2.2.2.2.1; omega)).mono ?_); rintro e w8 ⟨rfl, vc6, hm8, hk8⟩))
          go_roundw
          case rel => exact ⟨k + 1, _, _, vc6, by omega, by go_num, hm8, HE.out.2.1, HR.out.2.2.1.trans ((QKeep.of_below H.out.2.1 _ _ _).trans hk8)⟩
          case measure => simp [intOf]; omega
      · have hask : askQ (likeQ G) F p s k = (s.lo, s.hi) := by simp [askQ, h1]
        rw [hask] at hst
        simp only [h1] at hE
        have HE := Lib.hid (And.intro hE (And.intro hst hF))
        clear hE hF hst hask h1 hl1 hl2 hl3
        go_wp2_with (first
          | (go_at_call 79; go_must (refine (HE.out.1 wr (Below.refl _ _)).mono ?_); rintro e w5 ⟨rfl, b5⟩
             have hm5 := HR.out.1.step b5
             obtain ⟨z0, z1, z2, _, _, _⟩ := hm5.cells
             have y1 := (below_cell b5 _ 0 hszr).trans x1
             have y2 := (below_cell b5 _ 1 hszr).trans x2
             have H := Lib.hid (And.intro hm5 (And.intro b5 (Nat.lt_of_lt_of_le hszr b5.size)))
             clear hm5 b5)
          | (go_at_call 80; go_must (refine (HE.out.2.2 _ _ _ (by first | exact hkn | exact hp) (by first | exact hp | exact hkn) H.out.2.1).mono ?_); rintro e w6 ⟨rfl, b6⟩
             have hm6 := H.out.1.step b6
             obtain ⟨z0, z1, z2, _, _, _⟩ := hm6.cells
             have y1 := (below_cell b6 _ 0 H.out.2.2).trans y1
             have y2 := (below_cell b6 _ 1 H.out.2.2).trans y2
             have H := Lib.hid (And.intro hm6 (And.intro (H.out.2.1.trans (b6.mono H.out.2.1.size)) (Nat.lt_of_lt_of_le H.out.2.2 b6.size)))
             clear hm6 b6)
          | (go_at_call 85; go_must (refine (narrow_any base hb _ _ _ _ vc2 S2 L2 k s.lo s.hi _ H.out.1 (by rw [HR.out.2.2.2.1]; exact hkn) (by rw [HR.out.2.2.2.1]; exact hn) (by have := HR.out.2.2.2.2.1; omega)).mono ?_); rintro e w8 ⟨rfl, vc6, hm8, hk8⟩))
        go_roundw
        case rel => exact ⟨k + 1, _, _, vc6, by omega, by go_num, hm8, HE.out.2.1, HR.out.2.2.1.trans ((QKeep.of_below H.out.2.1 _ _ _).trans hk8)⟩
        case measure => simp [intOf]; omega
    · have hkk : k = n := by omega
      subst hkk
      have HR := Lib.hid (And.intro hm (And.intro hi hke))
      clear hm hi hke
      go_wp2_with fail
      go_end0
      have e : (numQ (p :: L)).length = m + 1 := by rw [HH.out.2.2.2.2.2.2.2.2]; rfl
      rw [e]
      exact ⟨rfl, vc2, S2, L2, HR.out.1, HR.out.2.1, HM.out.2.2.1.trans HR.out.2.2⟩
end Go.Proofs.Ytnkdpogplkomhaa

/- What the program's order of dates is. -/
namespace Go.Proofs.Ytnkdpogplkomhaa
open Go.RowKit

/-- The order of valid arguments: the contexts themselves, their groups, and what each one lies directly above. -/
def DOrdP (w : World) (A : Option Addr) (ca : Nat) (ids : List Int) (l bs : List Ctx) (e : Ending) (w2 : World) : Prop :=
  Below w.heap.size w w2 ∧ ((argsD ids l bs = false ∧ e = .returned (.tuple #[.agg #[.slice none 0 0, .slice none 0 0, .slice none 0 0], .bool false])) ∨
    (argsD ids l bs = true ∧ ∃ A2 c2 A3 c3, e = .returned (.tuple #[.agg #[.slice A ids.length ca, .slice A2 ids.length c2, .slice A3 ids.length c3], .bool true]) ∧
      Reads w2 w2.heap.size 1 A2 ids.length (cellsI (groupsG ids l)) ∧ Reads w2 w2.heap.size 1 A3 ids.length (cellsU (rowsN ids.length (dirQ ids l)))))
theorem ord_cells {W : World} {g : Nat} {x y z : Value} (a b c : Value) (h : W.heap[g]? = some (.cells #[x, y, z] 73 (0, 0))) :
    (((W.setCell ⟨g, 0, none⟩ a).setCell ⟨g, 1, none⟩ b).setCell ⟨g, 2, none⟩ c).heap[g]? = some (.cells #[a, b, c] 73 (0, 0)) := by
  have h1 := heap_setCell_same _ g 0 _ _ a h
  have h2 := heap_setCell_same _ g 1 _ _ b h1
  have h3 := heap_setCell_same _ g 2 _ _ c h2
  rw [h3]
  rfl
theorem ord_ret {W : World} {g : Nat} {a b c t : Value} {tmps : Array Value} (h : W.heap[g]? = some (.cells #[a, b, c] 73 (0, 0))) (h6 : tmps.getD 6 undef = .pointer (some ⟨g, 0, none⟩)) (h7 : tmps.getD 7 undef = t) :
    (results Try.f43 tmps).run Try.prog W = .ok (.tuple #[.agg #[a, b, c], t]) W := by
  rw [results_cell_tmp rfl, h6, h7]
  have hl := run_loadVar_row (P := Try.prog) W g 73 73 #[a, b, c] (0, 0) _ h Try.underlying73 rfl (by kernel_rfl)
  simp [asAddr, Result.andThen, hl]
set_option maxHeartbeats 4000000 in
set_option maxRecDepth 100000 in
theorem iDOrder_any (A B C : Option Addr) (ca cb cc : Nat) (ids : List Int) (l bs : List Ctx) (w : World) (ha : Reads w w.heap.size 1 A ids.length (cellsI ids)) (hb : Reads w w.heap.size 3 B l.length (cellsC l)) (hc : Reads w w.heap.size 3 C bs.length (cellsC bs))
    (hn : ids.length ≤ 1000000000) (hl : l.length ≤ 1000000000) (hm : bs.length ≤ 1000000000) :
    Calls Try.prog 43 #[.slice A ids.length ca, .slice B l.length cb, .slice C bs.length cc] w (DOrdP w A ca ids l bs) := by
  obtain ⟨W0, hW0⟩ : ∃ W0, W0 = w.alloc (.cells #[.slice none 0 0, .slice none 0 0, .slice none 0 0] 73) := ⟨_, rfl⟩
  have b0 : Below w.heap.size w W0 := by rw [hW0]; exact (Below.refl _ _).alloc (Nat.le_refl _) _
  have hs0 : w.heap.size < W0.heap.size := by rw [hW0]; simp
  have hz : ∀ W, Below W0.heap.size W0 W → W.heap[w.heap.size]? = some (.cells #[.slice none 0 0, .slice none 0 0, .slice none 0 0] 73 (0, 0)) := fun W h => (h.block _ hs0).trans (by rw [hW0]; exact heap_alloc_new _ _)
  have HW := Lib.hid hW0
  have HR := Lib.hid (And.intro (ha.step b0) (And.intro (hb.step b0) (And.intro (hc.step b0) (And.intro hz b0))))
  clear hW0 ha hb hc hz b0
  cases h1 : ordOkG ids l
  · have HA : Hid (argsD ids l bs = false) := by show argsD ids l bs = false; simp [argsD, h1]
    have hv := iOrdValid_any A B ca cb ids l W0 HR.out.1 HR.out.2.1 hn hl
    rw [h1, HW.out] at hv
    have HV := Lib.hid hv
    clear hv
    go_enter Try.func43, Try.ntmps43
    go_wp2_with (go_at_call 17; go_must (refine HV.out.mono ?_); rintro e w2 ⟨rfl, b2⟩
                 have z := HR.out.2.2.2.1 w2 (by rw [HW.out]; exact b2)
                 have z0 := cell_of_row _ _ 0 _ _ _ z
                 have z1 := cell_of_row _ _ 1 _ _ _ z
                 have z2 := cell_of_row _ _ 2 _ _ _ z
                 have y0 := frozen_of_row _ _ 0 _ _ z
                 have y1 := frozen_of_row _ _ 1 _ _ z
                 have y2 := frozen_of_row _ _ 2 _ _ z)
    (try simp only [Exit.inBlock, Exit.then]); refine bodyPost_ret (ord_ret (ord_cells _ _ _ (HR.out.2.2.2.1 w2 (by rw [HW.out]; exact b2))) rfl rfl) rfl ?_
    refine ⟨?_, .inl ⟨HA.out, rfl⟩⟩
    have b2' : Below W0.heap.size W0 w2 := by rw [HW.out]; exact b2
    exact (((HR.out.2.2.2.2.trans (b2'.mono (Nat.le_of_lt hs0))).setCell (Nat.le_refl _) _).setCell (Nat.le_refl _) _).setCell (Nat.le_refl _) _
  · have hv := iOrdValid_any A B ca cb ids l W0 HR.out.1 HR.out.2.1 hn hl
    rw [h1, HW.out] at hv
    have HV := Lib.hid hv
    clear hv
    cases h2 : validB bs
    · have HA : Hid (argsD ids l bs = false) := by show argsD ids l bs = false; simp [argsD, h2]
      have HB := Lib.hid (fun (W : World) (h : Below W0.heap.size W0 W) => iBoundsValid_any C cc bs W (HR.out.2.2.1.step h) (by omega))
      rw [h2] at HB
      go_enter Try.func43, Try.ntmps43
      go_wp2_with (first
        | (go_at_call 17; go_must (refine HV.out.mono ?_); rintro e w2 ⟨rfl, b2⟩)
        | (go_at_call 18; go_must (refine (HB.out w2 (by rw [HW.out]; exact b2)).mono ?_); rintro e w3 ⟨rfl, b3⟩
           have b23 : Below W0.heap.size W0 w3 := by rw [HW.out]; exact below_step b2 b3
           have z := HR.out.2.2.2.1 w3 b23
           have z0 := cell_of_row _ _ 0 _ _ _ z
           have z1 := cell_of_row _ _ 1 _ _ _ z
           have z2 := cell_of_row _ _ 2 _ _ _ z
           have y0 := frozen_of_row _ _ 0 _ _ z
           have y1 := frozen_of_row _ _ 1 _ _ z
           have y2 := frozen_of_row _ _ 2 _ _ z))
      (try simp only [Exit.inBlock, Exit.then]); refine bodyPost_ret (ord_ret (ord_cells _ _ _ z) rfl rfl) rfl ?_
      exact ⟨(((HR.out.2.2.2.2.trans (b23.mono (Nat.le_of_lt hs0))).setCell (Nat.le_refl _) _).setCell (Nat.le_refl _) _).setCell (Nat.le_refl _) _, .inl ⟨HA.out, rfl⟩⟩
    · have HB := Lib.hid (fun (W : World) (h : Below W0.heap.size W0 W) => iBoundsValid_any C cc bs W (HR.out.2.2.1.step h) (by omega))
      rw [h2] at HB
      have hok := ordOk_okG h1
      have hid12 : ids.length ≤ 12 := validO_len (okG_parts hok).1
      have hb12 := (validB_ok h2).2
      have HO := Lib.hid (And.intro h1 (And.intro h2 hok))
      clear h1 h2 hok
      go_enter Try.func43, Try.ntmps43
      go_wp2_with (first
        | (go_at_call 17; go_must (refine HV.out.mono ?_); rintro e w2 ⟨rfl, b2⟩)
        | (go_at_call 18; go_must (refine (HB.out w2 (by rw [HW.out]; exact b2)).mono ?_); rintro e w3 ⟨rfl, b3⟩))
      have b23 : Below W0.heap.size W0 w3 := by rw [HW.out]; exact below_step b2 b3
      have H3 := Lib.hid b23
      clear b23 b2 b3
      go_loopw [26] (fun i wr => ∃ k : Nat, k ≤ bs.length ∧ i = .int .i64 k ∧ Below W0.heap.size W0 wr ∧ ∀ (j : Nat) (b : Ctx), j < k → bs[j]? = some b → b.id ∈ ids) (fun i _ => bs.length - (intOf i).toNat)
      case atStart => exact ⟨0, Nat.zero_le _, rfl, H3.out, fun j b h => absurd h (by omega)⟩
      case round =>
        obtain ⟨k, hk, rfl, hbl, hg⟩ := hrel
        have hszr := hbl.size
        by_cases hlt : k < bs.length
        · have hki : (k : Int) < (bs.length : Int) := by omega
          obtain ⟨g, off, hC, hgl, hcc⟩ := (HR.out.2.2.1.step hbl).ctx (by omega)
          subst hC
          obtain ⟨⟨xa, xb, xc⟩, hx⟩ : ∃ r, bs[k]? = some r := ⟨_, List.getElem?_eq_getElem hlt⟩
          obtain ⟨c1, c2, c3⟩ := hcc k _ hx
          dsimp only at c1 c2 c3
          have b9 : Below wr.heap.size wr (wr.alloc (.cells #[.int .i64 xa, .int .i64 xb, .int .i64 xc] 44)) := (Below.refl _ _).alloc (Nat.le_refl _) _
          have b09 := below_step hbl b9
          have hC := containsI_any A ca ids xa _ (HR.out.1.step b09) (by omega)
          by_cases hin : xa ∈ ids
          · rw [decide_eq_true hin] at hC
            have HK := Lib.hid (And.intro hC (And.intro hin (And.intro b09 (And.intro hg hx))))
            clear hC hin b9 b09 hcc hg hx hbl
            go_wp2_with (go_at_call 76; go_must (refine HK.out.1.mono ?_); rintro e w5 ⟨rfl, rfl⟩)
            go_roundw
            case rel =>
              refine ⟨k + 1, by omega, by go_num, HK.out.2.2.1, fun j b hj hb => ?_⟩
              rcases (by omega : j < k ∨ j = k) with h | h
              · exact HK.out.2.2.2.1 j b h hb
              · subst h
                rw [HK.out.2.2.2.2] at hb
                injection hb with hb
                subst hb
                exact HK.out.2.1
            case measure => simp [intOf]; omega
          · rw [decide_eq_false hin] at hC
            have z := HR.out.2.2.2.1 _ b09
            have z0 := cell_of_row _ _ 0 _ _ _ z
            have z1 := cell_of_row _ _ 1 _ _ _ z
            have z2 := cell_of_row _ _ 2 _ _ _ z
            have y0 := frozen_of_row _ _ 0 _ _ z
            have y1 := frozen_of_row _ _ 1 _ _ z
            have y2 := frozen_of_row _ _ 2 _ _ z
            have HK := Lib.hid (And.intro hC (And.intro hin (And.intro b09 (And.intro hx z))))
            clear hC hin b9 b09 hcc hg hx hbl z
            go_wp2_with (go_at_call 76; go_must (refine HK.out.1.mono ?_); rintro e w5 ⟨rfl, rfl⟩)
            (try simp only [Exit.inBlock, Exit.then]); refine bodyPost_ret (ord_ret (ord_cells _ _ _ HK.out.2.2.2.2) rfl rfl) rfl ?_
            have HA : argsD ids l bs = false := by
              cases he : argsD ids l bs
              · rfl
              · exact absurd ((argsD_parts he).2.2 _ (List.mem_of_getElem? HK.out.2.2.2.1)) HK.out.2.1
            exact ⟨(((HR.out.2.2.2.2.trans (HK.out.2.2.1.mono (Nat.le_of_lt hs0))).setCell (Nat.le_refl _) _).setCell (Nat.le_refl _) _).setCell (Nat.le_refl _) _, .inl ⟨HA, rfl⟩⟩
        · have hall : ∀ b ∈ bs, b.id ∈ ids := fun b hb => by
            obtain ⟨j, hj, e⟩ := List.mem_iff_getElem.1 hb
            exact hg j b (by omega) (by rw [List.getElem?_eq_getElem hj, e])
          have HA : Hid (argsD ids l bs = true) := by
            show argsD ids l bs = true
            simp only [argsD, HO.out.1, HO.out.2.1, Bool.true_and, List.all_eq_true, decide_eq_true_eq]
            exact hall
          have hgr := iGroups_any A B ca cb ids l wr (HR.out.1.step hbl) (HR.out.2.1.step hbl) (by omega) (by omega)
          have hL := Lib.hid hbl
          have HG := Lib.hid hgr
          clear hgr hbl hg hall
          go_wp2_with (first
            | (go_at_call 19; go_must (refine HG.out.mono ?_); rintro e w5 ⟨v5, rfl, b5, o5⟩
               rw [groupsOfG, if_pos HO.out.2.2, groupsG_len] at o5
               obtain ⟨A5, c5, hv5, _, r5⟩ := Reads.of_own o5
               subst hv5
               have H5 := Lib.hid (And.intro (below_step hL.out b5) o5)
               clear b5 o5 r5)
            | (go_at_call 77; go_must (refine (iDirect_any A B ca cb ids l w5 (HR.out.1.step H5.out.1) (HR.out.2.1.step H5.out.1) hn hl).mono ?_); rintro e w6 ⟨v6, rfl, b6, o6⟩
               rw [szG_ok HO.out.2.2] at o6
               obtain ⟨A6, c6, hv6, _, r6⟩ := Reads.of_own o6
               subst hv6
               have H6 := Lib.hid (And.intro (below_step H5.out.1 b6) (And.intro o6 (own_below H5.out.2 b6)))
               have z := HR.out.2.2.2.1 w6 H6.out.1
               have z0 := cell_of_row _ _ 0 _ _ _ z
               have z1 := cell_of_row _ _ 1 _ _ _ z
               have z2 := cell_of_row _ _ 2 _ _ _ z
               have y0 := frozen_of_row _ _ 0 _ _ z
               have y1 := frozen_of_row _ _ 1 _ _ z
               have y2 := frozen_of_row _ _ 2 _ _ z
               clear b6 o6 r6))
          (try simp only [Exit.inBlock, Exit.then]); refine bodyPost_ret (ord_ret (ord_cells _ _ _ z) rfl rfl) rfl ?_
          obtain ⟨b6, o6, o5⟩ := H6.out
          have hs1 : W0.heap.size ≤ wr.heap.size := hL.out.size
          have hs5 : W0.heap.size ≤ w5.heap.size := H5.out.1.size
          have n5 : (Value.slice A5 ids.length c5).ownBlock ≠ some w.heap.size := fun e => by have := (o5.lt _ e).1; omega
          have n6 : (Value.slice A6 ids.length c6).ownBlock ≠ some w.heap.size := fun e => by have := (o6.lt _ e).1; omega
          exact ⟨(((HR.out.2.2.2.2.trans (b6.mono (Nat.le_of_lt hs0))).setCell (Nat.le_refl _) _).setCell (Nat.le_refl _) _).setCell (Nat.le_refl _) _, .inr ⟨HA.out, A5, c5, A6, c6, rfl,
            own_reads (ownsRow_setCell_other (ownsRow_setCell_other (ownsRow_setCell_other o5 n5 _) n5 _) n5 _), own_reads (ownsRow_setCell_other (ownsRow_setCell_other (ownsRow_setCell_other o6 n6 _) n6 _) n6 _)⟩⟩
end Go.Proofs.Ytnkdpogplkomhaa

/- What years the program's order of dates leaves to each context. -/
namespace Go.Proofs.Ytnkdpogplkomhaa
open Go.RowKit

set_option maxHeartbeats 4000000 in
set_option maxRecDepth 100000 in
theorem dSpans_any (A1 A2 A3 C : Option Addr) (c1 c2 c3 cc : Nat) (ids : List Int) (l bs : List Ctx) (w : World) (ra : Reads w w.heap.size 1 A1 ids.length (cellsI ids)) (rg : Reads w w.heap.size 1 A2 ids.length (cellsI (groupsG ids l)))
    (rf : Reads w w.heap.size 1 A3 ids.length (cellsU (rowsN ids.length (dirQ ids l)))) (rc : Reads w w.heap.size 3 C bs.length (cellsC bs)) (h : argsD ids l bs = true) :
    Calls Try.prog 51 #[.agg #[.slice A1 ids.length c1, .slice A2 ids.length c2, .slice A3 ids.length c3], .slice C bs.length cc] w (PairSp w (datesD ids l bs) (okD ids l bs)) := by
  obtain ⟨a1, a2, a3⟩ := argsD_parts h
  have hn : ids.length ≤ 12 := validO_len (okG_parts (ordOk_okG a1)).1
  have hb12 := (validB_ok a2).2
  obtain ⟨W1, hW1⟩ : ∃ W1, W1 = w.alloc (.cells #[.slice A1 ids.length c1, .slice A2 ids.length c2, .slice A3 ids.length c3] 73) := ⟨_, rfl⟩
  have b1 : Below w.heap.size w W1 := by rw [hW1]; exact (Below.refl w.heap.size w).alloc (Nat.le_refl _) _
  have hs1 : w.heap.size < W1.heap.size := by rw [hW1]; simp
  have k0 : W1.cell? ⟨w.heap.size, 0, none⟩ = some (.slice A1 ids.length c1) := by rw [hW1]; exact (cell_of_row _ _ _ _ _ _ (heap_alloc_new _ _)).trans rfl
  have HW := Lib.hid hW1
  have HR := Lib.hid (And.intro (ra.step b1) (And.intro (rg.step b1) (And.intro (rf.step b1) (And.intro (rc.step b1) (And.intro k0 b1)))))
  have HA := Lib.hid (And.intro h (And.intro a3 (And.intro a1 a2)))
  clear hW1 ra rg rf rc b1 k0 h a1 a2 a3
  go_enter Try.func51, Try.ntmps51
  go_wp2_with (go_at_call 84; go_must (refine (queue_any A1 A2 A3 ids.length c1 ids.length c2 ids.length c3 _ hn).mono ?_); rintro e w3 ⟨hb, vs, rfl, hm3, b3⟩
               rw [← HW.out] at hm3 b3)
  have H3 := Lib.hid (And.intro hm3 b3)
  clear hm3 b3
  go_loopw [15] (fun i wr => ∃ (k : Nat) (S : List Sp) (L : List Nat) (vc : Value), k ≤ bs.length ∧ i = .int .i64 k ∧ QMem wr W1.heap.size hb (.slice A1 ids.length c1) (.slice A2 ids.length c2) (.slice A3 ids.length c3) vs vc S (numQ L) ∧ Below W1.heap.size W1 wr ∧
    InvQ (sameQ ids l) (dirQ ids l) ids.length (lowD ids l bs) (highD ids l bs) (ids.length * 1998) S L ∧ ∀ i, i < ids.length → loP ids (bs.take k) i ≤ (atQ S i).lo ∧ (atQ S i).hi ≤ hiP ids (bs.take k) i) (fun i _ => bs.length - (intOf i).toNat)
  case atStart => exact ⟨0, fullQ ids.length, [], _, Nat.zero_le _, rfl, H3.out.1, H3.out.2, inv_full, fun i _ => by rw [fullQ_at]; exact ⟨Int.le_refl _, Int.le_refl _⟩⟩
  case round =>
    obtain ⟨k, S, L, vc, hk, rfl, hm, hbw, hi, hbd⟩ := hrel
    have hszr : W1.heap.size ≤ wr.heap.size := hbw.size
    by_cases hlt : k < bs.length
    · have hki : (k : Int) < (bs.length : Int) := by omega
      obtain ⟨g, off, hC, hgl, hcc⟩ := (HR.out.2.2.2.1.step hbw).ctx (by omega)
      subst hC
      obtain ⟨⟨xa, xb, xc⟩, hx⟩ : ∃ r, bs[k]? = some r := ⟨_, List.getElem?_eq_getElem hlt⟩
      obtain ⟨d1, d2, d3⟩ := hcc k _ hx
      dsimp only at d1 d2 d3
      have hmem := HA.out.2.1 _ (List.mem_of_getElem? hx)
      dsimp only at hmem
      obtain ⟨p1, p2, p3⟩ := placeI_at hmem
      obtain ⟨W2, hW2⟩ : ∃ W2, W2 = (wr.alloc (.cells #[.int .i64 xa, .int .i64 xb, .int .i64 xc] 44)).drew := ⟨_, rfl⟩
      have b2 : Below wr.heap.size wr W2 := by rw [hW2]; exact ((Below.refl _ _).alloc (Nat.le_refl _) _).drew
      have hm2 := hm.step b2
      have hS2 : W2.cell? ⟨w.heap.size, 0, none⟩ = some (.slice A1 ids.length c1) ∧ W2.cell? ⟨wr.heap.size, 0, none⟩ = some (.int .i64 xa) ∧ W2.cell? ⟨wr.heap.size, 1, none⟩ = some (.int .i64 xb) ∧ W2.cell? ⟨wr.heap.size, 2, none⟩ = some (.int .i64 xc) := by
        refine ⟨(below_cell b2 _ _ (by omega)).trans ((below_cell hbw _ _ hs1).trans HR.out.2.2.2.2.1), ?_, ?_, ?_⟩ <;> rw [hW2] <;> exact (cell_of_row _ _ _ _ _ _ (heap_alloc_new _ _)).trans rfl
      have hCi := indexI_any A1 c1 ids xa W2 (HR.out.1.step (hbw.trans (b2.mono hszr))) (by omega)
      rw [p1] at hCi
      have hlen : L.length ≤ 100000 := by have := hi.size; omega
      have hCn := narrow_any W1.heap.size hb _ _ _ vs vc S L (placeI ids xa) xb xc W2 hm2 (by rw [hi.sound.len]; exact p2) (by rw [hi.sound.len]; exact hn) hlen
      obtain ⟨pl, hpl⟩ : ∃ pl, pl = placeI ids xa := ⟨_, rfl⟩
      rw [← hpl] at hCi hCn
      have hz2 : wr.heap.size < W2.heap.size := by rw [hW2]; simp [World.drew]
      subst hW2
      have HK := Lib.hid (And.intro hCi (And.intro hCn (And.intro hS2 (And.intro hi (And.intro hbd (And.intro hx (And.intro hpl (And.intro hm2 (And.intro (hbw.trans (b2.mono hszr)) hm)))))))))
      have hltr := hm.lt
      clear hCi hCn hS2 hi hbd hx hpl hm hm2 b2 hcc hmem p1 p2 p3 hbw hlen
      go_wp2_with fail
      go_region_held3 (fun w' => w'.cell? ⟨w.heap.size, 0, none⟩ = some (.slice A1 ids.length c1) ∧ w'.cell? ⟨wr.heap.size, 0, none⟩ = some (.int .i64 xa) ∧ w'.cell? ⟨wr.heap.size, 1, none⟩ = some (.int .i64 xb) ∧ w'.cell? ⟨wr.heap.size, 2, none⟩ = some (.int .i64 xc))
        (first | assumption | exact HK.out.2.2.1 | exact h9 | fail)
        (first
          | (go_at_call 62; go_must (refine HK.out.1.mono ?_); rintro e w5 ⟨rfl, rfl⟩)
          | (go_at_call 85; go_must (refine HK.out.2.1.mono ?_); rintro e w9 ⟨rfl, vc9, hm9, hk9⟩
             have h9 : w9.cell? ⟨w.heap.size, 0, none⟩ = some (.slice A1 ids.length c1) ∧ w9.cell? ⟨wr.heap.size, 0, none⟩ = some (.int .i64 xa) ∧ w9.cell? ⟨wr.heap.size, 1, none⟩ = some (.int .i64 xb) ∧ w9.cell? ⟨wr.heap.size, 2, none⟩ = some (.int .i64 xc) := by
               obtain ⟨q1, q2, q3, q4⟩ := HK.out.2.2.1
               have hmr := HK.out.2.2.2.2.2.2.2.2.2
               have f1 : wr.heap.size ≠ hb := by omega
               have f2 : vs.ownBlock ≠ some wr.heap.size := fun e => by have := (hmr.spans.lt _ e).2; omega
               have f3 : vc.ownBlock ≠ some wr.heap.size := fun e => by have := (hmr.row.lt _ e).2; omega
               exact ⟨(below_cell (hk9.below HK.out.2.2.2.2.2.2.2.1) _ _ hs1).trans q1, (hk9.cell hz2 f1 f2 f3).trans q2, (hk9.cell hz2 f1 f2 f3).trans q3, (hk9.cell hz2 f1 f2 f3).trans q4⟩))
      all_goals
        go_wp2_with fail
        go_roundw
        case rel =>
          obtain ⟨_, _, _, hi, hbd, hx, hpl, hm2, hbw2, _⟩ := HK.out
          obtain ⟨r1, r2⟩ := inv_bound HA.out.1 hx hi hbd
          dsimp only at r1 r2
          rw [← hpl] at r1 r2
          exact ⟨k + 1, _, _, vc9, by omega, by go_num, hm9, hbw2.trans (hk9.below hm2), r1, r2⟩
        case measure => simp [intOf]; omega
    · have hkb : k = bs.length := by omega
      subst hkb
      rw [List.take_length] at hbd
      have HI := Lib.hid (And.intro hm (And.intro hbw (And.intro hi hbd)))
      clear hm hbw hi hbd
      go_wp2_with fail
      go_loopg [] (ids.length * 1998) (fun g wr => ∃ (S : List Sp) (L : List Nat) (vc : Value), g ≤ ids.length * 1998 ∧ QMem wr W1.heap.size hb (.slice A1 ids.length c1) (.slice A2 ids.length c2) (.slice A3 ids.length c3) vs vc S (numQ L) ∧ Below W1.heap.size W1 wr ∧
        InvQ (sameQ ids l) (dirQ ids l) ids.length (lowD ids l bs) (highD ids l bs) g S L ∧ ∀ i, i < ids.length → loP ids bs i ≤ (atQ S i).lo ∧ (atQ S i).hi ≤ hiP ids bs i)
      case atStart => exact ⟨S, L, vc, Nat.le_refl _, HI.out.1, HI.out.2.1, HI.out.2.2.1, HI.out.2.2.2⟩
      case round =>
        clear HI
        obtain ⟨S, L, vc, hgk, hm, hbw, hi, hbd⟩ := hrel
        obtain ⟨A4, c4, hvc, _⟩ := hm.row.reads
        subst hvc
        obtain ⟨_, _, _, q3, q4, _⟩ := hm.cells
        have hltr := hm.lt
        cases L with
        | nil =>
          have hS := inv_end HA.out.1 hi hbd
          have hSl := hi.sound.len
          subst hS
          obtain ⟨A5, c5, hvs, _, _⟩ := Reads.of_own hm.spans
          subst hvs
          have q4' : wr.cell? ⟨hb, 4, none⟩ = some (.slice A4 0 c4) := q4
          rw [allD_len] at q3
          have HI := Lib.hid (And.intro hm (And.intro hbw hSl))
          clear hm hbw hi hbd hSl q4
          go_wp2_with fail
          go_loopw [44] (fun i w5 => ∃ k : Nat, k ≤ ids.length ∧ i = .int .i64 k ∧ Below wr.heap.size wr w5 ∧ ∀ j, j < k → lowD ids l bs j ≤ highD ids l bs j) (fun i _ => ids.length - (intOf i).toNat)
          case atStart => exact ⟨0, Nat.zero_le _, rfl, Below.refl _ _, fun j h => absurd h (by omega)⟩
          case round =>
            obtain ⟨k2, hk2, rfl, hb5, hall⟩ := hrel
            have hm5 := HI.out.1.step hb5
            obtain ⟨_, _, _, q5, _, _⟩ := hm5.cells
            rw [allD_len] at q5
            have hlt5 := hm5.lt
            have hw5 := below_step (HR.out.2.2.2.2.2) ((HI.out.2.1.trans (hb5.mono HI.out.2.1.size)))
            by_cases hlt2 : k2 < ids.length
            · have hki2 : (k2 : Int) < (ids.length : Int) := by omega
              have ho5 := hm5.spans
              rw [allD_len] at ho5
              obtain ⟨g, cap, hvs, _, hgl⟩ := ho5.form (by omega)
              injection hvs with e1 e2 e3
              subst e1 e3
              obtain ⟨d1, d2, _, _⟩ := own_cellsS ho5 (allD_at (l := l) (B := bs) hlt2)
              dsimp only at d1 d2
              obtain ⟨x, hx⟩ : ∃ x, x = lowD ids l bs k2 := ⟨_, rfl⟩
              obtain ⟨y, hy⟩ : ∃ y, y = highD ids l bs k2 := ⟨_, rfl⟩
              rw [← hx] at d1
              rw [← hy] at d2
              have HX := Lib.hid (And.intro hx (And.intro hy (And.intro hall (And.intro hw5 hb5))))
              clear hx hy hall hw5 hb5 hm5 ho5 e2
              by_cases hxy : y < x
              · have HY := Lib.hid hxy
                have e5 : decide (y < x) = true := decide_eq_true hxy
                clear hxy
                go_wp2_with fail
                go_ret2
                have hno : okD ids l bs = false := okD_bad hlt2 (by rw [← HX.out.1, ← HX.out.2.1]; exact HY.out)
                have hbb := (HX.out.2.2.2.1).alloc HX.out.2.2.2.1.size (.cells #[.int .i64 x, .int .i64 y] 33)
                exact pairSp_mk (m := []) hno.symm.symm (datesD_no hno) hbb (World.ownsRow_nil _ _ _ _)
              · have HY := Lib.hid hxy
                have e5 : decide (y < x) = false := decide_eq_false hxy
                clear hxy
                go_wp2_with fail
                go_roundw
                case rel =>
                  refine ⟨k2 + 1, by omega, by go_num, HX.out.2.2.2.2.alloc HX.out.2.2.2.2.size _, fun j hj => ?_⟩
                  rcases (by omega : j < k2 ∨ j = k2) with h | h
                  · exact HX.out.2.2.1 j h
                  · subst h
                    rw [← HX.out.1, ← HX.out.2.1]
                    have := HY.out
                    omega
                case measure => simp [intOf]; omega
            · have hkk : k2 = ids.length := by omega
              subst hkk
              have HX := Lib.hid (And.intro hall (And.intro hw5 hm5))
              clear hall hw5 hm5 hb5
              go_wp2_with fail
              go_ret2
              have hyes : okD ids l bs = true := okD_good HA.out.1 fun i hi => HX.out.1 i hi
              have ho := own_less HX.out.2.2.spans (Nat.le_of_lt hs1)
              have hl5 : (allD ids l bs).length = ids.length := allD_len ids l bs
              rw [hl5] at ho
              exact pairSp_mk (m := allD ids l bs) hyes.symm.symm (datesD_ok hyes) HX.out.2.1 (by rw [hl5]; exact ho)
        | cons p L =>
          have hp : p < ids.length := hi.ins p (by simp)
          obtain ⟨g, rfl⟩ : ∃ g, gk = g + 1 := ⟨gk - 1, by have := hi.size; simp at this; omega⟩
          have hP := passNext_any W1.heap.size hb A1 A2 A3 ids.length c1 c2 c3 vs _ S L p (groupsG ids l) (dirQ ids l)
            (fun k S2 L2 => MidQ (sameQ ids l) (dirQ ids l) ids.length (lowD ids l bs) (highD ids l bs) (g + 1) p (atQ S p) k S2 L2 ∧ ∀ i, i < ids.length → loP ids bs i ≤ (atQ S2 i).lo ∧ (atQ S2 i).hi ≤ hiP ids bs i)
            wr hm (groupsG_len ids l) (HR.out.2.1.below hbw) (HR.out.2.2.1.below hbw) hn hp ⟨mid_zero hi, hbd⟩
            (fun k S2 L2 h2 => ⟨h2.1.sound.len, by have := h2.1.size; omega, fun i hi2 => ⟨(h2.1.sound.at_ i hi2).1, (h2.1.sound.at_ i hi2).2.2.2⟩⟩)
            (fun k S2 L2 hk2 h2 => ⟨mid_step HA.out.1 h2.1 hk2 hp, bnd_nar (by rw [h2.1.sound.len]; exact hk2) h2.2⟩)
          have hlen : (numQ (p :: L)).length = (numQ L).length + 1 := rfl
          rw [hlen] at q4 hP
          obtain ⟨m, hm2⟩ : ∃ m, m = (numQ L).length := ⟨_, rfl⟩
          rw [← hm2] at q4 hP
          have HP := Lib.hid (And.intro hP (And.intro hbw (And.intro hm (And.intro hm2 hlen))))
          have e0 : decide ((0 : Int) < (m : Int) + 1) = true := decide_eq_true (by omega)
          clear hP hbw hm hi hbd hlen hm2
          go_wp2_with (go_at_call 86; go_must (refine HP.out.1.mono ?_); rintro e w6 ⟨rfl, vc6, S6, L6, hm6, hI6, hk6⟩)
          go_roundg g
          case rel =>
            have hm0 := HP.out.2.2.1
            rw [HP.out.2.2.2.2, ← HP.out.2.2.2.1] at hm0
            exact ⟨S6, L6, vc6, by omega, hm6, HP.out.2.1.trans (hk6.below hm0), mid_end hI6.1, hI6.2⟩
          case measure => omega
end Go.Proofs.Ytnkdpogplkomhaa
