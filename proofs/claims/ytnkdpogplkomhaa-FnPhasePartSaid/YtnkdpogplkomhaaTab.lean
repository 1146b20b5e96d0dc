/- Rows of rows in memory: read, owned, grown by a row, written at a place. No function of the program. -/
import Derived.Test.YtnkdpogplkomhaaIl
import Derived.StillTailTactics
namespace Go.Proofs.Ytnkdpogplkomhaa
open Go.RowKit

/-- A statement out of sight of every reckoning. -/
structure Shut (p : Prop) : Prop where
  out : p
/-- As wpStill_step, with what follows out of sight: else a guarded operation ahead is reckoned at each step. -/
theorem still_stepH {P : Program} {ops : Array Oper} {w : World} {Q : Act → Prop} {a : Act} {o : Oper} {rest : List Oper}
    (h : ∀ K : Act → Prop, (∀ a, Shut (wpStill P ops w Q rest a) → K a) → if Region.wanted o (yielded ops a.tmps) then o.still P a w K else K (a.put o.dst undef)) : Shut (wpStill P ops w Q (o :: rest) a) :=
  ⟨wpStill_step fun K hK => h K fun a ha => hK a ha.out⟩
theorem still_nilH {P : Program} {ops : Array Oper} {w : World} {Q : Act → Prop} {a : Act} (h : Q a) : Shut (wpStill P ops w Q [] a) := ⟨wpStill_nil h⟩
theorem wpStill_mono {P : Program} {ops : Array Oper} {w : World} {Q Q2 : Act → Prop} (h : ∀ a, Q a → Q2 a) : ∀ (l : List Oper) (a : Act), wpStill P ops w Q l a → wpStill P ops w Q2 l a
  | [], a, hh => h a hh
  | o :: rest, a, hh => by
    unfold wpStill at hh ⊢
    split
    · rename_i hw
      rw [if_pos hw] at hh
      exact Oper.still_mono (fun a => wpStill_mono h rest a) hh
    · rename_i hw
      rw [if_neg hw] at hh
      exact wpStill_mono h rest _ hh

section
variable {α : Type} (enc : α → Value)
/-- A slice of slices that reads as the lists L, in blocks below B. -/
def Nest (w : World) (B : Nat) (A : Option Addr) (n : Nat) (L : List (List α)) : Prop :=
  n = L.length ∧ ∃ vs : List Value, Reads w B 1 A n vs ∧ ∀ (i : Nat) (r : List α), L[i]? = some r → ∃ A2 c2, vs[i]? = some (.slice A2 r.length c2) ∧ r.length ≤ c2 ∧ Reads w B 1 A2 r.length (r.map enc)
variable {enc} {w w2 : World} {B B2 n : Nat} {A : Option Addr} {L : List (List α)}
theorem Nest.keep (h : Nest enc w B A n L) (hk : ∀ b o, b < B → w2.cell? ⟨b, o, none⟩ = w.cell? ⟨b, o, none⟩) : Nest enc w2 B A n L := by
  obtain ⟨h1, vs, h2, h3⟩ := h
  refine ⟨h1, vs, h2.keep hk, fun i r hr => ?_⟩
  obtain ⟨A2, c2, h4, h5, h6⟩ := h3 i r hr
  exact ⟨A2, c2, h4, h5, h6.keep hk⟩
theorem Nest.more (h : Nest enc w B A n L) (hB : B ≤ B2) : Nest enc w B2 A n L := by
  obtain ⟨h1, vs, h2, h3⟩ := h
  refine ⟨h1, vs, h2.more hB, fun i r hr => ?_⟩
  obtain ⟨A2, c2, h4, h5, h6⟩ := h3 i r hr
  exact ⟨A2, c2, h4, h5, h6.more hB⟩
theorem Nest.below (h : Nest enc w B A n L) (hb : Below B w w2) : Nest enc w2 B A n L := h.keep (below_cell hb)
theorem Nest.step (h : Nest enc w w.heap.size A n L) (hb : Below w.heap.size w w2) : Nest enc w2 w2.heap.size A n L := (h.below hb).more hb.size
theorem Nest.row (h : Nest enc w B A n L) {i : Nat} {r : List α} (hr : L[i]? = some r) : ∃ b off A2 c2, A = some ⟨b, off, none⟩ ∧ b < B ∧ w.cell? ⟨b, off + i, none⟩ = some (.slice A2 r.length c2) ∧ r.length ≤ c2 ∧ Reads w B 1 A2 r.length (r.map enc) := by
  obtain ⟨h1, vs, h2, h3⟩ := h
  obtain ⟨A2, c2, h4, h5, h6⟩ := h3 i r hr
  obtain ⟨b, off, e, hb, hc⟩ := h2.2 (by have := (List.getElem?_eq_some_iff.1 hr).1; omega)
  exact ⟨b, off, A2, c2, e, hb, hc i _ h4, h5, h6⟩
/-- One cell of a row. -/
theorem Reads.cellE {A2 : Option Addr} {r : List α} (h : Reads w B 1 A2 r.length (r.map enc)) {j : Nat} {x : α} (hx : r[j]? = some x) : ∃ b off, A2 = some ⟨b, off, none⟩ ∧ b < B ∧ w.cell? ⟨b, off + j, none⟩ = some (enc x) := by
  obtain ⟨b, off, e, hb, hc⟩ := h.2 (by have := (List.getElem?_eq_some_iff.1 hx).1; omega)
  exact ⟨b, off, e, hb, hc j _ (by simp [hx])⟩

variable (enc)
/-- The slice v, with the rows vs, is the call's own from base on, and so is each of its rows; no two share a block. -/
structure OwnV (w : World) (base : Nat) (e1 e2 : TypeId) (v : Value) (vs : List Value) (L : List (List α)) : Prop where
  len : vs.length = L.length
  out : w.ownsRow base e2 1 v L.length vs
  row : ∀ (i : Nat) (r : List α), L[i]? = some r → ∃ u, vs[i]? = some u ∧ w.ownsRow base e1 1 u r.length (r.map enc)
  far : ∀ (i : Nat) (u : Value) (g : Nat), vs[i]? = some u → u.ownBlock = some g → v.ownBlock ≠ some g
  apart : ∀ (i j : Nat) (u1 u2 : Value) (g : Nat), i ≠ j → vs[i]? = some u1 → vs[j]? = some u2 → u1.ownBlock = some g → u2.ownBlock ≠ some g
variable {enc} {base base2 : Nat} {e1 e2 : TypeId} {v : Value} {vs : List Value}
theorem OwnV.at_ (h : OwnV enc w base e1 e2 v vs L) {i : Nat} {u : Value} (hu : vs[i]? = some u) : ∃ r, L[i]? = some r ∧ w.ownsRow base e1 1 u r.length (r.map enc) := by
  have hi : i < L.length := by rw [← h.len]; exact (List.getElem?_eq_some_iff.1 hu).1
  obtain ⟨u2, h1, h2⟩ := h.row i _ (List.getElem?_eq_getElem hi)
  rw [hu] at h1
  injection h1 with h1
  subst h1
  exact ⟨_, List.getElem?_eq_getElem hi, h2⟩
theorem OwnV.nest (h : OwnV enc w base e1 e2 v vs L) : ∃ A c, v = .slice A L.length c ∧ L.length ≤ c ∧ Nest enc w w.heap.size A L.length L := by
  obtain ⟨A, c, hv, hc, hr⟩ := Reads.of_own h.out
  refine ⟨A, c, hv, hc, rfl, vs, hr, fun i r hr => ?_⟩
  obtain ⟨u, hu, ho⟩ := h.row i r hr
  obtain ⟨A2, c2, rfl, hc2, hr2⟩ := Reads.of_own ho
  exact ⟨A2, c2, hu, hc2, hr2⟩
theorem OwnV.below (h : OwnV enc w base e1 e2 v vs L) (hb : Below w.heap.size w w2) : OwnV enc w2 base e1 e2 v vs L :=
  ⟨h.len, own_below h.out hb, fun i r hr => by obtain ⟨u, hu, ho⟩ := h.row i r hr; exact ⟨u, hu, own_below ho hb⟩, h.far, h.apart⟩
theorem OwnV.alloc (h : OwnV enc w base e1 e2 v vs L) (o : Obj) : OwnV enc (w.alloc o) base e1 e2 v vs L := h.below ((Below.refl _ _).alloc (Nat.le_refl _) o)
theorem OwnV.less (h : OwnV enc w base e1 e2 v vs L) (hb : base2 ≤ base) : OwnV enc w base2 e1 e2 v vs L :=
  ⟨h.len, own_less h.out hb, fun i r hr => by obtain ⟨u, hu, ho⟩ := h.row i r hr; exact ⟨u, hu, own_less ho hb⟩, h.far, h.apart⟩
theorem OwnV.nil_ (h : w.ownsRow base e2 1 v 0 []) : OwnV enc w base e1 e2 v [] [] :=
  ⟨rfl, h, fun i r hr => by simp at hr, fun i u g hu => by simp at hu, fun i j u1 u2 g _ hu => by simp at hu⟩
/-- Each block of it lies below the heap's end, and from base on. -/
theorem OwnV.lt (h : OwnV enc w base e1 e2 v vs L) {i : Nat} {u : Value} {g : Nat} (hu : vs[i]? = some u) (hg : u.ownBlock = some g) : base ≤ g ∧ g < w.heap.size := by
  obtain ⟨r, _, ho⟩ := h.at_ hu
  exact ho.lt g hg
/-- A row is appended that is the call's own and shares no block. -/
theorem OwnV.push {o : Obj} {v2 u : Value} {r : List α} (h : OwnV enc w base e1 e2 v vs L) (hu : w.ownsRow base e1 1 u r.length (r.map enc)) (hf : ∀ g, u.ownBlock = some g → v.ownBlock ≠ some g ∧ ∀ (i : Nat) (u1 : Value), vs[i]? = some u1 → u1.ownBlock ≠ some g)
    (ho : w2.ownsRow base e2 1 v2 (L.length + 1) (vs ++ [u])) (hg : (w.alloc o).grownBy w2 v.ownBlock) (hat : v2.ownBlock = v.ownBlock ∨ v2.ownBlock = some (w.alloc o).heap.size) : OwnV enc w2 base e1 e2 v2 (vs ++ [u]) (L ++ [r]) := by
  have hsz : (w.alloc o).heap.size = w.heap.size + 1 := by simp
  have key : ∀ (u1 : Value) (r1 : List α), w.ownsRow base e1 1 u1 r1.length (r1.map enc) → (∀ g, u1.ownBlock = some g → v.ownBlock ≠ some g) → w2.ownsRow base e1 1 u1 r1.length (r1.map enc) ∧ ∀ g, u1.ownBlock = some g → v2.ownBlock ≠ some g := by
    intro u1 r1 h1 h2
    refine ⟨own_other (h1.alloc o) (h.out.alloc o) h2 hg, fun g hg1 hg2 => ?_⟩
    rcases hat with hat | hat
    · exact h2 g hg1 (hat.symm.trans hg2)
    · rw [hat] at hg2
      injection hg2 with hg2
      have := (h1.lt g hg1).2
      omega
  have hlen : vs.length = L.length := h.len
  refine ⟨by simp [hlen], by simpa using ho, fun i r1 hr1 => ?_, fun i u1 g hu1 hg1 => ?_, fun i j u1 u2 g hij h1 h2 hg1 => ?_⟩
  · rcases Nat.lt_or_ge i L.length with hi | hi
    · rw [List.getElem?_append_left hi] at hr1
      obtain ⟨u1, hu1, ho1⟩ := h.row i r1 hr1
      exact ⟨u1, by rw [List.getElem?_append_left (by omega)]; exact hu1, (key u1 r1 ho1 (fun g hg => h.far i u1 g hu1 hg)).1⟩
    · rw [List.getElem?_append_right hi] at hr1
      have hi0 : i - L.length = 0 := by
        have := (List.getElem?_eq_some_iff.1 hr1).1
        simp at this
        omega
      rw [hi0] at hr1
      simp at hr1
      subst hr1
      exact ⟨u, by rw [List.getElem?_append_right (by omega), hlen, hi0]; rfl, (key u _ hu (fun g hg => (hf g hg).1)).1⟩
  · rcases Nat.lt_or_ge i vs.length with hi | hi
    · rw [List.getElem?_append_left hi] at hu1
      obtain ⟨r1, _, ho1⟩ := h.at_ hu1
      exact (key u1 r1 ho1 (fun g hg => h.far i u1 g hu1 hg)).2 g hg1
    · rw [List.getElem?_append_right hi] at hu1
      have hi0 : i - vs.length = 0 := by
        have := (List.getElem?_eq_some_iff.1 hu1).1
        simp at this
        omega
      rw [hi0] at hu1
      simp at hu1
      subst hu1
      exact (key u r hu (fun g hg => (hf g hg).1)).2 g hg1
  · have last : ∀ {k : Nat} {x : Value}, (vs ++ [u])[k]? = some x → vs.length ≤ k → k = vs.length ∧ x = u := by
      intro k x hx hk
      rw [List.getElem?_append_right hk] at hx
      have hk0 : k - vs.length = 0 := by
        have := (List.getElem?_eq_some_iff.1 hx).1
        simp at this
        omega
      rw [hk0] at hx
      simp at hx
      exact ⟨by omega, hx.symm⟩
    rcases Nat.lt_or_ge i vs.length with hi | hi
    · have h1' := h1
      rw [List.getElem?_append_left hi] at h1'
      rcases Nat.lt_or_ge j vs.length with hj | hj
      · rw [List.getElem?_append_left hj] at h2
        exact h.apart i j u1 u2 g hij h1' h2 hg1
      · obtain ⟨_, rfl⟩ := last h2 hj
        exact fun hg2 => (hf g hg2).2 i u1 h1' hg1
    · obtain ⟨hi2, rfl⟩ := last h1 hi
      rcases Nat.lt_or_ge j vs.length with hj | hj
      · rw [List.getElem?_append_left hj] at h2
        exact (hf g hg1).2 j u2 h2
      · obtain ⟨hj2, _⟩ := last h2 hj
        omega
/-- What was made later shares no block with it. -/
theorem OwnV.fresh {w0 : World} {u : Value} {e n2 b2 : Nat} {xs : List Value} (h : OwnV enc w0 base e1 e2 v vs L) (hu : w.ownsRow b2 e 1 u n2 xs) (hb : w0.heap.size ≤ b2) : ∀ g, u.ownBlock = some g → v.ownBlock ≠ some g ∧ ∀ (i : Nat) (u1 : Value), vs[i]? = some u1 → u1.ownBlock ≠ some g := by
  intro g hg
  have h1 := (hu.lt g hg).1
  refine ⟨fun h2 => ?_, fun i u1 hu1 h2 => ?_⟩
  · have := (h.out.lt g h2).2; omega
  · have := (h.lt hu1 h2).2; omega
/-- A place of a row: its address, what it holds, and that it may be written. -/
theorem OwnV.cell (h : OwnV enc w base e1 e2 v vs L) {i j : Nat} {r : List α} {x : α} (hr : L[i]? = some r) (hx : r[j]? = some x) : ∃ g cap, vs[i]? = some (.slice (some ⟨g, 0, none⟩) r.length cap) ∧ base ≤ g ∧ g < w.heap.size ∧ w.cell? ⟨g, j, none⟩ = some (enc x) ∧ w.frozen? ⟨g, j, none⟩ = false := by
  obtain ⟨u, hu, ho⟩ := h.row i r hr
  have hj : j < r.length := (List.getElem?_eq_some_iff.1 hx).1
  obtain ⟨g, cap, rfl, h1, h2⟩ := ho.form (by omega)
  exact ⟨g, cap, hu, h1, h2, (ho.cellAt j (by omega)).trans (by simp [hx]), ho.frozenAt j⟩
theorem OwnV.cells (h : OwnV enc w base e1 e2 v vs L) {i : Nat} {r : List α} (hr : L[i]? = some r) (hp : 0 < r.length) : ∃ g cap, vs[i]? = some (.slice (some ⟨g, 0, none⟩) r.length cap) ∧ base ≤ g ∧ g < w.heap.size ∧
    (∀ (j : Nat) (x : α), r[j]? = some x → w.cell? ⟨g, j, none⟩ = some (enc x)) ∧ ∀ j, w.frozen? ⟨g, j, none⟩ = false := by
  obtain ⟨u, hu, ho⟩ := h.row i r hr
  obtain ⟨g, cap, rfl, h1, h2⟩ := ho.form hp
  exact ⟨g, cap, hu, h1, h2, fun j x hx => (ho.cellAt j (by have := (List.getElem?_eq_some_iff.1 hx).1; omega)).trans (by simp [hx]), fun j => ho.frozenAt j⟩
theorem OwnV.store (h : OwnV enc w base e1 e2 v vs L) {i j g cap : Nat} {r : List α} (hr : L[i]? = some r) (hu : vs[i]? = some (.slice (some ⟨g, 0, none⟩) r.length cap)) (x : α) :
    OwnV enc (w.setCell ⟨g, j, none⟩ (enc x)) base e1 e2 v vs (L.set i (r.set j x)) := by
  have hob : (Value.slice (some ⟨g, 0, none⟩) r.length cap).ownBlock = some g := rfl
  have hvb : v.ownBlock ≠ some g := h.far i _ g hu hob
  refine ⟨by rw [List.length_set]; exact h.len, by rw [List.length_set]; exact ownsRow_setCell_other h.out hvb _, fun k r1 hr1 => ?_, h.far, h.apart⟩
  obtain ⟨u0, hu0, ho0⟩ := h.row i r hr
  rw [hu] at hu0
  injection hu0 with hu0
  subst hu0
  by_cases hk : k = i
  · subst hk
    have hkl : k < L.length := (List.getElem?_eq_some_iff.1 hr).1
    rw [List.getElem?_set_self hkl] at hr1
    injection hr1 with hr1
    subst hr1
    refine ⟨_, hu, ?_⟩
    have h1 := (ho0.stored j (enc x)).1
    rw [List.length_set, List.map_set]
    exact h1
  · rw [List.getElem?_set_ne (fun e => hk e.symm)] at hr1
    obtain ⟨u, hu1, ho1⟩ := h.row k r1 hr1
    exact ⟨u, hu1, ownsRow_setCell_other ho1 (fun e => h.apart k i u _ g hk hu1 hu e hob) _⟩
/-- The slice itself: its block, and the rows that it holds. -/
theorem OwnV.outer (h : OwnV enc w base e1 e2 v vs L) (hL : 0 < L.length) : ∃ go capo, v = .slice (some ⟨go, 0, none⟩) L.length capo ∧ base ≤ go ∧ go < w.heap.size ∧ ∀ (i : Nat) (u : Value), vs[i]? = some u → w.cell? ⟨go, i, none⟩ = some u := by
  obtain ⟨g, cap, hv, h1, h2⟩ := h.out.form hL
  have ho := h.out
  rw [hv] at ho
  exact ⟨g, cap, hv, h1, h2, fun i u hu => (ho.cellAt i (by have h9 := (List.getElem?_eq_some_iff.1 hu).1; rw [h.len] at h9; omega)).trans hu⟩
/-- Blocks below its base, and what it does not own, are as they were behind a store. -/
theorem OwnV.stored_below {w0 : World} (h : OwnV enc w base e1 e2 v vs L) (hb : Below w0.heap.size w0 w) (hbase : w0.heap.size ≤ base) {i j g m cap : Nat} (hu : vs[i]? = some (.slice (some ⟨g, 0, none⟩) m cap)) (x : α) :
    Below w0.heap.size w0 (w.setCell ⟨g, j, none⟩ (enc x)) := by
  have h1 := (h.lt hu rfl).1
  exact hb.setCell (by simpa using Nat.le_trans hbase h1) _
end
end Go.Proofs.Ytnkdpogplkomhaa
