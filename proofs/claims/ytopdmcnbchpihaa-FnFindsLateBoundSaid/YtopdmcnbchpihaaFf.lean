/- Texts that lie together in one: Fd, Fe, Fp, Fq. -/
import Derived.Test.YtopdmcnbchpihaaBo
import Derived.Test.YtopdmcnbchpihaaJj
import Derived.Test.YtopdmcnbchpihaaVm
import Derived.Test.YtopdmcnbchpihaaIl
import Derived.Lib.SlicesCompact
/- Finds, as plain data: a find is three numbers: its context, its type (kind) and its year (area). -/
namespace Go.Proofs.Ytopdmcnbchpihaa
open Go.RowKit

def okF (f : Ctx) : Bool := inR f.id 1 99 && (inR f.kind 1 5 && inR f.area 0 999)
def validF (L : List Ctx) : Bool := L.all okF && decide (L.length ≤ 20)
theorem okF_parts {f : Ctx} (h : okF f = true) : (1 ≤ f.id ∧ f.id ≤ 99) ∧ (1 ≤ f.kind ∧ f.kind ≤ 5) ∧ 0 ≤ f.area ∧ f.area ≤ 999 := by
  simp only [okF, inR, Bool.and_eq_true, decide_eq_true_eq] at h
  exact h
theorem okF_mk {f : Ctx} (h1 : 1 ≤ f.id ∧ f.id ≤ 99) (h2 : 1 ≤ f.kind ∧ f.kind ≤ 5) (h3 : 0 ≤ f.area ∧ f.area ≤ 999) : okF f = true := by
  simp only [okF, inR, Bool.and_eq_true, decide_eq_true_eq]
  exact ⟨h1, h2, h3⟩
theorem validF_ok {L : List Ctx} (h : validF L = true) : (∀ f ∈ L, okF f = true) ∧ L.length ≤ 20 := by
  simp only [validF, Bool.and_eq_true, decide_eq_true_eq, List.all_eq_true] at h
  exact h
theorem validF_mk {L : List Ctx} (h1 : ∀ f ∈ L, okF f = true) (h2 : L.length ≤ 20) : validF L = true := by
  simp only [validF, Bool.and_eq_true, decide_eq_true_eq, List.all_eq_true]
  exact ⟨h1, h2⟩
theorem validF_sub {L M : List Ctx} (h : validF L = true) (hs : M.Sublist L) : validF M = true :=
  validF_mk (fun f hf => (validF_ok h).1 f (hs.subset hf)) (Nat.le_trans hs.length_le (validF_ok h).2)
theorem validF_bad {L : List Ctx} {f : Ctx} (hf : f ∈ L) (h : okF f = false) : validF L = false := by
  cases hv : validF L
  · rfl
  · rw [(validF_ok hv).1 f hf] at h; cases h
theorem validF_turn {L : List Ctx} {f : Ctx} (h : validF (f :: L) = true) : validF (L ++ [f]) = true := by
  refine validF_mk (fun g hg => (validF_ok h).1 g ?_) (by have := (validF_ok h).2; simp at this ⊢; omega)
  rcases List.mem_append.1 hg with hg | hg
  · exact List.mem_cons_of_mem _ hg
  · rw [List.mem_singleton.1 hg]; exact List.mem_cons_self
/-- The year of the latest find of a context, or -1. -/
def lastYF (L : List Ctx) (id : Int) : Int := maxF (ofB id) Ctx.area L (-1)
section
variable {L : List Ctx} {id : Int}
theorem lastYF_base (L : List Ctx) (id : Int) : -1 ≤ lastYF L id := maxF_base L (-1)
theorem lastYF_ge {f : Ctx} (hf : f ∈ L) (h : f.id = id) : f.area ≤ lastYF L id := maxF_ge L (-1) hf (by simp [ofB, h])
theorem lastYF_or (L : List Ctx) (id : Int) : lastYF L id = -1 ∨ ∃ f, f ∈ L ∧ f.id = id ∧ lastYF L id = f.area := by
  rcases maxF_or (p := ofB id) (g := Ctx.area) L (-1) with h | ⟨f, h1, h2, h3⟩
  · exact .inl h
  · exact .inr ⟨f, h1, by simpa [ofB] using h2, h3⟩
theorem lastYF_some (h : 0 ≤ lastYF L id) : ∃ f, f ∈ L ∧ f.id = id ∧ lastYF L id = f.area := by
  rcases lastYF_or L id with h1 | h1
  · omega
  · exact h1
theorem lastYF_gt {y : Int} (hy : 0 ≤ y) : y < lastYF L id ↔ ∃ f, f ∈ L ∧ f.id = id ∧ y < f.area := by
  constructor
  · intro h
    obtain ⟨f, h1, h2, h3⟩ := lastYF_some (L := L) (id := id) (by omega)
    exact ⟨f, h1, h2, by omega⟩
  · rintro ⟨f, h1, h2, h3⟩
    have := lastYF_ge h1 h2
    omega
theorem lastYF_max (h : validF L = true) (id : Int) : lastYF L id ≤ 999 := by
  rcases lastYF_or L id with h1 | ⟨f, h1, _, h2⟩
  · omega
  · have := okF_parts ((validF_ok h).1 f h1); omega
end
/-- The bounds of the contexts up to a number. -/
def fbF (L : List Ctx) : Nat → List Ctx
  | 0 => []
  | n + 1 => fbF L n ++ if 0 ≤ lastYF L ((n : Int) + 1) then [⟨(n : Int) + 1, lastYF L ((n : Int) + 1), 999⟩] else []
theorem fbF_some {L : List Ctx} {n : Nat} (h : 0 ≤ lastYF L ((n : Int) + 1)) : fbF L (n + 1) = fbF L n ++ [⟨(n : Int) + 1, lastYF L ((n : Int) + 1), 999⟩] := by
  show fbF L n ++ _ = _
  rw [if_pos h]
theorem fbF_none {L : List Ctx} {n : Nat} (h : ¬ 0 ≤ lastYF L ((n : Int) + 1)) : fbF L (n + 1) = fbF L n := by
  show fbF L n ++ _ = _
  rw [if_neg h, List.append_nil]
theorem fbF_len (L : List Ctx) : ∀ n : Nat, (fbF L n).length ≤ n
  | 0 => Nat.le_refl 0
  | n + 1 => by
    have := fbF_len L n
    show (fbF L n ++ _).length ≤ n + 1
    rw [List.length_append]
    split <;> simp <;> omega
theorem fbF_mem {L : List Ctx} {b : Ctx} : ∀ {n : Nat}, b ∈ fbF L n ↔ 1 ≤ b.id ∧ b.id ≤ n ∧ 0 ≤ lastYF L b.id ∧ b.kind = lastYF L b.id ∧ b.area = 999
  | 0 => by
    constructor
    · intro h; cases h
    · rintro ⟨h1, h2, _⟩; omega
  | n + 1 => by
    show b ∈ fbF L n ++ _ ↔ _
    rw [List.mem_append, fbF_mem]
    constructor
    · rintro (⟨h1, h2, h3⟩ | h)
      · exact ⟨h1, by omega, h3⟩
      · split at h
        · rename_i hn
          rw [List.mem_singleton.1 h]
          exact ⟨by show (1 : Int) ≤ (n : Int) + 1; omega, by show (n : Int) + 1 ≤ _; omega, hn, rfl, rfl⟩
        · cases h
    · rintro ⟨h1, h2, h3, h4, h5⟩
      by_cases hn : b.id ≤ n
      · exact .inl ⟨h1, hn, h3, h4, h5⟩
      · have e : b.id = (n : Int) + 1 := by omega
        rw [e] at h3 h4
        refine .inr ?_
        rw [if_pos h3]
        exact List.mem_singleton.2 (Ctx.ext_ e h4 h5)
/-- They ascend. -/
theorem fbF_asc {L : List Ctx} : ∀ {n : Nat} {i j : Nat} {a b : Ctx}, (fbF L n)[i]? = some a → (fbF L n)[j]? = some b → i < j → a.id < b.id
  | 0, _, _, _, _, h, _, _ => by cases h
  | n + 1, i, j, a, b, ha, hb, hij => by
    by_cases hn : 0 ≤ lastYF L ((n : Int) + 1)
    · rw [fbF_some hn] at ha hb
      have hj : j < (fbF L n).length + 1 := by
        have := (List.getElem?_eq_some_iff.1 hb).1
        simpa using this
      rw [List.getElem?_append_left (by omega)] at ha
      by_cases h2 : j < (fbF L n).length
      · rw [List.getElem?_append_left h2] at hb
        exact fbF_asc ha hb hij
      · have e : j = (fbF L n).length := by omega
        rw [e, List.getElem?_append_right (Nat.le_refl _), Nat.sub_self] at hb
        have h3 := (fbF_mem.1 (List.mem_of_getElem? ha)).2.1
        have h4 : b = ⟨(n : Int) + 1, lastYF L ((n : Int) + 1), 999⟩ := (Option.some.inj hb).symm
        rw [h4]
        show a.id < (n : Int) + 1
        omega
    · rw [fbF_none hn] at ha hb
      exact fbF_asc ha hb hij
def fbOk (L : List Ctx) : Bool := validF L && decide ((fbF L 99).length ≤ 12)
def fbG (L : List Ctx) : List Ctx := if fbOk L = true then fbF L 99 else []
theorem fbG_ok {L : List Ctx} (h : fbOk L = true) : fbG L = fbF L 99 := if_pos h
theorem fbG_no {L : List Ctx} (h : fbOk L = false) : fbG L = [] := by simp [fbG, h]
theorem fbOk_parts {L : List Ctx} (h : fbOk L = true) : validF L = true ∧ (fbF L 99).length ≤ 12 := by
  simp only [fbOk, Bool.and_eq_true, decide_eq_true_eq] at h
  exact h
theorem fbG_len (L : List Ctx) : (fbG L).length ≤ 12 := by
  cases h : fbOk L
  · rw [fbG_no h]; simp
  · rw [fbG_ok h]; exact (fbOk_parts h).2
theorem fbG_valid {L : List Ctx} (h : fbOk L = true) : validB (fbG L) = true := by
  obtain ⟨hv, hl⟩ := fbOk_parts h
  rw [fbG_ok h]
  refine validB_mk (fun b hb => ?_) hl
  obtain ⟨h1, h2, h3, h4, h5⟩ := fbF_mem.1 hb
  have := lastYF_max hv b.id
  exact okB_mk ⟨h1, by simpa using h2⟩ (by omega) (by omega) (by omega)
/-- The years of a context's finds. -/
def yearsF (L : List Ctx) (id : Int) : List Int := (L.filter (ofB id)).map Ctx.area
theorem yearsF_next {L : List Ctx} {id : Int} {k : Nat} {f : Ctx} (hf : L[k]? = some f) : yearsF (L.take (k + 1)) id = if f.id = id then yearsF (L.take k) id ++ [f.area] else yearsF (L.take k) id := by
  unfold yearsF
  rw [List.take_add_one, hf, List.filter_append, List.map_append]
  by_cases h : f.id = id
  · rw [if_pos h]; simp [ofB, h]
  · rw [if_neg h]; simp [ofB, h]
theorem yearsF_len (L : List Ctx) (id : Int) : (yearsF L id).length ≤ L.length := by
  unfold yearsF
  rw [List.length_map]
  exact List.length_filter_le _ _
theorem yearsF_mem {L : List Ctx} {id y : Int} : y ∈ yearsF L id ↔ ∃ f, f ∈ L ∧ f.id = id ∧ f.area = y := by
  simp [yearsF, ofB, and_assoc]
theorem lastY_iff {ys : List Int} {m : Int} (h0 : 0 ≤ m) (h1 : ∀ y ∈ ys, y ≤ m) (h2 : m ∈ ys) : lastY ys = m := by
  refine Int.le_antisymm (maxF_most h0 fun y hy _ => h1 y hy) ?_
  exact maxF_ge (p := fun _ => true) (g := fun y => y) ys 0 h2 rfl
/-- A bound is that of the latest find. -/
theorem fb_find {L : List Ctx} (h : fbOk L = true) {b : Ctx} (hb : b ∈ fbG L) : findOkB b.id (yearsF L b.id) = true ∧ findB b.id (yearsF L b.id) = b ∧ 0 < (yearsF L b.id).length := by
  obtain ⟨hv, _⟩ := fbOk_parts h
  rw [fbG_ok h] at hb
  obtain ⟨h1, h2, h3, h4, h5⟩ := fbF_mem.1 hb
  obtain ⟨f, hf, hid, hy⟩ := lastYF_some h3
  have hm : f.area ∈ yearsF L b.id := yearsF_mem.2 ⟨f, hf, hid, rfl⟩
  have hok : findOkB b.id (yearsF L b.id) = true := by
    simp only [findOkB, inR, Bool.and_eq_true, decide_eq_true_eq, List.all_eq_true]
    refine ⟨fun y hy => ?_, h1, by simpa using h2⟩
    obtain ⟨g, hg, _, rfl⟩ := yearsF_mem.1 hy
    exact (okF_parts ((validF_ok hv).1 g hg)).2.2
  refine ⟨hok, ?_, List.length_pos_of_mem hm⟩
  have hl : lastY (yearsF L b.id) = f.area := by
    refine lastY_iff ((okF_parts ((validF_ok hv).1 f hf)).2.2).1 (fun y hy2 => ?_) hm
    obtain ⟨g, hg, hg2, rfl⟩ := yearsF_mem.1 hy2
    have := lastYF_ge hg hg2
    omega
  unfold findB
  rw [if_pos hok, hl]
  exact Ctx.ext_ rfl (by show f.area = b.kind; omega) h5.symm
/-- Each find has a bound. -/
theorem find_fb {L : List Ctx} (h : fbOk L = true) {f : Ctx} (hf : f ∈ L) : ∃ b, b ∈ fbG L ∧ b.id = f.id ∧ f.area ≤ b.kind := by
  obtain ⟨hv, _⟩ := fbOk_parts h
  obtain ⟨⟨h1, h2⟩, _, h3, _⟩ := okF_parts ((validF_ok hv).1 f hf)
  have h4 := lastYF_ge hf rfl
  refine ⟨⟨f.id, lastYF L f.id, 999⟩, ?_, rfl, h4⟩
  rw [fbG_ok h]
  exact fbF_mem.2 ⟨h1, by simpa using h2, by show 0 ≤ lastYF L f.id; omega, rfl, rfl⟩
/-- How many finds of a type a context has. -/
def isF (id t : Int) (f : Ctx) : Bool := decide (f.id = id) && decide (f.kind = t)
def numF (L : List Ctx) (id t : Int) : Nat := L.countP (isF id t)
def rowF (L : List Ctx) (id : Int) : List Int := (List.range 5).map fun (t : Nat) => ((numF L id ((t : Int) + 1) : Nat) : Int)
def tableF (ids : List Int) (L : List Ctx) : List (List Int) := ids.map (rowF L)
theorem numF_next {L : List Ctx} {k : Nat} {f : Ctx} (hf : L[k]? = some f) (id t : Int) : numF (L.take (k + 1)) id t = numF (L.take k) id t + if f.id = id ∧ f.kind = t then 1 else 0 := by
  unfold numF
  rw [List.take_add_one, hf, List.countP_append]
  congr 1
  show List.countP (isF id t) [f] = _
  rw [List.countP_singleton]
  simp [isF]
theorem numF_turn (f : Ctx) (L : List Ctx) (id t : Int) : numF (L ++ [f]) id t = numF (f :: L) id t := by
  unfold numF
  rw [List.countP_append, List.countP_singleton, List.countP_cons]
theorem rowF_turn (f : Ctx) (L : List Ctx) (id : Int) : rowF (L ++ [f]) id = rowF (f :: L) id := by
  unfold rowF
  exact List.map_congr_left fun t _ => by rw [numF_turn]
theorem tableF_turn (f : Ctx) (L : List Ctx) (ids : List Int) : tableF ids (L ++ [f]) = tableF ids (f :: L) := by
  unfold tableF
  exact List.map_congr_left fun t _ => rowF_turn f L t
theorem rowF_len (L : List Ctx) (id : Int) : (rowF L id).length = 5 := by simp [rowF]
theorem rowF_at {L : List Ctx} {id : Int} {t : Nat} (ht : t < 5) : (rowF L id)[t]? = some (numF L id ((t : Int) + 1) : Int) := by simp [rowF, ht]
theorem tableF_at {L : List Ctx} {ids : List Int} {i : Nat} {x : Int} (h : ids[i]? = some x) : (tableF ids L)[i]? = some (rowF L x) := by simp [tableF, h]
theorem tableF_len (ids : List Int) (L : List Ctx) : (tableF ids L).length = ids.length := by simp [tableF]
end Go.Proofs.Ytopdmcnbchpihaa

/- The table of finds, finds that are too late, and finds that are too old: plain data. -/
namespace Go.Proofs.Ytopdmcnbchpihaa
open Go.RowKit

section
variable {ids : List Int} {l B L : List Ctx}
/-- The next find: one cell of one row grows by one. -/
theorem rowF_next {k : Nat} {f : Ctx} (hf : L[k]? = some f) {id : Int} {t : Nat} (ht : f.kind = (t : Int) + 1) (ht5 : t < 5) :
    rowF (L.take (k + 1)) id = if f.id = id then (rowF (L.take k) id).set t ((numF (L.take k) id ((t : Int) + 1) : Int) + 1) else rowF (L.take k) id := by
  refine List.ext_getElem? fun s => ?_
  by_cases hs : s < 5
  · rw [rowF_at hs, numF_next hf]
    by_cases hid : f.id = id
    · rw [if_pos hid]
      by_cases e : s = t
      · subst e
        rw [List.getElem?_set_self (by rw [rowF_len]; exact hs), if_pos ⟨hid, ht⟩]
        simp
      · rw [List.getElem?_set_ne (Ne.symm e), rowF_at hs, if_neg (fun h => e (by have := h.2; omega))]
        simp
    · rw [if_neg hid, rowF_at hs, if_neg (fun h => hid h.1)]
      simp
  · rw [List.getElem?_eq_none (by rw [rowF_len]; omega)]
    split
    · rw [List.getElem?_eq_none (by rw [List.length_set, rowF_len]; omega)]
    · rw [List.getElem?_eq_none (by rw [rowF_len]; omega)]
theorem tableF_next (hv : validI ids = true) {k p : Nat} {f : Ctx} (hf : L[k]? = some f) {t : Nat} (ht : f.kind = (t : Int) + 1) (ht5 : t < 5) (hp : ids[p]? = some f.id) :
    tableF ids (L.take (k + 1)) = (tableF ids (L.take k)).set p ((rowF (L.take k) f.id).set t ((numF (L.take k) f.id ((t : Int) + 1) : Int) + 1)) := by
  refine List.ext_getElem? fun i => ?_
  by_cases hi : i < ids.length
  · have hx : ids[i]? = some ids[i] := List.getElem?_eq_getElem hi
    rw [tableF_at hx, rowF_next hf ht ht5]
    by_cases e : i = p
    · subst e
      have hid : f.id = ids[i] := by rw [hx] at hp; exact (Option.some.inj hp).symm
      rw [if_pos hid, List.getElem?_set_self (by rw [tableF_len]; exact hi), hid]
    · rw [List.getElem?_set_ne (Ne.symm e), tableF_at hx, if_neg]
      intro hid
      rw [hid] at hp
      exact e (asc_eq hv hx hp)
  · rw [List.getElem?_eq_none (by rw [tableF_len]; omega), List.getElem?_eq_none (by rw [List.length_set, tableF_len]; omega)]
theorem tableF_zero (ids : List Int) : tableF ids [] = ids.map fun _ => List.replicate 5 0 := by
  unfold tableF
  refine List.map_congr_left fun t _ => ?_
  unfold rowF
  show _ = _
  rfl
def tabOk (ids : List Int) (L : List Ctx) : Bool := validI ids && (validF L && L.all fun f => decide (f.id ∈ ids))
def tabG (ids : List Int) (L : List Ctx) : List (List Int) := if tabOk ids L = true then tableF ids L else []
theorem tabOk_parts (h : tabOk ids L = true) : validI ids = true ∧ validF L = true ∧ ∀ f ∈ L, f.id ∈ ids := by
  simp only [tabOk, Bool.and_eq_true, decide_eq_true_eq, List.all_eq_true] at h
  exact h
theorem tabOk_mk (h1 : validI ids = true) (h2 : validF L = true) (h3 : ∀ f ∈ L, f.id ∈ ids) : tabOk ids L = true := by
  simp only [tabOk, Bool.and_eq_true, decide_eq_true_eq, List.all_eq_true]
  exact ⟨h1, h2, h3⟩
theorem tabOk_out {f : Ctx} (hf : f ∈ L) (h : f.id ∉ ids) : tabOk ids L = false := by
  cases e : tabOk ids L
  · rfl
  · exact absurd ((tabOk_parts e).2.2 f hf) h
theorem tabG_ok (h : tabOk ids L = true) : tabG ids L = tableF ids L := if_pos h
theorem tabG_no (h : tabOk ids L = false) : tabG ids L = [] := by simp [tabG, h]
theorem tab_turn {f : Ctx} (h : tabOk ids (f :: L) = true) : tabOk ids (L ++ [f]) = true ∧ tabG ids (L ++ [f]) = tabG ids (f :: L) := by
  obtain ⟨h1, h2, h3⟩ := tabOk_parts h
  have h4 : tabOk ids (L ++ [f]) = true := tabOk_mk h1 (validF_turn h2) fun g hg => h3 g (by
    rcases List.mem_append.1 hg with hg | hg
    · exact List.mem_cons_of_mem _ hg
    · rw [List.mem_singleton.1 hg]; exact List.mem_cons_self)
  exact ⟨h4, by rw [tabG_ok h4, tabG_ok h, tableF_turn]⟩
/-- All finds up to a cell of the table. -/
def upTo (ids : List Int) (L : List Ctx) (i t : Nat) : Nat := L.countP fun f => decide (placeI ids f.id < i) || (decide (placeI ids f.id = i) && decide (f.kind ≤ (t : Int)))
theorem countP_or {α : Type} {p q r : α → Bool} : ∀ {M : List α}, (∀ x ∈ M, r x = (p x || q x)) → (∀ x ∈ M, p x = true → q x = false) → M.countP r = M.countP p + M.countP q
  | [], _, _ => rfl
  | x :: M, h1, h2 => by
    have e := countP_or (p := p) (q := q) (r := r) (M := M) (fun y hy => h1 y (List.mem_cons_of_mem _ hy)) (fun y hy => h2 y (List.mem_cons_of_mem _ hy))
    have a := h1 x List.mem_cons_self
    have b := h2 x List.mem_cons_self
    rw [List.countP_cons, List.countP_cons, List.countP_cons, e, a]
    cases hp : p x <;> cases hq : q x <;> simp_all <;> omega
theorem upTo_step (h : tabOk ids L = true) {i t : Nat} {x : Int} (hx : ids[i]? = some x) : upTo ids L i (t + 1) = upTo ids L i t + numF L x ((t : Int) + 1) := by
  obtain ⟨h1, h2, h3⟩ := tabOk_parts h
  refine countP_or (fun f hf => ?_) fun f hf => ?_
  · obtain ⟨_, hp1, hp2⟩ := placeI_at (h3 f hf)
    have hiff : f.id = x ↔ placeI ids f.id = i := by
      constructor
      · intro e; rw [e]; exact placeI_own h1 hx
      · intro e; rw [e, hx] at hp2; exact (Option.some.inj hp2).symm
    rw [Bool.eq_iff_iff]
    simp only [isF, Bool.or_eq_true, Bool.and_eq_true, decide_eq_true_eq, hiff]
    omega
  · simp only [isF, Bool.or_eq_true, Bool.and_eq_true, decide_eq_true_eq, Bool.and_eq_false_iff, decide_eq_false_iff_not]
    rintro (hp | ⟨_, hp⟩)
    · refine .inl fun e => ?_
      have := placeI_own h1 hx
      rw [← e] at this
      omega
    · exact .inr (by omega)
theorem upTo_row (h : tabOk ids L = true) (i : Nat) : upTo ids L i 5 = upTo ids L (i + 1) 0 := by
  obtain ⟨_, h2, _⟩ := tabOk_parts h
  unfold upTo
  refine List.countP_congr fun f hf => ?_
  have := (okF_parts ((validF_ok h2).1 f hf)).2.1
  simp only [Bool.or_eq_true, Bool.and_eq_true, decide_eq_true_eq]
  omega
theorem upTo_zero (h : tabOk ids L = true) : upTo ids L 0 0 = 0 := by
  obtain ⟨_, h2, _⟩ := tabOk_parts h
  unfold upTo
  rw [List.countP_eq_zero]
  intro f hf
  have := (okF_parts ((validF_ok h2).1 f hf)).2.1
  simp only [Bool.or_eq_true, Bool.and_eq_true, decide_eq_true_eq]
  omega
theorem upTo_all (h : tabOk ids L = true) : upTo ids L ids.length 0 = L.length := by
  obtain ⟨_, _, h3⟩ := tabOk_parts h
  unfold upTo
  rw [List.countP_eq_length]
  intro f hf
  have := (placeI_at (h3 f hf)).2.1
  simp only [Bool.or_eq_true, Bool.and_eq_true, decide_eq_true_eq]
  exact .inl this
end
/-- The places of those in a list that are asked for. -/
def idxF (p : Ctx → Bool) (L : List Ctx) : Nat → List Int
  | 0 => []
  | n + 1 => idxF p L n ++ if (L[n]?.map p) = some true then [(n : Int)] else []
section
variable {p q : Ctx → Bool} {ids : List Int} {l B L : List Ctx}
theorem idxF_yes {n : Nat} {f : Ctx} (hf : L[n]? = some f) (h : p f = true) : idxF p L (n + 1) = idxF p L n ++ [(n : Int)] := by
  show idxF p L n ++ _ = _
  rw [if_pos (by rw [hf]; show some (p f) = some true; rw [h])]
theorem idxF_no {n : Nat} {f : Ctx} (hf : L[n]? = some f) (h : p f = false) : idxF p L (n + 1) = idxF p L n := by
  show idxF p L n ++ _ = _
  rw [if_neg (by rw [hf]; show ¬ some (p f) = some true; rw [h]; simp), List.append_nil]
theorem idxF_len (p : Ctx → Bool) (L : List Ctx) : ∀ n : Nat, (idxF p L n).length ≤ n
  | 0 => Nat.le_refl 0
  | n + 1 => by
    have := idxF_len p L n
    show (idxF p L n ++ _).length ≤ n + 1
    rw [List.length_append]
    split <;> simp <;> omega
theorem idxF_mem {x : Int} : ∀ {n : Nat}, x ∈ idxF p L n ↔ ∃ (i : Nat) (f : Ctx), x = i ∧ i < n ∧ L[i]? = some f ∧ p f = true
  | 0 => by
    constructor
    · intro h; cases h
    · rintro ⟨i, _, _, h, _⟩; omega
  | n + 1 => by
    show x ∈ idxF p L n ++ _ ↔ _
    rw [List.mem_append, idxF_mem]
    constructor
    · rintro (⟨i, f, h1, h2, h3⟩ | h)
      · exact ⟨i, f, h1, by omega, h3⟩
      · split at h
        · rename_i hn
          obtain ⟨f, hf, hp⟩ := Option.map_eq_some_iff.1 hn
          exact ⟨n, f, List.mem_singleton.1 h, by omega, hf, hp⟩
        · cases h
    · rintro ⟨i, f, h1, h2, h3, h4⟩
      by_cases hn : i < n
      · exact .inl ⟨i, f, h1, hn, h3, h4⟩
      · obtain rfl : i = n := by omega
        refine .inr ?_
        rw [if_pos (by rw [h3]; show some (p f) = some true; rw [h4]), h1]
        exact List.mem_singleton.2 rfl
theorem idxF_has {i : Nat} {f : Ctx} (hf : L[i]? = some f) : decide ((i : Int) ∈ idxF p L L.length) = p f := by
  have h : (i : Int) ∈ idxF p L L.length ↔ p f = true := by
    rw [idxF_mem]
    constructor
    · rintro ⟨j, g, h1, _, h3, h4⟩
      obtain rfl : j = i := by omega
      rw [h3] at hf
      rw [← Option.some.inj hf]; exact h4
    · intro h
      exact ⟨i, f, rfl, (List.getElem?_eq_some_iff.1 hf).1, hf, h⟩
  cases hp : p f
  · exact decide_eq_false fun h2 => by rw [h.1 h2] at hp; cases hp
  · exact decide_eq_true (h.2 hp)
/-- Finds that are later than their contexts can be. -/
def isLate (ids : List Int) (l B : List Ctx) (f : Ctx) : Bool := decide (f.id ∈ ids) && decide (highD ids l B (placeI ids f.id) < f.area)
def lateOk (ids : List Int) (l B L : List Ctx) : Bool := okD ids l B && validF L
def lateG (ids : List Int) (l B L : List Ctx) : List Int := if lateOk ids l B L = true then idxF (isLate ids l B) L L.length else []
theorem lateG_ok (h : lateOk ids l B L = true) : lateG ids l B L = idxF (isLate ids l B) L L.length := if_pos h
theorem lateG_no (h : lateOk ids l B L = false) : lateG ids l B L = [] := by simp [lateG, h]
theorem lateG_len (ids : List Int) (l B L : List Ctx) : (lateG ids l B L).length ≤ L.length := by
  unfold lateG
  split
  · exact idxF_len _ _ _
  · simp
theorem isLate_iff (hv : validI ids = true) {f : Ctx} : isLate ids l B f = true ↔ ∃ i : Nat, ids[i]? = some f.id ∧ highD ids l B i < f.area := by
  simp only [isLate, Bool.and_eq_true, decide_eq_true_eq]
  constructor
  · rintro ⟨h1, h2⟩
    exact ⟨placeI ids f.id, (placeI_at h1).2.2, h2⟩
  · rintro ⟨i, h1, h2⟩
    exact ⟨List.mem_of_getElem? h1, by rw [placeI_own hv h1]; exact h2⟩
/-- A late find leaves no dates. -/
theorem late_none {f : Ctx} (hl : isLate ids l B f = true) : okD ids l (B ++ [⟨f.id, f.area, 999⟩]) = false := by
  cases e : okD ids l (B ++ [⟨f.id, f.area, 999⟩])
  · rfl
  · obtain ⟨ha, hs⟩ := okD_parts e
    have hv : validI ids = true := by
      have h1 := (argsD_parts ha).1
      simp only [ordOkG, Bool.and_eq_true] at h1
      exact (okG_parts h1.1).1
    obtain ⟨i, hi, hlt⟩ := (isLate_iff hv).1 hl
    have hi2 : i < ids.length := (List.getElem?_eq_some_iff.1 hi).1
    have h1 := (dates_in (ids := ids) (l := l) (B := B ++ [⟨f.id, f.area, 999⟩]) (i := i) (b := ⟨f.id, f.area, 999⟩) hi2 (by simp) (by show f.id = ids.getD i 0; rw [List.getD_eq_getElem?_getD, hi]; rfl)).1
    have h2 := ((dates_less (ids := ids) (l := l) (M := B) (B := B ++ [⟨f.id, f.area, 999⟩]) (List.sublist_append_left _ _) e).2 i).2
    have h3 := spOk_iff.1 hs i hi2
    have h4 : f.area ≤ lowD ids l (B ++ [⟨f.id, f.area, 999⟩]) i := h1
    have h5 : lowD ids l (B ++ [⟨f.id, f.area, 999⟩]) i ≤ highD ids l (B ++ [⟨f.id, f.area, 999⟩]) i := h3
    omega
/-- Finds that are older than a context below has one. -/
def isOld (ids : List Int) (l L : List Ctx) (f : Ctx) : Bool := decide (f.id ∈ ids) && ids.any fun a => upG ids l f.id a && decide (f.area < lastYF L a)
def oldOk (ids : List Int) (l L : List Ctx) : Bool := ordOkG ids l && validF L
def oldG (ids : List Int) (l L : List Ctx) : List Int := if oldOk ids l L = true then idxF (isOld ids l L) L L.length else []
theorem oldG_ok (h : oldOk ids l L = true) : oldG ids l L = idxF (isOld ids l L) L L.length := if_pos h
theorem oldG_no (h : oldOk ids l L = false) : oldG ids l L = [] := by simp [oldG, h]
theorem oldG_len (ids : List Int) (l L : List Ctx) : (oldG ids l L).length ≤ L.length := by
  unfold oldG
  split
  · exact idxF_len _ _ _
  · simp
theorem isOld_iff (h : oldOk ids l L = true) {f : Ctx} (hf : f ∈ L) : isOld ids l L f = true ↔ ∃ g, g ∈ L ∧ f.area < g.area ∧ aboveG ids l f.id g.id = true := by
  simp only [oldOk, Bool.and_eq_true] at h
  have hy := (okF_parts ((validF_ok h.2).1 f hf)).2.2.1
  have hok : okG ids l = true := by
    have := h.1
    simp only [ordOkG, Bool.and_eq_true] at this
    exact this.1
  simp only [isOld, aboveG, hok, Bool.true_and, Bool.and_eq_true, decide_eq_true_eq, List.any_eq_true]
  constructor
  · rintro ⟨h1, a, ha, h2, h3⟩
    obtain ⟨g, hg, rfl, h4⟩ := (lastYF_gt hy).1 h3
    exact ⟨g, hg, h4, h1, ha, h2⟩
  · rintro ⟨g, hg, h1, h2, h3, h4⟩
    exact ⟨h2, g.id, h3, h4, (lastYF_gt hy).2 ⟨g, hg, rfl, h1⟩⟩
end
end Go.Proofs.Ytopdmcnbchpihaa

/- The contexts that have finds, as the program lists them: sorted, each once. Plain data. -/
namespace Go.Proofs.Ytopdmcnbchpihaa
open Go.RowKit

theorem asc_sameI : ∀ (a b : List Int), a.Pairwise (· < ·) → b.Pairwise (· < ·) → (∀ x, x ∈ a ↔ x ∈ b) → a = b
  | [], [], _, _, _ => rfl
  | [], y :: b, _, _, h => absurd ((h y).2 List.mem_cons_self) (by simp)
  | x :: a, [], _, _, h => absurd ((h x).1 List.mem_cons_self) (by simp)
  | x :: a, y :: b, ha, hb, h => by
    obtain ⟨ha1, ha2⟩ := List.pairwise_cons.1 ha
    obtain ⟨hb1, hb2⟩ := List.pairwise_cons.1 hb
    have e : x = y := by
      have h1 := (h x).1 List.mem_cons_self
      have h2 := (h y).2 List.mem_cons_self
      rcases List.mem_cons.1 h1 with h1 | h1
      · exact h1
      · rcases List.mem_cons.1 h2 with h2 | h2
        · exact h2.symm
        · have := hb1 x h1
          have := ha1 y h2
          omega
    subst e
    rw [asc_sameI a b ha2 hb2 fun z => ?_]
    constructor
    · intro hz
      rcases List.mem_cons.1 ((h z).1 (List.mem_cons_of_mem _ hz)) with h1 | h1
      · have := ha1 z hz; omega
      · exact h1
    · intro hz
      rcases List.mem_cons.1 ((h z).2 (List.mem_cons_of_mem _ hz)) with h1 | h1
      · have := hb1 z hz; omega
      · exact h1
section
variable {zs : List Int}
theorem compact_least {x : Int} : ∀ (n j : Nat), j < n → zs[j]? = some x → ∃ i, i < zs.length ∧ zs[i]? = some x ∧ Lib.keeps zs.toArray i = true
  | 0, j, h, _ => absurd h (by omega)
  | n + 1, j, hj, hx => by
    have hl := (List.getElem?_eq_some_iff.1 hx).1
    by_cases hk : Lib.keeps zs.toArray j = true
    · exact ⟨j, hl, hx, hk⟩
    · simp only [Lib.keeps, decide_eq_true_eq, not_or, ne_eq, Classical.not_not] at hk
      refine compact_least n (j - 1) (by omega) ?_
      have h1 := hk.2
      have h2 : zs.toArray[j]! = x := by simp [List.getElem!_eq_getElem?_getD, hx]
      have hl1 : j - 1 < zs.length := by omega
      have h3 : zs.toArray[j - 1]! = zs[j - 1] := by simp [hl1]
      rw [h2, h3] at h1
      rw [List.getElem?_eq_getElem hl1, h1]
theorem compact_mem {x : Int} : x ∈ Lib.compact zs ↔ x ∈ zs := by
  unfold Lib.compact Lib.compactUpTo
  simp only [List.mem_map, List.mem_filter, List.mem_range]
  constructor
  · rintro ⟨j, ⟨hj, _⟩, rfl⟩
    have : zs.toArray[j]! = zs[j] := by simp [hj]
    rw [this]
    exact List.getElem_mem hj
  · intro hx
    obtain ⟨j, hj, rfl⟩ := List.mem_iff_getElem.1 hx
    obtain ⟨i, hi, hx2, hk⟩ := compact_least (zs := zs) (x := zs[j]) (j + 1) j (by omega) (List.getElem?_eq_getElem hj)
    refine ⟨i, ⟨hi, hk⟩, ?_⟩
    simp [List.getElem!_eq_getElem?_getD, hx2]
theorem compact_asc (h : zs.Pairwise (· ≤ ·)) : (Lib.compact zs).Pairwise (· < ·) := by
  have hle : ∀ (i j : Nat) (hi : i < zs.length) (hj : j < zs.length), i ≤ j → zs[i] ≤ zs[j] := by
    intro i j hi hj hij
    rcases Nat.eq_or_lt_of_le hij with e | hlt
    · subst e; exact Int.le_refl _
    · exact List.pairwise_iff_getElem.1 h i j hi hj hlt
  have hat : ∀ j, (hj : j < zs.length) → zs.toArray[j]! = zs[j] := fun j hj => by simp [hj]
  unfold Lib.compact Lib.compactUpTo
  rw [List.pairwise_map]
  have h1 : ((List.range zs.length).filter (Lib.keeps zs.toArray)).Pairwise (· < ·) := List.Pairwise.sublist List.filter_sublist List.pairwise_lt_range
  refine h1.imp_of_mem fun {a b} ha hb hab => ?_
  simp only [List.mem_filter, List.mem_range] at ha hb
  have hk := hb.2
  simp only [Lib.keeps, decide_eq_true_eq] at hk
  have hb0 : ¬ b = 0 := by omega
  have hb1 : b - 1 < zs.length := by omega
  rcases hk with hk | hk
  · exact absurd hk hb0
  · rw [hat a ha.1, hat b hb.1]
    rw [hat b hb.1, hat (b - 1) hb1] at hk
    have h2 := hle a (b - 1) ha.1 hb1 (by omega)
    have h3 := hle (b - 1) b hb1 hb.1 (by omega)
    omega
end
theorem compact_len (zs : List Int) : (Lib.compact zs).length ≤ zs.length := by
  unfold Lib.compact Lib.compactUpTo
  rw [List.length_map]
  refine Nat.le_trans (List.length_filter_le _ _) ?_
  simp
def ctxF (L : List Ctx) : List Int := Lib.compact ((L.map Ctx.id).mergeSort fun x y => decide (x ≤ y))
section
variable {L : List Ctx}
theorem ctxF_mem {x : Int} : x ∈ ctxF L ↔ ∃ f, f ∈ L ∧ f.id = x := by
  unfold ctxF
  rw [compact_mem, List.mem_mergeSort, List.mem_map]
theorem ctxF_pair (L : List Ctx) : (ctxF L).Pairwise (· < ·) := by
  unfold ctxF
  refine compact_asc ?_
  have h := List.pairwise_mergeSort (le := fun x y : Int => decide (x ≤ y)) (fun a b c h1 h2 => by simp only [decide_eq_true_eq] at *; omega) (fun a b => by simp only [Bool.or_eq_true, decide_eq_true_eq]; omega) (L.map Ctx.id)
  exact h.imp fun h => of_decide_eq_true h
theorem ctxF_len (L : List Ctx) : (ctxF L).length ≤ L.length := by
  unfold ctxF Lib.compact Lib.compactUpTo
  rw [List.length_map]
  refine Nat.le_trans (List.length_filter_le _ _) ?_
  simp
theorem lastYF_iff (hv : validF L = true) {x : Int} : 0 ≤ lastYF L x ↔ ∃ f, f ∈ L ∧ f.id = x := by
  constructor
  · intro h
    obtain ⟨f, h1, h2, _⟩ := lastYF_some h
    exact ⟨f, h1, h2⟩
  · rintro ⟨f, h1, h2⟩
    have := lastYF_ge h1 h2
    have := (okF_parts ((validF_ok hv).1 f h1)).2.2
    omega
theorem fbF_idpair (L : List Ctx) (n : Nat) : ((fbF L n).map Ctx.id).Pairwise (· < ·) := by
  rw [List.pairwise_map, List.pairwise_iff_getElem]
  intro i j hi hj hij
  exact fbF_asc (List.getElem?_eq_getElem hi) (List.getElem?_eq_getElem hj) hij
theorem ctxF_ids (hv : validF L = true) : ctxF L = (fbF L 99).map Ctx.id := by
  refine asc_sameI _ _ (ctxF_pair L) (fbF_idpair L 99) fun x => ?_
  rw [ctxF_mem, List.mem_map]
  constructor
  · rintro ⟨f, hf, rfl⟩
    obtain ⟨⟨h1, h2⟩, _⟩ := okF_parts ((validF_ok hv).1 f hf)
    exact ⟨⟨f.id, lastYF L f.id, 999⟩, fbF_mem.2 ⟨h1, by simpa using h2, (lastYF_iff hv).2 ⟨f, hf, rfl⟩, rfl, rfl⟩, rfl⟩
  · rintro ⟨b, hb, rfl⟩
    exact (lastYF_iff hv).1 (fbF_mem.1 hb).2.2.1
/-- The bounds of all contexts with finds, one for each. -/
def bndF (L : List Ctx) (id : Int) : Ctx := ⟨id, lastYF L id, 999⟩
theorem fbF_back (L : List Ctx) (n : Nat) : ((fbF L n).map Ctx.id).map (bndF L) = fbF L n := by
  have h : ∀ b ∈ fbF L n, (bndF L ∘ Ctx.id) b = id b := fun b hb => by
    have h1 := fbF_mem.1 hb
    exact Ctx.ext_ rfl h1.2.2.2.1.symm h1.2.2.2.2.symm
  rw [List.map_map, List.map_congr_left h, List.map_id]
theorem fbF_ctx (hv : validF L = true) : (ctxF L).map (bndF L) = fbF L 99 := by
  rw [ctxF_ids hv, fbF_back]
theorem ctxF_few (hv : validF L = true) : fbOk L = decide ((ctxF L).length ≤ 12) := by
  rw [ctxF_ids hv, List.length_map]
  simp [fbOk, hv]
end
end Go.Proofs.Ytopdmcnbchpihaa

/- The years of the latest finds, and of those below: plain data. -/
namespace Go.Proofs.Ytopdmcnbchpihaa
open Go.RowKit

/-- The year of the latest find of a context, or 0. -/
def lat0 (L : List Ctx) (a : Int) : Int := maxF (ofB a) Ctx.area L 0
def latT (ids : List Int) (L : List Ctx) : List Int := ids.map (lat0 L)
section
variable {ids : List Int} {L : List Ctx}
theorem lat0_base (L : List Ctx) (a : Int) : 0 ≤ lat0 L a := maxF_base L 0
theorem lat0_gt {a y : Int} (hy : 0 ≤ y) : y < lat0 L a ↔ y < lastYF L a := by
  rw [lastYF_gt hy]
  constructor
  · intro h
    rcases maxF_or (p := ofB a) (g := Ctx.area) L 0 with h1 | ⟨f, h1, h2, h3⟩
    · have : lat0 L a = 0 := h1
      omega
    · have : lat0 L a = f.area := h3
      exact ⟨f, h1, by simpa [ofB] using h2, by omega⟩
  · rintro ⟨f, h1, h2, h3⟩
    have : f.area ≤ lat0 L a := maxF_ge L 0 h1 (by simp [ofB, h2])
    omega
theorem lat0_next {k : Nat} {f : Ctx} (hf : L[k]? = some f) (a : Int) : lat0 (L.take (k + 1)) a = if f.id = a then max (lat0 (L.take k) a) f.area else lat0 (L.take k) a := by
  unfold lat0
  rw [maxF_next hf]
  by_cases h : f.id = a
  · rw [if_pos h, if_pos (by simp [ofB, h])]
  · rw [if_neg h, if_neg (by simp [ofB, h])]
theorem latT_len (ids : List Int) (L : List Ctx) : (latT ids L).length = ids.length := by simp [latT]
theorem latT_at {i : Nat} {a : Int} (h : ids[i]? = some a) : (latT ids L)[i]? = some (lat0 L a) := by simp [latT, h]
theorem latT_zero (ids : List Int) : latT ids [] = List.replicate ids.length 0 := by
  unfold latT
  rw [show ids.map (lat0 []) = ids.map (fun _ => (0 : Int)) from rfl]
  simp [List.map_const']
theorem latT_in (hv : validI ids = true) {k q : Nat} {f : Ctx} (hf : L[k]? = some f) (hq : ids[q]? = some f.id) : latT ids (L.take (k + 1)) = (latT ids (L.take k)).set q (max (lat0 (L.take k) f.id) f.area) := by
  refine List.ext_getElem? fun i => ?_
  by_cases hi : i < ids.length
  · have hx : ids[i]? = some ids[i] := List.getElem?_eq_getElem hi
    rw [latT_at hx, lat0_next hf]
    by_cases e : i = q
    · subst e
      have hid : f.id = ids[i] := by rw [hx] at hq; exact (Option.some.inj hq).symm
      rw [if_pos hid, List.getElem?_set_self (by rw [latT_len]; exact hi), hid]
    · rw [List.getElem?_set_ne (Ne.symm e), latT_at hx, if_neg]
      intro hid
      rw [hid] at hq
      exact e (asc_eq hv hx hq)
  · rw [List.getElem?_eq_none (by rw [latT_len]; omega), List.getElem?_eq_none (by rw [List.length_set, latT_len]; omega)]
theorem latT_out {k : Nat} {f : Ctx} (hf : L[k]? = some f) (hn : f.id ∉ ids) : latT ids (L.take (k + 1)) = latT ids (L.take k) := by
  unfold latT
  refine List.map_congr_left fun a ha => ?_
  have h : ¬ f.id = a := fun e => hn (by rw [e]; exact ha)
  rw [lat0_next hf, if_neg h]
/-- The latest year of all those below. -/
def belO (F : Nat → Nat → Bool) (Y : List Int) (i : Nat) : Nat → Int
  | 0 => 0
  | j + 1 => if F i j = true then max (belO F Y i j) (Y.getD j 0) else belO F Y i j
theorem belO_base (F : Nat → Nat → Bool) (Y : List Int) (i : Nat) : ∀ j, 0 ≤ belO F Y i j
  | 0 => Int.le_refl 0
  | j + 1 => by
    have := belO_base F Y i j
    show 0 ≤ if F i j = true then max (belO F Y i j) (Y.getD j 0) else belO F Y i j
    split <;> omega
theorem belO_gt {F : Nat → Nat → Bool} {Y : List Int} {i : Nat} {y : Int} (hy : 0 ≤ y) : ∀ {n : Nat}, y < belO F Y i n ↔ ∃ j, j < n ∧ F i j = true ∧ y < Y.getD j 0
  | 0 => by
    constructor
    · intro h
      have : (belO F Y i 0) = 0 := rfl
      omega
    · rintro ⟨j, h, _⟩; omega
  | n + 1 => by
    have ih := belO_gt (F := F) (Y := Y) (i := i) hy (n := n)
    have e : belO F Y i (n + 1) = if F i n = true then max (belO F Y i n) (Y.getD n 0) else belO F Y i n := rfl
    rw [e]
    constructor
    · intro h
      split at h
      · rename_i hF
        by_cases h1 : y < belO F Y i n
        · obtain ⟨j, h2, h3⟩ := ih.1 h1
          exact ⟨j, by omega, h3⟩
        · exact ⟨n, by omega, hF, by omega⟩
      · obtain ⟨j, h2, h3⟩ := ih.1 h
        exact ⟨j, by omega, h3⟩
    · rintro ⟨j, h1, h2, h3⟩
      by_cases hj : j < n
      · have := ih.2 ⟨j, hj, h2, h3⟩
        split <;> omega
      · obtain rfl : j = n := by omega
        rw [if_pos h2]
        omega
def belT (F : Nat → Nat → Bool) (Y : List Int) (n : Nat) : List Int := (List.range n).map fun i => belO F Y i n
theorem belT_len (F : Nat → Nat → Bool) (Y : List Int) (n : Nat) : (belT F Y n).length = n := by simp [belT]
theorem belT_at {F : Nat → Nat → Bool} {Y : List Int} {n i : Nat} (hi : i < n) : (belT F Y n)[i]? = some (belO F Y i n) := by simp [belT, hi]
/-- Old finds, by the table of the latest years below. -/
theorem isOld_bel {l : List Ctx} {f : Ctx} {q : Nat} (hq : ids[q]? = some f.id) (hy : 0 ≤ f.area) : isOld ids l L f = decide (f.area < belO (ordF ids l) (latT ids L) q ids.length) := by
  have hin : f.id ∈ ids := List.mem_of_getElem? hq
  have hqn : q < ids.length := (List.getElem?_eq_some_iff.1 hq).1
  have eq0 : ids.getD q 0 = f.id := by simp [hq]
  rw [Bool.eq_iff_iff, decide_eq_true_eq, belO_gt hy]
  simp only [isOld, Bool.and_eq_true, decide_eq_true_eq, List.any_eq_true]
  constructor
  · rintro ⟨_, a, ha, h1, h2⟩
    obtain ⟨j, hj, rfl⟩ := List.mem_iff_getElem.1 ha
    have hx : ids[j]? = some ids[j] := List.getElem?_eq_getElem hj
    refine ⟨j, hj, ?_, ?_⟩
    · simp only [ordF, hqn, hj, decide_true, Bool.true_and, eq0]
      rw [show ids.getD j 0 = ids[j] by simp [hj]]
      exact h1
    · rw [List.getD_eq_getElem?_getD, latT_at hx]
      exact (lat0_gt hy).2 h2
  · rintro ⟨j, hj, h1, h2⟩
    have hx : ids[j]? = some ids[j] := List.getElem?_eq_getElem hj
    simp only [ordF, hqn, hj, decide_true, Bool.true_and, eq0] at h1
    rw [show ids.getD j 0 = ids[j] by simp [hj]] at h1
    rw [List.getD_eq_getElem?_getD, latT_at hx] at h2
    exact ⟨hin, ids[j], List.getElem_mem hj, h1, (lat0_gt hy).1 h2⟩
theorem isOld_out {l : List Ctx} {f : Ctx} (h : f.id ∉ ids) : isOld ids l L f = false := by simp [isOld, h]
end
end Go.Proofs.Ytopdmcnbchpihaa
