/- Trees of nodes in memory: what the program's search of a root and its joining of two trees do. -/
import Derived.Test.YtjkjnicgbfpjiaaGi
import Derived.Deep.RegionLaw
namespace Go.Proofs.Ytjkjnicgbfpjiaa
open Go.RowKit
set_option linter.unusedVariables false

/-- The blocks below lo, and those from hi on that were there, are as they were. -/
structure Mid (lo hi : Nat) (w w2 : World) : Prop where
  os : w2.os = w.os
  tape : w2.tape = w.tape
  output : w2.output = w.output
  size : w.heap.size ≤ w2.heap.size
  block : ∀ k, (k < lo ∨ (hi ≤ k ∧ k < w.heap.size)) → w2.heap[k]? = w.heap[k]?
theorem Mid.of_below {lo hi : Nat} {w w2 : World} (h : Below w.heap.size w w2) (hlo : lo ≤ w.heap.size) : Mid lo hi w w2 := ⟨h.os, h.tape, h.output, h.size, fun k hk => h.block k (by omega)⟩
theorem Mid.refl (lo hi : Nat) (w : World) : Mid lo hi w w := ⟨rfl, rfl, rfl, Nat.le_refl _, fun _ _ => rfl⟩
theorem Mid.trans {lo hi : Nat} {w w2 w3 : World} (h : Mid lo hi w w2) (k : Mid lo hi w2 w3) : Mid lo hi w w3 :=
  ⟨k.os.trans h.os, k.tape.trans h.tape, k.output.trans h.output, Nat.le_trans h.size k.size, fun j hj => (k.block j (by have := h.size; omega)).trans (h.block j hj)⟩
theorem Mid.below {lo hi : Nat} {w0 w w2 : World} (h : Below w0.heap.size w0 w) (hlo : w0.heap.size ≤ lo) (hm : Mid lo hi w w2) : Below w0.heap.size w0 w2 :=
  h.trans ⟨hm.os, hm.tape, hm.output, hm.size, fun k hk => hm.block k (.inl (by omega))⟩
theorem Mid.draws {lo hi : Nat} {w w2 : World} (h : Mid lo hi w w2) (n : Nat) : Mid lo hi w (w2.drewN n) := ⟨h.os, h.tape, h.output, h.size, h.block⟩

def ptrF (b0 : Nat) : Option Nat → Option Addr
  | none => none
  | some j => some ⟨b0 + j, 0, none⟩
/-- The blocks from b0 on hold a node for each context. -/
def Forest (w : World) (b0 : Nat) (ids : List Int) (par : Nat → Option Nat) : Prop :=
  OkP par ∧ ∀ (i : Nat) (x : Int), ids[i]? = some x → w.heap[b0 + i]? = some (.cells #[.int .i64 x, .pointer (ptrF b0 (par i))] 82 (0, 0))
theorem Forest.keep {w w2 : World} {b0 : Nat} {ids : List Int} {par : Nat → Option Nat} (h : Forest w b0 ids par) (hk : ∀ k, b0 ≤ k → k < b0 + ids.length → w2.heap[k]? = w.heap[k]?) : Forest w2 b0 ids par :=
  ⟨h.1, fun i x hx => (hk _ (by omega) (by have := (List.getElem?_eq_some_iff.1 hx).1; omega)).trans (h.2 i x hx)⟩
theorem Forest.cells {w : World} {b0 : Nat} {ids : List Int} {par : Nat → Option Nat} (h : Forest w b0 ids par) {i : Nat} {x : Int} (hx : ids[i]? = some x) :
    w.cell? ⟨b0 + i, 0, none⟩ = some (.int .i64 x) ∧ w.cell? ⟨b0 + i, 1, none⟩ = some (.pointer (ptrF b0 (par i))) ∧ w.frozen? ⟨b0 + i, 1, none⟩ = false ∧ b0 + i < w.heap.size :=
  ⟨cell_of_row _ _ 0 _ _ _ (h.2 i x hx), cell_of_row _ _ 1 _ _ _ (h.2 i x hx), frozen_of_row _ _ 1 _ _ (h.2 i x hx), (Array.getElem?_eq_some_iff.1 (h.2 i x hx)).1⟩
/-- A node is hung below another one. -/
theorem Forest.hang {w w2 : World} {b0 : Nat} {ids : List Int} {par : Nat → Option Nat} (h : Forest w b0 ids par) {i r : Nat} (hr : r < i) (hi : i < ids.length) (hw : w2 = w.setCell ⟨b0 + i, 1, none⟩ (.pointer (some ⟨b0 + r, 0, none⟩))) :
    Forest w2 b0 ids (updP par i r) ∧ Mid b0 (b0 + ids.length) w w2 := by
  subst hw
  refine ⟨⟨okP_upd h.1 hr, fun k x hx => ?_⟩, ⟨rfl, rfl, rfl, by simp [World.setCell], fun k hk => ?_⟩⟩
  · by_cases hk : k = i
    · subst hk
      rw [heap_setCell_same _ _ _ _ _ _ (h.2 k x hx)]
      simp [updP, ptrF]
    · rw [heap_setCell_other _ _ _ _ (show b0 + k ≠ b0 + i by omega), h.2 k x hx]
      simp [updP, hk]
  · exact heap_setCell_other _ _ _ _ (show k ≠ b0 + i by omega)
def RootPost (w : World) (b0 : Nat) (ids : List Int) (par : Nat → Option Nat) (i : Nat) (e : Ending) (w2 : World) : Prop :=
  e = .returned (.pointer (some ⟨b0 + rootF par i, 0, none⟩)) ∧ (∃ par2, Forest w2 b0 ids par2 ∧ ∀ k, rootF par2 k = rootF par k) ∧ Mid b0 (b0 + ids.length) w w2
set_option maxHeartbeats 800000 in
set_option maxRecDepth 100000 in
theorem root_any (b0 : Nat) (ids : List Int) (hn : ids.length ≤ 1000000000000) : ∀ (i : Nat) (par : Nat → Option Nat) (w : World), i < ids.length → Forest w b0 ids par →
    Calls Try.prog 65 #[.pointer (some ⟨b0 + i, 0, none⟩)] w (RootPost w b0 ids par i) := by
  intro i
  induction i using Nat.strongRecOn with
  | ind i ih =>
    intro par w hi hf
    have IH := Lib.hid ih; clear ih
    have HF := Lib.hid hf
    have hx := List.getElem?_eq_getElem hi
    obtain ⟨c0, c1, f1, hlt⟩ := hf.cells hx
    clear hf hx
    cases hp : par i with
    | none =>
      rw [hp] at c1
      have HP := Lib.hid hp; clear hp
      simp only [ptrF] at c1
      go_enter Try.func65, Try.ntmps65
      go_wp2_with fail
      go_ret
      exact ⟨by rw [rootF_none HP.out]; rfl, ⟨par, HF.out, fun k => rfl⟩, Mid.refl _ _ _⟩
    | some j =>
      rw [hp] at c1
      have hj : j < i := HF.out.1 i j hp
      have HP := Lib.hid hp; clear hp
      simp only [ptrF] at c1
      go_enter Try.func65, Try.ntmps65
      go_wp2_with fail
      refine (IH.out j hj par w (by omega) HF.out).mono ?_
      rintro e w2 ⟨rfl, ⟨par2, hf2, hr2⟩, hm2⟩
      have hx := List.getElem?_eq_getElem hi
      obtain ⟨d0, d1, g1, hlt2⟩ := hf2.cells hx
      have hr : rootF par i = rootF par j := rootF_some HF.out.1 HP.out
      have hle : rootF par j < i := Nat.lt_of_le_of_lt (rootF_le HF.out.1 j) hj
      have HR := Lib.hid (And.intro hr hle)
      have H2 := Lib.hid (And.intro hf2 (And.intro hr2 hm2))
      clear hx hf2 hr2 hm2 hr hle
      go_wp2_with fail
      go_ret
      obtain ⟨hr, hle⟩ := HR.out
      obtain ⟨hf2, hr2, hm2⟩ := H2.out
      obtain ⟨hf3, hm3⟩ := hf2.hang hle hi rfl
      exact ⟨by rw [hr]; rfl, ⟨_, hf3, fun k => by rw [rootF_hang hf2.1 (by rw [hr2, hr]) hle, hr2]⟩, hm2.trans hm3⟩

def JoinPost (w : World) (b0 : Nat) (ids : List Int) (par : Nat → Option Nat) (i j : Nat) (e : Ending) (w2 : World) : Prop :=
  e = .returned (.tuple #[]) ∧ (∃ par2, Forest w2 b0 ids par2 ∧ JoinP par par2 i j ids.length) ∧ Mid b0 (b0 + ids.length) w w2
theorem joinP_same {par par2 : Nat → Option Nat} {i j n : Nat} (h : rootF par i = rootF par j) (hr : ∀ k, rootF par2 k = rootF par k) : JoinP par par2 i j n := by
  intro k _
  rw [h, Nat.max_self, Nat.min_self, hr k]
  split
  · rename_i h2; exact h2
  · rfl
theorem joinP_hang {par par2 : Nat → Option Nat} {i j n a b : Nat} (hP : OkP par2) (h : (rootF par i = a ∧ rootF par j = b) ∨ (rootF par i = b ∧ rootF par j = a)) (hlt : a < b) (hr : ∀ k, rootF par2 k = rootF par k) : JoinP par (updP par2 b a) i j n := by
  have ha : par2 a = none := by
    rcases h with h | h
    · rw [← h.1, ← hr i]; exact rootF_root hP i
    · rw [← h.2, ← hr j]; exact rootF_root hP j
  have hb : par2 b = none := by
    rcases h with h | h
    · rw [← h.2, ← hr j]; exact rootF_root hP j
    · rw [← h.1, ← hr i]; exact rootF_root hP i
  intro k _
  rw [rootF_join hP ha hb hlt, hr k]
  rcases h with ⟨h1, h2⟩ | ⟨h1, h2⟩
  · rw [h1, h2, Nat.max_eq_right (by omega), Nat.min_eq_left (by omega)]
  · rw [h1, h2, Nat.max_eq_left (by omega), Nat.min_eq_right (by omega)]
set_option maxHeartbeats 1600000 in
set_option maxRecDepth 100000 in
theorem join_any (b0 : Nat) (ids : List Int) (hn : ids.length ≤ 1000000000000) (hv : validI ids = true) (i j : Nat) (par : Nat → Option Nat) (w : World) (hi : i < ids.length) (hj : j < ids.length) (hf : Forest w b0 ids par) :
    Calls Try.prog 91 #[.pointer (some ⟨b0 + i, 0, none⟩), .pointer (some ⟨b0 + j, 0, none⟩)] w (JoinPost w b0 ids par i j) := by
  have HV := Lib.hid hv; clear hv
  have hP := hf.1
  obtain ⟨a, ha⟩ : ∃ a, a = rootF par i := ⟨_, rfl⟩
  obtain ⟨b, hb⟩ : ∃ b, b = rootF par j := ⟨_, rfl⟩
  have hai : a < ids.length := by rw [ha]; exact Nat.lt_of_le_of_lt (rootF_le hP i) hi
  have hbj : b < ids.length := by rw [hb]; exact Nat.lt_of_le_of_lt (rootF_le hP j) hj
  have HA := Lib.hid (And.intro ha hb)
  have HF := Lib.hid hf
  clear hP hf ha hb
  go_enter Try.func91, Try.ntmps91
  go_wp2_with fail
  refine (root_any b0 ids hn i par w hi HF.out).mono ?_
  rintro e w2 ⟨he, ⟨par2, hf2, hr2⟩, hm2⟩
  rw [← HA.out.1] at he
  subst he
  have H2 := Lib.hid (And.intro hr2 hm2)
  go_wp2_with fail
  refine (root_any b0 ids hn j par2 w2 hj hf2).mono ?_
  rintro e w3 ⟨he, ⟨par3, hf3, hr3⟩, hm3⟩
  rw [hr2, ← HA.out.2] at he
  subst he
  have H3 := Lib.hid (And.intro hr3 hm3)
  have HF3 := Lib.hid hf3
  obtain ⟨x, hxa⟩ : ∃ x, ids[a]? = some x := ⟨_, List.getElem?_eq_getElem hai⟩
  obtain ⟨y, hxb⟩ : ∃ y, ids[b]? = some y := ⟨_, List.getElem?_eq_getElem hbj⟩
  obtain ⟨c0, c1, f1, hlt⟩ := hf3.cells hxa
  obtain ⟨d0, d1, g1, hltb⟩ := hf3.cells hxb
  have HO : Hid (∀ k, rootF par3 k = rootF par k) := by exact fun k => (hr3 k).trans (hr2 k)
  have HM : Hid (Mid b0 (b0 + ids.length) w w3) := by exact hm2.trans hm3
  clear hr2 hm2 hr3 hm3 hf2 hf3 H2 H3
  rcases Nat.lt_trichotomy a b with hab | hab | hab
  · have hlt2 : x < y := asc_lt HV.out hxa hxb hab
    have e1 : decide (x < y) = true := by simp [hlt2]
    clear hxa hxb
    go_wp2_with fail
    go_quiet (fail)
    go_wp2_with fail
    go_end0
    obtain ⟨hf4, hm4⟩ := (HF3.out.keep (w2 := w3.drewN nq) fun _ _ _ => rfl).hang hab hbj rfl
    exact ⟨rfl, ⟨_, hf4, joinP_hang HF3.out.1 (.inl ⟨HA.out.1.symm, HA.out.2.symm⟩) hab HO.out⟩, (HM.out.draws nq).trans hm4⟩
  · subst hab
    rw [hxa] at hxb
    injection hxb with hxy
    subst hxy
    have e1 : decide (x < x) = false := by simp
    clear hxa
    go_wp2_with fail
    go_quiet (fail)
    go_wp2_with fail
    go_quiet (fail)
    go_wp2_with fail
    go_end0
    exact ⟨rfl, ⟨_, HF3.out.keep fun _ _ _ => rfl, joinP_same (HA.out.1.symm.trans HA.out.2) HO.out⟩, (HM.out.draws _).draws _⟩
  · have hlt2 : y < x := asc_lt HV.out hxb hxa hab
    have e1 : decide (x < y) = false := by simp; omega
    have e2 : decide (y < x) = true := by simp [hlt2]
    clear hxa hxb
    go_wp2_with fail
    go_quiet (fail)
    go_wp2_with fail
    go_quiet (fail)
    go_wp2_with fail
    go_end0
    obtain ⟨hf4, hm4⟩ := (HF3.out.keep (w2 := w3.drewN _) fun _ _ _ => rfl).hang hab hai rfl
    exact ⟨rfl, ⟨_, hf4, joinP_hang HF3.out.1 (.inr ⟨HA.out.1.symm, HA.out.2.symm⟩) hab HO.out⟩, (HM.out.draws _).trans hm4⟩
end Go.Proofs.Ytjkjnicgbfpjiaa
