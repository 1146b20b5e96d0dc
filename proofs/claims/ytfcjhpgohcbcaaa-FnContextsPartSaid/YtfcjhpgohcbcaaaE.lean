/- The program puts a context in its place in a linked list. -/
import Derived.Test.YtfcjhpgohcbcaaaD
import Derived.Deep.RegionLaw
namespace Go.Proofs.Ytfcjhpgohcbcaaa
open Go.RowKit

/-- The blocks below lo, and those from hi on that were there, are as they were. -/
structure Mid (lo hi : Nat) (w w2 : World) : Prop where
  os : w2.os = w.os
  tape : w2.tape = w.tape
  output : w2.output = w.output
  size : w.heap.size ≤ w2.heap.size
  block : ∀ k, (k < lo ∨ (hi ≤ k ∧ k < w.heap.size)) → w2.heap[k]? = w.heap[k]?
theorem Mid.of_below {lo hi : Nat} {w w2 : World} (hlo : lo ≤ w.heap.size) (h : Below w.heap.size w w2) : Mid lo hi w w2 := ⟨h.os, h.tape, h.output, h.size, fun k hk => h.block k (by omega)⟩
theorem Mid.below {hi : Nat} {w0 w w2 : World} (h : Mid w0.heap.size hi w w2) (hb : Below w0.heap.size w0 w) : Below w0.heap.size w0 w2 := hb.trans ⟨h.os, h.tape, h.output, h.size, fun k hk => h.block k (.inl hk)⟩
def InsPost (lo hi : Nat) (w : World) (c : Ctx) (l : List Ctx) (e : Ending) (w2 : World) : Prop :=
  ∃ p, e = .returned (.pointer p) ∧ LkAt w2 (fun g => lo ≤ g ∧ (g < hi ∨ w.heap.size ≤ g) ∧ g < w2.heap.size) p (insC c l) ∧ Mid lo hi w w2

theorem ins_new {w wa w2 : World} {lo hi : Nat} {p : Option Addr} {l : List Ctx} {c : Ctx} (hr : LkDn w lo hi p l) (hlo : lo ≤ w.heap.size) (hhi : hi ≤ w.heap.size) (ha : Below w.heap.size w wa)
    (n g0 : Nat) (hg0 : g0 = wa.heap.size) (hw : w2 = (wa.alloc (.cells (nodeCells c p) 63)).drewN n) : LkAt w2 (fun g => lo ≤ g ∧ (g < hi ∨ w.heap.size ≤ g) ∧ g < w2.heap.size) (some ⟨g0, 0, none⟩) (c :: l) ∧ Mid lo hi w w2 := by
  subst hg0
  have hs := ha.size
  have hb : Below w.heap.size w w2 := by rw [hw]; exact below_draws (ha.alloc hs _) n
  have hs2 : w2.heap.size = wa.heap.size + 1 := by rw [hw]; simp [World.drewN]
  refine ⟨⟨_, p, rfl, ⟨by omega, .inr hs, by omega⟩, by rw [hw]; exact heap_alloc_new wa _, ?_⟩, Mid.of_below hlo hb⟩
  have h1 := hr.at_.keep (w2 := w2) (fun g hg => hb.block g (by omega))
  exact h1.weaken fun g hg => ⟨hg.1, .inl hg.2, by omega⟩
theorem ins_next {w wa w3 w2 : World} {lo hi g : Nat} {p p2 : Option Addr} {l : List Ctx} {c d : Ctx} (hlo : lo ≤ g) (hgh : g < hi) (hhi : hi ≤ w.heap.size) (hh : w.heap[g]? = some (.cells (nodeCells d p) 63 (0, 0)))
    (ha : Below w.heap.size w wa) (hl : LkAt w3 (fun k => lo ≤ k ∧ (k < g ∨ wa.heap.size ≤ k) ∧ k < w3.heap.size) p2 (insC c l)) (hm : Mid lo g wa w3)
    (hw : w2 = w3.setCell ⟨g, 3, none⟩ (.pointer p2)) : LkAt w2 (fun k => lo ≤ k ∧ (k < hi ∨ w.heap.size ≤ k) ∧ k < w2.heap.size) (some ⟨g, 0, none⟩) (d :: insC c l) ∧ Mid lo hi w w2 := by
  have hs := ha.size
  have h3 := hm.size
  have hs2 : w2.heap.size = w3.heap.size := by rw [hw]; simp [World.setCell]
  have hg3 : w3.heap[g]? = some (.cells (nodeCells d p) 63 (0, 0)) := ((hm.block g (.inr ⟨Nat.le_refl _, by omega⟩)).trans (ha.block g (by omega))).trans hh
  have hfar : ∀ k, k ≠ g → w2.heap[k]? = w3.heap[k]? := fun k hk => by rw [hw]; exact heap_setCell_other _ _ _ _ hk
  refine ⟨⟨g, p2, rfl, ⟨hlo, .inl hgh, by omega⟩, ?_, ?_⟩, ⟨?_, ?_, ?_, by omega, fun k hk => ?_⟩⟩
  · rw [hw, heap_setCell_same _ _ _ _ _ _ hg3]; rfl
  · exact (hl.keep (w2 := w2) fun k hk => hfar k (by omega)).weaken fun k hk => ⟨hk.1, by omega, by omega⟩
  · rw [hw]; exact hm.os.trans ha.os
  · rw [hw]; exact hm.tape.trans ha.tape
  · rw [hw]; exact hm.output.trans ha.output
  · rw [hfar k (by omega)]
    exact (hm.block k (by omega)).trans (ha.block k (by omega))

set_option maxHeartbeats 800000 in
theorem insert_any (c : Ctx) : ∀ (l : List Ctx) (p : Option Addr) (w : World) (lo hi : Nat), LkDn w lo hi p l → lo ≤ w.heap.size → hi ≤ w.heap.size →
    Calls Try.prog 45 #[.pointer p, .agg #[.int .i64 c.id, .int .i64 c.kind, .int .i64 c.area]] w (InsPost lo hi w c l) := by
  intro l
  induction l with
  | nil =>
    intro p w lo hi hr hlo hhi
    have HR := Lib.hid hr
    obtain rfl : p = none := hr
    go_enter Try.func45, Try.ntmps45
    go_wp2_with fail
    go_quiet (fail)
    go_wp2_with fail
    go_ret
    exact ⟨_, rfl, ins_new (c := c) HR.out hlo hhi ((Below.refl _ _).alloc (Nat.le_refl _) (.cells #[.int .i64 c.id, .int .i64 c.kind, .int .i64 c.area] 25)) nq _ (by simp) rfl⟩
  | cons d l ih =>
    intro p w lo hi hr hlo hhi
    have HR := Lib.hid hr
    obtain ⟨g, p2, rfl, hg1, hg2, hh, hr2⟩ := hr
    have hc0 := cell_of_row _ _ 0 _ _ _ hh
    have hc3 := cell_of_row _ _ 3 _ _ _ hh
    have hgs : g < w.heap.size := by omega
    simp only [nodeCells] at hc0 hc3
    have HH := Lib.hid hh
    have H2 := Lib.hid hr2
    have IH := Lib.hid ih
    clear hh hr2 ih
    by_cases hlt : c.id < d.id
    · have HI : Hid (insC c (d :: l) = c :: d :: l) := by exact if_pos hlt
      go_enter Try.func45, Try.ntmps45
      go_wp2_with fail
      go_quiet (fail)
      go_wp2_with fail
      go_ret
      refine ⟨_, rfl, ?_⟩
      rw [HI.out]
      exact ins_new (c := c) HR.out hlo hhi ((Below.refl _ _).alloc (Nat.le_refl _) (.cells #[.int .i64 c.id, .int .i64 c.kind, .int .i64 c.area] 25)) nq _ (by simp) rfl
    · have HI : Hid (insC c (d :: l) = d :: insC c l) := by exact if_neg hlt
      go_enter Try.func45, Try.ntmps45
      go_wp2_with fail
      go_quiet (fail)
      go_wp2_with fail
      have HB : Hid (∀ n, Below w.heap.size w ((w.alloc (.cells #[.int .i64 c.id, .int .i64 c.kind, .int .i64 c.area] 25)).drewN n)) := by exact fun n => below_draws ((Below.refl _ _).alloc (Nat.le_refl _) _) n
      go_region_law
        (first
          | (go_simp
             go_at_call 45
             go_must (refine (IH.out p2 _ lo g (H2.out.keep fun k hk => (HB.out (nq + 1)).block k (by omega)) (Nat.le_trans hlo (HB.out (nq + 1)).size) (Nat.le_trans (Nat.le_of_lt hgs) (HB.out (nq + 1)).size)).mono ?_)
             rintro e w3 ⟨p3, rfl, hl3, hm3⟩
             have hh3 : w3.heap[g]? = some (.cells (nodeCells d p2) 63 (0, 0)) := ((hm3.block g (.inr ⟨Nat.le_refl _, Nat.lt_of_lt_of_le hgs (HB.out (nq + 1)).size⟩)).trans ((HB.out (nq + 1)).block g hgs)).trans HH.out
             have hf3 := frozen_of_row _ _ 3 _ _ hh3
             have hc33 : w3.cell? ⟨g, 3, none⟩ = some (.pointer p2) := cell_of_row _ _ 3 _ _ _ hh3
             clear hh3))
      all_goals
        go_wp2_with fail
        go_ret
        refine ⟨_, rfl, ?_⟩
        rw [HI.out]
        exact ins_next hg1 hg2 hhi HH.out (HB.out (nq + 1)) hl3 hm3 rfl
end Go.Proofs.Ytfcjhpgohcbcaaa
