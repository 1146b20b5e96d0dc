/- The laws lay another row into a copy of weights. -/
import Derived.Test.YtnkdpogplkomhaaPw
namespace Go.Proofs.Ytnkdpogplkomhaa
open Go.RowKit

theorem nest_vals {α : Type} {enc : α → Value} {w : World} {B n : Nat} {A : Option Addr} {L : List (List α)} (h : Nest enc w B A n L) : ∃ vs : List Value, vs.length = L.length ∧ Reads w B 1 A n vs ∧ (∀ u ∈ vs, u.oneCell' = true) ∧
    ∀ (i : Nat) (r : List α), L[i]? = some r → ∃ A2 c2, vs[i]? = some (.slice A2 r.length c2) ∧ r.length ≤ c2 ∧ Reads w B 1 A2 r.length (r.map enc) := by
  obtain ⟨h1, vs, h2, h3⟩ := h
  have hl : vs.length = L.length := by have := h2.1; omega
  refine ⟨vs, hl, h2, fun u hu => ?_, h3⟩
  obtain ⟨i, hi, rfl⟩ := List.mem_iff_getElem.1 hu
  obtain ⟨A2, c2, h4, _, _⟩ := h3 i L[i] (List.getElem?_eq_getElem (by omega))
  rw [List.getElem?_eq_getElem hi] at h4
  injection h4 with h4
  rw [h4]
  rfl
set_option maxHeartbeats 1600000 in
set_option maxRecDepth 100000 in
theorem chg_any (B A8 : Option Addr) (cb k c8 : Nat) (L : List (List Int)) (r : List Int) (w : World) (hn : Nest (Value.int .i64) w w.heap.size B L.length L) (hl : L.length ≤ 1000000) (hk : k < L.length) (hr : Reads w w.heap.size 1 A8 r.length (r.map (Value.int .i64))) (hc8 : r.length ≤ c8) :
    Calls Try.prog 28 #[.slice B L.length cb, .int .i64 (k : Int), .slice A8 r.length c8] w fun e w2 => ∃ B2 c2, e = .returned (.slice B2 L.length c2) ∧ L.length ≤ c2 ∧ Nest (Value.int .i64) w2 w2.heap.size B2 L.length (L.set k r) ∧ Below w.heap.size w w2 := by
  obtain ⟨ir, hir, hrz, hrs, hrb⟩ := info_parts infoRowP
  obtain ⟨vs, hvl, hvr, hv1, hvn⟩ := nest_vals hn
  have b1 := (Below.refl w.heap.size w).alloc (Nat.le_refl _) (.cells #[] 23)
  have ho1 : (w.alloc (.cells #[] 23)).ownsRow w.heap.size 23 1 (.slice (some ⟨w.heap.size, 0, none⟩) 0 0) 0 [] := own_empty (Nat.le_refl _) rfl
  have HV := Lib.hid (And.intro hvl (And.intro hvn (And.intro hr b1)))
  have hvr1 := hvr.below b1
  clear hn hvn hr hvr b1 hvl
  go_enter Try.func28, Try.ntmps28
  go_wp2_with (at_builtin
               go_must (refine wpList_append_reads _ rfl (.tmp 8) (.tmp 9) _ rfl w.heap.size 23 ir _ 1 24 Try.underlying47 hir hrz hrs hrb rfl (by omega) _ 0 _ rfl ho1 w.heap.size _ L.length cb vs rfl hvr1 hv1 (by simp only [maxLen]; omega) (by omega) (by simp) ?_)
               intro v8 w8 hown8 hg8 hat8
               go_must (obtain ⟨g8, cap8, hv8, hg81, hg82⟩ := hown8.form (by omega))
               go_must (subst hv8)
               go_must (simp only [Nat.zero_add, List.nil_append] at hown8)
               go_must (have d0 := hown8.cellAt k (by omega))
               go_must (have d1 : ∃ v, w8.cell? ⟨g8, k, none⟩ = some v := ⟨_, d0.trans (List.getElem?_eq_getElem (by rw [HV.out.1]; exact hk))⟩)
               go_must (obtain ⟨v0, d1⟩ := d1)
               go_must (have f0 := hown8.frozenAt k)
               go_must (have hki : (k : Int) < (L.length : Int) := by omega)
               go_must (have b8 : Below w.heap.size w w8 := (HV.out.2.2.2).trans ((Below.refl _ _).grown hg8 (by simp) (fun q hq => by injection hq with hq; have : w.heap.size = q := hq; omega)))
               go_must (have H8 := Lib.hid (And.intro hown8 b8))
               go_must (clear hown8 hg8 hat8 b8 d0))
  go_ret
  obtain ⟨hown8, b8⟩ := H8.out
  obtain ⟨hvl, hvn, hr, _⟩ := HV.out
  have hst := (hown8.stored k (.slice A8 r.length c8)).1
  have bs : Below w.heap.size w (w8.setCell ⟨g8, k, none⟩ (.slice A8 r.length c8)) := b8.setCell hg81 _
  have hcap : L.length ≤ cap8 := by
    obtain ⟨_, c9, hv9, h9, _⟩ := Reads.of_own hown8
    injection hv9 with _ _ h10
    omega
  refine ⟨some ⟨g8, 0, none⟩, cap8, by simp, hcap, ⟨by simp, vs.set k (.slice A8 r.length c8), own_reads hst, fun i r1 h1 => ?_⟩, bs⟩
  rw [List.getElem?_set] at h1
  have hsz : w.heap.size ≤ (w8.setCell ⟨g8, k, none⟩ (.slice A8 r.length c8)).heap.size := bs.size
  by_cases hki2 : k = i
  · subst hki2
    rw [if_pos rfl, if_pos hk] at h1
    injection h1 with h1
    subst h1
    exact ⟨A8, c8, by rw [List.getElem?_set_self (by omega)], hc8, (hr.below bs).more hsz⟩
  · rw [if_neg hki2] at h1
    obtain ⟨A2, c2, h3, h4, h5⟩ := hvn i r1 h1
    exact ⟨A2, c2, by rw [List.getElem?_set_ne hki2]; exact h3, h4, (h5.below bs).more hsz⟩
end Go.Proofs.Ytnkdpogplkomhaa
