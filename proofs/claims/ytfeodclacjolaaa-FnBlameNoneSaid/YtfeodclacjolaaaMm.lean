/- Members of groups as labels, and the laws' search of a number in them. -/
import Derived.Test.YtfeodclacjolaaaGx
import Derived.Test.YtfeodclacjolaaaPe
import Derived.Test.YtfeodclacjolaaaInts
namespace Go.Proofs.Ytfeodclacjolaaa
open Go.RowKit

theorem selG_mem {p : Int → Int → Bool} {ids g : List Int} {y : Int} : y ∈ selG p ids g ↔ ∃ (k : Nat) (x : Int), g[k]? = some x ∧ ids[k]? = some y ∧ p x y = true := by
  unfold selG
  rw [List.mem_map]
  constructor
  · rintro ⟨⟨a, b⟩, h, rfl⟩
    rw [List.mem_filter] at h
    obtain ⟨k, hk⟩ := List.mem_iff_getElem?.1 h.1
    rw [List.getElem?_zip_eq_some] at hk
    exact ⟨k, a, hk.1, hk.2, h.2⟩
  · rintro ⟨k, x, h1, h2, h3⟩
    exact ⟨(x, y), List.mem_filter.2 ⟨List.mem_of_getElem? (List.getElem?_zip_eq_some.2 ⟨h1, h2⟩), h3⟩, rfl⟩
theorem mem_members {ids : List Int} {l : List Ctx} (h : okG ids l = true) {a x : Int} (ha : a ∈ ids) (hx : x ∈ ids) : decide (x ∈ membersG ids l a) = decide (labG ids (groupsG ids l) x = labG ids (groupsG ids l) a) := by
  have hm : membersG ids l a = selG (toP (labG ids (groupsG ids l) a)) ids (groupsG ids l) := by simp [membersG, h, ha]
  rw [hm, decide_eq_decide, selG_mem]
  have hlx := labG_of (groupsG_len ids l) hx
  obtain ⟨_, _, hpx⟩ := placeI_at hx
  constructor
  · rintro ⟨k, y, h1, h2, h3⟩
    have e := labG_at (okG_parts h).1 h2 h1
    rw [e]
    simpa [toP] using h3
  · intro e
    exact ⟨_, _, hlx, hpx, by simp [toP, e]⟩
theorem hasInt_to (A : Option Addr) (ca n : Nat) (M : List Int) (y : Int) (t : Bool) {X : Nat} {w : World} (x : Ext X w) (hn : M.length = n) (ha : Reads x.val x.val.heap.size 1 A n (cellsI M)) (hl : n ≤ 1000000000) (ht : decide (y ∈ M) = t) :
    Calls Try.prog 40 #[.slice A n ca, .int .i64 y] x.val fun e w2 => e = .returned (.bool t) ∧ ∃ y : Ext X w, w2 = y.val := by
  subst hn
  exact calls_ext_same ((hasInt_any A ca M y x.val ha (by omega)).mono fun _ _ ⟨h1, h2⟩ => ⟨by rw [h1, ht], h2⟩)
end Go.Proofs.Ytfeodclacjolaaa
