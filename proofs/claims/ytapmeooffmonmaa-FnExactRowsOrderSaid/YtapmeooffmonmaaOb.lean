/- Arguments that are rows of Booleans, opened. -/
import Derived.Test.YtapmeooffmonmaaOpen
import Derived.Test.YtapmeooffmonmaaTw
import Derived.Deep.Grids
namespace Go.Proofs.Ytapmeooffmonmaa
open Go.RowKit Go.ChangeShapes Go.WideShapes Go.Deep

/-- Cells that hold Booleans are read. -/
theorem reads_bools {w : World} {a : Addr} {n : Nat} {B : Nat → Bool} (h : ∀ i, i < n → w.cell? (a.add i) = some (.bool (B i))) : Reads w w.heap.size 1 (some a) n ((rowN n B).map encB) := by
  refine ⟨by rw [List.length_map, rowN_len, Nat.mul_one], fun hn => ?_⟩
  obtain ⟨b, off, rfl, hb, hc⟩ := plain_addr (a := a) (f := fun j => .bool (B j)) hn h
  refine ⟨b, off, rfl, hb, fun j u hu => ?_⟩
  have hj : j < n := by simpa [rowN_len] using (List.getElem?_eq_some_iff.1 hu).1
  rw [List.getElem?_map, rowN_at _ hj] at hu
  injection hu with hu
  rw [hc j hj, ← hu]
  rfl
section
variable {H : Type} {enc : TypeId × Value → H} {P : Program} {w : World} {base : Nat} {held : Bool}
/-- A row of Booleans. -/
theorem open_row {t e : TypeId} {fuel : Nat} {A : Option Addr} {n cap : Nat} {x : DataW H × List MemPlace} (ht : P.underlying t = some (.slice e)) (he : P.underlying e = some .bool) (hc : P.cellsOf e = 1)
    (h : DataW.trod enc P w base (fun _ => true) held fuel t [.slice A n cap] = some x) : ∃ l : List Bool, n = l.length ∧ Reads w w.heap.size 1 A n (l.map encB) ∧ n ≤ maxLen := by
  rcases open_bools ht he hc h with ⟨hs, _⟩ | ⟨a, len, c, B, hs, _, hl, hm, _, hcell⟩
  · injection hs with hs _
    injection hs with hA hn _
    subst hn
    exact ⟨[], rfl, ⟨rfl, fun h => absurd h (by omega)⟩, by simp [maxLen]⟩
  · injection hs with hs _
    injection hs with hA hn hcap
    subst hA hn hcap
    exact ⟨rowN n B, (rowN_len _ _).symm, reads_bools fun i hi => hcell i (by omega), by omega⟩
/-- Rows of Booleans. -/
theorem open_rows {t e q : TypeId} {fuel : Nat} {A : Option Addr} {n cap : Nat} {x : DataW H × List MemPlace} (ht : P.underlying t = some (.slice e)) (he : P.underlying e = some (.slice q)) (hq : P.underlying q = some .bool) (ce : P.cellsOf e = 1) (cq : P.cellsOf q = 1)
    (h : DataW.trod enc P w base (fun _ => true) held fuel t [.slice A n cap] = some x) : ∃ T : List (List Bool), n = T.length ∧ Nest encB w w.heap.size A n T ∧ n ≤ maxLen ∧ ∀ r ∈ T, r.length ≤ maxLen := by
  rcases open_bool_rows ht he hq ce cq h with ⟨hs, _⟩ | ⟨a, len, c, Ar, L, C, B, hs, _, hl, hm, _, hrow⟩
  · injection hs with hs _
    injection hs with hA hn _
    subst hn
    exact ⟨[], rfl, ⟨rfl, [], ⟨rfl, fun h => absurd h (by omega)⟩, fun i r hr => by simp at hr⟩, by simp [maxLen], fun r hr => by simp at hr⟩
  · injection hs with hs _
    injection hs with hA hn hcap
    subst hA hn hcap
    have hT : ((List.range n).map fun i => rowN (L i) (B i)).length = n := by simp
    refine ⟨(List.range n).map fun i => rowN (L i) (B i), hT.symm, ⟨hT.symm, (List.range n).map fun i => .slice (Ar i) (L i) (C i), ⟨by simp, fun hn => ?_⟩, fun i r hr => ?_⟩, by omega, fun r hr => ?_⟩
    · obtain ⟨b, off, rfl, hb, hc⟩ := plain_addr (a := a) (f := fun j => .slice (Ar j) (L j) (C j)) hn fun j hj => (hrow j (by omega)).1
      refine ⟨b, off, rfl, hb, fun j u hu => ?_⟩
      have hj : j < n := by simpa using (List.getElem?_eq_some_iff.1 hu).1
      rw [hc j hj]
      simpa [hj] using hu
    · have hi : i < n := by simpa using (List.getElem?_eq_some_iff.1 hr).1
      have e : r = rowN (L i) (B i) := by simpa [hi, eq_comm] using hr
      subst e
      obtain ⟨_, h1, _, h3, h4⟩ := hrow i (by omega)
      rw [rowN_len]
      refine ⟨Ar i, C i, by simp [hi], h1, ?_⟩
      cases hAr : Ar i with
      | none =>
        have h0 : L i = 0 := by have := h3 hAr; omega
        rw [h0]
        exact ⟨rfl, fun h => absurd h (by omega)⟩
      | some a' => exact reads_bools fun k hk => (h4 a' hAr).2 k (by omega)
    · obtain ⟨i, hi, rfl⟩ := List.mem_map.1 hr
      rw [List.mem_range] at hi
      obtain ⟨_, h1, h2, _⟩ := hrow i (by omega)
      rw [rowN_len]
      omega
end
end Go.Proofs.Ytapmeooffmonmaa
