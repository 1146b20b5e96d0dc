/- Arguments that are rows of numbers, opened. -/
import Derived.Test.YtnkdpogplkomhaaOpen
import Derived.Test.YtnkdpogplkomhaaTab
import Derived.Deep.Matrix
namespace Go.Proofs.Ytnkdpogplkomhaa
open Go.RowKit Go.ChangeShapes Go.WideShapes Go.Deep

/-- The first cells of a list that is read. -/
theorem reads_intsI {w : World} {a : Addr} {n c : Nat} {Z : List Int} (hn : n ≤ c) (hz : Z.length = c) (h : ∀ i, i < c → w.cell? (a.add i) = some (.int .i64 (Z.getD i 0))) : Reads w w.heap.size 1 (some a) n ((Z.take n).map (Value.int .i64)) := by
  refine ⟨by simp; omega, fun h0 => ?_⟩
  obtain ⟨b, off, rfl, hb, hc⟩ := plain_addr (a := a) (n := n) (f := fun j => .int .i64 (Z.getD j 0)) h0 (fun j hj => h j (by omega))
  refine ⟨b, off, rfl, hb, fun j u hu => ?_⟩
  have hj : j < n := by have := (List.getElem?_eq_some_iff.1 hu).1; simp at this; omega
  rw [hc j hj]
  have e : Z[j]? = some (Z.getD j 0) := by simp [show j < Z.length by omega]
  rw [List.getElem?_map, List.getElem?_take, if_pos hj, e] at hu
  exact hu
section
variable {H : Type} {enc : TypeId × Value → H} {P : Program} {w : World} {base : Nat} {held : Bool}
/-- Rows of numbers. -/
theorem open_introws {t e q : TypeId} {fuel : Nat} {A : Option Addr} {n cap : Nat} {x : DataW H × List MemPlace} (ht : P.underlying t = some (.slice e)) (he : P.underlying e = some (.slice q)) (hq : P.underlying q = some (.int .i64)) (ce : P.cellsOf e = 1) (cq : P.cellsOf q = 1)
    (h : DataW.trod enc P w base (fun _ => true) held fuel t [.slice A n cap] = some x) : ∃ T : List (List Int), n = T.length ∧ Nest (Value.int .i64) w w.heap.size A n T ∧ n ≤ maxLen ∧ ∀ r ∈ T, r.length ≤ maxLen := by
  rcases open_int_rows ht he hq ce cq h with ⟨hs, _⟩ | ⟨a, len, c, Ar, L, C, Z, hs, _, hl, hm, _, hrow⟩
  · injection hs with hs _
    injection hs with hA hn _
    subst hn
    exact ⟨[], rfl, ⟨rfl, [], ⟨rfl, fun h => absurd h (by omega)⟩, fun i r hr => by simp at hr⟩, by simp [maxLen], fun r hr => by simp at hr⟩
  · injection hs with hs _
    injection hs with hA hn hcap
    subst hA hn hcap
    have hT : ((List.range n).map fun i => (Z i).take (L i)).length = n := by simp
    refine ⟨(List.range n).map fun i => (Z i).take (L i), hT.symm, ⟨hT.symm, (List.range n).map fun i => .slice (Ar i) (L i) (C i), ⟨by simp, fun hn => ?_⟩, fun i r hr => ?_⟩, by omega, fun r hr => ?_⟩
    · obtain ⟨b, off, rfl, hb, hc⟩ := plain_addr (a := a) (f := fun j => .slice (Ar j) (L j) (C j)) hn fun j hj => (hrow j (by omega)).1
      refine ⟨b, off, rfl, hb, fun j u hu => ?_⟩
      have hj : j < n := by simpa using (List.getElem?_eq_some_iff.1 hu).1
      rw [hc j hj]
      simpa [hj] using hu
    · have hi : i < n := by simpa using (List.getElem?_eq_some_iff.1 hr).1
      have e : r = (Z i).take (L i) := by simpa [hi, eq_comm] using hr
      subst e
      obtain ⟨_, h1, _, hz, _, h3, h4⟩ := hrow i (by omega)
      have hlen : ((Z i).take (L i)).length = L i := by simp; omega
      rw [hlen]
      refine ⟨Ar i, C i, by simp [hi], h1, ?_⟩
      cases hAr : Ar i with
      | none =>
        have h0 : L i = 0 := by have := h3 hAr; omega
        rw [h0]
        exact ⟨rfl, fun h => absurd h (by omega)⟩
      | some a' => exact reads_intsI h1 hz (fun c hc => (h4 a' hAr).2 c hc)
    · simp only [List.mem_map, List.mem_range] at hr
      obtain ⟨i, hi, rfl⟩ := hr
      obtain ⟨_, h1, h2, _⟩ := hrow i (by omega)
      simp
      omega
end
end Go.Proofs.Ytnkdpogplkomhaa
