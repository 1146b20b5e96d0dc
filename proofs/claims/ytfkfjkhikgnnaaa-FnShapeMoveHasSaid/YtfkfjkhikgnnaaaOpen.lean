/- The arguments of the laws, opened: a slice of contexts, a slice of bytes. -/
import Derived.Test.YtfkfjkhikgnnaaaTri
import Derived.Test.YtfkfjkhikgnnaaaRows
import Derived.ProofKit
import Derived.OpenShut
import Derived.ShutString
import Derived.ChangeOld
import Derived.Deep.Slices
import Derived.Deep.Fields
import Derived.Lib.SmallJoins
namespace Go.Proofs.Ytfkfjkhikgnnaaa
open Go.RowKit Go.ChangeShapes Go.WideShapes Go.Deep

theorem lawOwn : ownKnob Try.prog.godebug = none := by kernel_rfl
theorem lawLaid : laidOutB Try.prog = true := by kernel_rfl


section
variable {H : Type} {enc : TypeId × Value → H} {P : Program} {w : World} {base : Nat} {spare : Nat → Bool} {held : Bool}
/-- Cells that are read one after the other, in a plain block. -/
theorem plain_addr {a : Addr} {f : Nat → Value} {n : Nat} (hn : 0 < n) (h : ∀ j, j < n → w.cell? (a.add j) = some (f j)) : ∃ b off, a = ⟨b, off, none⟩ ∧ b < w.heap.size ∧ ∀ j, j < n → w.cell? ⟨b, off + j, none⟩ = some (f j) := by
  obtain ⟨b, off, spot⟩ := a
  have hspot : spot = none := by simpa [Addr.add] using World.cell?_spot (h 0 hn)
  subst hspot
  refine ⟨b, off, rfl, ?_, fun j hj => by rw [← Go.WideShapes.add_plain]; exact h j hj⟩
  have := h 0 hn
  simp [Addr.add] at this
  exact block_lt_of_cell this
theorem add_add_ (a : Addr) (i j : Nat) : (a.add i).add j = a.add (i + j) := by
  unfold Addr.add
  by_cases hi : i = 0 <;> by_cases hj : j = 0 <;> simp [hi, hj, Nat.add_assoc]

theorem list_of {α : Type} {p : Nat → α → Prop} : ∀ (n : Nat), (∀ i, i < n → ∃ d, p i d) → ∃ l : List α, l.length = n ∧ ∀ (i : Nat) (c : α), l[i]? = some c → p i c
  | 0, _ => ⟨[], rfl, fun i c h => by simp at h⟩
  | n + 1, key => by
    obtain ⟨l, hl, hll⟩ := list_of n (fun i hin => key i (by omega))
    obtain ⟨d, hd⟩ := key n (by omega)
    refine ⟨l ++ [d], by simp [hl], fun i c hc => ?_⟩
    rcases Nat.lt_or_ge i l.length with hlt | hge
    · rw [List.getElem?_append_left hlt] at hc; exact hll i c hc
    · rw [List.getElem?_append_right hge] at hc
      have : i = n := by
        rcases Nat.eq_zero_or_pos (i - l.length) with h0 | h0
        · omega
        · rw [List.getElem?_eq_none (by simp; omega)] at hc; cases hc
      subst this
      simp [hl] at hc
      exact hc ▸ hd
/-- A slice of structs of three numbers. -/
theorem open_ctxs {t e : TypeId} {f0 f1 f2 : Field} {fi : TypeId} {fuel : Nat} {A : Option Addr} {n cap : Nat} {x : DataW H × List MemPlace} (ht : P.underlying t = some (.slice e)) (he : P.underlying e = some (.struct #[f0, f1, f2]))
    (hone : oneCellFields P #[f0, f1, f2] = true) (hC : P.cellsOf e = 3) (h0 : f0.type = fi) (h1 : f1.type = fi) (h2 : f2.type = fi) (hfi : P.underlying fi = some (.int .i64))
    (h : DataW.trod enc P w base spare held fuel t [.slice A n cap] = some x) : ∃ l : List Ctx, n = l.length ∧ Reads w w.heap.size 3 A n (cellsC l) ∧ n ≤ maxLen := by
  rcases open_slice ht h with ⟨hc, _⟩ | ⟨a, len, c, m, fu, D, Pl, hc, _, hl, hm, hmm, _, hi⟩
  · injection hc with hc _
    injection hc with hA hn _
    subst hn
    exact ⟨[], rfl, ⟨rfl, fun h => absurd h (by omega)⟩, by simp [maxLen]⟩
  · injection hc with hc _
    injection hc with hA hn hcap
    subst hA hn
    have hlm : n ≤ m := by rw [hmm]; split <;> omega
    rw [hC] at hi
    have key : ∀ i, i < n → ∃ d : Ctx, ∀ j, j < 3 → w.cell? (a.add (i * 3 + j)) = (cells3 d)[j]? := by
      intro i hin
      obtain ⟨cs, hcs, htr⟩ := hi i (by omega)
      obtain ⟨xs, k, _, _, hlen, hxs, hf⟩ := DataW.trod_struct he htr
      obtain ⟨_, hcl, hat⟩ := World.cells?_some hcs
      obtain ⟨o0, k0⟩ := hone_of hone 0 f0 rfl
      obtain ⟨o1, k1⟩ := hone_of hone 1 f1 rfl
      obtain ⟨o2, k2⟩ := hone_of hone 2 f2 rfl
      match cs, hcl with
      | [c0, c1, c2], _ =>
        match xs, hxs with
        | [y0, y1, y2], _ =>
          have g0 := hf 0 f0 rfl
          have g1 := hf 1 f1 rfl
          have g2 := hf 2 f2 rfl
          rw [o0, k0, h0] at g0
          rw [o1, k1, h1] at g1
          rw [o2, k2, h2] at g2
          obtain ⟨z0, e0, _, _⟩ := DataW.trod_int hfi g0
          obtain ⟨z1, e1, _, _⟩ := DataW.trod_int hfi g1
          obtain ⟨z2, e2, _, _⟩ := DataW.trod_int hfi g2
          simp at e0 e1 e2
          subst e0 e1 e2
          refine ⟨⟨z0, z1, z2⟩, fun j hj => ?_⟩
          rw [← add_add_]
          exact hat j hj
    obtain ⟨l, hll, hcells⟩ := list_of n key
    have hall : ∀ j u, (cellsC l)[j]? = some u → w.cell? (a.add j) = some u := by
      intro j u hu
      have hj : j < l.length * 3 := by rw [← length_cellsC]; exact (List.getElem?_eq_some_iff.1 hu).1
      obtain ⟨q, r, hr, rfl⟩ : ∃ q r, r < 3 ∧ j = q * 3 + r := ⟨j / 3, j % 3, Nat.mod_lt _ (by decide), by omega⟩
      have hq : q < l.length := by omega
      have hqe : l[q]? = some l[q] := List.getElem?_eq_getElem hq
      have hc := hcells q _ hqe r hr
      obtain ⟨g1, g2, g3⟩ := cellsC_at l q _ hqe
      rw [hc]
      match r, hr with
      | 0, _ => rw [← hu]; exact g1.symm
      | 1, _ => rw [← hu]; exact g2.symm
      | 2, _ => rw [← hu]; exact g3.symm
    refine ⟨l, hll.symm, ⟨by rw [length_cellsC, hll], fun hn => ?_⟩, by omega⟩
    obtain ⟨b, off, rfl, hb, hc⟩ := plain_addr (a := a) (f := fun j => (cellsC l).getD j undef) (n := l.length * 3) (by omega) (fun j hj => by
      have hj2 : j < (cellsC l).length := by rw [length_cellsC]; exact hj
      rw [List.getD_eq_getElem?_getD, List.getElem?_eq_getElem hj2]
      exact hall j _ (List.getElem?_eq_getElem hj2))
    refine ⟨b, off, rfl, hb, fun j u hu => ?_⟩
    have hj : j < l.length * 3 := by rw [← length_cellsC]; exact (List.getElem?_eq_some_iff.1 hu).1
    rw [hc j hj, List.getD_eq_getElem?_getD, hu]; rfl
/-- A struct of three numbers, by value. -/
theorem open_ctx {r : Reach} {b0 : Nat} {t : TypeId} {f0 f1 f2 : Field} {fi : TypeId} {v : Value} {d : DataW H} {p : List MemPlace} (hs : P.underlying t = some (.struct #[f0, f1, f2])) (hone : oneCellFields P #[f0, f1, f2] = true) (hC : P.cellsOf t = 3)
    (h0 : f0.type = fi) (h1 : f1.type = fi) (h2 : f2.type = fi) (hfi : P.underlying fi = some (.int .i64)) (hv : Value.okWide P w r b0 t v) (h : DataW.Trod enc P w base spare held t v d p) :
    ∃ c : Ctx, v = .agg #[.int .i64 c.id, .int .i64 c.kind, .int .i64 c.area] := by
  obtain ⟨v0, v1, v2, y0, y1, y2, n, rfl, _, _, g0, g1, g2⟩ := Go.Joins.open_agg3 hs hone hC hv h
  rw [h0] at g0
  rw [h1] at g1
  rw [h2] at g2
  obtain ⟨z0, e0, _, _⟩ := DataW.trod_int hfi g0
  obtain ⟨z1, e1, _, _⟩ := DataW.trod_int hfi g1
  obtain ⟨z2, e2, _, _⟩ := DataW.trod_int hfi g2
  simp at e0 e1 e2
  subst e0 e1 e2
  exact ⟨⟨z0, z1, z2⟩, rfl⟩
/-- A slice of bytes. -/
theorem open_bytes {t e : TypeId} {fuel : Nat} {A : Option Addr} {n cap : Nat} {x : DataW H × List MemPlace} (ht : P.underlying t = some (.slice e)) (he : P.underlying e = some (.int .u8)) (hC : P.cellsOf e = 1)
    (h : DataW.trod enc P w base spare held fuel t [.slice A n cap] = some x) : ∃ z : List Int, n = z.length ∧ n ≤ cap ∧ Reads w w.heap.size 1 A n (cellsB z) ∧ (∀ b ∈ z, 0 ≤ b ∧ b ≤ 255) ∧ cap ≤ maxLen := by
  rcases open_slice1 ht hC h with ⟨hc, _⟩ | ⟨a, len, c, m, fu, V, D, Pl, hc, _, hl, hm, hmm, _, hi⟩
  · injection hc with hc _
    injection hc with hA hn hcap
    subst hn hcap
    exact ⟨[], rfl, Nat.le_refl _, ⟨rfl, fun h => absurd h (by omega)⟩, fun b hb => by simp at hb, by simp [maxLen]⟩
  · injection hc with hc _
    injection hc with hA hn hcap
    subst hA hn hcap
    have hlm : n ≤ m := by rw [hmm]; split <;> omega
    obtain ⟨z, hz, hcell⟩ := list_of (p := fun i (y : Int) => w.cell? (a.add i) = some (.int .u8 y) ∧ 0 ≤ y ∧ y ≤ 255) n (fun i hin => by
      obtain ⟨hc, htr⟩ := hi i (by omega)
      obtain ⟨y, e1, _, hw⟩ := DataW.trod_int he htr
      simp at e1
      rw [e1] at hc
      exact ⟨y, hc, bounds_u8 hw⟩)
    refine ⟨z, hz.symm, hl, ⟨by simp [cellsB, hz], fun hn => ?_⟩, fun b hb => ?_, hm⟩
    · obtain ⟨b, off, rfl, hb, hc⟩ := plain_addr (a := a) (f := fun j => Value.int .u8 (z.getD j 0)) (n := n) hn (fun j hj => by
        have hj2 : j < z.length := by omega
        have := (hcell j _ (List.getElem?_eq_getElem hj2)).1
        rw [List.getD_eq_getElem?_getD, List.getElem?_eq_getElem hj2]
        exact this)
      refine ⟨b, off, rfl, hb, fun j u hu => ?_⟩
      simp only [cellsB, List.getElem?_map, Option.map_eq_some_iff] at hu
      obtain ⟨y, hy, rfl⟩ := hu
      have hj : j < z.length := (List.getElem?_eq_some_iff.1 hy).1
      rw [hc j (by omega), List.getD_eq_getElem?_getD, hy]; rfl
    · obtain ⟨i, hib⟩ := List.mem_iff_getElem?.1 hb
      exact (hcell i b hib).2
/-- A slice of numbers. -/
theorem open_ints {t e : TypeId} {fuel : Nat} {A : Option Addr} {n cap : Nat} {x : DataW H × List MemPlace} (ht : P.underlying t = some (.slice e)) (he : P.underlying e = some (.int .i64)) (hC : P.cellsOf e = 1)
    (h : DataW.trod enc P w base spare held fuel t [.slice A n cap] = some x) : ∃ l : List Int, n = l.length ∧ Reads w w.heap.size 1 A n (cellsI l) ∧ n ≤ maxLen := by
  rcases open_slice1 ht hC h with ⟨hc, _⟩ | ⟨a, len, c, m, fu, V, D, Pl, hc, _, hl, hm, hmm, _, hi⟩
  · injection hc with hc _
    injection hc with hA hn hcap
    subst hn hcap
    exact ⟨[], rfl, ⟨rfl, fun h => absurd h (by omega)⟩, by simp [maxLen]⟩
  · injection hc with hc _
    injection hc with hA hn hcap
    subst hA hn hcap
    have hlm : n ≤ m := by rw [hmm]; split <;> omega
    obtain ⟨z, hz, hcell⟩ := list_of (p := fun i (y : Int) => w.cell? (a.add i) = some (.int .i64 y)) n (fun i hin => by
      obtain ⟨hc, htr⟩ := hi i (by omega)
      obtain ⟨y, e1, _, _⟩ := DataW.trod_int he htr
      simp at e1
      rw [e1] at hc
      exact ⟨y, hc⟩)
    refine ⟨z, hz.symm, ⟨by simp [cellsI, hz], fun hn => ?_⟩, by omega⟩
    obtain ⟨b, off, rfl, hb, hc⟩ := plain_addr (a := a) (f := fun j => Value.int .i64 (z.getD j 0)) (n := n) hn (fun j hj => by
      have hj2 : j < z.length := by omega
      have := hcell j _ (List.getElem?_eq_getElem hj2)
      rw [List.getD_eq_getElem?_getD, List.getElem?_eq_getElem hj2]
      exact this)
    refine ⟨b, off, rfl, hb, fun j u hu => ?_⟩
    simp only [cellsI, List.getElem?_map, Option.map_eq_some_iff] at hu
    obtain ⟨y, hy, rfl⟩ := hu
    have hj : j < z.length := (List.getElem?_eq_some_iff.1 hy).1
    rw [hc j (by omega), List.getD_eq_getElem?_getD, hy]; rfl
end
end Go.Proofs.Ytfkfjkhikgnnaaa
