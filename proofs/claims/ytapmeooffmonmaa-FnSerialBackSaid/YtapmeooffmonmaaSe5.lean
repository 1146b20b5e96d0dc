/- Rows that are read and kept, some of them the same; an append that leaves the old list as it was. -/
import Derived.Test.YtapmeooffmonmaaSe3
import Derived.Test.YtapmeooffmonmaaDr
namespace Go.Proofs.Ytapmeooffmonmaa
open Go.RowKit

/-- Behind an append the old slice is still what it was. -/
theorem append_keeps {P : Program} {w w2 : World} {base n m c bytes : Nat} {t ty e : TypeId} {i : TypeInfo} {z v v2 : Value} {xs news : List Value} {ad : Addr} (ht : P.underlying t = some (.slice e)) (hi : P.info? e = some i) (hz : i.zero = some z) (hs : i.size = 1) (hby : i.bytes = bytes)
    (hown : w.ownsRow base e 1 v n xs) (hl : news.length = m) (hn : ∀ j u, news[j]? = some u → w.cell? (ad.add j) = some u) (h1 : ∀ u ∈ news, u.oneCell' = true) (h63 : n + m ≤ maxLen) (hb : (n + m) * bytes ≤ 140737488355328)
    (hrun : (Builtin.append_ #[t, t] ty #[v, .slice (some ad) m c]).run P w = .ok v2 w2) : w2.ownsRow base e 1 v n xs := by
  have hsmall : n + m ≤ 9223372036854775807 := by simp only [maxLen] at h63; omega
  subst hby
  rcases hown.2 with ⟨rfl, rfl⟩ | ⟨g, cap, cur, rfl, hbg, hg, hnc, hcm, hcs, htk⟩
  · have hx : xs = [] := List.eq_nil_of_length_eq_zero (by simpa using hown.1)
    subst hx
    exact World.ownsRow_nil _ _ _ _
  · by_cases hroom : n + m ≤ cap
    · have hr := run_append_room (P := P) w t ty e i ht hi g n cap cur hg ad m c news (by rw [hs]; omega) hn h1 hroom (by rw [hs]; omega)
      rw [hr] at hrun
      injection hrun with _ hw
      subst hw
      refine ⟨hown.1, .inr ⟨g, cap, _, rfl, hbg, setRow_heap w g cur _ e _ hg, hnc, hcm, ?_, ?_⟩⟩
      · simp only [List.size_toArray, List.length_append, List.length_take, List.length_drop, Array.length_toList]
        rw [hs]
        omega
      · rw [hs, List.append_assoc, List.take_append_of_le_length (by rw [List.length_take, Array.length_toList]; omega), List.take_take, Nat.min_self]
        exact htk
    · have holds : ∀ j u, xs[j]? = some u → w.cell? ((⟨g, 0, none⟩ : Addr).add j) = some u := hown.cells (g := g) rfl
      have hr := run_append_grow (P := P) w t ty e i z ht hi hz ⟨g, 0, none⟩ n cap xs (by rw [hs]; exact hown.1) holds ad m c news (by rw [hs]; omega) hn (by omega) (by omega) (growslice_fits (by omega) hb)
      rw [hr] at hrun
      injection hrun with _ hw
      subst hw
      exact ⟨hown.1, .inr ⟨g, cap, cur, rfl, hbg, (Below.heap_alloc w.drew _ g (Array.getElem?_eq_some_iff.1 hg).1).trans hg, hnc, hcm, hcs, htk⟩⟩
theorem wpList_append_keeps {P : Program} (w : World) {ops : Array Oper} {rest : List Oper} {o : Oper} {a : Act} {Q : Exit → Act → World → Prop} (hgd : o.guard = none) (s x : Operand) (t : TypeId)
    (ho : o.op = .call { callee := .builtin .append, args := #[s, x], argTypes := #[t, t] })
    (base : Nat) (e : TypeId) (i : TypeInfo) (z : Value) (bytes : Nat) (ht : P.underlying t = some (.slice e)) (hi : P.info? e = some i) (hz : i.zero = some z)
    (hsize : i.size = 1) (hby : i.bytes = bytes) (hzs : z.cells.size = 1)
    (v : Value) (n : Nat) (xs : List Value) (hs : a.eval s = v) (hown : w.ownsRow base e 1 v n xs)
    (B : Nat) (ad : Addr) (m c : Nat) (news : List Value) (hx : a.eval x = .slice (some ad) m c) (hr : Reads w B 1 (some ad) m news) (h1 : ∀ u ∈ news, u.oneCell' = true) (hm : 0 < m)
    (h63 : n + m ≤ maxLen) (hbytes : (n + m) * bytes ≤ 140737488355328) (hbase : base ≤ w.heap.size)
    (h : ∀ v2 w2, w2.ownsRow base e 1 v2 (n + m) (xs ++ news) → w.grownBy w2 v.ownBlock → (v2.ownBlock = v.ownBlock ∨ v2.ownBlock = some w.heap.size) → w2.ownsRow base e 1 v n xs → wpList P ops Q rest (a.put o.dst v2) w2) : wpList P ops Q (o :: rest) a w := by
  refine wpList_plain hgd fun K hK => ?_
  obtain ⟨v2, w2, hrun, h2, h3, h4⟩ := run_append_reads (P := P) w base t o.type e i z 1 bytes ht hi hz hsize hby hzs (by omega) v n xs hown B (some ad) m c news hr h1 h63 hbytes hbase
  have hcells : ∀ j u, news[j]? = some u → w.cell? (ad.add j) = some u := by
    intro j u hu
    obtain ⟨b, off, hA, _, hc⟩ := hr.2 hm
    injection hA with hA
    subst hA
    have := hc j u hu
    unfold Addr.add
    split
    · rename_i h0; subst h0; exact this
    · exact this
  have h5 := append_keeps ht hi hz hsize hby hown (by have := hr.1; omega) hcells h1 h63 hbytes hrun
  unfold Oper.wp execOp
  simp only [ho, resolve, invoke, builtin, Sem.run_bind, Sem.run_pure, Result.andThen_ok, List.map_toArray, List.map_cons, List.map_nil, hs, hx, hrun]
  exact hK _ _ (h v2 w2 h2 h3 h4 h5)
/-- A slice of rows of the call's own, some of them perhaps the same; none shares the slice's own block. -/
structure RowsD (w : World) (base : Nat) (v : Value) (vs : List Value) (T : List (List Bool)) : Prop where
  len : vs.length = T.length
  out : w.ownsRow base 26 1 v T.length vs
  row : ∀ (i : Nat) (r : List Bool), T[i]? = some r → ∃ u, vs[i]? = some u ∧ w.ownsRow base 4 1 u r.length (r.map encB) ∧ ∀ g, u.ownBlock = some g → v.ownBlock ≠ some g
section
variable {w w0 w2 W : World} {base base2 g : Nat} {v v2 : Value} {vs us : List Value} {T R : List (List Bool)}
theorem RowsD.drawn (h : RowsD w w0.heap.size v vs T) (hg : w.grownBy w2 (some g)) (hlt : g < w0.heap.size) : RowsD w2 w0.heap.size v vs T :=
  ⟨h.len, own_drawn h.out hg hlt, fun i r hr => by obtain ⟨u, h1, h2, h3⟩ := h.row i r hr; exact ⟨u, h1, own_drawn h2 hg hlt, h3⟩⟩
theorem RowsD.below (h : RowsD w base v vs T) (hb : Below w.heap.size w w2) : RowsD w2 base v vs T :=
  ⟨h.len, own_below h.out hb, fun i r hr => by obtain ⟨u, h1, h2, h3⟩ := h.row i r hr; exact ⟨u, h1, own_below h2 hb, h3⟩⟩
theorem RowsD.less (h : RowsD w base v vs T) (hb : base2 ≤ base) : RowsD w base2 v vs T :=
  ⟨h.len, own_less h.out hb, fun i r hr => by obtain ⟨u, h1, h2, h3⟩ := h.row i r hr; exact ⟨u, h1, own_less h2 hb, h3⟩⟩
theorem RowsD.nest (h : RowsD w base v vs T) : ∃ A c, v = .slice A T.length c ∧ T.length ≤ c ∧ Nest encB w w.heap.size A T.length T := by
  obtain ⟨A, c, hv, hc, hr⟩ := Reads.of_own h.out
  refine ⟨A, c, hv, hc, rfl, vs, hr, fun i r hr => ?_⟩
  obtain ⟨u, hu, ho, _⟩ := h.row i r hr
  obtain ⟨A2, c2, rfl, hc2, hr2⟩ := Reads.of_own ho
  exact ⟨A2, c2, hu, hc2, hr2⟩
theorem RowsD.nil_ (h : w.ownsRow base 26 1 v 0 []) : RowsD w base v [] [] := ⟨rfl, h, fun i r hr => by simp at hr⟩
theorem RowsD.one (h : RowsD w base v vs T) : ∀ u ∈ vs, u.oneCell' = true := fun u hu => by
  obtain ⟨i, hi, rfl⟩ := List.mem_iff_getElem.1 hu
  have hiT : i < T.length := by rw [← h.len]; exact hi
  obtain ⟨u, h1, h2, _⟩ := h.row i T[i] (List.getElem?_eq_getElem hiT)
  rw [List.getElem?_eq_getElem hi] at h1
  injection h1 with h1
  rw [h1]
  obtain ⟨A, c, rfl, _, _⟩ := Reads.of_own h2
  rfl
/-- Rows are appended that are the call's own. -/
theorem RowsD.join (h : RowsD w base v vs T) (hl : us.length = R.length) (hu : ∀ (i : Nat) (r : List Bool), R[i]? = some r → ∃ u, us[i]? = some u ∧ w.ownsRow base 4 1 u r.length (r.map encB) ∧ ∀ g, u.ownBlock = some g → v.ownBlock ≠ some g)
    (ho : w2.ownsRow base 26 1 v2 (T.length + R.length) (vs ++ us)) (hg : w.grownBy w2 v.ownBlock) (hat : v2.ownBlock = v.ownBlock ∨ v2.ownBlock = some w.heap.size) : RowsD w2 base v2 (vs ++ us) (T ++ R) := by
  have key : ∀ (u : Value) (r : List Bool), w.ownsRow base 4 1 u r.length (r.map encB) → (∀ g, u.ownBlock = some g → v.ownBlock ≠ some g) → w2.ownsRow base 4 1 u r.length (r.map encB) ∧ ∀ g, u.ownBlock = some g → v2.ownBlock ≠ some g := by
    intro u r h1 h2
    refine ⟨own_other h1 h.out h2 hg, fun g hg1 hg2 => ?_⟩
    rcases hat with e | e
    · exact h2 g hg1 (e.symm.trans hg2)
    · rw [e] at hg2
      injection hg2 with hg2
      have := (h1.lt g hg1).2
      omega
  refine ⟨by simp [h.len, hl], by rw [List.length_append]; exact ho, fun i r hr => ?_⟩
  rcases Nat.lt_or_ge i T.length with hi | hi
  · rw [List.getElem?_append_left hi] at hr
    obtain ⟨u, h1, h2, h3⟩ := h.row i r hr
    exact ⟨u, by rw [List.getElem?_append_left (by rw [h.len]; exact hi)]; exact h1, key u r h2 h3⟩
  · rw [List.getElem?_append_right hi] at hr
    obtain ⟨u, h1, h2, h3⟩ := hu _ r hr
    exact ⟨u, by rw [List.getElem?_append_right (by rw [h.len]; exact hi), h.len]; exact h1, key u r h2 h3⟩
/-- A row of the call's own is laid into a place. -/
theorem RowsD.put {go cap n : Nat} {u : Value} {r : List Bool} (h : RowsD w base (.slice (some ⟨go, 0, none⟩) n cap) vs T) (hu : w.ownsRow base 4 1 u r.length (r.map encB)) (hf : ∀ g, u.ownBlock = some g → (Value.slice (some ⟨go, 0, none⟩) n cap).ownBlock ≠ some g) (k : Nat) :
    RowsD (w.setCell ⟨go, k, none⟩ u) base (.slice (some ⟨go, 0, none⟩) n cap) (vs.set k u) (T.set k r) := by
  have hob : (Value.slice (some ⟨go, 0, none⟩) n cap).ownBlock = some go := rfl
  have hn : n = T.length := by
    obtain ⟨A, c, hv, _, _⟩ := h.nest
    injection hv
  subst hn
  refine ⟨by rw [List.length_set, List.length_set]; exact h.len, by rw [List.length_set]; exact (h.out.stored k u).1, fun i r1 hr1 => ?_⟩
  rw [List.getElem?_set] at hr1
  by_cases hk : k = i
  · subst hk
    rw [if_pos rfl] at hr1
    split at hr1
    · rename_i hi
      injection hr1 with hr1
      subst hr1
      exact ⟨u, by rw [List.getElem?_set_self (by rw [h.len]; exact hi)], ownsRow_setCell_other hu (fun e => hf go e hob) _, hf⟩
    · cases hr1
  · rw [if_neg hk] at hr1
    obtain ⟨u1, h1, h2, h3⟩ := h.row i r1 hr1
    exact ⟨u1, by rw [List.getElem?_set_ne hk]; exact h1, ownsRow_setCell_other h2 (fun e => h3 go e hob) _, h3⟩
end
end Go.Proofs.Ytapmeooffmonmaa
