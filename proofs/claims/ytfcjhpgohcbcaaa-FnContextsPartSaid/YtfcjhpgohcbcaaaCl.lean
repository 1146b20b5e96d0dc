/- Valid contexts ascend: what the adding of a context keeps. -/
import Derived.Test.YtfcjhpgohcbcaaaDd
namespace Go.Proofs.Ytfcjhpgohcbcaaa
open Go.RowKit

theorem asc_lt {l : List Ctx} (h : validL l = true) : ∀ (n i : Nat) (c d : Ctx), l[i]? = some c → l[i + n + 1]? = some d → c.id < d.id
  | 0, i, c, d, hc, hd => goodAt_lt (validL_good h (i+1)) hd hc
  | n + 1, i, c, d, hc, hd => by
    have hlt : i + n + 1 < l.length := by have := (List.getElem?_eq_some_iff.1 hd).1; omega
    have h1 := asc_lt h n i c _ hc (List.getElem?_eq_getElem hlt)
    have h2 := goodAt_lt (validL_good h (i + n + 1 + 1)) hd (List.getElem?_eq_getElem hlt)
    omega
theorem asc_pair {l : List Ctx} (h : validL l = true) : l.Pairwise (fun c d => c.id < d.id) := by
  rw [List.pairwise_iff_getElem]
  intro i j hi hj hij
  obtain ⟨n, rfl⟩ : ∃ n, j = i + n + 1 := ⟨j - i - 1, by omega⟩
  exact asc_lt h n i _ _ (List.getElem?_eq_getElem hi) (List.getElem?_eq_getElem hj)
theorem valid_mk {l : List Ctx} (h1 : ∀ c ∈ l, okC c = true) (h2 : l.Pairwise (fun c d => c.id < d.id)) (h3 : l.length ≤ 12) : validL l = true := by
  rw [validL_of, decide_eq_true_eq]
  · exact h3
  · intro j hj
    have hc := List.getElem?_eq_getElem hj
    have ho := h1 _ (List.getElem_mem hj)
    rcases Nat.eq_zero_or_pos j with h0 | hp
    · exact goodAt_first h0 hc ho
    · have hj1 : j - 1 < l.length := by omega
      rw [List.pairwise_iff_getElem] at h2
      exact goodAt_next hc (List.getElem?_eq_getElem hj1) ho (h2 (j-1) j hj1 hj (by omega))
theorem valid_ok {l : List Ctx} (h : validL l = true) : ∀ c ∈ l, okC c = true := by
  intro c hc
  obtain ⟨k, hk⟩ := List.mem_iff_getElem?.1 hc
  exact goodAt_ok (validL_good h k) hk
theorem insC_mem (c d : Ctx) (l : List Ctx) : d ∈ insC c l ↔ d = c ∨ d ∈ l := by
  induction l with
  | nil => simp [insC]
  | cons e l ih =>
    unfold insC
    split
    · simp
    · simp only [List.mem_cons, ih]
      exact ⟨fun h => by rcases h with h | h | h <;> simp [h], fun h => by rcases h with h | h | h <;> simp [h]⟩
theorem insC_pair (c : Ctx) (l : List Ctx) (h : l.Pairwise (fun c d => c.id < d.id)) (hne : ∀ d ∈ l, d.id ≠ c.id) : (insC c l).Pairwise (fun c d => c.id < d.id) := by
  induction l with
  | nil => simp [insC]
  | cons e l ih =>
    rw [List.pairwise_cons] at h
    unfold insC
    split
    · rename_i hlt
      rw [List.pairwise_cons]
      refine ⟨fun d hd => ?_, List.pairwise_cons.2 h⟩
      rcases List.mem_cons.1 hd with rfl | hd
      · exact hlt
      · have := h.1 d hd; omega
    · rename_i hlt
      rw [List.pairwise_cons]
      refine ⟨fun d hd => ?_, ih h.2 fun d hd => hne d (List.mem_cons_of_mem _ hd)⟩
      rcases (insC_mem c d l).1 hd with rfl | hd
      · have := hne e List.mem_cons_self; omega
      · exact h.1 d hd
theorem find_none {l : List Ctx} {id : Int} (h : findC l id < 0) : ∀ d ∈ l, d.id ≠ id := by
  rcases findC_spec id l with ⟨_, hn⟩ | ⟨k, d, hk, _⟩
  · intro d hd
    obtain ⟨j, hj⟩ := List.mem_iff_getElem?.1 hd
    exact hn j d hj
  · omega
theorem addOk_parts {l : List Ctx} {c : Ctx} (h : addOk l c = true) : validL l = true ∧ okC c = true ∧ findC l c.id < 0 ∧ l.length < 12 ∧ addL l c = insC c l := by
  simp only [addOk, Bool.and_eq_true] at h
  obtain ⟨h1, h2, h3⟩ := h
  simp [roomC] at h3
  exact ⟨h1, h2, h3.1, h3.2, (addL_new h1 h2 h3.1 h3.2).1⟩
theorem add_valid {l : List Ctx} {c : Ctx} (h : addOk l c = true) : validL (addL l c) = true := by
  obtain ⟨h1, h2, h3, h4, h5⟩ := addOk_parts h
  rw [h5]
  refine valid_mk (fun d hd => ?_) (insC_pair c l (asc_pair h1) (find_none h3)) (by rw [insC_length]; omega)
  rcases (insC_mem c d l).1 hd with rfl | hd
  · exact h2
  · exact valid_ok h1 d hd
theorem place_of (c : Ctx) (l : List Ctx) (hp : l.Pairwise (fun c d => c.id < d.id)) (hne : ∀ d ∈ l, d.id ≠ c.id) : ∃ k : Nat, k ≤ l.length ∧ (∀ (j : Nat) (d : Ctx), j < k → l[j]? = some d → d.id < c.id) ∧ ∀ d, l[k]? = some d → c.id < d.id := by
  induction l with
  | nil => exact ⟨0, by simp, fun j d hj => absurd hj (by omega), fun d hd => by simp at hd⟩
  | cons e l ih =>
    by_cases hlt : c.id < e.id
    · refine ⟨0, by simp, fun j d hj => absurd hj (by omega), fun d hd => ?_⟩
      simp at hd
      exact hd ▸ hlt
    · obtain ⟨k, hk, ha, hb⟩ := ih (List.pairwise_cons.1 hp).2 (fun d hd => hne d (List.mem_cons_of_mem _ hd))
      refine ⟨k + 1, by simp; omega, fun j d hj hd => ?_, fun d hd => hb d (by simpa using hd)⟩
      cases j with
      | zero => simp at hd; subst hd; have := hne e List.mem_cons_self; omega
      | succ j => exact ha j d (by omega) (by simpa using hd)
theorem add_find {l : List Ctx} {c : Ctx} (h : addOk l c = true) : ∃ k : Nat, findL (addL l c) c.id = k ∧ (addL l c)[k]? = some c ∧ k < (addL l c).length ∧ (addL l c).length = l.length + 1 ∧ (addL l c).take k ++ (addL l c).drop (k + 1) = l := by
  have hv := add_valid h
  obtain ⟨h1, h2, h3, h4, h5⟩ := addOk_parts h
  have hne := find_none h3
  have hlen : (addL l c).length = l.length + 1 := by rw [h5, insC_length]
  obtain ⟨k, hk, hka, hkb⟩ := place_of c l (asc_pair h1) hne
  have hins := insC_at c l k hk hka hkb
  have htk : (l.take k).length = k := by rw [List.length_take]; omega
  refine ⟨k, ?_, ?_, by omega, hlen, ?_⟩
  · unfold findL
    rw [hv, if_pos rfl, h5, hins]
    refine findC_at c.id _ k c (fun j d hj hd => ?_) ?_ rfl
    · rw [List.getElem?_append_left (by omega), List.getElem?_take, if_pos hj] at hd
      have := hka j d hj hd
      omega
    · rw [List.getElem?_append_right (by omega), htk, Nat.sub_self]; rfl
  · rw [h5, hins, List.getElem?_append_right (by omega), htk, Nat.sub_self]; rfl
  · rw [h5, hins, List.take_left' htk, List.drop_append, htk, List.drop_of_length_le (by omega), show k + 1 - k = 1 from by omega]
    simp
theorem validL_one (c : Ctx) : validL [c] = okC c := by
  cases h : okC c <;> simp [validL, goodAt, h, List.range_succ]
theorem Aft.step {w W W2 : World} {c : Ctx} (h : Aft w c W) (k : Below W.heap.size W W2) : Aft w c W2 := below_step h k
theorem Aft.list {w W : World} {c : Ctx} {A : Option Addr} {n : Nat} {xs : List Value} (h : Aft w c W) (hr : Reads w w.heap.size 3 A n xs) : Reads W W.heap.size 3 A n xs := hr.step h.below

section
variable {P : Program} (w : World)
/-- An append in a region that draws its order, under a guard that holds. -/
theorem step_append_want {ops : Array Oper} {o : Oper} {a : Act} {K : Act → World → Prop} {Q : Exit → Act → World → Prop} {E : Prop} (hw : Region.wanted o (yielded ops a.tmps) = true) (s x : Operand) (t : TypeId)
    (ho : o.op = .call { callee := .builtin .append, args := #[s, x], argTypes := #[t, t] })
    (base : Nat) (e : TypeId) (i : TypeInfo) (z : Value) (size bytes : Nat) (ht : P.underlying t = some (.slice e)) (hi : P.info? e = some i) (hz : i.zero = some z)
    (hsize : i.size = size) (hby : i.bytes = bytes) (hzs : z.cells.size = size) (hsz : 0 < size)
    (v : Value) (n : Nat) (xs : List Value) (hs : a.eval s = v) (hown : w.ownsRow base e size v n xs)
    (B : Nat) (A : Option Addr) (m c : Nat) (news : List Value) (hx : a.eval x = .slice A m c) (hr : Reads w B size A m news) (h1 : ∀ u ∈ news, u.oneCell' = true)
    (h63 : n + m ≤ maxLen) (hbytes : (n + m) * bytes ≤ 140737488355328) (hbase : base ≤ w.heap.size)
    (h : ∀ v2 w2, w2.ownsRow base e size v2 (n + m) (xs ++ news) → w.grownBy w2 v.ownBlock → (v2.ownBlock = v.ownBlock ∨ v2.ownBlock = some w.heap.size) → K (a.put o.dst v2) w2) :
    if Region.wanted o (yielded ops a.tmps) = true then Oper.wp P o a w K Q else E := by
  rw [if_pos hw]
  obtain ⟨v2, w2, hrun, h2, h3, h4⟩ := run_append_reads (P := P) w base t o.type e i z size bytes ht hi hz hsize hby hzs hsz v n xs hown B A m c news hr h1 h63 hbytes hbase
  unfold Oper.wp execOp
  simp only [ho, resolve, invoke, builtin, Sem.run_bind, Sem.run_pure, Result.andThen_ok, List.map_toArray, List.map_cons, List.map_nil, hs, hx, hrun]
  exact h v2 w2 h2 h3 h4
end
end Go.Proofs.Ytfcjhpgohcbcaaa
