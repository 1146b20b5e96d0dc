/- Relations as plain data: a relation is three numbers, A, B and the kind. -/
import Derived.Test.YtnkdpogplkomhaaTri
import Derived.Test.YtnkdpogplkomhaaOrd
namespace Go.Proofs.Ytnkdpogplkomhaa
open Go.RowKit

def okR (r : Ctx) : Bool := inR r.id 1 99 && (inR r.kind 1 99 && (decide (r.id ≠ r.kind) && (decide (r.area = 1) || (decide (r.area = 2) && decide (r.id < r.kind)))))
def lessR (a b : Ctx) : Bool := decide (a.id < b.id ∨ (a.id = b.id ∧ (a.kind < b.kind ∨ (a.kind = b.kind ∧ a.area < b.area))))
theorem lessR_tr (a b c : Ctx) (h1 : lessR a b = true) (h2 : lessR b c = true) : lessR a c = true := by
  simp only [lessR, decide_eq_true_eq] at *
  omega
theorem lessR_ir (a : Ctx) : lessR a a = false := by simp [lessR]
theorem lessR_tot (a b : Ctx) (h : a ≠ b) (h1 : lessR a b = false) : lessR b a = true := by
  simp only [lessR, decide_eq_true_eq, decide_eq_false_iff_not] at *
  have : ¬ (a.id = b.id ∧ a.kind = b.kind ∧ a.area = b.area) := fun ⟨e1, e2, e3⟩ => h (Ctx.ext_ e1 e2 e3)
  omega
def validR (l : List Ctx) : Bool := validO okR lessR 30 l
def findR (l : List Ctx) (r : Ctx) : Int := findP (fun c => eqC c r) l
def roomR (l : List Ctx) (r : Ctx) : Bool := decide (findR l r < 0) && decide (l.length < 30)
def addOkR (l : List Ctx) (r : Ctx) : Bool := validR l && (okR r && roomR l r)
def addR (l : List Ctx) (r : Ctx) : List Ctx := if validR l && okR r then (if roomR l r then insO lessR r l else l) else []
def dropOkR (l : List Ctx) (r : Ctx) : Bool := validR l && decide (0 ≤ findR l r)
def dropR (l : List Ctx) (r : Ctx) : List Ctx := if validR l then (if 0 ≤ findR l r then l.take (findR l r).toNat ++ l.drop ((findR l r).toNat + 1) else l) else []
theorem addR_bad {l : List Ctx} {c : Ctx} (h : validR l = false ∨ okR c = false) : addR l c = [] ∧ addOkR l c = false := by
  rcases h with h | h <;> simp [addR, addOkR, h]
theorem addR_full {l : List Ctx} {c : Ctx} (h1 : validR l = true) (h2 : okR c = true) (h : 0 ≤ findR l c ∨ 30 ≤ l.length) : addR l c = l ∧ addOkR l c = false := by
  have : roomR l c = false := by unfold roomR; rw [Bool.and_eq_false_iff]; simp only [decide_eq_false_iff_not]; omega
  simp [addR, addOkR, h1, h2, this]
theorem addR_new {l : List Ctx} {c : Ctx} (h1 : validR l = true) (h2 : okR c = true) (h3 : findR l c < 0) (h4 : l.length < 30) : addR l c = insO lessR c l ∧ addOkR l c = true := by
  have : roomR l c = true := by unfold roomR; simp [h3, h4]
  simp [addR, addOkR, h1, h2, this]
theorem findR_none {l : List Ctx} {r : Ctx} (h : findR l r < 0) : ∀ d ∈ l, d ≠ r := by
  rcases findP_spec (fun c => eqC c r) l with ⟨_, hn⟩ | ⟨k, d, hk, _⟩
  · intro d hd e
    obtain ⟨j, hj⟩ := List.mem_iff_getElem?.1 hd
    have := hn j d hj
    rw [e, eqC_self] at this
    cases this
  · unfold findR at h; omega
theorem addOkR_parts {l : List Ctx} {c : Ctx} (h : addOkR l c = true) : validR l = true ∧ okR c = true ∧ findR l c < 0 ∧ l.length < 30 ∧ addR l c = insO lessR c l := by
  simp only [addOkR, Bool.and_eq_true] at h
  obtain ⟨h1, h2, h3⟩ := h
  simp [roomR] at h3
  exact ⟨h1, h2, h3.1, h3.2, (addR_new h1 h2 h3.1 h3.2).1⟩
theorem addR_valid {l : List Ctx} {c : Ctx} (h : addOkR l c = true) : validR (addR l c) = true := by
  obtain ⟨h1, h2, h3, h4, h5⟩ := addOkR_parts h
  rw [h5]
  have hne := findR_none h3
  refine validO_mk (fun d hd => ?_) (insO_pair lessR_tr c l (pairO lessR_tr h1) fun d hd hf => lessR_tot d c (hne d hd) hf) (by rw [insO_length]; omega)
  rcases (insO_mem c d l).1 hd with rfl | hd
  · exact h2
  · exact validO_ok h1 d hd
theorem addR_len {l : List Ctx} {c : Ctx} (h : addOkR l c = true) : (addR l c).length = l.length + 1 ∧ (addR l c).length ≤ 30 := by
  obtain ⟨h1, h2, h3, h4, h5⟩ := addOkR_parts h
  rw [h5, insO_length]; omega
/-- What was added stands at one place, and without it the list is as before. -/
theorem addR_at {l : List Ctx} {c : Ctx} (h : addOkR l c = true) : ∃ k : Nat, findR (addR l c) c = k ∧ k < (addR l c).length ∧ (addR l c)[k]? = some c ∧ (addR l c).take k ++ (addR l c).drop (k + 1) = l := by
  obtain ⟨h1, h2, h3, h4, h5⟩ := addOkR_parts h
  obtain ⟨k, hk, hka, hkb⟩ := insO_place (lt := lessR) c l
  have hins := insO_at c l k hk hka hkb
  have htk : (l.take k).length = k := by rw [List.length_take]; omega
  refine ⟨k, ?_, ?_, ?_, ?_⟩
  · unfold findR
    rw [h5, hins]
    refine findP_at _ _ k c (fun j d hj hd => ?_) ?_ (eqC_self c)
    · rw [List.getElem?_append_left (by omega), List.getElem?_take, if_pos hj] at hd
      have := hka j d hj hd
      refine eqC_no fun e => ?_
      rw [e, lessR_ir] at this
      cases this
    · rw [List.getElem?_append_right (by omega), htk, Nat.sub_self]; rfl
  · rw [h5, insO_length]; omega
  · rw [h5, hins, List.getElem?_append_right (by omega), htk, Nat.sub_self]; rfl
  · rw [h5, hins, List.take_left' htk, List.drop_append, htk, List.drop_of_length_le (by omega), show k + 1 - k = 1 from by omega]
    simp
theorem addR_drop {l : List Ctx} {c : Ctx} (h : addOkR l c = true) : dropOkR (addR l c) c = true ∧ dropR (addR l c) c = l := by
  obtain ⟨k, hf, hk, _, hcut⟩ := addR_at h
  have hv := addR_valid h
  constructor
  · simp [dropOkR, hv, hf]
  · unfold dropR
    rw [if_pos hv, hf, if_pos (by omega), Int.toNat_natCast, hcut]
theorem addR_twice {l : List Ctx} {c : Ctx} (h : addOkR l c = true) : addOkR (addR l c) c = false ∧ addR (addR l c) c = addR l c := by
  obtain ⟨k, hf, hk, _, _⟩ := addR_at h
  obtain ⟨h1, h2, _⟩ := addOkR_parts h
  have := addR_full (l := addR l c) (c := c) (addR_valid h) h2 (.inl (by rw [hf]; omega))
  exact ⟨this.2, this.1⟩
end Go.Proofs.Ytnkdpogplkomhaa
