/- A text of relations read back is the relations; a list read from a text writes the text. -/
import Derived.Test.YtbbjdpmffokcfaaDoorTs
import Derived.Test.YtbbjdpmffokcfaaDoorSr
namespace Go.Proofs.YtbbjdpmffokcfaaDoor
open Go.RowKit

theorem dig_isD {d : Nat} (h : d < 10) : isD (dig d) = true := isD_of (by rw [dig_nat h]; omega) (by rw [dig_nat h]; omega)
theorem dec_isD {n : Int} (h0 : 0 ≤ n) (h1 : n < 100) : ∀ c ∈ dec n, isD c = true := by
  obtain ⟨m, rfl⟩ : ∃ m : Nat, n = (m : Int) := ⟨n.toNat, by omega⟩
  intro c hc
  by_cases h : m < 10
  · rw [dec_one h] at hc; simp at hc; subst hc; exact dig_isD h
  · rw [dec_two h (by omega)] at hc
    simp at hc
    rcases hc with rfl | rfl
    · exact dig_isD (by omega)
    · exact dig_isD (by omega)
theorem isD_ne {c : UInt8} (h : isD c = true) : c ≠ 32 ∧ c ≠ 61 ∧ c ≠ 62 ∧ c.toNat < 128 ∧ c ≠ 43 ∧ c ≠ 45 := by
  simp only [isD, Bool.and_eq_true, decide_eq_true_eq] at h
  refine ⟨?_, ?_, ?_, by omega, ?_, ?_⟩ <;> (intro e; subst e; simp at h)
theorem numF_dec {n : Int} (h0 : 1 ≤ n) (h1 : n ≤ 99) : numF (dec n) = n := by
  obtain ⟨m, rfl⟩ : ∃ m : Nat, n = (m : Int) := ⟨n.toNat, by omega⟩
  by_cases h : m < 10
  · rw [dec_one h]
    unfold numF
    rw [if_pos (by simp [dig_isD h])]
    simp [numV, dig_nat h]
  · rw [dec_two h (by omega)]
    have h10 : m / 10 < 10 := by omega
    have h11 : m % 10 < 10 := by omega
    have hz : dig (m / 10) ≠ 48 := fun e => by
      have := dig_nat h10
      rw [e] at this
      simp at this
      omega
    unfold numF
    rw [if_pos (by simp [dig_isD h10, dig_isD h11, hz])]
    simp only [numV, List.foldl_cons, List.foldl_nil, dig_nat h10, dig_nat h11]
    omega
theorem dig_back {c : UInt8} (h : isD c = true) : dig (c.toNat - 48) = c := by
  simp only [isD, Bool.and_eq_true, decide_eq_true_eq] at h
  apply UInt8.toNat_inj.1
  rw [dig_nat (by omega)]
  omega
theorem dec_num {x : List UInt8} (h : 0 ≤ numF x) : dec (numF x) = x := by
  unfold numF at h ⊢
  split at h
  · rename_i hc
    rw [if_pos hc]
    simp only [Bool.and_eq_true, decide_eq_true_eq, Bool.not_eq_true', Bool.and_eq_false_iff, decide_eq_false_iff_not, List.all_eq_true] at hc
    obtain ⟨⟨h1, h2⟩, h3, h4⟩ := hc
    match x, h1, h2, h3, h4 with
    | [a], _, _, _, h4 =>
      have ha := h4 a (by simp)
      have hb := ha
      simp only [isD, Bool.and_eq_true, decide_eq_true_eq] at hb
      simp only [numV, List.foldl_cons, List.foldl_nil, Nat.mul_zero, Nat.zero_add]
      rw [dec_one (by omega), dig_back ha]
    | [a, b], _, _, h3, h4 =>
      have ha := h4 a (by simp)
      have hb := h4 b (by simp)
      have ha2 := ha
      have hb2 := hb
      simp only [isD, Bool.and_eq_true, decide_eq_true_eq] at ha2 hb2
      have hz : a.toNat ≠ 48 := fun e => by
        rcases h3 with h3 | h3
        · simp at h3
        · exact h3 (by simp; exact UInt8.toNat_inj.1 e)
      simp only [numV, List.foldl_cons, List.foldl_nil, Nat.mul_zero, Nat.zero_add]
      rw [dec_two (by omega) (by omega), show (10 * (a.toNat - 48) + (b.toNat - 48)) / 10 = a.toNat - 48 from by omega, show (10 * (a.toNat - 48) + (b.toNat - 48)) % 10 = b.toNat - 48 from by omega, dig_back ha, dig_back hb]
  · omega
theorem relT_1 {r : Ctx} (h : r.area = 1) : relT r = dec r.id ++ 62 :: dec r.kind := by unfold relT sgn; rw [if_neg (by omega), List.append_assoc]; rfl
theorem relT_2 {r : Ctx} (h : r.area = 2) : relT r = dec r.id ++ 61 :: dec r.kind := by unfold relT sgn; rw [if_pos h, List.append_assoc]; rfl
theorem relT_byte {r : Ctx} (h : okR r = true) : ∀ c ∈ relT r, c ≠ 32 ∧ c.toNat < 128 := by
  have hp := okR_parts h
  intro c hc
  unfold relT at hc
  rw [List.mem_append, List.mem_append] at hc
  rcases hc with (hc | hc) | hc
  · have := isD_ne (dec_isD (by omega) (by omega) c hc); exact ⟨this.1, this.2.2.2.1⟩
  · unfold sgn at hc
    split at hc <;> (simp at hc; subst hc; decide)
  · have := isD_ne (dec_isD (by omega) (by omega) c hc); exact ⟨this.1, this.2.2.2.1⟩
theorem two_hit {a : UInt8} {x y : List UInt8} (hx : ∀ c ∈ x, c ≠ a) (hy : ∀ c ∈ y, c ≠ a) : two a (x ++ a :: y) = some (x, y) := by
  unfold two
  rw [cutL_hit hx, cutL_none hy]
theorem word_rel {r : Ctx} (h : okR r = true) : wordF (relT r) = r := by
  have hp := okR_parts h
  have hx := fun c hc => isD_ne (dec_isD (n := r.id) (by omega) (by omega) c hc)
  have hy := fun c hc => isD_ne (dec_isD (n := r.kind) (by omega) (by omega) c hc)
  rcases hp.2.2.2.2.2 with h1 | ⟨h2, _⟩
  · rw [relT_1 h1]
    unfold wordF
    rw [two_hit (fun c hc => (hx c hc).2.2.1) (fun c hc => (hy c hc).2.2.1)]
    exact Ctx.ext_ (numF_dec (by omega) (by omega)) (numF_dec (by omega) (by omega)) h1.symm
  · rw [relT_2 h2]
    unfold wordF
    have hno : two 62 (dec r.id ++ 61 :: dec r.kind) = none := two_none (by
      rw [cutL_none]
      · simp
      · intro c hc
        rw [List.mem_append, List.mem_cons] at hc
        rcases hc with hc | rfl | hc
        · exact (hx c hc).2.2.1
        · decide
        · exact (hy c hc).2.2.1)
    rw [hno, two_hit (fun c hc => (hx c hc).2.1) (fun c hc => (hy c hc).2.1)]
    exact Ctx.ext_ (numF_dec (by omega) (by omega)) (numF_dec (by omega) (by omega)) h2.symm
theorem two_back {a : UInt8} {t x y : List UInt8} (h : two a t = some (x, y)) : t = x ++ a :: y := by
  unfold two at h
  split at h
  · rename_i u v hc
    injection h with h
    injection h with h1 h2
    subst h1 h2
    have := cutL_join a t
    rw [hc] at this
    rw [← this]
    simp [Lib.join]
  · cases h
theorem rel_word {w : List UInt8} (h : okR (wordF w) = true) : relT (wordF w) = w := by
  have hp := okR_parts h
  cases h6 : two 62 w with
  | some p =>
    have e : wordF w = ⟨numF p.1, numF p.2, 1⟩ := by unfold wordF; rw [h6]
    rw [e] at hp ⊢
    rw [relT_1 rfl]
    simp only at hp ⊢
    rw [dec_num (by omega), dec_num (by omega)]
    exact (two_back h6).symm
  | none =>
    cases h7 : two 61 w with
    | some p =>
      have e : wordF w = ⟨numF p.1, numF p.2, 2⟩ := by unfold wordF; rw [h6, h7]
      rw [e] at hp ⊢
      rw [relT_2 rfl]
      simp only at hp ⊢
      rw [dec_num (by omega), dec_num (by omega)]
      exact (two_back h7).symm
    | none =>
      have e : wordF w = ⟨0, 0, 0⟩ := by unfold wordF; rw [h6, h7]
      rw [e] at hp
      simp at hp
theorem cut_joinR {l : List Ctx} (hn : l ≠ []) (hok : ∀ c ∈ l, okR c = true) : cutL 32 (joinR l) = l.map relT := by
  unfold joinR
  refine cutL_of_join (by simpa using hn) ?_
  intro w hw c hc
  obtain ⟨r, hr, rfl⟩ := List.mem_map.1 hw
  exact (relT_byte (hok r hr) c hc).1
theorem relT_ne {r : Ctx} (_ : okR r = true) : relT r ≠ [] := by
  unfold relT sgn
  split <;> simp
theorem joinR_ne {l : List Ctx} (hn : l ≠ []) (hok : ∀ c ∈ l, okR c = true) : joinR l ≠ [] := fun e => by
  have h := cut_joinR hn hok
  rw [e] at h
  cases l with
  | nil => exact hn rfl
  | cons a l =>
    have : cutL 32 [] = [[]] := rfl
    rw [this] at h
    simp only [List.map_cons] at h
    injection h with h1 _
    exact relT_ne (hok a (by simp)) h1.symm
theorem parse_text {l : List Ctx} (hv : validR l = true) : parseL (joinR l) = l := by
  cases l with
  | nil => rfl
  | cons a m =>
    have hok := validO_ok hv
    unfold parseL
    rw [if_neg (joinR_ne (by simp) hok), cut_joinR (by simp) hok, List.map_map]
    conv => rhs; rw [← List.map_id (a :: m)]
    exact List.map_congr_left fun r hr => word_rel (hok r hr)
theorem text_parse {t : List UInt8} (hv : validR (parseL t) = true) : joinR (parseL t) = t := by
  have hok := validO_ok hv
  unfold parseL at hok ⊢
  split
  · rename_i h; subst h; rfl
  · rename_i h
    rw [if_neg h] at hok
    unfold joinR
    rw [List.map_map]
    have : (cutL 32 t).map (relT ∘ wordF) = cutL 32 t := by
      conv => rhs; rw [← List.map_id (cutL 32 t)]
      exact List.map_congr_left fun w hw => rel_word (hok _ (List.mem_map.2 ⟨w, hw, rfl⟩))
    rw [this, cutL_join]
end Go.Proofs.YtbbjdpmffokcfaaDoor
