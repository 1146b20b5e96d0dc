/- The library's calls that the program's reading of relations makes. -/
import Derived.Test.YtbbjdpmffokcfaaDoorTm
import Derived.Test.YtbbjdpmffokcfaaDoorShelf
import Derived.Lib.AtoiTie
import Derived.Lib.AtoiAllCases
import Derived.Lib.SmallJoins
namespace Go.Proofs.YtbbjdpmffokcfaaDoor
open Go.RowKit

/-- What the package variables that the library reads hold. -/
structure Glob (w : World) : Prop where
  lt : 2 < w.heap.size
  len : ∃ m, w.cell? ⟨Tryd.lays146_ren.g 1, 0, none⟩ = some (.int .i64 m)
  rng : ∃ t p, w.cell? ⟨Tryd.laysC172_ren.g 16, 0, none⟩ = some (.iface t p)
  syn : ∃ t p, w.cell? ⟨Tryd.laysC172_ren.g 15, 0, none⟩ = some (.iface t p)
theorem Glob.step {w w2 : World} (h : Glob w) (hb : Below w.heap.size w w2) : Glob w2 := by
  obtain ⟨h1, ⟨m, h2⟩, ⟨t, p, h3⟩, ⟨t2, p2, h4⟩⟩ := h
  have hk : ∀ g : Nat, g ≤ 2 → w2.cell? ⟨g, 0, none⟩ = w.cell? ⟨g, 0, none⟩ := fun g hg => hb.cell (p := ⟨g, 0, none⟩) (by show g < _; omega)
  exact ⟨Nat.lt_of_lt_of_le h1 hb.size, ⟨m, (hk _ (by decide)).trans h2⟩, ⟨t, p, (hk _ (by decide)).trans h3⟩, ⟨t2, p2, (hk _ (by decide)).trans h4⟩⟩

/-- Atoi ended well, or with an error. -/
def AtoiEnd (s : List UInt8) (e : Ending) : Prop :=
  (∃ v, Lib.atoiAll s = .ok v ∧ e = .returned (.tuple #[.int .i64 v, .nilIface])) ∨ ((∀ v, Lib.atoiAll s ≠ .ok v) ∧ ∃ v t p, e = .returned (.tuple #[.int .i64 v, .iface t p]))
theorem atoi_any (s : List UInt8) (hl : s.length ≤ 2000000) (w : World) (hG : Glob w) :
    Calls Tryd.prog 44 #[.string (txt s)] w fun e w2 => AtoiEnd s e ∧ Below w.heap.size w w2 := by
  have hsz : (txt s).size ≤ 2000000 := by rw [txt_size]; exact hl
  cases h : Lib.atoiAll s
  · rename_i v
    refine (Tryd.strconv_Atoi_ok (txt s) (by omega) v h w).mono ?_
    rintro e w2 ⟨he, hw⟩
    refine ⟨Or.inl ⟨v, h, he⟩, ?_⟩
    rcases hw with rfl | ⟨t, rfl⟩
    · exact Below.refl _ _
    · exact Go.Joins.below_bytesWorld _ _ _ _ (Nat.le_refl _)
  · obtain ⟨t, p, hv⟩ := hG.syn
    refine (Any.strconv_Atoi_syntax Tryd.laysC172 (txt s) (by omega) h (.iface t p) w hv (Or.inr ⟨t, p, rfl⟩)).mono ?_
    rintro e w2 ⟨N, he, _, _, hb⟩
    exact ⟨Or.inr ⟨fun v h2 => by (rw [h] at h2; cases h2), _, _, _, he⟩, hb⟩
  · obtain ⟨t, p, hv⟩ := hG.rng
    refine (Any.strconv_Atoi_range Tryd.laysC172 (txt s) (by omega) h (.iface t p) w hv (Or.inr ⟨t, p, rfl⟩)).mono ?_
    rintro e w2 ⟨N, he, _, _, hb⟩
    exact ⟨Or.inr ⟨fun v h2 => by (rw [h] at h2; cases h2), _, _, _, he⟩, hb⟩
theorem uint_step {acc d : Nat} {r : List UInt8} (h : d < 10) (ha : acc < 100) : Lib.parseUint10 acc (dig d :: r) = Lib.parseUint10 (acc * 10 + d) r := by
  have e := dig_nat h
  rw [Lib.parseUint10, if_pos (by omega), if_neg (by omega), if_neg (by omega), e, show 48 + d - 48 = d from by omega]
theorem atoi_of {d u : Nat} {r : List UInt8} (h : d < 10) (hu : u < 100) (hp : Lib.parseUint10 0 (dig d :: r) = .ok u) : Lib.atoiAll (dig d :: r) = .ok (u : Int) := by
  have e := dig_nat h
  have hm : Lib.parseMag (dig d :: r) = .ok u := by rw [Lib.parseMag, if_neg (by simp), hp]
  have n1 : ¬ ((dig d).toNat = 43 ∨ (dig d).toNat = 45) := by omega
  have n2 : ¬ (dig d).toNat = 45 := by omega
  simp only [Lib.atoiAll, if_neg n1, hm]
  rw [if_neg (by omega), if_neg (fun x => n2 x.1), if_neg n2]
theorem atoi_dec {n : Int} (h0 : 1 ≤ n) (h1 : n ≤ 99) : Lib.atoiAll (dec n) = .ok n := by
  obtain ⟨m, rfl⟩ : ∃ m : Nat, n = (m : Int) := ⟨n.toNat, by omega⟩
  by_cases h : m < 10
  · rw [dec_one h]
    exact atoi_of h (by omega) (by rw [uint_step h (by omega), Lib.parseUint10, Nat.zero_mul, Nat.zero_add])
  · rw [dec_two h (by omega)]
    exact atoi_of (by omega) (by omega) (by rw [uint_step (by omega) (by omega), uint_step (by omega) (by omega), Lib.parseUint10, Nat.zero_mul, Nat.zero_add, show m / 10 * 10 + m % 10 = m from by omega])
theorem infoSet : (Tryd.prog.info? (Tryd.lays153_ren.t 116)).map (fun i => (i.zero, i.size)) = some (some (.agg (Array.replicate 256 (.bool false))), 256) := by kernel_rfl
theorem idx_any (s : List UInt8) (hl : s.length ≤ 2000000) (ha : ∀ b ∈ s, b.toNat < 128) (w : World) :
    Calls Tryd.prog 43 #[.string (txt s), .string ⟨#[62, 61]⟩] w fun e w2 => e = .returned (.int .i64 (Lib.indexAny s [62, 61])) ∧ Below w.heap.size w w2 :=
  Any.strings_IndexAny_laid Tryd.lays153 infoSet (txt s) ⟨#[62, 61]⟩ w (by rw [txt_size]; omega) (by decide) (fun _ b hb => ha b (List.mem_of_getElem? hb)) (fun j b hb => by
    have hm : b ∈ [(62 : UInt8), 61] := List.mem_of_getElem? hb
    simp at hm
    rcases hm with rfl | rfl <;> decide)
theorem idx_lt : ∀ (s c : List UInt8), Lib.indexAny s c < s.length
  | [], _ => by simp [Lib.indexAny]
  | b :: l, c => by
    have := idx_lt l c
    have h2 := Lib.indexAny_ge c l
    rw [Lib.indexAny]
    split
    · simp
    · split
      · simp; omega
      · simp; omega
theorem idx_rel {x y : List UInt8} {a : UInt8} (hx : ∀ c ∈ x, isD c = true) (ha : a = 62 ∨ a = 61) : Lib.indexAny (x ++ a :: y) [62, 61] = x.length := by
  refine Lib.indexAny_hit (x := a) (fun j b hj hb => ?_) (by simp) (by rcases ha with rfl | rfl <;> decide)
  rw [List.getElem?_append_left hj] at hb
  have := isD_ne (hx b (List.mem_of_getElem? hb))
  simp [this.2.1, this.2.2.1]
theorem cut_count (a : UInt8) : ∀ (n : Nat) (s : List UInt8), s.length ≤ n → (cutL a s).length = Lib.count s [a] + 1 := by
  intro n
  induction n with
  | zero =>
    intro s hn
    obtain rfl : s = [] := List.eq_nil_of_length_eq_zero (by omega)
    have hi : Lib.index [] [a] = -1 := rfl
    rw [Lib.count_miss hi]
    rfl
  | succ n ih =>
    intro s hn
    by_cases hx : a ∈ s
    · obtain ⟨x, y, rfl, hxn⟩ := first_hit hx
      have hi : Lib.index (x ++ a :: y) [a] = x.length := by
        refine Lib.index_first (by simp) (by rw [occ_one]; simp) (fun j hj => ?_)
        rw [occ_one]
        have : (x ++ a :: y)[j]? = some x[j] := by rw [List.getElem?_append_left hj, List.getElem?_eq_getElem hj]
        rw [this]
        simp [hxn _ (List.getElem_mem hj)]
      have hcnt := Lib.count_hit (s := x ++ a :: y) (sub := [a]) (by simp) hi
      have hdrop : (x ++ a :: y).drop (x.length + [a].length) = y := by
        rw [show x.length + [a].length = x.length + 1 from rfl, List.drop_append, List.drop_of_length_le (by omega)]
        simp
      rw [hdrop] at hcnt
      rw [hcnt, cutL_hit hxn, List.length_cons, ih y (by simp at hn; omega)]
      omega
    · have hi : Lib.index s [a] = -1 := by
        refine Lib.index_none fun j hj => ?_
        rw [occ_one, decide_eq_false_iff_not]
        exact fun e => hx (List.mem_of_getElem? e)
      rw [Lib.count_miss hi, cutL_none (fun c hc e => hx (by rw [← e]; exact hc))]
      rfl
theorem split_any (t : List UInt8) (hl : t.length ≤ 2000000) (w : World) (hG : Glob w) :
    Calls Tryd.prog 28 #[.string (txt t), .string ⟨#[32]⟩] w fun e w2 => e = .returned (.slice (some ⟨w.heap.size, 0, none⟩) (cutL 32 t).length (cutL 32 t).length) ∧ w2 = w.alloc (.cells ((cutL 32 t).map strV).toArray 9) := by
  obtain ⟨m, hm⟩ := hG.len
  refine (Tryd.strings_Split (txt t) ⟨#[32]⟩ m w (by rw [txt_size]; omega) hm (by decide)).mono ?_
  rintro e w2 ⟨he, hw⟩
  have hb := Lib.splitB_data ⟨#[32]⟩ 0 (Lib.countB (txt t) ⟨#[32]⟩) (txt t)
  have h0 : Lib.splitK [32] 0 (Lib.count t [32]) t = cutL 32 t := splitK_cut 32 t.length t (Nat.le_refl _)
  have hb2 : (Lib.splitB ⟨#[32]⟩ 0 (Lib.countB (txt t) ⟨#[32]⟩) (txt t)).map (·.data.toList) = cutL 32 t := hb.trans h0
  have hs : (Lib.splitB ⟨#[32]⟩ 0 (Lib.countB (txt t) ⟨#[32]⟩) (txt t)).map Value.string = (cutL 32 t).map strV := by
    rw [← hb2, List.map_map]
    rfl
  have hc : Lib.countB (txt t) ⟨#[32]⟩ + 1 = (cutL 32 t).length := by
    rw [cut_count 32 t.length t (Nat.le_refl _)]
    rfl
  rw [hs] at hw
  rw [hc] at he
  exact ⟨he, hw⟩
end Go.Proofs.YtbbjdpmffokcfaaDoor
