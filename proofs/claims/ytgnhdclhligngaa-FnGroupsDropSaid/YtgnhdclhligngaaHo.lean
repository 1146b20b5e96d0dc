/- The law's small function on heads, and parts of lists of numbers. -/
import Derived.Test.YtgnhdclhligngaaInts
import Derived.Test.YtgnhdclhligngaaGrp
namespace Go.Proofs.Ytgnhdclhligngaa
open Go.RowKit

theorem cellsI_join (l m : List Int) : cellsI (l ++ m) = cellsI l ++ cellsI m := by simp [cellsI]
theorem Reads.headI {w : World} {B n k : Nat} {A : Option Addr} {l : List Int} (h : Reads w B 1 A n (cellsI l)) (hk : k ≤ n) : Reads w B 1 A k (cellsI (l.take k)) := by
  have hl : l.length = n := by have := h.1; rw [length_cellsI] at this; omega
  refine ⟨by rw [length_cellsI, List.length_take]; omega, fun hn => ?_⟩
  obtain ⟨b, off, e, hb, hc⟩ := h.2 (by omega)
  refine ⟨b, off, e, hb, fun j u hu => hc j u ?_⟩
  rw [cellsI, List.map_take, List.getElem?_take] at hu
  split at hu
  · exact hu
  · cases hu
theorem Reads.tailI {w : World} {B n k : Nat} {A A2 : Option Addr} {l : List Int} (h : Reads w B 1 A n (cellsI l)) (hk : k ≤ n) (hA : 0 < n - k → A2 = A.map (·.add k)) : Reads w B 1 A2 (n - k) (cellsI (l.drop k)) := by
  have hl : l.length = n := by have := h.1; rw [length_cellsI] at this; omega
  refine ⟨by rw [length_cellsI, List.length_drop]; omega, fun hn => ?_⟩
  obtain ⟨b, off, e, hb, hc⟩ := h.2 (by omega)
  refine ⟨b, off + k, ?_, hb, fun j u hu => ?_⟩
  · rw [hA hn, e]
    simp only [Option.map, Addr.add]
    split
    · rename_i h0; rw [h0]; rfl
    · rfl
  · rw [Nat.add_assoc]
    refine hc _ u ?_
    rw [cellsI, List.map_drop, List.getElem?_drop] at hu
    exact hu

def headL (ids g : List Int) (id : Int) : Int := if id ∈ ids then labG ids g id else 0
theorem headL_at {ids g : List Int} {id y : Int} {k : Nat} (hm : ∀ (j : Nat) (c : Int), j < k → ids[j]? = some c → c ≠ id) (hc : ids[k]? = some id) (hy : g[k]? = some y) : headL ids g id = y := by
  unfold headL labG placeI
  rw [if_pos (List.mem_of_getElem? hc), findI_at ids id k hm hc, Int.toNat_natCast, hy]
  rfl
theorem headL_none {ids g : List Int} {id : Int} (hm : ∀ (j : Nat) (c : Int), ids[j]? = some c → c ≠ id) : headL ids g id = 0 := by
  unfold headL
  rw [if_neg]
  intro h
  obtain ⟨j, hj⟩ := List.mem_iff_getElem?.1 h
  exact hm j id hj rfl
theorem headOf_any (A B : Option Addr) (ca cb : Nat) (ids g : List Int) (id : Int) (w : World) (ha : Reads w w.heap.size 1 A ids.length (cellsI ids)) (hb : Reads w w.heap.size 1 B g.length (cellsI g)) (hl : ids.length ≤ 1000000000) (he : g.length = ids.length) :
    Calls Try.prog 21 #[.slice A ids.length ca, .slice B g.length cb, .int .i64 id] w fun e w2 => e = .returned (.int .i64 (headL ids g id)) ∧ w = w2 := by
  have hgl : g.length ≤ 1000000000 := by omega
  have HE := Lib.hid he
  clear he
  go_enter Try.func21, Try.ntmps21
  go_wp2_with fail
  go_loop [7] (fun i => ∃ k : Nat, k ≤ ids.length ∧ i = .int .i64 k ∧ ∀ (j : Nat) (c : Int), j < k → ids[j]? = some c → c ≠ id) (fun i => ids.length - (intOf i).toNat)
  case atStart => exact ⟨0, Nat.zero_le _, rfl, fun j c h => absurd h (by omega)⟩
  case round =>
    obtain ⟨k, hk, rfl, hg⟩ := hrel
    have HG := Lib.hid hg; clear hg
    by_cases hlt : k < ids.length
    · have hlg : k < g.length := by rw [HE.out]; exact hlt
      obtain ⟨b, off, hA, hbl, hc⟩ := ha.ints (by omega)
      obtain ⟨b2, off2, hB, hbl2, hc2⟩ := hb.ints (by omega)
      subst hA hB
      obtain ⟨x, hx⟩ : ∃ x, ids[k]? = some x := ⟨_, List.getElem?_eq_getElem hlt⟩
      obtain ⟨y, hy⟩ : ∃ y, g[k]? = some y := ⟨_, List.getElem?_eq_getElem hlg⟩
      have c1 := hc k _ hx
      have c2 := hc2 k _ hy
      have hi1 : (k : Int) < (ids.length : Int) := by omega
      have hi2 : (k : Int) < (g.length : Int) := by omega
      have e1 : decide (k < ids.length) = true := by simp [hlt]
      have e2 : decide (k < g.length) = true := by simp [hlg]
      have HX := Lib.hid (And.intro hx hy)
      clear hc hc2 hx hy ha hb
      by_cases h0 : x = id
      · have e0 : (x == id) = true := by simp [h0]
        have H0 := Lib.hid h0
        clear h0
        go_wp2_with fail
        go_ret
        exact ⟨ret_int (headL_at HG.out (H0.out ▸ HX.out.1) HX.out.2).symm, rfl⟩
      · have e0 : (x == id) = false := by simp [h0]
        have H0 := Lib.hid h0
        clear h0
        go_wp2_with fail
        go_round
        case rel =>
          refine ⟨k + 1, by omega, by go_num, fun j c hj hc => ?_⟩
          by_cases hj2 : j < k
          · exact HG.out j c hj2 hc
          · obtain rfl : j = k := by omega
            rw [HX.out.1] at hc
            injection hc with hc
            exact hc ▸ H0.out
        case measure => simp [intOf]; omega
    · have e1 : decide (k < ids.length) = false := by simp [hlt]
      go_wp2_with fail
      go_ret
      exact ⟨ret_int (headL_none fun j c hc => HG.out j c (by have := (List.getElem?_eq_some_iff.1 hc).1; omega) hc).symm, rfl⟩
end Go.Proofs.Ytgnhdclhligngaa
