/- Marks laid into tables of numbers, and read again. (written by gen_tabi.py) -/
import Derived.Test.YtopdmcnbchpihaaVv
import Derived.Test.YtopdmcnbchpihaaMi
import Derived.Test.YtopdmcnbchpihaaTab
namespace Go.Proofs.Ytopdmcnbchpihaa
open Go.RowKit

def mkRowI (m : Int) (n : Nat) : List Int := (List.range n).map fun (i : Nat) => m + (i : Int)
theorem mkRowI_len (m : Int) (n : Nat) : (mkRowI m n).length = n := by simp [mkRowI]
theorem mkRowI_at {m : Int} {n i : Nat} (hi : i < n) : (mkRowI m n)[i]? = some (m + (i : Int)) := by simp [mkRowI, hi]
def sumLI (L : List (List Int)) (k : Nat) : Nat := ((L.take k).map List.length).sum
theorem sumLI_next {L : List (List Int)} {k : Nat} {r : List Int} (hr : L[k]? = some r) : sumLI L (k + 1) = sumLI L k + r.length := by
  unfold sumLI
  rw [List.take_add_one, hr]
  simp
theorem sumLI_le {L : List (List Int)} (h : ∀ r ∈ L, r.length ≤ 1000) (k : Nat) : sumLI L k ≤ 1000 * k := by
  induction k with
  | zero => simp [sumLI]
  | succ k ih =>
    cases hr : L[k]? with
    | none =>
      have e : sumLI L (k + 1) = sumLI L k := by
        unfold sumLI
        rw [List.take_add_one, hr]
        simp
      omega
    | some r =>
      rw [sumLI_next hr]
      have := h r (List.mem_of_getElem? hr)
      omega
def mkTabI (m : Int) (L : List (List Int)) : List (List Int) := (List.range L.length).map fun k => mkRowI (m + (sumLI L k : Int)) (L[k]?.getD []).length
theorem mkTabI_len (m : Int) (L : List (List Int)) : (mkTabI m L).length = L.length := by simp [mkTabI]
theorem mkTabI_at {m : Int} {L : List (List Int)} {k : Nat} {r : List Int} (hr : L[k]? = some r) : (mkTabI m L)[k]? = some (mkRowI (m + (sumLI L k : Int)) r.length) := by
  obtain ⟨hk, e⟩ := List.getElem?_eq_some_iff.1 hr
  simp [mkTabI, hk, e]
theorem OwnV.swapI {α : Type} {enc : α → Value} {w w2 : World} {base : Nat} {e1 e2 : TypeId} {v u : Value} {vs : List Value} {L : List (List α)} {k : Nat} {r s : List α} (h : OwnV enc w base e1 e2 v vs L) (hu : vs[k]? = some u) (hr : L[k]? = some r)
    (ho : w2.ownsRow base e1 1 u s.length (s.map enc)) (hg : w.grownBy w2 u.ownBlock) : OwnV enc w2 base e1 e2 v vs (L.set k s) := by
  obtain ⟨u0, hu0, hown⟩ := h.row k r hr
  rw [hu] at hu0
  injection hu0 with hu0
  subst hu0
  refine ⟨by rw [List.length_set]; exact h.len, ?_, fun i r1 hr1 => ?_, h.far, h.apart⟩
  · rw [List.length_set]
    exact own_other h.out hown (fun g hg1 hg2 => h.far k u g hu hg2 hg1) hg
  · by_cases hk : i = k
    · subst hk
      have hi : i < L.length := (List.getElem?_eq_some_iff.1 hr).1
      rw [List.getElem?_set_self hi] at hr1
      injection hr1 with hr1
      subst hr1
      exact ⟨u, hu, ho⟩
    · rw [List.getElem?_set_ne (fun e => hk e.symm)] at hr1
      obtain ⟨u1, hu1, ho1⟩ := h.row i r1 hr1
      exact ⟨u1, hu1, own_other ho1 hown (fun g hg1 => h.apart i k u1 u g hk hu1 hu hg1) hg⟩
set_option maxHeartbeats 1600000 in
set_option maxRecDepth 100000 in
theorem markIV_any (v : Value) (base : Nat) (l : List Int) (m : Int) (w : World) (ho : w.ownsRow base 3 1 v l.length (l.map (Value.int .i64))) (hl : l.length ≤ 1000000000) (hm0 : 0 ≤ m) (hm : m ≤ 1000000000000) :
    Calls Try.prog 50 #[v, .int .i64 m] w fun e w2 => e = .returned (.int .i64 (m + (l.length : Int))) ∧ w.grownBy w2 v.ownBlock ∧ w2.ownsRow base 3 1 v l.length ((mkRowI m l.length).map (Value.int .i64)) := by
  obtain ⟨n, hn⟩ : ∃ n, n = l.length := ⟨_, rfl⟩
  obtain ⟨L, hL⟩ : ∃ L, L = mkRowI m n := ⟨_, rfl⟩
  have hLl : L.length = l.length := by rw [hL, mkRowI_len, hn]
  rw [← hn] at ho hl ⊢
  rw [← hL]
  rcases Nat.eq_zero_or_pos n with h0 | hpos
  · subst h0
    obtain ⟨A, c, hv, _, _⟩ := Reads.of_own ho
    subst hv
    have hl0 : l = [] := List.eq_nil_of_length_eq_zero hn.symm
    have hL0 : L = [] := List.eq_nil_of_length_eq_zero (by rw [hLl, ← hn])
    have HO := Lib.hid (And.intro ho (And.intro hl0 hL0))
    clear ho hL hLl hn hl0 hL0
    go_enter Try.func50, Try.ntmps50
    go_wp2_with fail
    go_loop [1, 5] (fun t i => t = .int .i64 m ∧ i = .int .i64 0) (fun _ _ => 0)
    case atStart => exact ⟨rfl, rfl⟩
    case round =>
      obtain ⟨rfl, rfl⟩ := hrel
      go_wp2_with fail
      go_ret
      refine ⟨ret_int (by simp), World.grownBy.refl _ _, ?_⟩
      rw [HO.out.2.2]
      have := HO.out.1
      rw [HO.out.2.1] at this
      exact this
  · obtain ⟨g, cap, hv, hbg, hgl⟩ := ho.form (by omega)
    subst hv
    have HL := Lib.hid (And.intro hLl (And.intro hL (And.intro ho hn)))
    clear hLl hL ho hn
    go_enter Try.func50, Try.ntmps50
    go_wp2_with fail
    go_loopw [1, 5] (fun t i wr => ∃ k : Nat, k ≤ n ∧ i = .int .i64 k ∧ t = .int .i64 (m + (k : Int)) ∧ w.grownBy wr (some g) ∧ wr.ownsRow base 3 1 (.slice (some ⟨g, 0, none⟩) n cap) n (cellsI (mixL L l k))) (fun _ i _ => n - (intOf i).toNat)
    case atStart => exact ⟨0, Nat.zero_le _, rfl, by simp, World.grownBy.refl _ _, by rw [mixL_zero]; exact HL.out.2.2.1⟩
    case round =>
      obtain ⟨k, hk, rfl, rfl, hg, hown⟩ := hrel
      by_cases hlt : k < n
      · have hkl : (k : Int) < (n : Int) := by omega
        have hx : (mixL L l k)[k]? = l[k]? := mixL_old HL.out.1 (Nat.le_refl _)
        have hlk : k < l.length := by have := HL.out.2.2.2; omega
        obtain ⟨x, hx2⟩ : ∃ x, l[k]? = some x := ⟨_, List.getElem?_eq_getElem hlk⟩
        rw [hx2] at hx
        obtain ⟨d1, f1⟩ := own_cellI hown hx
        have hst := own_storeI hown k (m + (k : Int))
        rw [mixL_set HL.out.1 (by rw [HL.out.2.1]; exact mkRowI_at hlt)] at hst
        have HX := Lib.hid (And.intro hg hst)
        clear hg hown hst hx hx2 hlk
        go_wp2_with fail
        go_roundw
        case rel => exact ⟨k + 1, by omega, by go_num, by rw [show m + ((k + 1 : Nat) : Int) = m + (k : Int) + 1 from by omega], grown_store HX.out.1, HX.out.2⟩
        case measure => simp [intOf]; omega
      · have hkl : k = n := by omega
        subst hkl
        have HX := Lib.hid (And.intro hg hown)
        clear hg hown
        go_wp2_with fail
        go_ret
        refine ⟨rfl, HX.out.1, ?_⟩
        have h := HX.out.2
        have e : k = l.length := HL.out.2.2.2
        have e2 : mixL L l k = L := by rw [e]; exact mixL_all HL.out.1
        rw [e2] at h
        exact h
set_option maxHeartbeats 800000 in
set_option maxRecDepth 100000 in
theorem heldIV_any (A : Option Addr) (cap n : Nat) (m : Int) (w : World) (hr : Reads w w.heap.size 1 A n ((mkRowI m n).map (Value.int .i64))) (hl : n ≤ 1000000000) (hm0 : 0 ≤ m) (hm : m ≤ 1000000000000) :
    Calls Try.prog 59 #[.slice A n cap, .int .i64 m] w fun e w2 => e = .returned (.int .i64 (m + (n : Int))) ∧ w = w2 := by
  go_enter Try.func59, Try.ntmps59
  go_wp2_with fail
  go_loop [1, 5] (fun t i => ∃ k : Nat, k ≤ n ∧ i = .int .i64 k ∧ t = .int .i64 (m + (k : Int))) (fun _ i => n - (intOf i).toNat)
  case atStart => exact ⟨0, Nat.zero_le _, rfl, by simp⟩
  case round =>
    obtain ⟨k, hk, rfl, rfl⟩ := hrel
    by_cases hlt : k < n
    · obtain ⟨b, off, hA, hbb, hc⟩ := Reads.ints (l := mkRowI m n) hr (by omega)
      subst hA
      have c1 := hc k _ (mkRowI_at hlt)
      have hkl : (k : Int) < (n : Int) := by omega
      clear hc hr
      go_wp2_with fail
      go_round
      case rel => exact ⟨k + 1, by omega, by go_num, by rw [show m + ((k + 1 : Nat) : Int) = m + (k : Int) + 1 from by omega]⟩
      case measure => simp [intOf]; omega
    · have hkl : k = n := by omega
      have HK := Lib.hid hkl
      clear hkl
      go_wp2_with fail
      go_ret
      exact ⟨ret_int (by rw [HK.out]), rfl⟩
set_option maxHeartbeats 800000 in
set_option maxRecDepth 100000 in
theorem markIT_any (v : Value) (vs : List Value) (base : Nat) (L : List (List Int)) (m : Int) (w : World) (ho : OwnV (Value.int .i64) w base 3 29 v vs L) (hbase : base ≤ w.heap.size) (hl : L.length ≤ 1000) (hr : ∀ r ∈ L, r.length ≤ 1000) (hm0 : 0 ≤ m) (hm : m ≤ 1000000) :
    Calls Try.prog 51 #[v, .int .i64 m] w fun e w2 => e = .returned (.int .i64 (m + (sumLI L L.length : Int))) ∧ Below base w w2 ∧ OwnV (Value.int .i64) w2 base 3 29 v vs (mkTabI m L) := by
  obtain ⟨A, c, hv, _, _⟩ := ho.nest
  have hml : (mkTabI m L).length = L.length := mkTabI_len _ _
  have HR := Lib.hid (And.intro hml (And.intro ho hv))
  clear hml
  rw [hv]
  clear ho hv
  go_enter Try.func51, Try.ntmps51
  go_wp2_with fail
  go_loopw [1, 5] (fun t i wr => ∃ k : Nat, k ≤ L.length ∧ i = .int .i64 k ∧ t = .int .i64 (m + (sumLI L k : Int)) ∧ Below base w wr ∧ OwnV (Value.int .i64) wr base 3 29 v vs (mixL (mkTabI m L) L k)) (fun _ i _ => L.length - (intOf i).toNat)
  case atStart => exact ⟨0, Nat.zero_le _, rfl, by simp [sumLI], (Below.refl _ _).mono hbase, by rw [mixL_zero]; exact HR.out.2.1⟩
  case round =>
    obtain ⟨k, hk, rfl, rfl, hg, hown⟩ := hrel
    by_cases hlt : k < L.length
    · obtain ⟨x, hx⟩ : ∃ x, L[k]? = some x := ⟨_, List.getElem?_eq_getElem hlt⟩
      have hat : (mixL (mkTabI m L) L k)[k]? = some x := by rw [mixL_old HR.out.1 (Nat.le_refl _), hx]
      obtain ⟨u, hu, hox⟩ := hown.row k x hat
      have hlk : (mixL (mkTabI m L) L k).length = L.length := mixL_len HR.out.1 hk
      obtain ⟨go, capo, hvo, hgo1, hgo2, hou⟩ := hown.outer (by omega)
      have hcell := hou k u hu
      have hA2 := HR.out.2.2.symm.trans hvo
      injection hA2 with hA2 e2 e3
      clear e2 e3
      subst hA2
      have hxl := hr x (List.mem_of_getElem? hx)
      have hsl := sumLI_le hr k
      obtain ⟨A3, c3, hu3, _, _⟩ := Reads.of_own hox
      have hmk := markIV_any u base x (m + (sumLI L k : Int)) wr hox (by omega) (by omega) (by omega)
      rw [hu3] at hcell hmk
      obtain ⟨sm, hsm⟩ : ∃ sm, sm = sumLI L k := ⟨_, rfl⟩
      rw [← hsm] at hmk hsl ⊢
      have HX := Lib.hid (And.intro hx (And.intro hg (And.intro hown (And.intro hu (And.intro hat (And.intro hox (And.intro hu3 (And.intro hmk hsm))))))))
      have hkl : (k : Int) < (L.length : Int) := by omega
      clear hx hg hown hat hu hlk hvo hou hox hu3 hmk hsm
      go_wp2_with fail
      refine HX.out.2.2.2.2.2.2.2.1.mono ?_
      rintro e w5 ⟨rfl, hg5, ho5⟩
      go_wp2_with fail
      go_roundw
      case rel =>
        obtain ⟨hx, hg, hown, hu, hat, hox, hu3, _, hsm⟩ := HX.out
        rw [← hu3] at hg5 ho5
        have h9 := hown.swapI (s := mkRowI (m + (sm : Int)) x.length) hu hat (by rw [mkRowI_len]; exact ho5) hg5
        rw [hsm, mixL_set HR.out.1 (mkTabI_at hx)] at h9
        exact ⟨k + 1, by omega, by go_num, by rw [sumLI_next hx, hsm, Int.natCast_add, Int.add_assoc], hg.trans (app_below0 hox (Nat.le_refl _) (Nat.le_trans hbase hg.size) hg5), h9⟩
      case measure => simp [intOf]; omega
    · have hkl : k = L.length := by omega
      have HK := Lib.hid (And.intro hkl (And.intro hg hown))
      clear hkl hg hown
      go_wp2_with fail
      go_ret
      obtain ⟨hkl, hg, hown⟩ := HK.out
      rw [hkl, mixL_all HR.out.1] at hown
      exact ⟨ret_int (by rw [hkl]), hg, by rw [← HR.out.2.2]; exact hown⟩
set_option maxHeartbeats 800000 in
set_option maxRecDepth 100000 in
theorem heldIT_any (A : Option Addr) (cap : Nat) (L : List (List Int)) (m : Int) (w : World) (hn : Nest (Value.int .i64) w w.heap.size A L.length (mkTabI m L)) (hl : L.length ≤ 1000) (hr : ∀ r ∈ L, r.length ≤ 1000) (hm0 : 0 ≤ m) (hm : m ≤ 1000000) :
    Calls Try.prog 52 #[.slice A L.length cap, .int .i64 m] w fun e w2 => e = .returned (.int .i64 (m + (sumLI L L.length : Int))) ∧ w = w2 := by
  go_enter Try.func52, Try.ntmps52
  go_wp2_with fail
  go_loop [1, 5] (fun t i => ∃ k : Nat, k ≤ L.length ∧ i = .int .i64 k ∧ t = .int .i64 (m + (sumLI L k : Int))) (fun _ i => L.length - (intOf i).toNat)
  case atStart => exact ⟨0, Nat.zero_le _, rfl, by simp [sumLI]⟩
  case round =>
    obtain ⟨k, hk, rfl, rfl⟩ := hrel
    by_cases hlt : k < L.length
    · obtain ⟨x, hx⟩ : ∃ x, L[k]? = some x := ⟨_, List.getElem?_eq_getElem hlt⟩
      obtain ⟨b, off, A2, c2, hA, hbb, hcell, hc2, hrow⟩ := hn.row (mkTabI_at (m := m) hx)
      rw [mkRowI_len] at hcell hrow
      subst hA
      have hxl := hr x (List.mem_of_getElem? hx)
      have hsl := sumLI_le hr k
      have hhe := heldIV_any A2 c2 x.length (m + (sumLI L k : Int)) w hrow (by omega) (by omega) (by omega)
      obtain ⟨sm, hsm⟩ : ∃ sm, sm = sumLI L k := ⟨_, rfl⟩
      rw [← hsm] at hhe hsl ⊢
      have hkl : (k : Int) < (L.length : Int) := by omega
      have HX := Lib.hid (And.intro hx (And.intro hhe hsm))
      have e3 : decide (m + (sm : Int) + (x.length : Int) < 0) = false := by simp; omega
      clear hx hn hrow hhe hsm
      go_wp2_with fail
      refine HX.out.2.1.mono ?_
      rintro e w5 ⟨rfl, rfl⟩
      go_wp2_with fail
      go_round
      case rel => exact ⟨k + 1, by omega, by go_num, by rw [sumLI_next HX.out.1, ← HX.out.2.2, Int.natCast_add, Int.add_assoc]⟩
      case measure => simp [intOf]; omega
    · have hkl : k = L.length := by omega
      have HK := Lib.hid hkl
      clear hkl
      go_wp2_with fail
      go_ret
      exact ⟨ret_int (by rw [HK.out]), rfl⟩
end Go.Proofs.Ytopdmcnbchpihaa
