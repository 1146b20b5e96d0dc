/- Marks laid into rows and tables of Booleans, and read again. -/
import Derived.Test.YtapmeooffmonmaaTw
namespace Go.Proofs.Ytapmeooffmonmaa
open Go.RowKit

def mk3 (x : Int) : Bool := x % 3 == 0
def mkRow (m : Int) (n : Nat) : List Bool := rowN n fun i => mk3 (m + (i : Int))
theorem mkRow_len (m : Int) (n : Nat) : (mkRow m n).length = n := rowN_len _ _
theorem mkRow_at {m : Int} {n i : Nat} (hi : i < n) : (mkRow m n)[i]? = some (mk3 (m + (i : Int))) := rowN_at _ hi
def sumL (L : List (List Bool)) (k : Nat) : Nat := ((L.take k).map List.length).sum
theorem sumL_next {L : List (List Bool)} {k : Nat} {r : List Bool} (hr : L[k]? = some r) : sumL L (k + 1) = sumL L k + r.length := by
  unfold sumL
  rw [List.take_add_one, hr]
  simp
theorem sumL_le {L : List (List Bool)} (h : ∀ r ∈ L, r.length ≤ 1000) (k : Nat) : sumL L k ≤ 1000 * k := by
  induction k with
  | zero => simp [sumL]
  | succ k ih =>
    cases hr : L[k]? with
    | none =>
      have e : sumL L (k + 1) = sumL L k := by
        unfold sumL
        rw [List.take_add_one, hr]
        simp
      omega
    | some r =>
      rw [sumL_next hr]
      have := h r (List.mem_of_getElem? hr)
      omega
def mkTab (m : Int) (L : List (List Bool)) : List (List Bool) := (List.range L.length).map fun k => mkRow (m + (sumL L k : Int)) (L[k]?.getD []).length
theorem mkTab_len (m : Int) (L : List (List Bool)) : (mkTab m L).length = L.length := by simp [mkTab]
theorem mkTab_at {m : Int} {L : List (List Bool)} {k : Nat} {r : List Bool} (hr : L[k]? = some r) : (mkTab m L)[k]? = some (mkRow (m + (sumL L k : Int)) r.length) := by
  obtain ⟨hk, e⟩ := List.getElem?_eq_some_iff.1 hr
  simp [mkTab, hk, e]
theorem OwnV.swap {α : Type} {enc : α → Value} {w w2 : World} {base : Nat} {e1 e2 : TypeId} {v u : Value} {vs : List Value} {L : List (List α)} {k : Nat} {r s : List α} (h : OwnV enc w base e1 e2 v vs L) (hu : vs[k]? = some u) (hr : L[k]? = some r)
    (ho : w2.ownsRow base e1 1 u s.length (s.map enc)) (hg : w.grownBy w2 u.ownBlock) : OwnV enc w2 base e1 e2 v vs (L.set k s) := by
  obtain ⟨u0, hu0, hown⟩ := h.row k r hr
  rw [hu] at hu0
  injection hu0 with hu0
  subst hu0
  refine ⟨by rw [List.length_set]; exact h.len, ?_, fun i r1 hr1 => ?_, h.far, h.apart⟩
  · rw [List.length_set]
    exact own_other h.out hown (fun g hg1 hg2 => h.far k u g hu hg2 hg1) hg
  · by_cases hk : i = k
    · subst hk
      have hi : i < L.length := (List.getElem?_eq_some_iff.1 hr).1
      rw [List.getElem?_set_self hi] at hr1
      injection hr1 with hr1
      subst hr1
      exact ⟨u, hu, ho⟩
    · rw [List.getElem?_set_ne (fun e => hk e.symm)] at hr1
      obtain ⟨u1, hu1, ho1⟩ := h.row i r1 hr1
      exact ⟨u1, hu1, own_other ho1 hown (fun g hg1 => h.apart i k u1 u g hk hu1 hu hg1) hg⟩
theorem bool_store {w : World} {base e g n cap : Nat} {L : List Bool} (h : w.ownsRow base e 1 (.slice (some ⟨g, 0, none⟩) n cap) n (L.map encB)) (k : Nat) (x : Bool) : (w.setCell ⟨g, k, none⟩ (.bool x)).ownsRow base e 1 (.slice (some ⟨g, 0, none⟩) n cap) n ((L.set k x).map encB) := by
  have h1 := (h.stored k (encB x)).1
  rw [List.map_set]
  exact h1
set_option maxHeartbeats 800000 in
set_option maxRecDepth 100000 in
theorem markB_any (v : Value) (base : Nat) (l : List Bool) (m : Int) (w : World) (ho : w.ownsRow base 4 1 v l.length (l.map encB)) (hl : l.length ≤ 1000000000) (hm0 : 0 ≤ m) (hm : m ≤ 1000000000000) :
    Calls Try.prog 59 #[v, .int .i64 m] w fun e w2 => e = .returned (.int .i64 (m + (l.length : Int))) ∧ w.grownBy w2 v.ownBlock ∧ w2.ownsRow base 4 1 v l.length ((mkRow m l.length).map encB) := by
  rcases Nat.eq_zero_or_pos l.length with h0 | hpos
  · obtain ⟨A, c, hv, _, _⟩ := Reads.of_own ho
    have hn : l = [] := List.eq_nil_of_length_eq_zero h0
    subst hn
    subst hv
    have HO := Lib.hid ho
    clear ho
    go_enter Try.func59, Try.ntmps59
    go_wp2_with fail
    go_loop [1, 5] (fun t i => t = .int .i64 m ∧ i = .int .i64 0) (fun _ _ => 0)
    case atStart => exact ⟨rfl, rfl⟩
    case round =>
      obtain ⟨rfl, rfl⟩ := hrel
      go_wp2_with fail
      go_ret
      exact ⟨ret_int (by simp), World.grownBy.refl _ _, HO.out⟩
  · obtain ⟨g, cap, hv, hbg, hgl⟩ := ho.form hpos
    subst hv
    have hml : (mkRow m l.length).length = l.length := mkRow_len _ _
    have HL := Lib.hid hml
    clear hml
    go_enter Try.func59, Try.ntmps59
    go_wp2_with fail
    go_loopw [1, 5] (fun t i wr => ∃ k : Nat, k ≤ l.length ∧ i = .int .i64 k ∧ t = .int .i64 (m + (k : Int)) ∧ w.grownBy wr (some g) ∧ wr.ownsRow base 4 1 (.slice (some ⟨g, 0, none⟩) l.length cap) l.length ((mixL (mkRow m l.length) l k).map encB)) (fun _ i _ => l.length - (intOf i).toNat)
    case atStart => exact ⟨0, Nat.zero_le _, rfl, by simp, World.grownBy.refl _ _, by rw [mixL_zero]; exact ho⟩
    case round =>
      obtain ⟨k, hk, rfl, rfl, hg, hown⟩ := hrel
      clear ho
      by_cases hlt : k < l.length
      · obtain ⟨x, hx⟩ : ∃ x, l[k]? = some x := ⟨_, List.getElem?_eq_getElem hlt⟩
        have d1 := (hown.cellAt k (by omega)).trans (by rw [List.getElem?_map, mixL_old HL.out (Nat.le_refl _), hx]; rfl : ((mixL (mkRow m l.length) l k).map encB)[k]? = some (encB x))
        have d4 := hown.frozenAt k
        simp only [encB] at d1
        have hkl : (k : Int) < (l.length : Int) := by omega
        have e3 : ((m + (k : Int)) % 3 == 0) = mk3 (m + (k : Int)) := rfl
        have HX := Lib.hid (And.intro hx (And.intro hg hown))
        clear hx hg hown
        go_wp2_with fail
        go_roundw
        case rel =>
          refine ⟨k + 1, by omega, by go_num, by rw [show m + ((k + 1 : Nat) : Int) = m + (k : Int) + 1 from by omega], grown_store HX.out.2.1, ?_⟩
          have h9 := bool_store HX.out.2.2 k (mk3 (m + (k : Int)))
          rw [mixL_set HL.out (mkRow_at hlt)] at h9
          exact h9
        case measure => simp [intOf]; omega
      · have hkl : k = l.length := by omega
        have HK := Lib.hid (And.intro hkl (And.intro hg hown))
        clear hkl hg hown
        go_wp2_with fail
        go_ret
        obtain ⟨hkl, hg, hown⟩ := HK.out
        refine ⟨ret_int (by rw [hkl]), hg, ?_⟩
        rw [hkl, mixL_all HL.out] at hown
        exact hown
set_option maxHeartbeats 800000 in
set_option maxRecDepth 100000 in
theorem heldB_any (A : Option Addr) (cap n : Nat) (m : Int) (w : World) (hr : Reads w w.heap.size 1 A n ((mkRow m n).map encB)) (hl : n ≤ 1000000000) (hm0 : 0 ≤ m) (hm : m ≤ 1000000000000) :
    Calls Try.prog 60 #[.slice A n cap, .int .i64 m] w fun e w2 => e = .returned (.int .i64 (m + (n : Int))) ∧ w = w2 := by
  go_enter Try.func60, Try.ntmps60
  go_wp2_with fail
  go_loop [1, 5] (fun t i => ∃ k : Nat, k ≤ n ∧ i = .int .i64 k ∧ t = .int .i64 (m + (k : Int))) (fun _ i => n - (intOf i).toNat)
  case atStart => exact ⟨0, Nat.zero_le _, rfl, by simp⟩
  case round =>
    obtain ⟨k, hk, rfl, rfl⟩ := hrel
    by_cases hlt : k < n
    · obtain ⟨b, off, hA, hbb, hc⟩ := hr.2 (by omega)
      subst hA
      have c1 := hc k _ (by rw [List.getElem?_map, mkRow_at hlt]; rfl)
      simp only [encB] at c1
      have hkl : (k : Int) < (n : Int) := by omega
      have e3 : ((m + (k : Int)) % 3 == 0) = mk3 (m + (k : Int)) := rfl
      have e4 : (mk3 (m + (k : Int)) != mk3 (m + (k : Int))) = false := by simp
      clear hc hr
      go_wp2_with fail
      go_round
      case rel => exact ⟨k + 1, by omega, by go_num, by rw [show m + ((k + 1 : Nat) : Int) = m + (k : Int) + 1 from by omega]⟩
      case measure => simp [intOf]; omega
    · have hkl : k = n := by omega
      have HK := Lib.hid hkl
      clear hkl
      go_wp2_with fail
      go_ret
      exact ⟨ret_int (by rw [HK.out]), rfl⟩
set_option maxHeartbeats 800000 in
set_option maxRecDepth 100000 in
theorem markBT_any (v : Value) (vs : List Value) (base : Nat) (L : List (List Bool)) (m : Int) (w : World) (ho : OwnV encB w base 4 26 v vs L) (hbase : base ≤ w.heap.size) (hl : L.length ≤ 1000) (hr : ∀ r ∈ L, r.length ≤ 1000) (hm0 : 0 ≤ m) (hm : m ≤ 1000000) :
    Calls Try.prog 36 #[v, .int .i64 m] w fun e w2 => e = .returned (.int .i64 (m + (sumL L L.length : Int))) ∧ Below base w w2 ∧ OwnV encB w2 base 4 26 v vs (mkTab m L) := by
  obtain ⟨A, c, hv, _, _⟩ := ho.nest
  have hml : (mkTab m L).length = L.length := mkTab_len _ _
  have HR := Lib.hid (And.intro hml (And.intro ho hv))
  clear hml
  rw [hv]
  clear ho hv
  go_enter Try.func36, Try.ntmps36
  go_wp2_with fail
  go_loopw [1, 5] (fun t i wr => ∃ k : Nat, k ≤ L.length ∧ i = .int .i64 k ∧ t = .int .i64 (m + (sumL L k : Int)) ∧ Below base w wr ∧ OwnV encB wr base 4 26 v vs (mixL (mkTab m L) L k)) (fun _ i _ => L.length - (intOf i).toNat)
  case atStart => exact ⟨0, Nat.zero_le _, rfl, by simp [sumL], (Below.refl _ _).mono hbase, by rw [mixL_zero]; exact HR.out.2.1⟩
  case round =>
    obtain ⟨k, hk, rfl, rfl, hg, hown⟩ := hrel
    by_cases hlt : k < L.length
    · obtain ⟨x, hx⟩ : ∃ x, L[k]? = some x := ⟨_, List.getElem?_eq_getElem hlt⟩
      have hat : (mixL (mkTab m L) L k)[k]? = some x := by rw [mixL_old HR.out.1 (Nat.le_refl _), hx]
      obtain ⟨u, hu, hox⟩ := hown.row k x hat
      have hlk : (mixL (mkTab m L) L k).length = L.length := mixL_len HR.out.1 hk
      obtain ⟨go, capo, hvo, hgo1, hgo2, hou⟩ := hown.outer (by omega)
      have hcell := hou k u hu
      have hA2 := HR.out.2.2.symm.trans hvo
      injection hA2 with hA2 e2 e3
      clear e2 e3
      subst hA2
      have hxl := hr x (List.mem_of_getElem? hx)
      have hsl := sumL_le hr k
      obtain ⟨A3, c3, hu3, _, _⟩ := Reads.of_own hox
      have hmk := markB_any u base x (m + (sumL L k : Int)) wr hox (by omega) (by omega) (by omega)
      rw [hu3] at hcell hmk
      obtain ⟨sm, hsm⟩ : ∃ sm, sm = sumL L k := ⟨_, rfl⟩
      rw [← hsm] at hmk hsl ⊢
      have HX := Lib.hid (And.intro hx (And.intro hg (And.intro hown (And.intro hu (And.intro hat (And.intro hox (And.intro hu3 (And.intro hmk hsm))))))))
      have hkl : (k : Int) < (L.length : Int) := by omega
      clear hx hg hown hat hu hlk hvo hou hox hu3 hmk hsm
      go_wp2_with fail
      refine HX.out.2.2.2.2.2.2.2.1.mono ?_
      rintro e w5 ⟨rfl, hg5, ho5⟩
      go_wp2_with fail
      go_roundw
      case rel =>
        obtain ⟨hx, hg, hown, hu, hat, hox, hu3, _, hsm⟩ := HX.out
        rw [← hu3] at hg5 ho5
        have h9 := hown.swap (s := mkRow (m + (sm : Int)) x.length) hu hat (by rw [mkRow_len]; exact ho5) hg5
        rw [hsm, mixL_set HR.out.1 (mkTab_at hx)] at h9
        exact ⟨k + 1, by omega, by go_num, by rw [sumL_next hx, hsm, Int.natCast_add, Int.add_assoc], hg.trans (app_below0 hox (Nat.le_refl _) (Nat.le_trans hbase hg.size) hg5), h9⟩
      case measure => simp [intOf]; omega
    · have hkl : k = L.length := by omega
      have HK := Lib.hid (And.intro hkl (And.intro hg hown))
      clear hkl hg hown
      go_wp2_with fail
      go_ret
      obtain ⟨hkl, hg, hown⟩ := HK.out
      rw [hkl, mixL_all HR.out.1] at hown
      exact ⟨ret_int (by rw [hkl]), hg, by rw [← HR.out.2.2]; exact hown⟩
set_option maxHeartbeats 800000 in
set_option maxRecDepth 100000 in
theorem heldBT_any (A : Option Addr) (cap : Nat) (L : List (List Bool)) (m : Int) (w : World) (hn : Nest encB w w.heap.size A L.length (mkTab m L)) (hl : L.length ≤ 1000) (hr : ∀ r ∈ L, r.length ≤ 1000) (hm0 : 0 ≤ m) (hm : m ≤ 1000000) :
    Calls Try.prog 42 #[.slice A L.length cap, .int .i64 m] w fun e w2 => e = .returned (.int .i64 (m + (sumL L L.length : Int))) ∧ w = w2 := by
  go_enter Try.func42, Try.ntmps42
  go_wp2_with fail
  go_loop [1, 5] (fun t i => ∃ k : Nat, k ≤ L.length ∧ i = .int .i64 k ∧ t = .int .i64 (m + (sumL L k : Int))) (fun _ i => L.length - (intOf i).toNat)
  case atStart => exact ⟨0, Nat.zero_le _, rfl, by simp [sumL]⟩
  case round =>
    obtain ⟨k, hk, rfl, rfl⟩ := hrel
    by_cases hlt : k < L.length
    · obtain ⟨x, hx⟩ : ∃ x, L[k]? = some x := ⟨_, List.getElem?_eq_getElem hlt⟩
      obtain ⟨b, off, A2, c2, hA, hbb, hcell, hc2, hrow⟩ := hn.row (mkTab_at (m := m) hx)
      rw [mkRow_len] at hcell hrow
      subst hA
      have hxl := hr x (List.mem_of_getElem? hx)
      have hsl := sumL_le hr k
      have hhe := heldB_any A2 c2 x.length (m + (sumL L k : Int)) w hrow (by omega) (by omega) (by omega)
      obtain ⟨sm, hsm⟩ : ∃ sm, sm = sumL L k := ⟨_, rfl⟩
      rw [← hsm] at hhe hsl ⊢
      have hkl : (k : Int) < (L.length : Int) := by omega
      have HX := Lib.hid (And.intro hx (And.intro hhe hsm))
      have e3 : decide (m + (sm : Int) + (x.length : Int) < 0) = false := by simp; omega
      clear hx hn hrow hhe hsm
      go_wp2_with fail
      refine HX.out.2.1.mono ?_
      rintro e w5 ⟨rfl, rfl⟩
      go_wp2_with fail
      go_round
      case rel => exact ⟨k + 1, by omega, by go_num, by rw [sumL_next HX.out.1, ← HX.out.2.2, Int.natCast_add, Int.add_assoc]⟩
      case measure => simp [intOf]; omega
    · have hkl : k = L.length := by omega
      have HK := Lib.hid hkl
      clear hkl
      go_wp2_with fail
      go_ret
      exact ⟨ret_int (by rw [HK.out]), rfl⟩
end Go.Proofs.Ytapmeooffmonmaa
