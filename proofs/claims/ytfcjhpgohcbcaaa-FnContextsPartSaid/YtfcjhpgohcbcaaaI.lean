/- What the laws' comparisons of lists return. -/
import Derived.Test.YtfcjhpgohcbcaaaH
namespace Go.Proofs.Ytfcjhpgohcbcaaa
open Go.RowKit

def eqLC : List Ctx → List Ctx → Bool
  | [], [] => true
  | c :: a, d :: b => eqC c d && eqLC a b
  | _, _ => false
theorem eqLC_iff : ∀ (a b : List Ctx), eqLC a b = true ↔ a = b
  | [], [] => by simp [eqLC]
  | c :: a, d :: b => by simp [eqLC, eqLC_iff a b, eqC_iff]
  | [], _ :: _ => by simp [eqLC]
  | _ :: _, [] => by simp [eqLC]
theorem eqLC_no {a b : List Ctx} (h : a ≠ b) : eqLC a b = false := by
  cases h2 : eqLC a b
  · rfl
  · exact absurd ((eqLC_iff a b).1 h2) h
theorem eqLC_self (a : List Ctx) : eqLC a a = true := (eqLC_iff a a).2 rfl
theorem eqC_self (a : Ctx) : eqC a a = true := (eqC_iff a a).2 rfl
theorem eqC_no {a b : Ctx} (h : a ≠ b) : eqC a b = false := by
  cases h2 : eqC a b
  · rfl
  · exact absurd ((eqC_iff a b).1 h2) h
theorem ctx_ne_at {a b : List Ctx} {k : Nat} {c d : Ctx} (hc : a[k]? = some c) (hd : b[k]? = some d) (h : c ≠ d) : a ≠ b := by
  rintro rfl; rw [hc] at hd; injection hd with hd; exact h hd

theorem eqContext_any (a b c a2 b2 c2 : Int) (w : World) :
    Calls Try.prog 49 #[.agg #[.int .i64 a, .int .i64 b, .int .i64 c], .agg #[.int .i64 a2, .int .i64 b2, .int .i64 c2]] w fun e w2 => e = .returned (.bool (eqC ⟨a, b, c⟩ ⟨a2, b2, c2⟩)) ∧ Below w.heap.size w w2 := by
  have hb := ((Below.refl w.heap.size w).alloc (Nat.le_refl _) (.cells #[.int .i64 a, .int .i64 b, .int .i64 c] 25)).alloc (by simp) (.cells #[.int .i64 a2, .int .i64 b2, .int .i64 c2] 25)
  by_cases h1 : a = a2
  · by_cases h2 : b = b2
    · by_cases h3 : c = c2
      · subst h1 h2 h3
        go_enter Try.func49, Try.ntmps49
        go_wp2_with fail
        go_ret
        exact ⟨ret_bool (by simp [eqC]), hb⟩
      · subst h1 h2
        have e3 : (c != c2) = true := by simp [h3]
        have H3 := Lib.hid h3
        clear h3
        go_enter Try.func49, Try.ntmps49
        go_wp2_with fail
        go_ret
        exact ⟨ret_bool (by simp [eqC, H3.out]), hb⟩
    · subst h1
      have e3 : (b != b2) = true := by simp [h2]
      have H3 := Lib.hid h2
      clear h2
      go_enter Try.func49, Try.ntmps49
      go_wp2_with fail
      go_ret
      exact ⟨ret_bool (by simp [eqC, H3.out]), hb⟩
  · have e3 : (a != a2) = true := by simp [h1]
    have H3 := Lib.hid h1
    clear h1
    go_enter Try.func49, Try.ntmps49
    go_wp2_with fail
    go_ret
    exact ⟨ret_bool (by simp [eqC, H3.out]), hb⟩

set_option maxHeartbeats 800000 in
theorem same_any (A B : Option Addr) (ca cb : Nat) (l m : List Ctx) (w : World) (ha : Reads w w.heap.size 3 A l.length (cellsC l)) (hb : Reads w w.heap.size 3 B m.length (cellsC m)) (hl : l.length ≤ 1000000000000) :
    Calls Try.prog 17 #[.slice A l.length ca, .slice B m.length cb] w fun e w2 => e = .returned (.bool (eqLC l m)) ∧ Below w.heap.size w w2 := by
  by_cases hlen : l.length = m.length
  · have e0 : ((l.length : Int) != (m.length : Int)) = false := by simp [hlen]
    have HL := Lib.hid hlen
    clear hlen
    go_enter Try.func17, Try.ntmps17
    go_wp2_with fail
    go_loopw [5] (fun i wr => ∃ k : Nat, k ≤ l.length ∧ i = .int .i64 k ∧ Below w.heap.size w wr ∧ l.take k = m.take k) (fun i _ => l.length - (intOf i).toNat)
    case atStart => exact ⟨0, Nat.zero_le _, rfl, Below.refl _ _, rfl⟩
    case round =>
      obtain ⟨k, hk, rfl, hbl, heq⟩ := hrel
      have HE := Lib.hid heq
      clear heq
      by_cases hlt : k < l.length
      · have hlt2 : k < m.length := by have := HL.out; omega
        have hkm : (k : Int) < (m.length : Int) := by omega
        have hkl : (k : Int) < (l.length : Int) := by omega
        obtain ⟨b, off, hA, hbb, hc⟩ := (ha.below hbl).ctx (by omega)
        obtain ⟨b2, off2, hB, hbb2, hc2⟩ := (hb.below hbl).ctx (by omega)
        subst hA hB
        have hk0 : l[k]? = some l[k] := List.getElem?_eq_getElem hlt
        have hk2 : m[k]? = some m[k] := List.getElem?_eq_getElem hlt2
        obtain ⟨c1, c2, c3⟩ := hc k _ hk0
        obtain ⟨d1, d2, d3⟩ := hc2 k _ hk2
        have HK := Lib.hid hk0
        have HK2 := Lib.hid hk2
        clear hc hc2 hk0 hk2 ha hb
        by_cases h1 : l[k].id = m[k].id
        · have e1 : (l[k].id == m[k].id) = true := by simp [h1]
          have H1 := Lib.hid h1
          clear h1
          by_cases h2 : l[k].kind = m[k].kind
          · have e2 : (l[k].kind == m[k].kind) = true := by simp [h2]
            have H2 := Lib.hid h2
            clear h2
            by_cases h3 : l[k].area = m[k].area
            · have e3 : (l[k].area == m[k].area) = true := by simp [h3]
              have H3 := Lib.hid h3
              clear h3
              go_wp2_with fail
              go_quiet (fail)
              go_wp2_with fail
              go_roundw
              case rel =>
                refine ⟨k + 1, by omega, by go_num, below_draws hbl _, ?_⟩
                rw [List.take_add_one, List.take_add_one, HE.out, HK.out, HK2.out, Ctx.ext_ H1.out H2.out H3.out]
              case measure => simp [intOf]; omega
            · have e3 : (l[k].area == m[k].area) = false := by simp [h3]
              have HN : Hid (l[k].area ≠ m[k].area) := h3
              clear h3
              go_wp2_with fail
              go_quiet (fail)
              go_wp2_with fail
              go_ret
              exact ⟨ret_bool (eqLC_no (ctx_ne_at HK.out HK2.out (fun h => by rw [h] at HN; exact absurd rfl HN.out))).symm, below_draws hbl nq⟩
          · have e2 : (l[k].kind == m[k].kind) = false := by simp [h2]
            have HN : Hid (l[k].kind ≠ m[k].kind) := h2
            clear h2
            go_wp2_with fail
            go_quiet (fail)
            go_wp2_with fail
            go_ret
            exact ⟨ret_bool (eqLC_no (ctx_ne_at HK.out HK2.out (fun h => by rw [h] at HN; exact absurd rfl HN.out))).symm, below_draws hbl nq⟩
        · have e1 : (l[k].id == m[k].id) = false := by simp [h1]
          have HN : Hid (l[k].id ≠ m[k].id) := h1
          clear h1
          go_wp2_with fail
          go_quiet (fail)
          go_wp2_with fail
          go_ret
          exact ⟨ret_bool (eqLC_no (ctx_ne_at HK.out HK2.out (fun h => by rw [h] at HN; exact absurd rfl HN.out))).symm, below_draws hbl nq⟩
      · have hkl : k = l.length := by omega
        have HK := Lib.hid hkl
        clear hkl
        go_wp2_with fail
        go_ret
        refine ⟨ret_bool ?_, hbl⟩
        have h := HE.out
        rw [HK.out, List.take_length, List.take_of_length_le (by have := HL.out; omega)] at h
        exact ((eqLC_iff l m).2 h).symm
  · have e0 : ((l.length : Int) != (m.length : Int)) = true := by simp; omega
    have HL := Lib.hid hlen
    clear hlen
    go_enter Try.func17, Try.ntmps17
    go_wp2_with fail
    go_ret
    exact ⟨ret_bool (eqLC_no (fun h => HL.out (by rw [h]))).symm, Below.refl _ _⟩
end Go.Proofs.Ytfcjhpgohcbcaaa
