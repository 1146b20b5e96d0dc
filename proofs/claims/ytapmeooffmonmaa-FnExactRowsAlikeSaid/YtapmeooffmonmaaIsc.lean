/- How alike the program finds two rows. -/
import Derived.Test.YtapmeooffmonmaaSe4
namespace Go.Proofs.Ytapmeooffmonmaa
open Go.RowKit

set_option maxHeartbeats 3200000 in
set_option maxRecDepth 100000 in
theorem iAlike_any (A B : Option Addr) (ca cb : Nat) (a b : List Bool) (w : World) (ha : Reads w w.heap.size 1 A a.length (a.map encB)) (hb : Reads w w.heap.size 1 B b.length (b.map encB)) (_ : a.length ≤ 1000000000) (_ : b.length ≤ 1000000000) :
    Calls Try.prog 27 #[.slice A a.length ca, .slice B b.length cb] w fun e w2 => e = .returned (.int .i64 (alikeS a b)) ∧ Below w.heap.size w w2 := by
  by_cases h1 : a.length = 5
  · by_cases h2 : b.length = 5
    · have e1 : ((a.length : Int) != 5) = false := by simp; omega
      have e2 : ((b.length : Int) != 5) = false := by simp; omega
      have hG : alikeS a b = alF a b 5 := if_pos ⟨h1, h2⟩
      have hka : ∀ k : Nat, k < 5 → (k : Int) < (a.length : Int) := fun k hk => by omega
      have hkb : ∀ k : Nat, k < 5 → (k : Int) < (b.length : Int) := fun k hk => by omega
      have hkn : decide ((5 : Int) < (a.length : Int)) = false := decide_eq_false (by omega)
      have H := Lib.hid (And.intro ha (And.intro hb (And.intro hG (And.intro h1 (And.intro h2 (And.intro hka (And.intro hkb hkn)))))))
      clear ha hb hG h1 h2 hka hkb hkn
      go_enter Try.func27, Try.ntmps27
      go_wp2_with fail
      go_loop [5, 18] (fun m i => ∃ k : Nat, k ≤ 5 ∧ i = .int .i64 k ∧ m = .int .i64 (alF a b k)) (fun _ i => 5 - (intOf i).toNat)
      case atStart => exact ⟨0, by omega, rfl, rfl⟩
      case round =>
        obtain ⟨k, hk, rfl, rfl⟩ := hrel
        have hle := alF_le a b k
        by_cases hlt : k < 5
        · have hki : (k : Int) < 5 := by omega
          have hk1 := H.out.2.2.2.2.2.1 k hlt
          have hk2 := H.out.2.2.2.2.2.2.1 k hlt
          obtain ⟨x, hx⟩ : ∃ x, a[k]? = some x := ⟨_, List.getElem?_eq_getElem (by omega)⟩
          obtain ⟨y, hy⟩ : ∃ y, b[k]? = some y := ⟨_, List.getElem?_eq_getElem (by omega)⟩
          obtain ⟨ba, oa, hA, hba, d1⟩ := H.out.1.cellE hx
          obtain ⟨bb, ob, hB, hbb, d2⟩ := H.out.2.1.cellE hy
          subst hA hB
          simp only [encB] at d1 d2
          have hn := alF_next hx hy
          obtain ⟨m, hm⟩ : ∃ m, m = alF a b k := ⟨_, rfl⟩
          rw [← hm] at hn hle ⊢
          have HN := Lib.hid hn
          clear hn hm hx hy
          cases x
          · cases y
            · have hq : (false != false) = false := rfl
              go_wp2_with fail
              go_round
              case rel => exact ⟨k + 1, by omega, by go_num, by rw [HN.out]; simp⟩
              case measure => simp [intOf]; omega
            · go_wp2_with fail
              go_round
              case rel => exact ⟨k + 1, by omega, by go_num, by rw [HN.out]; go_num⟩
              case measure => simp [intOf]; omega
          · cases y
            · go_wp2_with fail
              go_round
              case rel => exact ⟨k + 1, by omega, by go_num, by rw [HN.out]; go_num⟩
              case measure => simp [intOf]; omega
            · go_wp2_with fail
              go_round
              case rel => exact ⟨k + 1, by omega, by go_num, by rw [HN.out]; go_num⟩
              case measure => simp [intOf]; omega
        · have hk5 : k = 5 := by omega
          have hG := H.out.2.2.1
          rw [← hk5] at hG
          have hdn : decide ((k : Int) < (a.length : Int)) = false := decide_eq_false (by have := H.out.2.2.2.1; omega)
          have hdm : ¬ k < a.length := by have := H.out.2.2.2.1; omega
          have HB := Lib.hid hG
          clear hk5 hG
          go_wp2_with fail
          go_ret
          exact ⟨ret_int HB.out.symm, Below.refl _ _⟩
    · have e1 : ((a.length : Int) != 5) = false := by simp; omega
      have e2 : ((b.length : Int) != 5) = true := by simp; omega
      have HG : Hid (alikeS a b = -99) := by exact if_neg fun h => h2 h.2
      clear h1 h2
      go_enter Try.func27, Try.ntmps27
      go_wp2_with fail
      go_ret
      exact ⟨ret_int HG.out.symm, Below.refl _ _⟩
  · have e1 : ((a.length : Int) != 5) = true := by simp; omega
    have HG : Hid (alikeS a b = -99) := by exact if_neg fun h => h1 h.1
    clear h1
    go_enter Try.func27, Try.ntmps27
    go_wp2_with fail
    go_ret
    exact ⟨ret_int HG.out.symm, Below.refl _ _⟩
end Go.Proofs.Ytapmeooffmonmaa
