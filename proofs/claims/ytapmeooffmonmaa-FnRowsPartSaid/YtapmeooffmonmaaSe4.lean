/- How alike the model finds two rows, and its rows in an order that is checked. -/
import Derived.Test.YtapmeooffmonmaaSe3
namespace Go.Proofs.Ytapmeooffmonmaa
open Go.RowKit

theorem alF_next {a b : List Bool} {k : Nat} {x y : Bool} (hx : a[k]? = some x) (hy : b[k]? = some y) : alF a b (k + 1) = alF a b k + if (x && y) = true then 1 else if (x != y) = true then -1 else 0 := by
  show alF a b k + _ = _
  simp [hx, hy]
set_option maxHeartbeats 3200000 in
set_option maxRecDepth 100000 in
theorem sAlike_any (A B : Option Addr) (ca cb : Nat) (a b : List Bool) (w : World) (ha : Reads w w.heap.size 1 A a.length (a.map encB)) (hb : Reads w w.heap.size 1 B b.length (b.map encB)) (_ : a.length ≤ 1000000000) (_ : b.length ≤ 1000000000) :
    Calls Try.prog 29 #[.slice A a.length ca, .slice B b.length cb] w fun e w2 => e = .returned (.int .i64 (alikeS a b)) ∧ Below w.heap.size w w2 := by
  by_cases h1 : a.length = 5
  · by_cases h2 : b.length = 5
    · have e1 : ((a.length : Int) != 5) = false := by simp; omega
      have e2 : ((b.length : Int) != 5) = false := by simp; omega
      have hG : alikeS a b = alF a b 5 := if_pos ⟨h1, h2⟩
      have hka : ∀ k : Nat, k < 5 → (k : Int) < (a.length : Int) := fun k hk => by omega
      have hkb : ∀ k : Nat, k < 5 → (k : Int) < (b.length : Int) := fun k hk => by omega
      have H := Lib.hid (And.intro ha (And.intro hb (And.intro hG (And.intro h1 (And.intro h2 (And.intro hka hkb))))))
      clear ha hb hG h1 h2 hka hkb
      go_enter Try.func29, Try.ntmps29
      go_wp2_with fail
      go_loopw [5, 6] (fun m i wr => ∃ k : Nat, k ≤ 5 ∧ i = .int .i64 k ∧ m = .int .i64 (alF a b k) ∧ Below w.heap.size w wr) (fun _ i _ => 5 - (intOf i).toNat)
      case atStart => exact ⟨0, by omega, rfl, rfl, Below.refl _ _⟩
      case round =>
        obtain ⟨k, hk, rfl, rfl, hbl⟩ := hrel
        have hle := alF_le a b k
        by_cases hlt : k < 5
        · have hki : (k : Int) < 5 := by omega
          have hk1 := H.out.2.2.2.2.2.1 k hlt
          have hk2 := H.out.2.2.2.2.2.2 k hlt
          obtain ⟨x, hx⟩ : ∃ x, a[k]? = some x := ⟨_, List.getElem?_eq_getElem (by omega)⟩
          obtain ⟨y, hy⟩ : ∃ y, b[k]? = some y := ⟨_, List.getElem?_eq_getElem (by omega)⟩
          obtain ⟨ba, oa, hA, hba, d1⟩ := (H.out.1.step hbl).cellE hx
          obtain ⟨bb, ob, hB, hbb, d2⟩ := (H.out.2.1.step hbl).cellE hy
          subst hA hB
          simp only [encB] at d1 d2
          have hn := alF_next hx hy
          obtain ⟨m, hm⟩ : ∃ m, m = alF a b k := ⟨_, rfl⟩
          rw [← hm] at hn hle ⊢
          have HN := Lib.hid (And.intro hn hbl)
          clear hn hm hx hy hbl
          cases x
          · cases y
            · go_wp2_with fail
              go_quiet (fail)
              go_wp2_with fail
              go_roundw
              case rel => exact ⟨k + 1, by omega, by go_num, by rw [HN.out.1]; simp, below_draws HN.out.2 nq⟩
              case measure => simp [intOf]; omega
            · go_wp2_with fail
              go_quiet (fail)
              go_wp2_with fail
              go_roundw
              case rel => exact ⟨k + 1, by omega, by go_num, by rw [HN.out.1]; go_num, below_draws HN.out.2 nq⟩
              case measure => simp [intOf]; omega
          · cases y
            · go_wp2_with fail
              go_quiet (fail)
              go_wp2_with fail
              go_roundw
              case rel => exact ⟨k + 1, by omega, by go_num, by rw [HN.out.1]; go_num, below_draws HN.out.2 nq⟩
              case measure => simp [intOf]; omega
            · go_wp2_with fail
              go_roundw
              case rel => exact ⟨k + 1, by omega, by go_num, by rw [HN.out.1]; go_num, HN.out.2⟩
              case measure => simp [intOf]; omega
        · have hk5 : k = 5 := by omega
          have hG := H.out.2.2.1
          rw [← hk5] at hG
          have HB := Lib.hid (And.intro hbl hG)
          have hdn : decide ((k : Int) < 5) = false := decide_eq_false (by omega)
          clear hbl hk5 hG
          go_wp2_with fail
          go_ret
          exact ⟨ret_int HB.out.2.symm, HB.out.1⟩
    · have e1 : ((a.length : Int) != 5) = false := by simp; omega
      have e2 : ((b.length : Int) != 5) = true := by simp; omega
      have HG : Hid (alikeS a b = -99) := by exact if_neg fun h => h2 h.2
      clear h1 h2
      go_enter Try.func29, Try.ntmps29
      go_wp2_with fail
      go_ret
      exact ⟨ret_int HG.out.symm, Below.refl _ _⟩
  · have e1 : ((a.length : Int) != 5) = true := by simp; omega
    have HG : Hid (alikeS a b = -99) := by exact if_neg fun h => h1 h.1
    clear h1
    go_enter Try.func29, Try.ntmps29
    go_wp2_with fail
    go_ret
    exact ⟨ret_int HG.out.symm, Below.refl _ _⟩
/-- A table of Booleans of the call's own, and a word. -/
def TabSP (w : World) (T : List (List Bool)) (ok : Bool) (e : Ending) (w2 : World) : Prop :=
  ∃ v vs, e = .returned (.tuple #[v, .bool ok]) ∧ Below w.heap.size w w2 ∧ OwnV encB w2 w.heap.size 4 26 v vs T
theorem tabSP_no {w w2 : World} {rows : List (List Bool)} {o : List Int} (h : takeOk rows o = false) (hb : Below w.heap.size w w2) {v : Value} (ho : OwnV encB w2 w.heap.size 4 26 v [] []) : TabSP w (takeG rows o) (takeOk rows o) (.returned (.tuple #[v, .bool false])) w2 := by
  unfold TabSP
  rw [takeG_no h, h]
  exact ⟨v, [], rfl, hb, ho⟩
set_option maxHeartbeats 3200000 in
set_option maxRecDepth 100000 in
theorem sRowsTake_any (A D : Option Addr) (ca cd : Nat) (rows : List (List Bool)) (o : List Int) (w : World) (hr : Nest encB w w.heap.size A rows.length rows) (ho : Reads w w.heap.size 1 D o.length (cellsI o)) (hl : rows.length ≤ 1000000000) (hol : o.length ≤ 1000000000) :
    Calls Try.prog 26 #[.slice A rows.length ca, .slice D o.length cd] w (TabSP w (takeG rows o) (takeOk rows o)) := by
  have hV := sRowsV_any A ca rows w hr (by omega)
  have hbE : Below w.heap.size w (w.alloc (.cells #[] 26)) := (Below.refl _ _).alloc (Nat.le_refl _) _
  have hoE : OwnV encB (w.alloc (.cells #[] 26)) w.heap.size 4 26 (.slice (some ⟨w.heap.size, 0, none⟩) 0 0) [] [] := OwnV.nil_ (own_empty (Nat.le_refl _) rfl)
  have HE := Lib.hid (And.intro hbE hoE)
  clear hbE hoE
  cases h1 : okS rows
  · have HN : Hid (takeOk rows o = false) := by show takeOk rows o = false; simp [takeOk, h1]
    rw [h1] at hV
    have H := Lib.hid hV
    clear hV h1 hr ho
    go_enter Try.func26, Try.ntmps26
    go_wp2_with (go_at_call 19; go_must (refine H.out.mono ?_); rintro e w2 ⟨rfl, rfl⟩)
    go_ret2
    exact tabSP_no HN.out HE.out.1 HE.out.2
  · rw [h1] at hV
    by_cases h2 : o.length = rows.length
    · obtain ⟨h5, hn1, hn5⟩ := okS_parts h1
      have h1000 : ∀ r ∈ rows, r.length ≤ 1000 := fun r hr => by have := h5 r hr; omega
      have e2 : ((o.length : Int) != (rows.length : Int)) = false := by simp; omega
      have hT := fun (hin : ∀ x ∈ o, 0 ≤ x ∧ x < (rows.length : Int)) => sTake_any A D ca cd rows o w hr ho (by omega) (by omega) h1000 hin
      have H := Lib.hid (And.intro hV (And.intro hT (And.intro h1 (And.intro h2 ho))))
      clear hV h1 h2 hr hT ho
      go_enter Try.func26, Try.ntmps26
      go_wp2_with (go_at_call 19; go_must (refine H.out.1.mono ?_); rintro e w2 ⟨rfl, rfl⟩)
      go_loop [6] (fun c => ∃ k : Nat, k ≤ rows.length ∧ c = .int .i64 k ∧ ∀ j : Nat, j < k → (j : Int) ∈ o) (fun c => rows.length - (intOf c).toNat)
      case atStart => exact ⟨0, Nat.zero_le _, rfl, fun j h => absurd h (by omega)⟩
      case round =>
        obtain ⟨k, hk, rfl, hg⟩ := hrel
        have HG := Lib.hid hg
        clear hg
        by_cases hlt : k < rows.length
        · have hki : (k : Int) < (rows.length : Int) := by omega
          have hP := sPlace_any D cd o (k : Int) w H.out.2.2.2.2 (by omega)
          have hneg := findI_neg o (k : Int)
          by_cases hm : (k : Int) ∈ o
          · rw [decide_eq_true hm] at hneg
            have HX := Lib.hid (And.intro hP hm)
            clear hP hm
            go_wp2_with (go_at_call 55; go_must (refine HX.out.1.mono ?_); rintro e w2 ⟨rfl, rfl⟩)
            go_round
            case rel =>
              refine ⟨k + 1, by omega, by go_num, fun j hj => ?_⟩
              by_cases hjk : j < k
              · exact HG.out j hjk
              · obtain rfl : j = k := by omega
                exact HX.out.2
            case measure => simp [intOf]; omega
          · rw [decide_eq_false hm] at hneg
            have HN : Hid (takeOk rows o = false) := by
              show takeOk rows o = false
              cases ht : takeOk rows o
              · rfl
              · exact absurd ((takeOk_parts ht).2.2 k hlt) hm
            have HX := Lib.hid hP
            clear hP hm
            go_wp2_with (go_at_call 55; go_must (refine HX.out.mono ?_); rintro e w2 ⟨rfl, rfl⟩)
            go_ret2
            exact tabSP_no HN.out HE.out.1 HE.out.2
        · have hkn : k = rows.length := by omega
          have hall : ∀ j : Nat, j < rows.length → (j : Int) ∈ o := fun j hj => HG.out j (by omega)
          have hp := pigS rows.length o H.out.2.2.2.1 hall
          have hok := takeOk_perm H.out.2.2.1 hp
          have hTT := H.out.2.1 hp.2.1
          have hdn : decide ((k : Int) < (rows.length : Int)) = false := decide_eq_false (by omega)
          have HX := Lib.hid (And.intro hok hTT)
          clear hkn hall hp hok hTT
          go_wp2_with (go_at_call 46; go_must (refine HX.out.2.mono ?_); rintro e w2 ⟨v2, vs2, rfl, k2, o2⟩)
          go_ret2
          unfold TabSP
          rw [HX.out.1, takeG_ok HX.out.1]
          exact ⟨v2, vs2, rfl, k2, o2⟩
    · have e2 : ((o.length : Int) != (rows.length : Int)) = true := by simp; omega
      have HN : Hid (takeOk rows o = false) := by show takeOk rows o = false; simp [takeOk, h2]
      have H := Lib.hid hV
      clear hV h1 h2 hr ho
      go_enter Try.func26, Try.ntmps26
      go_wp2_with (go_at_call 19; go_must (refine H.out.mono ?_); rintro e w2 ⟨rfl, rfl⟩)
      go_ret2
      exact tabSP_no HN.out HE.out.1 HE.out.2
end Go.Proofs.Ytapmeooffmonmaa
