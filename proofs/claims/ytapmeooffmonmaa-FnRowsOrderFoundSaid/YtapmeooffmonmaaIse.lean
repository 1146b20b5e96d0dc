/- The program's rows in an order. -/
import Derived.Test.YtapmeooffmonmaaIsa
import Derived.Test.YtapmeooffmonmaaCln
import Derived.Test.YtapmeooffmonmaaSe4
namespace Go.Proofs.Ytapmeooffmonmaa
open Go.RowKit

set_option maxHeartbeats 4000000 in
set_option maxRecDepth 100000 in
theorem iTaken_any (A D : Option Addr) (ca cd : Nat) (rows : List (List Bool)) (o : List Int) (w : World) (hr : Nest encB w w.heap.size A rows.length rows) (ho : Reads w w.heap.size 1 D o.length (cellsI o)) (_ : rows.length ≤ 1000000000) (hol : o.length ≤ 1000) (h5 : ∀ r ∈ rows, r.length ≤ 1000) (hin : ∀ x ∈ o, 0 ≤ x ∧ x < rows.length) :
    Calls Try.prog 54 #[.slice A rows.length ca, .slice D o.length cd] w (TabS w (takeS rows o)) := by
  obtain ⟨ir, hir, hrz, hrs, hrb⟩ := info_parts infoBools
  have H := Lib.hid (And.intro hr (And.intro ho (And.intro h5 hin)))
  clear hr ho h5 hin
  go_enter Try.func54, Try.ntmps54
  go_wp2_with (at_make
               go_must (refine wpList_make_full _ rfl (.tmp 9) (.tmp 9) _ rfl w.heap.size 26 ir _ 1 Try.underlying23 hir hrz hrs _ _ _ _ o.length rfl rfl rfl rfl (by rw [hrb]; omega) (by simp only [maxLen]; omega) (Nat.le_refl _) ?_)
               intro w5 hown hg5)
  rw [zero_nils] at hown
  have hb5 : Below w.heap.size w w5 := (Below.refl _ _).grown hg5 (Nat.le_refl _) (fun k hk => by cases hk)
  have hv5 : OwnV encB w5 w.heap.size 4 26 (.slice (some ⟨w.heap.size, 0, none⟩) o.length o.length) (List.replicate o.length (Value.slice none 0 0)) (List.replicate o.length []) := OwnV.nils hown
  have hTZ : (takeS rows o).length = (List.replicate o.length ([] : List Bool)).length := by simp [takeS_len]
  have H5 := Lib.hid (And.intro hb5 (And.intro hv5 hTZ))
  clear hown hg5 hb5 hv5 hTZ
  go_loopw [13] (fun i wr => ∃ (k : Nat) (vs : List Value), k ≤ o.length ∧ i = .int .i64 k ∧ Below w.heap.size w wr ∧ OwnV encB wr w.heap.size 4 26 (.slice (some ⟨w.heap.size, 0, none⟩) o.length o.length) vs (mixL (takeS rows o) (List.replicate o.length []) k)) (fun i _ => o.length - (intOf i).toNat)
  case atStart => exact ⟨0, _, Nat.zero_le _, rfl, H5.out.1, by rw [mixL_zero]; exact H5.out.2.1⟩
  case round =>
    obtain ⟨k, vs, hk, rfl, hbl, hown⟩ := hrel
    have hsz := hbl.size
    by_cases hlt : k < o.length
    · have hki : (k : Int) < (o.length : Int) := by omega
      obtain ⟨x, hx⟩ : ∃ x, o[k]? = some x := ⟨_, List.getElem?_eq_getElem hlt⟩
      obtain ⟨hx0, hxn⟩ := H.out.2.2.2 x (List.mem_of_getElem? hx)
      obtain ⟨i, rfl⟩ : ∃ i : Nat, x = (i : Int) := ⟨x.toNat, by omega⟩
      obtain ⟨r, hri⟩ : ∃ r, rows[i]? = some r := ⟨_, List.getElem?_eq_getElem (by omega)⟩
      have hr5 := H.out.2.2.1 r (List.mem_of_getElem? hri)
      obtain ⟨bo, oo, hD, hbo, hco⟩ := (H.out.2.1.below hbl).ints (by omega)
      subst hD
      have c1 := hco k _ hx
      obtain ⟨b, off, A2, c2, hA, hb, c3, _, hr2⟩ := (H.out.1.below hbl).row hri
      subst hA
      have hTk : (takeS rows o)[k]? = some r := by rw [takeS_at hx]; simp [hri]
      have hset := mixL_set H5.out.2.2 hTk
      have hmk : (mixL (takeS rows o) (List.replicate o.length []) k).length = o.length := by rw [mixL_len H5.out.2.2 (by simp; omega)]; simp
      have hout := hown.out
      have hvl := hown.len
      rw [hmk] at hout hvl
      have hcz : wr.frozen? ⟨w.heap.size, k, none⟩ = false := hout.frozenAt k
      obtain ⟨u0, hu0⟩ : ∃ u0, vs[k]? = some u0 := ⟨_, List.getElem?_eq_getElem (by omega)⟩
      have hc0 := (hout.cellAt k (by omega)).trans hu0
      have hol2 := (hout.lt _ rfl).2
      have hC := cloneB_any A2 c2 r wr (hr2.more hsz) (by omega)
      have HX := Lib.hid (And.intro hbl (And.intro hown (And.intro hset (And.intro hvl hC))))
      clear hbl hown hout hu0 hvl hmk hco hset hTk hr2 hC hx hri
      go_wp2_with (go_at_call 65; go_must (refine HX.out.2.2.2.2.mono ?_); rintro e w6 ⟨v6, rfl, b6, o6⟩
                   obtain ⟨A6, c6, hv6, _, _⟩ := own_slice o6
                   subst hv6
                   have O6 := Lib.hid o6
                   clear o6
                   have f1 := (World.cell?_of_block (w := wr) (a := ⟨w.heap.size, k, none⟩) (b6.block _ hol2)).trans hc0
                   have f2 := (World.frozen?_of_block (w := wr) (a := ⟨w.heap.size, k, none⟩) (b6.block _ hol2)).trans hcz)
      go_roundw
      case rel =>
        have hp := (HX.out.2.1.below b6).put (r := r) (u := .slice A6 r.length c6) (own_less O6.out hsz) (HX.out.2.1.fresh O6.out (Nat.le_refl _)) k
        rw [HX.out.2.2.1] at hp
        exact ⟨k + 1, _, by omega, by go_num, (below_step HX.out.1 b6).setCell (by simp) _, hp⟩
      case measure => simp [intOf]; omega
    · have hkn : k = (List.replicate o.length ([] : List Bool)).length := by simp; omega
      rw [hkn, mixL_all H5.out.2.2] at hown
      have HX := Lib.hid (And.intro hbl hown)
      have hdn : decide ((k : Int) < (o.length : Int)) = false := decide_eq_false (by omega)
      clear hbl hown hkn
      go_wp2_with fail
      go_ret
      exact ⟨_, vs, rfl, HX.out.1, HX.out.2⟩
set_option maxHeartbeats 3200000 in
set_option maxRecDepth 100000 in
theorem iRowsTake_any (A D : Option Addr) (ca cd : Nat) (rows : List (List Bool)) (o : List Int) (w : World) (hr : Nest encB w w.heap.size A rows.length rows) (ho : Reads w w.heap.size 1 D o.length (cellsI o)) (hl : rows.length ≤ 2000000) (_ : ∀ r ∈ rows, r.length ≤ 2000000) (hol : o.length ≤ 1000000000) :
    Calls Try.prog 24 #[.slice A rows.length ca, .slice D o.length cd] w (TabSP w (takeG rows o) (takeOk rows o)) := by
  have hV := iRowsVs_any A ca rows w hr (by omega)
  have hoE : OwnV encB w w.heap.size 4 26 (.slice none 0 0) [] [] := OwnV.nil_ (World.ownsRow_nil _ _ _ _)
  have HE := Lib.hid hoE
  clear hoE
  cases h1 : okS rows
  · have HN : Hid (takeOk rows o = false) := by show takeOk rows o = false; simp [takeOk, h1]
    rw [h1] at hV
    have H := Lib.hid hV
    clear hV h1 hr ho
    go_enter Try.func24, Try.ntmps24
    go_wp2_with (go_at_call 31; go_must (refine H.out.mono ?_); rintro e w2 ⟨rfl, rfl⟩)
    go_ret2
    exact tabSP_no HN.out (Below.refl _ _) HE.out
  · rw [h1] at hV
    by_cases h2 : o.length = rows.length
    · obtain ⟨h5, hn1, hn5⟩ := okS_parts h1
      have h1000 : ∀ r ∈ rows, r.length ≤ 1000 := fun r hr => by have := h5 r hr; omega
      have e2 : ((o.length : Int) != (rows.length : Int)) = false := by simp; omega
      have hT := fun (hin : ∀ x ∈ o, 0 ≤ x ∧ x < (rows.length : Int)) => iTaken_any A D ca cd rows o w hr ho (by omega) (by omega) h1000 hin
      have H := Lib.hid (And.intro hV (And.intro hT (And.intro h1 (And.intro h2 ho))))
      clear hV h1 h2 hr hT ho
      go_enter Try.func24, Try.ntmps24
      go_wp2_with (go_at_call 31; go_must (refine H.out.1.mono ?_); rintro e w2 ⟨rfl, rfl⟩)
      go_loop [19] (fun c => ∃ k : Nat, k ≤ rows.length ∧ c = .int .i64 k ∧ ∀ j : Nat, j < k → (j : Int) ∈ o) (fun c => rows.length - (intOf c).toNat)
      case atStart => exact ⟨0, Nat.zero_le _, rfl, fun j h => absurd h (by omega)⟩
      case round =>
        obtain ⟨k, hk, rfl, hg⟩ := hrel
        have HG := Lib.hid hg
        clear hg
        by_cases hlt : k < rows.length
        · have hki : (k : Int) < (rows.length : Int) := by omega
          have hP := containsIs_any D cd o (k : Int) w H.out.2.2.2.2 (by omega)
          by_cases hm : (k : Int) ∈ o
          · rw [decide_eq_true hm] at hP
            have HX := Lib.hid (And.intro hP hm)
            clear hP hm
            go_wp2_with (go_at_call 53; go_must (refine HX.out.1.mono ?_); rintro e w2 ⟨rfl, rfl⟩)
            go_round
            case rel =>
              refine ⟨k + 1, by omega, by go_num, fun j hj => ?_⟩
              by_cases hjk : j < k
              · exact HG.out j hjk
              · obtain rfl : j = k := by omega
                exact HX.out.2
            case measure => simp [intOf]; omega
          · rw [decide_eq_false hm] at hP
            have HN : Hid (takeOk rows o = false) := by
              show takeOk rows o = false
              cases ht : takeOk rows o
              · rfl
              · exact absurd ((takeOk_parts ht).2.2 k hlt) hm
            have HX := Lib.hid hP
            clear hP hm
            go_wp2_with (go_at_call 53; go_must (refine HX.out.mono ?_); rintro e w2 ⟨rfl, rfl⟩)
            go_ret2
            exact tabSP_no HN.out (Below.refl _ _) HE.out
        · have hkn : k = rows.length := by omega
          have hall : ∀ j : Nat, j < rows.length → (j : Int) ∈ o := fun j hj => HG.out j (by omega)
          have hp := pigS rows.length o H.out.2.2.2.1 hall
          have hok := takeOk_perm H.out.2.2.1 hp
          have hTT := H.out.2.1 hp.2.1
          have hdn : decide ((k : Int) < (rows.length : Int)) = false := decide_eq_false (by omega)
          have HX := Lib.hid (And.intro hok hTT)
          clear hkn hall hp hok hTT
          go_wp2_with (go_at_call 54; go_must (refine HX.out.2.mono ?_); rintro e w2 ⟨v2, vs2, rfl, k2, o2⟩)
          go_ret2
          unfold TabSP
          rw [HX.out.1, takeG_ok HX.out.1]
          exact ⟨v2, vs2, rfl, k2, o2⟩
    · have e2 : ((o.length : Int) != (rows.length : Int)) = true := by simp; omega
      have HN : Hid (takeOk rows o = false) := by show takeOk rows o = false; simp [takeOk, h2]
      have H := Lib.hid hV
      clear hV h1 h2 hr ho
      go_enter Try.func24, Try.ntmps24
      go_wp2_with (go_at_call 31; go_must (refine H.out.mono ?_); rintro e w2 ⟨rfl, rfl⟩)
      go_ret2
      exact tabSP_no HN.out (Below.refl _ _) HE.out
end Go.Proofs.Ytapmeooffmonmaa
