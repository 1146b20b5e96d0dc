/- What the program's circle is. -/
import Derived.Test.YtmcnjmflmpfjlaaDoorV7
import Derived.Test.YtmcnjmflmpfjlaaDoorGw
namespace Go.Proofs.YtmcnjmflmpfjlaaDoor
open Go.RowKit

/-- The numbers of the contexts at places. -/
def idsAt (ids : List Int) (p : List Nat) : List Int := p.map fun i => ids[i]?.getD 0
def cycG (ids : List Int) (l : List Ctx) : List Int := idsAt ids (cycP (dirG ids (groupsG ids l) l) (szG ids l) (szG ids l))
theorem cycP_nil (f : Nat → Nat → Bool) : cycP f 0 0 = [] := rfl
theorem cycP_small {f : Nat → Nat → Bool} {n : Nat} (hf : ∀ i j, f i j = true → i < n ∧ j < n) : (cycP f n n).length ≤ n ∧ ∀ x ∈ cycP f n n, x < n := by
  have h := cycP_first hf
  have hx : ∀ x ∈ cycP f n n, x < n := by
    rcases h with ⟨h1, _⟩ | ⟨a, t, u, hb, _, _⟩
    · rw [h1]; simp
    · exact back_in (fun i j h => (hf i j h).2) hb
  exact ⟨nodup_le n _ (firstC_nodup h) hx, hx⟩
theorem cells_map (l : List Nat) : l.map encN = cellsI (l.map Int.ofNat) := cells_nat l
set_option maxHeartbeats 4000000 in
set_option maxRecDepth 100000 in
theorem iCycle_any (A B : Option Addr) (ca cb : Nat) (ids : List Int) (l : List Ctx) (w : World) (ha : Reads w w.heap.size 1 A ids.length (cellsI ids)) (hb : Reads w w.heap.size 3 B l.length (cellsC l)) (hn : ids.length ≤ 1000000000) (hl : l.length ≤ 1000000000) (hG : Glob w) :
    Calls Tryd.prog 5 #[.slice A ids.length ca, .slice B l.length cb] w (IntsPost w (cycG ids l)) := by
  obtain ⟨j0, hj0, jz0, jz1, jz2⟩ := info_parts infoInt
  have hdi := iDirect_any A B ca cb ids l w ha hb hn hl
  obtain ⟨n, hn0⟩ : ∃ n, n = szG ids l := ⟨_, rfl⟩
  have hn12 : n ≤ 12 := by rw [hn0]; exact szG_le ids l
  obtain ⟨F, hF⟩ : ∃ F, F = dirA ids (groupsG ids l) l := ⟨_, rfl⟩
  have hnl : n ≤ ids.length := by rw [hn0]; unfold szG; split <;> omega
  have hcy : cycG ids l = idsAt ids (cycP F n n) := by
    unfold cycG
    cases hok : okG ids l
    · rw [hn0, szG_no hok, cycP_nil, cycP_nil]
    · rw [hn0, szG_ok hok, hF, cycA hok]
  have hFin : 0 < n → ∀ i j, F i j = true → i < n ∧ j < n := fun hp i j h => by
    cases hok : okG ids l
    · rw [hn0, szG_no hok] at hp; omega
    · rw [hn0, szG_ok hok]
      rw [hF] at h
      exact dirA_in hok i j h
  rw [hcy]
  obtain ⟨ok, hok⟩ : ∃ ok, ok = okG ids l := ⟨_, rfl⟩
  rw [← hn0, ← hF, ← hok] at hdi
  have HV := Lib.hid (And.intro hFin (And.intro ha hG))
  clear hn0 hF hok ha hb hcy hFin hG
  go_enter Tryd.func5, Tryd.ntmps5
  go_wp2_with fail
  refine hdi.mono ?_
  rintro e w2 ⟨v2, rfl, hb2, ho2⟩
  obtain ⟨A2, c2, hv2, _, hr2⟩ := Reads.of_own ho2
  subst hv2
  have hs2 := hb2.size
  have H2 := Lib.hid (And.intro hb2 (And.intro hr2 (HV.out.2.2.step hb2)))
  clear hdi hb2 ho2 hr2
  go_wp2_with fail
  go_loopw [7, 21] (fun v i wr => ∃ (k : Nat) (p : List Nat), k ≤ n ∧ i = .int .i64 k ∧ Below w2.heap.size w2 wr ∧ p = cycP F n k ∧ wr.ownsRow w2.heap.size 3 1 v p.length (p.map encN)) (fun _ i _ => n - (intOf i).toNat)
  case atStart => exact ⟨0, [], Nat.zero_le _, rfl, Below.refl _ _, rfl, World.ownsRow_nil w2 w2.heap.size _ 1⟩
  case round =>
    obtain ⟨k, p, hk, rfl, hbl, hp, hown⟩ := hrel
    have hsz := hbl.size
    obtain ⟨Ap, cp, hvp, hcp, hrp⟩ := Reads.of_own hown
    subst hvp
    by_cases hlt : k < n
    · have hlti : (k : Int) < (n : Int) := by omega
      have hth := thru_any A2 c2 n k F wr (H2.out.2.1.step hbl) (H2.out.2.2.step hbl) hn12 hlt
      rw [thrP_walk (fun i j h => (HV.out.1 (by omega) i j h).2)] at hth
      have hnx := cycP_next F n k
      rw [← hp] at hnx
      obtain ⟨q, hq⟩ : ∃ q, q = walkP F n k := ⟨_, rfl⟩
      rw [← hq] at hth hnx
      have HP := Lib.hid (And.intro hbl (And.intro hown (And.intro hp hnx)))
      clear hbl hown hp hnx hrp hq
      go_wp2_with fail
      refine hth.mono ?_
      rintro e w3 ⟨v3, rfl, hb3, ho3⟩
      obtain ⟨A3, c3, hv3, _, _⟩ := Reads.of_own ho3
      subst hv3
      have H3 := Lib.hid (And.intro hb3 ho3)
      clear hth hb3 ho3
      by_cases hc : (decide (0 < q.length) && (decide (p.length = 0) || decide (q.length < p.length))) = true
      · have hbe : betterC p q = q := by unfold betterC; rw [if_pos hc]
        simp only [Bool.and_eq_true, Bool.or_eq_true, decide_eq_true_eq] at hc
        have e1 : decide ((0 : Int) < (q.length : Int)) = true := decide_eq_true (by omega)
        have e1' : decide (0 < q.length) = true := decide_eq_true (by omega)
        have HB := Lib.hid hbe
        clear hbe
        by_cases hp0 : p.length = 0
        · have e2 : ((p.length : Int) == 0) = true := by rw [beq_iff_eq]; omega
          clear hc hp0
          go_wp2_with fail
          go_roundw
          case rel => exact ⟨k + 1, q, by omega, by go_num, below_step HP.out.1 H3.out.1, by rw [HP.out.2.2.2, HB.out], own_less H3.out.2 hsz⟩
          case measure => simp [intOf]; omega
        · have e2 : ((p.length : Int) == 0) = false := by rw [beq_eq_false_iff_ne]; omega
          have e3 : decide ((q.length : Int) < (p.length : Int)) = true := decide_eq_true (by omega)
          have e3' : decide (q.length < p.length) = true := decide_eq_true (by omega)
          clear hc hp0
          go_wp2_with fail
          go_roundw
          case rel => exact ⟨k + 1, q, by omega, by go_num, below_step HP.out.1 H3.out.1, by rw [HP.out.2.2.2, HB.out], own_less H3.out.2 hsz⟩
          case measure => simp [intOf]; omega
      · have hbe : betterC p q = p := by unfold betterC; rw [if_neg hc]
        have HB := Lib.hid hbe
        clear hbe
        by_cases hq0 : q.length = 0
        · have e1 : decide ((0 : Int) < (q.length : Int)) = false := decide_eq_false (by omega)
          have e1' : decide (0 < q.length) = false := decide_eq_false (by omega)
          clear hc hq0
          go_wp2_with fail
          go_roundw
          case rel => exact ⟨k + 1, p, by omega, by go_num, below_step HP.out.1 H3.out.1, by rw [HP.out.2.2.2, HB.out], own_below HP.out.2.1 H3.out.1⟩
          case measure => simp [intOf]; omega
        · have e1 : decide ((0 : Int) < (q.length : Int)) = true := decide_eq_true (by omega)
          have e1' : decide (0 < q.length) = true := decide_eq_true (by omega)
          have hq1 : decide (0 < q.length) = true := by simp; omega
          rw [hq1, Bool.true_and, Bool.not_eq_true, Bool.or_eq_false_iff] at hc
          have e2 : ((p.length : Int) == 0) = false := by have h9 := decide_eq_false_iff_not.1 hc.1; rw [beq_eq_false_iff_ne]; omega
          have e3 : decide ((q.length : Int) < (p.length : Int)) = false := by have h9 := decide_eq_false_iff_not.1 hc.2; exact decide_eq_false (by omega)
          have e3' : decide (q.length < p.length) = false := hc.2
          clear hc hq0 hq1
          go_wp2_with fail
          go_roundw
          case rel => exact ⟨k + 1, p, by omega, by go_num, below_step HP.out.1 H3.out.1, by rw [HP.out.2.2.2, HB.out], own_below HP.out.2.1 H3.out.1⟩
          case measure => simp [intOf]; omega
    · have hkn : k = n := by omega
      rw [hkn] at hp
      have hpl : p.length ≤ 12 ∧ ∀ x ∈ p, x < n := by
        rcases Nat.eq_zero_or_pos n with h0 | h0
        · subst h0
          rw [hp, cycP_nil]
          simp
        · rw [hp]
          obtain ⟨h1, h2⟩ := cycP_small (HV.out.1 h0)
          exact ⟨by omega, h2⟩
      obtain ⟨hpl, hpx⟩ := hpl
      have HP := Lib.hid (And.intro hbl (And.intro hrp (And.intro hp hpx)))
      clear hbl hown hp hrp hpx hkn
      go_wp2_with (at_make
                   go_must (refine wpList_make_full _ rfl (.tmp 45) (.tmp 45) _ rfl wr.heap.size 3 j0 _ 1 Tryd.underlying23 hj0 jz0 jz1 _ _ _ _ p.length rfl rfl rfl rfl (by rw [jz2]; omega) (by simp only [maxLen]; omega) (Nat.le_refl _) ?_)
                   intro w5 hnew hg5
                   rw [zero_cellsI] at hnew)
      have hb5 : Below wr.heap.size wr w5 := (Below.refl _ _).grown hg5 (Nat.le_refl _) (fun k hk => by cases hk)
      obtain ⟨X, hX⟩ : ∃ X, X = idsAt ids p := ⟨_, rfl⟩
      have hXl : X.length = p.length := by rw [hX]; simp [idsAt]
      have hown0 : w5.ownsRow wr.heap.size 3 1 (.slice (some ⟨wr.heap.size, 0, none⟩) p.length p.length) p.length (cellsI (fillI X 0)) := by simpa [fillI, hXl] using hnew
      have hgl5 := (hnew.lt _ rfl).2
      have H5 := Lib.hid (And.intro hb5 (And.intro hown0 (And.intro hX hXl)))
      clear hnew hg5 hb5 hown0 hX hXl hj0 jz0 jz1 jz2
      go_loopw [49] (fun i w6 => ∃ k : Nat, k ≤ p.length ∧ i = .int .i64 k ∧ Below wr.heap.size wr w6 ∧ w6.ownsRow wr.heap.size 3 1 (.slice (some ⟨wr.heap.size, 0, none⟩) p.length p.length) p.length (cellsI (fillI X k))) (fun i _ => p.length - (intOf i).toNat)
      case atStart => exact ⟨0, Nat.zero_le _, rfl, H5.out.1, H5.out.2.1⟩
      case round =>
        obtain ⟨j, hj, rfl, hb6, ho6⟩ := hrel
        by_cases hjp : j < p.length
        · have hjpi : (j : Int) < (p.length : Int) := by omega
          obtain ⟨x, hx⟩ : ∃ x, p[j]? = some x := ⟨_, List.getElem?_eq_getElem hjp⟩
          have hxn := HP.out.2.2.2 x (List.mem_of_getElem? hx)
          obtain ⟨y, hy⟩ : ∃ y, ids[x]? = some y := ⟨_, List.getElem?_eq_getElem (by omega)⟩
          obtain ⟨b, off, hA, hbb, f1⟩ := Reads.cellE (HP.out.2.1.below hb6) hx
          simp only [encN] at f1
          have k6 := below_step (below_step H2.out.1 HP.out.1) hb6
          obtain ⟨b1, o1, hA1, hbb1, hc1⟩ := (HV.out.2.1.below k6).ints (by omega)
          have f2 := hc1 x _ hy
          obtain ⟨d1, d2⟩ := own_cell0 ho6 H5.out.2.2.2 hjp
          have hxi : (x : Int) < (ids.length : Int) := by omega
          have hXj : X[j]? = some y := by rw [H5.out.2.2.1, idsAt, List.getElem?_map, hx, Option.map_some, hy]; rfl
          have HJ := Lib.hid (And.intro hb6 (And.intro ho6 hXj))
          subst hA hA1
          clear hx hy hc1 hXj hb6 ho6 k6
          go_wp2_with fail
          go_roundw
          case rel =>
            have h9 := own_storeI HJ.out.2.1 j y
            rw [fillI_set HJ.out.2.2] at h9
            exact ⟨j + 1, by omega, by go_num, HJ.out.1.setCell (by simp) _, h9⟩
          case measure => simp [intOf]; omega
        · have hjl : j = p.length := by omega
          have HJ := Lib.hid (And.intro hjl (And.intro hb6 ho6))
          clear hjl hb6 ho6
          go_wp2_with fail
          go_ret
          obtain ⟨hjl, hb6, ho6⟩ := HJ.out
          have hall := fillI_all X
          rw [H5.out.2.2.2] at hall
          rw [hjl, hall] at ho6
          have hXp : X = idsAt ids (cycP F n n) := by rw [H5.out.2.2.1, HP.out.2.2.1]
          refine ⟨_, rfl, below_step (below_step H2.out.1 HP.out.1) hb6, ?_⟩
          rw [← hXp, H5.out.2.2.2]
          exact own_less ho6 (Nat.le_trans hs2 hsz)
end Go.Proofs.YtmcnjmflmpfjlaaDoor
