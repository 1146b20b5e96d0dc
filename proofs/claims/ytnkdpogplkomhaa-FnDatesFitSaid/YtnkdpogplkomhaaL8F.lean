/-
  Whatever bytes are given: of contexts, relations, bounds and years drawn from them, the program tells that the years fit just where they keep the order, the groups and the bounds; so does the model. No condition.
-/
import Derived.Test.YtnkdpogplkomhaaEnt
import Derived.Test.YtnkdpogplkomhaaLif
import Derived.Test.YtnkdpogplkomhaaMak
import Derived.Test.YtnkdpogplkomhaaZz
import Derived.Test.YtnkdpogplkomhaaId
import Derived.Test.YtnkdpogplkomhaaOpen
import Derived.Test.YtnkdpogplkomhaaGg
import Derived.Test.YtnkdpogplkomhaaV5
import Derived.Test.YtnkdpogplkomhaaEe
import Derived.Test.YtnkdpogplkomhaaLw
import Derived.Deep.RegionHeld3
import Derived.Deep.CutBlock
namespace Go.Proofs.Ytnkdpogplkomhaa.lawDatesFit
open Go.ChangeShapes Go.WideShapes Go.ChangeAt Go.RowKit

/-- A year is in the range. -/
def c1B (y : Int) : Bool := decide (0 ≤ y) && decide (y ≤ 999)
/-- Two places' years keep the order and the groups. -/
def c2B (ids : List Int) (l : List Ctx) (Y : List Int) (i j : Nat) : Bool := (!upG ids l (ids.getD i 0) (ids.getD j 0) || decide (Y.getD j 0 ≤ Y.getD i 0)) && (!decide ((groupsG ids l).getD i 0 = (groupsG ids l).getD j 0) || decide (Y.getD i 0 = Y.getD j 0))
def rowB (ids : List Int) (l : List Ctx) (Y : List Int) (i j : Nat) : Bool := (List.range j).all (c2B ids l Y i)
def allB (ids : List Int) (l : List Ctx) (Y : List Int) (k : Nat) : Bool := (List.range k).all fun i => c1B (Y.getD i 0) && rowB ids l Y i ids.length
def oneB (ids Y : List Int) (b : Ctx) (a : Nat) : Bool := decide (ids.getD a 0 = b.id) && (decide (b.kind ≤ Y.getD a 0) && decide (Y.getD a 0 ≤ b.area))
def somB (ids Y : List Int) (b : Ctx) (i : Nat) : Bool := (List.range i).any (oneB ids Y b)
def bndB (ids Y : List Int) (bs : List Ctx) (k : Nat) : Bool := (bs.take k).all fun b => somB ids Y b ids.length
section
variable {ids Y : List Int} {l bs : List Ctx}
theorem rowB_next (i j : Nat) : rowB ids l Y i (j + 1) = (rowB ids l Y i j && c2B ids l Y i j) := by simp [rowB, List.range_succ]
theorem allB_next (k : Nat) : allB ids l Y (k + 1) = (allB ids l Y k && (c1B (Y.getD k 0) && rowB ids l Y k ids.length)) := by simp [allB, List.range_succ]
theorem somB_next (b : Ctx) (i : Nat) : somB ids Y b (i + 1) = (somB ids Y b i || oneB ids Y b i) := by simp [somB, List.range_succ]
theorem bndB_next {k : Nat} {b : Ctx} (h : bs[k]? = some b) : bndB ids Y bs (k + 1) = (bndB ids Y bs k && somB ids Y b ids.length) := by
  rw [bndB, List.take_add_one, h]
  simp [bndB]
theorem allB_no {k n : Nat} (hk : k ≤ n) (h : allB ids l Y k = false) : allB ids l Y n = false := by
  cases hn : allB ids l Y n
  · rfl
  · have : allB ids l Y k = true := by
      simp only [allB, List.all_eq_true, List.mem_range] at hn ⊢
      exact fun i hi => hn i (by omega)
    rw [h] at this
    cases this
theorem fit_is (ho : ordOkG ids l = true) (hv : validB bs = true) (hl : Y.length = ids.length) : fitD ids l bs Y = (allB ids l Y ids.length && bndB ids Y bs bs.length) := by
  rw [Bool.eq_iff_iff, fit_told ho hv hl]
  simp only [allB, bndB, rowB, c1B, c2B, somB, oneB, Bool.and_eq_true, List.all_eq_true, List.any_eq_true, List.mem_range, decide_eq_true_eq, List.take_length, Bool.or_eq_true, Bool.not_eq_true', decide_eq_false_iff_not]
  constructor
  · rintro ⟨h1, h2⟩
    refine ⟨fun i hi => ⟨(h1 i hi).1, fun j hj => ⟨?_, ?_⟩⟩, fun b hb => ?_⟩
    · cases hu : upG ids l (ids.getD i 0) (ids.getD j 0)
      · exact .inl rfl
      · exact .inr (((h1 i hi).2 j hj).1 hu)
    · by_cases hg : (groupsG ids l).getD i 0 = (groupsG ids l).getD j 0
      · exact .inr (((h1 i hi).2 j hj).2 hg)
      · exact .inl hg
    · obtain ⟨i, hi, h3, h4, h5⟩ := h2 b hb
      exact ⟨i, hi, h3, h4, h5⟩
  · rintro ⟨h1, h2⟩
    refine ⟨fun i hi => ⟨(h1 i hi).1, fun j hj => ⟨fun hu => ?_, fun hg => ?_⟩⟩, fun b hb => ?_⟩
    · rcases ((h1 i hi).2 j hj).1 with h | h
      · rw [hu] at h; cases h
      · exact h
    · rcases ((h1 i hi).2 j hj).2 with h | h
      · exact absurd hg h
      · exact h
    · obtain ⟨i, hi, h3, h4, h5⟩ := h2 b hb
      exact ⟨i, hi, h3, h4, h5⟩
end
set_option maxHeartbeats 8000000 in
set_option maxRecDepth 100000 in
theorem walk_short (A : Option Addr) (c : Nat) (z : List Int) (w : World) (h : Bytes w A c z) (hn : z.length ≤ 1048576) :
    Calls Try.prog 5 #[.slice A z.length c] w fun e w2 => e = .returned (.bool true) ∧ Below w.heap.size w w2 := by
  have e0 : decide ((1048576 : Int) < (z.length : Int)) = false := decide_eq_false (by omega)
  go_enter Try.func5, Try.ntmps5
  go_wp2_with fail
  refine (dFit_any A c z _ h).mono ?_
  rintro e w2 ⟨v1, v2, v3, v4, ids, l, bs, Y, rfl, ⟨ho1, ho2, ho3, hl1, hl2, hl3, hb2⟩, ho4, hl4⟩
  obtain ⟨A1, c1, hv1, hcap1, hr1⟩ := own_slice ho1
  obtain ⟨A2, c2, hv2, hcap2, hr2⟩ := own_slice ho2
  obtain ⟨A3, c3, hv3, hcap3, hr3⟩ := own_slice ho3
  obtain ⟨A4, c4, hv4, hcap4, hr4⟩ := own_slice ho4
  subst hv1 hv2 hv3 hv4
  have HR := Lib.hid (And.intro hb2 (And.intro hr1 (And.intro hr2 (And.intro hr3 hr4))))
  clear ho1 ho2 ho3 ho4 hb2 h hr1 hr2 hr3 hr4
  obtain ⟨o, ho⟩ : ∃ o, o = fitD ids l bs Y := ⟨_, rfl⟩
  have eb : (o != o) = false := by simp
  have ec : (o == o) = true := by simp
  have hfi := iDatesFit_any A1 A2 A3 A4 c1 c2 c3 c4 ids l bs Y w2 HR.out.2.1 HR.out.2.2.1 HR.out.2.2.2.1 HR.out.2.2.2.2 (by omega) (by omega) (by omega) (by omega)
  have hfs := fun (W : World) (hW : Below w2.heap.size w2 W) => sDatesFit_any A1 A2 A3 A4 c1 c2 c3 c4 ids l bs Y W (HR.out.2.1.step hW) (HR.out.2.2.1.step hW) (HR.out.2.2.2.1.step hW) (HR.out.2.2.2.2.step hW) (by omega) (by omega) (by omega) (by omega)
  rw [← ho] at hfi hfs
  have HC := Lib.hid (And.intro ho (And.intro hfi hfs))
  clear ho hfi hfs
  go_wp2_with fail
  refine HC.out.2.1.mono ?_
  rintro e w3 ⟨rfl, hb3⟩
  have B3 := Lib.hid hb3
  clear hb3
  go_wp2_with fail
  refine (HC.out.2.2 _ B3.out).mono ?_
  rintro e w4 ⟨rfl, hb4⟩
  have k4 := below_step B3.out hb4
  have R := Lib.hid (And.intro (HR.out.2.1.step k4) (And.intro (HR.out.2.2.1.step k4) (And.intro (HR.out.2.2.2.1.step k4) (And.intro (HR.out.2.2.2.2.step k4) (below_step HR.out.1 k4)))))
  clear hb4 k4
  have hov := fun (W : World) (hW : Below w4.heap.size w4 W) => iOrdValid_any A1 A2 c1 c2 ids l W (R.out.1.step hW) (R.out.2.1.step hW) (by omega) (by omega)
  have hbv := fun (W : World) (hW : Below w4.heap.size w4 W) => iBoundsValid_any A3 c3 bs W (R.out.2.2.1.step hW) (by omega)
  obtain ⟨od, hod⟩ : ∃ od, ordOkG ids l = od := ⟨_, rfl⟩
  obtain ⟨vb, hvb⟩ : ∃ vb, validB bs = vb := ⟨_, rfl⟩
  rw [hod] at hov
  rw [hvb] at hbv
  have HV := Lib.hid (And.intro hov hbv)
  clear hov hbv
  cases od
  · have hof : o = false := by rw [HC.out.1]; exact fit_args (args_ord hod)
    subst hof
    clear hod hvb eb ec
    go_wp2_with fail
    refine (HV.out.1 _ (Below.refl _ _)).mono ?_
    rintro e w5 ⟨rfl, hb5⟩
    go_wp2_with fail
    go_ret
    exact ⟨rfl, below_step R.out.2.2.2.2 hb5⟩
  · cases vb
    · have hof : o = false := by rw [HC.out.1]; exact fit_args (args_bnd hvb)
      subst hof
      clear hod hvb eb ec
      go_wp2_with fail
      refine (HV.out.1 _ (Below.refl _ _)).mono ?_
      rintro e w5 ⟨rfl, hb5⟩
      have B5 := Lib.hid hb5
      clear hb5
      go_wp2_with fail
      refine (HV.out.2 _ B5.out).mono ?_
      rintro e w6 ⟨rfl, hb6⟩
      go_wp2_with fail
      go_ret
      exact ⟨rfl, below_step R.out.2.2.2.2 (below_step B5.out hb6)⟩
    · by_cases hlen : Y.length = ids.length
      · have enl : ((Y.length : Int) != (ids.length : Int)) = false := by simp [hlen]
        have hokG := ordOk_okG hod
        have hn12 : ids.length ≤ 12 := validO_len (okG_parts hokG).1
        have hge : groupsOfG ids l = groupsG ids l := by rw [groupsOfG, if_pos hokG]
        have hgr : ∀ W : World, Below w4.heap.size w4 W → Calls Try.prog 19 #[.slice A1 ids.length c1, .slice A2 l.length c2] W fun e w2 => ∃ v, e = .returned (.tuple #[v, .bool true]) ∧ Below W.heap.size W w2 ∧ w2.ownsRow W.heap.size 3 1 v (groupsG ids l).length (cellsI (groupsG ids l)) := fun W hW =>
          (iGroups_any A1 A2 c1 c2 ids l W (R.out.1.step hW) (R.out.2.1.step hW) (by omega) (by omega)).mono fun e w2 ⟨v, h1, h2, h3⟩ => ⟨v, by rw [h1, hokG], h2, by rw [← hge]; exact h3⟩
        have hab : ∀ (W : World), Below w4.heap.size w4 W → ∀ x y : Int, x ∈ ids → y ∈ ids → Calls Try.prog 20 #[.slice A1 ids.length c1, .slice A2 l.length c2, .int .i64 x, .int .i64 y] W fun e w2 => e = .returned (.bool (upG ids l x y)) ∧ Below W.heap.size W w2 := fun W hW x y hx hy =>
          (iAbove_any A1 A2 c1 c2 ids l x y W (R.out.1.step hW) (R.out.2.1.step hW) (by omega) (by omega)).mono fun e w2 ⟨h1, h2⟩ => ⟨by rw [h1]; simp [aboveG, hokG, hx, hy], h2⟩
        have hgl := groupsG_len ids l
        have hfi := fit_is hod hvb hlen
        have HF := Lib.hid (And.intro hgr (And.intro hab (And.intro hgl (And.intro hlen hfi))))
        have elG : (((groupsG ids l).length : Int) == (ids.length : Int)) = true := by simp [hgl]
        have hG13 : (groupsG ids l).length ≤ 13 := by omega
        clear hgr hab hgl hge hfi hlen hod hvb hokG eb ec
        go_wp2_with fail
        refine (HV.out.1 _ (Below.refl _ _)).mono ?_
        rintro e w5 ⟨rfl, hb5⟩
        have B5 := Lib.hid hb5
        clear hb5
        go_wp2_with fail
        refine (HV.out.2 _ B5.out).mono ?_
        rintro e w55 ⟨rfl, hb55⟩
        have B55 := Lib.hid (below_step B5.out hb55)
        clear hb55
        go_wp2_with fail
        refine (HF.out.1 _ B55.out).mono ?_
        rintro e w6 ⟨v6, rfl, hb6, ho6⟩
        obtain ⟨A6, c6, hv6, _, hr6⟩ := own_slice ho6
        subst hv6
        have H6 := Lib.hid (And.intro (below_step B55.out hb6) hr6)
        clear hb6 ho6 hr6
        obtain ⟨G, hG⟩ : ∃ G, G = groupsG ids l := ⟨_, rfl⟩
        rw [← hG] at elG hG13 H6 ⊢
        have hGl : G.length = ids.length := by rw [hG]; exact HF.out.2.2.1
        have HG := Lib.hid (And.intro hG hGl)
        clear hG hGl
        go_upto_block 0 with fail
        go_cut [11, 12, 13] from 72 (fun v a b wx => v = .bool (allB ids l Y ids.length) ∧ Below w6.heap.size w6 wx)
        case rest =>
          obtain ⟨rfl, hbw⟩ := hcut
          have HS := Lib.hid hbw
          obtain ⟨z9, hz9⟩ : ∃ z, z = allB ids l Y ids.length := ⟨_, rfl⟩
          rw [← hz9]
          have HZ9 : Hid (z9 = allB ids l Y ids.length) := hz9
          clear hz9 hbw
          go_wp2_with fail
          go_loopw [11, 14] (fun v c wr => ∃ k : Nat, k ≤ bs.length ∧ c = .int .i64 k ∧ v = .bool (z9 && bndB ids Y bs k) ∧ Below w6.heap.size w6 wr) (fun _ c _ => bs.length - (intOf c).toNat)
          case atStart => exact ⟨0, Nat.zero_le _, rfl, by simp [bndB], HS.out⟩
          case round =>
            obtain ⟨k, hkle, rfl, rfl, hbk⟩ := hrel
            have HKB := Lib.hid hbk
            clear hbk
            by_cases hkk : k < bs.length
            · have hkki : (k : Int) < (bs.length : Int) := by omega
              obtain ⟨b, hb0⟩ : ∃ b, bs[k]? = some b := ⟨_, List.getElem?_eq_getElem hkk⟩
              obtain ⟨m, hm⟩ : ∃ m, m = (z9 && bndB ids Y bs k) := ⟨_, rfl⟩
              rw [← hm]
              have HMM := Lib.hid (And.intro hm (bndB_next (ids := ids) (Y := Y) hb0))
              have HBK := Lib.hid hb0
              clear hm hb0
              go_wp2_with fail
              go_loopw [15, 16] (fun v c wr => ∃ a : Nat, a ≤ ids.length ∧ c = .int .i64 a ∧ v = .bool (somB ids Y b a) ∧ Below w6.heap.size w6 wr) (fun _ c _ => ids.length - (intOf c).toNat)
              case atStart => exact ⟨0, Nat.zero_le _, rfl, by simp [somB], HKB.out⟩
              case round =>
                obtain ⟨a, hale, rfl, rfl, hba⟩ := hrel
                by_cases haa : a < ids.length
                · have haai : (a : Int) < (ids.length : Int) := by omega
                  have kk := below_step H6.out.1 hba
                  obtain ⟨x, hx⟩ : ∃ x, ids[a]? = some x := ⟨_, List.getElem?_eq_getElem haa⟩
                  obtain ⟨y, hy⟩ : ∃ y, Y[a]? = some y := ⟨_, List.getElem?_eq_getElem (by have := HF.out.2.2.2.1; omega)⟩
                  obtain ⟨b1, o1, hA1, _, g1⟩ := ints_at (R.out.1.step kk) hx
                  obtain ⟨b2, o2, hA4, _, g2⟩ := ints_at (R.out.2.2.2.1.step kk) hy
                  obtain ⟨b3, o3, hA3, _, hc3⟩ := (R.out.2.2.1.step kk).ctx (by omega)
                  subst hA1 hA4 hA3
                  obtain ⟨f1, f2, f3⟩ := hc3 k b HBK.out
                  have hYl : (a : Int) < (Y.length : Int) := by have := HF.out.2.2.2.1; omega
                  have hnx := somB_next (ids := ids) (Y := Y) b a
                  have hone : oneB ids Y b a = (decide (x = b.id) && (decide (b.kind ≤ y) && decide (y ≤ b.area))) := by simp [oneB, List.getD_eq_getElem?_getD, hx, hy]
                  rw [hone] at hnx
                  obtain ⟨t, ht⟩ : ∃ t, t = somB ids Y b a := ⟨_, rfl⟩
                  rw [← ht] at hnx ⊢
                  have HN := Lib.hid hnx
                  have HB := Lib.hid hba
                  clear hnx hone ht hba kk hx hy hc3
                  cases t
                  · by_cases q1 : x = b.id
                    · have e1 : (x == b.id) = true := by simp [q1]
                      have Q1 := Lib.hid (decide_eq_true q1)
                      clear q1
                      by_cases q2 : b.kind ≤ y
                      · have e2 : decide (b.kind ≤ y) = true := decide_eq_true q2
                        have Q2 := Lib.hid e2
                        clear q2
                        go_wp2_with fail
                        go_quiet (fail)
                        go_wp2_with fail
                        go_roundw
                        case rel => exact ⟨a + 1, by omega, by go_num, by rw [HN.out, Q1.out, Q2.out]; simp, below_draws HB.out nq⟩
                        case measure => simp [intOf]; omega
                      · have e2 : decide (b.kind ≤ y) = false := decide_eq_false q2
                        have Q2 := Lib.hid e2
                        clear q2
                        go_wp2_with fail
                        go_quiet (fail)
                        go_wp2_with fail
                        go_roundw
                        case rel => exact ⟨a + 1, by omega, by go_num, by rw [HN.out, Q2.out]; simp, below_draws HB.out nq⟩
                        case measure => simp [intOf]; omega
                    · have e1 : (x == b.id) = false := by simp [q1]
                      have Q1 := Lib.hid (decide_eq_false q1)
                      clear q1
                      go_wp2_with fail
                      go_quiet (fail)
                      go_wp2_with fail
                      go_roundw
                      case rel => exact ⟨a + 1, by omega, by go_num, by rw [HN.out, Q1.out]; simp, below_draws HB.out nq⟩
                      case measure => simp [intOf]; omega
                  · have Q1 : Hid (True = True) := rfl
                    go_wp2_with fail
                    go_quiet (fail)
                    go_wp2_with fail
                    go_roundw
                    case rel => exact ⟨a + 1, by omega, by go_num, by rw [HN.out, Bool.true_or], below_draws HB.out nq⟩
                    case measure => simp [intOf]; omega
                · have hae : a = ids.length := by omega
                  rw [hae]
                  obtain ⟨t, ht⟩ : ∃ t, t = somB ids Y b ids.length := ⟨_, rfl⟩
                  rw [← ht]
                  have hbn := HMM.out.2
                  rw [← ht] at hbn
                  have hbn2 : (z9 && bndB ids Y bs (k + 1)) = (m && t) := by rw [hbn, HMM.out.1, Bool.and_assoc]
                  have HT := Lib.hid hbn2
                  have HB := Lib.hid hba
                  have hna : ¬ a < ids.length := haa
                  have HAE := Lib.hid hae
                  clear hae ht hbn hbn2 hba
                  cases m
                  · go_wp2_with fail
                    go_roundw
                    case rel => exact ⟨k + 1, by omega, by go_num, by rw [HT.out]; simp, HB.out⟩
                    case measure => simp [intOf]; omega
                  · go_wp2_with fail
                    go_roundw
                    case rel => exact ⟨k + 1, by omega, by go_num, by rw [HT.out]; simp, HB.out⟩
                    case measure => simp [intOf]; omega
            · have hke : k = bs.length := by omega
              rw [hke]
              obtain ⟨m, hm⟩ : ∃ m, m = (z9 && bndB ids Y bs bs.length) := ⟨_, rfl⟩
              have hom : o = m := by rw [hm, HZ9.out, HC.out.1]; exact HF.out.2.2.2.2
              rw [← hm]
              subst hom
              have HKE := Lib.hid hke
              clear hm hke
              go_wp2_with fail
              go_ret
              exact ⟨ret_bool (by simp), below_step R.out.2.2.2.2 (below_step H6.out.1 HKB.out)⟩
        case first =>
          go_wp2_with fail
          go_loopw [11, 12] (fun v c wr => ∃ i : Nat, i ≤ ids.length ∧ c = .int .i64 i ∧ v = .bool (allB ids l Y i) ∧ Below w6.heap.size w6 wr) (fun _ c _ => ids.length - (intOf c).toNat)
          case atStart => exact ⟨0, Nat.zero_le _, rfl, by simp [allB], Below.refl _ _⟩
          case round =>
            obtain ⟨i, hile, rfl, rfl, hbi⟩ := hrel
            have HS := Lib.hid hbi
            by_cases hii : i < ids.length
            · have hiii : (i : Int) < (ids.length : Int) := by omega
              cases hz : allB ids l Y i
              · have hz9 := Lib.hid (allB_no hile hz)
                clear hz hbi
                go_wp2_with fail
                go_meet
                case rel => exact ⟨by rw [hz9.out], HS.out⟩
              · have HZ := Lib.hid hz
                have kk0 := below_step H6.out.1 hbi
                obtain ⟨x, hx⟩ : ∃ x, ids[i]? = some x := ⟨_, List.getElem?_eq_getElem hii⟩
                obtain ⟨y, hy⟩ : ∃ y, Y[i]? = some y := ⟨_, List.getElem?_eq_getElem (by have := HF.out.2.2.2.1; omega)⟩
                obtain ⟨b2, o2, hA4, _, g2⟩ := ints_at (R.out.2.2.2.1.step kk0) hy
                subst hA4
                have hYl : (i : Int) < (Y.length : Int) := by have := HF.out.2.2.2.1; omega
                have hXY := Lib.hid (And.intro hx hy)
                have hstart : ∀ t, c1B y = t → (t && rowB ids l Y i 0) = t := fun t _ => by simp [rowB]
                -- whether the year is in the range
                obtain ⟨t1, ht1⟩ : ∃ t, t = c1B y := ⟨_, rfl⟩
                have HT1 := Lib.hid ht1
                clear hz hbi kk0 hx hy hstart
                have step1 : ∀ W : World, Below w6.heap.size w6 W → ∃ j : Nat, j ≤ ids.length ∧ Value.int .i64 (0 : Int) = .int .i64 j ∧ Value.bool t1 = .bool (t1 && rowB ids l Y i j) ∧ Below w6.heap.size w6 W := fun W hW => ⟨0, Nat.zero_le _, rfl, by simp [rowB], hW⟩
                have HS1 := Lib.hid step1
                clear step1
                by_cases p1 : 0 ≤ y
                · have e1 : decide (0 ≤ y) = true := decide_eq_true p1
                  by_cases p2 : y ≤ 999
                  · have e2 : decide (y ≤ 999) = true := decide_eq_true p2
                    have et : t1 = true := by rw [ht1]; simp [c1B, p1, p2]
                    subst et
                    clear ht1 p1 p2
                    go_wp2_with fail
                    go_loopw [11, 13] (fun v c wr => ∃ j : Nat, j ≤ ids.length ∧ c = .int .i64 j ∧ v = .bool (true && rowB ids l Y i j) ∧ Below w6.heap.size w6 wr) (fun _ c _ => ids.length - (intOf c).toNat)
                    case atStart => exact HS1.out _ HS.out
                    case round =>
                      obtain ⟨j, hjle, rfl, rfl, hbj⟩ := hrel
                      by_cases hjj : j < ids.length
                      · have hjji : (j : Int) < (ids.length : Int) := by omega
                        have kk := below_step H6.out.1 hbj
                        obtain ⟨x2, hx2⟩ : ∃ x, ids[j]? = some x := ⟨_, List.getElem?_eq_getElem hjj⟩
                        obtain ⟨y2, hy2⟩ : ∃ y, Y[j]? = some y := ⟨_, List.getElem?_eq_getElem (by have := HF.out.2.2.2.1; omega)⟩
                        obtain ⟨u1, hu1⟩ : ∃ x, G[i]? = some x := ⟨_, List.getElem?_eq_getElem (by have := HG.out.2; omega)⟩
                        obtain ⟨u2, hu2⟩ : ∃ x, G[j]? = some x := ⟨_, List.getElem?_eq_getElem (by have := HG.out.2; omega)⟩
                        obtain ⟨bI, oI, hAI, hbI, hcI⟩ := (R.out.1.step kk).ints (by omega)
                        obtain ⟨bY, oY, hAY, hbY, hcY⟩ := (R.out.2.2.2.1.step kk).ints (by have := HF.out.2.2.2.1; omega)
                        obtain ⟨bG, oG, hAG, hbG, hcG⟩ := (H6.out.2.step hbj).ints (by have := HG.out.2; omega)
                        subst hAI
                        subst hAG
                        injection hAY with hAY
                        injection hAY with s1 s2 s3
                        subst s1 s2
                        have k1 := hcI i x hXY.out.1
                        have k2 := hcI j x2 hx2
                        have k3 := hcY i y hXY.out.2
                        have k4 := hcY j y2 hy2
                        have k5 := hcG i u1 hu1
                        have k6 := hcG j u2 hu2
                        have hYi : (i : Int) < (Y.length : Int) := by have := HF.out.2.2.2.1; omega
                        have hYj : (j : Int) < (Y.length : Int) := by have := HF.out.2.2.2.1; omega
                        have hGi : (i : Int) < (G.length : Int) := by have := HG.out.2; omega
                        have hGj : (j : Int) < (G.length : Int) := by have := HG.out.2; omega
                        have hx3 := ext_cell (w := wr) hbI
                        have hx4 := ext_cell (w := wr) hbY
                        have hx5 := ext_cell (w := wr) hbG
                        have hnx := rowB_next (ids := ids) (l := l) (Y := Y) i j
                        have hc2 : c2B ids l Y i j = ((!upG ids l x x2 || decide (y2 ≤ y)) && (!decide (u1 = u2) || decide (y = y2))) := by
                          unfold c2B
                          rw [← HG.out.1]
                          simp [List.getD_eq_getElem?_getD, hXY.out.1, hXY.out.2, hx2, hy2, hu1, hu2]
                        rw [hc2] at hnx
                        have hac : ∀ X : Ext wr.heap.size wr, Calls Try.prog 20 #[.slice (some ⟨bI, oI, none⟩) ids.length c1, .slice A2 l.length c2, .int .i64 x, .int .i64 x2] X.val fun e w2 => e = .returned (.bool (upG ids l x x2)) ∧ ∃ y : Ext wr.heap.size wr, w2 = y.val := fun X =>
                          calls_ext (Nat.le_refl _) (HF.out.2.1 X.val (below_step kk X.below) x x2 (List.mem_of_getElem? hXY.out.1) (List.mem_of_getElem? hx2))
                        obtain ⟨v, hv⟩ : ∃ v, upG ids l x x2 = v := ⟨_, rfl⟩
                        simp only [hv] at hac
                        rw [hv] at hnx
                        obtain ⟨m, hm⟩ : ∃ m, m = (true && rowB ids l Y i j) := ⟨_, rfl⟩
                        have hnm : (true && rowB ids l Y i (j + 1)) = (m && ((!v || decide (y2 ≤ y)) && (!decide (u1 = u2) || decide (y = y2)))) := by rw [hnx, hm, Bool.and_assoc]
                        rw [← hm]
                        have HN := Lib.hid hnm
                        have HA := Lib.hid hac
                        have HB := Lib.hid hbj
                        clear hnx hc2 hac hv hm hnm hbj kk hx2 hy2 hu1 hu2 hcI hcY hcG s3
                        cases m
                        · have Q0 : Hid (True = True) := rfl
                          go_wp2_with fail
                          refine wp_region_ext wr.heap.size (by kernel_rfl) (by kernel_rfl) ?_
                          repeat (go_big_quiet_step ((go_at_call 20; exact HA.out _)))
                          refine wpQuiet_nil ?_
                          rintro _ ⟨X, rfl⟩
                          go_wp2_with fail
                          go_roundw
                          case rel => exact ⟨j + 1, by omega, by go_num, by rw [HN.out, Bool.false_and], below_step HB.out X.below⟩
                          case measure => simp [intOf]; omega
                        · cases v
                          · by_cases q1 : u1 = u2
                            · have e3 : (u1 != u2) = false := by simp [q1]
                              have Q1 := Lib.hid (decide_eq_true q1)
                              clear q1
                              go_wp2_with fail
                              refine wp_region_ext wr.heap.size (by kernel_rfl) (by kernel_rfl) ?_
                              repeat (go_big_quiet_step ((go_at_call 20; exact HA.out _)))
                              refine wpQuiet_nil ?_
                              rintro _ ⟨X, rfl⟩
                              go_wp2_with fail
                              go_roundw
                              case rel => exact ⟨j + 1, by omega, by go_num, by rw [HN.out, Q1.out]; simp; rfl, below_step HB.out X.below⟩
                              case measure => simp [intOf]; omega
                            · have e3 : (u1 != u2) = true := by simp [q1]
                              have Q1 := Lib.hid (decide_eq_false q1)
                              clear q1
                              go_wp2_with fail
                              refine wp_region_ext wr.heap.size (by kernel_rfl) (by kernel_rfl) ?_
                              repeat (go_big_quiet_step ((go_at_call 20; exact HA.out _)))
                              refine wpQuiet_nil ?_
                              rintro _ ⟨X, rfl⟩
                              go_wp2_with fail
                              go_roundw
                              case rel => exact ⟨j + 1, by omega, by go_num, by rw [HN.out, Q1.out]; simp, below_step HB.out X.below⟩
                              case measure => simp [intOf]; omega
                          · by_cases q0 : y2 ≤ y
                            · have e5 : decide (y2 ≤ y) = true := decide_eq_true q0
                              have Q0 := Lib.hid e5
                              clear q0
                              by_cases q1 : u1 = u2
                              · have e3 : (u1 != u2) = false := by simp [q1]
                                have Q1 := Lib.hid (decide_eq_true q1)
                                clear q1
                                go_wp2_with fail
                                refine wp_region_ext wr.heap.size (by kernel_rfl) (by kernel_rfl) ?_
                                repeat (go_big_quiet_step ((go_at_call 20; exact HA.out _)))
                                refine wpQuiet_nil ?_
                                rintro _ ⟨X, rfl⟩
                                go_wp2_with fail
                                go_roundw
                                case rel => exact ⟨j + 1, by omega, by go_num, by rw [HN.out, Q0.out, Q1.out]; simp; rfl, below_step HB.out X.below⟩
                                case measure => simp [intOf]; omega
                              · have e3 : (u1 != u2) = true := by simp [q1]
                                have Q1 := Lib.hid (decide_eq_false q1)
                                clear q1
                                go_wp2_with fail
                                refine wp_region_ext wr.heap.size (by kernel_rfl) (by kernel_rfl) ?_
                                repeat (go_big_quiet_step ((go_at_call 20; exact HA.out _)))
                                refine wpQuiet_nil ?_
                                rintro _ ⟨X, rfl⟩
                                go_wp2_with fail
                                go_roundw
                                case rel => exact ⟨j + 1, by omega, by go_num, by rw [HN.out, Q0.out, Q1.out]; simp, below_step HB.out X.below⟩
                                case measure => simp [intOf]; omega
                            · have e5 : decide (y2 ≤ y) = false := decide_eq_false q0
                              have Q0 := Lib.hid e5
                              clear q0
                              go_wp2_with fail
                              refine wp_region_ext wr.heap.size (by kernel_rfl) (by kernel_rfl) ?_
                              repeat (go_big_quiet_step ((go_at_call 20; exact HA.out _)))
                              refine wpQuiet_nil ?_
                              rintro _ ⟨X, rfl⟩
                              go_wp2_with fail
                              go_roundw
                              case rel => exact ⟨j + 1, by omega, by go_num, by rw [HN.out, Q0.out]; simp, below_step HB.out X.below⟩
                              case measure => simp [intOf]; omega
                      · have hje : j = ids.length := by omega
                        have hanx := allB_next (ids := ids) (l := l) (Y := Y) i
                        rw [HZ.out, Bool.true_and, show Y.getD i 0 = y from by simp [List.getD_eq_getElem?_getD, hXY.out.2], ← HT1.out, ← hje] at hanx
                        have HN := Lib.hid hanx
                        have HB := Lib.hid hbj
                        have HJE := Lib.hid hje
                        clear hanx hbj hje
                        go_wp2_with fail
                        go_roundw
                        case rel => exact ⟨i + 1, by omega, by go_num, by rw [HN.out], HB.out⟩
                        case measure => simp [intOf]; omega
                  · have e2 : decide (y ≤ 999) = false := decide_eq_false p2
                    have et : t1 = false := by rw [ht1]; simp [c1B, p2]
                    subst et
                    clear ht1 p1 p2
                    go_wp2_with fail
                    go_loopw [11, 13] (fun v c wr => ∃ j : Nat, j ≤ ids.length ∧ c = .int .i64 j ∧ v = .bool (false && rowB ids l Y i j) ∧ Below w6.heap.size w6 wr) (fun _ c _ => ids.length - (intOf c).toNat)
                    case atStart => exact HS1.out _ HS.out
                    case round =>
                      obtain ⟨j, hjle, rfl, rfl, hbj⟩ := hrel
                      by_cases hjj : j < ids.length
                      · have hjji : (j : Int) < (ids.length : Int) := by omega
                        have kk := below_step H6.out.1 hbj
                        obtain ⟨x2, hx2⟩ : ∃ x, ids[j]? = some x := ⟨_, List.getElem?_eq_getElem hjj⟩
                        obtain ⟨y2, hy2⟩ : ∃ y, Y[j]? = some y := ⟨_, List.getElem?_eq_getElem (by have := HF.out.2.2.2.1; omega)⟩
                        obtain ⟨u1, hu1⟩ : ∃ x, G[i]? = some x := ⟨_, List.getElem?_eq_getElem (by have := HG.out.2; omega)⟩
                        obtain ⟨u2, hu2⟩ : ∃ x, G[j]? = some x := ⟨_, List.getElem?_eq_getElem (by have := HG.out.2; omega)⟩
                        obtain ⟨bI, oI, hAI, hbI, hcI⟩ := (R.out.1.step kk).ints (by omega)
                        obtain ⟨bY, oY, hAY, hbY, hcY⟩ := (R.out.2.2.2.1.step kk).ints (by have := HF.out.2.2.2.1; omega)
                        obtain ⟨bG, oG, hAG, hbG, hcG⟩ := (H6.out.2.step hbj).ints (by have := HG.out.2; omega)
                        subst hAI
                        subst hAG
                        injection hAY with hAY
                        injection hAY with s1 s2 s3
                        subst s1 s2
                        have k1 := hcI i x hXY.out.1
                        have k2 := hcI j x2 hx2
                        have k3 := hcY i y hXY.out.2
                        have k4 := hcY j y2 hy2
                        have k5 := hcG i u1 hu1
                        have k6 := hcG j u2 hu2
                        have hYi : (i : Int) < (Y.length : Int) := by have := HF.out.2.2.2.1; omega
                        have hYj : (j : Int) < (Y.length : Int) := by have := HF.out.2.2.2.1; omega
                        have hGi : (i : Int) < (G.length : Int) := by have := HG.out.2; omega
                        have hGj : (j : Int) < (G.length : Int) := by have := HG.out.2; omega
                        have hx3 := ext_cell (w := wr) hbI
                        have hx4 := ext_cell (w := wr) hbY
                        have hx5 := ext_cell (w := wr) hbG
                        have hnx := rowB_next (ids := ids) (l := l) (Y := Y) i j
                        have hc2 : c2B ids l Y i j = ((!upG ids l x x2 || decide (y2 ≤ y)) && (!decide (u1 = u2) || decide (y = y2))) := by
                          unfold c2B
                          rw [← HG.out.1]
                          simp [List.getD_eq_getElem?_getD, hXY.out.1, hXY.out.2, hx2, hy2, hu1, hu2]
                        rw [hc2] at hnx
                        have hac : ∀ X : Ext wr.heap.size wr, Calls Try.prog 20 #[.slice (some ⟨bI, oI, none⟩) ids.length c1, .slice A2 l.length c2, .int .i64 x, .int .i64 x2] X.val fun e w2 => e = .returned (.bool (upG ids l x x2)) ∧ ∃ y : Ext wr.heap.size wr, w2 = y.val := fun X =>
                          calls_ext (Nat.le_refl _) (HF.out.2.1 X.val (below_step kk X.below) x x2 (List.mem_of_getElem? hXY.out.1) (List.mem_of_getElem? hx2))
                        obtain ⟨v, hv⟩ : ∃ v, upG ids l x x2 = v := ⟨_, rfl⟩
                        simp only [hv] at hac
                        rw [hv] at hnx
                        have hnm : (false && rowB ids l Y i (j + 1)) = (false && true) := by simp
                        have hm0 : (false && rowB ids l Y i j) = false := by simp
                        rw [hm0]
                        have HN := Lib.hid hnm
                        have HA := Lib.hid hac
                        have HB := Lib.hid hbj
                        clear hnx hc2 hac hv hnm hm0 hbj kk hx2 hy2 hu1 hu2 hcI hcY hcG s3
                        go_wp2_with fail
                        refine wp_region_ext wr.heap.size (by kernel_rfl) (by kernel_rfl) ?_
                        repeat (go_big_quiet_step ((go_at_call 20; exact HA.out _)))
                        refine wpQuiet_nil ?_
                        rintro _ ⟨X, rfl⟩
                        go_wp2_with fail
                        go_roundw
                        case rel => exact ⟨j + 1, by omega, by go_num, by rw [HN.out, Bool.false_and], below_step HB.out X.below⟩
                        case measure => simp [intOf]; omega
                      · have hje : j = ids.length := by omega
                        have hanx := allB_next (ids := ids) (l := l) (Y := Y) i
                        rw [HZ.out, Bool.true_and, show Y.getD i 0 = y from by simp [List.getD_eq_getElem?_getD, hXY.out.2], ← HT1.out, ← hje] at hanx
                        have HN := Lib.hid hanx
                        have HB := Lib.hid hbj
                        have HJE := Lib.hid hje
                        clear hanx hbj hje
                        go_wp2_with fail
                        go_roundw
                        case rel => exact ⟨i + 1, by omega, by go_num, by rw [HN.out], HB.out⟩
                        case measure => simp [intOf]; omega
                · have e1 : decide (0 ≤ y) = false := decide_eq_false p1
                  have et : t1 = false := by rw [ht1]; simp [c1B, p1]
                  subst et
                  clear ht1 p1
                  go_wp2_with fail
                  go_loopw [11, 13] (fun v c wr => ∃ j : Nat, j ≤ ids.length ∧ c = .int .i64 j ∧ v = .bool (false && rowB ids l Y i j) ∧ Below w6.heap.size w6 wr) (fun _ c _ => ids.length - (intOf c).toNat)
                  case atStart => exact HS1.out _ HS.out
                  case round =>
                    obtain ⟨j, hjle, rfl, rfl, hbj⟩ := hrel
                    by_cases hjj : j < ids.length
                    · have hjji : (j : Int) < (ids.length : Int) := by omega
                      have kk := below_step H6.out.1 hbj
                      obtain ⟨x2, hx2⟩ : ∃ x, ids[j]? = some x := ⟨_, List.getElem?_eq_getElem hjj⟩
                      obtain ⟨y2, hy2⟩ : ∃ y, Y[j]? = some y := ⟨_, List.getElem?_eq_getElem (by have := HF.out.2.2.2.1; omega)⟩
                      obtain ⟨u1, hu1⟩ : ∃ x, G[i]? = some x := ⟨_, List.getElem?_eq_getElem (by have := HG.out.2; omega)⟩
                      obtain ⟨u2, hu2⟩ : ∃ x, G[j]? = some x := ⟨_, List.getElem?_eq_getElem (by have := HG.out.2; omega)⟩
                      obtain ⟨bI, oI, hAI, hbI, hcI⟩ := (R.out.1.step kk).ints (by omega)
                      obtain ⟨bY, oY, hAY, hbY, hcY⟩ := (R.out.2.2.2.1.step kk).ints (by have := HF.out.2.2.2.1; omega)
                      obtain ⟨bG, oG, hAG, hbG, hcG⟩ := (H6.out.2.step hbj).ints (by have := HG.out.2; omega)
                      subst hAI
                      subst hAG
                      injection hAY with hAY
                      injection hAY with s1 s2 s3
                      subst s1 s2
                      have k1 := hcI i x hXY.out.1
                      have k2 := hcI j x2 hx2
                      have k3 := hcY i y hXY.out.2
                      have k4 := hcY j y2 hy2
                      have k5 := hcG i u1 hu1
                      have k6 := hcG j u2 hu2
                      have hYi : (i : Int) < (Y.length : Int) := by have := HF.out.2.2.2.1; omega
                      have hYj : (j : Int) < (Y.length : Int) := by have := HF.out.2.2.2.1; omega
                      have hGi : (i : Int) < (G.length : Int) := by have := HG.out.2; omega
                      have hGj : (j : Int) < (G.length : Int) := by have := HG.out.2; omega
                      have hx3 := ext_cell (w := wr) hbI
                      have hx4 := ext_cell (w := wr) hbY
                      have hx5 := ext_cell (w := wr) hbG
                      have hnx := rowB_next (ids := ids) (l := l) (Y := Y) i j
                      have hc2 : c2B ids l Y i j = ((!upG ids l x x2 || decide (y2 ≤ y)) && (!decide (u1 = u2) || decide (y = y2))) := by
                        unfold c2B
                        rw [← HG.out.1]
                        simp [List.getD_eq_getElem?_getD, hXY.out.1, hXY.out.2, hx2, hy2, hu1, hu2]
                      rw [hc2] at hnx
                      have hac : ∀ X : Ext wr.heap.size wr, Calls Try.prog 20 #[.slice (some ⟨bI, oI, none⟩) ids.length c1, .slice A2 l.length c2, .int .i64 x, .int .i64 x2] X.val fun e w2 => e = .returned (.bool (upG ids l x x2)) ∧ ∃ y : Ext wr.heap.size wr, w2 = y.val := fun X =>
                        calls_ext (Nat.le_refl _) (HF.out.2.1 X.val (below_step kk X.below) x x2 (List.mem_of_getElem? hXY.out.1) (List.mem_of_getElem? hx2))
                      obtain ⟨v, hv⟩ : ∃ v, upG ids l x x2 = v := ⟨_, rfl⟩
                      simp only [hv] at hac
                      rw [hv] at hnx
                      have hnm : (false && rowB ids l Y i (j + 1)) = (false && true) := by simp
                      have hm0 : (false && rowB ids l Y i j) = false := by simp
                      rw [hm0]
                      have HN := Lib.hid hnm
                      have HA := Lib.hid hac
                      have HB := Lib.hid hbj
                      clear hnx hc2 hac hv hnm hm0 hbj kk hx2 hy2 hu1 hu2 hcI hcY hcG s3
                      go_wp2_with fail
                      refine wp_region_ext wr.heap.size (by kernel_rfl) (by kernel_rfl) ?_
                      repeat (go_big_quiet_step ((go_at_call 20; exact HA.out _)))
                      refine wpQuiet_nil ?_
                      rintro _ ⟨X, rfl⟩
                      go_wp2_with fail
                      go_roundw
                      case rel => exact ⟨j + 1, by omega, by go_num, by rw [HN.out, Bool.false_and], below_step HB.out X.below⟩
                      case measure => simp [intOf]; omega
                    · have hje : j = ids.length := by omega
                      have hanx := allB_next (ids := ids) (l := l) (Y := Y) i
                      rw [HZ.out, Bool.true_and, show Y.getD i 0 = y from by simp [List.getD_eq_getElem?_getD, hXY.out.2], ← HT1.out, ← hje] at hanx
                      have HN := Lib.hid hanx
                      have HB := Lib.hid hbj
                      have HJE := Lib.hid hje
                      clear hanx hbj hje
                      go_wp2_with fail
                      go_roundw
                      case rel => exact ⟨i + 1, by omega, by go_num, by rw [HN.out], HB.out⟩
                      case measure => simp [intOf]; omega
            · have hin : i = ids.length := by omega
              rw [hin]
              have HIN := Lib.hid hin
              clear hin hbi
              go_wp2_with fail
              go_meet
              case rel => exact ⟨rfl, HS.out⟩
      · have enl : ((Y.length : Int) != (ids.length : Int)) = true := by rw [bne_iff_ne]; omega
        have hof : o = false := by rw [HC.out.1]; exact fit_len hlen
        subst hof
        clear hod hvb eb ec hlen
        go_wp2_with fail
        refine (HV.out.1 _ (Below.refl _ _)).mono ?_
        rintro e w5 ⟨rfl, hb5⟩
        have B5 := Lib.hid hb5
        clear hb5
        go_wp2_with fail
        refine (HV.out.2 _ B5.out).mono ?_
        rintro e w6 ⟨rfl, hb6⟩
        go_wp2_with fail
        go_ret
        exact ⟨rfl, below_step R.out.2.2.2.2 (below_step B5.out hb6)⟩

set_option maxHeartbeats 400000 in
set_option maxRecDepth 100000 in
theorem walk (A : Option Addr) (c : Nat) (z : List Int) (w : World) (h1 : z.length ≤ c) (h2 : Reads w w.heap.size 1 A z.length (cellsB z)) (h3 : ∀ b ∈ z, 0 ≤ b ∧ b ≤ 255) (h4 : c ≤ maxLen) :
    Calls Try.prog 5 #[.slice A z.length c] w fun e w2 => e = .returned (.bool true) ∧ Below w.heap.size w w2 := by
  by_cases hn : z.length ≤ 1048576
  · exact walk_short A c z w (Bytes.mk_ h1 h2 h3 h4) hn
  · have e0 : decide ((1048576 : Int) < (z.length : Int)) = true := decide_eq_true (by omega)
    go_enter Try.func5, Try.ntmps5
    go_wp2_with fail
    go_ret
    exact ⟨rfl, Below.refl _ _⟩

set_option linter.unusedVariables false
set_option maxRecDepth 100000 in
theorem lifted (os : Os) (started : os.Started) (H : Type) (enc : TypeId × Value → H) :
    ReturnsInHanded {} Try.checked os 5 .any (Rows.fnDatesFitSpec.pre6 enc Try.prog Try.f5 Rows.fnDatesFitRow.domain false) (Rows.fnDatesFitSpec.post enc Try.prog Try.f5 false true false false) := by
  refine returnsInHanded_of_change (C := Try.checked) lawOwn started (by kernel_rfl) Try.func5
    (ChangeSpec.witness6 (enc := enc) (C := Try.checked) false ⟨#[], #[.slice none 0 0], []⟩ 8 (by kernel_rfl) (by kernel_rfl) (by kernel_rfl) (by kernel_rfl)) ?_
  intro W base args ds gs before hval0 hW hcnd _
  have hval : ∀ (j : Nat) t v, Try.f5.params[j]? = some t → args[j]? = some v → Value.okWide Try.prog W .any base t v := hval0
  have hW' := hW
  obtain ⟨p, q, hA0, hV, rfl, hfz, hnd⟩ := hW
  have hA : DataW.TrodAll enc Try.prog W 0 (fun _ => true) true Try.f5.params.toList args.toList ds p := hA0
  rw [Try.params5] at hA hval
  obtain ⟨v0, vs0, d0, ds0, p0, q0, hargs, rfl, rfl, h0, r0⟩ := trodAll_cons hA
  obtain ⟨rfl, rfl, rfl⟩ := trodAll_nil r0
  obtain rfl : args = #[v0] := by cases args; simp_all
  obtain ⟨rfl, rfl⟩ := trodVars_none hV
  have k0 := h0
  have lt0 : ∀ x ∈ p0, x.block < W.heap.size := by obtain ⟨m, hm⟩ := k0; exact DataW.trod_lt m _ _ _ hm
  obtain ⟨a0, len0, cap0, rfl⟩ := okWide_slice Try.underlying22 (hval 0 22 v0 rfl rfl)
  obtain ⟨z0, hl0, hc0, hr0, hb0, hm0⟩ : ∃ z : List Int, len0 = z.length ∧ len0 ≤ cap0 ∧ Reads W W.heap.size 1 a0 len0 (cellsB z) ∧ (∀ b ∈ z, 0 ≤ b ∧ b ≤ 255) ∧ cap0 ≤ maxLen := by
    obtain ⟨fuel, hf⟩ := h0
    exact open_bytes Try.underlying22 Try.underlying5 (by kernel_rfl) (by simpa [Value.cells] using hf)
  subst hl0
  clear hA0 hval0
  refine (walk a0 cap0 z0 W hc0 hr0 hb0 hm0).mono fun e W' ⟨he, bel⟩ => ?_
  subst he
  exact ⟨_, rfl, _, _, _, [], _, [], hW', trodAll_mk1 (shut_bool Try.underlying4 _), (trodAll_cons_mk (Below.trod lawLaid (by kernel_rfl) (of_decide_eq_true (by kernel_rfl)) k0 bel lt0) trodAll_mk0), rfl, bel.frame _, fun h => by cases h⟩

theorem closed : joinedFacts Try.checked.prog 5 Try.f5 Rows.fnDatesFitSpec Rows.fnDatesFitRow = true := by
  unfold joinedFacts
  repeat (refine and_t ?_ (by first | (with_reducible exact ent) | (with_reducible refine lif_c ?_; kernel_rfl) | (with_reducible refine mak_c ?_; kernel_rfl) | kernel_rfl))
  kernel_rfl
theorem proved : Rows.FnDatesFitSaid :=
  OpenClaim.holds_of_wide 5 Try.f5 rfl rfl rfl rfl rfl rfl rfl ⟨rfl, rfl, rfl, rfl, rfl⟩ rfl rfl rfl rfl rfl (by kernel_rfl) Try.func5 closed
    (of_decide_eq_true (by kernel_rfl)) (by unfold Func.isWrapper; rw [if_neg (of_decide_eq_false (by kernel_rfl))]; exact ⟨rfl, rfl⟩)
    (fun os started H enc _ => lifted os started H enc)
#print axioms proved
end Go.Proofs.Ytnkdpogplkomhaa.lawDatesFit
