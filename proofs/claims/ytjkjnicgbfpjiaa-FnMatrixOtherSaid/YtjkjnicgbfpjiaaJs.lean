/- Whether the program finds two orders the same. -/
import Derived.Test.YtjkjnicgbfpjiaaNs
import Derived.Test.YtjkjnicgbfpjiaaVr
namespace Go.Proofs.Ytjkjnicgbfpjiaa
open Go.RowKit

theorem ext_upto {α : Type} {a b : List α} (hl : a.length = b.length) (h : ∀ j, j < a.length → a[j]? = b[j]?) : a = b := by
  apply List.ext_getElem?
  intro j
  by_cases hj : j < a.length
  · exact h j hj
  · rw [List.getElem?_eq_none (by omega), List.getElem?_eq_none (by omega)]
theorem rowsN_inj {n : Nat} {F H : Nat → Nat → Bool} (h : rowsN n F = rowsN n H) {i j : Nat} (hi : i < n) (hj : j < n) : F i j = H i j := by
  have h1 : (rowsN n F)[i]? = (rowsN n H)[i]? := by rw [h]
  rw [rowsN_at _ hi, rowsN_at _ hi] at h1
  injection h1 with h1
  have h2 : (bitN n (F i)).testBit j = (bitN n (H i)).testBit j := by rw [h1]
  rw [bitN_test, bitN_test] at h2
  simpa [hj] using h2
theorem same_rows {ids : List Int} {a b : List Ctx} (ha : okG ids a = true) (hb : okG ids b = true) : sameG ids a b = (decide (groupsOfG ids a = groupsOfG ids b) && decide (rowsN (szG ids a) (ordF ids a) = rowsN (szG ids b) (ordF ids b))) := by
  rw [szG_ok ha, szG_ok hb, groupsOfG, groupsOfG, if_pos ha, if_pos hb, Bool.eq_iff_iff, Bool.and_eq_true, decide_eq_true_eq, decide_eq_true_eq]
  constructor
  · intro h
    obtain ⟨_, _, h3, h4⟩ := sameG_parts h
    refine ⟨h4, rowsN_ext fun i j hi hj => ?_⟩
    unfold ordF
    rw [ordG_up h3 (getD_mem hi) (getD_mem hj)]
  · rintro ⟨h1, h2⟩
    exact same_yes ha hb (fun i j hi hj => rowsN_inj h2 hi hj) fun i _ => by rw [h1]
set_option maxHeartbeats 1600000 in
set_option maxRecDepth 100000 in
theorem equalI_any (A B : Option Addr) (ca cb : Nat) (a b : List Int) (w : World) (ha : Reads w w.heap.size 1 A a.length (cellsI a)) (hb : Reads w w.heap.size 1 B b.length (cellsI b)) (hla : a.length ≤ 1000000000) (hlb : b.length ≤ 1000000000) :
    Calls Try.prog 55 #[.slice A a.length ca, .slice B b.length cb] w fun e w2 => e = .returned (.bool (decide (a = b))) ∧ Below w.heap.size w w2 := by
  by_cases hl : a.length = b.length
  · have k1 : ((a.length : Int) != (b.length : Int)) = false := by simp [hl]
    have HR := Lib.hid (And.intro ha (And.intro hb hl))
    clear ha hb hl
    go_enter Try.func55, Try.ntmps55
    go_wp2_with fail
    go_loopw [13] (fun v wr => ∃ k : Nat, k ≤ a.length ∧ v = .int .i64 k ∧ Below w.heap.size w wr ∧ ∀ j, j < k → a[j]? = b[j]?) (fun v _ => a.length - (intOf v).toNat)
    case atStart => exact ⟨0, Nat.zero_le _, rfl, Below.refl _ _, fun _ h => absurd h (by omega)⟩
    case round =>
      obtain ⟨k, hk, rfl, hbl, hg⟩ := hrel
      have HG := Lib.hid (And.intro hbl hg)
      clear hbl hg
      by_cases hlt : k < a.length
      · have hki : (k : Int) < (a.length : Int) := by omega
        have hkj : (k : Int) < (b.length : Int) := by rw [← HR.out.2.2]; omega
        obtain ⟨b1, o1, hA1, hb1, hc1⟩ := (HR.out.1.below HG.out.1).ints (by omega)
        obtain ⟨b2, o2, hA2, hb2, hc2⟩ := (HR.out.2.1.below HG.out.1).ints (by omega)
        subst hA1 hA2
        obtain ⟨x, hx⟩ : ∃ x, a[k]? = some x := ⟨_, List.getElem?_eq_getElem hlt⟩
        obtain ⟨y, hy⟩ : ∃ y, b[k]? = some y := ⟨_, List.getElem?_eq_getElem (by rw [← HR.out.2.2]; exact hlt)⟩
        have g1 := hc1 k _ hx
        have g2 := hc2 k _ hy
        by_cases hxy : x = y
        · have e2 : (x != y) = false := by simp [hxy]
          have HU : Hid (a[k]? = b[k]?) := by show _ = _; rw [hx, hy, hxy]
          clear hx hy hxy hc1 hc2
          go_wp2_with fail
          go_quiet (fail)
          go_wp2_with fail
          go_roundw
          case rel =>
            refine ⟨k + 1, by omega, by go_num, below_draws HG.out.1 _, fun j hj => ?_⟩
            by_cases hj2 : j < k
            · exact HG.out.2 j hj2
            · have : j = k := by omega
              subst this
              exact HU.out
          case measure => simp [intOf]; omega
        · have e2 : (x != y) = true := by simp [hxy]
          have HU : Hid (a ≠ b) := by
            show _ ≠ _
            intro e
            rw [e, hy] at hx
            injection hx with hx
            exact hxy hx.symm
          clear hx hy hxy hc1 hc2
          go_wp2_with fail
          go_quiet (fail)
          go_wp2_with fail
          go_ret
          exact ⟨ret_bool (decide_eq_false HU.out).symm, below_draws HG.out.1 _⟩
      · have hkn : k = a.length := by omega
        have HK := Lib.hid hkn
        clear hkn
        go_wp2_with fail
        go_ret
        exact ⟨ret_bool (decide_eq_true (ext_upto HR.out.2.2 fun j hj => HG.out.2 j (by rw [HK.out]; exact hj))).symm, HG.out.1⟩
  · have k1 : ((a.length : Int) != (b.length : Int)) = true := by rw [bne_iff_ne]; omega
    have HN : Hid (a ≠ b) := fun e => hl (by rw [e])
    clear hl ha hb
    go_enter Try.func55, Try.ntmps55
    go_wp2_with fail
    go_ret
    exact ⟨ret_bool (decide_eq_false HN.out).symm, Below.refl _ _⟩
set_option maxHeartbeats 1600000 in
set_option maxRecDepth 100000 in
theorem equalR_any (A B : Option Addr) (ca cb n m : Nat) (a b : List Nat) (w : World) (ha : Reads w w.heap.size 1 A n (cellsU a)) (hb : Reads w w.heap.size 1 B m (cellsU b)) (hna : a.length = n) (hnb : b.length = m) (hla : n ≤ 1000000) (hlb : m ≤ 1000000) :
    Calls Try.prog 56 #[.slice A n ca, .slice B m cb] w fun e w2 => e = .returned (.bool (decide (a = b))) ∧ Below w.heap.size w w2 := by
  by_cases hl : n = m
  · have k1 : ((n : Int) != (m : Int)) = false := by simp [hl]
    have HR := Lib.hid (And.intro ha (And.intro hb (And.intro hl (And.intro hna hnb))))
    clear ha hb hl hna hnb
    go_enter Try.func56, Try.ntmps56
    go_wp2_with fail
    go_loopw [13] (fun v wr => ∃ k : Nat, k ≤ n ∧ v = .int .i64 k ∧ Below w.heap.size w wr ∧ ∀ j, j < k → a[j]? = b[j]?) (fun v _ => n - (intOf v).toNat)
    case atStart => exact ⟨0, Nat.zero_le _, rfl, Below.refl _ _, fun _ h => absurd h (by omega)⟩
    case round =>
      obtain ⟨k, hk, rfl, hbl, hg⟩ := hrel
      have HG := Lib.hid (And.intro hbl hg)
      clear hbl hg
      by_cases hlt : k < n
      · have hki : (k : Int) < (n : Int) := by omega
        have hkj : (k : Int) < (m : Int) := by rw [← HR.out.2.2.1]; omega
        obtain ⟨b1, o1, hA1, hb1, hc1⟩ := (HR.out.1.below HG.out.1).rows (by omega)
        obtain ⟨b2, o2, hA2, hb2, hc2⟩ := (HR.out.2.1.below HG.out.1).rows (by omega)
        subst hA1 hA2
        obtain ⟨x, hx⟩ : ∃ x, a[k]? = some x := ⟨_, List.getElem?_eq_getElem (by rw [HR.out.2.2.2.1]; exact hlt)⟩
        obtain ⟨y, hy⟩ : ∃ y, b[k]? = some y := ⟨_, List.getElem?_eq_getElem (by rw [HR.out.2.2.2.2, ← HR.out.2.2.1]; exact hlt)⟩
        have g1 := hc1 k _ hx
        have g2 := hc2 k _ hy
        by_cases hxy : x = y
        · have e2 : ((x : Int) != (y : Int)) = false := by simp [hxy]
          have HU : Hid (a[k]? = b[k]?) := by show _ = _; rw [hx, hy, hxy]
          clear hx hy hxy hc1 hc2
          go_wp2_with fail
          go_quiet (fail)
          go_wp2_with fail
          go_roundw
          case rel =>
            refine ⟨k + 1, by omega, by go_num, below_draws HG.out.1 _, fun j hj => ?_⟩
            by_cases hj2 : j < k
            · exact HG.out.2 j hj2
            · have : j = k := by omega
              subst this
              exact HU.out
          case measure => simp [intOf]; omega
        · have e2 : ((x : Int) != (y : Int)) = true := by rw [bne_iff_ne]; omega
          have HU : Hid (a ≠ b) := by
            show _ ≠ _
            intro e
            rw [e, hy] at hx
            injection hx with hx
            exact hxy hx.symm
          clear hx hy hxy hc1 hc2
          go_wp2_with fail
          go_quiet (fail)
          go_wp2_with fail
          go_ret
          exact ⟨ret_bool (decide_eq_false HU.out).symm, below_draws HG.out.1 _⟩
      · have hkn : k = n := by omega
        have HK := Lib.hid hkn
        clear hkn
        go_wp2_with fail
        go_ret
        exact ⟨ret_bool (decide_eq_true (ext_upto (by rw [HR.out.2.2.2.1, HR.out.2.2.2.2, HR.out.2.2.1]) fun j hj => HG.out.2 j (by rw [HK.out, ← HR.out.2.2.2.1]; exact hj))).symm, HG.out.1⟩
  · have k1 : ((n : Int) != (m : Int)) = true := by rw [bne_iff_ne]; omega
    have HN : Hid (a ≠ b) := fun e => hl (by rw [← hna, ← hnb, e])
    clear hl ha hb hna hnb
    go_enter Try.func56, Try.ntmps56
    go_wp2_with fail
    go_ret
    exact ⟨ret_bool (decide_eq_false HN.out).symm, Below.refl _ _⟩
set_option maxHeartbeats 1600000 in
set_option maxRecDepth 100000 in
theorem iSame_any (A B C : Option Addr) (ca cb cc : Nat) (ids : List Int) (a b : List Ctx) (w : World) (ha : Reads w w.heap.size 1 A ids.length (cellsI ids)) (hb : Reads w w.heap.size 3 B a.length (cellsC a)) (hc : Reads w w.heap.size 3 C b.length (cellsC b)) (hn : ids.length ≤ 1000000000) (hl : a.length ≤ 1000000000) (hm : b.length ≤ 1000000000) :
    Calls Try.prog 22 #[.slice A ids.length ca, .slice B a.length cb, .slice C b.length cc] w fun e w2 => e = .returned (.bool (sameG ids a b)) ∧ Below w.heap.size w w2 := by
  have hg1 := iGroups_any A B ca cb ids a w ha hb (by omega) (by omega)
  have hg2 := fun (W : World) (hW : Below w.heap.size w W) => iGroups_any A C ca cc ids b W (ha.step hW) (hc.step hW) (by omega) (by omega)
  have hr1 := fun (W : World) (hW : Below w.heap.size w W) => iAboveF_any A B ca cb ids a W (ha.step hW) (hb.step hW) (by omega) (by omega)
  have hr2 := fun (W : World) (hW : Below w.heap.size w W) => iAboveF_any A C ca cc ids b W (ha.step hW) (hc.step hW) (by omega) (by omega)
  have HC := Lib.hid (And.intro hg1 (And.intro hg2 (And.intro hr1 hr2)))
  have HE := Lib.hid (And.intro (groupsOfG_len ids a) (And.intro (groupsOfG_len ids b) (And.intro (szG_le ids a) (szG_le ids b))))
  clear hg1 hg2 hr1 hr2 ha hb hc
  go_enter Try.func22, Try.ntmps22
  go_wp2_with fail
  refine HC.out.1.mono ?_
  rintro e w2 ⟨v2, rfl, k2, o2⟩
  obtain ⟨A2, c2, rfl, _, r2⟩ := own_slice o2
  have H2 := Lib.hid (And.intro k2 r2)
  clear k2 o2 r2
  go_wp2_with fail
  refine (HC.out.2.1 _ H2.out.1).mono ?_
  rintro e w3 ⟨v3, rfl, k3, o3⟩
  obtain ⟨A3, c3, rfl, _, r3⟩ := own_slice o3
  have H3 := Lib.hid (And.intro (below_step H2.out.1 k3) (And.intro k3 r3))
  clear k3 o3 r3
  go_wp2_with fail
  refine (HC.out.2.2.1 _ H3.out.1).mono ?_
  rintro e w4 ⟨v4, rfl, k4, o4⟩
  obtain ⟨A4, c4, rfl, _, r4⟩ := Reads.of_own o4
  have H4 := Lib.hid (And.intro (below_step H3.out.1 k4) (And.intro k4 r4))
  clear k4 o4 r4
  go_wp2_with fail
  refine (HC.out.2.2.2 _ H4.out.1).mono ?_
  rintro e w5 ⟨v5, rfl, k5, o5⟩
  obtain ⟨A5, c5, rfl, _, r5⟩ := Reads.of_own o5
  have k35 := below_step H4.out.2.1 k5
  have k25 := below_step H3.out.2.1 k35
  have H5 := Lib.hid (And.intro (below_step H4.out.1 k5) (And.intro (H2.out.2.step k25) (And.intro (H3.out.2.2.step k35) (And.intro (H4.out.2.2.step k5) r5))))
  clear k5 o5 r5 k35 k25
  cases h1 : okG ids a
  · have HF := Lib.hid (same_no1 (b := b) h1)
    clear h1
    go_wp2_with fail
    go_ret
    exact ⟨ret_bool HF.out.symm, H5.out.1⟩
  · cases h2 : okG ids b
    · have HF := Lib.hid (same_no2 (a := a) h2)
      clear h1 h2
      go_wp2_with fail
      go_ret
      exact ⟨ret_bool HF.out.symm, H5.out.1⟩
    · have hsr := same_rows h1 h2
      obtain ⟨g1, hg1⟩ : ∃ g1, g1 = groupsOfG ids a := ⟨_, rfl⟩
      obtain ⟨g2, hg2⟩ : ∃ g2, g2 = groupsOfG ids b := ⟨_, rfl⟩
      have heq := equalI_any A2 A3 c2 c3 (groupsOfG ids a) (groupsOfG ids b) w5 H5.out.2.1 H5.out.2.2.1 (by have := HE.out.1; omega) (by have := HE.out.2.1; omega)
      have heq2 := fun (W : World) (hW : Below w5.heap.size w5 W) => equalR_any A4 A5 c4 c5 (szG ids a) (szG ids b) _ _ W (H5.out.2.2.2.1.step hW) (H5.out.2.2.2.2.step hW) (rowsN_len _ _) (rowsN_len _ _) (by have := HE.out.2.2.1; omega) (by have := HE.out.2.2.2; omega)
      obtain ⟨d1, hd1⟩ : ∃ d1, decide (groupsOfG ids a = groupsOfG ids b) = d1 := ⟨_, rfl⟩
      obtain ⟨d2, hd2⟩ : ∃ d2, decide (rowsN (szG ids a) (ordF ids a) = rowsN (szG ids b) (ordF ids b)) = d2 := ⟨_, rfl⟩
      rw [hd1] at heq
      rw [hd2] at heq2
      rw [hd1, hd2] at hsr
      have HF := Lib.hid (And.intro hsr (And.intro heq heq2))
      clear hsr heq heq2 hd1 hd2 h1 h2 hg1 hg2
      cases d1
      · go_wp2_with fail
        refine HF.out.2.1.mono ?_
        rintro e w6 ⟨rfl, k6⟩
        go_wp2_with fail
        go_ret
        exact ⟨ret_bool HF.out.1.symm, below_step H5.out.1 k6⟩
      · go_wp2_with fail
        refine HF.out.2.1.mono ?_
        rintro e w6 ⟨rfl, k6⟩
        go_wp2_with fail
        refine (HF.out.2.2 _ k6).mono ?_
        rintro e w7 ⟨rfl, k7⟩
        go_wp2_with fail
        go_ret
        exact ⟨ret_bool (by rw [HF.out.1]; rfl), below_step H5.out.1 (below_step k6 k7)⟩
end Go.Proofs.Ytjkjnicgbfpjiaa
