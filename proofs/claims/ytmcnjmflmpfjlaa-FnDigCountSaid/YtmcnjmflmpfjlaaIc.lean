/- The number of orders of digging that the program counts. -/
import Derived.Test.YtmcnjmflmpfjlaaCm
import Derived.Test.YtmcnjmflmpfjlaaUc
import Derived.Test.YtmcnjmflmpfjlaaRa
import Derived.BigRegion
namespace Go.Proofs.Ytmcnjmflmpfjlaa
open Go.RowKit

/-- What has been added up, row by row. -/
def addL (f : Nat → Nat → Bool) (n t k : Nat) : List Nat := (List.range (2 ^ n)).map (partX f n t k)
section
variable {f : Nat → Nat → Bool} {n t k x : Nat}
theorem addL_len : (addL f n t k).length = 2 ^ n := by simp [addL]
theorem addL_at (hx : x < 2 ^ n) : (addL f n t k)[x]? = some (partX f n t k x) := by simp [addL, hx]
theorem addL_first : addL f n 0 0 = (List.replicate (2 ^ n) 0).set 0 1 := by
  refine List.ext_getElem? fun x => ?_
  by_cases hx : x < 2 ^ n
  · rw [addL_at hx, partX_first, List.getElem?_set]
    by_cases h0 : 0 = x
    · subst h0
      simp [hx]
    · have h1 : ¬ x = 0 := fun e => h0 e.symm
      simp [h0, h1, hx]
  · rw [List.getElem?_eq_none (by rw [addL_len]; omega), List.getElem?_eq_none (by simp; omega)]
theorem addL_turn : addL f n t n = addL f n (t + 1) 0 := by
  unfold addL
  exact List.map_congr_left fun x _ => partX_turn t x
theorem bits_self (ht : t < 2 ^ n) : bitN n t.testBit = t := by
  refine Nat.eq_of_testBit_eq fun j => ?_
  rw [bitN_test]
  by_cases hj : j < n
  · simp [hj]
  · cases h : t.testBit j
    · simp
    · exact absurd (bit_lt ht h) hj
theorem or_lt (ht : t < 2 ^ n) (hk : k < n) : t ||| 2 ^ k < 2 ^ n := Nat.or_lt_two_pow ht (Nat.pow_lt_pow_right (by omega) hk)
theorem endB_or (hb : t.testBit k = false) : endB f n (t ||| 2 ^ k) k = !(List.range n).any fun j => f k j && t.testBit j := by
  have hor : ∀ j, (t ||| 2 ^ k).testBit j = (t.testBit j || decide (k = j)) := fun j => by rw [Nat.testBit_or, Nat.testBit_two_pow]
  unfold endB
  rw [hor, decide_eq_true rfl, Bool.or_true, Bool.true_and, Bool.eq_iff_iff, List.all_eq_true, Bool.not_eq_true', List.any_eq_false]
  constructor
  · intro h j hj
    have := h j hj
    rw [hor] at this
    by_cases e : j = k
    · subst e; simp [hb]
    · have e2 : ¬ k = j := fun h => e h.symm
      simp [e, e2] at this
      cases ht : t.testBit j
      · simp
      · rcases this with h1 | h1
        · rw [h1] at ht; cases ht
        · simp [h1]
  · intro h j hj
    have := h j hj
    rw [hor]
    by_cases e : j = k
    · simp [e]
    · have e2 : ¬ k = j := fun h => e h.symm
      simp [e, e2]
      cases ht : t.testBit j
      · exact .inl rfl
      · right
        rw [ht] at this
        simpa using this
theorem addL_same (hk : k < n) (ht : t < 2 ^ n) (hno : (!t.testBit k && endB f n (t ||| 2 ^ k) k) = false) : addL f n t (k + 1) = addL f n t k := by
  unfold addL
  refine List.map_congr_left fun x _ => ?_
  rw [partX_step hk ht, hno, Bool.and_false]
  rfl
theorem addL_set (hk : k < n) (ht : t < 2 ^ n) (hyes : (!t.testBit k && endB f n (t ||| 2 ^ k) k) = true) : addL f n t (k + 1) = (addL f n t k).set (t ||| 2 ^ k) (partX f n t k (t ||| 2 ^ k) + cntX f n t) ∧ partX f n t (k + 1) (t ||| 2 ^ k) = partX f n t k (t ||| 2 ^ k) + cntX f n t := by
  have hu := or_lt ht hk
  have h1 : partX f n t (k + 1) (t ||| 2 ^ k) = partX f n t k (t ||| 2 ^ k) + cntX f n t := by
    rw [partX_step hk ht, hyes, decide_eq_true rfl]
    rfl
  refine ⟨List.ext_getElem? fun x => ?_, h1⟩
  by_cases hx : x < 2 ^ n
  · rw [addL_at hx, List.getElem?_set, addL_len]
    by_cases e : t ||| 2 ^ k = x
    · subst e
      rw [if_pos rfl, if_pos hu, h1]
    · rw [if_neg e, addL_at hx, partX_step hk ht, decide_eq_false (fun h => e h.symm)]
      rfl
  · rw [List.getElem?_eq_none (by rw [addL_len]; omega), List.getElem?_eq_none (by rw [List.length_set, addL_len]; omega)]
end
theorem wrap_64 {r : Nat} (h : r < 9223372036854775808) : wrap64 (r : Int) = r := by
  simp only [wrap64]
  omega
theorem shl_64 {p : Nat} (hp : p ≤ 6) : wrap64 ((2 : Int) ^ p) = ((2 ^ p : Nat) : Int) := by
  have h : 2 ^ p ≤ 2 ^ 6 := Nat.pow_le_pow_right (by omega) hp
  rw [← wrap_64 (r := 2 ^ p) (by omega)]
  congr 1
theorem ofInt_64 (r : Nat) (h : r < 9223372036854775808) : (BitVec.ofInt 64 (r : Int)).toNat = r := by
  rw [BitVec.ofInt_natCast, BitVec.toNat_ofNat]; exact Nat.mod_eq_of_lt (by omega)
theorem or_64 (a b : Nat) (ha : a < 64) (hb : b < 64) : bits .or .i64 (a : Int) (b : Int) = ((a ||| b : Nat) : Int) := by
  have h : a ||| b < 2 ^ 6 := Nat.or_lt_two_pow (by omega) (by omega)
  obtain ⟨x, hx⟩ : ∃ x, x = a ||| b := ⟨_, rfl⟩
  have h3 : (BitVec.ofInt 64 (a : Int) ||| BitVec.ofInt 64 (b : Int)).toNat = x := by
    rw [BitVec.toNat_or, ofInt_64 a (by omega), ofInt_64 b (by omega), hx]
  have h4 : bits .or .i64 (a : Int) (b : Int) = IntKind.i64.wrap (((BitVec.ofInt 64 (a : Int) ||| BitVec.ofInt 64 (b : Int)).toNat : Nat) : Int) := rfl
  rw [h4, h3, IntKind.wrap_i64, ← hx]
  omega
theorem pow_64 {n : Nat} (hn : n ≤ 6) : 2 ^ n ≤ 64 := Nat.pow_le_pow_right (by omega) hn
set_option maxHeartbeats 2000000 in
set_option maxRecDepth 100000 in
theorem iDigCount_any (A B : Option Addr) (ca cb : Nat) (ids : List Int) (l : List Ctx) (w : World) (ha : Reads w w.heap.size 1 A ids.length (cellsI ids)) (hb : Reads w w.heap.size 3 B l.length (cellsC l)) (hn : ids.length ≤ 1000000000) (hl : l.length ≤ 1000000000) :
    Calls Try.prog 38 #[.slice A ids.length ca, .slice B l.length cb] w fun e w2 => e = .returned (.int .i64 (cntG ids l)) ∧ Below w.heap.size w w2 := by
  have hv := iVRows_any A B ca cb ids l w ha hb hn hl
  obtain ⟨o, ho⟩ : ∃ o, ordOkG ids l = o := ⟨_, rfl⟩
  rw [ho] at hv
  cases o
  · have HV := Lib.hid hv
    have HR : Hid (cntG ids l = -1) := by show _ = _; unfold cntG; rw [ho]; rfl
    clear hv
    go_enter Try.func38, Try.ntmps38
    go_wp2_with (go_at_call 71; go_must (refine HV.out.mono ?_); rintro e w2 ⟨v2, rfl, k2, _⟩)
    go_ret
    exact ⟨ret_int (by rw [HR.out]), k2⟩
  · by_cases h6 : ids.length ≤ 6
    · obtain ⟨n, hnv⟩ : ∃ n, n = vN ids l := ⟨_, rfl⟩
      have hnl : n = ids.length := by rw [hnv]; exact vN_ok ho
      rw [← hnv] at hv
      have hirr := ordF_irr ho
      have HR : Hid (cntG ids l = (countP (ordF ids l) ids.length ids.length fun _ => false : Nat)) := by show _ = _; unfold cntG; rw [ho, decide_eq_true h6]; rfl
      have hi6 : decide ((ids.length : Int) > 6) = false := decide_eq_false (by omega)
      obtain ⟨F, hF⟩ : ∃ F, F = ordF ids l := ⟨_, rfl⟩
      rw [← hF] at hirr hv
      have hn6 : n ≤ 6 := by omega
      have HRR : Hid (cntG ids l = (countP F n n fun _ => false : Nat)) := by
        show _ = _
        rw [HR.out, hF, hnl]
      have HV := Lib.hid (And.intro hv hirr)
      obtain ⟨i0, hi0, hz0, hz1, hz2⟩ := info_parts infoInt
      obtain ⟨N, hN⟩ : ∃ N, N = 2 ^ n := ⟨_, rfl⟩
      have hN64 : N ≤ 64 := by rw [hN]; exact pow_64 hn6
      have hNpos : 0 < N := by rw [hN]; exact Nat.two_pow_pos n
      have hsh : wrap64 ((2 : Int) ^ n) = (N : Int) := by rw [hN]; exact shl_64 hn6
      have HN := Lib.hid hN
      clear hv ha hb ho hF hnl hnv hirr HR hN
      go_enter Try.func38, Try.ntmps38
      go_wp2_with (first
        | (go_at_call 71; go_must (refine HV.out.1.mono ?_); rintro e w2 ⟨v2, rfl, hb2, ho2⟩
           obtain ⟨A2, c2, hv2, _, hr2⟩ := Reads.of_own ho2
           subst hv2
           have H2 := Lib.hid (And.intro hb2 hr2)
           clear hb2 ho2 hr2)
        | (at_make
           go_must (refine wpList_make_full _ rfl (.tmp 27) (.tmp 27) _ rfl w2.heap.size 3 i0 _ 1 Try.underlying23 hi0 hz0 hz1 _ _ _ _ N rfl rfl (by first | exact hsh | rfl) (by first | exact hsh | rfl) (by rw [hz2]; omega) (by simp only [maxLen]; omega) (Nat.le_refl _) ?_)
           intro w5 hown hg5
           rw [zero_nats] at hown
           obtain ⟨f1, f2⟩ := nat_cell hown (x := 0) (by rw [List.getElem?_replicate, if_pos hNpos]) hNpos
           have hown0 := nat_store hown 0 1
           have b5 : Below w2.heap.size w2 w5 := (Below.refl _ _).grown hg5 (Nat.le_refl _) (fun k hk => by cases hk)
           have b6 : Below w2.heap.size w2 (w5.setCell ⟨w2.heap.size, 0, none⟩ (.int .i64 1)) := b5.setCell (by simp) _
           have H5 := Lib.hid (And.intro b6 hown0)
           clear hown hown0 b5 b6 hg5))
      have hlen0 : ∀ t k, (addL F n t k).length = N := fun t k => by rw [addL_len]; exact HN.out.symm
      have hat : ∀ t k x, x < N → (addL F n t k)[x]? = some (partX F n t k x) := fun t k x hx => addL_at (by rw [← HN.out]; exact hx)
      have hple : ∀ t k x, x < N → partX F n t k x ≤ 720 := fun t k x hx => Nat.le_trans (partX_le HV.out.2 (by rw [← HN.out]; exact hx)) (fact_le hn6)
      have HL := Lib.hid (And.intro hlen0 (And.intro hat hple))
      clear hlen0 hat hple f1 f2
      go_loopw [33] (fun i wr => ∃ t : Nat, t ≤ N ∧ i = .int .i64 t ∧ Below w2.heap.size w2 wr ∧ wr.ownsRow w2.heap.size 3 1 (.slice (some ⟨w2.heap.size, 0, none⟩) N N) N ((addL F n t 0).map encN)) (fun i _ => N - (intOf i).toNat)
      case atStart => exact ⟨0, Nat.zero_le _, rfl, H5.out.1, by rw [addL_first, ← HN.out]; exact H5.out.2⟩
      case round =>
        obtain ⟨t, ht, rfl, hbl, hown⟩ := hrel
        by_cases hlt : t < N
        · have hti : (t : Int) < (N : Int) := by omega
          have HK := Lib.hid (And.intro hbl hown)
          clear hbl hown
          go_wp2_with fail
          go_loopw [38] (fun i wr => ∃ k : Nat, k ≤ n ∧ i = .int .i64 k ∧ Below w2.heap.size w2 wr ∧ wr.ownsRow w2.heap.size 3 1 (.slice (some ⟨w2.heap.size, 0, none⟩) N N) N ((addL F n t k).map encN)) (fun i _ => n - (intOf i).toNat)
          case atStart => exact ⟨0, Nat.zero_le _, rfl, HK.out.1, HK.out.2⟩
          case round =>
            obtain ⟨k, hk, rfl, hbl, hown⟩ := hrel
            by_cases hkk : k < n
            · have hki : (k : Int) < (n : Int) := by omega
              have ht2 : t < 2 ^ n := by rw [← HN.out]; exact hlt
              obtain ⟨b4, off4, hA5, hbb4, hc4⟩ := (H2.out.2.below hbl).rows (by omega)
              subst hA5
              obtain ⟨z, hz⟩ : ∃ z, z = bitN n (F k) := ⟨_, rfl⟩
              have hz2 : z < 65536 := by rw [hz]; exact bitN_16 _ (by omega)
              have c1 := hc4 k z (by rw [rowsN_at _ hkk, hz])
              have hwr := wrap_16 t (by omega)
              have hha := fun (W : World) => has_any t k (by omega) (by omega) W
              have hand := and_is z t hz2 (by omega)
              have hany := any_and n (F k) t.testBit
              rw [bits_self ht2, ← hz] at hany
              obtain ⟨s, hs⟩ : ∃ s, s = z &&& t := ⟨_, rfl⟩
              rw [← hs] at hand hany
              have hsame := addL_same (f := F) hkk ht2
              obtain ⟨b, hb⟩ : ∃ b, b = t.testBit k := ⟨_, rfl⟩
              rw [← hb] at hha hsame
              have HH := Lib.hid hha
              cases b
              · have hend := endB_or (f := F) (n := n) hb.symm
                obtain ⟨a, hae⟩ : ∃ a, a = (List.range n).any fun j => F k j && t.testBit j := ⟨_, rfl⟩
                rw [← hae] at hend hany
                have hs0 : ((s : Int) == 0) = !a := by
                  rw [← hany]
                  rw [bne, Bool.not_not]
                cases a
                · have hyes := addL_set (f := F) hkk ht2 (by rw [hend, ← hb]; rfl)
                  obtain ⟨u, hu⟩ : ∃ u, u = t ||| 2 ^ k := ⟨_, rfl⟩
                  have huN : u < N := by rw [hu, HN.out]; exact or_lt ht2 hkk
                  have hut : ¬ u = t := fun e => by
                    have h1 : (t ||| 2 ^ k).testBit k = true := by rw [Nat.testBit_or, Nat.testBit_two_pow]; simp
                    rw [← hu, e, ← hb] at h1
                    cases h1
                  have hsk := shl_64 (p := k) (by omega)
                  have hpk : 2 ^ k < 64 := Nat.lt_of_lt_of_le (Nat.pow_lt_pow_right (by omega) hkk) (pow_64 hn6)
                  have hor := or_64 t (2 ^ k) (by omega) hpk
                  rw [← hu] at hyes hor
                  obtain ⟨r, hr⟩ : ∃ r, r = 2 ^ k := ⟨_, rfl⟩
                  rw [← hr] at hsk hor
                  obtain ⟨y, hy⟩ : ∃ y, y = partX F n t k u := ⟨_, rfl⟩
                  obtain ⟨c, hc⟩ : ∃ c, c = cntX F n t := ⟨_, rfl⟩
                  have hyc := HL.out.2.2 t (k + 1) u huN
                  rw [hyes.2, ← hy, ← hc] at hyc
                  obtain ⟨f1, f2⟩ := nat_cell hown (by rw [HL.out.2.1 t k u huN, ← hy]) huN
                  obtain ⟨f3, _⟩ := nat_cell hown (x := c) (by rw [HL.out.2.1 t k t hlt, partX_done ht2 (Nat.le_refl _), hc]) hlt
                  have h9 := nat_store hown u (y + c)
                  rw [hy, hc, ← hyes.1, ← hy, ← hc] at h9
                  have huNi : (u : Int) < (N : Int) := by omega
                  have hycn : ((y + c : Nat) : Int) = (y : Int) + (c : Int) := by omega
                  rw [hycn] at h9
                  have hb9 : Below w2.heap.size w2 (wr.setCell ⟨w2.heap.size, u, none⟩ (.int .i64 ((y : Int) + (c : Int)))) := hbl.setCell (by simp) _
                  have H9 := Lib.hid (And.intro hb9 h9)
                  have hs1 : ((s : Int) == 0) = true := hs0
                  clear hc4 hz hha hany hs hsame hb hend hae hs0 hyes hu hr hy hc h9 hb9 hbl hown hycn
                  go_wp2_with (go_at_call 69; go_must (refine (HH.out _).mono ?_); rintro e w9 ⟨rfl, rfl⟩)
                  go_region
                  go_wp2_with fail
                  go_roundw
                  case rel => exact ⟨k + 1, by omega, by go_num, below_draws H9.out.1 1, H9.out.2⟩
                  case measure => simp [intOf]; omega
                · have hno := hsame (by rw [hend]; rfl)
                  have HI := Lib.hid (And.intro hbl (And.intro hown hno))
                  have hs1 : ((s : Int) == 0) = false := hs0
                  clear hc4 hz hha hany hs hsame hb hend hae hs0 hno hbl hown
                  go_wp2_with (go_at_call 69; go_must (refine (HH.out _).mono ?_); rintro e w9 ⟨rfl, rfl⟩)
                  go_roundw
                  case rel => exact ⟨k + 1, by omega, by go_num, HI.out.1, by rw [HI.out.2.2]; exact HI.out.2.1⟩
                  case measure => simp [intOf]; omega
              · have hno := hsame rfl
                have HI := Lib.hid (And.intro hbl (And.intro hown hno))
                clear hc4 hz hha hand hany hs hsame hb hno hbl hown
                go_wp2_with (go_at_call 69; go_must (refine (HH.out _).mono ?_); rintro e w9 ⟨rfl, rfl⟩)
                go_roundw
                case rel => exact ⟨k + 1, by omega, by go_num, HI.out.1, by rw [HI.out.2.2]; exact HI.out.2.1⟩
                case measure => simp [intOf]; omega
            · have hkn : k = n := by omega
              have HI := Lib.hid (And.intro hkn (And.intro hbl hown))
              clear hkn hbl hown
              go_wp2_with fail
              go_roundw
              case rel =>
                obtain ⟨hkn, hbl, hown⟩ := HI.out
                rw [hkn, addL_turn] at hown
                exact ⟨t + 1, by omega, by go_num, hbl, hown⟩
              case measure => simp [intOf]; omega
        · have htn : t = N := by omega
          have hN1 : (N : Int) - 1 = ((N - 1 : Nat) : Int) := by omega
          obtain ⟨M, hM⟩ : ∃ M, M = N - 1 := ⟨_, rfl⟩
          rw [← hM] at hN1
          have hMN : M < N := by omega
          have hMi : (M : Int) < (N : Int) := by omega
          obtain ⟨f1, _⟩ := nat_cell hown (HL.out.2.1 t 0 M hMN) hMN
          have hfin : partX F n t 0 M = countP F n n fun _ => false := by
            rw [partX_done (by rw [← HN.out]; exact hMN) (by omega), hM, HN.out]
            exact cntX_full HV.out.2
          rw [hfin] at f1
          obtain ⟨q, hq⟩ : ∃ q, q = countP F n n fun _ => false := ⟨_, rfl⟩
          rw [← hq] at f1
          have HI := Lib.hid (And.intro hbl hq)
          clear htn hM hfin hq hbl hown
          go_wp2_with fail
          go_ret
          exact ⟨ret_int (by rw [HRR.out, HI.out.2]), below_step H2.out.1 HI.out.1⟩
    · have hi6 : decide ((ids.length : Int) > 6) = true := decide_eq_true (by omega)
      have HR : Hid (cntG ids l = -1) := by show _ = _; unfold cntG; rw [decide_eq_false h6]; simp
      have HV := Lib.hid hv
      clear hv
      go_enter Try.func38, Try.ntmps38
      go_wp2_with (go_at_call 71; go_must (refine HV.out.mono ?_); rintro e w2 ⟨v2, rfl, k2, _⟩)
      go_ret
      exact ⟨ret_int (by rw [HR.out]), k2⟩
end Go.Proofs.Ytmcnjmflmpfjlaa
