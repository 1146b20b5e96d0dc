/- The number of orders of digging that the model counts. -/
import Derived.Test.YtmcnjmflmpfjlaaLm
import Derived.Test.YtmcnjmflmpfjlaaVr
import Derived.Test.YtmcnjmflmpfjlaaPe
import Derived.Deep.RegionLaw
import Derived.Deep.RegionHeld3
import Derived.Deep.OwnRows
namespace Go.Proofs.Ytmcnjmflmpfjlaa
open Go.RowKit

/-- What the first k places add up to. -/
def sumK (f : Nat → Nat → Bool) (n m : Nat) (d : Nat → Bool) (k : Nat) : Nat := (((List.range k).filter (freeB f n d)).map fun a => countP f n m (dugB d a)).sum
theorem sumK_next (f : Nat → Nat → Bool) (n m : Nat) (d : Nat → Bool) (k : Nat) : sumK f n m d (k + 1) = sumK f n m d k + if freeB f n d k = true then countP f n m (dugB d k) else 0 := by
  unfold sumK
  rw [List.range_succ, List.filter_append, List.map_append, List.sum_append]
  cases h : freeB f n d k <;> simp [h]
theorem sumK_mono (f : Nat → Nat → Bool) (n m : Nat) (d : Nat → Bool) {k j : Nat} (h : k ≤ j) : sumK f n m d k ≤ sumK f n m d j := by
  induction h with
  | refl => exact Nat.le_refl _
  | step _ ih => rw [sumK_next]; omega
theorem fact_le {m : Nat} (h : m ≤ 6) : factN m ≤ 720 := by
  have : m = 0 ∨ m = 1 ∨ m = 2 ∨ m = 3 ∨ m = 4 ∨ m = 5 ∨ m = 6 := by omega
  rcases this with rfl | rfl | rfl | rfl | rfl | rfl | rfl <;> decide
def cntG (ids : List Int) (l : List Ctx) : Int := if ordOkG ids l && decide (ids.length ≤ 6) then (countP (ordF ids l) ids.length ids.length fun _ => false : Nat) else -1
set_option maxHeartbeats 4000000 in
set_option maxRecDepth 100000 in
theorem sCount_any (f : Nat → Nat → Bool) (n : Nat) (hn : n ≤ 6) : ∀ (m : Nat) (d : Nat → Bool) (A D : Option Addr) (ca cd : Nat) (w : World), m ≤ n → leftN n d = m → Nest encB w w.heap.size A n (tabN n f) → Reads w w.heap.size 1 D n ((rowN n d).map encB) →
    Calls Try.prog 81 #[.slice A n ca, .slice D n cd, .int .i64 (m : Int)] w fun e w2 => e = .returned (.int .i64 (countP f n m d : Nat)) ∧ Below w.heap.size w w2 := by
  intro m
  induction m with
  | zero =>
    intro d A D ca cd w _ _ _ _
    go_enter Try.func81, Try.ntmps81
    go_wp2_with fail
    go_ret
    exact ⟨rfl, Below.refl _ _⟩
  | succ m ih =>
    intro d A D ca cd w hmn hleft hnest hdug
    obtain ⟨ib, hib, hbz, hbs, hbb⟩ := info_parts infoBool
    have hnn : n ≤ 12 := by omega
    have hfin : sumK f n m d n = countP f n (m + 1) d := rfl
    have hle : sumK f n m d n ≤ 720 := by rw [hfin]; exact Nat.le_trans (count_le _ _ hleft) (fact_le (by omega))
    have hmono := fun k (hk : k ≤ n) => Nat.le_trans (sumK_mono f n m d hk) hle
    have hnx := sumK_next f n m d
    obtain ⟨S, hS⟩ : ∃ S, S = sumK f n m d := ⟨_, rfl⟩
    rw [← hS] at hfin hmono hnx
    have hS0 : S 0 = 0 := by rw [hS]; rfl
    obtain ⟨M, hM⟩ : ∃ M, M = m + 1 := ⟨_, rfl⟩
    rw [← hM] at hfin hleft ⊢
    have e0 : ((M : Int) == 0) = false := by rw [beq_eq_false_iff_ne]; omega
    have hm1 : (M : Int) - 1 = (m : Int) := by omega
    have hmn' : m ≤ n := by omega
    have HM := Lib.hid hM
    clear hmn
    have HI := Lib.hid (And.intro ih (And.intro hleft (And.intro hnest (And.intro hdug (And.intro hfin (And.intro hmono (And.intro hnx hS0)))))))
    clear ih hleft hnest hdug hfin hle hmono hnx hS hS0 hM
    go_enter Try.func81, Try.ntmps81
    go_wp2_with fail
    go_loopw [7, 8] (fun v i wr => ∃ k : Nat, k ≤ n ∧ i = .int .i64 k ∧ v = .int .i64 (S k : Nat) ∧ Below w.heap.size w wr) (fun _ i _ => n - (intOf i).toNat)
    case atStart => exact ⟨0, Nat.zero_le _, rfl, by rw [HI.out.2.2.2.2.2.2.2]; rfl, Below.refl _ _⟩
    case round =>
      obtain ⟨k, hk, rfl, rfl, hbl⟩ := hrel
      have hs0 := HI.out.2.2.2.2.2.1 k hk
      by_cases hlt : k < n
      · have hki : (k : Int) < (n : Int) := by omega
        have hdr := HI.out.2.2.2.1.step hbl
        have hfr := sFree_any A D ca cd n k f d wr (HI.out.2.2.1.step hbl) hdr hnn hlt
        have hnx := HI.out.2.2.2.2.2.2.1 k
        have hs1 := HI.out.2.2.2.2.2.1 (k + 1) (by omega)
        obtain ⟨q, hq⟩ : ∃ q, freeB f n d k = q := ⟨_, rfl⟩
        rw [hq] at hfr hnx
        cases q
        · have HX := Lib.hid (And.intro hfr (And.intro hnx hbl))
          clear hfr hnx hbl hq hdr hs1
          go_wp2_with (go_at_call 77; go_must (refine HX.out.1.mono ?_); rintro e w3 ⟨rfl, rfl⟩)
          go_roundw
          case rel => exact ⟨k + 1, by omega, by go_num, by rw [HX.out.2.1]; rfl, HX.out.2.2⟩
          case measure => simp [intOf]; omega
        · obtain ⟨c, hc⟩ : ∃ c, c = countP f n m (dugB d k) := ⟨_, rfl⟩
          rw [← hc, if_pos rfl] at hnx
          have hdk : d k = false := (freeB_iff.1 hq).1
          have hleft2 : leftN n (dugB d k) = m := by have := left_next hlt hdk; have := HI.out.2.1; have := HM.out; omega
          have hoe : (wr.alloc (.cells #[] 4)).ownsRow wr.heap.size 4 1 (.slice (some ⟨wr.heap.size, 0, none⟩) 0 0) 0 [] := own_empty (Nat.le_refl _) rfl
          have hbe : Below wr.heap.size wr (wr.alloc (.cells #[] 4)) := (Below.refl _ _).alloc (Nat.le_refl _) _
          have hone : ∀ u ∈ (rowN n d).map encB, u.oneCell' = true := by
            intro u hu
            obtain ⟨x, _, rfl⟩ := List.mem_map.1 hu
            rfl
          obtain ⟨s, hs⟩ : ∃ s, s = S k := ⟨_, rfl⟩
          rw [← hs] at hnx hs0 ⊢
          have hsc : s + c ≤ 720 := by omega
          have HX := Lib.hid (And.intro hfr (And.intro hnx (And.intro hbl (And.intro hleft2 (And.intro hc (And.intro hoe (And.intro hbe (hdr.step hbe))))))))
          clear hfr hnx hbl hq hdr hs1 hdk hleft2 hoe hbe hc hs
          go_wp2_with (first
            | (go_at_call 77; go_must (refine HX.out.1.mono ?_); rintro e w3 ⟨rfl, rfl⟩)
            | (at_builtin
               go_must (refine wpList_append_reads _ rfl (.tmp 22) (.tmp 23) _ rfl wr.heap.size 4 ib _ 1 1 Try.underlying85 hib hbz hbs hbb rfl (by omega) _ 0 [] rfl HX.out.2.2.2.2.2.1 _ _ n cd ((rowN n d).map encB) rfl HX.out.2.2.2.2.2.2.2 hone (by simp only [maxLen]; omega) (by omega) (by simp) ?_)
               intro v8 w8 hown8 hg8 hat8
               rw [Nat.zero_add, List.nil_append] at hown8
               obtain ⟨g8, c8, hv8, hg80, hg8l⟩ := hown8.form (by omega)
               subst hv8
               have f1 := hown8.frozenAt k
               obtain ⟨bd, od, hAd, hbd, f2⟩ := Reads.cellE (by rw [rowN_len]; exact own_reads hown8 : Reads w8 w8.heap.size 1 (some ⟨g8, 0, none⟩) (rowN n d).length ((rowN n d).map encB)) (rowN_at d hlt)
               injection hAd with hAd
               injection hAd with e1 e2 e3
               subst e1 e2
               clear e3
               rw [Nat.zero_add] at f2
               simp only [encB] at f2
               have h9 := (hown8.stored k (.bool true)).1
               rw [row_dug] at h9
               have b8 : Below wr.heap.size wr w8 := below_grown HX.out.2.2.2.2.2.1 hg8 HX.out.2.2.2.2.2.2.1 (Nat.le_refl _)
               have b9 : Below wr.heap.size wr (w8.setCell ⟨g8, k, none⟩ (.bool true)) := b8.setCell (by simpa using hg80) _
               have H9 := Lib.hid (And.intro b9 h9)
               clear h9 b8 b9 hown8 hg8 hat8)
            | (go_at_call 81; go_must (refine (HI.out.1 (dugB d k) A _ ca _ _ (by omega) HX.out.2.2.2.1 (HI.out.2.2.1.step (below_step HX.out.2.2.1 H9.out.1)) (own_reads H9.out.2)).mono ?_); rintro e w10 ⟨rfl, b10⟩
               rw [← HX.out.2.2.2.2.1]))
          go_roundw
          case rel => exact ⟨k + 1, by omega, by go_num, by rw [HX.out.2.1]; rfl, below_step HX.out.2.2.1 (below_step H9.out.1 b10)⟩
          case measure => simp [intOf]; omega
      · have hkn : k = n := by omega
        have HX := Lib.hid (And.intro hkn hbl)
        clear hkn hbl
        go_wp2_with fail
        go_ret
        exact ⟨by rw [← HI.out.2.2.2.2.1, ← HX.out.1]; rfl, HX.out.2⟩
theorem own_bools {W : World} {n : Nat} (hn : n ≤ 12) : (W.alloc (.cells (madeCells #[.bool false] n) 4)).ownsRow W.heap.size 4 1 (.slice (some ⟨W.heap.size, 0, none⟩) n n) n ((rowN n fun _ => false).map encB) := by
  have h := zero_bools n
  rw [Nat.mul_one] at h
  have h2 : (madeCells #[Value.bool false] n).toList = (rowN n fun _ => false).map encB := h
  refine ⟨by simp [rowN_len], .inr ⟨_, n, _, rfl, Nat.le_refl _, heap_alloc_new _ _, Nat.le_refl _, by simp only [maxLen]; omega, ?_, ?_⟩⟩
  · rw [← Array.length_toList, h2]; simp [rowN_len]
  · rw [h2, List.take_of_length_le (by simp [rowN_len])]
set_option maxHeartbeats 4000000 in
set_option maxRecDepth 100000 in
theorem sDigCount_any (A B : Option Addr) (ca cb : Nat) (ids : List Int) (l : List Ctx) (w : World) (ha : Reads w w.heap.size 1 A ids.length (cellsI ids)) (hb : Reads w w.heap.size 3 B l.length (cellsC l)) (hn : ids.length ≤ 1000000000) (hl : l.length ≤ 1000000000) :
    Calls Try.prog 39 #[.slice A ids.length ca, .slice B l.length cb] w fun e w2 => e = .returned (.int .i64 (cntG ids l)) ∧ Below w.heap.size w w2 := by
  have hv := sOrdValid_any A B ca cb ids l w ha hb hn hl
  obtain ⟨o, ho⟩ : ∃ o, ordOkG ids l = o := ⟨_, rfl⟩
  rw [ho] at hv
  cases o
  · have HV := Lib.hid hv
    have HR : Hid (cntG ids l = -1) := by show _ = _; unfold cntG; rw [ho]; rfl
    clear hv
    go_enter Try.func39, Try.ntmps39
    go_wp2_with (go_at_call 52; go_must (refine HV.out.mono ?_); rintro e w2 ⟨rfl, k2⟩)
    go_ret
    exact ⟨ret_int (by rw [HR.out]), k2⟩
  · by_cases h6 : ids.length ≤ 6
    · have hok : okG ids l = true := ordOk_ok ho
      obtain ⟨ib, hib, hbz, hbs, hbb⟩ := info_parts infoBool
      have HR : Hid (cntG ids l = (countP (ordF ids l) ids.length ids.length fun _ => false : Nat)) := by show _ = _; unfold cntG; rw [ho, decide_eq_true h6]; rfl
      have hi6 : decide ((ids.length : Int) > 6) = false := decide_eq_false (by omega)
      have HV := Lib.hid (And.intro hv (And.intro ha (And.intro hb hok)))
      clear hv ha hb ho hok
      go_enter Try.func39, Try.ntmps39
      go_wp2_with (go_at_call 52; go_must (refine HV.out.1.mono ?_); rintro e w2 ⟨rfl, k2⟩)
      have hbD := below_draws k2 1
      have hmk := fun (W : World) => run_make_row (P := Try.prog) 85 4 ib (.bool false) Try.underlying85 hib hbz hbs rfl .i64 .i64 ids.length (by rw [hbb]; omega) (by omega) W
      have bM : ∀ W : World, Below W.heap.size W (W.alloc (.cells (madeCells #[.bool false] ids.length) 4)) := fun W => (Below.refl _ _).alloc (Nat.le_refl _) _
      have BM := Lib.hid (And.intro hbD (And.intro (below_step hbD (bM _)) bM))
      clear hbD bM
      go_region_law
        (first
          | (go_simp
             go_at_call 76
             refine (sOrder_any A B ca cb ids l (w2.drewN 1) (HV.out.2.1.step BM.out.1) (HV.out.2.2.1.step BM.out.1) HV.out.2.2.2).mono ?_
             rintro e w3 ⟨v3, vs3, rfl, k3, ho3⟩
             obtain ⟨A3, c3, hv3, _, hm3⟩ := ho3.nest
             rw [ordG_len] at hv3 hm3
             rw [← ordF_tab] at hm3
             subst hv3
             have k9 := below_step (below_step BM.out.1 k3) (BM.out.2.2 w3)
             have hN := hm3.step (BM.out.2.2 w3)
             have hR := own_reads (own_bools (W := w3) (n := ids.length) (by omega))
             have H3 := Lib.hid (And.intro k9 (And.intro hN hR))
             clear k9 hN hR ho3 hm3)
          | (go_simp
             go_at_call 76
             refine (sOrder_any A B ca cb ids l ((w2.drewN 1).alloc (.cells (madeCells #[.bool false] ids.length) 4)) (HV.out.2.1.step BM.out.2.1) (HV.out.2.2.1.step BM.out.2.1) HV.out.2.2.2).mono ?_
             rintro e w3 ⟨v3, vs3, rfl, k3, ho3⟩
             obtain ⟨A3, c3, hv3, _, hm3⟩ := ho3.nest
             rw [ordG_len] at hv3 hm3
             rw [← ordF_tab] at hm3
             subst hv3
             have k9 := below_step BM.out.2.1 k3
             have hR := own_reads (own_below (own_bools (W := w2.drewN 1) (n := ids.length) (by omega)) k3)
             have H3 := Lib.hid (And.intro k9 (And.intro hm3 hR))
             clear k9 hR ho3 hm3)
          | (go_simp
             go_at_call 81
             refine (sCount_any (ordF ids l) ids.length h6 ids.length (fun _ => false) A3 _ c3 _ _ (Nat.le_refl _) left_none H3.out.2.1 H3.out.2.2).mono ?_
             rintro e w9 ⟨rfl, b9⟩))
      all_goals
        go_wp2_with fail
        go_ret
        exact ⟨ret_int (by rw [HR.out]), below_step H3.out.1 b9⟩
    · have hi6 : decide ((ids.length : Int) > 6) = true := decide_eq_true (by omega)
      have HR : Hid (cntG ids l = -1) := by show _ = _; unfold cntG; rw [decide_eq_false h6]; simp
      have HV := Lib.hid hv
      clear hv
      go_enter Try.func39, Try.ntmps39
      go_wp2_with (go_at_call 52; go_must (refine HV.out.mono ?_); rintro e w2 ⟨rfl, k2⟩)
      go_ret
      exact ⟨ret_int (by rw [HR.out]), k2⟩
end Go.Proofs.Ytmcnjmflmpfjlaa
