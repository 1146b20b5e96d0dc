/-
  Whatever bytes are given: rows drawn from them are rows without one of them, too, if they are more than one, and are none where a row has one type less; the program's check is the model's. No condition.
-/
import Derived.Test.YtapmeooffmonmaaOpen
import Derived.Test.YtapmeooffmonmaaSe7
import Derived.Test.YtapmeooffmonmaaIsa
import Derived.Test.YtapmeooffmonmaaTri
import Derived.Deep.RegionHeld3
namespace Go.Proofs.Ytapmeooffmonmaa.lawRowsPart
open Go.ChangeShapes Go.WideShapes Go.ChangeAt Go.RowKit

/-- The headers vs are those of the rows L. -/
def Rowed (w : World) (B : Nat) (vs : List Value) (L : List (List Bool)) : Prop :=
  vs.length = L.length ∧ ∀ (i : Nat) (r : List Bool), L[i]? = some r → ∃ A2 c2, vs[i]? = some (.slice A2 r.length c2) ∧ r.length ≤ c2 ∧ Reads w B 1 A2 r.length (r.map encB)
section
variable {w w2 : World} {B n k : Nat} {A A2 : Option Addr} {vs us : List Value} {L M : List (List Bool)}
theorem Rowed.step (h : Rowed w w.heap.size vs L) (hb : Below w.heap.size w w2) : Rowed w2 w2.heap.size vs L :=
  ⟨h.1, fun i r hr => by obtain ⟨A3, c3, h1, h2, h3⟩ := h.2 i r hr; exact ⟨A3, c3, h1, h2, h3.step hb⟩⟩
theorem Rowed.take (h : Rowed w B vs L) (k : Nat) : Rowed w B (vs.take k) (L.take k) := by
  refine ⟨by rw [List.length_take, List.length_take, h.1], fun i r hr => ?_⟩
  rw [List.getElem?_take] at hr
  split at hr
  · rename_i hi
    obtain ⟨A3, c3, h1, h2⟩ := h.2 i r hr
    exact ⟨A3, c3, by rw [List.getElem?_take, if_pos hi]; exact h1, h2⟩
  · cases hr
theorem Rowed.drop (h : Rowed w B vs L) (k : Nat) : Rowed w B (vs.drop k) (L.drop k) := by
  refine ⟨by rw [List.length_drop, List.length_drop, h.1], fun i r hr => ?_⟩
  rw [List.getElem?_drop] at hr
  obtain ⟨A3, c3, h1, h2⟩ := h.2 _ r hr
  exact ⟨A3, c3, by rw [List.getElem?_drop]; exact h1, h2⟩
theorem Rowed.append (h : Rowed w B vs L) (h2 : Rowed w B us M) : Rowed w B (vs ++ us) (L ++ M) := by
  refine ⟨by rw [List.length_append, List.length_append, h.1, h2.1], fun i r hr => ?_⟩
  by_cases hi : i < L.length
  · rw [List.getElem?_append_left hi] at hr
    rw [List.getElem?_append_left (by rw [h.1]; exact hi)]
    exact h.2 i r hr
  · rw [List.getElem?_append_right (by omega)] at hr
    rw [List.getElem?_append_right (by rw [h.1]; omega), h.1]
    exact h2.2 _ r hr
theorem Rowed.set (h : Rowed w B vs L) {r : List Bool} {c2 : Nat} (hc : r.length ≤ c2) (hr : Reads w B 1 A2 r.length (r.map encB)) (k : Nat) : Rowed w B (vs.set k (.slice A2 r.length c2)) (L.set k r) := by
  refine ⟨by rw [List.length_set, List.length_set]; exact h.1, fun i r2 hr2 => ?_⟩
  rw [List.getElem?_set] at hr2 ⊢
  by_cases hk : k = i
  · rw [if_pos hk] at hr2 ⊢
    rw [h.1]
    split at hr2
    · rename_i hi
      injection hr2 with hr2
      subst hr2
      exact ⟨A2, c2, by rw [if_pos hi], hc, hr⟩
    · cases hr2
  · rw [if_neg hk] at hr2 ⊢
    exact h.2 i r2 hr2
theorem Rowed.nest (h : Rowed w B vs L) (hr : Reads w B 1 A n vs) : Nest encB w B A n L :=
  ⟨by have := hr.1; have := h.1; omega, vs, hr, h.2⟩
theorem Rowed.one (h : Rowed w B vs L) : ∀ u ∈ vs, u.oneCell' = true := by
  intro u hu
  obtain ⟨i, hi, rfl⟩ := List.getElem_of_mem hu
  obtain ⟨A3, c3, h1, _⟩ := h.2 i _ (List.getElem?_eq_getElem (by rw [← h.1]; exact hi))
  rw [List.getElem?_eq_getElem hi] at h1
  injection h1 with h1
  rw [h1]
  rfl
theorem headV (h : Reads w B 1 A n vs) (hk : k ≤ n) : Reads w B 1 A k (vs.take k) := by
  refine ⟨by rw [List.length_take, h.1]; omega, fun hn => ?_⟩
  obtain ⟨b, off, e, hb, hc⟩ := h.2 (by omega)
  refine ⟨b, off, e, hb, fun j u hu => hc j u ?_⟩
  rw [List.getElem?_take] at hu
  split at hu
  · exact hu
  · cases hu
theorem tailV {b off : Nat} (h : Reads w B 1 (some ⟨b, off, none⟩) n vs) (hk : k ≤ n) (hA : 0 < n - k → A2 = some ⟨b, off + k, none⟩) : Reads w B 1 A2 (n - k) (vs.drop k) := by
  refine ⟨by rw [List.length_drop, h.1]; omega, fun hn => ?_⟩
  obtain ⟨b', off', e, hb, hc⟩ := h.2 (by omega)
  injection e with e
  injection e with e1 e2 e3
  subst e1 e2
  refine ⟨b, off + k, hA hn, hb, fun j u hu => ?_⟩
  rw [List.getElem?_drop] at hu
  rw [Nat.add_assoc]
  exact hc _ u hu
end
theorem okS_part {T : List (List Bool)} (h : okS T = true) {k : Nat} (hk : k < T.length) : okS (T.take k ++ T.drop (k + 1)) = decide (1 < T.length) := by
  obtain ⟨h1, h2, h3⟩ := okS_parts h
  have hl : (T.take k ++ T.drop (k + 1)).length = T.length - 1 := by rw [List.length_append, List.length_take, List.length_drop]; omega
  by_cases h4 : 1 < T.length
  · rw [decide_eq_true h4]
    refine okS_mk (fun r hr => ?_) (by omega) (by omega)
    rcases List.mem_append.1 hr with h5 | h5
    · exact h1 r (List.mem_of_mem_take h5)
    · exact h1 r (List.mem_of_mem_drop h5)
  · rw [decide_eq_false h4]
    cases h5 : okS (T.take k ++ T.drop (k + 1))
    · rfl
    · have := (okS_parts h5).2.1; omega
theorem okS_less {T : List (List Bool)} {k : Nat} {r : List Bool} (hk : k < T.length) (hr : r.length = 4) : okS (T.set k r) = false := by
  cases h : okS (T.set k r)
  · rfl
  · have := (okS_parts h).1 r (List.mem_of_getElem? (i := k) (by simp [hk])); omega

set_option maxHeartbeats 8000000 in
set_option maxRecDepth 100000 in
theorem walk_short (A : Option Addr) (c : Nat) (z : List Int) (A1 : Option Addr) (c1 : Nat) (z1 : List Int) (w : World) (h : Bytes w A c z) (hn : z.length ≤ 1048576) (hn1 : z1.length ≤ 1048576) :
    Calls Try.prog 10 #[.slice A z.length c, .slice A1 z1.length c1] w fun e w2 => e = .returned (.bool true) ∧ Below w.heap.size w w2 := by
  obtain ⟨ir, hir, hrz, hrs, hrb⟩ := info_parts infoBools
  have e0 : decide ((1048576 : Int) < (z.length : Int)) = false := decide_eq_false (by omega)
  have e01 : decide ((1048576 : Int) < (z1.length : Int)) = false := decide_eq_false (by omega)
  go_enter Try.func10, Try.ntmps10
  go_wp2_with fail
  refine (dRowsV_any A c z _ h).mono ?_
  rintro e w2 ⟨v, T, rfl, ⟨Al, cl, hv, hcap, hnT⟩, hTl, hT5, hb2⟩
  subst hv
  have HN := Lib.hid (And.intro hnT (And.intro hb2 hT5))
  clear hnT hb2 hT5 h
  obtain ⟨ok, hok⟩ : ∃ ok, ok = okS T := ⟨_, rfl⟩
  have HOK := Lib.hid hok
  clear hok
  have eb : (ok != ok) = false := by simp
  have ec : (ok == ok) = true := by simp
  go_wp2_with fail
  refine (iRowsVs_any _ _ T _ HN.out.1 (by omega)).mono ?_
  rintro e w3 ⟨rfl, rfl⟩
  rw [← HOK.out]
  go_wp2_with fail
  refine (sRowsV_any _ _ T _ HN.out.1 (by omega)).mono ?_
  rintro e w4 ⟨rfl, rfl⟩
  rw [← HOK.out]
  cases ok
  · clear eb ec
    go_wp2_with fail
    go_ret
    exact ⟨rfl, HN.out.2.1⟩
  · obtain ⟨hall, hpos, hT5⟩ := okS_parts HOK.out.symm
    clear eb ec
    have hpi : (0 : Int) < (T.length : Int) := by omega
    have hkl : z1.length % T.length < T.length := Nat.mod_lt _ hpos
    have hnz : ((T.length : Int) == 0) = false := by rw [beq_eq_false_iff_ne]; omega
    have HA := Lib.hid hall
    clear hall
    go_wp2_with fail
    obtain ⟨k, hke⟩ : ∃ k : Nat, k = z1.length % T.length := ⟨_, rfl⟩
    have hki : (z1.length : Int) % (T.length : Int) = (k : Int) := by rw [hke]; rfl
    rw [hki]
    rw [← hke] at hkl
    obtain ⟨_, vs, hrv, hrow⟩ := HN.out.1
    have hRW : Rowed w2 w2.heap.size vs T := ⟨by have := hrv.1; omega, hrow⟩
    obtain ⟨b, off, hA, hbb, hcv⟩ := hrv.2 hpos
    subst hA
    obtain ⟨r, hr⟩ : ∃ r, T[k]? = some r := ⟨_, List.getElem?_eq_getElem hkl⟩
    have hr5 := HA.out r (List.mem_of_getElem? hr)
    obtain ⟨Ar, cr, hvk, hcr, hrr⟩ := hrow k r hr
    obtain ⟨b2, off2, hAr, hbb2, hcc2⟩ := hrr.2 (by omega)
    subst hAr
    have dk := hcv k _ hvk
    have hRT : Reads w2 w2.heap.size 1 (some ⟨b2, off2 + 1, none⟩) r.tail.length (r.tail.map encB) := by
      have := tailV (k := 1) (A2 := some ⟨b2, off2 + 1, none⟩) hrr (by omega) (fun _ => rfl)
      rw [show r.tail.length = r.length - 1 from by simp, show r.tail.map encB = (r.map encB).drop 1 from by simp]
      exact this
    have R4 := Lib.hid (And.intro hrv (And.intro hRW (And.intro hRT (And.intro hbb hbb2))))
    have hk0 : (0 : Int) ≤ (k : Int) := by omega
    have hk1 : (0 : Int) ≤ (k : Int) + 1 := by omega
    have hk2 : ((k : Int) + 1).toNat = k + 1 := by omega
    have hkw : IntKind.i64.wrap ((k : Int) + 1) = (k : Int) + 1 := IntWalk.i64_in _ (by omega)
    have hkc : (k : Int) ≤ (cl : Int) := by omega
    have hkc2 : (k : Int) + 1 ≤ (cl : Int) := by omega
    have hkl2 : (k : Int) ≤ (T.length : Int) := by omega
    have hkl3 : (k : Int) + 1 ≤ (T.length : Int) := by omega
    have hkl4 : (k : Int) < (T.length : Int) := by omega
    have hne : ¬ cl = k := by omega
    have hcr1 : ¬ cr = 1 := by omega
    have hcr2 : (1 : Int) ≤ (cr : Int) := by omega
    have hcr3 : (1 : Int) ≤ (r.length : Int) := by omega
    have hrle : r.length ≤ 5 := by omega
    obtain ⟨xs, hxs⟩ : ∃ xs, xs = T.take k ++ T.drop (k + 1) := ⟨_, rfl⟩
    obtain ⟨us, hus⟩ : ∃ us, us = vs.take k ++ vs.drop (k + 1) := ⟨_, rfl⟩
    have hxl : xs.length ≤ 1000 := by rw [hxs, List.length_append, List.length_take, List.length_drop]; omega
    have hxo : okS xs = decide (1 < T.length) := by rw [hxs]; exact okS_part HOK.out.symm hkl
    obtain ⟨more, hmo⟩ : ∃ more, more = decide (1 < T.length) := ⟨_, rfl⟩
    have hgt : decide ((1 : Int) < (T.length : Int)) = more := by
      rw [hmo, decide_eq_decide]
      omega
    rw [← hmo] at hxo
    have hmm : (more == more) = true := by simp
    have hRX : Rowed w2 w2.heap.size us xs := by rw [hus, hxs]; exact (hRW.take k).append (hRW.drop (k + 1))
    have hyo : okS (T.set k r.tail) = false := okS_less hkl (by simp; omega)
    have hyl : (T.set k r.tail).length = T.length := List.length_set
    have HX := Lib.hid (And.intro hxs (And.intro hus (And.intro hxo (And.intro hRX (And.intro hyo (And.intro hyl (And.intro hr5 hr)))))))
    clear hke hki hrv hrow hRW hcv hrr hcc2 hRT hxs hus hxo hmo hRX hyo hyl hr5 hr hvk
    by_cases hcc : cl = k + 1
    · have hAt : 0 < T.length - (k + 1) → (some ⟨b, off, none⟩ : Option Addr) = some ⟨b, off + (k + 1), none⟩ := fun h0 => by omega
      have HT := Lib.hid hAt
      have hcc2 : (cl = k + 1) = True := eq_true hcc
      clear hcc hAt
      go_wp2_with fail
      have hO : ((w2.drewN 1).alloc (.cells #[] 26)).ownsRow w2.heap.size 26 1 (.slice (some ⟨w2.heap.size, 0, none⟩) 0 0) 0 [] := own_empty (w := w2.drewN 1) (Nat.le_refl _) rfl
      have hB : Below w2.heap.size w2 ((w2.drewN 1).alloc (.cells #[] 26)) := (below_draws (Below.refl _ _) 1).alloc (Nat.le_refl _) _
      have w5X := Lib.hid (And.intro hO (And.intro hB (R4.out.1.below hB)))
      clear hO hB
      go_region_held3 (fun _ => True) (trivial)
        (first
          | (refine step_append_want ((w2.drewN 1).alloc (.cells #[] 26)) (by rfl) (.tmp 40) (.tmp 43) _ (by rfl) w2.heap.size 26 ir _ 1 24 Try.underlying23 hir hrz hrs hrb rfl (by omega) (.slice (some ⟨w2.heap.size, 0, none⟩) 0 0) 0 [] (by rfl) w5X.out.1 _ _ k _ (vs.take k) (by rfl) (headV w5X.out.2.2 (by omega)) (R4.out.2.1.take k).one (by simp only [maxLen]; omega) (by omega) (by simp) ?_
             intro v5 w5 o5 w5g w5t
             have b5 : Below w2.heap.size w2 w5 := w5X.out.2.1.grown w5g (by simp) (fun j hj => by simp [Value.ownBlock] at hj; omega))
          | (refine step_append_want w5 (by rfl) (.tmp 44) (.tmp 48) _ (by rfl) w2.heap.size 26 ir _ 1 24 Try.underlying23 hir hrz hrs hrb rfl (by omega) v5 (0 + k) ([] ++ vs.take k) (by rfl) o5 _ _ (T.length - (k + 1)) _ (vs.drop (k + 1)) (by rfl) (tailV (A2 := some ⟨b, off, none⟩) (R4.out.1.below b5) (by omega) HT.out) (R4.out.2.1.drop (k + 1)).one (by simp only [maxLen]; omega) (by omega) b5.size ?_
             intro v6 w6 o6 w6g w6t
             have b6 : Below w2.heap.size w2 w6 := b5.trans (app_below0 o5 (Nat.le_refl _) b5.size w6g)
             rw [List.nil_append, ← HX.out.2.1, show 0 + k + (T.length - (k + 1)) = xs.length from by rw [HX.out.1, List.length_append, List.length_take, List.length_drop]; omega] at o6
             have o6H := Lib.hid o6
             clear o6))
      obtain ⟨A6, c6, hv6, _, hr6⟩ := own_slice o6H.out
      subst hv6
      have hs6 := b6.size
      have dk6 := (below_cell b6 _ (off + k) R4.out.2.2.2.1).trans dk
      have K6 := Lib.hid (And.intro b6 (And.intro hr6 (R4.out.1.step b6)))
      clear b6 hr6 dk
      go_wp2_with (at_builtin
                   go_must (refine wpList_append_reads _ rfl (.tmp 50) (.tmp 51) _ rfl w6.heap.size 26 ir _ 1 24 Try.underlying23 hir hrz hrs hrb rfl (by omega) (.slice (some ⟨w6.heap.size, 0, none⟩) 0 0) 0 [] rfl (own_empty (Nat.le_refl _) rfl) w6.heap.size (some ⟨b, off, none⟩) T.length cl vs rfl (K6.out.2.2.below ((Below.refl _ _).alloc (Nat.le_refl _) _)) R4.out.2.1.one (by simp only [maxLen]; omega) (by omega) (by simp) ?_)
                   intro v8 w8 o8 w8g w8t
                   have b8 := ((Below.refl w6.heap.size w6).alloc (Nat.le_refl _) (.cells #[] 26)).grown w8g (by simp) (fun k hk => by simp [Value.ownBlock] at hk; omega)
                   rw [List.nil_append, Nat.zero_add] at o8
                   obtain ⟨gg, cap8, hv8, hbg, hgg⟩ := o8.form hpos
                   subst hv8
                   have O8 := Lib.hid (And.intro o8 b8)
                   have dk8 := (below_cell b8 _ (off + k) (Nat.lt_of_lt_of_le R4.out.2.2.2.1 hs6)).trans dk6
                   have hcz := o8.frozenAt k
                   obtain ⟨u0, hu0⟩ : ∃ u0, vs[k]? = some u0 := ⟨_, List.getElem?_eq_getElem (by have := R4.out.2.1.1; omega)⟩
                   have hc0 := (o8.cellAt k (by omega)).trans hu0
                   clear o8 b8 w8g w8t hu0)
      obtain ⟨W9, hW9⟩ : ∃ W9, W9 = w8.setCell ⟨gg, k, none⟩ (.slice (some ⟨b2, off2 + 1, none⟩) (r.length - 1) (cr - 1)) := ⟨_, rfl⟩
      have b9 : Below w6.heap.size w6 W9 := by rw [hW9]; exact O8.out.2.setCell hbg _
      have o9 : W9.ownsRow w6.heap.size 26 1 (.slice (some ⟨gg, 0, none⟩) T.length cap8) T.length (vs.set k (.slice (some ⟨b2, off2 + 1, none⟩) (r.length - 1) (cr - 1))) := by rw [hW9]; exact (O8.out.1.stored k _).1
      have nx : Nest encB W9 W9.heap.size A6 xs.length xs := ((HX.out.2.2.2.1.step K6.out.1).step b9).nest (K6.out.2.1.step b9)
      have hys := (((R4.out.2.1.step K6.out.1).step b9).set (c2 := cr - 1) (by rw [List.length_tail]; omega) ((R4.out.2.2.1.step K6.out.1).step b9) k)
      rw [List.length_tail] at hys
      have ny : Nest encB W9 W9.heap.size (some ⟨gg, 0, none⟩) (T.set k r.tail).length (T.set k r.tail) := by
        rw [HX.out.2.2.2.2.2.1]
        exact hys.nest (own_reads o9)
      have c1 := iRowsVs_any A6 c6 xs W9 nx (by omega)
      have c2 := iRowsVs_any (some ⟨gg, 0, none⟩) cap8 (T.set k r.tail) W9 ny (by rw [HX.out.2.2.2.2.2.1]; omega)
      rw [HX.out.2.2.1] at c1
      rw [HX.out.2.2.2.2.1, HX.out.2.2.2.2.2.1] at c2
      have HC := Lib.hid (And.intro c1 (And.intro c2 (below_step K6.out.1 b9)))
      rw [← hW9]
      clear b9 o9 nx ny hys c1 c2 hW9 dk6 dk8 hc0 hcz
      cases more
      · refine HC.out.1.mono ?_
        rintro e w10 ⟨rfl, rfl⟩
        go_wp2_with fail
        refine HC.out.2.1.mono ?_
        rintro e w11 ⟨rfl, rfl⟩
        go_wp2_with fail
        go_ret
        exact ⟨rfl, below_step HN.out.2.1 HC.out.2.2⟩
      · refine HC.out.1.mono ?_
        rintro e w10 ⟨rfl, rfl⟩
        go_wp2_with fail
        refine HC.out.2.1.mono ?_
        rintro e w11 ⟨rfl, rfl⟩
        go_wp2_with fail
        go_ret
        exact ⟨rfl, below_step HN.out.2.1 HC.out.2.2⟩
    · skip
      go_wp2_with fail
      have hO : ((w2.drewN 1).alloc (.cells #[] 26)).ownsRow w2.heap.size 26 1 (.slice (some ⟨w2.heap.size, 0, none⟩) 0 0) 0 [] := own_empty (w := w2.drewN 1) (Nat.le_refl _) rfl
      have hB : Below w2.heap.size w2 ((w2.drewN 1).alloc (.cells #[] 26)) := (below_draws (Below.refl _ _) 1).alloc (Nat.le_refl _) _
      have w5X := Lib.hid (And.intro hO (And.intro hB (R4.out.1.below hB)))
      clear hO hB
      go_region_held3 (fun _ => True) (trivial)
        (first
          | (refine step_append_want ((w2.drewN 1).alloc (.cells #[] 26)) (by rfl) (.tmp 40) (.tmp 43) _ (by rfl) w2.heap.size 26 ir _ 1 24 Try.underlying23 hir hrz hrs hrb rfl (by omega) (.slice (some ⟨w2.heap.size, 0, none⟩) 0 0) 0 [] (by rfl) w5X.out.1 _ _ k _ (vs.take k) (by rfl) (headV w5X.out.2.2 (by omega)) (R4.out.2.1.take k).one (by simp only [maxLen]; omega) (by omega) (by simp) ?_
             intro v5 w5 o5 w5g w5t
             have b5 : Below w2.heap.size w2 w5 := w5X.out.2.1.grown w5g (by simp) (fun j hj => by simp [Value.ownBlock] at hj; omega))
          | (refine step_append_want w5 (by rfl) (.tmp 44) (.tmp 48) _ (by rfl) w2.heap.size 26 ir _ 1 24 Try.underlying23 hir hrz hrs hrb rfl (by omega) v5 (0 + k) ([] ++ vs.take k) (by rfl) o5 _ _ (T.length - (k + 1)) _ (vs.drop (k + 1)) (by rfl) (tailV (A2 := some ⟨b, off + (k + 1), none⟩) (R4.out.1.below b5) (by omega) (fun _ => rfl)) (R4.out.2.1.drop (k + 1)).one (by simp only [maxLen]; omega) (by omega) b5.size ?_
             intro v6 w6 o6 w6g w6t
             have b6 : Below w2.heap.size w2 w6 := b5.trans (app_below0 o5 (Nat.le_refl _) b5.size w6g)
             rw [List.nil_append, ← HX.out.2.1, show 0 + k + (T.length - (k + 1)) = xs.length from by rw [HX.out.1, List.length_append, List.length_take, List.length_drop]; omega] at o6
             have o6H := Lib.hid o6
             clear o6))
      obtain ⟨A6, c6, hv6, _, hr6⟩ := own_slice o6H.out
      subst hv6
      have hs6 := b6.size
      have dk6 := (below_cell b6 _ (off + k) R4.out.2.2.2.1).trans dk
      have K6 := Lib.hid (And.intro b6 (And.intro hr6 (R4.out.1.step b6)))
      clear b6 hr6 dk
      go_wp2_with (at_builtin
                   go_must (refine wpList_append_reads _ rfl (.tmp 50) (.tmp 51) _ rfl w6.heap.size 26 ir _ 1 24 Try.underlying23 hir hrz hrs hrb rfl (by omega) (.slice (some ⟨w6.heap.size, 0, none⟩) 0 0) 0 [] rfl (own_empty (Nat.le_refl _) rfl) w6.heap.size (some ⟨b, off, none⟩) T.length cl vs rfl (K6.out.2.2.below ((Below.refl _ _).alloc (Nat.le_refl _) _)) R4.out.2.1.one (by simp only [maxLen]; omega) (by omega) (by simp) ?_)
                   intro v8 w8 o8 w8g w8t
                   have b8 := ((Below.refl w6.heap.size w6).alloc (Nat.le_refl _) (.cells #[] 26)).grown w8g (by simp) (fun k hk => by simp [Value.ownBlock] at hk; omega)
                   rw [List.nil_append, Nat.zero_add] at o8
                   obtain ⟨gg, cap8, hv8, hbg, hgg⟩ := o8.form hpos
                   subst hv8
                   have O8 := Lib.hid (And.intro o8 b8)
                   have dk8 := (below_cell b8 _ (off + k) (Nat.lt_of_lt_of_le R4.out.2.2.2.1 hs6)).trans dk6
                   have hcz := o8.frozenAt k
                   obtain ⟨u0, hu0⟩ : ∃ u0, vs[k]? = some u0 := ⟨_, List.getElem?_eq_getElem (by have := R4.out.2.1.1; omega)⟩
                   have hc0 := (o8.cellAt k (by omega)).trans hu0
                   clear o8 b8 w8g w8t hu0)
      obtain ⟨W9, hW9⟩ : ∃ W9, W9 = w8.setCell ⟨gg, k, none⟩ (.slice (some ⟨b2, off2 + 1, none⟩) (r.length - 1) (cr - 1)) := ⟨_, rfl⟩
      have b9 : Below w6.heap.size w6 W9 := by rw [hW9]; exact O8.out.2.setCell hbg _
      have o9 : W9.ownsRow w6.heap.size 26 1 (.slice (some ⟨gg, 0, none⟩) T.length cap8) T.length (vs.set k (.slice (some ⟨b2, off2 + 1, none⟩) (r.length - 1) (cr - 1))) := by rw [hW9]; exact (O8.out.1.stored k _).1
      have nx : Nest encB W9 W9.heap.size A6 xs.length xs := ((HX.out.2.2.2.1.step K6.out.1).step b9).nest (K6.out.2.1.step b9)
      have hys := (((R4.out.2.1.step K6.out.1).step b9).set (c2 := cr - 1) (by rw [List.length_tail]; omega) ((R4.out.2.2.1.step K6.out.1).step b9) k)
      rw [List.length_tail] at hys
      have ny : Nest encB W9 W9.heap.size (some ⟨gg, 0, none⟩) (T.set k r.tail).length (T.set k r.tail) := by
        rw [HX.out.2.2.2.2.2.1]
        exact hys.nest (own_reads o9)
      have c1 := iRowsVs_any A6 c6 xs W9 nx (by omega)
      have c2 := iRowsVs_any (some ⟨gg, 0, none⟩) cap8 (T.set k r.tail) W9 ny (by rw [HX.out.2.2.2.2.2.1]; omega)
      rw [HX.out.2.2.1] at c1
      rw [HX.out.2.2.2.2.1, HX.out.2.2.2.2.2.1] at c2
      have HC := Lib.hid (And.intro c1 (And.intro c2 (below_step K6.out.1 b9)))
      rw [← hW9]
      clear b9 o9 nx ny hys c1 c2 hW9 dk6 dk8 hc0 hcz
      cases more
      · refine HC.out.1.mono ?_
        rintro e w10 ⟨rfl, rfl⟩
        go_wp2_with fail
        refine HC.out.2.1.mono ?_
        rintro e w11 ⟨rfl, rfl⟩
        go_wp2_with fail
        go_ret
        exact ⟨rfl, below_step HN.out.2.1 HC.out.2.2⟩
      · refine HC.out.1.mono ?_
        rintro e w10 ⟨rfl, rfl⟩
        go_wp2_with fail
        refine HC.out.2.1.mono ?_
        rintro e w11 ⟨rfl, rfl⟩
        go_wp2_with fail
        go_ret
        exact ⟨rfl, below_step HN.out.2.1 HC.out.2.2⟩

theorem walk (A : Option Addr) (c : Nat) (z : List Int) (A1 : Option Addr) (c1 : Nat) (z1 : List Int) (w : World) (h1 : z.length ≤ c) (h2 : Reads w w.heap.size 1 A z.length (cellsB z)) (h3 : ∀ b ∈ z, 0 ≤ b ∧ b ≤ 255) (h4 : c ≤ maxLen)
    (_ : z1.length ≤ c1) (_ : Reads w w.heap.size 1 A1 z1.length (cellsB z1)) (_ : ∀ b ∈ z1, 0 ≤ b ∧ b ≤ 255) (_ : c1 ≤ maxLen) :
    Calls Try.prog 10 #[.slice A z.length c, .slice A1 z1.length c1] w fun e w2 => e = .returned (.bool true) ∧ Below w.heap.size w w2 := by
  by_cases hn : z.length ≤ 1048576
  · by_cases hn1 : z1.length ≤ 1048576
    · exact walk_short A c z A1 c1 z1 w (Bytes.mk_ h1 h2 h3 h4) hn hn1
    · have e0 : decide ((1048576 : Int) < (z.length : Int)) = false := decide_eq_false (by omega)
      have e1 : decide ((1048576 : Int) < (z1.length : Int)) = true := decide_eq_true (by omega)
      go_enter Try.func10, Try.ntmps10
      go_wp2_with fail
      go_ret
      exact ⟨rfl, Below.refl _ _⟩
  · have e0 : decide ((1048576 : Int) < (z.length : Int)) = true := decide_eq_true (by omega)
    go_enter Try.func10, Try.ntmps10
    go_wp2_with fail
    go_ret
    exact ⟨rfl, Below.refl _ _⟩

set_option linter.unusedVariables false
set_option maxRecDepth 100000 in
theorem lifted (os : Os) (started : os.Started) (H : Type) (enc : TypeId × Value → H) :
    ReturnsInHanded {} Try.checked os 10 .any (Rows.fnRowsPartSpec.pre6 enc Try.prog Try.f10 Rows.fnRowsPartRow.domain false) (Rows.fnRowsPartSpec.post enc Try.prog Try.f10 false true false false) := by
  refine returnsInHanded_of_change (C := Try.checked) lawOwn started (by kernel_rfl) Try.func10
    (ChangeSpec.witness6 (enc := enc) (C := Try.checked) false ⟨#[], #[.slice none 0 0, .slice none 0 0], []⟩ 8 (by kernel_rfl) (by kernel_rfl) (by kernel_rfl) (by kernel_rfl)) ?_
  intro W base args ds gs before hval0 hW hcnd _
  have hval : ∀ (j : Nat) t v, Try.f10.params[j]? = some t → args[j]? = some v → Value.okWide Try.prog W .any base t v := hval0
  have hW' := hW
  obtain ⟨p, q, hA0, hV, rfl, hfz, hnd⟩ := hW
  have hA : DataW.TrodAll enc Try.prog W 0 (fun _ => true) true Try.f10.params.toList args.toList ds p := hA0
  rw [Try.params10] at hA hval
  obtain ⟨v0, vs0, d0, ds0, p0, q0, hargs, rfl, rfl, h0, r0⟩ := trodAll_cons hA
  obtain ⟨v1, vs1, d1, ds1, p1, q1, rfl, rfl, rfl, h1, r1⟩ := trodAll_cons r0
  obtain ⟨rfl, rfl, rfl⟩ := trodAll_nil r1
  obtain rfl : args = #[v0, v1] := by cases args; simp_all
  obtain ⟨rfl, rfl⟩ := trodVars_none hV
  have k0 := h0
  have lt0 : ∀ x ∈ p0, x.block < W.heap.size := by obtain ⟨m, hm⟩ := k0; exact DataW.trod_lt m _ _ _ hm
  obtain ⟨a0, len0, cap0, rfl⟩ := okWide_slice Try.underlying22 (hval 0 22 v0 rfl rfl)
  obtain ⟨z0, hl0, hc0, hr0, hb0, hm0⟩ : ∃ z : List Int, len0 = z.length ∧ len0 ≤ cap0 ∧ Reads W W.heap.size 1 a0 len0 (cellsB z) ∧ (∀ b ∈ z, 0 ≤ b ∧ b ≤ 255) ∧ cap0 ≤ maxLen := by
    obtain ⟨fuel, hf⟩ := h0
    exact open_bytes Try.underlying22 Try.underlying5 (by kernel_rfl) (by simpa [Value.cells] using hf)
  subst hl0
  have k1 := h1
  have lt1 : ∀ x ∈ p1, x.block < W.heap.size := by obtain ⟨m, hm⟩ := k1; exact DataW.trod_lt m _ _ _ hm
  obtain ⟨a1, len1, cap1, rfl⟩ := okWide_slice Try.underlying22 (hval 1 22 v1 rfl rfl)
  obtain ⟨z1, hl1, hc1, hr1, hb1, hm1⟩ : ∃ z : List Int, len1 = z.length ∧ len1 ≤ cap1 ∧ Reads W W.heap.size 1 a1 len1 (cellsB z) ∧ (∀ b ∈ z, 0 ≤ b ∧ b ≤ 255) ∧ cap1 ≤ maxLen := by
    obtain ⟨fuel, hf⟩ := h1
    exact open_bytes Try.underlying22 Try.underlying5 (by kernel_rfl) (by simpa [Value.cells] using hf)
  subst hl1
  clear hA0 hval0
  refine (walk a0 cap0 z0 a1 cap1 z1 W hc0 hr0 hb0 hm0 hc1 hr1 hb1 hm1).mono fun e W' ⟨he, bel⟩ => ?_
  subst he
  exact ⟨_, rfl, _, _, _, [], _, [], hW', trodAll_mk1 (shut_bool Try.underlying4 _), (trodAll_cons_mk (Below.trod lawLaid (by kernel_rfl) (of_decide_eq_true (by kernel_rfl)) k0 bel lt0) (trodAll_cons_mk (Below.trod lawLaid (by kernel_rfl) (of_decide_eq_true (by kernel_rfl)) k1 bel lt1) trodAll_mk0)), rfl, bel.frame _, fun h => by cases h⟩

theorem proved : Rows.FnRowsPartSaid :=
  OpenClaim.holds_of_wide 10 Try.f10 rfl rfl rfl rfl rfl rfl rfl ⟨rfl, rfl, rfl, rfl, rfl⟩ rfl rfl rfl rfl rfl (by kernel_rfl) Try.func10 (by kernel_rfl)
    (of_decide_eq_true (by kernel_rfl)) (by unfold Func.isWrapper; rw [if_neg (of_decide_eq_false (by kernel_rfl))]; exact ⟨rfl, rfl⟩)
    (fun os started H enc _ => lifted os started H enc)
#print axioms proved
end Go.Proofs.Ytapmeooffmonmaa.lawRowsPart
