/- The model's rows in an order, and its search of the first order. -/
import Derived.Test.YtapmeooffmonmaaSe2
import Derived.Test.YtapmeooffmonmaaPc
namespace Go.Proofs.Ytapmeooffmonmaa
open Go.RowKit

theorem bools_one (r : List Bool) : ∀ u ∈ r.map encB, u.oneCell' = true := by
  intro u hu
  obtain ⟨b, _, rfl⟩ := List.mem_map.1 hu
  rfl
/-- A table of Booleans of the call's own. -/
def TabS (w : World) (T : List (List Bool)) (e : Ending) (w2 : World) : Prop :=
  ∃ v vs, e = .returned v ∧ Below w.heap.size w w2 ∧ OwnV encB w2 w.heap.size 4 26 v vs T
set_option maxHeartbeats 4000000 in
set_option maxRecDepth 100000 in
theorem sTake_any (A D : Option Addr) (ca cd : Nat) (rows : List (List Bool)) (o : List Int) (w : World) (hr : Nest encB w w.heap.size A rows.length rows) (ho : Reads w w.heap.size 1 D o.length (cellsI o)) (_ : rows.length ≤ 1000000000) (hol : o.length ≤ 1000) (h5 : ∀ r ∈ rows, r.length ≤ 1000) (hin : ∀ x ∈ o, 0 ≤ x ∧ x < rows.length) :
    Calls Try.prog 46 #[.slice A rows.length ca, .slice D o.length cd] w (TabS w (takeS rows o)) := by
  obtain ⟨ib, hib, hbz, hbs, hbb⟩ := info_parts infoBool
  obtain ⟨ir, hir, hrz, hrs, hrb⟩ := info_parts infoBools
  have hb1 : Below w.heap.size w (w.alloc (.cells #[] 26)) := (Below.refl _ _).alloc (Nat.le_refl _) _
  have ho1 : OwnV encB (w.alloc (.cells #[] 26)) w.heap.size 4 26 (.slice (some ⟨w.heap.size, 0, none⟩) 0 0) [] [] := OwnV.nil_ (own_empty (Nat.le_refl _) rfl)
  have H := Lib.hid (And.intro hr (And.intro ho (And.intro h5 (And.intro hin (And.intro hb1 ho1)))))
  clear hr ho h5 hin hb1 ho1
  go_enter Try.func46, Try.ntmps46
  go_wp2_with fail
  go_loopw [5, 6] (fun v i wr => ∃ (k : Nat) (vs : List Value), k ≤ o.length ∧ i = .int .i64 k ∧ Below w.heap.size w wr ∧ OwnV encB wr w.heap.size 4 26 v vs (takeS rows (o.take k))) (fun _ i _ => o.length - (intOf i).toNat)
  case atStart => exact ⟨0, [], Nat.zero_le _, rfl, H.out.2.2.2.2.1, by rw [List.take_zero]; exact H.out.2.2.2.2.2⟩
  case round =>
    obtain ⟨k, vs, hk, rfl, hbl, hown⟩ := hrel
    have hsz := hbl.size
    by_cases hlt : k < o.length
    · have hki : (k : Int) < (o.length : Int) := by omega
      obtain ⟨x, hx⟩ : ∃ x, o[k]? = some x := ⟨_, List.getElem?_eq_getElem hlt⟩
      obtain ⟨hx0, hxn⟩ := H.out.2.2.2.1 x (List.mem_of_getElem? hx)
      obtain ⟨i, rfl⟩ : ∃ i : Nat, x = (i : Int) := ⟨x.toNat, by omega⟩
      obtain ⟨r, hri⟩ : ∃ r, rows[i]? = some r := ⟨_, List.getElem?_eq_getElem (by omega)⟩
      have hr5 := H.out.2.2.1 r (List.mem_of_getElem? hri)
      obtain ⟨W1, hW1⟩ : ∃ W1, W1 = wr.alloc (.cells #[] 4) := ⟨_, rfl⟩
      have b1 : Below wr.heap.size wr W1 := by rw [hW1]; exact (Below.refl wr.heap.size wr).alloc (Nat.le_refl _) _
      have hb1 := below_step hbl b1
      obtain ⟨bo, oo, hD, hbo, hco⟩ := (H.out.2.1.step hb1).ints (by omega)
      subst hD
      have c1 := hco k _ hx
      obtain ⟨b, off, A2, c2, hA, hb, c3, _, hr2⟩ := (H.out.1.step hb1).row hri
      subst hA
      have hE : W1.ownsRow wr.heap.size 4 1 (.slice (some ⟨wr.heap.size, 0, none⟩) 0 0) 0 [] := by rw [hW1]; exact own_empty (Nat.le_refl _) rfl
      have htk : takeS rows (o.take (k + 1)) = takeS rows (o.take k) ++ [r] := by
        rw [List.take_add_one, hx]
        show takeS rows (o.take k ++ [(i : Int)]) = _
        rw [takeS_app]
        simp [hri]
      have hTl : (takeS rows (o.take k)).length = k := by rw [takeS_len, List.length_take]; omega
      have hs1 : wr.heap.size ≤ W1.heap.size := b1.size
      rw [hW1] at c1 c3
      have HX := Lib.hid (And.intro hbl (And.intro hown (And.intro b1 (And.intro hE (And.intro hr2 htk)))))
      clear hbl hown b1 hb1 hco hr2 hE htk hx hri
      go_wp2_with (first
        | (at_builtin
           rw [← hW1]
           go_must (refine wpList_append_reads _ rfl (.tmp 15) (.tmp 22) _ rfl wr.heap.size 4 ib _ 1 1 Try.underlying26 hib hbz hbs hbb rfl (by omega) (.slice (some ⟨wr.heap.size, 0, none⟩) 0 0) 0 [] rfl HX.out.2.2.2.1 W1.heap.size A2 r.length c2 (r.map encB) rfl HX.out.2.2.2.2.1 (bools_one r) (by simp only [maxLen]; omega) (by omega) hs1 ?_)
           intro v5 w5 hown5 hg5 hat5
           rw [List.nil_append, Nat.zero_add] at hown5
           obtain ⟨A5, c5, hv5, _, _⟩ := own_slice hown5
           subst hv5
           have b5 : Below wr.heap.size wr w5 := HX.out.2.2.1.grown hg5 hs1 (fun j hj => by simp [Value.ownBlock] at hj; omega)
           have K5 := Lib.hid (And.intro b5 hown5)
           have hs5 := b5.size
           clear b5 hown5 hg5 hat5)
        | (at_builtin
           go_must (refine wpList_append_reads _ rfl (.tmp 14) (.tmp 24) _ rfl w.heap.size 26 ir _ 1 24 Try.underlying23 hir hrz hrs hrb rfl (by omega) u5 (takeS rows (o.take k)).length vs rfl ((own_below HX.out.2.1.out K5.out.1).alloc _) (w5.heap.size + 1) _ 1 1 [.slice A5 r.length c5] rfl (reads_val (by omega)) one_slice (by simp only [maxLen]; omega) (by omega) (by simp; omega) ?_)
           intro v6 w6 hown6 hg6 hat6))
      go_roundw
      case rel =>
        obtain ⟨hbl, hown, b1, hE, hr2, htk⟩ := HX.out
        have hp := (hown.below K5.out.1).push (r := r) (u := .slice A5 r.length c5) (own_less K5.out.2 hsz) (hown.fresh K5.out.2 (Nat.le_refl _)) hown6 hg6 hat6
        rw [← htk] at hp
        exact ⟨k + 1, _, by omega, by go_num, (below_step hbl K5.out.1).trans (app_below (hown.below K5.out.1).out (Nat.le_refl _) (Nat.le_trans hsz hs5) hg6), hp⟩
      case measure => simp [intOf]; omega
    · have hdn : decide ((k : Int) < (o.length : Int)) = false := decide_eq_false (by omega)
      have hkl : o.take k = o := List.take_of_length_le (by omega)
      rw [hkl] at hown
      have HX := Lib.hid (And.intro hbl hown)
      clear hbl hown hkl
      go_wp2_with fail
      go_ret
      exact ⟨_, vs, rfl, HX.out.1, HX.out.2⟩
/-- A call returned a list of numbers. -/
def OrdR (w : World) (D : Option Addr) (out : List Int) (e : Ending) (w2 : World) : Prop :=
  ∃ A c, e = .returned (.slice A out.length c) ∧ Below w.heap.size w w2 ∧ Reads w2 w2.heap.size 1 A out.length (cellsI out) ∧ ∀ b off, A = some ⟨b, off, none⟩ → w.heap.size ≤ b ∨ D = some ⟨b, off, none⟩
theorem ordR_nil {w w2 : World} {D : Option Addr} {out : List Int} {g : Nat} (h : out = []) (hb : Below w.heap.size w w2) (hg : w.heap.size ≤ g) : OrdR w D out (.returned (.slice (some ⟨g, 0, none⟩) 0 0)) w2 := by
  subst h
  refine ⟨_, _, rfl, hb, Reads.nil_, fun b off e => .inl ?_⟩
  injection e with e
  injection e with e
  omega
set_option maxHeartbeats 8000000 in
set_option maxRecDepth 100000 in
theorem sOrd_any (A : Option Addr) (ca : Nat) (rows : List (List Bool)) (hok : okS rows = true) : ∀ (d : Nat) (o : List Int) (D : Option Addr) (cd : Nat) (w : World), d + o.length = rows.length → (∀ x ∈ o, 0 ≤ x ∧ x < rows.length) →
    Nest encB w w.heap.size A rows.length rows → Reads w w.heap.size 1 D o.length (cellsI o) → Calls Try.prog 52 #[.slice A rows.length ca, .slice D o.length cd] w (OrdR w D (srchS rows d o)) := by
  obtain ⟨h5, hn1, hn5⟩ := okS_parts hok
  have h1000 : ∀ r ∈ rows, r.length ≤ 1000 := fun r hr => by have := h5 r hr; omega
  intro d
  induction d with
  | zero =>
    intro o D cd w hd hin hr ho
    have hT := sTake_any A D ca cd rows o w hr ho (by omega) (by omega) h1000 hin
    have hl : o.length = rows.length := by omega
    have e0 : ((o.length : Int) == (rows.length : Int)) = true := by rw [beq_iff_eq]; omega
    have hs : srchS rows 0 o = if serS (takeS rows o) = true then o else [] := rfl
    have htl : (takeS rows o).length ≤ 1000000000 := by rw [takeS_len]; omega
    have hT5 := takeS_five h5 hin
    obtain ⟨T, hTe⟩ : ∃ T, T = takeS rows o := ⟨_, rfl⟩
    rw [← hTe] at hT hs htl hT5
    rw [hs]
    have H := Lib.hid (And.intro hT (And.intro hT5 ho))
    clear hT hT5 hr ho hs hTe hd hin hl
    cases hse : serS T
    · have HSE := Lib.hid hse
      clear hse
      go_enter Try.func52, Try.ntmps52
      go_wp2_with (first
        | (go_at_call 46; go_must (refine H.out.1.mono ?_); rintro e w2 ⟨v2, vs2, rfl, k2, o2⟩
           obtain ⟨A2, c2, hv2, _, hn2⟩ := o2.nest
           subst hv2
           have hS := sSer_any A2 c2 T w2 hn2 htl H.out.2.1
           rw [HSE.out] at hS
           have HS := Lib.hid hS
           have K2 := Lib.hid k2
           clear hn2 hS o2 k2)
        | (go_at_call 48; go_must (refine HS.out.mono ?_); rintro e w3 ⟨rfl, rfl⟩))
      go_ret
      exact ordR_nil (by simp) (K2.out.alloc K2.out.size _) K2.out.size
    · have HSE := Lib.hid hse
      clear hse
      go_enter Try.func52, Try.ntmps52
      go_wp2_with (first
        | (go_at_call 46; go_must (refine H.out.1.mono ?_); rintro e w2 ⟨v2, vs2, rfl, k2, o2⟩
           obtain ⟨A2, c2, hv2, _, hn2⟩ := o2.nest
           subst hv2
           have hS := sSer_any A2 c2 T w2 hn2 htl H.out.2.1
           rw [HSE.out] at hS
           have HS := Lib.hid hS
           have K2 := Lib.hid k2
           clear hn2 hS o2 k2)
        | (go_at_call 48; go_must (refine HS.out.mono ?_); rintro e w3 ⟨rfl, rfl⟩))
      go_ret
      exact ⟨D, cd, rfl, K2.out, H.out.2.2.step K2.out, fun b off e => .inr e⟩
  | succ d ih =>
    intro o D cd w hd hin hr ho
    obtain ⟨i0, hi0, hz0, hz1, hz2⟩ := info_parts infoInt
    have e0 : ((o.length : Int) == (rows.length : Int)) = false := by rw [beq_eq_false_iff_ne]; omega
    have hs : srchS rows (d + 1) o = tryS (fun k => srchS rows d (o ++ [k])) o rows.length := rfl
    rw [hs]
    obtain ⟨f, hf⟩ : ∃ f, f = fun k => srchS rows d (o ++ [k]) := ⟨_, rfl⟩
    rw [← hf]
    have hol : o.length ≤ 5 := by omega
    have H := Lib.hid (And.intro ih (And.intro hin (And.intro hr (And.intro ho (And.intro hf hd)))))
    clear ih hin hr ho hf hs hd
    go_enter Try.func52, Try.ntmps52
    go_wp2_with fail
    go_loopw [5] (fun c wr => ∃ k : Nat, k ≤ rows.length ∧ c = .int .i64 k ∧ Below w.heap.size w wr ∧ tryS f o k = []) (fun c _ => rows.length - (intOf c).toNat)
    case atStart => exact ⟨0, Nat.zero_le _, rfl, Below.refl _ _, rfl⟩
    case round =>
      obtain ⟨k, hk, rfl, hbl, htr⟩ := hrel
      have hsz := hbl.size
      by_cases hlt : k < rows.length
      · have hki : (k : Int) < (rows.length : Int) := by omega
        have hP := sPlace_any D cd o (k : Int) wr (H.out.2.2.2.1.step hbl) (by omega)
        have hneg := findI_neg o (k : Int)
        have hnx : tryS f o (k + 1) = if (k : Int) ∈ o then [] else f k := by
          show (if tryS f o k = [] then (if (k : Int) ∈ o then [] else f k) else tryS f o k) = _
          rw [if_pos htr]
        by_cases hm : (k : Int) ∈ o
        · rw [decide_eq_true hm] at hneg
          rw [if_pos hm] at hnx
          have HX := Lib.hid (And.intro hbl (And.intro hP hnx))
          clear hbl hP hnx hm htr
          go_wp2_with (go_at_call 55; go_must (refine HX.out.2.1.mono ?_); rintro e w2 ⟨rfl, rfl⟩)
          go_roundw
          case rel => exact ⟨k + 1, by omega, by go_num, HX.out.1, HX.out.2.2⟩
          case measure => simp [intOf]; omega
        · rw [decide_eq_false hm] at hneg
          rw [if_neg hm] at hnx
          obtain ⟨W1, hW1⟩ : ∃ W1, W1 = wr.alloc (.cells #[] 3) := ⟨_, rfl⟩
          have b1 : Below wr.heap.size wr W1 := by rw [hW1]; exact (Below.refl wr.heap.size wr).alloc (Nat.le_refl _) _
          have hE : W1.ownsRow wr.heap.size 3 1 (.slice (some ⟨wr.heap.size, 0, none⟩) 0 0) 0 [] := by rw [hW1]; exact own_empty (Nat.le_refl _) rfl
          have hs1 : wr.heap.size ≤ W1.heap.size := b1.size
          obtain ⟨xs, hxs⟩ : ∃ xs, xs = o ++ [(k : Int)] := ⟨_, rfl⟩
          obtain ⟨out, hout⟩ : ∃ out, out = srchS rows d xs := ⟨_, rfl⟩
          have hfk : f k = out := by rw [hout, hxs, H.out.2.2.2.2.1]
          rw [hfk] at hnx
          have hxl : xs.length = o.length + 1 := by rw [hxs]; simp
          have hIH : ∀ (D2 : Option Addr) (c2 : Nat) (W : World), Below wr.heap.size wr W → Reads W W.heap.size 1 D2 xs.length (cellsI xs) → Calls Try.prog 52 #[.slice A rows.length ca, .slice D2 xs.length c2] W (OrdR W D2 out) := fun D2 c2 W hW hR => by
            rw [hout]
            refine H.out.1 xs D2 c2 W (by have := H.out.2.2.2.2.2; omega) (fun x hx => ?_) (H.out.2.2.1.step (below_step hbl hW)) hR
            rw [hxs] at hx
            rcases List.mem_append.1 hx with h | h
            · exact H.out.2.1 x h
            · rw [List.mem_singleton.1 h]; omega
          have HXL := Lib.hid (And.intro hxl hxs)
          have HX := Lib.hid (And.intro hbl (And.intro hP (And.intro hnx (And.intro b1 (And.intro hE (And.intro hIH ((H.out.2.2.2.1.step hbl).step b1)))))))
          clear hbl hP hnx hm htr b1 hE hIH hxl hxs hout hfk
          have hon : out.length = 0 ∨ 0 < out.length := by omega
          rcases hon with hon | hon
          · have eo : decide ((0 : Int) < (out.length : Int)) = false := decide_eq_false (by omega)
            have hon2 : ¬ 0 < out.length := by omega
            have HON := Lib.hid (List.eq_nil_of_length_eq_zero hon)
            clear hon
            go_wp2_with (first
              | (go_at_call 55; go_must (refine HX.out.2.1.mono ?_); rintro e w2 ⟨rfl, rfl⟩)
              | (at_builtin
                 rw [← hW1]
                 go_must (refine wpList_append_reads _ rfl (.tmp 29) (.tmp 30) _ rfl wr.heap.size 3 i0 _ 1 8 Try.underlying28 hi0 hz0 hz1 hz2 rfl (by omega) (.slice (some ⟨wr.heap.size, 0, none⟩) 0 0) 0 [] rfl HX.out.2.2.2.2.1 W1.heap.size D o.length cd (cellsI o) rfl HX.out.2.2.2.2.2.2 (cellsI_one _) (by simp only [maxLen]; omega) (by omega) hs1 ?_)
                 intro v5 w5 hown5 hg5 hat5
                 rw [List.nil_append, Nat.zero_add] at hown5
                 have b5 : Below wr.heap.size wr w5 := HX.out.2.2.2.1.grown hg5 hs1 (fun j hj => by simp [Value.ownBlock] at hj; omega)
                 have K5 := Lib.hid (And.intro b5 hown5)
                 have hs5 := b5.size
                 clear b5 hown5 hg5 hat5)
              | (at_builtin
                 go_must (refine wpList_append_reads _ rfl (.tmp 31) (.tmp 33) _ rfl wr.heap.size 3 i0 _ 1 8 Try.underlying28 hi0 hz0 hz1 hz2 rfl (by omega) v5 o.length (cellsI o) rfl (K5.out.2.alloc _) (w5.heap.size + 1) _ 1 1 (cellsI [(k : Int)]) rfl (reads_int (by omega)) (cellsI_one _) (by simp only [maxLen]; omega) (by omega) (by simp; omega) ?_)
                 intro v6 w6 hown6 hg6 hat6
                 have b6 : Below wr.heap.size wr w6 := (K5.out.1.alloc hs5 _).trans (app_below0 (K5.out.2.alloc _) (Nat.le_refl _) (by simp; omega) hg6)
                 rw [show cellsI o ++ cellsI [(k : Int)] = cellsI xs from by rw [HXL.out.2]; simp [cellsI], show o.length + 1 = xs.length from HXL.out.1.symm] at hown6
                 obtain ⟨A6, c6, hv6, _, hr6⟩ := own_slice hown6
                 subst hv6
                 have hlo6 : ∀ b off, A6 = some ⟨b, off, none⟩ → wr.heap.size ≤ b := fun b off e => by
                   subst e
                   rcases hown6.2 with ⟨h0, _⟩ | ⟨g', cap', cur', h0, hb', _⟩
                   · cases h0
                   · injection h0 with h0
                     injection h0 with h0
                     injection h0 with h0
                     omega
                 have K6 := Lib.hid (And.intro b6 (And.intro (HX.out.2.2.2.2.2.1 A6 c6 w6 b6 hr6) hlo6))
                 clear b6 hown6 hg6 hat6 hr6 hlo6)
              | (go_at_call 52; go_must (refine K6.out.2.1.mono ?_); rintro e w7 ⟨A7, c7, rfl, k7, r7, l7⟩))
            go_roundw
            case rel => exact ⟨k + 1, by omega, by go_num, below_step HX.out.1 (below_step K6.out.1 k7), by rw [HX.out.2.2.1, HON.out]⟩
            case measure => simp [intOf]; omega
          · have eo : decide ((0 : Int) < (out.length : Int)) = true := decide_eq_true (by omega)
            have HON := Lib.hid hon
            go_wp2_with (first
              | (go_at_call 55; go_must (refine HX.out.2.1.mono ?_); rintro e w2 ⟨rfl, rfl⟩)
              | (at_builtin
                 rw [← hW1]
                 go_must (refine wpList_append_reads _ rfl (.tmp 29) (.tmp 30) _ rfl wr.heap.size 3 i0 _ 1 8 Try.underlying28 hi0 hz0 hz1 hz2 rfl (by omega) (.slice (some ⟨wr.heap.size, 0, none⟩) 0 0) 0 [] rfl HX.out.2.2.2.2.1 W1.heap.size D o.length cd (cellsI o) rfl HX.out.2.2.2.2.2.2 (cellsI_one _) (by simp only [maxLen]; omega) (by omega) hs1 ?_)
                 intro v5 w5 hown5 hg5 hat5
                 rw [List.nil_append, Nat.zero_add] at hown5
                 have b5 : Below wr.heap.size wr w5 := HX.out.2.2.2.1.grown hg5 hs1 (fun j hj => by simp [Value.ownBlock] at hj; omega)
                 have K5 := Lib.hid (And.intro b5 hown5)
                 have hs5 := b5.size
                 clear b5 hown5 hg5 hat5)
              | (at_builtin
                 go_must (refine wpList_append_reads _ rfl (.tmp 31) (.tmp 33) _ rfl wr.heap.size 3 i0 _ 1 8 Try.underlying28 hi0 hz0 hz1 hz2 rfl (by omega) v5 o.length (cellsI o) rfl (K5.out.2.alloc _) (w5.heap.size + 1) _ 1 1 (cellsI [(k : Int)]) rfl (reads_int (by omega)) (cellsI_one _) (by simp only [maxLen]; omega) (by omega) (by simp; omega) ?_)
                 intro v6 w6 hown6 hg6 hat6
                 have b6 : Below wr.heap.size wr w6 := (K5.out.1.alloc hs5 _).trans (app_below0 (K5.out.2.alloc _) (Nat.le_refl _) (by simp; omega) hg6)
                 rw [show cellsI o ++ cellsI [(k : Int)] = cellsI xs from by rw [HXL.out.2]; simp [cellsI], show o.length + 1 = xs.length from HXL.out.1.symm] at hown6
                 obtain ⟨A6, c6, hv6, _, hr6⟩ := own_slice hown6
                 subst hv6
                 have hlo6 : ∀ b off, A6 = some ⟨b, off, none⟩ → wr.heap.size ≤ b := fun b off e => by
                   subst e
                   rcases hown6.2 with ⟨h0, _⟩ | ⟨g', cap', cur', h0, hb', _⟩
                   · cases h0
                   · injection h0 with h0
                     injection h0 with h0
                     injection h0 with h0
                     omega
                 have K6 := Lib.hid (And.intro b6 (And.intro (HX.out.2.2.2.2.2.1 A6 c6 w6 b6 hr6) hlo6))
                 clear b6 hown6 hg6 hat6 hr6 hlo6)
              | (go_at_call 52; go_must (refine K6.out.2.1.mono ?_); rintro e w7 ⟨A7, c7, rfl, k7, r7, l7⟩))
            go_ret
            have hres : tryS f o rows.length = out := by
              have hk1 : tryS f o (k + 1) = out := HX.out.2.2.1
              have hstay : ∀ m, k + 1 ≤ m → tryS f o m = out := by
                intro m hm
                induction m with
                | zero => omega
                | succ m ihm =>
                  by_cases hmk : k + 1 ≤ m
                  · have h0 := ihm hmk
                    show (if tryS f o m = [] then _ else tryS f o m) = out
                    rw [if_neg (by rw [h0]; intro e; rw [e] at HON; have := HON.out; simp at this), h0]
                  · obtain rfl : m = k := by omega
                    exact hk1
              exact hstay _ (by omega)
            rw [hres]
            refine ⟨A7, c7, rfl, below_step HX.out.1 (below_step K6.out.1 k7), r7, fun b off e => .inl ?_⟩
            rcases l7 b off e with h | h
            · have := K6.out.1.size
              omega
            · have := K6.out.2.2 b off h
              omega
      · obtain rfl : k = rows.length := by omega
        have hdn : decide ((rows.length : Int) < (rows.length : Int)) = false := decide_eq_false (by omega)
        have HX := Lib.hid (And.intro hbl htr)
        clear hbl htr
        go_wp2_with fail
        go_ret
        exact ordR_nil HX.out.2 (HX.out.1.alloc hsz _) hsz
/-- A call returned a list of numbers and a word. -/
def PairR2 (w : World) (out : List Int) (b : Bool) (e : Ending) (w2 : World) : Prop :=
  ∃ A c, e = .returned (.tuple #[.slice A out.length c, .bool b]) ∧ Below w.heap.size w w2 ∧ Reads w2 w2.heap.size 1 A out.length (cellsI out) ∧ ∀ b off, A = some ⟨b, off, none⟩ → w.heap.size ≤ b
set_option maxHeartbeats 1600000 in
set_option maxRecDepth 100000 in
theorem sRowsOrd_any (A : Option Addr) (ca : Nat) (rows : List (List Bool)) (w : World) (hr : Nest encB w w.heap.size A rows.length rows) (hl : rows.length ≤ 1000000000) :
    Calls Try.prog 22 #[.slice A rows.length ca] w (PairR2 w (ordSG rows) (ordSOk rows)) := by
  have hV := sRowsV_any A ca rows w hr (by omega)
  cases h1 : okS rows
  · rw [h1] at hV
    have h0 : ordSG rows = [] := by simp [ordSG, h1]
    have HN := Lib.hid (And.intro h0 (by simp [ordSOk, h0] : ordSOk rows = false))
    have H := Lib.hid hV
    clear hV h1 hr h0
    go_enter Try.func22, Try.ntmps22
    go_wp2_with (go_at_call 19; go_must (refine H.out.mono ?_); rintro e w2 ⟨rfl, rfl⟩)
    go_ret2
    unfold PairR2
    rw [HN.out.1, HN.out.2]
    refine ⟨_, _, rfl, (Below.refl _ _).alloc (Nat.le_refl _) _, Reads.nil_, fun b off e => ?_⟩
    injection e with e
    injection e with e
    omega
  · rw [h1] at hV
    have hb1 : Below w.heap.size w (w.alloc (.cells #[] 3)) := (Below.refl _ _).alloc (Nat.le_refl _) _
    have hO := sOrd_any A ca rows h1 rows.length [] (some ⟨w.heap.size, 0, none⟩) 0 _ (by simp) (fun x hx => by cases hx) (hr.step hb1) Reads.nil_
    have hG : ordSG rows = srchS rows rows.length [] := if_pos h1
    obtain ⟨out, hout⟩ : ∃ out, out = ordSG rows := ⟨_, rfl⟩
    rw [← hG, ← hout] at hO
    have hk : ordSOk rows = decide (0 < out.length) := by
      rw [hout]
      unfold ordSOk
      rw [decide_eq_decide]
      exact List.length_pos_iff.symm
    rw [← hout, hk]
    have H := Lib.hid (And.intro hV (And.intro hO hb1))
    have hob : out.length ≤ 1000000000 := by rw [hout]; exact Nat.le_trans (ordSG_len rows) hl
    clear hV h1 hr hO hb1 hG hout hk
    go_enter Try.func22, Try.ntmps22
    go_wp2_with (first
      | (go_at_call 19; go_must (refine H.out.1.mono ?_); rintro e w2 ⟨rfl, rfl⟩)
      | (go_at_call 52; go_must (refine H.out.2.1.mono ?_); rintro e w3 ⟨A3, c3, rfl, k3, r3, l3⟩))
    go_ret2
    refine ⟨A3, c3, by simp, below_step H.out.2.2 k3, r3, fun b off e => ?_⟩
    rcases l3 b off e with h | h
    · simp at h; omega
    · injection h with h
      injection h with h
      omega
end Go.Proofs.Ytapmeooffmonmaa
