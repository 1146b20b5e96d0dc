/- What the program's search of the shortest circle through a place is. -/
import Derived.Test.YtmcnjmflmpfjlaaDoorV6
import Derived.Test.YtmcnjmflmpfjlaaDoorUu
import Derived.Test.YtmcnjmflmpfjlaaDoorU5
namespace Go.Proofs.YtmcnjmflmpfjlaaDoor
open Go.RowKit

theorem own_one {w : World} {base e g : Nat} {v : Value} (hb : base ≤ w.heap.size) (hg : g = w.heap.size) : (w.alloc (.cells #[v] e)).ownsRow base e 1 (.slice (some ⟨g, 0, none⟩) 1 1) 1 [v] := by
  subst hg
  exact ⟨by simp, .inr ⟨_, 1, #[v], rfl, hb, heap_alloc_new _ _, Nat.le_refl _, by simp [maxLen], by simp, by simp⟩⟩
theorem reads_nat {w : World} {x : Nat} {t : TypeId} {B : Nat} (hB : w.heap.size < B) : Reads (w.alloc (.cells #[.int .i64 (x : Int)] t)) B 1 (some ⟨w.heap.size, 0, none⟩) 1 [encN x] := reads_val hB
theorem one_n {x : Nat} : ∀ u ∈ [encN x], u.oneCell' = true := by
  intro u hu
  simp at hu
  subst hu
  rfl
theorem one_u {x : Nat} : ∀ u ∈ [encU x], u.oneCell' = true := by
  intro u hu
  simp at hu
  subst hu
  rfl
/-- The rows of the places from which one, two, .. steps lead to a. -/
def waysU (F : Nat → Nat → Bool) (n a m : Nat) : List Nat := (List.range m).map fun k => bitN n (stB F n a k)
theorem waysU_len (F : Nat → Nat → Bool) (n a m : Nat) : (waysU F n a m).length = m := by simp [waysU]
theorem waysU_at {F : Nat → Nat → Bool} {n a m k : Nat} (hk : k < m) : (waysU F n a m)[k]? = some (bitN n (stB F n a k)) := by simp [waysU, hk]
theorem waysU_next (F : Nat → Nat → Bool) (n a m : Nat) : waysU F n a (m + 1) = waysU F n a m ++ [bitN n (stB F n a m)] := by
  unfold waysU
  rw [List.range_succ, List.map_append]
  rfl
theorem stB_first (F : Nat → Nat → Bool) {n a : Nat} (ha : a < n) : bitN n (fun x => (List.range n).any fun y => F x y && decide (y = a)) = bitN n (stB F n a 0) := by
  refine bitN_ext fun x _ => ?_
  show _ = F x a
  cases h : F x a
  · rw [List.any_eq_false]
    intro y _
    by_cases e : y = a
    · subst e; simp [h]
    · simp [e]
  · exact List.any_eq_true.2 ⟨a, List.mem_range.2 ha, by simp [h]⟩
/-- A circle in memory of the call's own. -/
def CircPost (w : World) (p : List Nat) (e : Ending) (w2 : World) : Prop :=
  ∃ v, e = .returned v ∧ Below w.heap.size w w2 ∧ w2.ownsRow w.heap.size 3 1 v p.length (p.map encN)
set_option maxHeartbeats 4000000 in
set_option maxRecDepth 100000 in
theorem thru_any (A : Option Addr) (ca n a : Nat) (F : Nat → Nat → Bool) (w : World) (ha : Reads w w.heap.size 1 A n (cellsU (rowsN n F))) (hG : Glob w) (hn : n ≤ 12) (han : a < n) :
    Calls Tryd.prog 13 #[.slice A n ca, .int .i64 (a : Int)] w (CircPost w (thrP F n a)) := by
  obtain ⟨i0, hi0, hz0, hz1, hz2⟩ := info_parts infoRow
  obtain ⟨j0, hj0, jz0, jz1, jz2⟩ := info_parts infoInt
  have hra := fun (g : Nat → Bool) (W : World) (hW : Below w.heap.size w W) => rowsAbove_any A ca n F g W (ha.step hW) hn
  have hf1 := hra (fun j => decide (j = a)) w (Below.refl _ _)
  rw [bitN_one han, stB_first F han] at hf1
  have hs1 := shl_is a (by omega)
  obtain ⟨q, hq⟩ : ∃ q, q = 2 ^ a := ⟨_, rfl⟩
  rw [← hq] at hf1 hs1
  have HF := Lib.hid (And.intro hra (And.intro hf1 (And.intro ha hG)))
  clear hra hf1 ha hG hq
  go_enter Tryd.func13, Tryd.ntmps13
  go_wp2_with (go_at_call 30; go_must (refine HF.out.2.1.mono ?_); rintro e w9 ⟨rfl, rfl⟩)
  have o1 : (w.alloc (.cells #[.int .u16 (bitN n (stB F n a 0) : Nat)] 60)).ownsRow w.heap.size 60 1 (.slice (some ⟨w.heap.size, 0, none⟩) 1 1) 1 (cellsU (waysU F n a 1)) := own_one (Nat.le_refl _) rfl
  have b1 : Below w.heap.size w (w.alloc (.cells #[.int .u16 (bitN n (stB F n a 0) : Nat)] 60)) := (Below.refl _ _).alloc (Nat.le_refl _) _
  have H1 := Lib.hid (And.intro b1 o1)
  clear o1 b1
  go_loopw [5] (fun v wr => ∃ m : Nat, 1 ≤ m ∧ m ≤ n ∧ Below w.heap.size w wr ∧ wr.ownsRow w.heap.size 60 1 v m (cellsU (waysU F n a m)) ∧ ∀ s, s + 1 < m → stB F n a s a = false) (fun v _ => n - (match v with | .slice _ l _ => l | _ => 0))
  case atStart => exact ⟨1, Nat.le_refl _, by omega, H1.out.1, H1.out.2, fun s h => absurd h (by omega)⟩
  case round =>
    obtain ⟨m, hm1, hmn, hbl, hown, hno⟩ := hrel
    obtain ⟨k, rfl⟩ : ∃ k, m = k + 1 := ⟨m - 1, by omega⟩
    have hsz := hbl.size
    obtain ⟨g, cap, hv, hbg, hgl⟩ := hown.form (by omega)
    have hk1 : ((k + 1 : Nat) : Int) - 1 = (k : Int) := by omega
    obtain ⟨x, hx⟩ : ∃ x, x = bitN n (stB F n a k) := ⟨_, rfl⟩
    have hx2 : x < 65536 := by rw [hx]; exact bitN_16 _ (by omega)
    have hat : (waysU F n a (k + 1))[k]? = some x := by rw [waysU_at (by omega), hx]
    subst hv
    obtain ⟨f1, _⟩ := rows_cell hown hat (by omega)
    have hkk : (k : Int) < ((k + 1 : Nat) : Int) := by omega
    obtain ⟨t, ht⟩ : ∃ t, t = stB F n a k a := ⟨_, rfl⟩
    have hht := fun (W : World) => has_any x a hx2 (by omega) W
    have htb : x.testBit a = t := by rw [hx, bitN_test, decide_eq_true han, ht]; rfl
    rw [htb] at hht
    have HK := Lib.hid (And.intro hbl (And.intro hown (And.intro hno (And.intro ht hht))))
    clear hbl hown hno ht hht htb hat
    cases t
    · by_cases hkn : k + 1 < n
      · have hkni : decide (((k + 1 : Nat) : Int) ≥ (n : Int)) = false := by simp; omega
        have hra := HF.out.1 (stB F n a k) wr HK.out.1
        rw [← hx] at hra
        have hy0 : bitN n (fun x => (List.range n).any fun y => F x y && stB F n a k y) = bitN n (stB F n a (k + 1)) := rfl
        rw [hy0] at hra
        obtain ⟨y, hy⟩ : ∃ y, y = bitN n (stB F n a (k + 1)) := ⟨_, rfl⟩
        rw [← hy] at hra
        have HR := Lib.hid (And.intro hra hy)
        have hlen : k + 1 ≤ 12 := by omega
        clear hra hy0 hx hy
        go_wp2_with (first
          | (go_at_call 29; go_must (refine (HK.out.2.2.2.2 _).mono ?_); rintro e w9 ⟨rfl, rfl⟩)
          | (go_at_call 30; go_must (refine HR.out.1.mono ?_); rintro e w9 ⟨rfl, rfl⟩)
          | (at_builtin
             go_must (refine wpList_append_reads _ rfl (.tmp 28) (.tmp 37) _ rfl w.heap.size 60 i0 _ 1 2 Tryd.underlying36 hi0 hz0 hz1 hz2 rfl (by omega) _ (k + 1) _ rfl (HK.out.2.1.alloc _) (wr.heap.size + 1) _ 1 1 [encU y] rfl (reads_val (by omega)) one_u (by simp only [maxLen]; omega) (by omega) (by simp; omega) ?_)
             intro v8 w8 hown8 hg8 hat8))
        go_roundw
        case rel =>
          obtain ⟨hbl, hown, hno, ht, _⟩ := HK.out
          have b8 := app_below hown (Nat.le_refl _) hsz hg8
          refine ⟨k + 1 + 1, by omega, by omega, hbl.trans b8, ?_, fun s hs => ?_⟩
          · rw [waysU_next, ← HR.out.2, cellsU, List.map_append]
            exact hown8
          · by_cases hs2 : s + 1 < k + 1
            · exact hno s hs2
            · obtain rfl : s = k := by omega
              exact ht.symm
        case measure =>
          obtain ⟨A8, c8, hv8, _, _⟩ := Reads.of_own hown8
          subst hv8
          simp
          omega
      · have hkni : decide (((k + 1 : Nat) : Int) ≥ (n : Int)) = true := by simp; omega
        clear hx
        go_wp2_with (first
          | (go_at_call 29; go_must (refine (HK.out.2.2.2.2 _).mono ?_); rintro e w9 ⟨rfl, rfl⟩))
        go_ret
        obtain ⟨hbl, hown, hno, ht, _⟩ := HK.out
        refine ⟨_, rfl, hbl, ?_⟩
        rw [thrP_none fun s hs => ?_]
        · exact ⟨rfl, .inl ⟨rfl, rfl⟩⟩
        · by_cases hs2 : s + 1 < k + 1
          · exact hno s hs2
          · obtain rfl : s = k := by omega
            exact ht.symm
    · have hk2 : ((k + 1 : Nat) : Int) - 2 = (k : Int) - 1 := by omega
      have hst : stB F n a k a = true := HK.out.2.2.2.1.symm
      have hdl : (a :: downL F n a k a).length = k + 1 := by rw [List.length_cons, downL_len]
      have HX := Lib.hid (And.intro hst (And.intro hdl hx))
      clear hst hdl hx
      go_wp2_with (first
        | (go_at_call 29; go_must (refine (HK.out.2.2.2.2 _).mono ?_); rintro e w9 ⟨rfl, rfl⟩))
      have o2 : (wr.alloc (.cells #[.int .i64 (a : Int)] 3)).ownsRow wr.heap.size 3 1 (.slice (some ⟨wr.heap.size, 0, none⟩) 1 1) 1 ([a].map encN) := own_one (Nat.le_refl _) rfl
      have b2 : Below wr.heap.size wr (wr.alloc (.cells #[.int .i64 (a : Int)] 3)) := (Below.refl _ _).alloc (Nat.le_refl _) _
      have H2 := Lib.hid (And.intro b2 o2)
      have hways := own_reads HK.out.2.1
      have hrows := HF.out.2.2.1.step HK.out.1
      have hgl2 := HF.out.2.2.2.step HK.out.1
      have HW := Lib.hid (And.intro hways (And.intro hrows hgl2))
      clear o2 b2 hways hrows hgl2
      go_loopw [6, 7] (fun v i w3 => ∃ (r : Nat) (c : List Nat), r ≤ k ∧ i = .int .i64 ((r : Int) - 1) ∧ Below wr.heap.size wr w3 ∧ w3.ownsRow wr.heap.size 3 1 v c.length (c.map encN) ∧ c ≠ [] ∧ lastD c < n ∧ stB F n a r (lastD c) = true ∧ c ++ downL F n a r (lastD c) = a :: downL F n a k a) (fun _ i _ => (intOf i + 1).toNat)
      case atStart => exact ⟨k, [a], Nat.le_refl _, congrArg (Value.int .i64) (by omega), H2.out.1, H2.out.2, by simp, han, HX.out.1, rfl⟩
      case round =>
        obtain ⟨r, c, hr, rfl, hbl, hown, hne, hlast, hstb, heq⟩ := hrel
        have hsz3 := hbl.size
        rcases List.eq_nil_or_concat c with rfl | ⟨c0, y, rfl⟩
        · exact absurd rfl hne
        rw [List.concat_eq_append] at *
        rw [lastD_app] at hlast hstb heq
        have hcl : c0.length + r ≤ 12 := by
          have := congrArg List.length heq
          rw [HX.out.2.1, List.length_append, List.length_append, downL_len] at this
          simp at this
          omega
        have hl1 : (c0 ++ [y]).length = c0.length + 1 := by simp
        rw [hl1] at hown
        obtain ⟨gc, cc, hvc, hbc, hgc⟩ := hown.form (by omega)
        subst hvc
        cases r with
        | zero =>
          have HC := Lib.hid (And.intro hbl (And.intro hown heq))
          have e5 : decide (((0 : Nat) : Int) - 1 ≥ 0) = false := by decide
          clear hbl hown heq hne hlast hstb hl1
          go_wp2_with fail
          go_ret
          obtain ⟨hbl, hown, heq⟩ := HC.out
          rw [downL, List.append_nil] at heq
          refine ⟨_, rfl, below_step HK.out.1 hbl, ?_⟩
          have hno : ∀ s, s < k → stB F n a s a = false := fun s hs => HK.out.2.2.1 s (by omega)
          rw [thrP_some (by omega) HX.out.1 hno, ← heq, List.length_append]
          exact own_less hown hsz
        | succ r =>
          have e5 : decide (((r + 1 : Nat) : Int) - 1 ≥ 0) = true := by simp
          have e6 : ((r + 1 : Nat) : Int) - 1 = (r : Int) := by omega
          have e7 : ((c0.length + 1 : Nat) : Int) - 1 = (c0.length : Int) := by omega
          obtain ⟨z, hq0, hq1, hq2, hq3, hq4, hq5⟩ := downL_next hstb
          clear hq0
          have c1 := (hown.cellAt c0.length (by omega)).trans (by simp : ((c0 ++ [y]).map encN)[c0.length]? = some (encN y))
          simp only [encN] at c1
          obtain ⟨b, off, hA, hbb, hc⟩ := (HW.out.2.1.below hbl).rows (by omega)
          obtain ⟨x1, hx1⟩ : ∃ x1, x1 = bitN n (F y) := ⟨_, rfl⟩
          have hx12 : x1 < 65536 := by rw [hx1]; exact bitN_16 _ (by omega)
          have f1 := hc y x1 (by rw [rowsN_at _ hlast, hx1])
          obtain ⟨x2, hx2'⟩ : ∃ x2, x2 = bitN n (stB F n a r) := ⟨_, rfl⟩
          have hx22 : x2 < 65536 := by rw [hx2']; exact bitN_16 _ (by omega)
          have f2 := (below_cell hbl g r hgl).trans (rows_cell HK.out.2.1 (show (waysU F n a (k + 1))[r]? = some x2 from by rw [waysU_at (by omega), hx2']) (by omega)).1
          have h1 := and_is x1 x2 hx12 hx22
          obtain ⟨u, hu⟩ : ∃ u, u = x1 &&& x2 := ⟨_, rfl⟩
          rw [← hu] at h1
          have hub : u = bitN n (fun y2 => F y y2 && stB F n a r y2) := by rw [hu, hx1, hx2', bitN_and]
          have hu2 : u < 65536 := by rw [hub]; exact bitN_16 _ (by omega)
          have hle := least_any u z hu2 (by rw [hub, bitN_test, decide_eq_true hq2, hq3, hq4]; rfl) (fun i hi => by rw [hub, bitN_test, decide_eq_true (by omega), hq5 i hi]; rfl)
          have hD : Below wr.heap.size wr (wr.drewN 1) := below_draws (Below.refl _ _) 1
          have hleD := hle (wr.drewN 1) ((HW.out.2.2.step hbl).step hD)
          have hyn : (y : Int) < (n : Int) := by omega
          have hrk : (r : Int) < ((k + 1 : Nat) : Int) := by omega
          have hrk2 : (r : Int) < (k : Int) + 1 := by omega
          have hcc : (c0.length : Int) < ((c0.length + 1 : Nat) : Int) := by omega
          have hnew : (c0 ++ [y] ++ [z]) ++ downL F n a r (lastD (c0 ++ [y] ++ [z])) = a :: downL F n a k a := by
            rw [lastD_app, ← heq, hq1]
            simp
          have hoD := (own_below hown hD).alloc (.cells #[.int .i64 (z : Int)] 3)
          have HR := Lib.hid (And.intro hbl (And.intro hown (And.intro hleD (And.intro hnew (And.intro hq2 (And.intro hq4 hoD))))))
          subst hA
          have hbw : b < wr.heap.size := by omega
          have hgw : g < wr.heap.size := by omega
          have hSA : ((wr.drewN 1).alloc (.cells #[.int .i64 (z : Int)] 3)).cell? ⟨b, off + y, none⟩ = some (.int .u16 (x1 : Int)) ∧ ((wr.drewN 1).alloc (.cells #[.int .i64 (z : Int)] 3)).cell? ⟨g, r, none⟩ = some (.int .u16 (x2 : Int)) :=
            ⟨(World.cell?_alloc_lt (wr.drewN 1) _ _ (show b < wr.heap.size by omega)).trans f1, (World.cell?_alloc_lt (wr.drewN 1) _ _ (show g < wr.heap.size by omega)).trans f2⟩
          have HS := Lib.hid hSA
          clear hbl hown hle hleD hnew hoD hq1 hq3 hq4 hq5 heq hstb hne hc hx1 hx2' hu hub hSA hD hl1
          go_wp2_with fail
          go_region_held3 (fun w' => w'.cell? ⟨b, off + y, none⟩ = some (.int .u16 (x1 : Int)) ∧ w'.cell? ⟨g, r, none⟩ = some (.int .u16 (x2 : Int)))
            (first
              | assumption
              | exact ⟨f1, f2⟩
              | exact HS.out
              | exact h8)
            (first
              | (go_at_call 31
                 go_must (refine HR.out.2.2.1.mono ?_)
                 rintro e xa ⟨rfl, rfl⟩)
              | (refine step_append_want ((wr.drewN 1).alloc (.cells #[.int .i64 (z : Int)] 3)) (by rfl) (.tmp 54) (.tmp 65) _ (by rfl) _ 3 j0 _ 1 8 Tryd.underlying23 hj0 jz0 jz1 jz2 rfl (by omega) (.slice (some ⟨gc, 0, none⟩) (c0.length + 1) cc) (c0.length + 1) _ (by rfl) HR.out.2.2.2.2.2.2 ((wr.drewN 1).heap.size + 1) _ 1 1 [encN z] (by rfl) (reads_nat (by simp)) one_n (by simp only [maxLen]; omega) (by omega) (by simp [World.drewN]; omega) ?_
                 intro v8 w8 hown8 hg8 hat8
                 have b8 : Below _ (wr.drewN 1) w8 := app_below (own_below HR.out.2.1 (below_draws (Below.refl _ _) 1)) (Nat.le_refl _) hsz3 hg8
                 have h8 : w8.cell? ⟨b, off + y, none⟩ = some (.int .u16 (x1 : Int)) ∧ w8.cell? ⟨g, r, none⟩ = some (.int .u16 (x2 : Int)) := ⟨(b8.cell hbb).trans f1, (b8.cell hgl).trans f2⟩))
          clear f1 f2 h8 c1
          go_wp2_with fail
          go_roundw
          case rel =>
            obtain ⟨hbl, hown, hleD, hnew, hq2, hq4, hoD⟩ := HR.out
            refine ⟨r, c0 ++ [y] ++ [z], by omega, rfl, (below_step hbl (below_draws (Below.refl _ _) 1)).trans b8, ?_, by simp, by rw [lastD_app]; exact hq2, by rw [lastD_app]; exact hq4, hnew⟩
            simpa using hown8
          case measure => simp [intOf]
end Go.Proofs.YtmcnjmflmpfjlaaDoor
