/- Texts that lie together in one: S1, S2, S3, S4. -/
import Derived.Test.YtnkdpogplkomhaaPc
import Derived.Test.YtnkdpogplkomhaaA2
import Derived.Test.YtnkdpogplkomhaaPe
import Derived.StillTailTactics
/- What the model's checks of contexts and of their relations return. -/
namespace Go.Proofs.Ytnkdpogplkomhaa
open Go.RowKit

theorem l6In_quiet (n lo hi : Int) {B : Nat} {w : World} (x : Ext B w) : Calls Try.prog 50 #[.int .i64 n, .int .i64 lo, .int .i64 hi] x.val fun e w2 => e = .returned (.bool (inR n lo hi)) ∧ ∃ y : Ext B w, w2 = y.val :=
  calls_ext_same (l6In_any n lo hi x.val)
set_option maxHeartbeats 800000 in
set_option maxRecDepth 100000 in
theorem sIds_any (A : Option Addr) (cap : Nat) (l : List Int) (w : World) (hr : Reads w w.heap.size 1 A l.length (cellsI l)) (hl : l.length ≤ 1000000000000) :
    Calls Try.prog 111 #[.slice A l.length cap] w fun e w2 => e = .returned (.bool (validI l)) ∧ Below w.heap.size w w2 := by
  go_enter Try.func111, Try.ntmps111
  go_wp2_with fail
  go_loopw [3] (fun i wr => ∃ k : Nat, k ≤ l.length ∧ i = .int .i64 k ∧ Below w.heap.size w wr ∧ ∀ j, j < k → goodO okI lessI l j = true) (fun i _ => l.length - (intOf i).toNat)
  case atStart => exact ⟨0, Nat.zero_le _, rfl, Below.refl _ _, fun j h => absurd h (by omega)⟩
  case round =>
    obtain ⟨k, hk, rfl, hb, hg⟩ := hrel
    have HG := Lib.hid hg; clear hg
    by_cases hlt : k < l.length
    · obtain ⟨b, off, hA, hbl, hc⟩ := (hr.below hb).ints (by omega)
      subst hA
      have hk0 : l[k]? = some l[k] := List.getElem?_eq_getElem hlt
      have HK := Lib.hid hk0
      have c1 := hc k _ hk0
      have hx := ext_cell (w := wr) hbl
      clear hr hk0
      cases h1 : inR l[k] 1 99
      · have HO := Lib.hid h1
        clear hc
        go_wp2_with fail
        refine wp_region_ext w.heap.size (by kernel_rfl) (by kernel_rfl) ?_
        repeat (go_big_quiet_step ((go_at_call 50; exact l6In_quiet _ _ _ _)))
        refine wpQuiet_nil ?_
        rintro _ ⟨x, rfl⟩
        go_wp2_with fail
        go_ret
        exact ⟨ret_bool (validO_no hlt (goodO_bad HK.out HO.out)).symm, hb.trans x.below⟩
      · rcases Nat.eq_zero_or_pos k with h0 | hpos
        · clear hc
          have HO := Lib.hid h1
          have e0 : decide (0 < k) = false := by simp; omega
          have H0 := Lib.hid h0; clear h0
          go_wp2_with fail
          refine wp_region_ext w.heap.size (by kernel_rfl) (by kernel_rfl) ?_
          repeat (go_big_quiet_step ((go_at_call 50; exact l6In_quiet _ _ _ _)))
          refine wpQuiet_nil ?_
          rintro _ ⟨x, rfl⟩
          go_wp2_with fail
          go_roundw
          case rel =>
            refine ⟨k + 1, by omega, by go_num, hb.trans x.below, fun j hj => ?_⟩
            by_cases hj2 : j < k
            · exact HG.out j hj2
            · obtain rfl : j = k := by omega
              exact goodO_first H0.out HK.out HO.out
          case measure => simp [intOf]; omega
        · have hk1 : l[k-1]? = some l[k-1] := List.getElem?_eq_getElem (by omega)
          have HK1 := Lib.hid hk1
          have d1 := hc (k-1) _ hk1
          clear hc hk1
          have HO := Lib.hid h1
          have e0 : decide (0 < k) = true := by simp; omega
          have e1 : ((k : Int) - 1).toNat = k - 1 := by omega
          by_cases h2 : l[k] ≤ l[k-1]
          · have e2 : decide (l[k] ≤ l[k-1]) = true := by simp [h2]
            have H2 : Hid (lessI l[k-1] l[k] = false) := by show lessI l[k-1] l[k] = false; simp [lessI]; omega
            clear h2
            go_wp2_with fail
            refine wp_region_ext w.heap.size (by kernel_rfl) (by kernel_rfl) ?_
            repeat (go_big_quiet_step ((go_at_call 50; exact l6In_quiet _ _ _ _)))
            refine wpQuiet_nil ?_
            rintro _ ⟨x, rfl⟩
            go_wp2_with fail
            go_ret
            exact ⟨ret_bool (validO_no hlt (goodO_less hpos HK.out HK1.out H2.out)).symm, hb.trans x.below⟩
          · have e2 : decide (l[k] ≤ l[k-1]) = false := by simp; omega
            have H2 : Hid (lessI l[k-1] l[k] = true) := by show lessI l[k-1] l[k] = true; simp [lessI]; omega
            clear h2
            go_wp2_with fail
            refine wp_region_ext w.heap.size (by kernel_rfl) (by kernel_rfl) ?_
            repeat (go_big_quiet_step ((go_at_call 50; exact l6In_quiet _ _ _ _)))
            refine wpQuiet_nil ?_
            rintro _ ⟨x, rfl⟩
            go_wp2_with fail
            go_roundw
            case rel =>
              refine ⟨k + 1, by omega, by go_num, hb.trans x.below, fun j hj => ?_⟩
              by_cases hj2 : j < k
              · exact HG.out j hj2
              · obtain rfl : j = k := by omega
                exact goodO_next HK.out HK1.out HO.out H2.out
            case measure => simp [intOf]; omega
    · have hkl : k = l.length := by omega
      have HK := Lib.hid hkl
      clear hkl
      go_wp2_with fail
      go_ret
      refine ⟨ret_bool ?_, hb⟩
      show _ = validI l
      unfold validI
      rw [validO_of (fun j hj => HG.out j (by rw [HK.out]; exact hj)), decide_eq_decide]
      omega

theorem amongS_no {ids : List Int} {l : List Ctx} {k : Nat} (hk : k < l.length) (h : l[k].id ∉ ids ∨ l[k].kind ∉ ids) : amongR ids l = false := by
  unfold amongR
  rw [List.all_eq_false]
  refine ⟨l[k], List.getElem_mem hk, ?_⟩
  rcases h with h | h <;> simp [h]
theorem amongS_of {ids : List Int} {l : List Ctx} (h : ∀ j (hj : j < l.length), l[j].id ∈ ids ∧ l[j].kind ∈ ids) : amongR ids l = true := by
  unfold amongR
  rw [List.all_eq_true]
  intro r hr
  obtain ⟨j, hj, rfl⟩ := List.mem_iff_getElem.1 hr
  simp [h j hj]
set_option maxHeartbeats 800000 in
set_option maxRecDepth 100000 in
theorem sOk_any (A B : Option Addr) (ca cb : Nat) (ids : List Int) (l : List Ctx) (w : World) (ha : Reads w w.heap.size 1 A ids.length (cellsI ids)) (hb : Reads w w.heap.size 3 B l.length (cellsC l)) (hn : ids.length ≤ 1000000000000) (hl : l.length ≤ 1000000000000) :
    Calls Try.prog 92 #[.slice A ids.length ca, .slice B l.length cb] w fun e w2 => e = .returned (.bool (okG ids l)) ∧ Below w.heap.size w w2 := by
  cases h1 : validI ids
  · go_enter Try.func92, Try.ntmps92
    go_wp2_with (go_at_call 111; go_must (refine (sIds_any _ _ ids _ ha hn).mono ?_); rintro e w2 ⟨rfl, k2⟩)
    go_ret
    exact ⟨ret_bool (by simp [okG, h1]), k2⟩
  · cases h2 : validR l
    · go_enter Try.func92, Try.ntmps92
      go_wp2_with (first
        | (go_at_call 111; go_must (refine (sIds_any _ _ ids _ ha hn).mono ?_); rintro e w2 ⟨rfl, k2⟩)
        | (go_at_call 105; go_must (refine (sValidR_any _ _ l _ (hb.step k2) (by omega)).mono ?_); rintro e w3 ⟨rfl, k3⟩))
      go_ret
      exact ⟨ret_bool (by simp [okG, h2]), below_step k2 k3⟩
    · have HK : Hid (okG ids l = amongR ids l) := by show okG ids l = amongR ids l; simp [okG, h1, h2]
      go_enter Try.func92, Try.ntmps92
      go_wp2_with (first
        | (go_at_call 111; go_must (refine (sIds_any _ _ ids _ ha hn).mono ?_); rintro e w2 ⟨rfl, k2⟩)
        | (go_at_call 105; go_must (refine (sValidR_any _ _ l _ (hb.step k2) (by omega)).mono ?_); rintro e w3 ⟨rfl, k3⟩))
      have ha3 := ha.step (below_step k2 k3)
      have hb3 := hb.step (below_step k2 k3)
      clear ha hb
      go_loop [5] (fun i => ∃ k : Nat, k ≤ l.length ∧ i = .int .i64 k ∧ ∀ j (hj : j < l.length), j < k → l[j].id ∈ ids ∧ l[j].kind ∈ ids) (fun i => l.length - (intOf i).toNat)
      case atStart => exact ⟨0, Nat.zero_le _, rfl, fun j _ h => absurd h (by omega)⟩
      case round =>
        obtain ⟨k, hk, rfl, hg⟩ := hrel
        have HG := Lib.hid hg; clear hg
        by_cases hlt : k < l.length
        · obtain ⟨b, off, hB, hbb, hc⟩ := hb3.ctx (by omega)
          subst hB
          have hk0 : l[k]? = some l[k] := List.getElem?_eq_getElem hlt
          obtain ⟨c1, c2, c3⟩ := hc k _ hk0
          have hkl : (k : Int) < (l.length : Int) := by omega
          have n1 := findI_neg ids l[k].id
          have n2 := findI_neg ids l[k].kind
          clear hc hk0 hb3
          by_cases h1 : l[k].id ∈ ids
          · have e1 : decide (findI ids l[k].id < 0) = false := by rw [n1]; simp [h1]
            by_cases h2 : l[k].kind ∈ ids
            · have e2 : decide (findI ids l[k].kind < 0) = false := by rw [n2]; simp [h2]
              have H12 := Lib.hid (And.intro h1 h2)
              clear h1 h2 n1 n2
              go_wp2_with (go_at_call 75; go_must (refine (sPlace_any A ca ids _ _ ha3 hn).mono ?_); rintro e w4 ⟨rfl, rfl⟩)
              go_round
              case rel =>
                refine ⟨k + 1, by omega, by go_num, fun j hj hjk => ?_⟩
                by_cases hj2 : j < k
                · exact HG.out j hj hj2
                · obtain rfl : j = k := by omega
                  exact H12.out
              case measure => simp [intOf]; omega
            · have e2 : decide (findI ids l[k].kind < 0) = true := by rw [n2]; simp [h2]
              have H2 := Lib.hid h2
              clear h1 h2 n1 n2
              go_wp2_with (go_at_call 75; go_must (refine (sPlace_any A ca ids _ _ ha3 hn).mono ?_); rintro e w4 ⟨rfl, rfl⟩)
              go_ret
              exact ⟨ret_bool (HK.out.trans (amongS_no hlt (.inr H2.out))).symm, below_step k2 k3⟩
          · have e1 : decide (findI ids l[k].id < 0) = true := by rw [n1]; simp [h1]
            have H1 := Lib.hid h1
            clear h1 n1 n2
            go_wp2_with (go_at_call 75; go_must (refine (sPlace_any A ca ids _ _ ha3 hn).mono ?_); rintro e w4 ⟨rfl, rfl⟩)
            go_ret
            exact ⟨ret_bool (HK.out.trans (amongS_no hlt (.inl H1.out))).symm, below_step k2 k3⟩
        · go_wp2_with fail
          go_ret
          exact ⟨ret_bool (HK.out.trans (amongS_of fun j hj => HG.out j hj (by omega))).symm, below_step k2 k3⟩
end Go.Proofs.Ytnkdpogplkomhaa

/- What the model's groups are. -/
namespace Go.Proofs.Ytnkdpogplkomhaa
open Go.RowKit

theorem sInfoInt : (Try.prog.info? 3).map (fun i => (i.zero, i.size, i.bytes)) = some (some (.int .i64 0), 1, 8) := by kernel_rfl
theorem sCells_append (l m : List Int) : cellsI (l ++ m) = cellsI l ++ cellsI m := by simp [cellsI]
theorem joinG_next {g : List Int} {a b x : Int} {k : Nat} (h : g[k]? = some x) : joinG (g.take (k + 1)) a b = joinG (g.take k) a b ++ [if x = a ∨ x = b then min a b else x] := by
  unfold joinG
  rw [List.take_add_one, h, List.map_append]
  rfl
theorem joinG_to {g : List Int} {a b x y : Int} {k : Nat} (h : g[k]? = some x) (hy : (if x = a ∨ x = b then min a b else x) = y) : joinG (g.take (k + 1)) a b = joinG (g.take k) a b ++ [y] := by
  rw [joinG_next h, hy]
set_option maxHeartbeats 1600000 in
set_option maxRecDepth 100000 in
theorem sJoin_any (A : Option Addr) (cap : Nat) (g : List Int) (a b : Int) (w : World) (hr : Reads w w.heap.size 1 A g.length (cellsI g)) (hl : g.length ≤ 1000000000) :
    Calls Try.prog 101 #[.slice A g.length cap, .int .i64 a, .int .i64 b] w (IntsS w (joinG g a b)) := by
  obtain ⟨i0, hi0, hz0, hz1, hz2⟩ := info_parts sInfoInt
  have ho1 : (w.alloc (.cells #[] 3)).ownsRow w.heap.size 3 1 (.slice (some ⟨w.heap.size, 0, none⟩) 0 0) 0 [] := own_empty (Nat.le_refl _) rfl
  have hb1 : Below w.heap.size w (w.alloc (.cells #[] 3)) := (Below.refl _ _).alloc (Nat.le_refl _) _
  go_enter Try.func101, Try.ntmps101
  go_wp2_with fail
  go_loopw [7, 8] (fun v i wr => ∃ k : Nat, k ≤ g.length ∧ i = .int .i64 k ∧ Below w.heap.size w wr ∧ wr.ownsRow w.heap.size 3 1 v k (cellsI (joinG (g.take k) a b))) (fun _ i _ => g.length - (intOf i).toNat)
  case atStart => exact ⟨0, Nat.zero_le _, rfl, hb1, by simpa [joinG, cellsI] using ho1⟩
  case round =>
    obtain ⟨k, hk, rfl, hbl, hown⟩ := hrel
    clear ho1 hb1
    have hsz := hbl.size
    by_cases hlt : k < g.length
    · obtain ⟨p, off, hA, hbb, hc⟩ := (hr.below hbl).ints (by omega)
      subst hA
      obtain ⟨x, hx⟩ : ∃ x, g[k]? = some x := ⟨_, List.getElem?_eq_getElem hlt⟩
      have c1 := hc k _ hx
      have hkl : (k : Int) < (g.length : Int) := by omega
      have HB := Lib.hid hbl
      clear hc hr hbl
      by_cases h1 : x = a
      · have e1 : (x == a) = true := by simp [h1]
        by_cases h2 : b < a
        · have HT := Lib.hid (joinG_to (a := a) (b := b) (y := b) hx (by rw [if_pos (.inl h1)]; omega))
          clear h1 hx
          go_wp2_with (at_builtin
                       (refine wpList_append_reads _ rfl (.tmp 32) (.tmp 34) _ rfl w.heap.size 3 i0 _ 1 8 Try.underlying23 hi0 hz0 hz1 hz2 rfl (by omega) u7 k _ rfl (hown.alloc _) (wr.heap.size + 1) _ 1 1 (cellsI [b]) rfl (reads_int (by omega)) (cellsI_one _) (by simp only [maxLen]; omega) (by omega) (by simp; omega) ?_)
                       intro v4 w4 hown4 hg4 hat4
                       have hb4 := app_below hown (Nat.le_refl _) hsz hg4)
          go_roundw
          case rel => exact ⟨k + 1, by omega, by go_num, HB.out.trans hb4, by rw [HT.out, sCells_append]; exact hown4⟩
          case measure => simp [intOf]; omega
        · have HT := Lib.hid (joinG_to (a := a) (b := b) (y := a) hx (by rw [if_pos (.inl h1)]; omega))
          clear h1 hx
          go_wp2_with (at_builtin
                       (refine wpList_append_reads _ rfl (.tmp 32) (.tmp 34) _ rfl w.heap.size 3 i0 _ 1 8 Try.underlying23 hi0 hz0 hz1 hz2 rfl (by omega) u7 k _ rfl (hown.alloc _) (wr.heap.size + 1) _ 1 1 (cellsI [a]) rfl (reads_int (by omega)) (cellsI_one _) (by simp only [maxLen]; omega) (by omega) (by simp; omega) ?_)
                       intro v4 w4 hown4 hg4 hat4
                       have hb4 := app_below hown (Nat.le_refl _) hsz hg4)
          go_roundw
          case rel => exact ⟨k + 1, by omega, by go_num, HB.out.trans hb4, by rw [HT.out, sCells_append]; exact hown4⟩
          case measure => simp [intOf]; omega
      · have e1 : (x == a) = false := by simp [h1]
        by_cases h3 : x = b
        · have e3 : (x == b) = true := by simp [h3]
          by_cases h2 : b < a
          · have HT := Lib.hid (joinG_to (a := a) (b := b) (y := b) hx (by rw [if_pos (.inr h3)]; omega))
            clear h1 h3 hx
            go_wp2_with (at_builtin
                         (refine wpList_append_reads _ rfl (.tmp 32) (.tmp 34) _ rfl w.heap.size 3 i0 _ 1 8 Try.underlying23 hi0 hz0 hz1 hz2 rfl (by omega) u7 k _ rfl (hown.alloc _) (wr.heap.size + 1) _ 1 1 (cellsI [b]) rfl (reads_int (by omega)) (cellsI_one _) (by simp only [maxLen]; omega) (by omega) (by simp; omega) ?_)
                         intro v4 w4 hown4 hg4 hat4
                         have hb4 := app_below hown (Nat.le_refl _) hsz hg4)
            go_roundw
            case rel => exact ⟨k + 1, by omega, by go_num, HB.out.trans hb4, by rw [HT.out, sCells_append]; exact hown4⟩
            case measure => simp [intOf]; omega
          · have HT := Lib.hid (joinG_to (a := a) (b := b) (y := a) hx (by rw [if_pos (.inr h3)]; omega))
            clear h1 h3 hx
            go_wp2_with (at_builtin
                         (refine wpList_append_reads _ rfl (.tmp 32) (.tmp 34) _ rfl w.heap.size 3 i0 _ 1 8 Try.underlying23 hi0 hz0 hz1 hz2 rfl (by omega) u7 k _ rfl (hown.alloc _) (wr.heap.size + 1) _ 1 1 (cellsI [a]) rfl (reads_int (by omega)) (cellsI_one _) (by simp only [maxLen]; omega) (by omega) (by simp; omega) ?_)
                         intro v4 w4 hown4 hg4 hat4
                         have hb4 := app_below hown (Nat.le_refl _) hsz hg4)
            go_roundw
            case rel => exact ⟨k + 1, by omega, by go_num, HB.out.trans hb4, by rw [HT.out, sCells_append]; exact hown4⟩
            case measure => simp [intOf]; omega
        · have e3 : (x == b) = false := by simp [h3]
          have HT := Lib.hid (joinG_to (a := a) (b := b) (y := x) hx (if_neg (by rintro (h | h) <;> contradiction)))
          clear h1 h3 hx
          go_wp2_with (at_builtin
                       (refine wpList_append_reads _ rfl (.tmp 32) (.tmp 34) _ rfl w.heap.size 3 i0 _ 1 8 Try.underlying23 hi0 hz0 hz1 hz2 rfl (by omega) u7 k _ rfl (hown.alloc _) (wr.heap.size + 1) _ 1 1 (cellsI [x]) rfl (reads_int (by omega)) (cellsI_one _) (by simp only [maxLen]; omega) (by omega) (by simp; omega) ?_)
                       intro v4 w4 hown4 hg4 hat4
                       have hb4 := app_below hown (Nat.le_refl _) hsz hg4)
          go_roundw
          case rel => exact ⟨k + 1, by omega, by go_num, HB.out.trans hb4, by rw [HT.out, sCells_append]; exact hown4⟩
          case measure => simp [intOf]; omega
    · have hkl : k = g.length := by omega
      have HK := Lib.hid (And.intro hkl (And.intro hbl hown))
      clear hkl hbl hown
      go_wp2_with fail
      go_ret
      obtain ⟨hkl, hbl, hown⟩ := HK.out
      rw [hkl, List.take_length] at hown
      refine ⟨_, rfl, hbl, ?_⟩
      rw [joinG_len]
      exact hown
end Go.Proofs.Ytnkdpogplkomhaa

/- What the model's groups of contexts are. -/
namespace Go.Proofs.Ytnkdpogplkomhaa
open Go.RowKit

theorem region_still_tail2 {P : Program} {id : Nat} {Q : Exit → Act → World → Prop} {a : Act} {w : World} {l : List Oper} (n : Nat) (hm : P.follows .mixedOrders = true) (hB : Region.lexTailB .any l.toArray n = true)
    (h : ∀ W : World, (∀ p, W.cell? p = w.cell? p) → W.heap.size = w.heap.size → Below w.heap.size w W → wpStill P l.toArray W (fun a' => wpList P l.toArray Q (l.drop n) a' W) (l.take n) a) : (Code.region id l.toArray true).wp P Q a w :=
  wp_region_still_tail n hm hB (h (w.drewN 1) (fun _ => rfl) rfl (below_draws (Below.refl _ _) 1))
theorem sPlace_to (A : Option Addr) (cap : Nat) (l : List Int) (n : Int) (p : Nat) (w : World) (hr : Reads w w.heap.size 1 A l.length (cellsI l)) (hl : l.length ≤ 1000000000000) (hp : findI l n = (p : Int)) :
    Calls Try.prog 75 #[.slice A l.length cap, .int .i64 n] w fun e w2 => e = .returned (.int .i64 (p : Int)) ∧ w2 = w :=
  (sPlace_any A cap l n w hr hl).mono fun _ _ ⟨h1, h2⟩ => ⟨by rw [h1, hp], h2.symm⟩
theorem stepG_eq {ids g : List Int} {r : Ctx} {a b : Int} {p q : Nat} (h : r.area = 2) (hp : placeI ids r.id = p) (hq : placeI ids r.kind = q) (ha : g[p]? = some a) (hb : g[q]? = some b) : stepG ids g r = joinG g a b := by
  unfold stepG labG
  rw [if_pos h, hp, hq, ha, hb]
  rfl
set_option maxHeartbeats 1600000 in
set_option maxRecDepth 100000 in
theorem sGroups_any (A B : Option Addr) (ca cb : Nat) (ids : List Int) (l : List Ctx) (w : World) (ha : Reads w w.heap.size 1 A ids.length (cellsI ids)) (hb : Reads w w.heap.size 3 B l.length (cellsC l)) (hok : okG ids l = true) :
    Calls Try.prog 83 #[.slice A ids.length ca, .slice B l.length cb] w (IntsS w (groupsG ids l)) := by
  obtain ⟨i0, hi0, hz0, hz1, hz2⟩ := info_parts sInfoInt
  obtain ⟨hv, hvr, hin⟩ := okG_parts hok
  have hn : ids.length ≤ 12 := validO_len hv
  have hl : l.length ≤ 30 := validO_len hvr
  have HV := Lib.hid (And.intro hv hin)
  clear hv hvr hin hok
  have ho1 : (w.alloc (.cells #[] 3)).ownsRow w.heap.size 3 1 (.slice (some ⟨w.heap.size, 0, none⟩) 0 0) 0 [] := own_empty (Nat.le_refl _) rfl
  have hb1 : Below w.heap.size w (w.alloc (.cells #[] 3)) := (Below.refl _ _).alloc (Nat.le_refl _) _
  have hs1 := hb1.size
  have ha1 := ha.step hb1
  go_enter Try.func83, Try.ntmps83
  go_wp2_with (at_builtin
               go_must (refine wpList_append_reads _ rfl (.tmp 7) (.tmp 8) _ rfl w.heap.size 3 i0 _ 1 8 Try.underlying23 hi0 hz0 hz1 hz2 rfl (by omega) _ 0 _ rfl ho1 (w.alloc (.cells #[] 3)).heap.size _ ids.length ca (cellsI ids) rfl ha1 (cellsI_one _) (by simp only [maxLen]; omega) (by omega) (by simp) ?_)
               intro v2 w2 hown2 hg2 hat2
               have hb2 := app_below0 ho1 (Nat.le_refl _) hs1 hg2)
  have hb3 := hb1.trans hb2
  have hown3 : w2.ownsRow w.heap.size 3 1 v2 ids.length (cellsI (groupsG ids (l.take 0))) := by simpa [groupsG] using hown2
  clear hown2 hg2 hat2 hb2 hb1 ho1 hs1 ha1
  go_loopw [5, 6] (fun v i wr => ∃ k : Nat, k ≤ l.length ∧ i = .int .i64 k ∧ Below w.heap.size w wr ∧ wr.ownsRow w.heap.size 3 1 v ids.length (cellsI (groupsG ids (l.take k)))) (fun _ i _ => l.length - (intOf i).toNat)
  case atStart => exact ⟨0, Nat.zero_le _, rfl, hb3, hown3⟩
  case round =>
    obtain ⟨k, hk, rfl, hbl, hown⟩ := hrel
    clear hb3 hown3
    have hsz := hbl.size
    obtain ⟨G, hG⟩ : ∃ G, G = groupsG ids (l.take k) := ⟨_, rfl⟩
    rw [← hG] at hown
    obtain ⟨A2, c2, rfl, hc2, hr2⟩ := own_slice hown
    have hGl : G.length = ids.length := by rw [hG, groupsG_len]
    have HG := Lib.hid hG
    clear hG
    by_cases hlt : k < l.length
    · obtain ⟨b, off, hB, hbb, hc⟩ := (hb.below hbl).ctx (by omega)
      subst hB
      have hk0 : l[k]? = some l[k] := List.getElem?_eq_getElem hlt
      obtain ⟨c1, c2', c3⟩ := hc k _ hk0
      have hkl : (k : Int) < (l.length : Int) := by omega
      by_cases h2 : l[k].area = 2
      · have e2 : (l[k].area == 2) = true := by simp [h2]
        obtain ⟨hm1, hm2⟩ := HV.out.2 l[k] (List.getElem_mem hlt)
        obtain ⟨hp1, hp2, _⟩ := placeI_at hm1
        obtain ⟨hq1, hq2, _⟩ := placeI_at hm2
        obtain ⟨p, hp⟩ : ∃ p, placeI ids l[k].id = p := ⟨_, rfl⟩
        obtain ⟨q, hq⟩ : ∃ q, placeI ids l[k].kind = q := ⟨_, rfl⟩
        rw [hp] at hp1 hp2
        rw [hq] at hq1 hq2
        obtain ⟨x, hx⟩ : ∃ x, G[p]? = some x := ⟨_, List.getElem?_eq_getElem (by omega)⟩
        obtain ⟨y, hy⟩ : ∃ y, G[q]? = some y := ⟨_, List.getElem?_eq_getElem (by omega)⟩
        have HT : Hid (groupsG ids (l.take (k + 1)) = joinG G x y) := by
          show groupsG ids (l.take (k + 1)) = joinG G x y
          rw [groupsG_next hlt, ← HG.out]
          exact stepG_eq h2 hp hq hx hy
        obtain ⟨b3, off3, hA2, hbb3, hc3⟩ := hr2.ints (by omega)
        have g1 := hc3 p _ hx
        have g2 := hc3 q _ hy
        subst hA2
        have hpn : (p : Int) < (ids.length : Int) := by omega
        have hqn : (q : Int) < (ids.length : Int) := by omega
        have haw := ha.step hbl
        have hrw : Reads wr wr.heap.size 1 (some ⟨b3, off3, none⟩) G.length (cellsI G) := by rw [hGl]; exact hr2
        have HX := Lib.hid (And.intro hbl (And.intro hown (And.intro haw hrw)))
        have HN := Lib.hid hGl
        have hGb : G.length ≤ 1000 := by omega
        clear hc3 hx hy hp hq hm1 hm2 h2 hc hk0 hbl hown hr2 haw ha hb hrw hGl
        go_wp2_with fail
        refine region_still_tail2 21 (by kernel_rfl) (by kernel_rfl) ?_
        intro W hW hz hbw
        simp only [List.take_succ_cons, List.take_zero, List.drop_succ_cons, List.drop_zero]
        have haW := HX.out.2.2.1.step hbw
        repeat (first | still_step | still_call (sPlace_to A ca ids _ p _ haW (by omega) hp1) | still_call (sPlace_to A ca ids _ q _ haW (by omega) hq1))
        refine wpStill_nil ?_
        have hrW := HX.out.2.2.2.step hbw
        have hj := sJoin_any (some ⟨b3, off3, none⟩) c2 G x y W hrW (by omega)
        rw [HN.out] at hj
        have hbW := below_step HX.out.1 hbw
        have HW := Lib.hid (And.intro hbW hj)
        clear hW hbw hbW hrW haW g1 g2 hj
        go_wp2_with (go_at_call 101
                     go_must (refine HW.out.2.mono ?_)
                     rintro e w4 ⟨v4, rfl, hb4, ho4⟩)
        go_roundw
        case rel =>
          refine ⟨k + 1, by omega, by go_num, below_step HW.out.1 hb4, ?_⟩
          rw [HT.out]
          rw [joinG_len, HN.out] at ho4
          exact own_less ho4 HW.out.1.size
        case measure => simp [intOf]; omega
      · have e2 : (l[k].area == 2) = false := by simp [h2]
        have HT : Hid (groupsG ids (l.take (k + 1)) = G) := by
          show groupsG ids (l.take (k + 1)) = G
          rw [groupsG_next hlt, stepG, if_neg h2, HG.out]
        clear hr2 h2
        go_wp2_with fail
        go_roundw
        case rel => exact ⟨k + 1, by omega, by go_num, hbl, by rw [HT.out]; exact hown⟩
        case measure => simp [intOf]; omega
    · have hkl : k = l.length := by omega
      have HK := Lib.hid (And.intro hkl (And.intro hbl hown))
      clear hkl hbl hown hr2
      go_wp2_with fail
      go_ret
      obtain ⟨hkl, hbl, hown⟩ := HK.out
      have h := HG.out
      rw [hkl, List.take_length] at h
      refine ⟨_, rfl, hbl, ?_⟩
      rw [← h, hGl]
      exact hown
end Go.Proofs.Ytnkdpogplkomhaa

/- What the model's groups, heads and members are. -/
namespace Go.Proofs.Ytnkdpogplkomhaa
open Go.RowKit

def GroupsS (w : World) (ids : List Int) (rels : List Ctx) (e : Ending) (w2 : World) : Prop :=
  ∃ v, e = .returned (.tuple #[v, .bool (okG ids rels)]) ∧ Below w.heap.size w w2 ∧ w2.ownsRow w.heap.size 3 1 v (groupsOfG ids rels).length (cellsI (groupsOfG ids rels))
theorem intsS_empty {w w1 : World} {out : List Int} {g : Nat} (h : out = []) (hb : Below w.heap.size w w1) (hg : g = w1.heap.size) : IntsS w out (.returned (.slice (some ⟨g, 0, none⟩) 0 0)) (w1.alloc (.cells #[] 3)) := by
  subst h
  exact ⟨_, rfl, hb.alloc hb.size _, own_empty hb.size hg⟩
theorem app_both {W w4 : World} {o : Obj} {base base2 e e2 s s2 n n2 : Nat} {v v2 v4 : Value} {xs ys : List Value} (hown : W.ownsRow base e s v n xs) (hgr : W.ownsRow base2 e2 s2 v2 n2 ys) (hne : ∀ g, v2.ownBlock = some g → v.ownBlock ≠ some g)
    (hg : (W.alloc o).grownBy w4 v.ownBlock) (hat : v4.ownBlock = v.ownBlock ∨ v4.ownBlock = some (W.alloc o).heap.size) : w4.ownsRow base2 e2 s2 v2 n2 ys ∧ ∀ g, v2.ownBlock = some g → v4.ownBlock ≠ some g := by
  refine ⟨own_other (hgr.alloc o) (hown.alloc o) hne hg, fun g h1 h2 => ?_⟩
  rcases hat with h | h
  · exact hne g h1 (h.symm.trans h2)
  · rw [h] at h2
    injection h2 with h2
    have := (hgr.lt g h1).2
    simp at h2
    omega
end Go.Proofs.Ytnkdpogplkomhaa
