/- The program makes a tree for each group. -/
import Derived.Test.YtjkjnicgbfpjiaaGt
import Derived.Test.YtjkjnicgbfpjiaaTriRel
namespace Go.Proofs.Ytjkjnicgbfpjiaa
open Go.RowKit

theorem infoPtr : (Try.prog.info? 80).map (fun i => (i.zero, i.size, i.bytes)) = some (some (.pointer none), 1, 8) := by kernel_rfl
/-- Pointers to the first k of n nodes from b0 on. -/
def ptrs (b0 n k : Nat) : List Value := (List.range n).map fun i => .pointer (if i < k then some ⟨b0 + i, 0, none⟩ else none)
theorem ptrs_len (b0 n k : Nat) : (ptrs b0 n k).length = n := by simp [ptrs]
theorem ptrs_set (b0 n k : Nat) (hk : k < n) : (ptrs b0 n k).set k (.pointer (some ⟨b0 + k, 0, none⟩)) = ptrs b0 n (k + 1) := by
  refine List.ext_getElem? fun i => ?_
  rw [List.getElem?_set]
  by_cases h : k = i
  · subst h
    simp [ptrs, hk]
  · rw [if_neg h]
    by_cases hi : i < n
    · have : (i < k + 1) = (i < k) := by rw [eq_iff_iff]; omega
      simp [ptrs, hi, this]
    · simp [ptrs, hi]
theorem ptrs_at (b0 n : Nat) {i : Nat} (hi : i < n) : (ptrs b0 n n)[i]? = some (.pointer (some ⟨b0 + i, 0, none⟩)) := by simp [ptrs, hi]
theorem ptrs_new (b0 n : Nat) {k : Nat} (hk : k < n) : (ptrs b0 n k)[k]? = some (.pointer none) := by simp [ptrs, hk]
theorem zero_ptrs (b0 n : Nat) : (madeCells (Value.pointer none).cells (n * 1)).toList = ptrs b0 n 0 := by
  refine List.ext_getElem? fun i => ?_
  by_cases hi : i < n
  · have : i % 1 = 0 := by omega
    simp [ptrs, madeCells, hi, Value.cells, Nat.mod_one]
  · simp [ptrs, madeCells, hi]
/-- The first k nodes stand alone. -/
def Alone (w : World) (b0 : Nat) (ids : List Int) (k : Nat) : Prop := ∀ (i : Nat) (x : Int), i < k → ids[i]? = some x → w.heap[b0 + i]? = some (.cells #[.int .i64 x, .pointer none] 82 (0, 0))

theorem Alone.next {w w2 : World} {b0 k : Nat} {ids : List Int} {x : Int} {g : Nat} {u : Value} (h : Alone w b0 ids k) (hs : w.heap.size = b0 + k) (hx : ids[k]? = some x) (hg : g < b0)
    (hw : w2 = (w.setCell ⟨g, k, none⟩ u).alloc (.cells #[.int .i64 x, .pointer none] 82)) : Alone w2 b0 ids (k + 1) := by
  have hs2 : (w.setCell ⟨g, k, none⟩ u).heap.size = b0 + k := by rw [← hs]; simp [World.setCell]
  subst hw
  intro i y hi hy
  by_cases h2 : i = k
  · subst h2
    rw [hx] at hy
    injection hy with hy
    subst hy
    rw [← hs2]
    exact heap_alloc_new _ _
  · rw [Below.heap_alloc _ _ _ (by omega), heap_setCell_other _ _ _ _ (show b0 + i ≠ g by omega)]
    exact h i y (by omega) hy
theorem Alone.forest {w : World} {b0 : Nat} {ids : List Int} (h : Alone w b0 ids ids.length) : Forest w b0 ids (fun _ => none) ∧ LabP ids (fun _ => none) ids :=
  ⟨⟨fun _ _ hj => (by cases hj), fun i x hx => h i x (List.getElem?_eq_some_iff.1 hx).1 hx⟩, labP_start fun _ _ => rfl⟩

theorem own_mid {w w2 : World} {base e size n lo hi g cap : Nat} {xs : List Value} (h : w.ownsRow base e size (.slice (some ⟨g, 0, none⟩) n cap) n xs) (hm : Mid lo hi w w2) (hg : g < lo) : w2.ownsRow base e size (.slice (some ⟨g, 0, none⟩) n cap) n xs := by
  refine ⟨h.1, ?_⟩
  rcases h.2 with hn | ⟨g2, cap2, cur, hv, hbg, hh, rest⟩
  · exact .inl hn
  · have e : g2 = g := by injection hv with h1; injection h1 with h1; injection h1 with h1; exact h1.symm
    exact .inr ⟨g2, cap2, cur, hv, hbg, (hm.block g2 (.inl (by omega))).trans hh, rest⟩
def TreesPost (w : World) (ids : List Int) (rels : List Ctx) (e : Ending) (w2 : World) : Prop :=
  ∃ (b0 : Nat) (par : Nat → Option Nat), e = .returned (.slice (some ⟨w.heap.size, 0, none⟩) ids.length ids.length) ∧ Below w.heap.size w w2 ∧
    w2.ownsRow w.heap.size 80 1 (.slice (some ⟨w.heap.size, 0, none⟩) ids.length ids.length) ids.length (ptrs b0 ids.length ids.length) ∧ w.heap.size < b0 ∧ b0 + ids.length ≤ w2.heap.size ∧
    Forest w2 b0 ids par ∧ LabP ids par (groupsG ids rels)
theorem indexI_same (A : Option Addr) (cap : Nat) (l : List Int) (n : Int) (w : World) (hr : Reads w w.heap.size 1 A l.length (cellsI l)) (hl : l.length ≤ 1000000000000) :
    Calls Try.prog 70 #[.slice A l.length cap, .int .i64 n] w fun e w2 => e = .returned (.int .i64 (findI l n)) ∧ w2 = w :=
  (indexI_any A cap l n w hr hl).mono fun _ _ ⟨h1, h2⟩ => ⟨h1, h2.symm⟩
theorem indexI_to (A : Option Addr) (cap : Nat) (l : List Int) (n : Int) (p : Nat) (w : World) (hr : Reads w w.heap.size 1 A l.length (cellsI l)) (hl : l.length ≤ 1000000000000) (hp : findI l n = (p : Int)) :
    Calls Try.prog 70 #[.slice A l.length cap, .int .i64 n] w fun e w2 => e = .returned (.int .i64 (p : Int)) ∧ w2 = w :=
  (indexI_any A cap l n w hr hl).mono fun _ _ ⟨h1, h2⟩ => ⟨by rw [h1, hp], h2.symm⟩
theorem ptr_cell {w : World} {base e g n cap b0 i : Nat} (h : w.ownsRow base e 1 (.slice (some ⟨g, 0, none⟩) n cap) n (ptrs b0 n n)) (hi : i < n) : w.cell? ⟨g, i, none⟩ = some (.pointer (some ⟨b0 + i, 0, none⟩)) :=
  (h.cellAt _ (by omega)).trans (ptrs_at b0 n hi)
set_option maxHeartbeats 1600000 in
set_option maxRecDepth 100000 in
theorem trees_any (A B : Option Addr) (ca cb : Nat) (ids : List Int) (l : List Ctx) (w : World) (ha : Reads w w.heap.size 1 A ids.length (cellsI ids)) (hb : Reads w w.heap.size 3 B l.length (cellsC l)) (hok : okG ids l = true) :
    Calls Try.prog 64 #[.slice A ids.length ca, .slice B l.length cb] w (TreesPost w ids l) := by
  obtain ⟨i0, hi0, hz0, hz1, hz2⟩ := info_parts infoPtr
  obtain ⟨hv, hvr, hin⟩ := okG_parts hok
  have hn : ids.length ≤ 12 := validO_len hv
  have hl : l.length ≤ 30 := validO_len hvr
  have HV := Lib.hid (And.intro hv hin)
  clear hv hvr hin hok
  go_enter Try.func64, Try.ntmps64
  go_wp2_with (at_make
               go_must (refine wpList_make_full _ rfl (.tmp 11) (.tmp 11) _ rfl w.heap.size 80 i0 _ 1 Try.underlying78 hi0 hz0 hz1 _ _ _ _ ids.length rfl rfl rfl rfl (by rw [hz2]; omega) (by simp only [maxLen]; omega) (Nat.le_refl _) ?_)
               intro w1 hown hg)
  have hb1 : Below w.heap.size w w1 := (Below.refl _ _).grown hg (Nat.le_refl _) (fun k hk => by cases hk)
  obtain ⟨b0, hb0⟩ : ∃ b0, w1.heap.size = b0 := ⟨_, rfl⟩
  have hlt0 : w.heap.size < b0 := by rw [← hb0]; exact (hown.lt _ rfl).2
  rw [zero_ptrs b0] at hown
  have HO1 := Lib.hid (And.intro hown (And.intro hb1 hb0))
  clear hown hg hb1 hb0
  go_loopw [15] (fun i wr => ∃ k : Nat, k ≤ ids.length ∧ i = .int .i64 k ∧ Below w.heap.size w wr ∧ wr.ownsRow w.heap.size 80 1 (.slice (some ⟨w.heap.size, 0, none⟩) ids.length ids.length) ids.length (ptrs b0 ids.length k) ∧ wr.heap.size = b0 + k ∧ Alone wr b0 ids k) (fun i _ => ids.length - (intOf i).toNat)
  case atStart => exact ⟨0, Nat.zero_le _, rfl, HO1.out.2.1, HO1.out.1, HO1.out.2.2, fun i x h => absurd h (by omega)⟩
  case round =>
    obtain ⟨k, hk, rfl, hbl, hown, hsz, hal⟩ := hrel
    by_cases hlt : k < ids.length
    · obtain ⟨b, off, hA, hbb, hc⟩ := (ha.below hbl).ints (by omega)
      subst hA
      have hk0 : ids[k]? = some ids[k] := List.getElem?_eq_getElem hlt
      have c1 := hc k _ hk0
      have hkl : (k : Int) < (ids.length : Int) := by omega
      have d1 := (hown.cellAt k (by omega)).trans (ptrs_new b0 ids.length hlt)
      have d2 := hown.frozenAt k
      have hgs := (hown.lt _ rfl).2
      have hns : ¬ w.heap.size = wr.heap.size := by omega
      have HX := Lib.hid (And.intro hk0 (And.intro hbl (And.intro hown (And.intro hsz hal))))
      clear hc hk0 ha hb hbl hown hsz hal
      go_wp2_with fail
      go_roundw
      case rel =>
        obtain ⟨hk0, hbl, hown, hsz, hal⟩ := HX.out
        have h1 := (hown.stored k (.pointer (some ⟨wr.heap.size, 0, none⟩))).1
        rw [hsz, ptrs_set _ _ _ hlt, ← hsz] at h1
        refine ⟨k + 1, by omega, by go_num, (hbl.setCell (by simp) _).alloc (by simp [World.setCell]; exact hbl.size) _, own_below h1 ((Below.refl _ _).alloc (Nat.le_refl _) _), ?_, hal.next hsz hk0 hlt0 rfl⟩
        simp [World.setCell]; omega
      case measure => simp [intOf]; omega
    · have hkl : k = ids.length := by omega
      subst hkl
      obtain ⟨hfo, hla⟩ := hal.forest
      have HX := Lib.hid (And.intro hbl (And.intro hown (And.intro hfo hla)))
      have hbs : b0 + ids.length ≤ wr.heap.size := by omega
      clear hbl hown hal hfo hla hsz HO1 hlt hk
      go_wp2_with fail
      go_loopw [29] (fun i w2 => ∃ (k : Nat) (par : Nat → Option Nat), k ≤ l.length ∧ i = .int .i64 k ∧ Below w.heap.size w w2 ∧ w2.ownsRow w.heap.size 80 1 (.slice (some ⟨w.heap.size, 0, none⟩) ids.length ids.length) ids.length (ptrs b0 ids.length ids.length) ∧ b0 + ids.length ≤ w2.heap.size ∧ Forest w2 b0 ids par ∧ LabP ids par (groupsG ids (l.take k))) (fun i _ => l.length - (intOf i).toNat)
      case atStart => exact ⟨0, _, Nat.zero_le _, rfl, HX.out.1, HX.out.2.1, hbs, HX.out.2.2.1, by simpa [groupsG] using HX.out.2.2.2⟩
      case round =>
        obtain ⟨k, par, hk, rfl, hbl, hown, hsz, hfo, hla⟩ := hrel
        by_cases hlt : k < l.length
        · obtain ⟨b, off, hB, hbb, hc⟩ := (hb.below hbl).ctx (by omega)
          subst hB
          have hk0 : l[k]? = some l[k] := List.getElem?_eq_getElem hlt
          obtain ⟨c1, c2, c3⟩ := hc k _ hk0
          have hkl : (k : Int) < (l.length : Int) := by omega
          by_cases h2 : l[k].area = 2
          · have e2 : (l[k].area == 2) = true := by simp [h2]
            obtain ⟨hm1, hm2⟩ := HV.out.2 l[k] (List.getElem_mem hlt)
            obtain ⟨hp1, hp2, _⟩ := placeI_at hm1
            obtain ⟨hq1, hq2, _⟩ := placeI_at hm2
            obtain ⟨x, hx⟩ : ∃ x, x = l[k].id := ⟨_, rfl⟩
            obtain ⟨y, hy⟩ : ∃ y, y = l[k].kind := ⟨_, rfl⟩
            obtain ⟨p, hp⟩ : ∃ p, p = placeI ids x := ⟨_, rfl⟩
            obtain ⟨q, hq⟩ : ∃ q, q = placeI ids y := ⟨_, rfl⟩
            rw [← hx, ← hp] at hp1 hp2
            rw [← hy, ← hq] at hq1 hq2
            have hbl2 := hbl.alloc hbl.size (.cells #[.int .i64 l[k].id, .int .i64 l[k].kind, .int .i64 l[k].area] 48)
            have hown2 := own_below hown ((Below.refl _ _).alloc (Nat.le_refl _) (.cells #[.int .i64 l[k].id, .int .i64 l[k].kind, .int .i64 l[k].area] 48))
            have hfo2 := hfo.keep (w2 := wr.alloc (.cells #[.int .i64 l[k].id, .int .i64 l[k].kind, .int .i64 l[k].area] 48)) fun j h1 h2 => Below.heap_alloc _ _ _ (by omega)
            rw [← hx] at c1
            rw [← hy] at c2
            rw [← hx, ← hy] at hbl2 hown2 hfo2
            have HX2 := Lib.hid (And.intro hbl2 (And.intro hown2 (And.intro hfo2 hla)))
            have HE := Lib.hid (And.intro hx (And.intro hy (And.intro hp (And.intro hq (And.intro h2 (And.intro hm1 hm2))))))
            have HA := Lib.hid ha
            have g1 := ptr_cell hown hp2
            have g2 := ptr_cell hown hq2
            have hgs := (hown.lt _ rfl).2
            clear h2 hc hk0 hbl hown hfo hla hbl2 hown2 hfo2 HX ha hb hx hy hp hq hm1 hm2
            go_wp2_with fail
            refine region_still_tail 14 (by kernel_rfl) (by kernel_rfl) ?_
            intro W hW hz hbw
            simp only [List.take_succ_cons, List.take_zero, List.drop_succ_cons, List.drop_zero]
            have haW := HA.out.step (below_step HX2.out.1 hbw)
            have hoW := own_below HX2.out.2.1 hbw
            repeat (first | still_step | still_call (indexI_to A ca ids _ p _ haW (by omega) hp1) | still_call (indexI_to A ca ids _ q _ haW (by omega) hq1))
            refine wpStill_nil ?_
            have hfW := HX2.out.2.2.1.keep (w2 := W) fun j h1 h2 => hbw.block j (by simp; omega)
            have HW := Lib.hid (And.intro hoW (And.intro hfW hbw))
            clear hW hbw hoW hfW haW g1 g2
            go_wp2_with (go_at_call 91
                         go_must (refine (join_any b0 ids (by omega) HV.out.1 p q par _ hp2 hq2 HW.out.2.1).mono ?_)
                         rintro e w4 ⟨rfl, ⟨par2, hf4, hj4⟩, hm4⟩)
            go_roundw
            case rel =>
              obtain ⟨hoW, hfW, hbw⟩ := HW.out
              obtain ⟨hbl, hown, hfo, hla⟩ := HX2.out
              obtain ⟨hx, hy, hp, hq, h2, hm1, hm2⟩ := HE.out
              refine ⟨k + 1, par2, by omega, by go_num, Mid.below (below_step hbl hbw) (by omega) hm4, own_mid hoW hm4 hlt0, ?_, hf4, ?_⟩
              · have h1 := hbw.size
                have h3 := hm4.size
                simp at h1
                omega
              · rw [groupsG_next hlt]
                refine labP_join HV.out.1 hfo.1 hla hm1 hm2 h2 ?_
                rw [← hx, ← hy, ← hp, ← hq]
                exact hj4
            case measure => simp [intOf]; omega
          · have e2 : (l[k].area == 2) = false := by simp [h2]
            have HN := Lib.hid h2
            have hbl2 := hbl.alloc hbl.size (.cells #[.int .i64 l[k].id, .int .i64 l[k].kind, .int .i64 l[k].area] 48)
            have hown2 := own_below hown ((Below.refl _ _).alloc (Nat.le_refl _) (.cells #[.int .i64 l[k].id, .int .i64 l[k].kind, .int .i64 l[k].area] 48))
            have hfo2 := hfo.keep (w2 := wr.alloc (.cells #[.int .i64 l[k].id, .int .i64 l[k].kind, .int .i64 l[k].area] 48)) fun j h1 h2 => Below.heap_alloc _ _ _ (by omega)
            have HX2 := Lib.hid (And.intro hbl2 (And.intro hown2 (And.intro hfo2 hla)))
            clear h2 hc hk0 hbl hown hfo hla hbl2 hown2 hfo2 HX ha hb
            go_wp2_with fail
            go_roundw
            case rel =>
              obtain ⟨hbl, hown, hfo, hla⟩ := HX2.out
              refine ⟨k + 1, par, by omega, by go_num, hbl, hown, by simp; omega, hfo, ?_⟩
              rw [groupsG_next hlt]
              exact labP_skip hla HN.out
            case measure => simp [intOf]; omega
        · have hkl : k = l.length := by omega
          have HK := Lib.hid hkl
          have HX2 := Lib.hid (And.intro hbl (And.intro hown (And.intro hsz (And.intro hfo hla))))
          clear hkl hbl hown hfo hla HX
          go_wp2_with fail
          go_ret
          obtain ⟨hbl, hown, hsz, hfo, hla⟩ := HX2.out
          rw [HK.out, List.take_length] at hla
          exact ⟨b0, par, rfl, hbl, hown, hlt0, hsz, hfo, hla⟩
end Go.Proofs.Ytjkjnicgbfpjiaa
