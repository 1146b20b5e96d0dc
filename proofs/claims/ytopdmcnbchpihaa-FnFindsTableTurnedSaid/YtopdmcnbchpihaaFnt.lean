/- The model's FindsTable. -/
import Derived.Test.YtopdmcnbchpihaaFna
import Derived.Test.YtopdmcnbchpihaaFf
import Derived.Test.YtopdmcnbchpihaaSs
import Derived.Test.YtopdmcnbchpihaaTab
import Derived.Test.YtopdmcnbchpihaaIl
namespace Go.Proofs.Ytopdmcnbchpihaa
open Go.RowKit

theorem infoIntS : (Try.prog.info? 29).map (fun i => (i.zero, i.size, i.bytes)) = some (some (.slice none 0 0), 1, 24) := by kernel_rfl
theorem reads_valT {w : World} {u : Value} {t : TypeId} {B : Nat} (hB : w.heap.size < B) : Reads (w.alloc (.cells #[u] t)) B 1 (some ⟨w.heap.size, 0, none⟩) 1 [u] := by
  refine ⟨rfl, fun _ => ⟨_, 0, rfl, hB, fun j x hx => ?_⟩⟩
  rw [cell_of_row _ _ _ _ _ _ (heap_alloc_new _ _)]
  simpa using hx
theorem one_sliceT {A : Option Addr} {n c : Nat} : ∀ u ∈ [Value.slice A n c], u.oneCell' = true := by
  intro u hu
  simp at hu
  subst hu
  rfl
/-- A table of numbers in memory of the call's own, and a word. -/
def TabI (w : World) (T : List (List Int)) (ok : Bool) (e : Ending) (w2 : World) : Prop :=
  ∃ v vs, e = .returned (.tuple #[v, .bool ok]) ∧ Below w.heap.size w w2 ∧ OwnV (Value.int .i64) w2 w.heap.size 3 29 v vs T
theorem tabI_no {w w2 : World} {ids : List Int} {L : List Ctx} {v : Value} (h : tabOk ids L = false) (hb : Below w.heap.size w w2) (ho : OwnV (Value.int .i64) w2 w.heap.size 3 29 v [] []) : TabI w (tabG ids L) (tabOk ids L) (.returned (.tuple #[v, .bool false])) w2 :=
  ⟨v, [], by rw [h], hb, by rw [tabG_no h]; exact ho⟩
theorem emptyT {w : World} {base g : Nat} (hb : base ≤ w.heap.size) (hg : g = w.heap.size) : OwnV (Value.int .i64) (w.alloc (.cells #[] 29)) base 3 29 (.slice (some ⟨g, 0, none⟩) 0 0) [] [] := OwnV.nil_ (own_empty hb hg)
theorem repT (k : Nat) : List.replicate k (List.replicate 5 (0 : Int)) ++ [List.replicate 5 0] = List.replicate (k + 1) (List.replicate 5 0) := List.replicate_succ'.symm
theorem startT (ids : List Int) : List.replicate ids.length (List.replicate 5 (0 : Int)) = tableF ids [] := by
  rw [tableF_zero]
  simp [List.map_const']
set_option maxHeartbeats 4000000 in
set_option maxRecDepth 100000 in
theorem sTable_any (A D : Option Addr) (ca cd : Nat) (ids : List Int) (L : List Ctx) (w : World) (ha : Reads w w.heap.size 1 A ids.length (cellsI ids)) (hd : Reads w w.heap.size 3 D L.length (cellsC L)) (hn : ids.length ≤ 1000000000) (hL : L.length ≤ 1000000000) :
    Calls Try.prog 24 #[.slice A ids.length ca, .slice D L.length cd] w (TabI w (tabG ids L) (tabOk ids L)) := by
  obtain ⟨i0, hi0, hz0, hz1, hz2⟩ := info_parts infoInt
  obtain ⟨ir, hir, hrz, hrs, hrb⟩ := info_parts infoIntS
  have hb1 : Below w.heap.size w (w.alloc (.cells #[] 29)) := (Below.refl _ _).alloc (Nat.le_refl _) _
  have ho1 : OwnV (Value.int .i64) (w.alloc (.cells #[] 29)) w.heap.size 3 29 (.slice (some ⟨w.heap.size, 0, none⟩) 0 0) [] [] := emptyT (Nat.le_refl _) rfl
  have hI := sIds_any A ca ids _ (ha.step hb1) (by omega)
  have hV := fun (W : World) (hW : Below w.heap.size w W) => sValidF_any D cd L W (hd.step hW) (by omega)
  cases h1 : validI ids
  · rw [h1] at hI
    have H := Lib.hid (And.intro hI (And.intro hb1 ho1))
    have HN : Hid (tabOk ids L = false) := by show tabOk ids L = false; simp [tabOk, h1]
    clear ha hd hI hV hb1 ho1 h1
    go_enter Try.func24, Try.ntmps24
    go_wp2_with (go_at_call 76; go_must (refine H.out.1.mono ?_); rintro e w2 ⟨rfl, k2⟩)
    go_ret2
    exact tabI_no HN.out (below_step H.out.2.1 k2) (H.out.2.2.below k2)
  · rw [h1] at hI
    cases h2 : validF L
    · simp only [h2] at hV
      have H := Lib.hid (And.intro hI (And.intro hb1 (And.intro ho1 hV)))
      have HN : Hid (tabOk ids L = false) := by show tabOk ids L = false; simp [tabOk, h2]
      clear ha hd hI hV hb1 ho1 h1 h2
      go_enter Try.func24, Try.ntmps24
      go_wp2_with (first
        | (go_at_call 76; go_must (refine H.out.1.mono ?_); rintro e w2 ⟨rfl, k2⟩)
        | (go_at_call 37; go_must (refine (H.out.2.2.2 _ (below_step H.out.2.1 k2)).mono ?_); rintro e w3 ⟨rfl, k3⟩))
      go_ret2
      exact tabI_no HN.out (below_step H.out.2.1 (below_step k2 k3)) (H.out.2.2.1.below (below_step k2 k3))
    · simp only [h2] at hV
      have hn12 : ids.length ≤ 12 := validO_len h1
      have hL20 := (validF_ok h2).2
      have H := Lib.hid (And.intro hI (And.intro hb1 (And.intro ho1 (And.intro hV (And.intro ha (And.intro hd (And.intro h1 h2)))))))
      clear ha hd hI hV hb1 ho1 h1 h2
      go_enter Try.func24, Try.ntmps24
      go_wp2_with (first
        | (go_at_call 76; go_must (refine H.out.1.mono ?_); rintro e w2 ⟨rfl, k2⟩)
        | (go_at_call 37; go_must (refine (H.out.2.2.2.1 _ (below_step H.out.2.1 k2)).mono ?_); rintro e w3 ⟨rfl, k3⟩))
      have K3 := Lib.hid (And.intro (below_step H.out.2.1 (below_step k2 k3)) (H.out.2.2.1.below (below_step k2 k3)))
      clear k2 k3
      go_loopw [6, 7] (fun v i wr => ∃ (k : Nat) (vs : List Value), k ≤ ids.length ∧ i = .int .i64 k ∧ Below w.heap.size w wr ∧ OwnV (Value.int .i64) wr w.heap.size 3 29 v vs (List.replicate k (List.replicate 5 0))) (fun _ i _ => ids.length - (intOf i).toNat)
      case atStart => exact ⟨0, [], Nat.zero_le _, rfl, K3.out.1, K3.out.2⟩
      case round =>
        obtain ⟨k, vs, hk, rfl, hbl, hown⟩ := hrel
        have hsz := hbl.size
        by_cases hlt : k < ids.length
        · have hli : (k : Int) < (ids.length : Int) := by omega
          have HB := Lib.hid hbl
          have HO := Lib.hid hown
          have hRl : (List.replicate k (List.replicate 5 (0 : Int))).length = k := List.length_replicate
          clear hbl hown
          go_wp2_with (first
            | (at_make
               go_must (refine wpList_make_full _ rfl (.const (.int .i64 5)) (.const (.int .i64 5)) _ rfl wr.heap.size 3 i0 _ 1 Try.underlying29 hi0 hz0 hz1 _ _ _ _ 5 rfl rfl rfl rfl (by rw [hz2]; omega) (by simp only [maxLen]; omega) (Nat.le_refl _) ?_)
               intro w5 hnew hg5
               rw [zero_cellsI] at hnew)
            | (at_builtin
               go_must (refine wpList_append_reads _ rfl (.tmp 26) (.tmp 28) _ rfl w.heap.size 29 ir _ 1 24 Try.underlying40 hir hrz hrs hrb rfl (by omega) u6 (List.replicate k (List.replicate 5 (0 : Int))).length vs rfl ((own_below HO.out.out ((Below.refl _ _).grown hg5 (Nat.le_refl _) (fun k hk => by cases hk))).alloc _) (w5.heap.size + 1) _ 1 1 [.slice (some ⟨wr.heap.size, 0, none⟩) 5 5] rfl (reads_valT (by omega)) one_sliceT (by simp only [maxLen]; simp; omega) (by simp; omega) (by have := hg5.size; simp; omega) ?_)
               intro v6 w6 hown6 hg6 hat6))
          go_roundw
          case rel =>
            have hb5 : Below wr.heap.size wr w5 := (Below.refl _ _).grown hg5 (Nat.le_refl _) (fun k hk => by cases hk)
            have hp := (HO.out.below hb5).push (r := List.replicate 5 (0 : Int)) (u := .slice (some ⟨wr.heap.size, 0, none⟩) 5 5) (own_less hnew hsz) (HO.out.fresh hnew (Nat.le_refl _)) hown6 hg6 hat6
            rw [repT] at hp
            exact ⟨k + 1, _, by omega, by go_num, (below_step HB.out hb5).trans (app_below (HO.out.below hb5).out (Nat.le_refl _) (Nat.le_trans hsz hb5.size) hg6), hp⟩
          case measure => simp [intOf]; omega
        · have hkl : k = ids.length := by omega
          subst hkl
          rw [startT] at hown
          have HO := Lib.hid (And.intro hbl hown)
          clear hbl hown
          go_wp2_with fail
          go_loopw [8] (fun i w3 => ∃ k : Nat, k ≤ L.length ∧ i = .int .i64 k ∧ Below w.heap.size w w3 ∧ OwnV (Value.int .i64) w3 w.heap.size 3 29 u6 vs (tableF ids (L.take k)) ∧ ∀ f ∈ L.take k, f.id ∈ ids) (fun i _ => L.length - (intOf i).toNat)
          case atStart => exact ⟨0, Nat.zero_le _, rfl, HO.out.1, by simpa using HO.out.2, by simp⟩
          case round =>
            obtain ⟨k, hk, rfl, hbl, hown, hall⟩ := hrel
            have hsz := hbl.size
            by_cases hlt : k < L.length
            · have hkl : (k : Int) < (L.length : Int) := by omega
              obtain ⟨b, off, hA, hbb, hcc⟩ := (H.out.2.2.2.2.2.1.below hbl).ctx (by omega)
              subst hA
              obtain ⟨⟨xa, xb, xc⟩, hx⟩ : ∃ f, L[k]? = some f := ⟨_, List.getElem?_eq_getElem hlt⟩
              obtain ⟨c1, c2, _⟩ := hcc k _ hx
              dsimp only at c1 c2
              have hP := sPlace_any A ca ids xa wr (H.out.2.2.2.2.1.step hbl) (by omega)
              by_cases hin : xa ∈ ids
              · obtain ⟨p1, p2, p3⟩ := placeI_at hin
                rw [p1] at hP
                obtain ⟨q, hq⟩ : ∃ q, q = placeI ids xa := ⟨_, rfl⟩
                rw [← hq] at hP p2 p3
                obtain ⟨t, ht, ht5⟩ : ∃ t : Nat, xb = (t : Int) + 1 ∧ t < 5 := by
                  have := okF_parts ((validF_ok H.out.2.2.2.2.2.2.2).1 _ (List.mem_of_getElem? hx))
                  dsimp only at this
                  exact ⟨(xb - 1).toNat, by omega, by omega⟩
                subst ht
                have hnx := tableF_next (ids := ids) H.out.2.2.2.2.2.2.1 hx rfl ht5 p3
                dsimp only at hnx
                obtain ⟨m, hm⟩ : ∃ m, m = numF (L.take k) xa ((t : Int) + 1) := ⟨_, rfl⟩
                have hmL : m ≤ 20 := by
                  rw [hm]
                  have := List.countP_le_length (p := isF xa ((t : Int) + 1)) (l := L.take k)
                  simp only [List.length_take] at this
                  unfold numF
                  omega
                rw [← hm] at hnx
                have hrow := tableF_at (L := L.take k) p3
                obtain ⟨g, cap, hvg, hgb, hgs, f1, f2⟩ := hown.cell hrow (rowF_at ht5)
                rw [rowF_len] at hvg
                rw [← hm] at f1
                obtain ⟨go, capo, hvo, hgo1, hgo2, hou⟩ := hown.outer (by rw [tableF_len]; omega)
                rw [tableF_len] at hvo
                have f3 := hou q _ hvg
                subst hvo
                have hqn : (q : Int) < (ids.length : Int) := by omega
                have ht5i : (t : Int) < 5 := by omega
                have HX := Lib.hid (And.intro hbl (And.intro hown (And.intro hall (And.intro hx (And.intro hP (And.intro hnx (And.intro hvg (And.intro hrow hin))))))))
                clear hbl hown hall hx hP hnx hvg hrow hin hcc p1 p3 hq hm hou
                go_wp2_with (go_at_call 70; go_must (refine HX.out.2.2.2.2.1.mono ?_); rintro e w7 ⟨rfl, rfl⟩)
                go_region
                go_wp2_with fail
                go_roundw
                case rel =>
                  obtain ⟨hbl, hown, hall, hx, _, hnx, hvg, hrow, hin⟩ := HX.out
                  have hs := (hown.store (j := t) hrow (by rw [rowF_len]; exact hvg) ((m : Int) + 1)).below ((Below.refl _ _).drew)
                  rw [← hnx] at hs
                  refine ⟨k + 1, by omega, by go_num, (hbl.setCell (by simpa using hgb) _).drew, hs, fun f hf => ?_⟩
                  rw [List.take_add_one, hx] at hf
                  rcases List.mem_append.1 hf with h | h
                  · exact hall f h
                  · simp at h
                    rw [h]
                    exact hin
                case measure => simp [intOf]; omega
              · have hf : findI ids xa = -1 := by
                  rcases findI_spec ids xa with h | ⟨_, _, _, _, h⟩
                  · exact h.1
                  · exact absurd h hin
                rw [hf] at hP
                have HN : Hid (tabOk ids L = false) := by exact tabOk_out (List.mem_of_getElem? hx) hin
                have HX := Lib.hid (And.intro hbl hP)
                clear hbl hown hall hx hP hin hcc hf c2
                go_wp2_with (go_at_call 70; go_must (refine HX.out.2.mono ?_); rintro e w7 ⟨rfl, rfl⟩)
                go_ret2
                exact tabI_no HN.out (HX.out.1.alloc hsz _) (emptyT hsz rfl)
            · have hkl : k = L.length := by omega
              subst hkl
              rw [List.take_length] at hown hall
              have HY : Hid (tabOk ids L = true) := by exact tabOk_mk H.out.2.2.2.2.2.2.1 H.out.2.2.2.2.2.2.2 hall
              have HX := Lib.hid (And.intro hbl hown)
              clear hbl hown hall
              go_wp2_with fail
              go_ret2
              rw [HY.out, tabG_ok HY.out]
              exact ⟨_, vs, rfl, HX.out.1, HX.out.2⟩
end Go.Proofs.Ytopdmcnbchpihaa
