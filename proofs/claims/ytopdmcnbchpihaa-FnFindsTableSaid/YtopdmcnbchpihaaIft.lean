/- The table of finds that the program makes. -/
import Derived.Test.YtopdmcnbchpihaaIfa
import Derived.Test.YtopdmcnbchpihaaFnt
import Derived.Test.YtopdmcnbchpihaaTt
import Derived.Test.YtopdmcnbchpihaaVv
import Derived.Test.YtopdmcnbchpihaaShelf
namespace Go.Proofs.Ytopdmcnbchpihaa
open Go.RowKit

section
variable {T : List (List Int)}
theorem flat_len : ∀ {T : List (List Int)}, (∀ r ∈ T, r.length = 5) → T.flatten.length = T.length * 5
  | [], _ => rfl
  | r :: T, h => by
    have h1 := h r List.mem_cons_self
    have h2 := flat_len (T := T) fun x hx => h x (List.mem_cons_of_mem _ hx)
    rw [List.flatten_cons, List.length_append, h1, h2, List.length_cons]
    omega
theorem flat_at : ∀ {T : List (List Int)} {q t : Nat} {r : List Int} {x : Int}, (∀ r ∈ T, r.length = 5) → T[q]? = some r → r[t]? = some x → T.flatten[q * 5 + t]? = some x
  | [], _, _, _, _, _, h, _ => by cases h
  | r0 :: T, 0, t, r, x, h5, hr, hx => by
    have e : r0 = r := by simpa using hr
    subst e
    have := (List.getElem?_eq_some_iff.1 hx).1
    rw [List.flatten_cons, List.getElem?_append_left (by omega), Nat.zero_mul, Nat.zero_add, hx]
  | r0 :: T, q + 1, t, r, x, h5, hr, hx => by
    have h0 := h5 r0 List.mem_cons_self
    have ih := flat_at (T := T) (q := q) (t := t) (fun y hy => h5 y (List.mem_cons_of_mem _ hy)) (by simpa using hr) hx
    rw [List.flatten_cons, List.getElem?_append_right (by omega), ← ih]
    congr 1
    omega
theorem flat_set : ∀ {T : List (List Int)} {q t : Nat} {r : List Int} (x : Int), (∀ r ∈ T, r.length = 5) → T[q]? = some r → t < 5 → T.flatten.set (q * 5 + t) x = (T.set q (r.set t x)).flatten
  | [], _, _, _, _, _, h, _ => by cases h
  | r0 :: T, 0, t, r, x, h5, hr, ht => by
    have e : r0 = r := by simpa using hr
    subst e
    have h0 := h5 r0 List.mem_cons_self
    rw [List.flatten_cons, List.set_append_left _ _ (by omega), Nat.zero_mul, Nat.zero_add]
    rfl
  | r0 :: T, q + 1, t, r, x, h5, hr, ht => by
    have h0 := h5 r0 List.mem_cons_self
    have ih := flat_set (T := T) (q := q) (t := t) x (fun y hy => h5 y (List.mem_cons_of_mem _ hy)) (by simpa using hr) ht
    rw [List.flatten_cons, List.set_append_right _ _ (by omega), List.set_cons_succ, List.flatten_cons, ← ih]
    congr 2
    omega
end
theorem tableF_five (ids : List Int) (L : List Ctx) : ∀ r ∈ tableF ids L, r.length = 5 := fun r hr => by
  obtain ⟨x, _, rfl⟩ := List.mem_map.1 hr
  exact rowF_len L x
theorem tableF_flat0 (ids : List Int) : (tableF ids []).flatten = List.replicate (ids.length * 5) 0 := by
  rw [tableF_zero, List.map_const', List.flatten_replicate_replicate]
theorem five_of {r : List Int} (h : r.length = 5) : ∃ a0 a1 a2 a3 a4, r = [a0, a1, a2, a3, a4] := by
  match r, h with
  | [a, b, c, d, e], _ => exact ⟨a, b, c, d, e, rfl⟩
set_option maxHeartbeats 8000000 in
set_option maxRecDepth 100000 in
theorem iTable_any (A D : Option Addr) (ca cd : Nat) (ids : List Int) (L : List Ctx) (w : World) (ha : Reads w w.heap.size 1 A ids.length (cellsI ids)) (hd : Reads w w.heap.size 3 D L.length (cellsC L)) (hn : ids.length ≤ 1000000000) (hL : L.length ≤ 1000000000) :
    Calls Try.prog 23 #[.slice A ids.length ca, .slice D L.length cd] w (TabI w (tabG ids L) (tabOk ids L)) := by
  have hI := iIds_any A ca ids w ha (by omega)
  cases h1 : validI ids
  · rw [h1] at hI
    have H := Lib.hid hI
    have HN : Hid (tabOk ids L = false) := by show tabOk ids L = false; simp [tabOk, h1]
    clear ha hd hI h1
    go_enter Try.func23, Try.ntmps23
    go_wp2_with (go_at_call 72; go_must (refine H.out.mono ?_); rintro e w2 ⟨rfl, rfl⟩)
    go_ret2
    exact tabI_no HN.out (Below.refl _ _) (OwnV.nil_ (World.ownsRow_nil _ _ _ _))
  · rw [h1] at hI
    have hV := iFindsValid_any D cd L w hd (by omega)
    cases h2 : validF L
    · rw [h2] at hV
      have H := Lib.hid (And.intro hI hV)
      have HN : Hid (tabOk ids L = false) := by show tabOk ids L = false; simp [tabOk, h2]
      clear ha hd hI hV h1 h2
      go_enter Try.func23, Try.ntmps23
      go_wp2_with (first
        | (go_at_call 72; go_must (refine H.out.1.mono ?_); rintro e w2 ⟨rfl, rfl⟩)
        | (go_at_call 31; go_must (refine H.out.2.mono ?_); rintro e w3 ⟨rfl, k3⟩))
      go_ret2
      exact tabI_no HN.out k3 (OwnV.nil_ (World.ownsRow_nil _ _ _ _))
    · rw [h2] at hV
      have hn12 : ids.length ≤ 12 := validO_len h1
      have hL20 := (validF_ok h2).2
      have H := Lib.hid (And.intro hI (And.intro hV (And.intro ha (And.intro hd (And.intro h1 h2)))))
      clear ha hd hI hV h1 h2
      go_enter Try.func23, Try.ntmps23
      go_wp2_with (first
        | (go_at_call 72; go_must (refine H.out.1.mono ?_); rintro e w2 ⟨rfl, rfl⟩)
        | (go_at_call 31; go_must (refine H.out.2.1.mono ?_); rintro e w2 ⟨rfl, k2⟩)
        | (go_at_call 73; go_must (refine (new5_any A ids.length ca w2 (by omega)).mono ?_); rintro e w3 ⟨g, rfl, k3, o3⟩))
      have hgl := o3.lt g rfl
      have hs23 := k3.size
      obtain ⟨W4, hW4⟩ : ∃ W4, W4 = w3.alloc (.cells #[.slice A ids.length ca, .slice (some ⟨g, 0, none⟩) ids.length ids.length] 104) := ⟨_, rfl⟩
      have b4 : Below w3.heap.size w3 W4 := by rw [hW4]; exact (Below.refl w3.heap.size w3).alloc (Nat.le_refl _) _
      have hs4 : w3.heap.size < W4.heap.size := by rw [hW4]; simp
      have ht4 : W4.heap[w3.heap.size]? = some (.cells #[.slice A ids.length ca, .slice (some ⟨g, 0, none⟩) ids.length ids.length] 104 (0, 0)) := by rw [hW4]; exact heap_alloc_new _ _
      have K4 := Lib.hid (And.intro (below_step k3 b4) (And.intro (own_below o3 b4) (And.intro ht4 k2)))
      rw [← hW4]
      clear k3 o3 b4 ht4 hW4 k2
      go_loopw [25] (fun c wr => ∃ k : Nat, k ≤ L.length ∧ c = .int .i64 k ∧ W4.grownBy wr (some g) ∧ wr.ownsRow w2.heap.size 106 5 (.slice (some ⟨g, 0, none⟩) ids.length ids.length) ids.length (cellsI (tableF ids (L.take k)).flatten) ∧ ∀ f ∈ L.take k, f.id ∈ ids) (fun c _ => L.length - (intOf c).toNat)
      case atStart => exact ⟨0, Nat.zero_le _, rfl, World.grownBy.refl _ _, by rw [List.take_zero, tableF_flat0]; exact K4.out.2.1, by simp⟩
      case round =>
        obtain ⟨k, hk, rfl, hgr, hov, hall⟩ := hrel
        have hsz := hgr.size
        have bw := grown_below hgr K4.out.1 hgl.1
        have htw := (hgr.block _ hs4 (by intro e; injection e with e; omega)).trans K4.out.2.2.1
        have bww := K4.out.2.2.2.trans (bw.mono K4.out.2.2.2.size)
        by_cases hlt : k < L.length
        · have hkl : (k : Int) < (L.length : Int) := by omega
          obtain ⟨b, off, hA, hbb, hcc⟩ := (H.out.2.2.2.1.step bww).ctx (by omega)
          subst hA
          obtain ⟨⟨xa, xb, xc⟩, hx⟩ : ∃ f, L[k]? = some f := ⟨_, List.getElem?_eq_getElem hlt⟩
          obtain ⟨c1, c2, c3⟩ := hcc k _ hx
          dsimp only at c1 c2 c3
          obtain ⟨t, ht, ht5⟩ : ∃ t : Nat, xb = (t : Int) + 1 ∧ t < 5 := by
            have := okF_parts ((validF_ok H.out.2.2.2.2.2).1 _ (List.mem_of_getElem? hx))
            dsimp only at this
            exact ⟨(xb - 1).toNat, by omega, by omega⟩
          subst ht
          obtain ⟨W5, hW5⟩ : ∃ W5, W5 = wr.alloc (.cells #[.int .i64 xa, .int .i64 ((t : Int) + 1), .int .i64 xc] 31) := ⟨_, rfl⟩
          have b5 : Below wr.heap.size wr W5 := by rw [hW5]; exact (Below.refl wr.heap.size wr).alloc (Nat.le_refl _) _
          have hs5 : wr.heap.size < W5.heap.size := by rw [hW5]; simp
          have hf5 : W5.heap[wr.heap.size]? = some (.cells #[.int .i64 xa, .int .i64 ((t : Int) + 1), .int .i64 xc] 31 (0, 0)) := by rw [hW5]; exact heap_alloc_new _ _
          have t5 := (b5.block _ (by omega)).trans htw
          have z0 := cell_of_row _ _ 0 _ _ _ t5
          have z1 := cell_of_row _ _ 1 _ _ _ t5
          have y0 := cell_of_row _ _ 0 _ _ _ hf5
          have y1 := cell_of_row _ _ 1 _ _ _ hf5
          rw [hW5] at z0 z1 y0
          have hrx := H.out.2.2.1.step (below_step bww b5)
          have o5 := own_below hov b5
          have HX := Lib.hid (And.intro (hgr.trans (grown_of_below b5 (some g))) (And.intro o5 (And.intro hall (And.intro hx (below_step bww b5)))))
          clear hgr hov bw htw bww hcc t5 hf5 hall
          by_cases hin : xa ∈ ids
          · obtain ⟨p1, p2, p3⟩ := placeI_at hin
            have hE := ent5_yes A ca g ids.length ids xa W5 hrx (by omega) hin
            have hnx := tableF_next (ids := ids) H.out.2.2.2.2.1 hx rfl ht5 p3
            dsimp only at hnx
            obtain ⟨q, hq⟩ : ∃ q, q = placeI ids xa := ⟨_, rfl⟩
            rw [← hq] at hE p2 p3 hnx
            obtain ⟨m, hm⟩ : ∃ m, m = numF (L.take k) xa ((t : Int) + 1) := ⟨_, rfl⟩
            have hmL : m ≤ 20 := by
              rw [hm]
              have := List.countP_le_length (p := isF xa ((t : Int) + 1)) (l := L.take k)
              simp only [List.length_take] at this
              unfold numF
              omega
            have hrow := tableF_at (L := L.take k) p3
            have hcell := flat_at (tableF_five ids (L.take k)) hrow (rowF_at ht5)
            have hset := flat_set ((m : Int) + 1) (tableF_five ids (L.take k)) hrow ht5
            rw [← hm] at hnx hcell
            rw [← hnx] at hset
            have hlen : (cellsI (tableF ids (L.take k)).flatten).length = ids.length * 5 := by rw [length_cellsI, flat_len (tableF_five ids (L.take k)), tableF_len]
            have d1 : W5.cell? ⟨g, q * 5 + t, none⟩ = some (.int .i64 m) := (o5.cellAt _ (by omega)).trans (by rw [cellsI, List.getElem?_map, hcell]; rfl)
            have hgs : g < W5.heap.size := (o5.lt g rfl).2
            have arm : ∀ w6, Below W5.heap.size W5 w6 → w6.cell? ⟨wr.heap.size, 1, none⟩ = some (.int .i64 ((t : Int) + 1)) ∧ w6.cell? ⟨g, q * 5 + t, none⟩ = some (.int .i64 m) ∧ w6.frozen? ⟨g, q * 5 + t, none⟩ = false := fun w6 k6 =>
              ⟨(k6.cell (p := ⟨wr.heap.size, 1, none⟩) hs5).trans y1, (k6.cell (p := ⟨g, q * 5 + t, none⟩) hgs).trans d1, (own_below o5 k6).frozenAt _⟩
            have HM := Lib.hid (And.intro hE (And.intro hset (And.intro arm hin)))
            have ht5i : (t : Int) < 5 := by omega
            clear arm hE hset hnx hcell hrow d1 p1 p2 p3 hin hq hm hrx o5 hlen hx
            go_wp2_with (go_at_call 74; rw [← hW5]; go_must (refine HM.out.1.mono ?_); rintro e w6 ⟨rfl, k6⟩
                         obtain ⟨m1, m2, m3⟩ := HM.out.2.2.1 w6 k6
                         have K6 := Lib.hid k6
                         clear k6)
            go_region
            go_wp2_with fail
            go_roundw
            case rel =>
              obtain ⟨hgr5, o5, hall, hx, _⟩ := HX.out
              have ho6 := own_below o5 K6.out
              have ho7 := (ho6.stored (q * 5 + t) (.int .i64 ((m : Int) + 1))).1
              rw [show (cellsI (tableF ids (L.take k)).flatten).set (q * 5 + t) (.int .i64 ((m : Int) + 1)) = cellsI ((tableF ids (L.take k)).flatten.set (q * 5 + t) ((m : Int) + 1)) from by simp [cellsI, List.map_set], HM.out.2.1] at ho7
              refine ⟨k + 1, by omega, by go_num, (grown_store (hgr5.trans (grown_of_below K6.out (some g)))).trans (grown_of_below ((Below.refl _ _).drew) (some g)), own_below ho7 ((Below.refl _ _).drew), fun f hf => ?_⟩
              rw [List.take_add_one, hx] at hf
              rcases List.mem_append.1 hf with h | h
              · exact hall f h
              · simp at h
                rw [h]
                exact HM.out.2.2.2
            case measure => simp [intOf]; omega
          · have HN : Hid (tabOk ids L = false) := by exact tabOk_out (List.mem_of_getElem? hx) hin
            have HP := Lib.hid (ent5_no A ca (.slice (some ⟨g, 0, none⟩) ids.length ids.length) ids xa W5 hrx (by omega) hin)
            clear hin hrx o5 hx
            go_wp2_with (go_at_call 74; rw [← hW5]; go_must (refine HP.out.mono ?_); rintro e w6 ⟨rfl, k6⟩)
            go_ret2
            exact tabI_no HN.out (below_step HX.out.2.2.2.2 k6) (OwnV.nil_ (World.ownsRow_nil _ _ _ _))
        · have hkl : k = L.length := by omega
          subst hkl
          rw [List.take_length] at hov hall
          have HY : Hid (tabOk ids L = true) := by exact tabOk_mk H.out.2.2.2.2.1 H.out.2.2.2.2.2 hall
          obtain ⟨T, hT⟩ : ∃ T, T = tableF ids L := ⟨_, rfl⟩
          have hTl : T.length = ids.length := by rw [hT]; exact tableF_len ids L
          have hT5 : ∀ r ∈ T, r.length = 5 := by rw [hT]; exact tableF_five ids L
          have hG : tabG ids L = T := by rw [hT]; exact tabG_ok HY.out
          rw [← hT] at hov
          have z0 := cell_of_row _ _ 0 _ _ _ htw
          have z1 := cell_of_row _ _ 1 _ _ _ htw
          obtain ⟨n, hnn⟩ : ∃ n, n = ids.length := ⟨_, rfl⟩
          have hmx : T.length = (List.replicate n ([] : List Int)).length := by rw [hTl, hnn]; simp
          have hs34 : w3.heap.size < wr.heap.size := by omega
          rw [← hnn] at hov hTl z0 z1 htw
          have HB := Lib.hid (And.intro bww (And.intro hov (And.intro hT5 (And.intro hG (And.intro hTl hmx)))))
          have HTW := Lib.hid htw
          clear hgr hov bw htw bww hall hT hT5 hG hTl hmx
          obtain ⟨w9, rfl⟩ : ∃ w9, w9 = wr := ⟨wr, rfl⟩
          obtain ⟨ir, hir, hrz, hrs, hrb⟩ := info_parts infoIntS
          rw [← hnn] at hn12 ⊢
          have Hn := Lib.hid hnn
          clear hnn
          go_wp2_with (at_make
                       go_must (refine wpList_make_full _ rfl (.tmp 47) (.tmp 47) _ rfl w9.heap.size 29 ir _ 1 Try.underlying40 hir hrz hrs _ _ _ _ n rfl rfl rfl rfl (by rw [hrb]; omega) (by simp only [maxLen]; omega) (Nat.le_refl _) ?_)
                       intro w10 ho10 hg10
                       rw [zero_nils] at ho10
                       have b10 : Below w9.heap.size w9 w10 := (Below.refl _ _).grown hg10 (Nat.le_refl _) (fun k hk => by cases hk)
                       have x0 := (b10.cell (p := ⟨w3.heap.size, 1, none⟩) hs34).trans z1
                       have K10 := Lib.hid (And.intro b10 (OwnV.nils (enc := Value.int .i64) (e1 := 3) ho10))
                       clear b10 ho10 hg10)
          go_loopw [52] (fun c wq => ∃ (i : Nat) (vs : List Value), i ≤ n ∧ c = .int .i64 i ∧ Below w9.heap.size w9 wq ∧ OwnV (Value.int .i64) wq w9.heap.size 3 29 (.slice (some ⟨w9.heap.size, 0, none⟩) n n) vs (mixL T (List.replicate n []) i)) (fun c _ => n - (intOf c).toNat)
          case atStart => exact ⟨0, _, Nat.zero_le _, rfl, K10.out.1, by rw [mixL_zero]; exact K10.out.2⟩
          case round =>
            obtain ⟨i, vs, hi, rfl, hbl, hown⟩ := hrel
            have hsq := hbl.size
            by_cases hlt2 : i < n
            · have hix : (i : Int) < (n : Int) := by omega
              obtain ⟨r, hr⟩ : ∃ r, T[i]? = some r := ⟨_, List.getElem?_eq_getElem (by have := HB.out.2.2.2.2.1; omega)⟩
              have hr5 := HB.out.2.2.1 r (List.mem_of_getElem? hr)
              obtain ⟨a0, a1, a2, a3, a4, hre⟩ := five_of hr5
              have hov := own_below HB.out.2.1 hbl
              have hfl := flat_len HB.out.2.2.1
              have hTl := HB.out.2.2.2.2.1
              have hcx : ∀ (j : Nat) (x : Int), r[j]? = some x → wr.cell? ⟨g, i * 5 + j, none⟩ = some (.int .i64 x) := fun j x hx => by
                have hj := (List.getElem?_eq_some_iff.1 hx).1
                exact (hov.cellAt _ (by omega)).trans (by rw [cellsI, List.getElem?_map, flat_at HB.out.2.2.1 hr hx]; rfl)
              have d0 := hcx 0 a0 (by rw [hre]; rfl)
              have d1 := hcx 1 a1 (by rw [hre]; rfl)
              have d2 := hcx 2 a2 (by rw [hre]; rfl)
              have d3 := hcx 3 a3 (by rw [hre]; rfl)
              have d4 := hcx 4 a4 (by rw [hre]; rfl)
              rw [Nat.add_zero] at d0
              obtain ⟨W5, hW5⟩ : ∃ W5, W5 = wr.alloc (.cells #[.int .i64 a0, .int .i64 a1, .int .i64 a2, .int .i64 a3, .int .i64 a4] 106) := ⟨_, rfl⟩
              have b5 : Below wr.heap.size wr W5 := by rw [hW5]; exact (Below.refl wr.heap.size wr).alloc (Nat.le_refl _) _
              have hs5 : wr.heap.size < W5.heap.size := by rw [hW5]; simp
              have hf5 : W5.heap[wr.heap.size]? = some (.cells #[.int .i64 a0, .int .i64 a1, .int .i64 a2, .int .i64 a3, .int .i64 a4] 106 (0, 0)) := by rw [hW5]; exact heap_alloc_new _ _
              have hC := Try.slices_Clone_int wr.heap.size 0 5 5 r W5 (by omega) (by omega) (fun j hj => by
                rw [Nat.zero_add, cell_of_row _ _ _ _ _ _ hf5, hre]
                rw [hr5] at hj
                rcases (by omega : j = 0 ∨ j = 1 ∨ j = 2 ∨ j = 3 ∨ j = 4) with h | h | h | h | h <;> subst h <;> rfl)
              rw [List.take_of_length_le (by omega)] at hC
              have hmk : (mixL T (List.replicate n []) i).length = n := by rw [mixL_len HB.out.2.2.2.2.2 (by simp; omega)]; simp
              have hset := mixL_set HB.out.2.2.2.2.2 hr
              have hout := hown.out
              have hvl := hown.len
              rw [hmk] at hout hvl
              obtain ⟨u0, hu0⟩ : ∃ u0, vs[i]? = some u0 := ⟨_, List.getElem?_eq_getElem (by omega)⟩
              have hc0 := (hout.cellAt i (by omega)).trans hu0
              have hf0 := hout.frozenAt i
              have hol := (hout.lt _ rfl).2
              have htq := (hbl.block _ hs34).trans HTW.out
              have HX := Lib.hid (And.intro hbl (And.intro hown (And.intro hset (And.intro b5 (And.intro hmk hr5)))))
              have HC := Lib.hid (And.intro hC (And.intro hc0 hf0))
              clear hbl hown hset b5 hmk hr5 hC hc0 hf0 hout hvl hov hfl hcx hr htq hre hf5
              go_wp2_with (go_at_call 75; rw [← hW5]; go_must (refine HC.out.1.mono ?_); rintro e w6 ⟨v6, rfl, o6, _, k6⟩
                           have e6 : w6.heap[w9.heap.size]? = wr.heap[w9.heap.size]? := (k6.block _ (by omega)).trans (HX.out.2.2.2.1.block _ hol)
                           have f1 := (World.cell?_of_block (w := wr) (a := ⟨w9.heap.size, i, none⟩) e6).trans HC.out.2.1
                           have f2 := (World.frozen?_of_block (w := wr) (a := ⟨w9.heap.size, i, none⟩) e6).trans HC.out.2.2
                           obtain ⟨A6, c6, hv6, _, _⟩ := Reads.of_own o6
                           subst hv6)
              go_roundw
              case rel =>
                obtain ⟨hbl, hown, hset, b5, hmk, hr5⟩ := HX.out
                have b6 : Below wr.heap.size wr w6 := below_step b5 k6
                have ho6 : w6.ownsRow w9.heap.size 3 1 (.slice A6 5 c6) r.length (r.map (Value.int .i64)) := by rw [hr5]; exact own_less o6 (by omega)
                have hp := (hown.below b6).put (r := r) ho6 (hown.fresh o6 (by omega)) i
                rw [hset] at hp
                exact ⟨i + 1, _, by omega, by go_num, (below_step hbl b6).setCell (Nat.le_refl _) _, hp⟩
              case measure => simp [intOf]; omega
            · have hil : i = n := by omega
              have hdn : decide ((i : Int) < (n : Int)) = false := decide_eq_false (by omega)
              have hall := mixL_all HB.out.2.2.2.2.2
              rw [List.length_replicate] at hall
              rw [hil, hall] at hown
              have HX := Lib.hid (And.intro hbl hown)
              clear hbl hown hil hall
              go_wp2_with fail
              go_ret2
              have hw := HB.out.1
              rw [HY.out, HB.out.2.2.2.1]
              exact ⟨_, vs, rfl, hw.trans (HX.out.1.mono hw.size), HX.out.2.less hw.size⟩
end Go.Proofs.Ytopdmcnbchpihaa
