/- The laws draw contexts and relations that often have a valid order. -/
import Derived.Test.YtpkmnigkcefnpaaDo
import Derived.Test.YtpkmnigkcefnpaaU4
namespace Go.Proofs.Ytpkmnigkcefnpaa
open Go.RowKit

def GoodPost (w : World) (g c p : Nat) (A : Option Addr) (z : List Int) (e : Ending) (w2 : World) : Prop :=
  ∃ (v1 v2 : Value) (ids : List Int) (l : List Ctx), e = .returned (.tuple #[v1, v2]) ∧ w2.ownsRow w.heap.size 3 1 v1 ids.length (cellsI ids) ∧ w2.ownsRow w.heap.size 31 3 v2 l.length (cellsC l) ∧ ids.length ≤ 13 ∧ l.length ≤ 31 ∧ Drawn w g A z c p 741 w2
set_option maxHeartbeats 4000000 in
set_option maxRecDepth 100000 in
theorem drawGood_any (g c p : Nat) (A : Option Addr) (z : List Int) (w : World) (h : Rd w g A z c p) (hp : p ≤ 100000) :
    Calls Try.prog 48 #[.pointer (some ⟨g, 0, none⟩)] w (GoodPost w g c p A z) := by
  obtain ⟨i0, hi0, hz0, hz1, hz2⟩ := info_parts infoRel
  have hlt := h.lt
  go_enter Try.func48, Try.ntmps48
  go_wp2_with fail
  refine (drawBoth_any g c p A z _ h (by omega)).mono ?_
  rintro e w2 ⟨v1, v2, ids, l, rfl, ho1, ho2, hl1, hl2, ⟨p3, hp3, hr3⟩, hg3⟩
  have hs2 := hg3.size
  obtain ⟨A1, c1, rfl, _, _⟩ := own_slice ho1
  obtain ⟨A2, c2, rfl, _, _⟩ := own_slice ho2
  have hb3 : Below w2.heap.size w2 (w2.alloc (.cells #[] 31)) := (Below.refl _ _).alloc (Nat.le_refl _) _
  have O3 := Lib.hid (And.intro (own_below ho1 hb3) (And.intro (own_below ho2 hb3) (And.intro (grown_alloc hg3 (.cells #[] 31)) (own_lit (w := w2) (base := w.heap.size) (e := 31) hs2 rfl))))
  have hr4 := hr3.step hb3
  clear ho1 ho2 hg3 hb3 hr3
  go_wp2_with fail
  refine (pick_any g c p3 A z _ _ hr4 (by omega) (by omega)).mono ?_
  rintro e w5 ⟨r5, rfl, a5, b5, _, hr5, hg5⟩
  have O5 := Lib.hid (And.intro (own_drawn (w0 := w) O3.out.1 hg5 hlt) (And.intro (own_drawn (w0 := w) O3.out.2.1 hg5 hlt) (And.intro (own_drawn (w0 := w) O3.out.2.2.2 hg5 hlt) (O3.out.2.2.1.trans hg5))))
  have hs5 := O5.out.2.2.2.size
  obtain ⟨keep, hkeep⟩ : ∃ x, (r5 == 0) = x := ⟨_, rfl⟩
  have K5 := Lib.hid (And.intro hr5 hp3)
  clear hr5 hg5 O3 hr4 a5 b5 h
  go_wp2_with fail
  go_loopw [6, 8] (fun v i wr => ∃ (k : Nat) (l2 : List Ctx), k ≤ l.length ∧ i = .int .i64 k ∧ l2.length ≤ k ∧ wr.ownsRow w.heap.size 31 3 v l2.length (cellsC l2) ∧ wr.ownsRow w.heap.size 3 1 (.slice A1 ids.length c1) ids.length (cellsI ids) ∧
    wr.ownsRow w.heap.size 31 3 (.slice A2 l.length c2) l.length (cellsC l) ∧ Rd wr g A z c (p3 + 1) ∧ w.grownBy wr (some g)) (fun _ i _ => l.length - (intOf i).toNat)
  case atStart => exact ⟨0, [], by omega, rfl, by simp, O5.out.2.2.1, O5.out.1, O5.out.2.1, K5.out.1, O5.out.2.2.2⟩
  case round =>
    obtain ⟨k, l2, hk, rfl, hl2, hown, hoi, hol, hrd, hgr⟩ := hrel
    have hsz := hgr.size
    obtain ⟨Av, cv, rfl, _, hrv⟩ := own_slice hown
    by_cases hkl : k < l.length
    · obtain ⟨b, off, hA2, hbb, hc⟩ := (own_reads hol).ctx (by omega)
      subst hA2
      obtain ⟨r, hr0⟩ : ∃ r, l[k]? = some r := ⟨_, List.getElem?_eq_getElem hkl⟩
      obtain ⟨c1', c2', c3'⟩ := hc k _ hr0
      have hkli : (k : Int) < (l.length : Int) := by omega
      have hbD := below_draws (Below.refl wr.heap.size wr) 1
      have bA : Below wr.heap.size wr ((wr.drewN 1).alloc (.cells #[] 31)) := hbD.alloc hbD.size _
      have bD : Below wr.heap.size wr ((wr.drewN 1).alloc (.cells #[.int .i64 r.id, .int .i64 r.kind, .int .i64 r.area] 31)) := hbD.alloc hbD.size _
      have bB : Below wr.heap.size wr (((wr.drewN 1).alloc (.cells #[] 31)).alloc (.cells #[.int .i64 r.id, .int .i64 r.kind, .int .i64 r.area] 31)) := bA.alloc bA.size _
      have bC : Below wr.heap.size wr (((wr.drewN 1).alloc (.cells #[.int .i64 r.id, .int .i64 r.kind, .int .i64 r.area] 31)).alloc (.cells #[] 31)) := bD.alloc bD.size _
      have oA : ((wr.drewN 1).alloc (.cells #[] 31)).ownsRow wr.heap.size 31 3 (.slice (some ⟨wr.heap.size, 0, none⟩) 0 0) 0 [] := own_empty hbD.size rfl
      have oB : (((wr.drewN 1).alloc (.cells #[] 31)).alloc (.cells #[.int .i64 r.id, .int .i64 r.kind, .int .i64 r.area] 31)).ownsRow wr.heap.size 31 3 (.slice (some ⟨wr.heap.size, 0, none⟩) 0 0) 0 [] := oA.alloc _
      have oC : (((wr.drewN 1).alloc (.cells #[.int .i64 r.id, .int .i64 r.kind, .int .i64 r.area] 31)).alloc (.cells #[] 31)).ownsRow wr.heap.size 31 3 (.slice (some ⟨wr.heap.size + 1, 0, none⟩) 0 0) 0 [] := own_empty bD.size (by simp [World.drewN])
      have nB : (((wr.drewN 1).alloc (.cells #[] 31)).alloc (.cells #[.int .i64 r.id, .int .i64 r.kind, .int .i64 r.area] 31)).heap[wr.heap.size + 1]? = some (.cells #[.int .i64 r.id, .int .i64 r.kind, .int .i64 r.area] 31 (0, 0)) := by
        have := heap_alloc_new ((wr.drewN 1).alloc (.cells #[] 31)) (.cells #[.int .i64 r.id, .int .i64 r.kind, .int .i64 r.area] 31)
        simpa using this
      have nC : (((wr.drewN 1).alloc (.cells #[.int .i64 r.id, .int .i64 r.kind, .int .i64 r.area] 31)).alloc (.cells #[] 31)).heap[wr.heap.size]? = some (.cells #[.int .i64 r.id, .int .i64 r.kind, .int .i64 r.area] 31 (0, 0)) := (Below.heap_alloc _ _ _ (by simp)).trans (heap_alloc_new (wr.drewN 1) (.cells #[.int .i64 r.id, .int .i64 r.kind, .int .i64 r.area] 31))
      have XA := Lib.hid (And.intro bA (And.intro oA (hrv.step bA)))
      have XB := Lib.hid (And.intro bB (And.intro oB (And.intro (hrv.step bB) nB)))
      have XC := Lib.hid (And.intro bC (And.intro oC (And.intro (hrv.step bC) nC)))
      have cells : ∀ W : World, Below wr.heap.size wr W → W.cell? ⟨b, off + k * 3, none⟩ = some (.int .i64 r.id) ∧ W.cell? ⟨b, off + k * 3 + 1, none⟩ = some (.int .i64 r.kind) ∧ W.cell? ⟨b, off + k * 3 + 2, none⟩ = some (.int .i64 r.area) := fun W hW =>
        ⟨(hW.cell hbb).trans c1', (hW.cell hbb).trans c2', (hW.cell hbb).trans c3'⟩
      have HS := Lib.hid (And.intro (cells _ bA) (And.intro (cells _ bD) (And.intro (cells _ bB) (cells _ bC))))
      have HC := Lib.hid cells
      have HI := Lib.hid (And.intro hown (And.intro hoi (And.intro hol (And.intro hrd hgr))))
      have HK := Lib.hid hr0
      clear bA bB bC bD oA oB oC nB nC hrv hown hoi hol hrd hgr cells hr0 hc hbD
      go_wp2_with fail
      go_region_held3 (fun w' => w'.cell? ⟨b, off + k * 3, none⟩ = some (.int .i64 r.id) ∧ w'.cell? ⟨b, off + k * 3 + 1, none⟩ = some (.int .i64 r.kind) ∧ w'.cell? ⟨b, off + k * 3 + 2, none⟩ = some (.int .i64 r.area))
        (first
          | assumption
          | exact ⟨c1', c2', c3'⟩
          | exact h8
          | exact h9
          | exact HS.out.1
          | exact HS.out.2.1
          | exact HS.out.2.2.1
          | exact HS.out.2.2.2
          | exact HC.out _ b8a)
        (first
          | (refine step_append_want ((wr.drewN 1).alloc (.cells #[] 31)) (by rfl) (.tmp 25) (.tmp 26) _ (by rfl) wr.heap.size 31 i0 _ 3 24 Try.underlying24 hi0 hz0 hz1 hz2 rfl (by omega) (.slice (some ⟨wr.heap.size, 0, none⟩) 0 0) 0 [] (by rfl) XA.out.2.1 _ _ l2.length _ (cellsC l2) (by rfl) XA.out.2.2 (cellsC_one _) (by simp only [maxLen]; omega) (by omega) XA.out.1.size ?_
             intro v8 w8 hown8 hg8 hat8
             have b8 := below_grown XA.out.2.1 hg8 XA.out.1 (Nat.le_refl _)
             have b8a : Below wr.heap.size wr (w8.alloc (.cells #[.int .i64 r.id, .int .i64 r.kind, .int .i64 r.area] 31)) := b8.alloc b8.size _
             have h8 := HC.out _ b8)
          | (refine step_append_want (((wr.drewN 1).alloc (.cells #[] 31)).alloc (.cells #[.int .i64 r.id, .int .i64 r.kind, .int .i64 r.area] 31)) (by rfl) (.tmp 25) (.tmp 26) _ (by rfl) wr.heap.size 31 i0 _ 3 24 Try.underlying24 hi0 hz0 hz1 hz2 rfl (by omega) (.slice (some ⟨wr.heap.size, 0, none⟩) 0 0) 0 [] (by rfl) XB.out.2.1 _ _ l2.length _ (cellsC l2) (by rfl) XB.out.2.2.1 (cellsC_one _) (by simp only [maxLen]; omega) (by omega) XB.out.1.size ?_
             intro v8 w8 hown8 hg8 hat8
             have b8 := below_grown XB.out.2.1 hg8 XB.out.1 (Nat.le_refl _)
             have hN := reads_new XB.out.2.2.2 hg8 (by simp [Value.ownBlock])
             have h8 := HC.out _ b8)
          | (refine step_append_want (((wr.drewN 1).alloc (.cells #[.int .i64 r.id, .int .i64 r.kind, .int .i64 r.area] 31)).alloc (.cells #[] 31)) (by rfl) (.tmp 25) (.tmp 26) _ (by rfl) wr.heap.size 31 i0 _ 3 24 Try.underlying24 hi0 hz0 hz1 hz2 rfl (by omega) (.slice (some ⟨wr.heap.size + 1, 0, none⟩) 0 0) 0 [] (by rfl) XC.out.2.1 _ _ l2.length _ (cellsC l2) (by rfl) XC.out.2.2.1 (cellsC_one _) (by simp only [maxLen]; omega) (by omega) XC.out.1.size ?_
             intro v8 w8 hown8 hg8 hat8
             have b8 := below_grown XC.out.2.1 hg8 XC.out.1 (Nat.le_refl _)
             have hN := reads_new XC.out.2.2.2 hg8 (by simp [Value.ownBlock])
             have h8 := HC.out _ b8)
          | (refine step_append_want (w8.alloc (.cells #[.int .i64 r.id, .int .i64 r.kind, .int .i64 r.area] 31)) (by rfl) (.tmp 27) (.tmp 32) _ (by rfl) wr.heap.size 31 i0 _ 3 24 Try.underlying24 hi0 hz0 hz1 hz2 rfl (by omega) v8 (0 + l2.length) ([] ++ cellsC l2) (by rfl) (hown8.alloc _) _ _ 1 _ (cellsC [r]) (by rfl) (reads_one (B := w8.heap.size + 1) (by omega)) (cellsC_one _) (by simp only [maxLen]; omega) (by omega) b8a.size ?_
             intro v9 w9 hown9 hg9 hat9
             have b9 := below_grown (hown8.alloc _) hg9 b8a (Nat.le_refl _)
             have h9 := HC.out _ b9)
          | (refine step_append_want w8 (by rfl) (.tmp 27) (.tmp 32) _ (by rfl) wr.heap.size 31 i0 _ 3 24 Try.underlying24 hi0 hz0 hz1 hz2 rfl (by omega) v8 (0 + l2.length) ([] ++ cellsC l2) (by rfl) hown8 _ _ 1 _ (cellsC [r]) (by rfl) hN (cellsC_one _) (by simp only [maxLen]; omega) (by omega) b8.size ?_
             intro v9 w9 hown9 hg9 hat9
             have b9 := below_grown hown8 hg9 b8 (Nat.le_refl _)
             have h9 := HC.out _ b9))
      all_goals
        obtain ⟨L, hL⟩ : ∃ L, L = l2 ++ [r] := ⟨_, rfl⟩
        have ho9 : w9.ownsRow wr.heap.size 31 3 v9 L.length (cellsC L) := by
          rw [hL, cellsC_append, List.length_append]
          simpa using hown9
        have hLl : L.length ≤ k + 1 := by rw [hL]; simp; omega
        obtain ⟨A9, c9, rfl, _, hr9⟩ := own_slice ho9
        have fin : ∀ W : World, Below w9.heap.size w9 W → W.ownsRow w.heap.size 31 3 (.slice Av l2.length cv) l2.length (cellsC l2) ∧ W.ownsRow w.heap.size 31 3 (.slice A9 L.length c9) L.length (cellsC L) ∧ W.ownsRow w.heap.size 3 1 (.slice A1 ids.length c1) ids.length (cellsI ids) ∧
            W.ownsRow w.heap.size 31 3 (.slice (some ⟨b, off, none⟩) l.length c2) l.length (cellsC l) ∧ Rd W g A z c (p3 + 1) ∧ w.grownBy W (some g) := fun W hW =>
          ⟨own_below HI.out.1 (below_step b9 hW), own_less (own_below ho9 hW) hsz, own_below HI.out.2.1 (below_step b9 hW), own_below HI.out.2.2.1 (below_step b9 hW), HI.out.2.2.2.1.step (below_step b9 hW), HI.out.2.2.2.2.trans (grown_of_below (below_step b9 hW) _)⟩
        have HF := Lib.hid fin
        have hv9 := sOrdValid_any A1 A9 c1 c9 ids L w9 (own_reads (own_below HI.out.2.1 b9)) hr9 (by omega) (by omega)
        obtain ⟨ok, hok⟩ : ∃ x, ordOkG ids L = x := ⟨_, rfl⟩
        rw [hok] at hv9
        have HV := Lib.hid hv9
        clear hL fin hv9 hok hown9 ho9 hr9 hown8 b9 h9 h8 c1' c2' c3'
        cases keep
        · cases ok
          · go_wp2_with (go_at_call 24; go_must (refine HV.out.mono ?_); rintro e wa ⟨rfl, ba⟩)
            go_roundw
            case rel =>
              obtain ⟨f1, f2, f3, f4, f5, f6⟩ := HF.out _ ba
              exact ⟨k + 1, l2, by omega, by go_num, by omega, f1, f3, f4, f5, f6⟩
            case measure => simp [intOf]; omega
          · go_wp2_with (go_at_call 24; go_must (refine HV.out.mono ?_); rintro e wa ⟨rfl, ba⟩)
            go_roundw
            case rel =>
              obtain ⟨f1, f2, f3, f4, f5, f6⟩ := HF.out _ ba
              exact ⟨k + 1, L, by omega, by go_num, by omega, f2, f3, f4, f5, f6⟩
            case measure => simp [intOf]; omega
        · go_wp2_with fail
          go_roundw
          case rel =>
            obtain ⟨f1, f2, f3, f4, f5, f6⟩ := HF.out _ (Below.refl _ _)
            exact ⟨k + 1, L, by omega, by go_num, by omega, f2, f3, f4, f5, f6⟩
          case measure => simp [intOf]; omega
    · have HI := Lib.hid (And.intro hown (And.intro hoi (And.intro hrd hgr)))
      clear hown hoi hol hrd hgr hrv
      go_wp2_with fail
      go_ret2
      exact ⟨_, _, ids, l2, rfl, HI.out.2.1, HI.out.1, hl1, by omega, ⟨p3 + 1, by omega, HI.out.2.2.1⟩, HI.out.2.2.2⟩
end Go.Proofs.Ytpkmnigkcefnpaa
