/- The laws draw numbers of contexts and relations of these, mostly. -/
import Derived.Test.YtpkmnigkcefnpaaDoorDi
import Derived.Test.YtpkmnigkcefnpaaDoorDl
import Derived.Test.YtpkmnigkcefnpaaDoorS4
namespace Go.Proofs.YtpkmnigkcefnpaaDoor
open Go.RowKit

def DrawBothPost (w : World) (g c p : Nat) (A : Option Addr) (z : List Int) (e : Ending) (w2 : World) : Prop :=
  ∃ (v1 v2 : Value) (ids : List Int) (l : List Ctx), e = .returned (.tuple #[v1, v2]) ∧ w2.ownsRow w.heap.size 3 1 v1 ids.length (cellsI ids) ∧ w2.ownsRow w.heap.size 30 3 v2 l.length (cellsC l) ∧ ids.length ≤ 13 ∧ l.length ≤ 31 ∧ Drawn w g A z c p 740 w2
theorem Reads.ctx_at {w : World} {B n b off k : Nat} {l : List Ctx} {c : Ctx} (h : Reads w B 3 (some ⟨b, off, none⟩) n (cellsC l)) (hn : 0 < n) (hk : l[k]? = some c) :
    w.cell? ⟨b, off + k * 3, none⟩ = some (.int .i64 c.id) ∧ w.cell? ⟨b, off + k * 3 + 1, none⟩ = some (.int .i64 c.kind) ∧ w.cell? ⟨b, off + k * 3 + 2, none⟩ = some (.int .i64 c.area) := by
  obtain ⟨b2, off2, e, _, hc⟩ := h.ctx hn
  injection e with e
  injection e with e1 e2 _
  subst e1 e2
  exact hc k c hk
theorem findI_le (l : List Int) (n : Int) : decide (0 ≤ findI l n) = decide (n ∈ l) := findI_mem l n
set_option maxHeartbeats 4000000 in
set_option maxRecDepth 100000 in
theorem drawBoth_any (g c p : Nat) (A : Option Addr) (z : List Int) (w : World) (h : Rd w g A z c p) (hp : p ≤ 100000) :
    Calls Tryd.prog 25 #[.pointer (some ⟨g, 0, none⟩)] w (DrawBothPost w g c p A z) := by
  obtain ⟨i0, hi0, hz0, hz1, hz2⟩ := info_parts infoRel
  have hlt := h.lt
  go_enter Tryd.func25, Tryd.ntmps25
  go_wp2_with fail
  refine (drawIs_any g c p A z _ h (by omega)).mono ?_
  rintro e w2 ⟨v1, ids, rfl, ho1, hl1, ⟨p2, hp2, hr2⟩, hg2⟩
  have hs2 := hg2.size
  obtain ⟨A1, c1, rfl, _, hrd1⟩ := own_slice ho1
  have hr3 := hr2.step ((Below.refl _ _).alloc (Nat.le_refl _) (.cells #[] 30))
  have ho1a := ho1.alloc (.cells #[] 30)
  have ho3 : (w2.alloc (.cells #[] 30)).ownsRow w.heap.size 30 3 (.slice (some ⟨w2.heap.size, 0, none⟩) 0 0) 0 [] := own_empty hs2 rfl
  have hg3 := grown_alloc hg2 (.cells #[] 30)
  have hne : ∀ b, (Value.slice A1 ids.length c1).ownBlock = some b → (Value.slice (some ⟨w2.heap.size, 0, none⟩) 0 0).ownBlock ≠ some b := fun b hb hb2 => by
    have h1 := (ho1.lt b hb).2
    have h2 : w2.heap.size = b := by injection hb2
    omega
  have K3 := Lib.hid (And.intro ho1a (And.intro ho3 (And.intro hg3 hne)))
  clear ho1 hrd1 hr2 hg2 ho1a ho3 hg3 hne
  go_wp2_with fail
  refine (drawRs_any g c p2 A z _ _ hr3 (by omega) (by omega) (by omega)).mono ?_
  rintro e w4 ⟨v4, l, rfl, ho4, hl4, ⟨p4, hp4, hr4⟩, hg4⟩
  obtain ⟨A4, c4, rfl, _, hrd4⟩ := own_slice ho4
  have hs4 := hg4.size
  have hs24 : w.heap.size ≤ w4.heap.size := by have h := hs4; simp at h; omega
  have hLb : w.heap.size ≤ (w2.alloc (.cells #[] 30)).heap.size := by simp; omega
  have hi4 := own_drawn (w0 := w) K3.out.1 hg4 hlt
  have hv4 := own_drawn (w0 := w) K3.out.2.1 hg4 hlt
  have hne4 := own_far2 K3.out.2.1 ho4 (Nat.le_refl _)
  have K4 := Lib.hid (And.intro hi4 (And.intro hv4 (And.intro (own_less ho4 hLb) (And.intro (K3.out.2.2.1.trans hg4) hne4))))
  clear hg4 ho4 hrd4 hi4 hv4 hne4 hr3 h hs4 hLb
  go_wp2_with fail
  go_loopw [5, 7] (fun v i wr => ∃ (k : Nat) (l2 : List Ctx) (p3 : Nat), k ≤ l.length ∧ i = .int .i64 k ∧ l2.length ≤ k ∧ wr.ownsRow w.heap.size 30 3 v l2.length (cellsC l2) ∧ wr.ownsRow w.heap.size 3 1 (.slice A1 ids.length c1) ids.length (cellsI ids) ∧
    wr.ownsRow w.heap.size 30 3 (.slice A4 l.length c4) l.length (cellsC l) ∧ (∀ b, (Value.slice A1 ids.length c1).ownBlock = some b → v.ownBlock ≠ some b) ∧ (∀ b, (Value.slice A4 l.length c4).ownBlock = some b → v.ownBlock ≠ some b) ∧ p3 ≤ p4 + k ∧ Rd wr g A z c p3 ∧ w.grownBy wr (some g)) (fun _ i _ => l.length - (intOf i).toNat)
  case atStart => exact ⟨0, [], p4, by omega, rfl, by simp, K4.out.2.1, K4.out.1, K4.out.2.2.1, K3.out.2.2.2, K4.out.2.2.2.2, by omega, hr4, K4.out.2.2.2.1⟩
  case round =>
    obtain ⟨k, l2, p3, hk, rfl, hl2, hown, hoi, hol, hn1, hn2, hp3, hrd, hgr⟩ := hrel
    have hsz := hgr.size
    by_cases hkl : k < l.length
    · obtain ⟨b, off, hA4, hbb, hc⟩ := (own_reads hol).ctx (by omega)
      subst hA4
      have hk0 : l[k]? = some l[k] := List.getElem?_eq_getElem hkl
      obtain ⟨c1', c2', c3'⟩ := hc k _ hk0
      have hkli : (k : Int) < (l.length : Int) := by omega
      have HK := Lib.hid hk0
      have HN := Lib.hid (And.intro hn1 hn2)
      have HO := Lib.hid (And.intro hown (And.intro hoi hol))
      have HR := Lib.hid (And.intro hrd hgr)
      have HI := Lib.hid (own_reads hoi)
      have n1 := findI_le ids l[k].id
      have n2 := findI_le ids l[k].kind
      clear hc hk0 hn1 hn2 hown hoi hol hrd hgr K4 hr4
      by_cases h1 : l[k].id ∈ ids
      · have e1 : decide (0 ≤ findI ids l[k].id) = true := by rw [n1]; simp [h1]
        by_cases h2 : l[k].kind ∈ ids
        · have e2 : decide (0 ≤ findI ids l[k].kind) = true := by rw [n2]; simp [h2]
          clear h1 h2 n1 n2
          go_wp2_with (first
            | (go_at_call 44; go_must (refine (sPlace_any _ _ ids _ _ HI.out (by omega)).mono ?_); rintro e w9 ⟨rfl, rfl⟩)
            | (at_builtin
               go_must (refine wpList_append_reads _ rfl (.tmp 42) (.tmp 47) _ rfl w.heap.size 30 i0 _ 3 24 Tryd.underlying24 hi0 hz0 hz1 hz2 rfl (by omega) u5 l2.length _ rfl (HO.out.1.alloc _) (wr.heap.size + 1) _ 1 1 (cellsC [l[k]]) rfl (reads_one (by omega)) (cellsC_one _) (by simp only [maxLen]; omega) (by omega) (by simp; omega) ?_)
               intro v8 w8 hown8 hg8 hat8))
          go_roundw
          case rel =>
            obtain ⟨i1, i2⟩ := app_both HO.out.1 HO.out.2.1 HN.out.1 hg8 hat8
            obtain ⟨j1, j2⟩ := app_both HO.out.1 HO.out.2.2 HN.out.2 hg8 hat8
            refine ⟨k + 1, l2 ++ [l[k]], p3, by omega, by go_num, by simp; omega, ?_, i1, j1, i2, j2, by omega, (HR.out.1.step ((Below.refl _ _).alloc (Nat.le_refl _) _)).grownRow (HO.out.1.alloc _) hlt hg8, grown_row (grown_alloc HR.out.2 _) (HO.out.1.alloc _) (Nat.le_refl _) hg8⟩
            rw [List.length_append, cellsC_append]
            exact hown8
          case measure => simp [intOf]; omega
        · have e2 : decide (0 ≤ findI ids l[k].kind) = false := by rw [n2]; simp [h2]
          clear h1 h2 n1 n2
          go_wp2_with (go_at_call 44; go_must (refine (sPlace_any _ _ ids _ _ HI.out (by omega)).mono ?_); rintro e w9 ⟨rfl, rfl⟩)
          refine (pick_any g c p3 A z _ _ HR.out.1 (by omega) (by omega)).mono ?_
          rintro e w5 ⟨r5, rfl, a5, b5, _, hr5, hg5⟩
          have O5 := Lib.hid (And.intro (own_drawn (w0 := w) HO.out.1 hg5 hlt) (And.intro (own_drawn (w0 := w) HO.out.2.1 hg5 hlt) (And.intro (own_drawn (w0 := w) HO.out.2.2 hg5 hlt) (And.intro hr5 (HR.out.2.trans hg5)))))
          have hs5 := O5.out.2.2.2.2.size
          obtain ⟨d1, d2, d3⟩ := (own_reads O5.out.2.2.1).ctx_at (by omega) HK.out
          clear hr5 hg5
          by_cases c5 : r5 = 0
          · have e5 : (r5 == 0) = true := by simp [c5]
            clear c5
            go_wp2_with (at_builtin
                         go_must (refine wpList_append_reads _ rfl (.tmp 42) (.tmp 47) _ rfl w.heap.size 30 i0 _ 3 24 Tryd.underlying24 hi0 hz0 hz1 hz2 rfl (by omega) u5 l2.length _ rfl (O5.out.1.alloc _) (w5.heap.size + 1) _ 1 1 (cellsC [l[k]]) rfl (reads_one (by omega)) (cellsC_one _) (by simp only [maxLen]; omega) (by omega) (by simp; omega) ?_)
                         intro v8 w8 hown8 hg8 hat8)
            go_roundw
            case rel =>
              obtain ⟨i1, i2⟩ := app_both O5.out.1 O5.out.2.1 HN.out.1 hg8 hat8
              obtain ⟨j1, j2⟩ := app_both O5.out.1 O5.out.2.2.1 HN.out.2 hg8 hat8
              refine ⟨k + 1, l2 ++ [l[k]], p3 + 1, by omega, by go_num, by simp; omega, ?_, i1, j1, i2, j2, by omega, (O5.out.2.2.2.1.step ((Below.refl _ _).alloc (Nat.le_refl _) _)).grownRow (O5.out.1.alloc _) hlt hg8, grown_row (grown_alloc O5.out.2.2.2.2 _) (O5.out.1.alloc _) (Nat.le_refl _) hg8⟩
              rw [List.length_append, cellsC_append]
              exact hown8
            case measure => simp [intOf]; omega
          · have e5 : (r5 == 0) = false := by simp [c5]
            clear c5
            go_wp2_with fail
            go_roundw
            case rel => exact ⟨k + 1, l2, p3 + 1, by omega, by go_num, by omega, O5.out.1, O5.out.2.1, O5.out.2.2.1, HN.out.1, HN.out.2, by omega, O5.out.2.2.2.1, O5.out.2.2.2.2⟩
            case measure => simp [intOf]; omega
      · have e1 : decide (0 ≤ findI ids l[k].id) = false := by rw [n1]; simp [h1]
        clear h1 n1 n2
        go_wp2_with (go_at_call 44; go_must (refine (sPlace_any _ _ ids _ _ HI.out (by omega)).mono ?_); rintro e w9 ⟨rfl, rfl⟩)
        refine (pick_any g c p3 A z _ _ HR.out.1 (by omega) (by omega)).mono ?_
        rintro e w5 ⟨r5, rfl, a5, b5, _, hr5, hg5⟩
        have O5 := Lib.hid (And.intro (own_drawn (w0 := w) HO.out.1 hg5 hlt) (And.intro (own_drawn (w0 := w) HO.out.2.1 hg5 hlt) (And.intro (own_drawn (w0 := w) HO.out.2.2 hg5 hlt) (And.intro hr5 (HR.out.2.trans hg5)))))
        have hs5 := O5.out.2.2.2.2.size
        obtain ⟨d1, d2, d3⟩ := (own_reads O5.out.2.2.1).ctx_at (by omega) HK.out
        clear hr5 hg5
        by_cases c5 : r5 = 0
        · have e5 : (r5 == 0) = true := by simp [c5]
          clear c5
          go_wp2_with (at_builtin
                       go_must (refine wpList_append_reads _ rfl (.tmp 42) (.tmp 47) _ rfl w.heap.size 30 i0 _ 3 24 Tryd.underlying24 hi0 hz0 hz1 hz2 rfl (by omega) u5 l2.length _ rfl (O5.out.1.alloc _) (w5.heap.size + 1) _ 1 1 (cellsC [l[k]]) rfl (reads_one (by omega)) (cellsC_one _) (by simp only [maxLen]; omega) (by omega) (by simp; omega) ?_)
                       intro v8 w8 hown8 hg8 hat8)
          go_roundw
          case rel =>
            obtain ⟨i1, i2⟩ := app_both O5.out.1 O5.out.2.1 HN.out.1 hg8 hat8
            obtain ⟨j1, j2⟩ := app_both O5.out.1 O5.out.2.2.1 HN.out.2 hg8 hat8
            refine ⟨k + 1, l2 ++ [l[k]], p3 + 1, by omega, by go_num, by simp; omega, ?_, i1, j1, i2, j2, by omega, (O5.out.2.2.2.1.step ((Below.refl _ _).alloc (Nat.le_refl _) _)).grownRow (O5.out.1.alloc _) hlt hg8, grown_row (grown_alloc O5.out.2.2.2.2 _) (O5.out.1.alloc _) (Nat.le_refl _) hg8⟩
            rw [List.length_append, cellsC_append]
            exact hown8
          case measure => simp [intOf]; omega
        · have e5 : (r5 == 0) = false := by simp [c5]
          clear c5
          go_wp2_with fail
          go_roundw
          case rel => exact ⟨k + 1, l2, p3 + 1, by omega, by go_num, by omega, O5.out.1, O5.out.2.1, O5.out.2.2.1, HN.out.1, HN.out.2, by omega, O5.out.2.2.2.1, O5.out.2.2.2.2⟩
          case measure => simp [intOf]; omega
    · have HE := Lib.hid (And.intro hown (And.intro hoi (And.intro hrd hgr)))
      clear hown hoi hol hn1 hn2 hrd hgr K4 hr4
      go_wp2_with fail
      go_ret2
      exact ⟨_, _, ids, l2, rfl, HE.out.2.1, HE.out.1, hl1, by omega, ⟨⟨p3, by omega, HE.out.2.2.1⟩, HE.out.2.2.2⟩⟩
end Go.Proofs.YtpkmnigkcefnpaaDoor
