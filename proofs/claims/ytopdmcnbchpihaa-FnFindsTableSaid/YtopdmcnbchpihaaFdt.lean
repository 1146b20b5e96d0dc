/- The laws' draw of contexts and of finds for a table. -/
import Derived.Test.YtopdmcnbchpihaaFda
import Derived.Test.YtopdmcnbchpihaaDz
import Derived.Test.YtopdmcnbchpihaaSs
namespace Go.Proofs.Ytopdmcnbchpihaa
open Go.RowKit

def DrewT (w : World) (v1 v2 : Value) (ids : List Int) (L : List Ctx) (w2 : World) : Prop :=
  w2.ownsRow w.heap.size 3 1 v1 ids.length (cellsI ids) ∧ w2.ownsRow w.heap.size 31 3 v2 L.length (cellsC L) ∧ ids.length ≤ 13 ∧ L.length ≤ 21 ∧ Below w.heap.size w w2
set_option maxHeartbeats 4000000 in
set_option maxRecDepth 100000 in
theorem dTableFd_any (A : Option Addr) (c : Nat) (z : List Int) (w : World) (h : Bytes w A c z) :
    Calls Try.prog 22 #[.slice A z.length c] w fun e w2 => ∃ v1 v2 ids L, e = .returned (.tuple #[v1, v2]) ∧ DrewT w v1 v2 ids L w2 := by
  obtain ⟨i0, hi0, hz0, hz1, hz2⟩ := info_parts infoFindD
  go_enter Try.func22, Try.ntmps22
  go_wp2_with fail
  refine (open_any A c z _ h.reads h.byte h.cap h.room).mono ?_
  rintro e w2 ⟨g, c2, A2, z2, rfl, hg, hb2, hr2⟩
  have hlt := hr2.lt
  go_wp2_with fail
  refine (drawIs_any g c2 0 A2 z2 _ hr2 (by omega)).mono ?_
  rintro e w3 ⟨v3, ids, rfl, ho3, hl3, ⟨p3, hp3, hr3⟩, hg3⟩
  obtain ⟨A5, c5, hv5, _, _⟩ := Reads.of_own ho3
  subst hv5
  have hs3 := hg3.size
  have hIl := Lib.hid (fun q hq => (ho3.lt q hq).2)
  have bA := (Below.refl w3.heap.size w3).alloc (Nat.le_refl _) (.cells #[] 31)
  have hoA : (w3.alloc (.cells #[] 31)).ownsRow w3.heap.size 31 3 (.slice (some ⟨w3.heap.size, 0, none⟩) 0 0) 0 [] := own_empty (Nat.le_refl _) rfl
  have K3 := Lib.hid (And.intro (own_below ho3 bA) (And.intro (hr3.step bA) (And.intro (grown_alloc hg3 (.cells #[] 31)) hoA)))
  clear ho3 hr3 hg3 bA hoA
  go_wp2_with fail
  refine (drawFs_any g c2 p3 A2 z2 _ K3.out.2.1 (by omega)).mono ?_
  rintro e w4 ⟨v4, l, rfl, ho4, hl4, ⟨p4, hp4, hr4⟩, hg4⟩
  obtain ⟨A6, c6, hv6, _, _⟩ := Reads.of_own ho4
  subst hv6
  have hltA : g < w3.heap.size := by omega
  have K4 := Lib.hid (And.intro (own_drawn K3.out.1 hg4 hlt) (And.intro (own_drawn K3.out.2.2.2 hg4 hltA) (And.intro (own_less (base2 := w3.heap.size) ho4 (by simp)) (And.intro hr4 (K3.out.2.2.1.trans hg4)))))
  have hfar : Hid (∀ q, (Value.slice A6 l.length c6).ownBlock = some q → (Value.slice (some ⟨w3.heap.size, 0, none⟩) 0 0).ownBlock ≠ some q) := fun q h1 h2 => by
    have h3 := (ho4.lt q h1).1
    have h4 : w3.heap.size = q := by injection h2
    simp at h3
    omega
  clear ho4 hr4 hg4
  go_wp2_with fail
  go_loopw [6, 8] (fun v i wr => ∃ (k : Nat) (L : List Ctx) (p5 : Nat), k ≤ l.length ∧ i = .int .i64 k ∧ L.length ≤ k ∧ wr.ownsRow w2.heap.size 3 1 (.slice A5 ids.length c5) ids.length (cellsI ids) ∧ wr.ownsRow w3.heap.size 31 3 v L.length (cellsC L) ∧ wr.ownsRow w3.heap.size 31 3 (.slice A6 l.length c6) l.length (cellsC l) ∧
    (∀ q, (Value.slice A6 l.length c6).ownBlock = some q → v.ownBlock ≠ some q) ∧ p5 ≤ 100 + k ∧ Rd wr g A2 z2 c2 p5 ∧ w2.grownBy wr (some g)) (fun _ i _ => l.length - (intOf i).toNat)
  case atStart => exact ⟨0, [], p4, Nat.zero_le _, rfl, Nat.le_refl _, K4.out.1, K4.out.2.1, K4.out.2.2.1, hfar.out, by omega, K4.out.2.2.2.1, K4.out.2.2.2.2⟩
  case round =>
    obtain ⟨k, L, p5, hk, rfl, hLk, hoI, hov, hol, hap, hp5, hrd, hgr⟩ := hrel
    clear K3 K4 hfar
    by_cases hkn : k < l.length
    · have hki : (k : Int) < (l.length : Int) := by omega
      obtain ⟨f, hf⟩ : ∃ f, l[k]? = some f := ⟨_, List.getElem?_eq_getElem hkn⟩
      obtain ⟨gl, cl, hvl, hgl1, hgl2⟩ := hol.form (by omega)
      injection hvl with e1 e2 e3
      subst e1 e3
      clear e2
      obtain ⟨d0, d1, d2, _⟩ := own_cells hol hf
      have hP := sPlace_any A5 c5 ids f.id wr (own_reads hoI) (by omega)
      have hs3r : w3.heap.size ≤ wr.heap.size := by omega
      have KR := Lib.hid (And.intro hoI (And.intro hov (And.intro hol (And.intro hap (And.intro hrd (And.intro hgr hf))))))
      obtain ⟨Av, cv, hvv, _, _⟩ := Reads.of_own hov
      subst hvv
      have app : ∀ (W : World) (q : Nat), w2.grownBy W (some g) → Rd W g A2 z2 c2 q → w3.heap.size ≤ W.heap.size → W.ownsRow w2.heap.size 3 1 (.slice A5 ids.length c5) ids.length (cellsI ids) → W.ownsRow w3.heap.size 31 3 (.slice Av L.length cv) L.length (cellsC L) → W.ownsRow w3.heap.size 31 3 (.slice (some ⟨gl, 0, none⟩) l.length c6) l.length (cellsC l) → q ≤ 101 + k →
          ∀ (o : Obj) (v8 : Value) (w8 : World), w8.ownsRow w3.heap.size 31 3 v8 (L.length + 1) (cellsC L ++ cellsC [f]) → (W.alloc o).grownBy w8 (Value.slice Av L.length cv).ownBlock → (v8.ownBlock = (Value.slice Av L.length cv).ownBlock ∨ v8.ownBlock = some (W.alloc o).heap.size) →
          ∃ (k2 : Nat) (L2 : List Ctx) (p5 : Nat), k2 ≤ l.length ∧ Value.int .i64 ((k : Int) + 1) = .int .i64 k2 ∧ L2.length ≤ k2 ∧ w8.ownsRow w2.heap.size 3 1 (.slice A5 ids.length c5) ids.length (cellsI ids) ∧ w8.ownsRow w3.heap.size 31 3 v8 L2.length (cellsC L2) ∧ w8.ownsRow w3.heap.size 31 3 (.slice (some ⟨gl, 0, none⟩) l.length c6) l.length (cellsC l) ∧
            (∀ q, (Value.slice (some ⟨gl, 0, none⟩) l.length c6).ownBlock = some q → v8.ownBlock ≠ some q) ∧ p5 ≤ 100 + k2 ∧ Rd w8 g A2 z2 c2 p5 ∧ w2.grownBy w8 (some g) := fun W q h1 h2 h0 h3 h4 h5 h6 o v8 w8 hown8 hg8 hat8 => by
        have hlt3 : g < w3.heap.size := hltA
        refine ⟨k + 1, L ++ [f], q, by omega, by go_num, by simp; omega, ?_, ?_, own_other (h5.alloc o) (h4.alloc o) hap hg8, fun q1 hq1 hq2 => ?_, by omega, (h2.step ((Below.refl _ _).alloc (Nat.le_refl _) o)).grownRow (h4.alloc o) hlt3 hg8, grown_row (grown_alloc h1 o) (h4.alloc o) hs3 hg8⟩
        · exact own_other (h3.alloc o) (h4.alloc o) (fun q h1 h2 => by have := hIl.out q h1; have := (h4.lt q h2).1; omega) hg8
        · rw [List.length_append, cellsC_append]
          exact hown8
        · rcases hat8 with h | h
          · exact hap q1 hq1 (h ▸ hq2)
          · rw [h] at hq2
            injection hq2 with hq2
            have := (h5.lt q1 hq1).2
            simp at hq2
            omega
      have HA := Lib.hid app
      clear app hoI hov hol hap hrd hgr hf
      by_cases hin : f.id ∈ ids
      · obtain ⟨p1, _, _⟩ := placeI_at hin
        rw [p1] at hP
        obtain ⟨q, hq⟩ : ∃ q, q = placeI ids f.id := ⟨_, rfl⟩
        rw [← hq] at hP
        have HP := Lib.hid hP
        have e0 : decide ((0 : Int) ≤ (q : Int)) = true := decide_eq_true (by omega)
        clear hP p1 hq hin
        go_wp2_with (first
          | (go_at_call 70; go_must (refine HP.out.mono ?_); rintro e w7 ⟨rfl, rfl⟩)
          | (at_builtin
             go_must (refine wpList_append_reads _ rfl (.tmp 35) (.tmp 40) _ rfl w3.heap.size 31 i0 _ 3 24 Try.underlying23 hi0 hz0 hz1 hz2 rfl (by omega) (.slice Av L.length cv) L.length _ rfl (KR.out.2.1.alloc _) (wr.heap.size + 1) _ 1 1 (cellsC [f]) rfl (reads_one (c := f) (by omega)) (cellsC_one _) (by simp only [maxLen]; omega) (by omega) (by simp; omega) ?_)
             intro v8 w8 hown8 hg8 hat8))
        go_roundw
        case rel => exact HA.out wr p5 KR.out.2.2.2.2.2.1 KR.out.2.2.2.2.1 hs3r KR.out.1 KR.out.2.1 KR.out.2.2.1 (by omega) _ v8 w8 hown8 hg8 hat8
        case measure => simp [intOf]; omega
      · have hf1 : findI ids f.id = -1 := by
          rcases findI_spec ids f.id with h | ⟨_, _, _, _, h⟩
          · exact h.1
          · exact absurd h hin
        rw [hf1] at hP
        have HP := Lib.hid hP
        clear hP hf1 hin
        go_wp2_with (go_at_call 70; go_must (refine HP.out.mono ?_); rintro e w7 ⟨rfl, rfl⟩)
        refine (pick_any g c2 p5 A2 z2 _ _ KR.out.2.2.2.2.1 (by omega) (by omega)).mono ?_
        rintro e w8 ⟨r8, rfl, a8, b8, _, hr8, hg8⟩
        have hs8 := hg8.size
        have K8 := Lib.hid (And.intro (own_drawn KR.out.1 hg8 hlt) (And.intro (own_drawn KR.out.2.1 hg8 hltA) (And.intro (own_drawn KR.out.2.2.1 hg8 hltA) (And.intro hr8 (KR.out.2.2.2.2.2.1.trans hg8)))))
        have d0 := (own_cells K8.out.2.2.1 KR.out.2.2.2.2.2.2).1
        have d1 := (own_cells K8.out.2.2.1 KR.out.2.2.2.2.2.2).2.1
        have d2 := (own_cells K8.out.2.2.1 KR.out.2.2.2.2.2.2).2.2.1
        clear hr8 hg8 b8
        by_cases h8 : r8 = 0
        · have e8 : (r8 == 0) = true := by simp [h8]
          clear h8
          go_wp2_with (at_builtin
                       go_must (refine wpList_append_reads _ rfl (.tmp 35) (.tmp 40) _ rfl w3.heap.size 31 i0 _ 3 24 Try.underlying23 hi0 hz0 hz1 hz2 rfl (by omega) (.slice Av L.length cv) L.length _ rfl (K8.out.2.1.alloc _) (w8.heap.size + 1) _ 1 1 (cellsC [f]) rfl (reads_one (c := f) (by omega)) (cellsC_one _) (by simp only [maxLen]; omega) (by omega) (by simp; omega) ?_)
                       intro v8 w9 hown8 hg9 hat8)
          go_roundw
          case rel => exact HA.out w8 (p5 + 1) K8.out.2.2.2.2 K8.out.2.2.2.1 (by omega) K8.out.1 K8.out.2.1 K8.out.2.2.1 (by omega) _ v8 w9 hown8 hg9 hat8
          case measure => simp [intOf]; omega
        · have e8 : (r8 == 0) = false := by simp [h8]
          clear h8
          go_wp2_with fail
          go_roundw
          case rel => exact ⟨k + 1, L, p5 + 1, by omega, by go_num, by omega, K8.out.1, K8.out.2.1, K8.out.2.2.1, KR.out.2.2.2.1, by omega, K8.out.2.2.2.1, K8.out.2.2.2.2⟩
          case measure => simp [intOf]; omega
    · have KR := Lib.hid (And.intro hoI (And.intro hov hgr))
      clear hoI hov hol hap hrd hgr
      go_wp2_with fail
      go_ret2
      exact ⟨_, _, ids, L, rfl, own_less KR.out.1 hb2.size, own_less KR.out.2.1 (Nat.le_trans hb2.size hs3), hl3, by omega, grown_below KR.out.2.2 hb2 hg⟩
end Go.Proofs.Ytopdmcnbchpihaa
