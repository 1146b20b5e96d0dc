/- What the model's groups of contexts are. -/
import Derived.Test.YtmcnjmflmpfjlaaS2
namespace Go.Proofs.Ytmcnjmflmpfjlaa
open Go.RowKit

theorem region_still_tail2 {P : Program} {id : Nat} {Q : Exit → Act → World → Prop} {a : Act} {w : World} {l : List Oper} (n : Nat) (hm : P.follows .mixedOrders = true) (hB : Region.lexTailB .any l.toArray n = true)
    (h : ∀ W : World, (∀ p, W.cell? p = w.cell? p) → W.heap.size = w.heap.size → Below w.heap.size w W → wpStill P l.toArray W (fun a' => wpList P l.toArray Q (l.drop n) a' W) (l.take n) a) : (Code.region id l.toArray true).wp P Q a w :=
  wp_region_still_tail n hm hB (h (w.drewN 1) (fun _ => rfl) rfl (below_draws (Below.refl _ _) 1))
theorem sPlace_to (A : Option Addr) (cap : Nat) (l : List Int) (n : Int) (p : Nat) (w : World) (hr : Reads w w.heap.size 1 A l.length (cellsI l)) (hl : l.length ≤ 1000000000000) (hp : findI l n = (p : Int)) :
    Calls Try.prog 79 #[.slice A l.length cap, .int .i64 n] w fun e w2 => e = .returned (.int .i64 (p : Int)) ∧ w2 = w :=
  (sPlace_any A cap l n w hr hl).mono fun _ _ ⟨h1, h2⟩ => ⟨by rw [h1, hp], h2.symm⟩
theorem stepG_eq {ids g : List Int} {r : Ctx} {a b : Int} {p q : Nat} (h : r.area = 2) (hp : placeI ids r.id = p) (hq : placeI ids r.kind = q) (ha : g[p]? = some a) (hb : g[q]? = some b) : stepG ids g r = joinG g a b := by
  unfold stepG labG
  rw [if_pos h, hp, hq, ha, hb]
  rfl
set_option maxHeartbeats 1600000 in
set_option maxRecDepth 100000 in
theorem sGroups_any (A B : Option Addr) (ca cb : Nat) (ids : List Int) (l : List Ctx) (w : World) (ha : Reads w w.heap.size 1 A ids.length (cellsI ids)) (hb : Reads w w.heap.size 3 B l.length (cellsC l)) (hok : okG ids l = true) :
    Calls Try.prog 99 #[.slice A ids.length ca, .slice B l.length cb] w (IntsS w (groupsG ids l)) := by
  obtain ⟨i0, hi0, hz0, hz1, hz2⟩ := info_parts sInfoInt
  obtain ⟨hv, hvr, hin⟩ := okG_parts hok
  have hn : ids.length ≤ 12 := validO_len hv
  have hl : l.length ≤ 30 := validO_len hvr
  have HV := Lib.hid (And.intro hv hin)
  clear hv hvr hin hok
  have ho1 : (w.alloc (.cells #[] 3)).ownsRow w.heap.size 3 1 (.slice (some ⟨w.heap.size, 0, none⟩) 0 0) 0 [] := own_empty (Nat.le_refl _) rfl
  have hb1 : Below w.heap.size w (w.alloc (.cells #[] 3)) := (Below.refl _ _).alloc (Nat.le_refl _) _
  have hs1 := hb1.size
  have ha1 := ha.step hb1
  go_enter Try.func99, Try.ntmps99
  go_wp2_with (at_builtin
               go_must (refine wpList_append_reads _ rfl (.tmp 7) (.tmp 8) _ rfl w.heap.size 3 i0 _ 1 8 Try.underlying23 hi0 hz0 hz1 hz2 rfl (by omega) _ 0 _ rfl ho1 (w.alloc (.cells #[] 3)).heap.size _ ids.length ca (cellsI ids) rfl ha1 (cellsI_one _) (by simp only [maxLen]; omega) (by omega) (by simp) ?_)
               intro v2 w2 hown2 hg2 hat2
               have hb2 := app_below0 ho1 (Nat.le_refl _) hs1 hg2)
  have hb3 := hb1.trans hb2
  have hown3 : w2.ownsRow w.heap.size 3 1 v2 ids.length (cellsI (groupsG ids (l.take 0))) := by simpa [groupsG] using hown2
  clear hown2 hg2 hat2 hb2 hb1 ho1 hs1 ha1
  go_loopw [5, 6] (fun v i wr => ∃ k : Nat, k ≤ l.length ∧ i = .int .i64 k ∧ Below w.heap.size w wr ∧ wr.ownsRow w.heap.size 3 1 v ids.length (cellsI (groupsG ids (l.take k)))) (fun _ i _ => l.length - (intOf i).toNat)
  case atStart => exact ⟨0, Nat.zero_le _, rfl, hb3, hown3⟩
  case round =>
    obtain ⟨k, hk, rfl, hbl, hown⟩ := hrel
    clear hb3 hown3
    have hsz := hbl.size
    obtain ⟨G, hG⟩ : ∃ G, G = groupsG ids (l.take k) := ⟨_, rfl⟩
    rw [← hG] at hown
    obtain ⟨A2, c2, rfl, hc2, hr2⟩ := own_slice hown
    have hGl : G.length = ids.length := by rw [hG, groupsG_len]
    have HG := Lib.hid hG
    clear hG
    by_cases hlt : k < l.length
    · obtain ⟨b, off, hB, hbb, hc⟩ := (hb.below hbl).ctx (by omega)
      subst hB
      have hk0 : l[k]? = some l[k] := List.getElem?_eq_getElem hlt
      obtain ⟨c1, c2', c3⟩ := hc k _ hk0
      have hkl : (k : Int) < (l.length : Int) := by omega
      by_cases h2 : l[k].area = 2
      · have e2 : (l[k].area == 2) = true := by simp [h2]
        obtain ⟨hm1, hm2⟩ := HV.out.2 l[k] (List.getElem_mem hlt)
        obtain ⟨hp1, hp2, _⟩ := placeI_at hm1
        obtain ⟨hq1, hq2, _⟩ := placeI_at hm2
        obtain ⟨p, hp⟩ : ∃ p, placeI ids l[k].id = p := ⟨_, rfl⟩
        obtain ⟨q, hq⟩ : ∃ q, placeI ids l[k].kind = q := ⟨_, rfl⟩
        rw [hp] at hp1 hp2
        rw [hq] at hq1 hq2
        obtain ⟨x, hx⟩ : ∃ x, G[p]? = some x := ⟨_, List.getElem?_eq_getElem (by omega)⟩
        obtain ⟨y, hy⟩ : ∃ y, G[q]? = some y := ⟨_, List.getElem?_eq_getElem (by omega)⟩
        have HT : Hid (groupsG ids (l.take (k + 1)) = joinG G x y) := by
          show groupsG ids (l.take (k + 1)) = joinG G x y
          rw [groupsG_next hlt, ← HG.out]
          exact stepG_eq h2 hp hq hx hy
        obtain ⟨b3, off3, hA2, hbb3, hc3⟩ := hr2.ints (by omega)
        have g1 := hc3 p _ hx
        have g2 := hc3 q _ hy
        subst hA2
        have hpn : (p : Int) < (ids.length : Int) := by omega
        have hqn : (q : Int) < (ids.length : Int) := by omega
        have haw := ha.step hbl
        have hrw : Reads wr wr.heap.size 1 (some ⟨b3, off3, none⟩) G.length (cellsI G) := by rw [hGl]; exact hr2
        have HX := Lib.hid (And.intro hbl (And.intro hown (And.intro haw hrw)))
        have HN := Lib.hid hGl
        have hGb : G.length ≤ 1000 := by omega
        clear hc3 hx hy hp hq hm1 hm2 h2 hc hk0 hbl hown hr2 haw ha hb hrw hGl
        go_wp2_with fail
        refine region_still_tail2 21 (by kernel_rfl) (by kernel_rfl) ?_
        intro W hW hz hbw
        simp only [List.take_succ_cons, List.take_zero, List.drop_succ_cons, List.drop_zero]
        have haW := HX.out.2.2.1.step hbw
        repeat (first | still_step | still_call (sPlace_to A ca ids _ p _ haW (by omega) hp1) | still_call (sPlace_to A ca ids _ q _ haW (by omega) hq1))
        refine wpStill_nil ?_
        have hrW := HX.out.2.2.2.step hbw
        have hj := sJoin_any (some ⟨b3, off3, none⟩) c2 G x y W hrW (by omega)
        rw [HN.out] at hj
        have hbW := below_step HX.out.1 hbw
        have HW := Lib.hid (And.intro hbW hj)
        clear hW hbw hbW hrW haW g1 g2 hj
        go_wp2_with (go_at_call 111
                     go_must (refine HW.out.2.mono ?_)
                     rintro e w4 ⟨v4, rfl, hb4, ho4⟩)
        go_roundw
        case rel =>
          refine ⟨k + 1, by omega, by go_num, below_step HW.out.1 hb4, ?_⟩
          rw [HT.out]
          rw [joinG_len, HN.out] at ho4
          exact own_less ho4 HW.out.1.size
        case measure => simp [intOf]; omega
      · have e2 : (l[k].area == 2) = false := by simp [h2]
        have HT : Hid (groupsG ids (l.take (k + 1)) = G) := by
          show groupsG ids (l.take (k + 1)) = G
          rw [groupsG_next hlt, stepG, if_neg h2, HG.out]
        clear hr2 h2
        go_wp2_with fail
        go_roundw
        case rel => exact ⟨k + 1, by omega, by go_num, hbl, by rw [HT.out]; exact hown⟩
        case measure => simp [intOf]; omega
    · have hkl : k = l.length := by omega
      have HK := Lib.hid (And.intro hkl (And.intro hbl hown))
      clear hkl hbl hown hr2
      go_wp2_with fail
      go_ret
      obtain ⟨hkl, hbl, hown⟩ := HK.out
      have h := HG.out
      rw [hkl, List.take_length] at h
      refine ⟨_, rfl, hbl, ?_⟩
      rw [← h, hGl]
      exact hown
end Go.Proofs.Ytmcnjmflmpfjlaa
