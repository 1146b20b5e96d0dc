/- Which bounds the program blames. -/
import Derived.Test.YtfeodclacjolaaaIh
import Derived.Test.YtfeodclacjolaaaKk
namespace Go.Proofs.Ytfeodclacjolaaa
open Go.RowKit

section
variable {ids : List Int} {l B : List Ctx}
theorem args_two {a b : Ctx} (h : argsD ids l B = true) (ha : a ∈ B) (hb : b ∈ B) : argsD ids l [a, b] = true := by
  obtain ⟨a1, a2, a3⟩ := argsD_parts h
  simp only [argsD, Bool.and_eq_true, List.all_eq_true, decide_eq_true_eq]
  refine ⟨a1, validB_mk (fun c hc => ?_) (by simp), fun c hc => ?_⟩
  · simp at hc
    rcases hc with rfl | rfl
    · exact (validB_ok a2).1 _ ha
    · exact (validB_ok a2).1 _ hb
  · simp at hc
    rcases hc with rfl | rfl
    · exact a3 _ ha
    · exact a3 _ hb
theorem two_ok {i k : Nat} {a b : Ctx} (h : argsD ids l B = true) (ha : B[i]? = some a) (hb : B[k]? = some b) : okD ids l [a, b] = !clashP ids l B i k := by
  have h2 := args_two h (List.mem_of_getElem? ha) (List.mem_of_getElem? hb)
  have hself : ∀ c, c ∈ B → clashD ids l c c = false := fun c hc => by
    have := (okB_parts ((validB_ok (argsD_parts h).2.1).1 c hc)).2.2.1
    simp only [clashD, Bool.and_eq_false_iff, decide_eq_false_iff_not]
    right
    omega
  rw [clashP_at ha hb]
  cases hok : okD ids l [a, b]
  · obtain ⟨x, y, hx, hy, hc⟩ := (okD_clash h2).1 hok
    simp at hx hy
    rcases hx with rfl | rfl <;> rcases hy with rfl | rfl
    · rw [hself _ (List.mem_of_getElem? ha)] at hc; cases hc
    · simp [hc]
    · simp [hc]
    · rw [hself _ (List.mem_of_getElem? hb)] at hc; cases hc
  · have hn : ¬ ∃ x y, x ∈ [a, b] ∧ y ∈ [a, b] ∧ clashD ids l x y = true := fun he => by
      rw [(okD_clash h2).2 he] at hok
      cases hok
    cases h3 : clashD ids l a b
    · cases h4 : clashD ids l b a
      · rfl
      · exact absurd ⟨b, a, by simp, by simp, h4⟩ hn
    · exact absurd ⟨a, b, by simp, by simp, h3⟩ hn
end
theorem reads_two {w : World} {a b : Ctx} {t : TypeId} {n : Nat} (hB : w.heap.size < n) : Reads (w.alloc (.cells #[.int .i64 a.id, .int .i64 a.kind, .int .i64 a.area, .int .i64 b.id, .int .i64 b.kind, .int .i64 b.area] t)) n 3 (some ⟨w.heap.size, 0, none⟩) [a, b].length (cellsC [a, b]) := by
  refine ⟨rfl, fun _ => ⟨_, 0, rfl, hB, fun j u hu => ?_⟩⟩
  rw [cell_of_row _ _ _ _ _ _ (heap_alloc_new _ _)]
  simpa [cellsC, cells3] using hu
set_option maxHeartbeats 8000000 in
set_option maxRecDepth 100000 in
theorem iBlame_any (A B C : Option Addr) (ca cb cc : Nat) (ids : List Int) (l bs : List Ctx) (w : World) (ha : Reads w w.heap.size 1 A ids.length (cellsI ids)) (hb : Reads w w.heap.size 3 B l.length (cellsC l)) (hc : Reads w w.heap.size 3 C bs.length (cellsC bs))
    (hn : ids.length ≤ 1000000000) (hl : l.length ≤ 1000000000) (hm : bs.length ≤ 1000000000) :
    Calls Try.prog 38 #[.slice A ids.length ca, .slice B l.length cb, .slice C bs.length cc] w (BlameS ids l bs w) := by
  cases hA : argsD ids l bs
  · have hO := Lib.hid (qOrd_no (ca := ca) (cb := cb) (cc := cc) hA ha hb hc hn hl hm)
    have HA := Lib.hid hA
    clear hA ha hb hc
    go_enter Try.func38, Try.ntmps38
    go_wp2_with (go_at_call 59; go_must (refine hO.out.mono ?_); rintro e w2 ⟨rfl, b2⟩)
    go_ret
    exact ⟨_, [], rfl, blamed_none (.inl HA.out), b2.alloc b2.size _, World.ownsRow_nil _ _ _ _⟩
  · have hO := Lib.hid (qOrd_yes (ca := ca) (cb := cb) (cc := cc) hA ha hb hc hn hl hm)
    have hn12 : ids.length ≤ 12 := validO_len (okG_parts (ordOk_okG (argsD_parts hA).1)).1
    have hb12 := (validB_ok (argsD_parts hA).2.1).2
    have HR := Lib.hid (And.intro ha (And.intro hc hA))
    clear hA ha hb hc
    go_enter Try.func38, Try.ntmps38
    go_wp2_with (go_at_call 59; go_must (refine hO.out.mono ?_); rintro e w2 ⟨b2, A2, c2, A3, c3, rfl, rg, rf⟩)
    obtain ⟨W2, hW2⟩ : ∃ W2, W2 = w2.alloc (.cells #[.slice A ids.length ca, .slice A2 ids.length c2, .slice A3 ids.length c3] 78) := ⟨_, rfl⟩
    have bA : Below w2.heap.size w2 W2 := by rw [hW2]; exact (Below.refl w2.heap.size w2).alloc (Nat.le_refl _) _
    have hs2 : w2.heap.size < W2.heap.size := by rw [hW2]; simp
    have hz : W2.heap[w2.heap.size]? = some (.cells #[.slice A ids.length ca, .slice A2 ids.length c2, .slice A3 ids.length c3] 78 (0, 0)) := by rw [hW2]; exact heap_alloc_new _ _
    have hb2 := below_step b2 bA
    have hSp : ∀ (W : World) (C2 : Option Addr) (c4 : Nat) (P : List Ctx), Below W2.heap.size W2 W → Reads W W.heap.size 3 C2 P.length (cellsC P) → argsD ids l P = true → Calls Try.prog 67 #[.agg #[.slice A ids.length ca, .slice A2 ids.length c2, .slice A3 ids.length c3], .slice C2 P.length c4] W (PairSp W (datesD ids l P) (okD ids l P)) := fun W C2 c4 P hW hr hp =>
      dSpans_any A A2 A3 C2 ca c2 c3 c4 ids l P W (HR.out.1.step (below_step hb2 hW)) ((rg.step bA).step hW) ((rf.step bA).step hW) hr hp
    have HC := Lib.hid (And.intro hSp (And.intro hz hb2))
    rw [← hW2]
    clear hSp hz hb2 hW2 bA rg rf b2
    go_loopw [25] (fun i wr => ∃ k : Nat, k ≤ bs.length ∧ i = .int .i64 k ∧ Below W2.heap.size W2 wr ∧ ∀ i' k', i' < k → i' < k' → k' < bs.length → clashP ids l bs i' k' = false) (fun i _ => bs.length - (intOf i).toNat)
    case atStart => exact ⟨0, Nat.zero_le _, rfl, Below.refl _ _, fun i' k' h => absurd h (by omega)⟩
    case round =>
      obtain ⟨k, hk, rfl, hbl, hg⟩ := hrel
      obtain ⟨wA, rfl⟩ : ∃ wA, wA = wr := ⟨wr, rfl⟩
      have hsz := hbl.size
      by_cases hlt : k < bs.length
      · have hki : (k : Int) < (bs.length : Int) := by omega
        have kA := below_step HC.out.2.2 hbl
        obtain ⟨bC, oC, hC, hbC, hcc⟩ := (HR.out.2.1.step kA).ctx (by omega)
        subst hC
        obtain ⟨⟨xa, xb, xc⟩, hx⟩ : ∃ r, bs[k]? = some r := ⟨_, List.getElem?_eq_getElem hlt⟩
        obtain ⟨d1, d2, d3⟩ := hcc k _ hx
        dsimp only at d1 d2 d3
        have HX := Lib.hid (And.intro hbl (And.intro hg (And.intro hx (And.intro kA hcc))))
        clear hbl hg hx kA hcc
        go_wp2_with fail
        obtain ⟨W3, hW3⟩ : ∃ W3, W3 = wA.alloc (.cells #[.int .i64 xa, .int .i64 xb, .int .i64 xc] 52) := ⟨_, rfl⟩
        have b3 : Below wA.heap.size wA W3 := by rw [hW3]; exact (Below.refl _ _).alloc (Nat.le_refl _) _
        have hs3 : wA.heap.size < W3.heap.size := by rw [hW3]; simp
        have hz3 : W3.heap[wA.heap.size]? = some (.cells #[.int .i64 xa, .int .i64 xb, .int .i64 xc] 52 (0, 0)) := by rw [hW3]; exact heap_alloc_new _ _
        have H3 := Lib.hid (And.intro b3 (And.intro hz3 (below_step HX.out.1 b3)))
        rw [← hW3]
        clear hW3 b3 hz3 d1 d2 d3
        go_loopw [11] (fun i wr => ∃ j : Nat, k < j ∧ j ≤ bs.length ∧ i = .int .i64 j ∧ Below W3.heap.size W3 wr ∧ ∀ k', k < k' → k' < j → clashP ids l bs k k' = false) (fun i _ => bs.length - (intOf i).toNat)
        case atStart => exact ⟨k + 1, by omega, by omega, by go_num, Below.refl _ _, fun k' h1 h2 => absurd h1 (by omega)⟩
        case round =>
          obtain ⟨j, hkj, hj, rfl, hbj, hgj⟩ := hrel
          by_cases hjn : j < bs.length
          · have hji : (j : Int) < (bs.length : Int) := by omega
            obtain ⟨⟨ya, yb, yc⟩, hy⟩ : ∃ r, bs[j]? = some r := ⟨_, List.getElem?_eq_getElem hjn⟩
            have hb23 := below_step H3.out.2.2 hbj
            have hbA3 := below_step H3.out.1 hbj
            obtain ⟨f1, f2, f3⟩ := HX.out.2.2.2.2 j _ hy
            dsimp only at f1 f2 f3
            have hs9 : W3.heap.size ≤ wr.heap.size := hbj.size
            have hzr := (hb23.block _ hs2).trans HC.out.2.1
            have hzb := (hbj.block _ hs3).trans H3.out.2.1
            have hS : wr.cell? ⟨w2.heap.size, 0, none⟩ = some (.slice A ids.length ca) ∧ wr.cell? ⟨w2.heap.size, 1, none⟩ = some (.slice A2 ids.length c2) ∧ wr.cell? ⟨w2.heap.size, 2, none⟩ = some (.slice A3 ids.length c3) ∧
                wr.cell? ⟨wA.heap.size, 0, none⟩ = some (.int .i64 xa) ∧ wr.cell? ⟨wA.heap.size, 1, none⟩ = some (.int .i64 xb) ∧ wr.cell? ⟨wA.heap.size, 2, none⟩ = some (.int .i64 xc) ∧
                wr.cell? ⟨bC, oC + j * 3, none⟩ = some (.int .i64 ya) ∧ wr.cell? ⟨bC, oC + j * 3 + 1, none⟩ = some (.int .i64 yb) ∧ wr.cell? ⟨bC, oC + j * 3 + 2, none⟩ = some (.int .i64 yc) :=
              ⟨cell_of_row _ _ 0 _ _ _ hzr, cell_of_row _ _ 1 _ _ _ hzr, cell_of_row _ _ 2 _ _ _ hzr, cell_of_row _ _ 0 _ _ _ hzb, cell_of_row _ _ 1 _ _ _ hzb, cell_of_row _ _ 2 _ _ _ hzb,
                (below_cell hbA3 _ _ hbC).trans f1, (below_cell hbA3 _ _ hbC).trans f2, (below_cell hbA3 _ _ hbC).trans f3⟩
            obtain ⟨W4, hW4⟩ : ∃ W4, W4 = (wr.alloc (.cells #[.int .i64 xa, .int .i64 xb, .int .i64 xc, .int .i64 ya, .int .i64 yb, .int .i64 yc] 52)).drew := ⟨_, rfl⟩
            have b4 : Below wr.heap.size wr W4 := by rw [hW4]; exact ((Below.refl _ _).alloc (Nat.le_refl _) _).drew
            have hr4 : Reads W4 W4.heap.size 3 (some ⟨wr.heap.size, 0, none⟩) [(⟨xa, xb, xc⟩ : Ctx), ⟨ya, yb, yc⟩].length (cellsC [⟨xa, xb, xc⟩, ⟨ya, yb, yc⟩]) := by
              rw [hW4]
              exact (reads_two (w := wr) (a := ⟨xa, xb, xc⟩) (b := ⟨ya, yb, yc⟩) (n := (wr.alloc (.cells #[.int .i64 xa, .int .i64 xb, .int .i64 xc, .int .i64 ya, .int .i64 yb, .int .i64 yc] 52)).heap.size) (by simp)).below ((Below.refl _ _).drew)
            have hlt4 : ∀ b o, b < wr.heap.size → W4.cell? ⟨b, o, none⟩ = wr.cell? ⟨b, o, none⟩ := fun b o hb => below_cell b4 b o hb
            have q1 : w2.heap.size < wr.heap.size := by have := hb23.size; omega
            have q2 : wA.heap.size < wr.heap.size := by omega
            have q3 : bC < wr.heap.size := by omega
            have hS4 : W4.cell? ⟨w2.heap.size, 0, none⟩ = some (.slice A ids.length ca) ∧ W4.cell? ⟨w2.heap.size, 1, none⟩ = some (.slice A2 ids.length c2) ∧ W4.cell? ⟨w2.heap.size, 2, none⟩ = some (.slice A3 ids.length c3) ∧
                W4.cell? ⟨wA.heap.size, 0, none⟩ = some (.int .i64 xa) ∧ W4.cell? ⟨wA.heap.size, 1, none⟩ = some (.int .i64 xb) ∧ W4.cell? ⟨wA.heap.size, 2, none⟩ = some (.int .i64 xc) ∧
                W4.cell? ⟨bC, oC + j * 3, none⟩ = some (.int .i64 ya) ∧ W4.cell? ⟨bC, oC + j * 3 + 1, none⟩ = some (.int .i64 yb) ∧ W4.cell? ⟨bC, oC + j * 3 + 2, none⟩ = some (.int .i64 yc) :=
              ⟨(hlt4 _ _ q1).trans hS.1, (hlt4 _ _ q1).trans hS.2.1, (hlt4 _ _ q1).trans hS.2.2.1, (hlt4 _ _ q2).trans hS.2.2.2.1, (hlt4 _ _ q2).trans hS.2.2.2.2.1, (hlt4 _ _ q2).trans hS.2.2.2.2.2.1, (hlt4 _ _ q3).trans hS.2.2.2.2.2.2.1, (hlt4 _ _ q3).trans hS.2.2.2.2.2.2.2.1, (hlt4 _ _ q3).trans hS.2.2.2.2.2.2.2.2⟩
            have hcall := HC.out.1 W4 _ 2 [⟨xa, xb, xc⟩, ⟨ya, yb, yc⟩] (below_step hb23 b4) hr4 (args_two HR.out.2.2 (List.mem_of_getElem? HX.out.2.2.1) (List.mem_of_getElem? hy))
            rw [two_ok HR.out.2.2 HX.out.2.2.1 hy] at hcall
            have hz4 : wr.heap.size < W4.heap.size := by rw [hW4]; simp [World.drew]
            subst hW4
            obtain ⟨q, hq⟩ : ∃ q, q = clashP ids l bs k j := ⟨_, rfl⟩
            rw [← hq] at hcall
            have HJ := Lib.hid (And.intro hS (And.intro hS4 (And.intro hcall (And.intro hbj (And.intro hgj (And.intro hq (And.intro b4 (below_step HC.out.2.2 hb23))))))))
            clear hS hS4 hcall hbj hgj hq b4 hy hb23 hbA3 f1 f2 f3 hzr hzb hr4 hlt4
            go_wp2_with fail
            go_region_held3 (fun w' => w'.cell? ⟨w2.heap.size, 0, none⟩ = some (.slice A ids.length ca) ∧ w'.cell? ⟨w2.heap.size, 1, none⟩ = some (.slice A2 ids.length c2) ∧ w'.cell? ⟨w2.heap.size, 2, none⟩ = some (.slice A3 ids.length c3) ∧
                w'.cell? ⟨wA.heap.size, 0, none⟩ = some (.int .i64 xa) ∧ w'.cell? ⟨wA.heap.size, 1, none⟩ = some (.int .i64 xb) ∧ w'.cell? ⟨wA.heap.size, 2, none⟩ = some (.int .i64 xc) ∧
                w'.cell? ⟨bC, oC + j * 3, none⟩ = some (.int .i64 ya) ∧ w'.cell? ⟨bC, oC + j * 3 + 1, none⟩ = some (.int .i64 yb) ∧ w'.cell? ⟨bC, oC + j * 3 + 2, none⟩ = some (.int .i64 yc))
              (first | assumption | exact HJ.out.1 | exact HJ.out.2.1 | exact h9 | fail)
              (first
                | (go_at_call 67; go_must (refine HJ.out.2.2.1.mono ?_); rintro e w9 ⟨v9, rfl, b9, o9⟩
                   have h9 : w9.cell? ⟨w2.heap.size, 0, none⟩ = some (.slice A ids.length ca) ∧ w9.cell? ⟨w2.heap.size, 1, none⟩ = some (.slice A2 ids.length c2) ∧ w9.cell? ⟨w2.heap.size, 2, none⟩ = some (.slice A3 ids.length c3) ∧
                       w9.cell? ⟨wA.heap.size, 0, none⟩ = some (.int .i64 xa) ∧ w9.cell? ⟨wA.heap.size, 1, none⟩ = some (.int .i64 xb) ∧ w9.cell? ⟨wA.heap.size, 2, none⟩ = some (.int .i64 xc) ∧
                       w9.cell? ⟨bC, oC + j * 3, none⟩ = some (.int .i64 ya) ∧ w9.cell? ⟨bC, oC + j * 3 + 1, none⟩ = some (.int .i64 yb) ∧ w9.cell? ⟨bC, oC + j * 3 + 2, none⟩ = some (.int .i64 yc) := by
                     have g1 := Nat.lt_trans q1 hz4
                     have g2 := Nat.lt_trans q2 hz4
                     have g3 := Nat.lt_trans q3 hz4
                     have hS4 := HJ.out.2.1
                     exact ⟨(below_cell b9 _ _ g1).trans hS4.1, (below_cell b9 _ _ g1).trans hS4.2.1, (below_cell b9 _ _ g1).trans hS4.2.2.1, (below_cell b9 _ _ g2).trans hS4.2.2.2.1, (below_cell b9 _ _ g2).trans hS4.2.2.2.2.1, (below_cell b9 _ _ g2).trans hS4.2.2.2.2.2.1, (below_cell b9 _ _ g3).trans hS4.2.2.2.2.2.2.1, (below_cell b9 _ _ g3).trans hS4.2.2.2.2.2.2.2.1, (below_cell b9 _ _ g3).trans hS4.2.2.2.2.2.2.2.2⟩
                   obtain ⟨A9, c9, hv9, _, _⟩ := Reads.of_own o9
                   subst hv9))
            all_goals
              cases q
              · go_wp2_with fail
                go_roundw
                case rel =>
                  obtain ⟨_, _, _, hbj, hgj, hq, b4, _⟩ := HJ.out
                  refine ⟨j + 1, by omega, by omega, by go_num, below_step hbj (below_step b4 b9), fun k' h1 h2 => ?_⟩
                  rcases (by omega : k' < j ∨ k' = j) with h | h
                  · exact hgj k' h1 h
                  · subst h
                    exact hq.symm
                case measure => simp [intOf]; omega
              · go_wp2_with fail
                go_ret
                obtain ⟨_, _, _, hbj, hgj, hq, b4, hw⟩ := HJ.out
                have hw9 := below_step hw (below_step b4 b9)
                exact ⟨_, [(k : Int), (j : Int)], rfl, .inr ⟨k, j, rfl, HR.out.2.2, hkj, hjn, hq.symm, hgj, HX.out.2.1⟩, hw9.alloc hw9.size _, own_two _ _ hw9.size rfl⟩
          · have hjb : j = bs.length := by omega
            have HJ := Lib.hid (And.intro hbj (And.intro hgj hjb))
            clear hbj hgj hjb
            go_wp2_with fail
            go_roundw
            case rel =>
              refine ⟨k + 1, by omega, by go_num, below_step H3.out.2.2 HJ.out.1, fun i' k' h1 h2 h3 => ?_⟩
              rcases (by omega : i' < k ∨ i' = k) with h | h
              · exact HX.out.2.1 i' k' h h2 h3
              · subst h
                exact HJ.out.2.1 k' h2 (by rw [HJ.out.2.2]; exact h3)
            case measure => simp [intOf]; omega
      · have hkb : k = bs.length := by omega
        have HX := Lib.hid (And.intro hbl (And.intro hg hkb))
        clear hbl hg hkb
        go_wp2_with fail
        go_ret
        exact ⟨_, [], rfl, blamed_none (.inr fun i' k' h1 h2 => HX.out.2.1 i' k' (by rw [HX.out.2.2]; omega) h1 h2), below_step HC.out.2.2 HX.out.1, World.ownsRow_nil _ _ _ _⟩
end Go.Proofs.Ytfeodclacjolaaa
