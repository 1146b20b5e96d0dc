/- What the program's reading of one relation returns, at a word of any bytes. -/
import Derived.Test.YtbbjdpmffokcfaaDoorIy
namespace Go.Proofs.YtbbjdpmffokcfaaDoor
open Go.RowKit

theorem rel_ascii {t : List UInt8} {c : Ctx} {b : Bool} (h : (∀ x ∈ t, x.toNat < 128) → RightRel t c b) : RightRel t c b := fun r hok ht =>
  h (by rw [ht]; exact fun x hx => (relT_byte hok x hx).2) r hok ht

set_option maxHeartbeats 2000000 in
set_option maxRecDepth 100000 in
theorem rd_gen (t : List UInt8) (hl : t.length ≤ 1900000) (w : World) (hG : Glob w) :
    Calls Tryd.prog 29 #[.string (txt t)] w fun e w2 => (∃ c b, GotRel c b e ∧ RightRel t c b) ∧ Below w.heap.size w w2 := by
  have hsz := txt_size t
  have a0 : Aft 45 w rel0 (w.alloc (.cells #[.int .i64 0, .int .i64 0, .int .i64 0] 45)) := Below.refl _ _
  have HA0 := Lib.hid a0
  clear a0
  go_enter Tryd.func29, Tryd.ntmps29
  go_wp2_with fail
  refine (idx_gen t (by omega) _).mono ?_
  rintro e w2 ⟨⟨ii, rfl, hlt, hix⟩, hb2⟩
  have hm := HA0.out.step hb2
  have HIX := Lib.hid hix
  clear hix
  by_cases hi : ii < 0
  · have e0 : decide (ii < 0) = true := by simp [hi]
    have HR := Lib.hid (rel_ascii (fun h => right_neg (t := t) (by rw [HIX.out h]; exact hi) rel0 false))
    obtain ⟨r0, r1, r2⟩ := hm.cells
    obtain ⟨f0, f1, f2⟩ := hm.fro
    simp only [rel0] at r0 r1 r2
    clear hi
    go_wp2_with fail
    refine bodyPost_ret (v := .tuple #[.agg #[.int .i64 0, .int .i64 0, .int .i64 0], .bool false]) (by simp [results, Tryd.results29, go_sem, *]) rfl ⟨⟨rel0, false, rfl, HR.out⟩, ?_⟩
    exact ((hm.below.setCell (Nat.le_refl _) _).setCell (Nat.le_refl _) _).setCell (Nat.le_refl _) _
  · obtain ⟨i, rfl⟩ := Int.eq_ofNat_of_zero_le (by omega : 0 ≤ ii)
    have e0 : decide ((i : Int) < 0) = false := by simp
    have hw : IntKind.i64.wrap ((i : Int) + 1) = (i : Int) + 1 := IntWalk.i64_in _ (by omega)
    have sub1 := sub_txt t 0 i
    have sub2 := sub_txt t (i + 1) t.length
    clear hi
    go_wp2_with fail
    have hG2 := hG.step hm.below
    refine (atoi_any (t.take i) (by rw [List.length_take]; omega) _ hG2).mono ?_
    rintro e w3 ⟨he3, hb3⟩
    have hm3 := hm.step hb3
    have hG3 := hG2.step hb3
    have fin : ∀ W : World, Aft 45 w rel0 W → ∀ a b c : Value, Below w.heap.size w (((W.setCell ⟨w.heap.size, 0, none⟩ a).setCell ⟨w.heap.size, 1, none⟩ b).setCell ⟨w.heap.size, 2, none⟩ c) := fun W hW a b c =>
      ((hW.below.setCell (Nat.le_refl _) _).setCell (Nat.le_refl _) _).setCell (Nat.le_refl _) _
    clear hb3 hb2 hm hG2
    rcases he3 with ⟨va, hva, rfl⟩ | ⟨hna, va, ta, pa, rfl⟩
    · go_wp2_with fail
      refine (atoi_any ((t.drop (i + 1)).take (t.length - (i + 1))) (by rw [List.length_take, List.length_drop]; omega) _ hG3).mono ?_
      rintro e w4 ⟨he4, hb4⟩
      have hm4 := hm3.step hb4
      obtain ⟨r0, r1, r2⟩ := hm4.cells
      obtain ⟨f0, f1, f2⟩ := hm4.fro
      simp only [rel0] at r0 r1 r2
      have hFin := Lib.hid (fin _ hm4)
      clear hb4 hm4 hm3 hG3 fin
      rcases he4 with ⟨vb, hvb, rfl⟩ | ⟨hnb, vb, tb, pb, rfl⟩
      · go_wp2_with fail
        · rename_i hs
          refine bodyPost_ret (v := .tuple #[.agg #[.int .i64 va, .int .i64 vb, .int .i64 2], .bool true]) (by simp [results, Tryd.results29, go_sem, *]) rfl ⟨⟨⟨va, vb, 2⟩, true, rfl, rel_ascii fun h => right_yes (HIX.out h) hva hvb (fun x => absurd (sign_at _ hs x) (by simp)) (fun _ => rfl)⟩, hFin.out _ _ _⟩
        · rename_i hs
          refine bodyPost_ret (v := .tuple #[.agg #[.int .i64 va, .int .i64 vb, .int .i64 1], .bool true]) (by simp [results, Tryd.results29, go_sem, *]) rfl ⟨⟨⟨va, vb, 1⟩, true, rfl, rel_ascii fun h => right_yes (HIX.out h) hva hvb (fun _ => rfl) (fun x => absurd (sign_at _ hs x) (by simp))⟩, hFin.out _ _ _⟩
      · go_wp2_with fail
        refine bodyPost_ret (v := .tuple #[.agg #[.int .i64 0, .int .i64 0, .int .i64 0], .bool false]) (by simp [results, Tryd.results29, go_sem, *]) rfl ⟨⟨rel0, false, rfl, rel_ascii fun h => right_no2 (HIX.out h) hnb _ _⟩, hFin.out _ _ _⟩
    · go_wp2_with fail
      refine (atoi_any ((t.drop (i + 1)).take (t.length - (i + 1))) (by rw [List.length_take, List.length_drop]; omega) _ hG3).mono ?_
      rintro e w4 ⟨he4, hb4⟩
      have hm4 := hm3.step hb4
      obtain ⟨r0, r1, r2⟩ := hm4.cells
      obtain ⟨f0, f1, f2⟩ := hm4.fro
      simp only [rel0] at r0 r1 r2
      have hFin := Lib.hid (fin _ hm4)
      clear hb4 hm4 hm3 hG3 fin
      rcases he4 with ⟨vb, hvb, rfl⟩ | ⟨hnb, vb, tb, pb, rfl⟩
      · go_wp2_with fail
        refine bodyPost_ret (v := .tuple #[.agg #[.int .i64 0, .int .i64 0, .int .i64 0], .bool false]) (by simp [results, Tryd.results29, go_sem, *]) rfl ⟨⟨rel0, false, rfl, rel_ascii fun h => right_no1 (HIX.out h) hna _ _⟩, hFin.out _ _ _⟩
      · go_wp2_with fail
        refine bodyPost_ret (v := .tuple #[.agg #[.int .i64 0, .int .i64 0, .int .i64 0], .bool false]) (by simp [results, Tryd.results29, go_sem, *]) rfl ⟨⟨rel0, false, rfl, rel_ascii fun h => right_no1 (HIX.out h) hna _ _⟩, hFin.out _ _ _⟩
end Go.Proofs.YtbbjdpmffokcfaaDoor
