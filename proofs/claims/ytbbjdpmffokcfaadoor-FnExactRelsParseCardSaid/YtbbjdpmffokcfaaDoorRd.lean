/- What the program's reading of one relation returns. -/
import Derived.Test.YtbbjdpmffokcfaaDoorLb
import Derived.Test.YtbbjdpmffokcfaaDoorP1
namespace Go.Proofs.YtbbjdpmffokcfaaDoor
open Go.RowKit

/-- A relation and a word were returned. -/
def GotRel (c : Ctx) (b : Bool) (e : Ending) : Prop := e = .returned (.tuple #[.agg #[.int .i64 c.id, .int .i64 c.kind, .int .i64 c.area], .bool b])

theorem Aft.fro {t : TypeId} {w W : World} {c : Ctx} (h : Aft t w c W) : W.frozen? ⟨w.heap.size, 0, none⟩ = false ∧ W.frozen? ⟨w.heap.size, 1, none⟩ = false ∧ W.frozen? ⟨w.heap.size, 2, none⟩ = false := by
  have hb : W.heap[w.heap.size]? = some (.cells #[.int .i64 c.id, .int .i64 c.kind, .int .i64 c.area] t (0, 0)) :=
    (Below.block h w.heap.size (by simp)).trans (heap_alloc_new w _)
  exact ⟨frozen_of_row _ _ 0 _ _ hb, frozen_of_row _ _ 1 _ _ hb, frozen_of_row _ _ 2 _ _ hb⟩
def rel0 : Ctx := ⟨0, 0, 0⟩
/-- What is returned is right where the text is a relation's. -/
def RightRel (t : List UInt8) (c : Ctx) (b : Bool) : Prop := ∀ r, okR r = true → t = relT r → c = r ∧ b = true
theorem rel_cut {r : Ctx} (h : okR r = true) : ∃ a y, relT r = dec r.id ++ a :: dec r.kind ∧ Lib.indexAny (relT r) [62, 61] = (dec r.id).length ∧ ((a = 62 ∧ r.area = 1) ∨ (a = 61 ∧ r.area = 2)) ∧ y = (dec r.id).length ∧ Lib.atoiAll (dec r.id) = .ok r.id ∧ Lib.atoiAll (dec r.kind) = .ok r.kind := by
  have hp := okR_parts h
  rcases hp.2.2.2.2.2 with h1 | ⟨h2, _⟩
  · exact ⟨62, _, relT_1 h1, by rw [relT_1 h1]; exact idx_rel (dec_isD (by omega) (by omega)) (Or.inl rfl), Or.inl ⟨rfl, h1⟩, rfl, atoi_dec (by omega) (by omega), atoi_dec (by omega) (by omega)⟩
  · exact ⟨61, _, relT_2 h2, by rw [relT_2 h2]; exact idx_rel (dec_isD (by omega) (by omega)) (Or.inr rfl), Or.inr ⟨rfl, h2⟩, rfl, atoi_dec (by omega) (by omega), atoi_dec (by omega) (by omega)⟩
theorem right_neg {t : List UInt8} (h : Lib.indexAny t [62, 61] < 0) (c : Ctx) (b : Bool) : RightRel t c b := fun r hok ht => by
  obtain ⟨a, y, _, h2, _⟩ := rel_cut hok
  rw [ht, h2] at h
  omega
theorem right_parts {t : List UInt8} {i : Nat} (h : Lib.indexAny t [62, 61] = (i : Int)) {r : Ctx} (hok : okR r = true) (ht : t = relT r) :
    Lib.atoiAll (t.take i) = .ok r.id ∧ Lib.atoiAll ((t.drop (i + 1)).take (t.length - (i + 1))) = .ok r.kind ∧ ((t[i]? = some 62 ∧ r.area = 1) ∨ (t[i]? = some 61 ∧ r.area = 2)) := by
  obtain ⟨a, y, h1, h2, h3, _, h4, h5⟩ := rel_cut hok
  rw [ht, h2] at h
  have hi : i = (dec r.id).length := by omega
  subst hi
  have e1 : t.take (dec r.id).length = dec r.id := by rw [ht, h1, List.take_left]
  have e2 : t.drop ((dec r.id).length + 1) = dec r.kind := by
    rw [ht, h1, List.drop_append, List.drop_of_length_le (by omega)]
    simp
  have e3 : t[(dec r.id).length]? = some a := by rw [ht, h1]; simp
  have e4 : t.length - ((dec r.id).length + 1) = (dec r.kind).length := by rw [ht, h1]; simp; omega
  rw [e1, e2, e3, e4, List.take_of_length_le (Nat.le_refl _)]
  refine ⟨h4, h5, ?_⟩
  rcases h3 with ⟨rfl, h⟩ | ⟨rfl, h⟩
  · exact Or.inl ⟨rfl, h⟩
  · exact Or.inr ⟨rfl, h⟩
theorem right_no1 {t : List UInt8} {i : Nat} (h : Lib.indexAny t [62, 61] = (i : Int)) (hn : ∀ v, Lib.atoiAll (t.take i) ≠ .ok v) (c : Ctx) (b : Bool) : RightRel t c b := fun _ hok ht =>
  absurd (right_parts h hok ht).1 (hn _)
theorem right_no2 {t : List UInt8} {i : Nat} (h : Lib.indexAny t [62, 61] = (i : Int)) (hn : ∀ v, Lib.atoiAll ((t.drop (i + 1)).take (t.length - (i + 1))) ≠ .ok v) (c : Ctx) (b : Bool) : RightRel t c b := fun _ hok ht =>
  absurd (right_parts h hok ht).2.1 (hn _)
theorem right_yes {t : List UInt8} {i : Nat} {va vb k : Int} (h : Lib.indexAny t [62, 61] = (i : Int)) (ha : Lib.atoiAll (t.take i) = .ok va) (hb : Lib.atoiAll ((t.drop (i + 1)).take (t.length - (i + 1))) = .ok vb)
    (h1 : t[i]? = some 62 → k = 1) (h2 : t[i]? = some 61 → k = 2) : RightRel t ⟨va, vb, k⟩ true := fun r hok ht => by
  obtain ⟨e1, e2, e3⟩ := right_parts h hok ht
  rw [ha] at e1
  rw [hb] at e2
  injection e1 with e1
  injection e2 with e2
  refine ⟨?_, rfl⟩
  rcases e3 with ⟨x, y⟩ | ⟨x, y⟩
  · exact Ctx.ext_ e1 e2 ((h1 x).trans y.symm)
  · exact Ctx.ext_ e1 e2 ((h2 x).trans y.symm)
theorem sign_at {t : List UInt8} {i : Nat} {b : Bool} {a : UInt8} (h : i < (txt t).size) (he : ((((txt t)[i]'h).toNat : Int) == 61) = b) (ha : t[i]? = some a) : (a = 61) = (b = true) := by
  have hl : i < t.length := by rw [← txt_size]; exact h
  have e := at_nat h hl
  rw [List.getElem?_eq_getElem hl] at ha
  injection ha with ha
  rw [e, ha] at he
  subst he
  rw [beq_iff_eq]
  apply propext
  constructor
  · intro h; subst h; rfl
  · intro h; apply UInt8.toNat_inj.1; have h2 : a.toNat = 61 := by omega
    rw [h2]; rfl

set_option maxHeartbeats 2000000 in
set_option maxRecDepth 100000 in
theorem rd_any (t : List UInt8) (hl : t.length ≤ 1900000) (ha : ∀ b ∈ t, b.toNat < 128) (w : World) (hG : Glob w) :
    Calls Tryd.prog 29 #[.string (txt t)] w fun e w2 => (∃ c b, GotRel c b e ∧ RightRel t c b) ∧ Below w.heap.size w w2 := by
  have hsz := txt_size t
  have hlt := idx_lt t [62, 61]
  have a0 : Aft 45 w rel0 (w.alloc (.cells #[.int .i64 0, .int .i64 0, .int .i64 0] 45)) := Below.refl _ _
  have HA0 := Lib.hid a0
  clear a0
  by_cases hi : Lib.indexAny t [62, 61] < 0
  · have e0 : decide (Lib.indexAny t [62, 61] < 0) = true := by simp [hi]
    have HR := Lib.hid (right_neg hi rel0 false)
    clear hi
    go_enter Tryd.func29, Tryd.ntmps29
    go_wp2_with (first
      | (go_at_call 43; go_must (refine (idx_any t (by omega) ha _).mono ?_); rintro e w2 ⟨rfl, hb2⟩
         have hm := HA0.out.step hb2
         obtain ⟨r0, r1, r2⟩ := hm.cells
         obtain ⟨f0, f1, f2⟩ := hm.fro
         simp only [rel0] at r0 r1 r2))
    refine bodyPost_ret (v := .tuple #[.agg #[.int .i64 0, .int .i64 0, .int .i64 0], .bool false]) (by simp [results, Tryd.results29, go_sem, *]) rfl ⟨⟨rel0, false, rfl, HR.out⟩, ?_⟩
    exact ((hm.below.setCell (Nat.le_refl _) _).setCell (Nat.le_refl _) _).setCell (Nat.le_refl _) _
  · obtain ⟨i, hii⟩ : ∃ i : Nat, Lib.indexAny t [62, 61] = (i : Int) := ⟨(Lib.indexAny t [62, 61]).toNat, by omega⟩
    have e0 : decide ((i : Int) < 0) = false := by simp
    rw [hii] at hlt
    have hI := Lib.hid hii
    have hw : IntKind.i64.wrap ((i : Int) + 1) = (i : Int) + 1 := IntWalk.i64_in _ (by omega)
    have sub1 := sub_txt t 0 i
    have sub2 := sub_txt t (i + 1) t.length
    clear hi hii
    go_enter Tryd.func29, Tryd.ntmps29
    go_wp2_with (first
      | (go_at_call 43; go_must (refine (idx_any t (by omega) ha _).mono ?_); rw [hI.out]; rintro e w2 ⟨rfl, hb2⟩
         have hm := HA0.out.step hb2))
    have hG2 := hG.step hm.below
    refine (atoi_any (t.take i) (by rw [List.length_take]; omega) _ hG2).mono ?_
    rintro e w3 ⟨he3, hb3⟩
    have hm3 := hm.step hb3
    have hG3 := hG2.step hb3
    have fin : ∀ W : World, Aft 45 w rel0 W → ∀ a b c : Value, Below w.heap.size w (((W.setCell ⟨w.heap.size, 0, none⟩ a).setCell ⟨w.heap.size, 1, none⟩ b).setCell ⟨w.heap.size, 2, none⟩ c) := fun W hW a b c =>
      ((hW.below.setCell (Nat.le_refl _) _).setCell (Nat.le_refl _) _).setCell (Nat.le_refl _) _
    clear hb3 hb2 hm hG2
    rcases he3 with ⟨va, hva, rfl⟩ | ⟨hna, va, ta, pa, rfl⟩
    · go_wp2_with fail
      refine (atoi_any ((t.drop (i + 1)).take (t.length - (i + 1))) (by rw [List.length_take, List.length_drop]; omega) _ hG3).mono ?_
      rintro e w4 ⟨he4, hb4⟩
      have hm4 := hm3.step hb4
      obtain ⟨r0, r1, r2⟩ := hm4.cells
      obtain ⟨f0, f1, f2⟩ := hm4.fro
      simp only [rel0] at r0 r1 r2
      have hFin := Lib.hid (fin _ hm4)
      clear hb4 hm4 hm3 hG3 fin
      rcases he4 with ⟨vb, hvb, rfl⟩ | ⟨hnb, vb, tb, pb, rfl⟩
      · go_wp2_with fail
        · rename_i hs
          refine bodyPost_ret (v := .tuple #[.agg #[.int .i64 va, .int .i64 vb, .int .i64 2], .bool true]) (by simp [results, Tryd.results29, go_sem, *]) rfl ⟨⟨⟨va, vb, 2⟩, true, rfl, right_yes hI.out hva hvb (fun x => ?_) (fun _ => rfl)⟩, hFin.out _ _ _⟩
          have := sign_at _ hs x
          simp at this
        · rename_i hs
          refine bodyPost_ret (v := .tuple #[.agg #[.int .i64 va, .int .i64 vb, .int .i64 1], .bool true]) (by simp [results, Tryd.results29, go_sem, *]) rfl ⟨⟨⟨va, vb, 1⟩, true, rfl, right_yes hI.out hva hvb (fun _ => rfl) (fun x => ?_)⟩, hFin.out _ _ _⟩
          have := sign_at _ hs x
          simp at this
      · go_wp2_with fail
        refine bodyPost_ret (v := .tuple #[.agg #[.int .i64 0, .int .i64 0, .int .i64 0], .bool false]) (by simp [results, Tryd.results29, go_sem, *]) rfl ⟨⟨rel0, false, rfl, right_no2 hI.out hnb _ _⟩, hFin.out _ _ _⟩
    · go_wp2_with fail
      refine (atoi_any ((t.drop (i + 1)).take (t.length - (i + 1))) (by rw [List.length_take, List.length_drop]; omega) _ hG3).mono ?_
      rintro e w4 ⟨he4, hb4⟩
      have hm4 := hm3.step hb4
      obtain ⟨r0, r1, r2⟩ := hm4.cells
      obtain ⟨f0, f1, f2⟩ := hm4.fro
      simp only [rel0] at r0 r1 r2
      have hFin := Lib.hid (fin _ hm4)
      clear hb4 hm4 hm3 hG3 fin
      rcases he4 with ⟨vb, hvb, rfl⟩ | ⟨hnb, vb, tb, pb, rfl⟩
      · go_wp2_with fail
        refine bodyPost_ret (v := .tuple #[.agg #[.int .i64 0, .int .i64 0, .int .i64 0], .bool false]) (by simp [results, Tryd.results29, go_sem, *]) rfl ⟨⟨rel0, false, rfl, right_no1 hI.out hna _ _⟩, hFin.out _ _ _⟩
      · go_wp2_with fail
        refine bodyPost_ret (v := .tuple #[.agg #[.int .i64 0, .int .i64 0, .int .i64 0], .bool false]) (by simp [results, Tryd.results29, go_sem, *]) rfl ⟨⟨rel0, false, rfl, right_no1 hI.out hna _ _⟩, hFin.out _ _ _⟩
end Go.Proofs.YtbbjdpmffokcfaaDoor
