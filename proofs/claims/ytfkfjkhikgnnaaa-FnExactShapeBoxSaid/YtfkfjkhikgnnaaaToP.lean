/- What the laws' functions that copy points return; the laws' arguments of points, opened. -/
import Derived.Test.YtfkfjkhikgnnaaaTriPoint
import Derived.Test.YtfkfjkhikgnnaaaOpen
namespace Go.Proofs.Ytfkfjkhikgnnaaa
open Go.RowKit Go.ChangeShapes Go.WideShapes Go.Deep
theorem szPoint_any (A : Option Addr) (n cap : Nat) (w : World) (hn : n ≤ 1048576) :
    Calls Try.prog 38 #[.slice A n cap, .int .i64 1048576] w fun e w2 => e = .returned (.int .i64 (1048576 - (n : Int))) ∧ w = w2 := by
  have e0 : decide ((1048576 : Int) - (n : Int) < 0) = false := by simp; omega
  go_enter Try.func38, Try.ntmps38
  go_wp2_with fail
  go_ret
  exact ⟨rfl, rfl⟩
theorem szPoint_big (A : Option Addr) (n cap : Nat) (w : World) (hn : 1048576 < n) (hm : n ≤ 9223372036854775807) :
    Calls Try.prog 38 #[.slice A n cap, .int .i64 1048576] w fun e w2 => e = .returned (.int .i64 (-1)) ∧ w = w2 := by
  have e0 : (1048576 : Int) - (n : Int) < 0 := by omega
  go_enter Try.func38, Try.ntmps38
  go_wp2_with fail
  go_ret
  exact ⟨rfl, rfl⟩
theorem toPoint_any (a b : Int) (w : World) :
    Calls Try.prog 41 #[.agg #[.int .i64 a, .int .i64 b]] w fun e w2 => e = .returned (.agg #[.int .i64 a, .int .i64 b]) ∧ Below w.heap.size w w2 := by
  go_enter Try.func41, Try.ntmps41
  go_wp2_with fail
  refine bodyPost_ret (v := .agg #[.int .i64 a, .int .i64 b]) (by simp [results, Try.results41, go_sem]) rfl ⟨rfl, ?_⟩
  exact (((Below.refl _ _).alloc (Nat.le_refl _) _).alloc (by simp) _).alloc (by simp; omega) _
set_option maxHeartbeats 800000 in
set_option maxRecDepth 100000 in
theorem toSPoint_any (A : Option Addr) (cap : Nat) (l : List Sp) (w : World) (hr : Reads w w.heap.size 2 A l.length (cellsS l)) (hl : l.length ≤ 1000000000000) :
    Calls Try.prog 39 #[.slice A l.length cap] w fun e w2 => ∃ g, e = .returned (.slice (some ⟨g, 0, none⟩) l.length l.length) ∧ Below w.heap.size w w2 ∧ w2.ownsRow w.heap.size 27 2 (.slice (some ⟨g, 0, none⟩) l.length l.length) l.length (cellsS l) := by
  obtain ⟨i0, hi0, hz0, hz1, hz2⟩ := info_parts infoPoint
  go_enter Try.func39, Try.ntmps39
  go_wp2_with (at_make
               go_must (refine wpList_make_full _ rfl (.tmp 6) (.tmp 6) _ rfl w.heap.size 27 i0 _ 2 Try.underlying23 hi0 hz0 hz1 _ _ _ _ l.length rfl rfl rfl rfl (by rw [hz2]; omega) (by simp only [maxLen]; omega) (Nat.le_refl _) ?_)
               intro w1 hown hg)
  have hb1 : Below w.heap.size w w1 := (Below.refl _ _).grown hg (Nat.le_refl _) (fun k hk => by cases hk)
  rw [zero_cellsS] at hown
  have hown0 : w1.ownsRow w.heap.size 27 2 (.slice (some ⟨w.heap.size, 0, none⟩) l.length l.length) l.length (cellsS (fillS l 0)) := by simpa [fillS] using hown
  clear hown hg
  go_loopw [4] (fun i wr => ∃ k : Nat, k ≤ l.length ∧ i = .int .i64 k ∧ Below w.heap.size w wr ∧ wr.ownsRow w.heap.size 27 2 (.slice (some ⟨w.heap.size, 0, none⟩) l.length l.length) l.length (cellsS (fillS l k))) (fun i _ => l.length - (intOf i).toNat)
  case atStart => exact ⟨0, Nat.zero_le _, rfl, hb1, hown0⟩
  case round =>
    obtain ⟨k, hk, rfl, hb, hown⟩ := hrel
    clear hown0 hb1
    by_cases hlt : k < l.length
    · obtain ⟨b, off, hA, hbb, hc⟩ := (hr.below hb).sp (by omega)
      subst hA
      have hk0 : l[k]? = some l[k] := List.getElem?_eq_getElem hlt
      obtain ⟨c1, c2⟩ := hc k _ hk0
      have hkl : (k : Int) < (l.length : Int) := by omega
      have HB := Lib.hid hb
      have hsz := hb.size
      have HF := Lib.hid (fillS_set hlt)
      clear hc hk0 hr hb
      go_wp2_with (go_at_call 41
                   go_must (refine (toPoint_any _ _ _).mono ?_)
                   rintro e w2 ⟨rfl, hb2⟩
                   have hown2 := own_below hown hb2
                   obtain ⟨d1, d2, d4, d5⟩ := own_cellsS hown2 (fillS_at hlt)
                   simp only [zeroS] at d1 d2)
      go_roundw
      case rel =>
        refine ⟨k + 1, by omega, by go_num, ((HB.out.trans (hb2.mono hsz)).setCell (by simp) _).setCell (by simp) _, ?_⟩
        have := own_store2 hown2 (by rw [fillS_len hk]; exact hlt) l[k]
        rw [HF.out] at this
        exact this
      case measure => simp [intOf]; omega
    · have hkl : k = l.length := by omega
      have HK := Lib.hid hkl
      clear hkl
      go_wp2_with fail
      go_ret
      refine ⟨_, rfl, hb, ?_⟩
      have := hown
      rw [HK.out, show fillS l l.length = l from by simp [fillS]] at this
      exact this
/-- A point that lies in a block of its own. -/
def PtAt (W : World) (g : Nat) (a : Sp) : Prop := W.heap[g]? = some (.cells #[.int .i64 a.lo, .int .i64 a.hi] 27 (0, 0))
theorem PtAt.step {W V : World} {g : Nat} {a : Sp} (h : PtAt W g a) (hb : Below W.heap.size W V) : PtAt V g a := (hb.block g (Array.getElem?_eq_some_iff.1 h).1).trans h
theorem PtAt.cells {W : World} {g : Nat} {a : Sp} (h : PtAt W g a) : W.cell? ⟨g, 0, none⟩ = some (.int .i64 a.lo) ∧ W.cell? ⟨g, 1, none⟩ = some (.int .i64 a.hi) := ⟨cell_of_row _ _ 0 _ _ _ h, cell_of_row _ _ 1 _ _ _ h⟩
theorem PtAt.lt {W : World} {g : Nat} {a : Sp} (h : PtAt W g a) : g < W.heap.size := (Array.getElem?_eq_some_iff.1 h).1
theorem PtAt.new (W : World) (a : Sp) : PtAt (W.alloc (.cells #[.int .i64 a.lo, .int .i64 a.hi] 27)) W.heap.size a := heap_alloc_new _ _
theorem pts_two (W : World) (a b : Sp) : Below W.heap.size W ((W.alloc (.cells #[.int .i64 a.lo, .int .i64 a.hi] 27)).alloc (.cells #[.int .i64 b.lo, .int .i64 b.hi] 27)) ∧
    PtAt ((W.alloc (.cells #[.int .i64 a.lo, .int .i64 a.hi] 27)).alloc (.cells #[.int .i64 b.lo, .int .i64 b.hi] 27)) W.heap.size a ∧
    PtAt ((W.alloc (.cells #[.int .i64 a.lo, .int .i64 a.hi] 27)).alloc (.cells #[.int .i64 b.lo, .int .i64 b.hi] 27)) (W.heap.size + 1) b := by
  refine ⟨((Below.refl _ _).alloc (Nat.le_refl _) _).alloc (by simp) _, (PtAt.new W a).step ((Below.refl _ _).alloc (Nat.le_refl _) _), ?_⟩
  have := PtAt.new (W.alloc (.cells #[.int .i64 a.lo, .int .i64 a.hi] 27)) b
  simpa using this
section
variable {H : Type} {enc : TypeId × Value → H} {P : Program} {w : World} {base : Nat} {spare : Nat → Bool} {held : Bool}
/-- A slice of structs of two numbers. -/
theorem open_points {t e : TypeId} {f0 f1 : Field} {fi : TypeId} {fuel : Nat} {A : Option Addr} {n cap : Nat} {x : DataW H × List MemPlace} (ht : P.underlying t = some (.slice e)) (he : P.underlying e = some (.struct #[f0, f1]))
    (hone : oneCellFields P #[f0, f1] = true) (hC : P.cellsOf e = 2) (h0 : f0.type = fi) (h1 : f1.type = fi) (hfi : P.underlying fi = some (.int .i64))
    (h : DataW.trod enc P w base spare held fuel t [.slice A n cap] = some x) : ∃ l : List Sp, n = l.length ∧ Reads w w.heap.size 2 A n (cellsS l) ∧ n ≤ maxLen := by
  rcases open_slice ht h with ⟨hc, _⟩ | ⟨a, len, c, m, fu, D, Pl, hc, _, hl, hm, hmm, _, hi⟩
  · injection hc with hc _
    injection hc with hA hn _
    subst hn
    exact ⟨[], rfl, ⟨rfl, fun h => absurd h (by omega)⟩, by simp [maxLen]⟩
  · injection hc with hc _
    injection hc with hA hn hcap
    subst hA hn
    have hlm : n ≤ m := by rw [hmm]; split <;> omega
    rw [hC] at hi
    have key : ∀ i, i < n → ∃ d : Sp, ∀ j, j < 2 → w.cell? (a.add (i * 2 + j)) = (cells2 d)[j]? := by
      intro i hin
      obtain ⟨cs, hcs, htr⟩ := hi i (by omega)
      obtain ⟨xs, k, _, _, hlen, hxs, hf⟩ := DataW.trod_struct he htr
      obtain ⟨_, hcl, hat⟩ := World.cells?_some hcs
      obtain ⟨o0, k0⟩ := hone_of hone 0 f0 rfl
      obtain ⟨o1, k1⟩ := hone_of hone 1 f1 rfl
      match cs, hcl with
      | [c0, c1], _ =>
        match xs, hxs with
        | [y0, y1], _ =>
          have g0 := hf 0 f0 rfl
          have g1 := hf 1 f1 rfl
          rw [o0, k0, h0] at g0
          rw [o1, k1, h1] at g1
          obtain ⟨z0, e0, _, _⟩ := DataW.trod_int hfi g0
          obtain ⟨z1, e1, _, _⟩ := DataW.trod_int hfi g1
          simp at e0 e1
          subst e0 e1
          refine ⟨⟨z0, z1⟩, fun j hj => ?_⟩
          rw [← add_add_]
          exact hat j hj
    obtain ⟨l, hll, hcells⟩ := list_of n key
    have hall : ∀ j u, (cellsS l)[j]? = some u → w.cell? (a.add j) = some u := by
      intro j u hu
      have hj : j < l.length * 2 := by rw [← length_cellsS]; exact (List.getElem?_eq_some_iff.1 hu).1
      obtain ⟨q, r, hr, rfl⟩ : ∃ q r, r < 2 ∧ j = q * 2 + r := ⟨j / 2, j % 2, Nat.mod_lt _ (by decide), by omega⟩
      have hq : q < l.length := by omega
      have hqe : l[q]? = some l[q] := List.getElem?_eq_getElem hq
      have hc := hcells q _ hqe r hr
      obtain ⟨g1, g2⟩ := cellsS_at l q _ hqe
      rw [hc]
      match r, hr with
      | 0, _ => rw [← hu]; exact g1.symm
      | 1, _ => rw [← hu]; exact g2.symm
    refine ⟨l, hll.symm, ⟨by rw [length_cellsS, hll], fun hn => ?_⟩, by omega⟩
    obtain ⟨b, off, rfl, hb, hc⟩ := plain_addr (a := a) (f := fun j => (cellsS l).getD j undef) (n := l.length * 2) (by omega) (fun j hj => by
      have hj2 : j < (cellsS l).length := by rw [length_cellsS]; exact hj
      rw [List.getD_eq_getElem?_getD, List.getElem?_eq_getElem hj2]
      exact hall j _ (List.getElem?_eq_getElem hj2))
    refine ⟨b, off, rfl, hb, fun j u hu => ?_⟩
    have hj : j < l.length * 2 := by rw [← length_cellsS]; exact (List.getElem?_eq_some_iff.1 hu).1
    rw [hc j hj, List.getD_eq_getElem?_getD, hu]; rfl
/-- A struct of two numbers, by value. -/
theorem open_point {r : Reach} {b0 : Nat} {t : TypeId} {f0 f1 : Field} {fi : TypeId} {v : Value} {d : DataW H} {p : List MemPlace} (hs : P.underlying t = some (.struct #[f0, f1])) (hone : oneCellFields P #[f0, f1] = true) (hC : P.cellsOf t = 2)
    (h0 : f0.type = fi) (h1 : f1.type = fi) (hfi : P.underlying fi = some (.int .i64)) (hv : Value.okWide P w r b0 t v) (h : DataW.Trod enc P w base spare held t v d p) :
    ∃ c : Sp, v = .agg #[.int .i64 c.lo, .int .i64 c.hi] := by
  obtain ⟨v0, v1, y0, y1, n, rfl, _, _, g0, g1⟩ := Go.Joins.open_agg2 hs hone hC hv h
  rw [h0] at g0
  rw [h1] at g1
  obtain ⟨z0, e0, _, _⟩ := DataW.trod_int hfi g0
  obtain ⟨z1, e1, _, _⟩ := DataW.trod_int hfi g1
  simp at e0 e1
  subst e0 e1
  exact ⟨⟨z0, z1⟩, rfl⟩
end
end Go.Proofs.Ytfkfjkhikgnnaaa
