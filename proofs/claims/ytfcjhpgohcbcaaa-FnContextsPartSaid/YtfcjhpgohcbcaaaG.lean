/- What the model's adding of a context returns. -/
import Derived.Test.YtfcjhpgohcbcaaaF
import Derived.Deep.RegionHeld3
namespace Go.Proofs.Ytfcjhpgohcbcaaa
open Go.RowKit

theorem insC_at (c : Ctx) (l : List Ctx) (k : Nat) (hk : k ≤ l.length) (h : ∀ (j : Nat) (d : Ctx), j < k → l[j]? = some d → d.id < c.id) (h2 : ∀ d, l[k]? = some d → c.id < d.id) : insC c l = l.take k ++ c :: l.drop k := by
  induction l generalizing k with
  | nil => simp at hk; subst hk; rfl
  | cons d l ih =>
    cases k with
    | zero => have := h2 d rfl; simp [insC, this]
    | succ k =>
      have h0 := h 0 d (by omega) rfl
      have := ih k (by simpa using hk) (fun j e hj he => h (j+1) e (by omega) (by simpa using he)) (fun e he => h2 e (by simpa using he))
      rw [insC, if_neg (by omega), this]; rfl

theorem Reads.tailC {w : World} {B n k : Nat} {A A2 : Option Addr} {l : List Ctx} (h : Reads w B 3 A n (cellsC l)) (hk : k ≤ n) (hA : 0 < n - k → A2 = A.map (·.add (k * 3))) : Reads w B 3 A2 (n - k) (cellsC (l.drop k)) := by
  have h1 := h.cutC hk (Nat.le_refl n)
  have hl := h.len
  rw [List.take_of_length_le (by rw [List.length_drop]; omega)] at h1
  refine ⟨h1.1, fun hn => ?_⟩
  rw [hA hn]
  exact h1.2 hn
theorem Reads.headC {w : World} {B n k : Nat} {A : Option Addr} {l : List Ctx} (h : Reads w B 3 A n (cellsC l)) (hk : k ≤ n) : Reads w B 3 A k (cellsC (l.take k)) := by
  refine ⟨by rw [length_cellsC, List.length_take, ← h.len]; omega, fun hn => ?_⟩
  obtain ⟨b, off, e, hb, hc⟩ := h.2 (by omega)
  refine ⟨b, off, e, hb, fun j u hu => hc j u ?_⟩
  rw [← cellsC_take, List.getElem?_take] at hu
  split at hu
  · exact hu
  · cases hu
theorem reads_new {w w2 : World} {g : Nat} {c : Ctx} {t : TypeId} {row : Option Nat} (hg : w.heap[g]? = some (.cells #[.int .i64 c.id, .int .i64 c.kind, .int .i64 c.area] t (0, 0))) (h2 : w.grownBy w2 row) (hne : some g ≠ row) : Reads w2 w2.heap.size 3 (some ⟨g, 0, none⟩) 1 (cellsC [c]) := by
  have hlt := (Array.getElem?_eq_some_iff.1 hg).1
  refine ⟨by rw [length_cellsC]; rfl, fun _ => ⟨g, 0, rfl, Nat.lt_of_lt_of_le hlt h2.size, fun j u hu => ?_⟩⟩
  rw [cell_of_row _ _ _ _ _ _ ((h2.block g hlt hne).trans hg)]
  simpa [cellsC, cells3] using hu

/-- A world behind the one in which the context was laid in a block of its own. -/
def Aft (w : World) (c : Ctx) (W : World) : Prop := Below (w.alloc (.cells #[.int .i64 c.id, .int .i64 c.kind, .int .i64 c.area] 25)).heap.size (w.alloc (.cells #[.int .i64 c.id, .int .i64 c.kind, .int .i64 c.area] 25)) W
section
variable {w W W2 : World} {c : Ctx}
theorem Aft.cells (h : Aft w c W) : W.cell? ⟨w.heap.size, 0, none⟩ = some (.int .i64 c.id) ∧ W.cell? ⟨w.heap.size, 1, none⟩ = some (.int .i64 c.kind) ∧ W.cell? ⟨w.heap.size, 2, none⟩ = some (.int .i64 c.area) := by
  refine ⟨?_, ?_, ?_⟩
  · exact (Below.cell h (p := ⟨w.heap.size, 0, none⟩) (by simp)).trans ((cell_of_row _ _ _ _ _ _ (heap_alloc_new _ _)).trans rfl)
  · exact (Below.cell h (p := ⟨w.heap.size, 1, none⟩) (by simp)).trans ((cell_of_row _ _ _ _ _ _ (heap_alloc_new _ _)).trans rfl)
  · exact (Below.cell h (p := ⟨w.heap.size, 2, none⟩) (by simp)).trans ((cell_of_row _ _ _ _ _ _ (heap_alloc_new _ _)).trans rfl)
theorem Aft.sz (h : Aft w c W) : w.heap.size < W.heap.size := by
  have := Below.size h
  simp at this
  omega
theorem Aft.draws (h : Aft w c W) (n : Nat) : Aft w c (W.drewN n) := below_draws h n
theorem Aft.alloc (h : Aft w c W) (o : Obj) : Aft w c (W.alloc o) := Below.alloc h (Below.size h) o
theorem Aft.app {e size n : Nat} {v : Value} {xs : List Value} (h : Aft w c W) (ho : W.ownsRow (w.heap.size + 1) e size v n xs) (hg : W.grownBy W2 v.ownBlock) : Aft w c W2 :=
  Below.grown h hg (Below.size h) fun k hk => by have := (ho.lt k hk).1; simp; omega
theorem Aft.reads {A : Option Addr} {n : Nat} {xs : List Value} (h : Aft w c W) (hr : Reads w w.heap.size 3 A n xs) : Reads W w.heap.size 3 A n xs :=
  hr.keep fun b o hb => ((Below.cell h (p := ⟨b, o, none⟩) (by simp; omega))).trans (World.cell?_alloc_lt _ _ _ hb)
theorem Aft.below (h : Aft w c W) : Below w.heap.size w W := ((Below.refl _ _).alloc (Nat.le_refl _) _).trans (Below.mono h (by simp))
end
/-- The three appends have made the list with the context in its place. -/
theorem add_made {w W : World} {l : List Ctx} {c : Ctx} {k : Nat} {v : Value} {n : Nat} {xs : List Value} (hA : addL l c = insC c l ∧ addOk l c = true) (hI : insC c l = l.take k ++ c :: l.drop k) (hk : k ≤ l.length) (hn : n = l.length + 1)
    (hx : xs = cellsC (l.take k ++ c :: l.drop k)) (ha : Aft w c W) (ho : W.ownsRow (w.heap.size + 1) 25 3 v n xs) : AddPost w l c (.returned (.tuple #[v, .bool true])) W :=
  addPost_mk hA ha.below (by rw [hI, ← hx, show (l.take k ++ c :: l.drop k).length = n from by simp; omega]; exact own_less ho (by omega))

set_option maxHeartbeats 4000000 in
theorem sAdd_new (A : Option Addr) (cap : Nat) (l : List Ctx) (c : Ctx) (w : World) (hr : Reads w w.heap.size 3 A l.length (cellsC l)) (hcap : l.length ≤ cap)
    (h1 : validL l = true) (h2 : okC c = true) (h3 : findC l c.id < 0) (h4 : l.length < 12) :
    Calls Try.prog 16 #[.slice A l.length cap, .agg #[.int .i64 c.id, .int .i64 c.kind, .int .i64 c.area]] w (AddPost w l c) := by
  obtain ⟨i0, hi0, hz0, hz1, hz2⟩ := info_parts ctx_info
  have hr1 := hr.step ((Below.refl w.heap.size w).alloc (Nat.le_refl _) (.cells #[.int .i64 c.id, .int .i64 c.kind, .int .i64 c.area] 25))
  have HR := Lib.hid hr
  have e3 : decide (0 ≤ findC l c.id) = false := by simp; omega
  have e4 : decide ((12 : Int) ≤ (l.length : Int)) = false := by simp; omega
  have HA := Lib.hid (addL_new h1 h2 h3 h4)
  have HF : Hid (∀ (j : Nat) (d : Ctx), l[j]? = some d → d.id ≠ c.id) := by
    rcases findC_spec c.id l with ⟨_, h⟩ | ⟨k, d, hk, _⟩
    · exact h
    · omega
  clear h3 hr
  go_enter Try.func16, Try.ntmps16
  go_wp2_with (first
            | (go_at_call 20; go_must (refine (sValid_any _ _ l _ hr1 (by omega)).mono ?_); rintro e w2 ⟨rfl, k2⟩; have hc2 := below_cell k2)
            | (go_at_call 46; go_must (refine (l1Context_any _ _ _ _).mono ?_); rintro e w3 ⟨rfl, hb3⟩; have k3 := below_step k2 hb3; have hc3 := below_cell k3)
            | (go_at_call 47; go_must (refine (sFindIn_any _ _ l _ _ (hr1.step k3) (by omega)).mono ?_); rintro e w5 ⟨rfl, rfl⟩))
  have HK3 : Hid (Aft w c w3) := by exact k3
  clear e3 e4 hr1 hc2 hc3 k2 hb3 k3
  go_loopw [6] (fun i wr => ∃ k : Nat, k ≤ l.length ∧ i = .int .i64 k ∧ Aft w c wr ∧ ∀ (j : Nat) (d : Ctx), j < k → l[j]? = some d → d.id < c.id) (fun i _ => l.length - (intOf i).toNat)
  case atStart => exact ⟨0, Nat.zero_le _, rfl, HK3.out, fun j d h => absurd h (by omega)⟩
  case round =>
    obtain ⟨k, hk, rfl, ha, hg⟩ := hrel
    have HG := Lib.hid hg; clear hg
    obtain ⟨b0, b1, b2⟩ := ha.cells
    have hsz := ha.sz
    have h0k : (0 : Int) ≤ (k : Int) := by omega
    have hkc : (k : Int) ≤ (cap : Int) := by omega
    have hkl : (k : Int) ≤ (l.length : Int) := by omega
    by_cases hlt : k < l.length
    · obtain ⟨b, off, hAd, hbl, hc⟩ := (ha.reads HR.out).ctx (by omega)
      subst hAd
      have hk0 : l[k]? = some l[k] := List.getElem?_eq_getElem hlt
      obtain ⟨c1, _, _⟩ := hc k _ hk0
      have HK := Lib.hid hk0
      have e1 : decide (k < l.length) = true := by simp [hlt]
      clear hc hk0
      by_cases hid : l[k].id < c.id
      · have hi2 : decide (l[k].id < c.id) = true := by simp [hid]
        go_wp2_with fail
        go_quiet (fail)
        go_wp2_with fail
        go_roundw
        case rel =>
          refine ⟨k + 1, by omega, by go_num, ha.draws _, fun j d hj hd => ?_⟩
          by_cases hj2 : j < k
          · exact HG.out j d hj2 hd
          · obtain rfl : j = k := by omega
            rw [HK.out] at hd
            injection hd with hd
            exact hd ▸ hid
        case measure => simp [intOf]; omega
      · have hi2 : decide (l[k].id < c.id) = false := by simp; omega
        have HI : Hid (insC c l = l.take k ++ c :: l.drop k) := by
          refine insC_at c l k hk HG.out fun d hd => ?_
          rw [HK.out] at hd
          injection hd with hd
          subst hd
          have := HF.out k _ HK.out
          omega
        have hne : ¬ cap = k := by omega
        have hT : 0 < l.length - k → (some ⟨b, off + k * 3, none⟩ : Option Addr) = (some ⟨b, off, none⟩ : Option Addr).map (·.add (k * 3)) := by
          intro _
          simp only [Option.map, Addr.add]
          split
          · rename_i h0; rw [h0]; rfl
          · rfl
        have HT := Lib.hid hT; clear hT
        go_wp2_with fail
        go_quiet (fail)
        go_wp2_with fail
        have aA : Aft w c ((wr.drewN (nq + 1)).alloc (.cells #[] 25)) := (ha.draws (nq + 1)).alloc _
        have aB : Aft w c (((wr.drewN (nq + 1)).alloc (.cells #[] 25)).alloc (.cells #[.int .i64 c.id, .int .i64 c.kind, .int .i64 c.area] 25)) := aA.alloc _
        have aC : Aft w c (((wr.drewN (nq + 1)).alloc (.cells #[.int .i64 c.id, .int .i64 c.kind, .int .i64 c.area] 25)).alloc (.cells #[] 25)) := ((ha.draws (nq + 1)).alloc _).alloc _
        have hszD : w.heap.size + 1 ≤ (wr.drewN (nq + 1)).heap.size := ha.sz
        have oA : ((wr.drewN (nq + 1)).alloc (.cells #[] 25)).ownsRow (w.heap.size + 1) 25 3 (.slice (some ⟨wr.heap.size, 0, none⟩) 0 0) 0 [] := own_empty hszD rfl
        have oB : (((wr.drewN (nq + 1)).alloc (.cells #[] 25)).alloc (.cells #[.int .i64 c.id, .int .i64 c.kind, .int .i64 c.area] 25)).ownsRow (w.heap.size + 1) 25 3 (.slice (some ⟨wr.heap.size, 0, none⟩) 0 0) 0 [] := oA.alloc _
        have oC : (((wr.drewN (nq + 1)).alloc (.cells #[.int .i64 c.id, .int .i64 c.kind, .int .i64 c.area] 25)).alloc (.cells #[] 25)).ownsRow (w.heap.size + 1) 25 3 (.slice (some ⟨wr.heap.size + 1, 0, none⟩) 0 0) 0 [] := own_empty (by simp; omega) (by simp)
        have rA := (aA.reads HR.out).headC hk
        have rB := (aB.reads HR.out).headC hk
        have rC := (aC.reads HR.out).headC hk
        have sA := Nat.le_of_lt_succ (Nat.lt_succ_of_lt aA.sz)
        have nB : (((wr.drewN (nq + 1)).alloc (.cells #[] 25)).alloc (.cells #[.int .i64 c.id, .int .i64 c.kind, .int .i64 c.area] 25)).heap[wr.heap.size + 1]? = some (.cells #[.int .i64 c.id, .int .i64 c.kind, .int .i64 c.area] 25 (0, 0)) := by
          have := heap_alloc_new ((wr.drewN (nq + 1)).alloc (.cells #[] 25)) (.cells #[.int .i64 c.id, .int .i64 c.kind, .int .i64 c.area] 25)
          simpa using this
        have nC : (((wr.drewN (nq + 1)).alloc (.cells #[.int .i64 c.id, .int .i64 c.kind, .int .i64 c.area] 25)).alloc (.cells #[] 25)).heap[wr.heap.size]? = some (.cells #[.int .i64 c.id, .int .i64 c.kind, .int .i64 c.area] 25 (0, 0)) := (Below.heap_alloc _ _ _ (by simp)).trans (heap_alloc_new (wr.drewN (nq + 1)) (.cells #[.int .i64 c.id, .int .i64 c.kind, .int .i64 c.area] 25))
        have XA := Lib.hid (And.intro aA (And.intro oA rA)); have XB := Lib.hid (And.intro aB (And.intro oB (And.intro rB nB))); have XC := Lib.hid (And.intro aC (And.intro oC (And.intro rC nC)))
        clear aA aB aC oA oB oC rA rB rC nB nC sA
        go_region_held3 (fun w' => w'.cell? ⟨w.heap.size, 0, none⟩ = some (.int .i64 c.id) ∧ w'.cell? ⟨w.heap.size, 1, none⟩ = some (.int .i64 c.kind) ∧ w'.cell? ⟨w.heap.size, 2, none⟩ = some (.int .i64 c.area))
                  (first
                    | assumption
                    | exact ⟨s0, s1, s2⟩
                    | (refine ⟨?_, ?_, ?_⟩ <;> (first
                        | assumption
                        | (rw [World.cell?_alloc_lt _ _ _ (by first | omega | (simp; omega))]; first | assumption | (go_simp; done))
                        | (go_simp; done))))
                  (first
                    | (refine step_append_reads ((wr.drewN (nq + 1)).alloc (.cells #[] 25)) (by rfl) (.tmp 45) (.tmp 48) _ (by rfl) (w.heap.size + 1) 25 i0 _ 3 24 Try.underlying23 hi0 hz0 hz1 hz2 rfl (by omega) (.slice (some ⟨wr.heap.size, 0, none⟩) 0 0) 0 [] (by rfl) XA.out.2.1 _ _ k _ (cellsC (l.take k)) (by rfl) XA.out.2.2 (cellsC_one _) (by simp only [maxLen]; omega) (by omega) XA.out.1.sz ?_
                       intro v2 w2 hown2 hg2 hat2
                       have ha2 := Aft.app XA.out.1 XA.out.2.1 hg2
                       obtain ⟨s0, s1, s2⟩ := ha2.cells
                       have hs2 := ha2.sz)
                    | (refine step_append_reads (((wr.drewN (nq + 1)).alloc (.cells #[] 25)).alloc (.cells #[.int .i64 c.id, .int .i64 c.kind, .int .i64 c.area] 25)) (by rfl) (.tmp 45) (.tmp 48) _ (by rfl) (w.heap.size + 1) 25 i0 _ 3 24 Try.underlying23 hi0 hz0 hz1 hz2 rfl (by omega) (.slice (some ⟨wr.heap.size, 0, none⟩) 0 0) 0 [] (by rfl) XB.out.2.1 _ _ k _ (cellsC (l.take k)) (by rfl) XB.out.2.2.1 (cellsC_one _) (by simp only [maxLen]; omega) (by omega) XB.out.1.sz ?_
                       intro v2 w2 hown2 hg2 hat2
                       have ha2 := Aft.app XB.out.1 XB.out.2.1 hg2
                       have hN := reads_new XB.out.2.2.2 hg2 (by simp [Value.ownBlock])
                       obtain ⟨s0, s1, s2⟩ := ha2.cells
                       have hs2 := ha2.sz)
                    | (refine step_append_reads (((wr.drewN (nq + 1)).alloc (.cells #[.int .i64 c.id, .int .i64 c.kind, .int .i64 c.area] 25)).alloc (.cells #[] 25)) (by rfl) (.tmp 45) (.tmp 48) _ (by rfl) (w.heap.size + 1) 25 i0 _ 3 24 Try.underlying23 hi0 hz0 hz1 hz2 rfl (by omega) (.slice (some ⟨wr.heap.size + 1, 0, none⟩) 0 0) 0 [] (by rfl) XC.out.2.1 _ _ k _ (cellsC (l.take k)) (by rfl) XC.out.2.2.1 (cellsC_one _) (by simp only [maxLen]; omega) (by omega) XC.out.1.sz ?_
                       intro v2 w2 hown2 hg2 hat2
                       have ha2 := Aft.app XC.out.1 XC.out.2.1 hg2
                       have hN := reads_new XC.out.2.2.2 hg2 (by simp [Value.ownBlock])
                       obtain ⟨s0, s1, s2⟩ := ha2.cells
                       have hs2 := ha2.sz)
                    | (refine step_append_reads (w2.alloc (.cells #[.int .i64 c.id, .int .i64 c.kind, .int .i64 c.area] 25)) (by rfl) (.tmp 49) (.tmp 51) _ (by rfl) (w.heap.size + 1) 25 i0 _ 3 24 Try.underlying23 hi0 hz0 hz1 hz2 rfl (by omega) v2 (0 + k) ([] ++ cellsC (l.take k)) (by rfl) (hown2.alloc _) _ _ 1 _ (cellsC [c]) (by rfl) (reads_one (B := w2.heap.size + 1) (by omega)) (cellsC_one _) (by simp only [maxLen]; omega) (by omega) (by simp; omega) ?_
                       intro v3 w3 hown3 hg3 hat3
                       have ha3 := Aft.app (ha2.alloc (.cells #[.int .i64 c.id, .int .i64 c.kind, .int .i64 c.area] 25)) (hown2.alloc _) hg3
                       obtain ⟨s0, s1, s2⟩ := ha3.cells
                       have hs3 := ha3.sz)
                    | (refine step_append_reads (w2) (by rfl) (.tmp 49) (.tmp 51) _ (by rfl) (w.heap.size + 1) 25 i0 _ 3 24 Try.underlying23 hi0 hz0 hz1 hz2 rfl (by omega) v2 (0 + k) ([] ++ cellsC (l.take k)) (by rfl) hown2 _ _ 1 _ (cellsC [c]) (by rfl) hN (cellsC_one _) (by simp only [maxLen]; omega) (by omega) ha2.sz ?_
                       intro v3 w3 hown3 hg3 hat3
                       have ha3 := Aft.app ha2 hown2 hg3
                       obtain ⟨s0, s1, s2⟩ := ha3.cells
                       have hs3 := ha3.sz)
                    | (refine step_append_reads (w3) (by rfl) (.tmp 52) (.tmp 55) _ (by rfl) (w.heap.size + 1) 25 i0 _ 3 24 Try.underlying23 hi0 hz0 hz1 hz2 rfl (by omega) v3 (0 + k + 1) ([] ++ cellsC (l.take k) ++ cellsC [c]) (by rfl) hown3 _ _ (l.length - k) _ (cellsC (l.drop k)) (by rfl) ((ha3.reads HR.out).tailC hk HT.out) (cellsC_one _) (by simp only [maxLen]; omega) (by omega) ha3.sz ?_
                       intro v4 w4 hown4 hg4 hat4
                       have ha4 := Aft.app ha3 hown3 hg4
                       obtain ⟨s0, s1, s2⟩ := ha4.cells))
        all_goals
          go_wp2_with fail
          go_ret2
          exact add_made HA.out HI.out hk (by omega) (by simp [cellsC]) ha4 hown4
    · have hkl2 : k = l.length := by omega
      have HI : Hid (insC c l = l.take k ++ c :: l.drop k) := by
        refine insC_at c l k hk HG.out fun d hd => ?_
        rw [hkl2, List.getElem?_eq_none (Nat.le_refl _)] at hd
        cases hd
      have e1 : decide (k < l.length) = false := by simp; omega
      clear hkl2
      go_wp2_with fail
      go_quiet (fail)
      go_wp2_with fail
      have aA : Aft w c ((wr.drewN (nq + 1)).alloc (.cells #[] 25)) := (ha.draws (nq + 1)).alloc _
      have aB : Aft w c (((wr.drewN (nq + 1)).alloc (.cells #[] 25)).alloc (.cells #[.int .i64 c.id, .int .i64 c.kind, .int .i64 c.area] 25)) := aA.alloc _
      have aC : Aft w c (((wr.drewN (nq + 1)).alloc (.cells #[.int .i64 c.id, .int .i64 c.kind, .int .i64 c.area] 25)).alloc (.cells #[] 25)) := ((ha.draws (nq + 1)).alloc _).alloc _
      have hszD : w.heap.size + 1 ≤ (wr.drewN (nq + 1)).heap.size := ha.sz
      have oA : ((wr.drewN (nq + 1)).alloc (.cells #[] 25)).ownsRow (w.heap.size + 1) 25 3 (.slice (some ⟨wr.heap.size, 0, none⟩) 0 0) 0 [] := own_empty hszD rfl
      have oB : (((wr.drewN (nq + 1)).alloc (.cells #[] 25)).alloc (.cells #[.int .i64 c.id, .int .i64 c.kind, .int .i64 c.area] 25)).ownsRow (w.heap.size + 1) 25 3 (.slice (some ⟨wr.heap.size, 0, none⟩) 0 0) 0 [] := oA.alloc _
      have oC : (((wr.drewN (nq + 1)).alloc (.cells #[.int .i64 c.id, .int .i64 c.kind, .int .i64 c.area] 25)).alloc (.cells #[] 25)).ownsRow (w.heap.size + 1) 25 3 (.slice (some ⟨wr.heap.size + 1, 0, none⟩) 0 0) 0 [] := own_empty (by simp; omega) (by simp)
      have rA := (aA.reads HR.out).headC hk
      have rB := (aB.reads HR.out).headC hk
      have rC := (aC.reads HR.out).headC hk
      have sA := Nat.le_of_lt_succ (Nat.lt_succ_of_lt aA.sz)
      have nB : (((wr.drewN (nq + 1)).alloc (.cells #[] 25)).alloc (.cells #[.int .i64 c.id, .int .i64 c.kind, .int .i64 c.area] 25)).heap[wr.heap.size + 1]? = some (.cells #[.int .i64 c.id, .int .i64 c.kind, .int .i64 c.area] 25 (0, 0)) := by
        have := heap_alloc_new ((wr.drewN (nq + 1)).alloc (.cells #[] 25)) (.cells #[.int .i64 c.id, .int .i64 c.kind, .int .i64 c.area] 25)
        simpa using this
      have nC : (((wr.drewN (nq + 1)).alloc (.cells #[.int .i64 c.id, .int .i64 c.kind, .int .i64 c.area] 25)).alloc (.cells #[] 25)).heap[wr.heap.size]? = some (.cells #[.int .i64 c.id, .int .i64 c.kind, .int .i64 c.area] 25 (0, 0)) := (Below.heap_alloc _ _ _ (by simp)).trans (heap_alloc_new (wr.drewN (nq + 1)) (.cells #[.int .i64 c.id, .int .i64 c.kind, .int .i64 c.area] 25))
      have XA := Lib.hid (And.intro aA (And.intro oA rA)); have XB := Lib.hid (And.intro aB (And.intro oB (And.intro rB nB))); have XC := Lib.hid (And.intro aC (And.intro oC (And.intro rC nC)))
      clear aA aB aC oA oB oC rA rB rC nB nC sA
      go_region_held3 (fun w' => w'.cell? ⟨w.heap.size, 0, none⟩ = some (.int .i64 c.id) ∧ w'.cell? ⟨w.heap.size, 1, none⟩ = some (.int .i64 c.kind) ∧ w'.cell? ⟨w.heap.size, 2, none⟩ = some (.int .i64 c.area))
                (first
                  | assumption
                  | exact ⟨s0, s1, s2⟩
                  | (refine ⟨?_, ?_, ?_⟩ <;> (first
                      | assumption
                      | (rw [World.cell?_alloc_lt _ _ _ (by first | omega | (simp; omega))]; first | assumption | (go_simp; done))
                      | (go_simp; done))))
                (first
                  | (refine step_append_reads ((wr.drewN (nq + 1)).alloc (.cells #[] 25)) (by rfl) (.tmp 45) (.tmp 48) _ (by rfl) (w.heap.size + 1) 25 i0 _ 3 24 Try.underlying23 hi0 hz0 hz1 hz2 rfl (by omega) (.slice (some ⟨wr.heap.size, 0, none⟩) 0 0) 0 [] (by rfl) XA.out.2.1 _ _ k _ (cellsC (l.take k)) (by rfl) XA.out.2.2 (cellsC_one _) (by simp only [maxLen]; omega) (by omega) XA.out.1.sz ?_
                     intro v2 w2 hown2 hg2 hat2
                     have ha2 := Aft.app XA.out.1 XA.out.2.1 hg2
                     obtain ⟨s0, s1, s2⟩ := ha2.cells
                     have hs2 := ha2.sz)
                  | (refine step_append_reads (((wr.drewN (nq + 1)).alloc (.cells #[] 25)).alloc (.cells #[.int .i64 c.id, .int .i64 c.kind, .int .i64 c.area] 25)) (by rfl) (.tmp 45) (.tmp 48) _ (by rfl) (w.heap.size + 1) 25 i0 _ 3 24 Try.underlying23 hi0 hz0 hz1 hz2 rfl (by omega) (.slice (some ⟨wr.heap.size, 0, none⟩) 0 0) 0 [] (by rfl) XB.out.2.1 _ _ k _ (cellsC (l.take k)) (by rfl) XB.out.2.2.1 (cellsC_one _) (by simp only [maxLen]; omega) (by omega) XB.out.1.sz ?_
                     intro v2 w2 hown2 hg2 hat2
                     have ha2 := Aft.app XB.out.1 XB.out.2.1 hg2
                     have hN := reads_new XB.out.2.2.2 hg2 (by simp [Value.ownBlock])
                     obtain ⟨s0, s1, s2⟩ := ha2.cells
                     have hs2 := ha2.sz)
                  | (refine step_append_reads (((wr.drewN (nq + 1)).alloc (.cells #[.int .i64 c.id, .int .i64 c.kind, .int .i64 c.area] 25)).alloc (.cells #[] 25)) (by rfl) (.tmp 45) (.tmp 48) _ (by rfl) (w.heap.size + 1) 25 i0 _ 3 24 Try.underlying23 hi0 hz0 hz1 hz2 rfl (by omega) (.slice (some ⟨wr.heap.size + 1, 0, none⟩) 0 0) 0 [] (by rfl) XC.out.2.1 _ _ k _ (cellsC (l.take k)) (by rfl) XC.out.2.2.1 (cellsC_one _) (by simp only [maxLen]; omega) (by omega) XC.out.1.sz ?_
                     intro v2 w2 hown2 hg2 hat2
                     have ha2 := Aft.app XC.out.1 XC.out.2.1 hg2
                     have hN := reads_new XC.out.2.2.2 hg2 (by simp [Value.ownBlock])
                     obtain ⟨s0, s1, s2⟩ := ha2.cells
                     have hs2 := ha2.sz)
                  | (refine step_append_reads (w2.alloc (.cells #[.int .i64 c.id, .int .i64 c.kind, .int .i64 c.area] 25)) (by rfl) (.tmp 49) (.tmp 51) _ (by rfl) (w.heap.size + 1) 25 i0 _ 3 24 Try.underlying23 hi0 hz0 hz1 hz2 rfl (by omega) v2 (0 + k) ([] ++ cellsC (l.take k)) (by rfl) (hown2.alloc _) _ _ 1 _ (cellsC [c]) (by rfl) (reads_one (B := w2.heap.size + 1) (by omega)) (cellsC_one _) (by simp only [maxLen]; omega) (by omega) (by simp; omega) ?_
                     intro v3 w3 hown3 hg3 hat3
                     have ha3 := Aft.app (ha2.alloc (.cells #[.int .i64 c.id, .int .i64 c.kind, .int .i64 c.area] 25)) (hown2.alloc _) hg3
                     obtain ⟨s0, s1, s2⟩ := ha3.cells
                     have hs3 := ha3.sz)
                  | (refine step_append_reads (w2) (by rfl) (.tmp 49) (.tmp 51) _ (by rfl) (w.heap.size + 1) 25 i0 _ 3 24 Try.underlying23 hi0 hz0 hz1 hz2 rfl (by omega) v2 (0 + k) ([] ++ cellsC (l.take k)) (by rfl) hown2 _ _ 1 _ (cellsC [c]) (by rfl) hN (cellsC_one _) (by simp only [maxLen]; omega) (by omega) ha2.sz ?_
                     intro v3 w3 hown3 hg3 hat3
                     have ha3 := Aft.app ha2 hown2 hg3
                     obtain ⟨s0, s1, s2⟩ := ha3.cells
                     have hs3 := ha3.sz)
                  | (refine step_append_reads (w3) (by rfl) (.tmp 52) (.tmp 55) _ (by rfl) (w.heap.size + 1) 25 i0 _ 3 24 Try.underlying23 hi0 hz0 hz1 hz2 rfl (by omega) v3 (0 + k + 1) ([] ++ cellsC (l.take k) ++ cellsC [c]) (by rfl) hown3 _ _ (l.length - k) _ (cellsC (l.drop k)) (by rfl) ((ha3.reads HR.out).tailC hk (fun h => absurd h (by omega))) (cellsC_one _) (by simp only [maxLen]; omega) (by omega) ha3.sz ?_
                     intro v4 w4 hown4 hg4 hat4
                     have ha4 := Aft.app ha3 hown3 hg4
                     obtain ⟨s0, s1, s2⟩ := ha4.cells))
      all_goals
        go_wp2_with fail
        all_goals (go_ret2; exact add_made HA.out HI.out hk (by omega) (by simp [cellsC]) ha4 hown4)

theorem own_lit {w : World} {base e g : Nat} (hb : base ≤ w.heap.size) (hg : g = w.heap.size) : (w.alloc (.cells #[] e)).ownsRow base e 3 (.slice (some ⟨g, 0, none⟩) 0 0) ([] : List Ctx).length (cellsC []) := own_empty hb hg

set_option maxHeartbeats 1000000 in
theorem sAdd_any (A : Option Addr) (cap : Nat) (l : List Ctx) (c : Ctx) (w : World) (hr : Reads w w.heap.size 3 A l.length (cellsC l)) (hl : l.length ≤ 1000000000000) (hcap : l.length ≤ cap) :
    Calls Try.prog 16 #[.slice A l.length cap, .agg #[.int .i64 c.id, .int .i64 c.kind, .int .i64 c.area]] w (AddPost w l c) := by
  obtain ⟨i0, hi0, hz0, hz1, hz2⟩ := info_parts ctx_info
  have hb0 := (Below.refl w.heap.size w).alloc (Nat.le_refl _) (.cells #[.int .i64 c.id, .int .i64 c.kind, .int .i64 c.area] 25)
  have hr1 := hr.step hb0
  by_cases h1 : validL l = true
  · by_cases h2 : okC c = true
    · have hlen := validL_len h1
      by_cases hroom : findC l c.id < 0 ∧ l.length < 12
      · exact sAdd_new A cap l c w hr hcap h1 h2 hroom.1 hroom.2
      · have HA := Lib.hid (addL_full (c := c) h1 h2 (by omega))
        clear hr
        by_cases h3 : findC l c.id < 0
        · have e3 : decide (0 ≤ findC l c.id) = false := by simp; omega
          have e4 : decide ((12 : Int) ≤ (l.length : Int)) = true := by simp; omega
          clear h3 hroom
          go_enter Try.func16, Try.ntmps16
          go_wp2_with (first
            | (go_at_call 20; go_must (refine (sValid_any _ _ l _ hr1 (by omega)).mono ?_); rintro e w2 ⟨rfl, k2⟩; have hc2 := below_cell k2)
            | (go_at_call 46; go_must (refine (l1Context_any _ _ _ _).mono ?_); rintro e w3 ⟨rfl, hb3⟩; have k3 := below_step k2 hb3; have hc3 := below_cell k3)
            | (go_at_call 47; go_must (refine (sFindIn_any _ _ l _ _ (hr1.step k3) (by omega)).mono ?_); rintro e w5 ⟨rfl, rfl⟩)
            | (at_builtin
               go_must (refine wpList_append_reads _ rfl (.tmp 26) (.tmp 27) _ rfl w3.heap.size 25 i0 _ 3 24 Try.underlying23 hi0 hz0 hz1 hz2 rfl (by omega) (.slice (some ⟨w3.heap.size, 0, none⟩) 0 0) 0 [] rfl (own_empty (Nat.le_refl _) rfl) _ _ l.length _ (cellsC l) rfl ((hr1.step k3).below ((Below.refl _ _).alloc (Nat.le_refl _) _)) (cellsC_one _) (by simp only [maxLen]; omega) (by omega) (by simp) ?_)
               intro v6 w6 hown6 hg6 hat6
               have hb6 := ((Below.refl w3.heap.size w3).alloc (Nat.le_refl _) (.cells #[] 25)).grown hg6 (by simp) (fun k hk => by simp [Value.ownBlock] at hk; omega)))
          go_ret2
          exact addPost_mk HA.out (below_step hb0 (below_step k3 hb6)) (own_less (by simpa using hown6) (Nat.le_trans hb0.size k3.size))
        · have e3 : decide (0 ≤ findC l c.id) = true := by simp; omega
          clear h3 hroom
          go_enter Try.func16, Try.ntmps16
          go_wp2_with (first
            | (go_at_call 20; go_must (refine (sValid_any _ _ l _ hr1 (by omega)).mono ?_); rintro e w2 ⟨rfl, k2⟩; have hc2 := below_cell k2)
            | (go_at_call 46; go_must (refine (l1Context_any _ _ _ _).mono ?_); rintro e w3 ⟨rfl, hb3⟩; have k3 := below_step k2 hb3; have hc3 := below_cell k3)
            | (go_at_call 47; go_must (refine (sFindIn_any _ _ l _ _ (hr1.step k3) (by omega)).mono ?_); rintro e w5 ⟨rfl, rfl⟩)
            | (at_builtin
               go_must (refine wpList_append_reads _ rfl (.tmp 26) (.tmp 27) _ rfl w3.heap.size 25 i0 _ 3 24 Try.underlying23 hi0 hz0 hz1 hz2 rfl (by omega) (.slice (some ⟨w3.heap.size, 0, none⟩) 0 0) 0 [] rfl (own_empty (Nat.le_refl _) rfl) _ _ l.length _ (cellsC l) rfl ((hr1.step k3).below ((Below.refl _ _).alloc (Nat.le_refl _) _)) (cellsC_one _) (by simp only [maxLen]; omega) (by omega) (by simp) ?_)
               intro v6 w6 hown6 hg6 hat6
               have hb6 := ((Below.refl w3.heap.size w3).alloc (Nat.le_refl _) (.cells #[] 25)).grown hg6 (by simp) (fun k hk => by simp [Value.ownBlock] at hk; omega)))
          go_ret2
          exact addPost_mk HA.out (below_step hb0 (below_step k3 hb6)) (own_less (by simpa using hown6) (Nat.le_trans hb0.size k3.size))
    · simp only [Bool.not_eq_true] at h2
      have HA := Lib.hid (addL_bad (l := l) (c := c) (.inr h2))
      clear hr
      go_enter Try.func16, Try.ntmps16
      go_wp2_with (first
            | (go_at_call 20; go_must (refine (sValid_any _ _ l _ hr1 (by omega)).mono ?_); rintro e w2 ⟨rfl, k2⟩; have hc2 := below_cell k2)
            | (go_at_call 46; go_must (refine (l1Context_any _ _ _ _).mono ?_); rintro e w3 ⟨rfl, hb3⟩; have k3 := below_step k2 hb3; have hc3 := below_cell k3)
            | (go_at_call 47; go_must (refine (sFindIn_any _ _ l _ _ (hr1.step k3) (by omega)).mono ?_); rintro e w5 ⟨rfl, rfl⟩)
            | (at_builtin
               go_must (refine wpList_append_reads _ rfl (.tmp 26) (.tmp 27) _ rfl w3.heap.size 25 i0 _ 3 24 Try.underlying23 hi0 hz0 hz1 hz2 rfl (by omega) (.slice (some ⟨w3.heap.size, 0, none⟩) 0 0) 0 [] rfl (own_empty (Nat.le_refl _) rfl) _ _ l.length _ (cellsC l) rfl ((hr1.step k3).below ((Below.refl _ _).alloc (Nat.le_refl _) _)) (cellsC_one _) (by simp only [maxLen]; omega) (by omega) (by simp) ?_)
               intro v6 w6 hown6 hg6 hat6
               have hb6 := ((Below.refl w3.heap.size w3).alloc (Nat.le_refl _) (.cells #[] 25)).grown hg6 (by simp) (fun k hk => by simp [Value.ownBlock] at hk; omega)))
      go_ret2
      exact addPost_mk HA.out (below_step hb0 (k3.alloc k3.size _)) (own_lit (Nat.le_trans hb0.size k3.size) rfl)
  · simp only [Bool.not_eq_true] at h1
    have HA := Lib.hid (addL_bad (l := l) (c := c) (.inl h1))
    clear hr
    go_enter Try.func16, Try.ntmps16
    go_wp2_with (first
            | (go_at_call 20; go_must (refine (sValid_any _ _ l _ hr1 (by omega)).mono ?_); rintro e w2 ⟨rfl, k2⟩; have hc2 := below_cell k2)
            | (go_at_call 46; go_must (refine (l1Context_any _ _ _ _).mono ?_); rintro e w3 ⟨rfl, hb3⟩; have k3 := below_step k2 hb3; have hc3 := below_cell k3)
            | (go_at_call 47; go_must (refine (sFindIn_any _ _ l _ _ (hr1.step k3) (by omega)).mono ?_); rintro e w5 ⟨rfl, rfl⟩)
            | (at_builtin
               go_must (refine wpList_append_reads _ rfl (.tmp 26) (.tmp 27) _ rfl w3.heap.size 25 i0 _ 3 24 Try.underlying23 hi0 hz0 hz1 hz2 rfl (by omega) (.slice (some ⟨w3.heap.size, 0, none⟩) 0 0) 0 [] rfl (own_empty (Nat.le_refl _) rfl) _ _ l.length _ (cellsC l) rfl ((hr1.step k3).below ((Below.refl _ _).alloc (Nat.le_refl _) _)) (cellsC_one _) (by simp only [maxLen]; omega) (by omega) (by simp) ?_)
               intro v6 w6 hown6 hg6 hat6
               have hb6 := ((Below.refl w3.heap.size w3).alloc (Nat.le_refl _) (.cells #[] 25)).grown hg6 (by simp) (fun k hk => by simp [Value.ownBlock] at hk; omega)))
    go_ret2
    exact addPost_mk HA.out (below_step hb0 (k2.alloc k2.size _)) (own_lit (Nat.le_trans hb0.size k2.size) rfl)
end Go.Proofs.Ytfcjhpgohcbcaaa
