/- Texts that lie together in one: Rk, Nr, It, Ir, Ic2, Im. -/
import Derived.Test.YtfeodclacjolaaaTab
import Derived.Test.YtfeodclacjolaaaRa
import Derived.Test.YtfeodclacjolaaaMp
import Derived.Test.YtfeodclacjolaaaUc
import Derived.Test.YtfeodclacjolaaaVr
import Derived.Test.YtfeodclacjolaaaMw
import Derived.Test.YtfeodclacjolaaaV5
import Derived.Test.YtfeodclacjolaaaC2
import Derived.StillTail
import Derived.OrdersIn
import Derived.RangeFuncNested
import Derived.RangeFuncBound
import Derived.RangeFuncCalls
import Derived.RangeFuncLeaves
import Derived.RangeFuncBox
import Derived.Shelf.Abstract
import Derived.Shelf.RegionOpen
import Derived.WalkKit
import Derived.OwnWalkIn
import Derived.TacticsInMore
import Derived.LoopNIn
import Derived.LoopIn
import Derived.Maps.AppendAt
/- A region that draws its order and whose first steps only read, inside the wide fence: the steps behind them go in the text's order; a round of a loop over an iterator may be among them. And what a round keeps. No function of the program. -/
namespace Go.Proofs.Ytfeodclacjolaaa
open Go.RowKit

section
variable {P : Program} {ops : Array Oper} {md : Region.Mode} {w : World} {m : Nat}
theorem wpOpIn_of_stOp {i : Nat} {a : Act} {K : Act → Prop} {K' : Act → World → Prop} {Q : Exit → Act → World → Prop} (h : ∀ a, K a → K' a w) (hh : stOp P ops w i K a) : wpOpIn Fence.wide m P ops Q i K' a w := by
  unfold stOp at hh
  unfold wpOpIn
  split
  · rename_i ho; simp only [ho] at hh; exact h _ hh
  · rename_i o ho
    simp only [ho] at hh
    by_cases hw : Region.wanted o (yielded ops a.tmps) = true
    · simp only [hw, if_true] at hh ⊢
      unfold Oper.wpIn
      refine ⟨fun _ _ => trivial, ?_⟩
      rw [show Fence.wide.round = none from rfl, Oper.semAt_none]
      unfold Oper.still at hh
      generalize (execOp a.eval o).run P w = r at hh ⊢
      cases r with
      | ok x w' =>
        cases x <;> simp only [Oper.stillUpon] at hh <;> simp only [Oper.uponIn]
        case value v => obtain ⟨rfl, hn⟩ := hh; exact h _ hn
        case skip => obtain ⟨rfl, hn⟩ := hh; exact h _ hn
        case enter f args =>
          obtain ⟨rfl, v, hc, hn⟩ := hh
          refine ⟨fun hd => (by cases hd), callsIn_wide.2 (hc.mono ?_)⟩
          rintro e w'' ⟨rfl, rfl⟩
          exact h _ hn
      | halt x w' => cases x <;> simp only [Oper.stillUpon] at hh
    · simp only [hw] at hh ⊢
      exact ⟨fun _ _ => trivial, h _ hh⟩
theorem wpAnyIn_of_head {n g : Nat} {L : Array Bool → Act → Prop} {Q : Exit → Act → World → Prop} (hL : ∀ listed a, L listed a → wpAnyIn Fence.wide m P md ops Q g listed a w) :
    ∀ (f : Nat) (listed : Array Bool) (a : Act), wpAnyL P md ops w n L f listed a → wpAnyIn Fence.wide m P md ops Q (f + g) listed a w
  | 0, listed, a, h => by rw [Nat.zero_add]; exact hL _ _ h
  | f + 1, listed, a, h => by
    rw [show f + 1 + g = (f + g) + 1 by omega]
    exact ⟨fun h0 => absurd h0 h.1, fun i hi => wpOpIn_of_stOp (fun a' h' => wpAnyIn_of_head hL f _ a' h') (h.2 i hi).2⟩
theorem wpAnyIn_of_seq {Q : Exit → Act → World → Prop} : ∀ (l : List Oper) (k : Nat) (listed : Array Bool) (a : Act) (w : World), (∀ j, l[j]? = ops[k + j]?) →
    Region.seqB md ops l.length k listed = true → wpListIn Fence.wide m P ops Q l a w → wpAnyIn Fence.wide m P md ops Q l.length listed a w
  | [], _, _, _, _, _, hB, h => ⟨by simpa [Region.seqB] using hB, h⟩
  | o :: l, k, listed, a, w, hl, hB, h => by
    have h0 : ops[k]? = some o := by simpa using (hl 0).symm
    simp only [List.length_cons, Region.seqB, Bool.and_eq_true, decide_eq_true_eq] at hB
    refine ⟨fun h1 => (by rw [hB.1] at h1; cases h1), fun i hi => ?_⟩
    rw [hB.1] at hi
    have hik : i = k := by simpa using hi
    subst hik
    have hw : wpOpIn Fence.wide m P ops Q i (wpListIn Fence.wide m P ops Q l) a w := by unfold wpOpIn; simp only [h0]; exact h
    exact wpOpIn_mono (fun a' w' h' => wpAnyIn_of_seq l (i + 1) _ a' w' (fun j => by have := hl (j + 1); simpa [Nat.add_assoc, Nat.add_comm 1 j] using this) hB.2 h') hw
theorem wpIn_region_still_tail {id : Nat} {Q : Exit → Act → World → Prop} {a : Act} {l : List Oper} (n : Nat) (hm : P.follows .mixedOrders = true) (hB : Region.lexTailB .any l.toArray n = true)
    (h : wpStill P l.toArray { w with drawn := w.drawn + 1 } (fun a' => wpListIn Fence.wide m P l.toArray Q (l.drop n) a' { w with drawn := w.drawn + 1 }) (l.take n) a) : (Code.region id l.toArray true).wpIn Fence.wide m P Q a w := by
  simp only [Region.lexTailB, Bool.and_eq_true, decide_eq_true_eq] at hB
  obtain ⟨⟨⟨⟨hsel, hn⟩, hs⟩, hc⟩, hlex⟩ := hB
  have hn' : n < l.length := by simpa using hn
  have htl : (l.take n).length = n := by simp; omega
  have hdl : (l.drop n).length = l.toArray.size - n := by simp
  have inv0 : HeadInv .any l.toArray n (Array.replicate l.toArray.size false) :=
    ⟨by simp, fun j oj _ hl => (by rw [getD_replicate_false] at hl; cases hl), fun t _ ht => getD_in (by simpa using ht) (getD_replicate_false _ _)⟩
  have H := wpAnyL_lex (md := .any) (g := l.toArray.size - n) hsel hs hc hn (l.take n) 0 _ a (fun j hj => by
    have hj' : j < n := by rw [htl] at hj; exact hj
    simp [hj']) (by simpa using htl) inv0 (by rw [htl]; exact hlex) h
  refine wpIn_region_any hm ?_
  have := wpAnyIn_of_head (m := m) (Q := Q) (g := l.toArray.size - n) (fun listed a' hL => by
    have := wpAnyIn_of_seq (m := m) (md := .any) (Q := Q) (l.drop n) n listed a' { w with drawn := w.drawn + 1 } (fun j => by simp [List.getElem?_drop]) (by rw [hdl]; exact hL.1) hL.2
    rwa [hdl] at this) _ _ _ H
  rw [htl, show n + (l.toArray.size - n) = l.toArray.size by omega] at this
  exact this
theorem region_tail_in {id : Nat} {Q : Exit → Act → World → Prop} {a : Act} {l : List Oper} (n : Nat) (hm : P.follows .mixedOrders = true) (hB : Region.lexTailB .any l.toArray n = true)
    (h : ∀ W : World, (∀ p, W.cell? p = w.cell? p) → W.heap.size = w.heap.size → Below w.heap.size w W → wpStill P l.toArray W (fun a' => wpListIn Fence.wide m P l.toArray Q (l.drop n) a' W) (l.take n) a) : (Code.region id l.toArray true).wpIn Fence.wide m P Q a w :=
  wpIn_region_still_tail n hm hB (h (w.drewN 1) (fun _ => rfl) rfl (below_draws (Below.refl _ _) 1))
end
/-- Whatever lies below n₀, but for one block, lies as it lay. -/
structure KeepsBut (n₀ bx : Nat) (W W' : World) : Prop where
  size : W.heap.size ≤ W'.heap.size
  same : ∀ k, k < n₀ → k ≠ bx → W'.heap[k]? = W.heap[k]?
section
variable {n₀ bx : Nat} {W W' W2 : World}
theorem KeepsBut.refl (n₀ bx : Nat) (W : World) : KeepsBut n₀ bx W W := ⟨Nat.le_refl _, fun _ _ _ => rfl⟩
theorem KeepsBut.trans (h : KeepsBut n₀ bx W W') (k : KeepsBut n₀ bx W' W2) : KeepsBut n₀ bx W W2 := ⟨Nat.le_trans h.size k.size, fun i hi hne => (k.same i hi hne).trans (h.same i hi hne)⟩
theorem KeepsBut.of_below (h : Below n₀ W W') : KeepsBut n₀ bx W W' := ⟨h.size, fun k hk _ => h.block k hk⟩
theorem KeepsBut.cell (h : KeepsBut n₀ bx W W') {b : Nat} (o : Nat) (hb : b < n₀) (hne : b ≠ bx) : W'.cell? ⟨b, o, none⟩ = W.cell? ⟨b, o, none⟩ := World.cell?_of_block (h.same b hb hne)
theorem KeepsBut.putObj {w : World} (hn : n₀ ≤ w.heap.size) (W : World) (l : Nat) (o o' : Obj) (hl : w.heap.size ≤ l) (_ : W.heap[l]? = some o) (_ : o.isCells = false) (_ : o.isWalk = false) : KeepsBut n₀ bx W (W.putObj l o') :=
  ⟨by simp, fun k hk _ => World.putObj_heap_other (by omega)⟩
theorem KeepsBut.setCell (W : World) (b o : Nat) (v : Value) (h : n₀ ≤ b ∨ b = bx) : KeepsBut n₀ bx W (W.setCell ⟨b, o, none⟩ v) :=
  ⟨by show W.heap.size ≤ (W.heap.modify _ _).size; rw [Array.size_modify]; exact Nat.le_refl _, fun k hk hne => Below.heap_setCell W _ v k (by show k ≠ b; omega)⟩
theorem Reads.keepB {size n : Nat} {A : Option Addr} {xs : List Value} (h : Reads W n₀ size A n xs) (hne : 0 < n → ∀ x, A = some x → x.block ≠ bx) (hk : KeepsBut n₀ bx W W2) : Reads W2 n₀ size A n xs :=
  ⟨h.1, fun hn => by
    obtain ⟨b, off, e, hb, hc⟩ := h.2 hn
    exact ⟨b, off, e, hb, fun k v hv => (hk.cell _ hb (hne hn _ e)).trans (hc k v hv)⟩⟩
end
end Go.Proofs.Ytfeodclacjolaaa

/- What the program's row of neighbours is. -/
namespace Go.Proofs.Ytfeodclacjolaaa
open Go.RowKit

theorem andNot_is (n : Nat) (g h : Nat → Bool) (hn : n ≤ 16) : bits .andNot .u16 (bitN n g : Nat) (bitN n h : Nat) = (bitN n (fun j => g j && !h j) : Nat) := by
  have ha : bitN n g < 65536 := bitN_16 g hn
  have hb : bitN n h < 65536 := bitN_16 h hn
  have hc : bitN n (fun j => g j && !h j) < 65536 := bitN_16 _ hn
  have key : (BitVec.ofInt 16 ((bitN n g : Nat) : Int) &&& ~~~ BitVec.ofInt 16 ((bitN n h : Nat) : Int)).toNat = bitN n (fun j => g j && !h j) := by
    rw [BitVec.toNat_and, BitVec.toNat_not, ofInt_16 _ ha, ofInt_16 _ hb]
    refine Nat.eq_of_testBit_eq fun j => ?_
    rw [Nat.testBit_and, show 2 ^ 16 - 1 - bitN n h = 2 ^ 16 - (bitN n h + 1) from by omega, Nat.testBit_two_pow_sub_succ (by omega), bitN_test, bitN_test, bitN_test]
    by_cases hj : j < n
    · have : j < 16 := by omega
      simp [hj, this]
    · simp [hj]
  show IntKind.u16.wrap (((BitVec.ofInt 16 ((bitN n g : Nat) : Int) &&& ~~~ BitVec.ofInt 16 ((bitN n h : Nat) : Int)).toNat : Nat) : Int) = _
  rw [key, wrap_16 _ hc]
/-- Below p, and below none of the first k that are below p. -/
def nbrB (F : Nat → Nat → Bool) (p k j : Nat) : Bool := F p j && !((List.range k).any fun b => F p b && F b j)
theorem nbrB_zero (F : Nat → Nat → Bool) (p : Nat) : nbrB F p 0 = F p := by
  funext j
  simp [nbrB]
theorem nbrB_no {F : Nat → Nat → Bool} {p k : Nat} (h : F p k = false) : nbrB F p (k + 1) = nbrB F p k := by
  funext j
  unfold nbrB
  rw [List.range_succ, List.any_append]
  simp [h]
theorem nbrB_yes {F : Nat → Nat → Bool} {p k : Nat} (h : F p k = true) : nbrB F p (k + 1) = fun j => nbrB F p k j && !F k j := by
  funext j
  unfold nbrB
  rw [List.range_succ, List.any_append]
  simp [h, Bool.and_assoc]
theorem nbrB_all (F : Nat → Nat → Bool) (n p : Nat) : nbrB F p n = covB F n p := by
  funext j
  rfl
set_option maxHeartbeats 1000000 in
set_option maxRecDepth 100000 in
theorem nextRow_any (A : Option Addr) (ca n : Nat) (F : Nat → Nat → Bool) (p : Nat) (w : World) (ha : Reads w w.heap.size 1 A n (cellsU (rowsN n F))) (hn : n ≤ 12) (hp : p < n) :
    Calls Try.prog 108 #[.slice A n ca, .int .i64 (p : Int)] w fun e w2 => e = .returned (.int .u16 (bitN n (covB F n p) : Nat)) ∧ w = w2 := by
  have hpi : (p : Int) < (n : Int) := by omega
  obtain ⟨b, off, hA, hbb, hc⟩ := ha.rows (by omega)
  subst hA
  obtain ⟨r, hr⟩ : ∃ r, r = bitN n (F p) := ⟨_, rfl⟩
  have hr2 : r < 65536 := by rw [hr]; exact bitN_16 _ (by omega)
  have c0 := hc p r (by rw [rowsN_at _ hp, hr])
  have HA := Lib.hid (And.intro hc hr)
  clear hc ha hr
  go_enter Try.func108, Try.ntmps108
  go_wp2_with fail
  go_loop [5, 14] (fun v i => ∃ k : Nat, k ≤ n ∧ i = .int .i64 k ∧ v = .int .u16 (bitN n (nbrB F p k) : Nat)) (fun _ i => n - (intOf i).toNat)
  case atStart => exact ⟨0, Nat.zero_le _, rfl, by rw [nbrB_zero, ← HA.out.2]⟩
  case round =>
    obtain ⟨k, hk, rfl, rfl⟩ := hrel
    by_cases hlt : k < n
    · have hki : (k : Int) < (n : Int) := by omega
      obtain ⟨x, hx⟩ : ∃ x, x = bitN n (F k) := ⟨_, rfl⟩
      have c1 := HA.out.1 k x (by rw [rowsN_at _ hlt, hx])
      have hha := fun (W : World) => has_any r k hr2 (by omega) W
      have htb : r.testBit k = F p k := by rw [HA.out.2, bitN_test, decide_eq_true hlt, Bool.true_and]
      rw [htb] at hha
      obtain ⟨s, hs⟩ : ∃ s, s = bitN n (nbrB F p k) := ⟨_, rfl⟩
      rw [← hs]
      cases ht : F p k
      · rw [ht] at hha
        have HB : Hid (s = bitN n (nbrB F p (k + 1))) := by
          show _ = _
          rw [nbrB_no ht, hs]
        have HH := Lib.hid hha
        clear hha htb ht hs hx
        go_wp2_with (go_at_call 75; go_must (refine (HH.out _).mono ?_); rintro e w9 ⟨rfl, rfl⟩)
        go_round
        case rel => exact ⟨k + 1, by omega, by go_num, by rw [← HB.out]⟩
        case measure => simp [intOf]; omega
      · rw [ht] at hha
        have h1 := andNot_is n (nbrB F p k) (F k) (by omega)
        rw [← hs, ← hx, ← nbrB_yes ht] at h1
        obtain ⟨t, ht2⟩ : ∃ t, t = bitN n (nbrB F p (k + 1)) := ⟨_, rfl⟩
        rw [← ht2] at h1
        have HT := Lib.hid ht2
        have HH := Lib.hid hha
        clear hha htb ht hs hx ht2
        go_wp2_with (go_at_call 75; go_must (refine (HH.out _).mono ?_); rintro e w9 ⟨rfl, rfl⟩)
        go_round
        case rel => exact ⟨k + 1, by omega, by go_num, by rw [← HT.out]⟩
        case measure => simp [intOf]; omega
    · have hkl : k = n := by omega
      have HK := Lib.hid hkl
      clear hkl
      go_wp2_with fail
      go_ret
      exact ⟨by rw [HK.out, nbrB_all]; rfl, rfl⟩
end Go.Proofs.Ytfeodclacjolaaa

/- What the program's iterator over the relations of the matrix gives. -/
namespace Go.Proofs.Ytfeodclacjolaaa
open Go.RowKit

/-- What the iterator has captured, in a world: the rows, the groups and the contexts, all in blocks below n₀, none of them the block bx. -/
structure MatMem (n₀ bx bR bG bI : Nat) (Ar Ag Ai : Option Addr) (nR cr cg ci : Nat) (F : Nat → Nat → Bool) (G ids : List Int) (W : World) : Prop where
  far : (bR < n₀ ∧ bR ≠ bx) ∧ (bG < n₀ ∧ bG ≠ bx) ∧ bI < n₀ ∧ bI ≠ bx
  c1 : W.cell? ⟨bR, 0, none⟩ = some (.slice Ar nR cr)
  c2 : W.cell? ⟨bG, 0, none⟩ = some (.slice Ag G.length cg)
  c3 : W.cell? ⟨bI, 0, none⟩ = some (.slice Ai ids.length ci)
  r1 : Reads W n₀ 1 Ar nR (cellsU (rowsN nR F))
  r2 : Reads W n₀ 1 Ag G.length (cellsI G)
  r3 : Reads W n₀ 1 Ai ids.length (cellsI ids)
  n1 : 0 < nR → ∀ x, Ar = some x → x.block ≠ bx
  n2 : 0 < G.length → ∀ x, Ag = some x → x.block ≠ bx
  n3 : 0 < ids.length → ∀ x, Ai = some x → x.block ≠ bx
theorem MatMem.keep {n₀ bx bR bG bI : Nat} {Ar Ag Ai : Option Addr} {nR cr cg ci : Nat} {F : Nat → Nat → Bool} {G ids : List Int} {W W2 : World} (h : MatMem n₀ bx bR bG bI Ar Ag Ai nR cr cg ci F G ids W) (hk : KeepsBut n₀ bx W W2) : MatMem n₀ bx bR bG bI Ar Ag Ai nR cr cg ci F G ids W2 :=
  ⟨h.far, (hk.cell _ h.far.1.1 h.far.1.2).trans h.c1, (hk.cell _ h.far.2.1.1 h.far.2.1.2).trans h.c2, (hk.cell _ h.far.2.2.1 h.far.2.2.2).trans h.c3, h.r1.keepB h.n1 hk, h.r2.keepB h.n2 hk, h.r3.keepB h.n3 hk, h.n1, h.n2, h.n3⟩
def encR (r : Ctx) : Value := .agg #[.int .i64 r.id, .int .i64 r.kind, .int .i64 r.area]
theorem getD_some {G : List Int} {j : Nat} (h : j < G.length) : G[j]? = some (G.getD j 0) := by simp [h]
set_option maxHeartbeats 8000000 in
set_option maxRecDepth 100000 in
theorem matSeq_any {n₀ bx bR bG bI : Nat} {Ar Ag Ai : Option Addr} {nR cr cg ci : Nat} {F : Nat → Nat → Bool} {G ids : List Int} (m : Nat) (w : World) (hM0 : MatMem n₀ bx bR bG bI Ar Ag Ai nR cr cg ci F G ids w) (hn0 : n₀ ≤ w.heap.size) (hn12 : 0 < nR → ids.length ≤ 12)
    (hcase : nR = 0 ∨ nR = ids.length ∧ G.length = ids.length) (hinj : 0 < nR → ∀ i j, i < ids.length → j < ids.length → ids.getD i 0 = ids.getD j 0 → i = j) :
    SeqStopsK Fence.wide m Try.prog 107 #[.pointer (some ⟨bR, 0, none⟩), .pointer (some ⟨bG, 0, none⟩), .pointer (some ⟨bI, 0, none⟩)] (fun r : Ctx => #[.agg #[.int .i64 r.id, .int .i64 r.kind, .int .i64 r.area]]) (KeepsBut n₀ bx) (fun ys => ys = upToQ ids G F nR) (fun _ => True) 400 w := by
  intro l J Jx W hW hJ hJx hY h0
  have hM : MatMem n₀ bx bR bG bI Ar Ag Ai nR cr cg ci F G ids W := hM0.keep (KeepsBut.of_below (hW.mono hn0))
  have hn0W : n₀ ≤ W.heap.size := Nat.le_trans hn0 hW.size
  have hd : ∀ pre (A B : World), J pre A → Below A.heap.size A B → J pre B := fun pre A B hj hb => hJ _ _ _ none hj (grown_of_below hb none) (fun r e => by cases e)
  have HY := Lib.hid (And.intro hY (And.intro hd hinj))
  have HM0 := Lib.hid (And.intro hM (And.intro h0 hn0W))
  clear hY hd hJ hJx hM hM0 h0 hW hn0 hn0W hinj
  refine callsIn_wide.2 ?_
  show Calls Try.prog 107 #[.func (.yield l) #[] #[], .pointer (some ⟨bR, 0, none⟩), .pointer (some ⟨bG, 0, none⟩), .pointer (some ⟨bI, 0, none⟩)] W _
  go_enter Try.func107, Try.ntmps107
  have c1 := HM0.out.1.c1
  go_wp2_with fail
  clear c1
  go_loopw [13] (fun v wr => ∃ i : Nat, i ≤ nR ∧ v = .int .i64 i ∧ n₀ ≤ wr.heap.size ∧ MatMem n₀ bx bR bG bI Ar Ag Ai nR cr cg ci F G ids wr ∧ J (upToQ ids G F i) wr) (fun v _ => nR - (intOf v).toNat)
  case atStart => exact ⟨0, Nat.zero_le _, rfl, HM0.out.2.2, HM0.out.1, by simpa [upToQ] using HM0.out.2.1⟩
  case round =>
    obtain ⟨i, hi, rfl, hsz, hM, hJs⟩ := hrel
    by_cases hli : i < nR
    · have hii : (i : Int) < (nR : Int) := by omega
      obtain ⟨e1, e2⟩ : nR = ids.length ∧ G.length = ids.length := by rcases hcase with h | h; omega; exact h
      have hn : ids.length ≤ 12 := hn12 (by omega)
      have hid : i < ids.length := by omega
      have hidi : (i : Int) < (ids.length : Int) := by omega
      have hgi : (i : Int) < (G.length : Int) := by omega
      obtain ⟨bg, og, hAg, hbg, hcg⟩ := hM.r2.ints (by omega)
      obtain ⟨bd, od, hAd, hbd, hcd⟩ := hM.r3.ints (by omega)
      subst hAg hAd
      obtain ⟨x, hx⟩ : ∃ x, ids.getD i 0 = x := ⟨_, rfl⟩
      obtain ⟨y, hy⟩ : ∃ y, G.getD i 0 = y := ⟨_, rfl⟩
      have f1 := hcg i y (by rw [← hy]; exact getD_some (by omega))
      have f2 := hcd i x (by rw [← hx]; exact getD_some hid)
      have c1 := hM.c1
      have c2 := hM.c2
      have c3 := hM.c3
      have HX := Lib.hid (And.intro hx (And.intro hy (And.intro e1 e2)))
      have HS := Lib.hid (And.intro hM (And.intro hJs hsz))
      clear hx hy e1 e2 hcg hcd hM hJs hsz
      by_cases hxy : y = x
      · have e1 : (y != x) = false := by simp [hxy]
        have HXY := Lib.hid hxy
        clear hxy
        have hnx := fun (W : World) (hW : Below wr.heap.size wr W) => nextRow_any Ar cr nR F i W (((HS.out.1.r1.below (hW.mono HS.out.2.2)).more (Nat.le_trans HS.out.2.2 hW.size))) (by have := HX.out.2.2.1; omega) hli
        obtain ⟨r, hr⟩ : ∃ r, r = bitN nR (covB F nR i) := ⟨_, rfl⟩
        rw [← hr] at hnx
        have hht := fun (j : Nat) (hj : j < nR) (W : World) => has_row (covB F nR) nR i j (by have := HX.out.2.2.1; omega) hj W
        rw [← hr] at hht
        have HN := Lib.hid (And.intro hnx hht)
        clear hnx hht hr
        go_wp2_with fail
        go_quiet (fail)
        go_wp2_with (go_at_call 108; go_must (refine (HN.out.1 _ (below_draws (Below.refl _ _) _)).mono ?_); rintro e w9 ⟨rfl, rfl⟩)
        clear f1 f2 c1 c2 c3
        go_loopw [30] (fun v wq => ∃ j : Nat, j ≤ G.length ∧ v = .int .i64 j ∧ n₀ ≤ wq.heap.size ∧ MatMem n₀ bx bR bG bI Ar (some ⟨bg, og, none⟩) (some ⟨bd, od, none⟩) nR cr cg ci F G ids wq ∧ J (upToQ ids G F i ++ rowQ ids G F i j) wq) (fun v _ => G.length - (intOf v).toNat)
        case atStart =>
          exact ⟨0, Nat.zero_le _, rfl, HS.out.2.2, HS.out.1.keep (KeepsBut.of_below ((below_draws (Below.refl _ _) _))), by simpa [rowQ] using HY.out.2.1 _ _ _ HS.out.2.1 (below_draws (Below.refl _ _) _)⟩
        case round =>
          obtain ⟨j, hj, rfl, hszj, hMj, hJj⟩ := hrel
          by_cases hlj : j < G.length
          · have hgj : (j : Int) < (G.length : Int) := by omega
            have hjd : j < ids.length := by rw [← HX.out.2.2.2]; exact hlj
            have hjdi : (j : Int) < (ids.length : Int) := by omega
            have hjn : j < nR := by rw [HX.out.2.2.1]; exact hjd
            obtain ⟨bg2, og2, hAg2, hbg2, hcg2⟩ := hMj.r2.ints (by omega)
            obtain ⟨bd2, od2, hAd2, hbd2, hcd2⟩ := hMj.r3.ints (by omega)
            injection hAg2 with hAg2
            injection hAg2 with q1 q2 q3
            subst q1 q2
            injection hAd2 with hAd2
            injection hAd2 with q1 q2 q3
            subst q1 q2
            obtain ⟨h, hh⟩ : ∃ h, G.getD j 0 = h := ⟨_, rfl⟩
            obtain ⟨u, hu⟩ : ∃ u, ids.getD j 0 = u := ⟨_, rfl⟩
            obtain ⟨c, hc⟩ : ∃ c, covB F nR i j = c := ⟨_, rfl⟩
            have g1 := hcg2 j h (by rw [← hh]; exact getD_some hlj)
            have g2 := hcd2 j u (by rw [← hu]; exact getD_some hjd)
            have g3 := hcd2 i x (by rw [← HX.out.1]; exact getD_some hid)
            have c2 := hMj.c2
            have c3 := hMj.c3
            have hha := HN.out.2 j hjn
            rw [hc] at hha
            have HJ := Lib.hid (And.intro hMj (And.intro hJj hszj))
            have HC : Hid (cellQ ids G F i j = (if h = x ∧ j ≠ i then [⟨x, u, 2⟩] else []) ++ (if h = u ∧ c = true then [⟨x, u, 1⟩] else [])) := by
              show _ = _
              unfold cellQ
              rw [hh, hu, HX.out.1, ← HX.out.2.2.1, hc]
            have HIJ : Hid (x = u → i = j) := by
              show x = u → i = j
              intro e
              exact HY.out.2.2 (by omega) i j hid hjd (by rw [HX.out.1, hu]; exact e)
            have hlen : (upToQ ids G F i ++ rowQ ids G F i j).length < 398 := by
              have := upToQ_200 (ids := ids) (G := G) (F := F) hn (Nat.le_of_lt hid) (Nat.le_of_lt hjd)
              rw [List.length_append]
              omega
            have HL := Lib.hid hlen
            have HJI : Hid (j = i → u = x) := by
              show j = i → u = x
              intro e
              rw [← hu, e, HX.out.1]
            have HA := Lib.hid hha
            clear hh hu hc hcg2 hcd2 hMj hJj hszj hlen hha
            by_cases hhx : h = x
            · by_cases hji : j = i
              · have k1 : (h == x) = true := by simp [hhx]
                have k2 : ((j : Int) != (i : Int)) = false := by simp [hji]
                have hhu : h = u := hhx.trans (HJI.out hji).symm
                have k3 : (h == u) = true := by simp [hhu]
                cases c
                · have HCe : Hid (cellQ ids G F i j = []) := by
                    show _ = _
                    rw [HC.out, if_neg (fun q => q.2 hji), if_neg (fun q => by cases q.2)]
                    rfl
                  clear hhx hji hhu
                  go_wp2_with (go_at_call 75; go_must (refine (HA.out _).mono ?_); rintro e w9 ⟨rfl, rfl⟩)
                  go_quiet (fail)
                  go_wp2_with fail
                  go_quiet (fail)
                  go_wp2_with fail
                  go_roundw
                  case rel =>
                    have hb9 := fun a : Nat => below_draws (Below.refl wr.heap.size wr) a
                    refine ⟨j + 1, by omega, by go_num, Nat.le_trans HJ.out.2.2 (hb9 _).size, HJ.out.1.keep (KeepsBut.of_below ((hb9 _).mono HJ.out.2.2)), ?_⟩
                    rw [rowQ_next, HCe.out, List.append_nil]
                    exact HY.out.2.1 _ _ _ HJ.out.2.1 (hb9 _)
                  case measure => simp [intOf]; omega
                · have HCe : Hid (cellQ ids G F i j = [⟨x, u, 1⟩]) := by
                    show _ = _
                    rw [HC.out, if_neg (fun q => q.2 hji), if_pos ⟨hhu, rfl⟩]
                    rfl
                  clear hhx hji hhu
                  go_wp2_with (go_at_call 75; go_must (refine (HA.out _).mono ?_); rintro e w9 ⟨rfl, rfl⟩)
                  go_quiet (fail)
                  go_wp2_with fail
                  refine (wpIn_wide (n := m)).1 ?_
                  refine region_tail_in 12 (by kernel_rfl) (by kernel_rfl) ?_
                  intro V hV hzz hbV
                  simp only [List.take_succ_cons, List.take_zero, List.drop_succ_cons, List.drop_zero]
                  refine Shut.out ?_
                  iterate 12
                    refine still_stepH (fun K hK => ?_)
                    go_simp
                    refine hK _ ?_
                    clear hK K
                  refine still_nilH ?_
                  have HV : Hid (J (upToQ ids G F i ++ rowQ ids G F i j) V ∧ MatMem n₀ bx bR bG bI Ar (some ⟨bg, og, none⟩) (some ⟨bd, od, none⟩) nR cr cg ci F G ids V ∧ n₀ ≤ V.heap.size) := by
                    have hb9 : Below wr.heap.size wr V := below_step (below_draws (Below.refl wr.heap.size wr) _) hbV
                    exact ⟨HY.out.2.1 _ _ _ HJ.out.2.1 hb9, HJ.out.1.keep (KeepsBut.of_below (hb9.mono HJ.out.2.2)), Nat.le_trans HJ.out.2.2 hb9.size⟩
                  obtain ⟨fn, tmps, assign, body, hy, hR⟩ := HY.out.1 _ (⟨x, u, 1⟩ : Ctx) V HV.out.1 (by have := HL.out; omega)
                  dsimp only at hy
                  clear hV hzz hbV g1 g2 g3 c2 c3
                  gi_wp2_with fail
                  refine ⟨fun hd => (by cases hd), hR.mono ?_⟩
                  rintro e W3 (⟨rfl, hJ3, hk3⟩ | ⟨rfl, hJx3⟩)
                  · have HE := Lib.hid (And.intro hJ3 hk3)
                    clear hy hR hJ3 hk3
                    gi_wp2_with fail
                    go_wp2_with fail
                    go_roundw
                    case rel =>
                      refine ⟨j + 1, by omega, by go_num, Nat.le_trans HV.out.2.2 HE.out.2.size, HV.out.2.1.keep HE.out.2, ?_⟩
                      rw [rowQ_next, HCe.out, ← List.append_assoc]
                      exact HE.out.1
                    case measure => simp [intOf]; omega
                  · have HE := Lib.hid hJx3
                    clear hy hR hJx3
                    gi_wp2_with fail
                    go_wp2_with fail
                    refine bodyPost_ret (results_none rfl _ _ _) rfl ?_
                    exact ⟨⟨_, rfl⟩, .inr ⟨_, trivial, HE.out⟩⟩
              · have k1 : (h == x) = true := by simp [hhx]
                have k2 : ((j : Int) != (i : Int)) = true := by rw [bne_iff_ne]; omega
                have hhu : ¬ h = u := fun e => hji (HIJ.out (hhx.symm.trans e)).symm
                have k3 : (h == u) = false := by simp [hhu]
                have HCe : Hid (cellQ ids G F i j = [⟨x, u, 2⟩]) := by
                  show _ = _
                  rw [HC.out, if_pos ⟨hhx, hji⟩, if_neg (fun q => hhu q.1)]
                  rfl
                clear hhx hji hhu
                go_wp2_with (go_at_call 75; go_must (refine (HA.out _).mono ?_); rintro e w9 ⟨rfl, rfl⟩)
                refine (wpIn_wide (n := m)).1 ?_
                refine region_tail_in 12 (by kernel_rfl) (by kernel_rfl) ?_
                intro V hV hzz hbV
                simp only [List.take_succ_cons, List.take_zero, List.drop_succ_cons, List.drop_zero]
                refine Shut.out ?_
                iterate 12
                  refine still_stepH (fun K hK => ?_)
                  go_simp
                  refine hK _ ?_
                  clear hK K
                refine still_nilH ?_
                have HV : Hid (J (upToQ ids G F i ++ rowQ ids G F i j) V ∧ MatMem n₀ bx bR bG bI Ar (some ⟨bg, og, none⟩) (some ⟨bd, od, none⟩) nR cr cg ci F G ids V ∧ n₀ ≤ V.heap.size) := by
                  have hb9 : Below wr.heap.size wr V := hbV
                  exact ⟨HY.out.2.1 _ _ _ HJ.out.2.1 hb9, HJ.out.1.keep (KeepsBut.of_below (hb9.mono HJ.out.2.2)), Nat.le_trans HJ.out.2.2 hb9.size⟩
                obtain ⟨fn, tmps, assign, body, hy, hR⟩ := HY.out.1 _ (⟨x, u, 2⟩ : Ctx) V HV.out.1 (by have := HL.out; omega)
                dsimp only at hy
                clear hV hzz hbV g1 g2 g3 c2 c3
                gi_wp2_with fail
                refine ⟨fun hd => (by cases hd), hR.mono ?_⟩
                rintro e W3 (⟨rfl, hJ3, hk3⟩ | ⟨rfl, hJx3⟩)
                · have HE := Lib.hid (And.intro hJ3 hk3)
                  clear hy hR hJ3 hk3
                  gi_wp2_with fail
                  go_wp2_with fail
                  go_quiet (fail)
                  go_wp2_with fail
                  go_roundw
                  case rel =>
                    refine ⟨j + 1, by omega, by go_num, Nat.le_trans (Nat.le_trans HV.out.2.2 HE.out.2.size) (below_draws (Below.refl W3.heap.size W3) _).size, (HV.out.2.1.keep HE.out.2).keep (KeepsBut.of_below (below_draws (Below.refl _ _) _)), ?_⟩
                    rw [rowQ_next, HCe.out, ← List.append_assoc]
                    exact HY.out.2.1 _ _ _ HE.out.1 (below_draws (Below.refl _ _) _)
                  case measure => simp [intOf]; omega
                · have HE := Lib.hid hJx3
                  clear hy hR hJx3
                  gi_wp2_with fail
                  go_wp2_with fail
                  refine bodyPost_ret (results_none rfl _ _ _) rfl ?_
                  exact ⟨⟨_, rfl⟩, .inr ⟨_, trivial, HE.out⟩⟩
            · have k1 : (h == x) = false := by simp [hhx]
              by_cases hhu : h = u
              · have k3 : (h == u) = true := by simp [hhu]
                cases c
                · have HCe : Hid (cellQ ids G F i j = []) := by
                    show _ = _
                    rw [HC.out, if_neg (fun q => hhx q.1), if_neg (fun q => by cases q.2)]
                    rfl
                  clear hhx hhu
                  go_wp2_with (go_at_call 75; go_must (refine (HA.out _).mono ?_); rintro e w9 ⟨rfl, rfl⟩)
                  go_quiet (fail)
                  go_wp2_with fail
                  go_quiet (fail)
                  go_wp2_with fail
                  go_roundw
                  case rel =>
                    have hb9 := fun a : Nat => below_draws (Below.refl wr.heap.size wr) a
                    refine ⟨j + 1, by omega, by go_num, Nat.le_trans HJ.out.2.2 (hb9 _).size, HJ.out.1.keep (KeepsBut.of_below ((hb9 _).mono HJ.out.2.2)), ?_⟩
                    rw [rowQ_next, HCe.out, List.append_nil]
                    exact HY.out.2.1 _ _ _ HJ.out.2.1 (hb9 _)
                  case measure => simp [intOf]; omega
                · have HCe : Hid (cellQ ids G F i j = [⟨x, u, 1⟩]) := by
                    show _ = _
                    rw [HC.out, if_neg (fun q => hhx q.1), if_pos ⟨hhu, rfl⟩]
                    rfl
                  clear hhx hhu
                  go_wp2_with (go_at_call 75; go_must (refine (HA.out _).mono ?_); rintro e w9 ⟨rfl, rfl⟩)
                  go_quiet (fail)
                  go_wp2_with fail
                  refine (wpIn_wide (n := m)).1 ?_
                  refine region_tail_in 12 (by kernel_rfl) (by kernel_rfl) ?_
                  intro V hV hzz hbV
                  simp only [List.take_succ_cons, List.take_zero, List.drop_succ_cons, List.drop_zero]
                  refine Shut.out ?_
                  iterate 12
                    refine still_stepH (fun K hK => ?_)
                    go_simp
                    refine hK _ ?_
                    clear hK K
                  refine still_nilH ?_
                  have HV : Hid (J (upToQ ids G F i ++ rowQ ids G F i j) V ∧ MatMem n₀ bx bR bG bI Ar (some ⟨bg, og, none⟩) (some ⟨bd, od, none⟩) nR cr cg ci F G ids V ∧ n₀ ≤ V.heap.size) := by
                    have hb9 : Below wr.heap.size wr V := below_step (below_draws (Below.refl wr.heap.size wr) _) hbV
                    exact ⟨HY.out.2.1 _ _ _ HJ.out.2.1 hb9, HJ.out.1.keep (KeepsBut.of_below (hb9.mono HJ.out.2.2)), Nat.le_trans HJ.out.2.2 hb9.size⟩
                  obtain ⟨fn, tmps, assign, body, hy, hR⟩ := HY.out.1 _ (⟨x, u, 1⟩ : Ctx) V HV.out.1 (by have := HL.out; omega)
                  dsimp only at hy
                  clear hV hzz hbV g1 g2 g3 c2 c3
                  gi_wp2_with fail
                  refine ⟨fun hd => (by cases hd), hR.mono ?_⟩
                  rintro e W3 (⟨rfl, hJ3, hk3⟩ | ⟨rfl, hJx3⟩)
                  · have HE := Lib.hid (And.intro hJ3 hk3)
                    clear hy hR hJ3 hk3
                    gi_wp2_with fail
                    go_wp2_with fail
                    go_roundw
                    case rel =>
                      refine ⟨j + 1, by omega, by go_num, Nat.le_trans HV.out.2.2 HE.out.2.size, HV.out.2.1.keep HE.out.2, ?_⟩
                      rw [rowQ_next, HCe.out, ← List.append_assoc]
                      exact HE.out.1
                    case measure => simp [intOf]; omega
                  · have HE := Lib.hid hJx3
                    clear hy hR hJx3
                    gi_wp2_with fail
                    go_wp2_with fail
                    refine bodyPost_ret (results_none rfl _ _ _) rfl ?_
                    exact ⟨⟨_, rfl⟩, .inr ⟨_, trivial, HE.out⟩⟩
              · have k3 : (h == u) = false := by simp [hhu]
                have HCe : Hid (cellQ ids G F i j = []) := by
                  show _ = _
                  rw [HC.out, if_neg (fun q => hhx q.1), if_neg (fun q => hhu q.1)]
                  rfl
                clear hhx hhu
                go_wp2_with (go_at_call 75; go_must (refine (HA.out _).mono ?_); rintro e w9 ⟨rfl, rfl⟩)
                go_quiet (fail)
                go_wp2_with fail
                go_quiet (fail)
                go_wp2_with fail
                go_roundw
                case rel =>
                  have hb9 := fun a : Nat => below_draws (Below.refl wr.heap.size wr) a
                  refine ⟨j + 1, by omega, by go_num, Nat.le_trans HJ.out.2.2 (hb9 _).size, HJ.out.1.keep (KeepsBut.of_below ((hb9 _).mono HJ.out.2.2)), ?_⟩
                  rw [rowQ_next, HCe.out, List.append_nil]
                  exact HY.out.2.1 _ _ _ HJ.out.2.1 (hb9 _)
                case measure => simp [intOf]; omega
          · have hjn : j = G.length := by omega
            have HZ := Lib.hid (And.intro hjn (And.intro hszj (And.intro hMj hJj)))
            clear hjn hszj hMj hJj
            go_wp2_with fail
            go_roundw
            case rel =>
              obtain ⟨hjn, hszj, hMj, hJj⟩ := HZ.out
              refine ⟨i + 1, by omega, by go_num, hszj, hMj, ?_⟩
              rw [upToQ_next, if_pos (by rw [HX.out.2.1, HX.out.1]; exact HXY.out), ← HX.out.2.2.2, ← hjn]
              exact hJj
            case measure => simp [intOf]; omega
      · have e1 : (y != x) = true := by simp [hxy]
        have HXY := Lib.hid hxy
        clear hxy
        go_wp2_with fail
        go_quiet (fail)
        go_wp2_with fail
        go_roundw
        case rel =>
          refine ⟨i + 1, by omega, by go_num, Nat.le_trans HS.out.2.2 (below_draws (Below.refl wr.heap.size wr) _).size, HS.out.1.keep (KeepsBut.of_below (below_draws (Below.refl _ _) _)), ?_⟩
          rw [upToQ_next, if_neg (by rw [HX.out.2.1, HX.out.1]; exact HXY.out), List.append_nil]
          exact HY.out.2.1 _ _ _ HS.out.2.1 (below_draws (Below.refl _ _) _)
        case measure => simp [intOf]; omega
    · have hin : i = nR := by omega
      have HZ := Lib.hid (And.intro hin hJs)
      clear hin hJs hM
      go_wp2_with fail
      go_end0
      exact ⟨⟨_, rfl⟩, .inl ⟨_, by rw [HZ.out.1], HZ.out.2⟩⟩
end Go.Proofs.Ytfeodclacjolaaa

/- What the program's maker of the iterator over the matrix returns. -/
namespace Go.Proofs.Ytfeodclacjolaaa
open Go.RowKit

theorem vN_groups (ids : List Int) (l : List Ctx) : vN ids l = 0 ∨ vN ids l = ids.length ∧ (groupsOfG ids l).length = ids.length := by
  cases h : ordOkG ids l
  · exact .inl (vN_no h)
  · right
    refine ⟨vN_ok h, ?_⟩
    rw [groupsOfG, if_pos (ordOk_ok h), groupsG_len]
theorem upTo_mat (ids : List Int) (l : List Ctx) : upToQ ids (groupsOfG ids l) (ordF ids l) (vN ids l) = matS ids l := by
  cases h : ordOkG ids l
  · rw [vN_no h, matS_no h]; rfl
  · rw [vN_ok h, matS_ok h, ← matQ_eq (ordOk_ok h), groupsOfG, if_pos (ordOk_ok h)]; rfl
theorem own_block {w : World} {base e size n m c : Nat} {A : Option Addr} {x : Addr} {xs : List Value} (h : w.ownsRow base e size (.slice A n c) m xs) (hx : A = some x) : base ≤ x.block ∧ x.block < w.heap.size := by
  rcases h.2 with ⟨he, _⟩ | ⟨g, cap, cur, he, hb, hh, _⟩
  · rw [hx] at he; cases he
  · injection he with h1
    rw [hx] at h1
    injection h1 with h1
    subst h1
    exact ⟨hb, (Array.getElem?_eq_some_iff.1 hh).1⟩
def RelsSeq (w : World) (A : Option Addr) (ca : Nat) (ids : List Int) (l : List Ctx) (e : Ending) (w2 : World) : Prop :=
  ∃ bR bG bI Ar Ag cr cg, e = .returned (.func (.func 107) #[] #[.pointer (some ⟨bR, 0, none⟩), .pointer (some ⟨bG, 0, none⟩), .pointer (some ⟨bI, 0, none⟩)]) ∧ Below w.heap.size w w2 ∧
    ∀ bx, (bx < w.heap.size ∨ w2.heap.size ≤ bx) → (0 < ids.length → ∀ x, A = some x → x.block ≠ bx) → MatMem w2.heap.size bx bR bG bI Ar Ag A (vN ids l) cr cg ca (ordF ids l) (groupsOfG ids l) ids w2
set_option maxHeartbeats 1600000 in
set_option maxRecDepth 100000 in
theorem iMatRels_any (A B : Option Addr) (ca cb : Nat) (ids : List Int) (l : List Ctx) (w : World) (ha : Reads w w.heap.size 1 A ids.length (cellsI ids)) (hb : Reads w w.heap.size 3 B l.length (cellsC l)) (hn : ids.length ≤ 1000000000) (hl : l.length ≤ 1000000000) :
    Calls Try.prog 81 #[.slice A ids.length ca, .slice B l.length cb] w (RelsSeq w A ca ids l) := by
  have hvr := fun (W : World) (hW : Below w.heap.size w W) => iVRows_any A B ca cb ids l W (ha.step hW) (hb.step hW) hn hl
  have hgr := fun (W : World) (hW : Below w.heap.size w W) => iGroups_any A B ca cb ids l W (ha.step hW) (hb.step hW) (by omega) (by omega)
  have hb1 : Below w.heap.size w (w.alloc (.cells #[.slice A ids.length ca] 23)) := (Below.refl _ _).alloc (Nat.le_refl _) _
  have HV := Lib.hid (And.intro hvr (And.intro hgr (And.intro hb1 ha)))
  clear hvr hgr ha hb hb1
  go_enter Try.func81, Try.ntmps81
  go_wp2_with fail
  refine (HV.out.1 _ HV.out.2.2.1).mono ?_
  rintro e w2 ⟨v2, rfl, hb2, ho2⟩
  obtain ⟨A2, c2, rfl, _, hr2⟩ := Reads.of_own ho2
  have c0 : w2.cell? ⟨w.heap.size, 0, none⟩ = some (.slice A ids.length ca) := (hb2.cell (p := ⟨w.heap.size, 0, none⟩) (by simp)).trans (by simp)
  have k2 := below_step HV.out.2.2.1 hb2
  have hs2 : w.heap.size < w2.heap.size := by have := hb2.size; simp at this; omega
  have k3 := k2.alloc k2.size (.cells #[.slice A2 (vN ids l) c2] 76)
  have c1 : (w2.alloc (.cells #[.slice A2 (vN ids l) c2] 76)).cell? ⟨w.heap.size, 0, none⟩ = some (.slice A ids.length ca) := (((Below.refl _ w2).alloc (Nat.le_refl _) _).cell (p := ⟨w.heap.size, 0, none⟩) hs2).trans c0
  have HR := Lib.hid (And.intro ho2 (And.intro hr2 (And.intro k2 (And.intro hb2 (And.intro k3 c0)))))
  clear ho2 hr2 k2 hb2 k3 c0
  go_wp2_with fail
  refine (HV.out.2.1 _ HR.out.2.2.2.2.1).mono ?_
  rintro e w3 ⟨v3, rfl, hb3, ho3⟩
  obtain ⟨A3, c3, rfl, _, hr3⟩ := Reads.of_own ho3
  have H3 := Lib.hid (And.intro ho3 (And.intro hr3 hb3))
  clear ho3 hr3 hb3
  go_wp2_with fail
  go_ret
  obtain ⟨ho2, hr2, k2, hb2, k3, c0⟩ := HR.out
  obtain ⟨ho3, hr3, hb3⟩ := H3.out
  have hs3 := hb3.size
  simp only [World.size_alloc] at hs3
  have k4 : Below (w2.alloc (.cells #[.slice A2 (vN ids l) c2] 76)).heap.size (w2.alloc (.cells #[.slice A2 (vN ids l) c2] 76)) (w3.alloc (.cells #[.slice A3 (groupsOfG ids l).length c3] 23)) := hb3.alloc hb3.size _
  have k24 : Below w2.heap.size w2 (w3.alloc (.cells #[.slice A3 (groupsOfG ids l).length c3] 23)) := below_alloc_step (Below.refl _ _) k4
  refine ⟨w2.heap.size, w3.heap.size, w.heap.size, A2, A3, c2, c3, rfl, below_step k2 k24, fun bx hbx hne => ⟨⟨⟨?_, ?_⟩, ⟨?_, ?_⟩, ?_, ?_⟩, ?_, ?_, ?_, ?_, ?_, ?_, ?_, ?_, fun h0 => hne h0⟩⟩
  · simp; omega
  · simp at hbx; omega
  · simp
  · simp at hbx; omega
  · simp; omega
  · simp at hbx; omega
  · exact (k4.cell (p := ⟨w2.heap.size, 0, none⟩) (by simp)).trans (by simp)
  · simp
  · exact (k24.cell (p := ⟨w.heap.size, 0, none⟩) hs2).trans c0
  · exact hr2.step k24
  · exact hr3.step ((Below.refl _ _).alloc (Nat.le_refl _) _)
  · exact HV.out.2.2.2.step (below_step k2 k24)
  · intro h0 x hx
    obtain ⟨q1, q2⟩ := own_block ho2 hx
    simp at q1 hbx
    omega
  · intro h0 x hx
    obtain ⟨q1, q2⟩ := own_block ho3 hx
    simp at q1 hbx
    omega
end Go.Proofs.Ytfeodclacjolaaa

/- What the library's collecting of the relations of the matrix returns. -/
namespace Go.Proofs.Ytfeodclacjolaaa
open Go.RowKit Go.Shelf

attribute [local go_sem] Oper.semAt_some

theorem cell3_new (w : World) (a b c : Value) (t : TypeId) : ∀ j u, [a, b, c][j]? = some u → (w.alloc (.cells #[a, b, c] t)).cell? ((⟨w.heap.size, 0, none⟩ : Addr).add j) = some u := by
  intro j u hj
  match j, hj with
  | 0, hj => simp at hj; subst hj; simp [Addr.add]
  | 1, hj => simp at hj; subst hj; simp [Addr.add]
  | 2, hj => simp at hj; subst hj; simp [Addr.add]
/-- A variable that holds a relation. -/
def Box3 (W : World) (B : Nat) (t : TypeId) (r : Ctx) : Prop := W.heap[B]? = some (.cells #[.int .i64 r.id, .int .i64 r.kind, .int .i64 r.area] t (0, 0))
theorem Box3.lt {W : World} {B : Nat} {t : TypeId} {r : Ctx} (h : Box3 W B t r) : B < W.heap.size := (Array.getElem?_eq_some_iff.1 h).1
theorem Box3.cells {W : World} {B : Nat} {t : TypeId} {r : Ctx} (h : Box3 W B t r) : W.cell? ⟨B, 0, none⟩ = some (.int .i64 r.id) ∧ W.cell? ⟨B, 1, none⟩ = some (.int .i64 r.kind) ∧ W.cell? ⟨B, 2, none⟩ = some (.int .i64 r.area) := by
  refine ⟨?_, ?_, ?_⟩ <;> simp [World.cell?, show W.heap[B]? = _ from h]
theorem Box3.kept {W W' : World} {row : Option Nat} {B : Nat} {t : TypeId} {r : Ctx} (h : Box3 W B t r) (hg : W.grownBy W' row) (hne : some B ≠ row) : Box3 W' B t r := (hg.block B h.lt hne).trans h
theorem box3_own {B : Nat} {t : TypeId} {r : Ctx} {X Y : World} {row : Option Nat} (h : Box3 X B t r) (hg : X.grownBy Y row) (hr : ∀ b, row = some b → ∃ o : Obj, X.heap[b]? = some o ∧ o.isCells = false) : Box3 Y B t r :=
  h.kept hg fun e => by
    obtain ⟨o, ho, hc⟩ := hr B e.symm
    rw [show X.heap[B]? = _ from h] at ho
    cases ho
    cases hc
theorem Box3.new (W : World) (t : TypeId) (r : Ctx) : Box3 (W.alloc (.cells #[.int .i64 r.id, .int .i64 r.kind, .int .i64 r.area] t)) W.heap.size t r := World.alloc_heap_new W _
set_option maxHeartbeats 4000000 in
set_option maxRecDepth 100000 in
theorem appSeq_any {n₀ bx bR bG bI : Nat} {Ar Ag Ai : Option Addr} {nR cr cg ci : Nat} {F : Nat → Nat → Bool} {G ids : List Int} (w : World) (hM0 : MatMem n₀ bx bR bG bI Ar Ag Ai nR cr cg ci F G ids w) (hn0 : n₀ ≤ w.heap.size) (hn : 0 < nR → ids.length ≤ 12)
    (hcase : nR = 0 ∨ nR = ids.length ∧ G.length = ids.length) (hinj : 0 < nR → ∀ i j, i < ids.length → j < ids.length → ids.getD i 0 = ids.getD j 0 → i = j) :
    Calls Try.prog 106 #[.slice none 0 0, .func (.func 107) #[] #[.pointer (some ⟨bR, 0, none⟩), .pointer (some ⟨bG, 0, none⟩), .pointer (some ⟨bI, 0, none⟩)]] w (ListR w (upToQ ids G F nR)) := by
  obtain ⟨i0, hi0, hz0, hz1, hz2⟩ := info_parts infoRel
  obtain ⟨W0, hW0⟩ : ∃ W0, w.alloc (.cells #[.slice none 0 0] 24) = W0 := ⟨_, rfl⟩
  have hB0 : Below w.heap.size w W0 := by rw [← hW0]; exact (Below.refl _ _).alloc (Nat.le_refl _) _
  have hbO : Boxed W0 w.heap.size 24 (.slice none 0 0) := by rw [← hW0]; exact Boxed.new w _ _
  have hs0 : W0.heap.size = w.heap.size + 1 := by rw [← hW0]; simp
  have hseq := fun (m : Nat) => matSeq_any m W0 (hM0.keep (KeepsBut.of_below (hB0.mono hn0))) (Nat.le_trans hn0 hB0.size) hn hcase hinj
  refine (callsIn_wide (n := 5)).1 ?_
  refine callsIn_of_wp_marks Try.func106 rfl trivial ?_ rfl
  simp only [Try.ntmps106, List.size_toArray, List.length_cons, List.length_nil, Nat.reduceAdd, Nat.reduceSub, Array.replicate_succ, Array.replicate_zero, List.push_toArray, List.append_toArray, List.nil_append, List.cons_append]
  gi_wp2
  refine wpIn_rangeFunc_ownH rfl (by omega) (gf := 107) (lb := #[.pointer (some ⟨bR, 0, none⟩), .pointer (some ⟨bG, 0, none⟩), .pointer (some ⟨bI, 0, none⟩)]) rfl trivial (enters_of Try.func107 (by kernel_rfl) rfl)
    (hseq _) (fun h k => h.trans k) (KeepsBut.putObj (by omega)) (Below.refl _ _) (fun _ => rfl)
    (fun pre W => (∃ v, Boxed W w.heap.size 24 v ∧ W.ownsRow w.heap.size 106 3 v pre.length (cellsC pre) ∧ True) ∧ Below w.heap.size w W)
    (fun _ _ _ => False)
    (OwnFrom.and (Own.from (holdsRow_own w.heap.size w.heap.size 24 106 3 (fun pre => pre.length) (fun pre => cellsC pre) (fun _ _ => True)) _) (ownFrom_below (Nat.le_refl _) (by omega)))
    (fun _ _ _ _ _ hs _ _ => hs)
    ⟨⟨_, hbO, World.ownsRow_nil _ _ _ _, trivial⟩, hB0⟩
    (fun r a' W => ∃ Bx, w.heap.size < Bx ∧ Box3 W Bx 106 r ∧ a' = { tmps := #[.slice none 0 0, .func (.func 107) #[] #[.pointer (some ⟨bR, 0, none⟩), .pointer (some ⟨bG, 0, none⟩), .pointer (some ⟨bI, 0, none⟩)], .pointer (some ⟨w.heap.size, 0, none⟩), undef, .slice none 0 0, .pointer (some ⟨Bx, 0, none⟩), .func (.func 107) #[] #[.pointer (some ⟨bR, 0, none⟩), .pointer (some ⟨bG, 0, none⟩), .pointer (some ⟨bI, 0, none⟩)], .agg #[.int .i64 r.id, .int .i64 r.kind, .int .i64 r.area], undef, undef, undef, undef, undef], defers := [] })
    (fun x a' _ X Y row hs hg hr => by obtain ⟨Bx, h1, h2, h3⟩ := hs; exact ⟨Bx, h1, box3_own h2 hg (fun r e => (hr r e).2), h3⟩)
    ?assign ?body ?done ?stop
  case assign =>
    rintro l pre x W K ⟨⟨v, hv, hrow, _⟩, hB1⟩ hK
    gi_wp2
    have hnW : n₀ ≤ W.heap.size := Nat.le_trans hn0 hB1.size
    exact hK _ _ ((KeepsOthers.alloc _ _).from _) (KeepsBut.of_below ((Below.refl _ W).alloc hnW _)) ⟨⟨v, hv.alloc _, hrow.alloc _, trivial⟩, hB1.alloc hB1.size _⟩ ⟨W.heap.size, hv.lt, Box3.new W _ x, rfl⟩
  case body =>
    rintro l pre r a' W hl ⟨lr, hlr⟩ ⟨⟨v, hv, hrow, _⟩, hB1⟩ ⟨Bx, hBx, hcb, rfl⟩ hlt
    obtain ⟨q0, q1, q2⟩ := hcb.cells
    have hc := hv.cell
    clear hseq hM0
    gi_wp2_with (gi_at_builtin; refine wpListIn_append_own _ rfl _ _ 24 rfl w.heap.size 106 i0 _ 3 24 Try.underlying24 hi0 hz0 hz1 hz2 rfl (by decide) v pre.length (cellsC pre) rfl (hrow.alloc _) ⟨W.heap.size, 0, none⟩ 1 1 [.int .i64 r.id, .int .i64 r.kind, .int .i64 r.area] rfl rfl (cell3_new _ _ _ _ _) (by simp [Value.oneCell']) (by simp only [maxLen]; omega) (by omega) (by have := hB1.size; simp; omega) ?_; intro v' w1 hown' hgrow _; obtain ⟨g', cap', rfl⟩ := ownsRow_succ hown'; obtain ⟨hv1, hv2, hr2, hk2, hb2⟩ := hv.appended (by decide) hrow hB1.size (Nat.le_refl _) hown' hgrow; have hc1 := hv1.cell; have hf1 := hv1.frozen)
    exact ⟨hk2.from _, KeepsBut.of_below (hb2.mono hn0), ⟨_, hv2, by rw [List.length_append, cellsC_append]; exact hr2, trivial⟩, hB1.trans hb2⟩
  case done =>
    rintro D ys W hD rfl ⟨⟨v, hv, hrow, _⟩, hB1⟩ hK
    have hc := hv.cell
    gi_wp2
    refine ⟨by simp, .inl ⟨_, _, rfl, run_takeDeferred hK, ?_⟩⟩
    exact ⟨_, results_tmp rfl _ _ _, v, rfl, hB1.trans (belowK_b (w := w) (Nat.le_refl _) W D _ _ (by omega) hK rfl rfl), ownsRow_putObj hrow _ hK rfl⟩
  case stop =>
    rintro D c pre W _ _ h _
    exact h.elim
end Go.Proofs.Ytfeodclacjolaaa

/- What the program's matrix returns. -/
namespace Go.Proofs.Ytfeodclacjolaaa
open Go.RowKit

theorem vN_12 (ids : List Int) (l : List Ctx) (h : 0 < vN ids l) : ids.length ≤ 12 := by
  cases ho : ordOkG ids l
  · rw [vN_no ho] at h; omega
  · exact validO_len (okG_parts (ordOk_ok ho)).1
theorem vN_inj (ids : List Int) (l : List Ctx) (h : 0 < vN ids l) (i j : Nat) (hi : i < ids.length) (hj : j < ids.length) (e : ids.getD i 0 = ids.getD j 0) : i = j := by
  cases ho : ordOkG ids l
  · rw [vN_no ho] at h; omega
  · exact ids_inj (okG_parts (ordOk_ok ho)).1 hi hj e
theorem reads_block {w : World} {B size n : Nat} {A : Option Addr} {xs : List Value} (h : Reads w B size A n xs) (h0 : 0 < n) (x : Addr) (hx : A = some x) : x.block < B := by
  obtain ⟨b, off, e, hb, _⟩ := h.2 h0
  rw [hx] at e
  injection e with e
  subst e
  exact hb
set_option maxHeartbeats 800000 in
set_option maxRecDepth 100000 in
theorem collect_any {n₀ bx bR bG bI : Nat} {Ar Ag Ai : Option Addr} {nR cr cg ci : Nat} {F : Nat → Nat → Bool} {G ids : List Int} (w : World) (hM0 : MatMem n₀ bx bR bG bI Ar Ag Ai nR cr cg ci F G ids w) (hn0 : n₀ ≤ w.heap.size) (hn : 0 < nR → ids.length ≤ 12)
    (hcase : nR = 0 ∨ nR = ids.length ∧ G.length = ids.length) (hinj : 0 < nR → ∀ i j, i < ids.length → j < ids.length → ids.getD i 0 = ids.getD j 0 → i = j) :
    Calls Try.prog 80 #[.func (.func 107) #[] #[.pointer (some ⟨bR, 0, none⟩), .pointer (some ⟨bG, 0, none⟩), .pointer (some ⟨bI, 0, none⟩)]] w (ListR w (upToQ ids G F nR)) := by
  have HA := Lib.hid (appSeq_any w hM0 hn0 hn hcase hinj)
  clear hM0 hinj hcase hn0
  go_enter Try.func80, Try.ntmps80
  go_wp2_with fail
  refine HA.out.mono ?_
  rintro e w2 ⟨v2, rfl, k2, o2⟩
  go_wp2_with fail
  go_ret
  exact ⟨_, rfl, k2, o2⟩
set_option maxHeartbeats 800000 in
set_option maxRecDepth 100000 in
theorem iMatrixOf_any (A B : Option Addr) (ca cb : Nat) (ids : List Int) (l : List Ctx) (w : World) (ha : Reads w w.heap.size 1 A ids.length (cellsI ids)) (hb : Reads w w.heap.size 3 B l.length (cellsC l)) (hn : ids.length ≤ 1000000000) (hl : l.length ≤ 1000000000) :
    Calls Try.prog 29 #[.slice A ids.length ca, .slice B l.length cb] w (PairR w (matS ids l) (ordOkG ids l)) := by
  have hmr := iMatRels_any A B ca cb ids l w ha hb hn hl
  have hov := fun (W : World) (hW : Below w.heap.size w W) => iOrdValid_any A B ca cb ids l W (ha.step hW) (hb.step hW) hn hl
  have HM := Lib.hid (And.intro hmr (And.intro hov ha))
  clear hmr hov ha hb
  go_enter Try.func29, Try.ntmps29
  go_wp2_with fail
  refine HM.out.1.mono ?_
  rintro e w2 ⟨bR, bG, bI, Ar, Ag, cr, cg, rfl, k2, hM⟩
  have hco := collect_any w2 (hM w2.heap.size (.inr (Nat.le_refl _)) (fun h0 x hx e => by have := reads_block HM.out.2.2 h0 x hx; have := k2.size; omega)) (Nat.le_refl _) (vN_12 ids l) (vN_groups ids l) (vN_inj ids l)
  rw [upTo_mat] at hco
  have HC := Lib.hid (And.intro hco k2)
  clear hco k2 hM
  go_wp2_with fail
  refine HC.out.1.mono ?_
  rintro e w3 ⟨v3, rfl, k3, o3⟩
  have HK := Lib.hid (And.intro (below_step HC.out.2 k3) o3)
  clear k3 o3
  go_wp2_with fail
  refine (HM.out.2.1 _ HK.out.1).mono ?_
  rintro e w4 ⟨rfl, k4⟩
  go_wp2_with fail
  go_ret2
  exact ⟨_, rfl, below_step HK.out.1 k4, own_less (own_below HK.out.2 k4) HC.out.2.size⟩
end Go.Proofs.Ytfeodclacjolaaa
