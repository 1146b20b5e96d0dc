/- What the program's list of what lies directly below returns. -/
import Derived.Test.YtjkjnicgbfpjiaaIi
import Derived.Test.YtjkjnicgbfpjiaaGx
import Derived.Test.YtjkjnicgbfpjiaaMp
import Derived.Sort.QuietIn
namespace Go.Proofs.Ytjkjnicgbfpjiaa
open Go.RowKit Go.Shelf

attribute [local go_sem] Oper.semAt_some

section
variable {P : Program} {ops : Array Oper} {md : Region.Mode} {w : World} {m q : Nat}
/-- No deferred call among them. -/
def noDefer (l : List Oper) : Bool := l.all fun o => match o.op with | .defer _ => false | _ => true
theorem noDefer_at {l : List Oper} (h : noDefer l = true) {i : Nat} {o : Oper} (ho : l.toArray[i]? = some o) (c : Call) : o.op ≠ .defer c := by
  intro e
  have hm : o ∈ l := by
    have : l[i]? = some o := by simpa using ho
    exact List.mem_of_getElem? this
  have := List.all_eq_true.1 h o hm
  rw [e] at this
  cases this
theorem wpOpIn_of_stOp_r {i : Nat} {a : Act} {K : Act → Prop} {K' : Act → World → Prop} {Q : Exit → Act → World → Prop} (hnd : ∀ o : Oper, ops[i]? = some o → ∀ c : Call, o.op ≠ .defer c) (h : ∀ a, K a → K' a w) (hh : stOp P ops w i K a) : wpOpIn (Fence.wide.inRound q) m P ops Q i K' a w := by
  unfold stOp at hh
  unfold wpOpIn
  split
  · rename_i ho; simp only [ho] at hh; exact h _ hh
  · rename_i o ho
    simp only [ho] at hh
    by_cases hw : Region.wanted o (yielded ops a.tmps) = true
    · simp only [hw, if_true] at hh ⊢
      unfold Oper.wpIn
      refine ⟨fun _ _ => trivial, ?_⟩
      rw [Fence.inRound_round, Oper.semAt_some _ _ _ (hnd o ho)]
      unfold Oper.still at hh
      generalize (execOp a.eval o).run P w = r at hh ⊢
      cases r with
      | ok x w' =>
        cases x <;> simp only [Oper.stillUpon] at hh <;> simp only [Oper.uponIn]
        case value v => obtain ⟨rfl, hn⟩ := hh; exact h _ hn
        case skip => obtain ⟨rfl, hn⟩ := hh; exact h _ hn
        case enter f args =>
          obtain ⟨rfl, v, hc, hn⟩ := hh
          refine ⟨fun hd => (by cases hd), CallsIn.inRound q (callsIn_wide.2 (hc.mono ?_))⟩
          rintro e w'' ⟨rfl, rfl⟩
          exact h _ hn
      | halt x w' => cases x <;> simp only [Oper.stillUpon] at hh
    · simp only [hw] at hh ⊢
      exact ⟨fun _ _ => trivial, h _ hh⟩
theorem wpAnyIn_of_head_r {n g : Nat} {L : Array Bool → Act → Prop} {Q : Exit → Act → World → Prop} (hnd : ∀ (i : Nat) (o : Oper), ops[i]? = some o → ∀ c : Call, o.op ≠ .defer c) (hL : ∀ listed a, L listed a → wpAnyIn (Fence.wide.inRound q) m P md ops Q g listed a w) :
    ∀ (f : Nat) (listed : Array Bool) (a : Act), wpAnyL P md ops w n L f listed a → wpAnyIn (Fence.wide.inRound q) m P md ops Q (f + g) listed a w
  | 0, listed, a, h => by rw [Nat.zero_add]; exact hL _ _ h
  | f + 1, listed, a, h => by
    rw [show f + 1 + g = (f + g) + 1 by omega]
    exact ⟨fun h0 => absurd h0 h.1, fun i hi => wpOpIn_of_stOp_r (hnd i) (fun a' h' => wpAnyIn_of_head_r hnd hL f _ a' h') (h.2 i hi).2⟩
theorem wpAnyIn_of_seq_r {F : Fence} {Q : Exit → Act → World → Prop} : ∀ (l : List Oper) (k : Nat) (listed : Array Bool) (a : Act) (w : World), (∀ j, l[j]? = ops[k + j]?) →
    Region.seqB md ops l.length k listed = true → wpListIn F m P ops Q l a w → wpAnyIn F m P md ops Q l.length listed a w
  | [], _, _, _, _, _, hB, h => ⟨by simpa [Region.seqB] using hB, h⟩
  | o :: l, k, listed, a, w, hl, hB, h => by
    have h0 : ops[k]? = some o := by simpa using (hl 0).symm
    simp only [List.length_cons, Region.seqB, Bool.and_eq_true, decide_eq_true_eq] at hB
    refine ⟨fun h1 => (by rw [hB.1] at h1; cases h1), fun i hi => ?_⟩
    rw [hB.1] at hi
    have hik : i = k := by simpa using hi
    subst hik
    have hw : wpOpIn F m P ops Q i (wpListIn F m P ops Q l) a w := by unfold wpOpIn; simp only [h0]; exact h
    exact wpOpIn_mono (fun a' w' h' => wpAnyIn_of_seq_r l (i + 1) _ a' w' (fun j => by have := hl (j + 1); simpa [Nat.add_assoc, Nat.add_comm 1 j] using this) hB.2 h') hw
theorem region_tail_round {id : Nat} {Q : Exit → Act → World → Prop} {a : Act} {l : List Oper} (n : Nat) (hm : P.follows .mixedOrders = true) (hB : Region.lexTailB .any l.toArray n = true) (hnd : noDefer l = true)
    (h : ∀ W : World, (∀ p, W.cell? p = w.cell? p) → W.heap.size = w.heap.size → Below w.heap.size w W → (∀ k : Nat, W.heap[k]? = w.heap[k]?) → wpStill P l.toArray W (fun a' => wpListIn (Fence.wide.inRound q) m P l.toArray Q (l.drop n) a' W) (l.take n) a) : (Code.region id l.toArray true).wpIn (Fence.wide.inRound q) m P Q a w := by
  have h := h (w.drewN 1) (fun _ => rfl) rfl (below_draws (Below.refl _ _) 1) (fun _ => rfl)
  simp only [Region.lexTailB, Bool.and_eq_true, decide_eq_true_eq] at hB
  obtain ⟨⟨⟨⟨hsel, hn⟩, hs⟩, hc⟩, hlex⟩ := hB
  have hn' : n < l.length := by simpa using hn
  have htl : (l.take n).length = n := by simp; omega
  have hdl : (l.drop n).length = l.toArray.size - n := by simp
  have inv0 : HeadInv .any l.toArray n (Array.replicate l.toArray.size false) :=
    ⟨by simp, fun j oj _ hl => (by rw [getD_replicate_false] at hl; cases hl), fun t _ ht => getD_in (by simpa using ht) (getD_replicate_false _ _)⟩
  have H := wpAnyL_lex (md := .any) (g := l.toArray.size - n) hsel hs hc hn (l.take n) 0 _ a (fun j hj => by
    have hj' : j < n := by rw [htl] at hj; exact hj
    simp [hj']) (by simpa using htl) inv0 (by rw [htl]; exact hlex) h
  refine wpIn_region_any hm ?_
  have := wpAnyIn_of_head_r (q := q) (m := m) (Q := Q) (g := l.toArray.size - n) (fun i o ho c => noDefer_at hnd ho c) (fun listed a' hL => by
    have := wpAnyIn_of_seq_r (F := Fence.wide.inRound q) (m := m) (md := .any) (Q := Q) (l.drop n) n listed a' (w.drewN 1) (fun j => by simp [List.getElem?_drop]) (by rw [hdl]; exact hL.1) hL.2
    rwa [hdl] at this) _ _ _ H
  rw [htl, show n + (l.toArray.size - n) = l.toArray.size by omega] at this
  exact this
end
theorem keepsBut_own {β : Type} {n₀ bx B : Nat} {w0 : World} (hB : n₀ ≤ B) (hs : n₀ ≤ w0.heap.size := by omega) : OwnFrom B (fun (_ : β) W => KeepsBut n₀ bx w0 W) :=
  fun _ _ _ _ h hg hr => ⟨Nat.le_trans h.size hg.size, fun k hk hne => (hg.block k (by have := h.size; omega) (fun e => by have := (hr k e.symm).1; omega)).trans (h.same k hk hne)⟩
theorem own_base {W : World} {base e size k : Nat} {v : Value} {xs : List Value} (h : W.ownsRow base e size v k xs) : ∀ g, v.ownBlock = some g → base ≤ g := by
  intro g hg
  rcases h.2 with ⟨rfl, _⟩ | ⟨g2, cap, cur, rfl, hb, _⟩
  · simp [Value.ownBlock] at hg
  · obtain rfl : g2 = g := by simpa [Value.ownBlock] using hg
    exact hb
theorem KeepsBut.appended {W w1 : World} {n₀ B e size k : Nat} {v v' : Value} {xs : List Value} {tmp : Obj} (hrow : W.ownsRow n₀ e size v k xs) (hn₀ : n₀ ≤ W.heap.size) (hgrow : (W.alloc tmp).grownBy w1 v.ownBlock) : KeepsBut n₀ B W (w1.setCell ⟨B, 0, none⟩ v') := by
  refine (KeepsBut.of_below ((Below.refl n₀ W).alloc hn₀ tmp)).trans (KeepsBut.trans ⟨hgrow.size, fun j hj _ => hgrow.block j (by simp; omega) fun e => ?_⟩ (KeepsBut.setCell _ _ _ _ (.inr rfl)))
  have := own_base hrow j e.symm
  omega
set_option maxHeartbeats 8000000 in
set_option maxRecDepth 100000 in
theorem iMatBelow_any (A B : Option Addr) (ca cb : Nat) (ids : List Int) (l : List Ctx) (id : Int) (w : World) (ha : Reads w w.heap.size 1 A ids.length (cellsI ids)) (hb : Reads w w.heap.size 3 B l.length (cellsC l)) (hn : ids.length ≤ 1000000000) (hl : l.length ≤ 1000000000) :
    Calls Try.prog 33 #[.slice A ids.length ca, .slice B l.length cb, .int .i64 id] w (IntsPost w (belowG ids l id)) := by
  have hme := iMembers_any A B ca cb ids l id w ha hb hn hl
  have hmr := fun (W : World) (hW : Below w.heap.size w W) => iMatRels_any A B ca cb ids l W (ha.step hW) (hb.step hW) hn hl
  by_cases hc : okG ids l = true ∧ id ∈ ids
  · obtain ⟨i0, hi0, hz0, hz1, hz2⟩ := info_parts infoInt
    have hhead := members_head hc.1 hc.2
    obtain ⟨M, hM⟩ : ∃ M, M = membersG ids l id := ⟨_, rfl⟩
    obtain ⟨h, hh⟩ : ∃ h, h = labG ids (groupsG ids l) id := ⟨_, rfl⟩
    rw [← hM, ← hh] at hhead
    rw [← hM] at hme
    have hMl : 0 < M.length := (List.getElem?_eq_some_iff.1 hhead).1
    have hMn : M.length ≤ 12 := by rw [hM]; exact Nat.le_trans (membersG_len ids l id) (validO_len (okG_parts hc.1).1)
    have HE : Hid (belowG ids l id = belL h (matS ids l)) := by
      show _ = _
      cases ho : ordOkG ids l
      · rw [belowG_no1 ho, matS_no ho]; rfl
      · rw [belowG_ok ho hc.2, matS_ok ho, hh]
    have HC := Lib.hid (And.intro hme (And.intro hmr (And.intro hhead ha)))
    have e0 : ((M.length : Int) == 0) = false := by rw [beq_eq_false_iff_ne]; omega
    have hmi : (0 : Int) < (M.length : Int) := by omega
    clear hme hmr hhead hM hh hc ha hb
    refine (callsIn_wide (n := 7)).1 ?_
    refine callsIn_of_wp_marks Try.func33 rfl trivial ?_ rfl
    simp only [Try.ntmps33, List.size_toArray, List.length_cons, List.length_nil, Nat.reduceAdd, Nat.reduceSub, Array.replicate_succ, Array.replicate_zero, List.push_toArray, List.append_toArray, List.nil_append, List.cons_append]
    gi_wp2
    refine ⟨trivial, (callsIn_wide.2 HC.out.1).mono ?_⟩
    rintro e w2 ⟨v2, rfl, k2, o2⟩
    obtain ⟨A2, c2, rfl, _, r2⟩ := own_slice o2
    obtain ⟨W3, hW3⟩ : ∃ W3, (w2.alloc (.cells #[.slice A2 M.length c2] 23)).alloc (.cells #[.slice none 0 0] 23) = W3 := ⟨_, rfl⟩
    have hs3 : W3.heap.size = w2.heap.size + 2 := by rw [← hW3]; simp
    have k3 : Below w2.heap.size w2 W3 := by rw [← hW3]; exact ((Below.refl _ _).alloc (Nat.le_refl _) _).alloc (by simp) _
    have b8 : Boxed W3 (w2.heap.size + 1) 23 (.slice none 0 0) := by
      rw [← hW3]
      have := Boxed.new (w2.alloc (.cells #[.slice A2 M.length c2] 23)) 23 (.slice none 0 0)
      rwa [World.size_alloc] at this
    have b7 : Boxed W3 w2.heap.size 23 (.slice A2 M.length c2) := by
      rw [← hW3]
      exact (Boxed.new w2 23 (.slice A2 M.length c2)).alloc _
    have H3 := Lib.hid (And.intro (below_step k2 k3) (And.intro b8 (And.intro b7 (r2.step k3))))
    have hs2 := k2.size
    have HBM := Lib.hid (reads_block r2 hMl)
    clear k2 k3 b8 b7 o2 r2
    gi_wp2
    refine ⟨trivial, (callsIn_wide.2 (HC.out.2.1 _ H3.out.1)).mono ?_⟩
    rintro e w4 ⟨bR, bG, bI, Ar, Ag, cr, cg, rfl, k4, hM4⟩
    have hMM := hM4 (w2.heap.size + 1) (.inl (by omega)) (fun h0 x hx e => by have := reads_block HC.out.2.2.2 h0 x hx; omega)
    have hseq := fun (m : Nat) => matSeq_any m w4 hMM (Nat.le_refl _) (vN_12 ids l) (vN_groups ids l) (vN_inj ids l)
    have hs4 : w2.heap.size + 2 ≤ w4.heap.size := by have := k4.size; omega
    have b84 := H3.out.2.1.kept (grown_of_below k4 none) (by simp)
    have b74 := H3.out.2.2.1.kept (grown_of_below k4 none) (by simp)
    have r24 := H3.out.2.2.2.step k4
    have k04 := below_step H3.out.1 k4
    clear hM4 hMM k4
    gi_wp2
    refine wpIn_rangeFunc_ownH rfl (by omega) (gf := 77) (lb := #[.pointer (some ⟨bR, 0, none⟩), .pointer (some ⟨bG, 0, none⟩), .pointer (some ⟨bI, 0, none⟩)]) rfl trivial (enters_of Try.func77 (by kernel_rfl) rfl)
      (hseq _) (fun h k => h.trans k) (KeepsBut.putObj (Nat.le_refl _)) (Below.refl _ _) (fun _ => rfl)
      (fun pre W => (∃ v, Boxed W (w2.heap.size + 1) 23 v ∧ W.ownsRow w4.heap.size 3 1 v (belL h pre).length (cellsI (belL h pre)) ∧ True) ∧ (Below w.heap.size w W ∧ KeepsBut w4.heap.size (w2.heap.size + 1) w4 W))
      (fun _ _ _ => False)
      (OwnFrom.and (Own.from (holdsRow_own w4.heap.size (w2.heap.size + 1) 23 3 1 (fun pre => (belL h pre).length) (fun pre => cellsI (belL h pre)) (fun _ _ => True)) _) (OwnFrom.and (ownFrom_below (Nat.le_refl _) (by omega)) (keepsBut_own (Nat.le_refl _))))
      (fun _ _ _ _ _ hs _ _ => hs)
      ⟨⟨_, b84, World.ownsRow_nil _ _ _ _, trivial⟩, k04, KeepsBut.refl _ _ _⟩
      (fun r a' W => ∃ Bx, w4.heap.size ≤ Bx ∧ Box3 W Bx 48 r ∧ a' = { tmps := #[.slice A ids.length ca, .slice B l.length cb, .int .i64 id, undef, undef, undef, .slice none 0 0, .pointer (some ⟨w2.heap.size, 0, none⟩), .pointer (some ⟨w2.heap.size + 1, 0, none⟩), .pointer (some ⟨Bx, 0, none⟩), .slice A ids.length ca, .slice B l.length cb, .int .i64 id, .slice A2 M.length c2, .slice A2 M.length c2, .int .i64 (M.length : Int), .bool false, .slice A ids.length ca, .slice B l.length cb, .func (.func 77) #[] #[.pointer (some ⟨bR, 0, none⟩), .pointer (some ⟨bG, 0, none⟩), .pointer (some ⟨bI, 0, none⟩)], .agg #[.int .i64 r.id, .int .i64 r.kind, .int .i64 r.area], undef, undef, undef, undef, undef, undef, undef, undef, undef, undef, undef, undef, undef, undef, undef, undef, undef], defers := [] })
      (fun x a' _ X Y row hs hg hr => by obtain ⟨Bx, h1, h2, h3⟩ := hs; exact ⟨Bx, h1, box3_own h2 hg (fun r e => (hr r e).2), h3⟩)
      ?assign ?body ?done ?stop
    case assign =>
      rintro l pre x W K ⟨⟨v, hv, hrow, _⟩, hB1, hK1⟩ hK
      gi_wp2
      exact hK _ _ ((KeepsOthers.alloc _ _).from _) (KeepsBut.of_below ((Below.refl _ W).alloc hK1.size _)) ⟨⟨v, hv.alloc _, hrow.alloc _, trivial⟩, hB1.alloc hB1.size _, hK1.trans (KeepsBut.of_below ((Below.refl _ W).alloc hK1.size _))⟩ ⟨W.heap.size, hK1.size, Box3.new W _ x, rfl⟩
    case body =>
      rintro q pre r a' W hq ⟨lr, hlr⟩ ⟨⟨v, hv, hrow, _⟩, hB1, hK1⟩ ⟨Bx, hBx, hcb, rfl⟩ hlt
      obtain ⟨q0, q1, q2⟩ := hcb.cells
      have hc := hv.cell
      obtain ⟨bm, om, hA2, hbm, hcm⟩ := r24.ints hMl
      have hbm2 := HBM.out ⟨bm, om, none⟩ hA2
      subst hA2
      have f1 := (hK1.cell om (by simp at hbm2; omega) (by simp at hbm2; omega)).trans (by simpa using hcm 0 h HC.out.2.2.1)
      have f2 := (hK1.cell 0 (b := w2.heap.size) (by omega) (by omega)).trans b74.cell
      have hpl : (belL h pre).length ≤ pre.length := belL_len h pre
      clear hseq hcm r24 b74 b84 k04
      by_cases h1 : r.area = 1
      · have e1 : (r.area == 1) = true := by simp [h1]
        by_cases h2 : r.id = h
        · have e2 : (r.id == h) = true := by simp [h2]
          gi_wp2
          refine region_tail_round 10 (by kernel_rfl) (by kernel_rfl) (by kernel_rfl) ?_
          intro V hV hzz hbV hblk
          simp only [List.take_succ_cons, List.take_zero, List.drop_succ_cons, List.drop_zero]
          refine Shut.out ?_
          iterate 10
            refine still_stepH (fun K hK => ?_)
            go_simp
            refine hK _ ?_
            clear hK K
          refine still_nilH ?_
          have hkf : KeepsFrom w4.heap.size W V := ⟨Nat.le_of_eq hzz.symm, fun k o _ hk _ => (hblk k).trans hk⟩
          have hkb : KeepsBut w4.heap.size (w2.heap.size + 1) W V := ⟨Nat.le_of_eq hzz.symm, fun k _ _ => hblk k⟩
          have hBV : Below w.heap.size w V := hB1.trans (hbV.mono hB1.size)
          have hrowV := own_below hrow hbV
          have hvV : Boxed V (w2.heap.size + 1) 23 v := (hblk _).trans hv
          have hcV := hvV.cell
          have qV := (hV ⟨Bx, 1, none⟩).trans q1
          have hsV : w4.heap.size ≤ V.heap.size := by have := hK1.size; omega
          have hw4 : w.heap.size ≤ w4.heap.size := by omega
          clear hV hzz hbV hblk hc q0 q1 q2 f1 f2 hrow hv
          gi_wp2_with (gi_at_builtin; refine wpListIn_append_own _ rfl _ _ 23 rfl w4.heap.size 3 i0 _ 1 8 Try.underlying23 hi0 hz0 hz1 hz2 rfl (by decide) v (belL h pre).length (cellsI (belL h pre)) rfl (hrowV.alloc _) ⟨V.heap.size, 0, none⟩ 1 1 [.int .i64 r.kind] rfl rfl (cell_one_new _ _ _) (by simp [Value.oneCell']) (by simp only [maxLen]; omega) (by omega) (by simp; omega) ?_; intro v' w1 hown' hgrow _; obtain ⟨g', cap', rfl⟩ := ownsRow_succ hown'; obtain ⟨hv1, hv2, _, hk2, hb2⟩ := hvV.appended (by decide) (own_less hrowV hw4) (Nat.le_trans hw4 hsV) (by omega) (own_less hown' hw4) hgrow; have hc1 := hv1.cell; have hf1 := hv1.frozen)
          have hr2 := hown'.kept (grownBy_setCell' w1 (w2.heap.size + 1) (.slice (some ⟨g', 0, none⟩) ((belL h pre).length + 1) cap')) (.inr (hv1.not_row (by decide) hown').symm)
          have hkb2 := hkb.trans (KeepsBut.appended (B := w2.heap.size + 1) (v' := .slice (some ⟨g', 0, none⟩) ((belL h pre).length + 1) cap') hrowV hsV hgrow)
          refine ⟨hkf.trans (hk2.from _), hkb2, ⟨_, hv2, ?_, trivial⟩, hBV.trans hb2, hK1.trans hkb2⟩
          rw [belL_app, if_pos ⟨h1, h2⟩, List.length_append, cellsI_append]
          exact hr2
        · have e2 : (r.id == h) = false := by simp [h2]
          gi_wp2
          refine region_tail_round 10 (by kernel_rfl) (by kernel_rfl) (by kernel_rfl) ?_
          intro V hV hzz hbV hblk
          simp only [List.take_succ_cons, List.take_zero, List.drop_succ_cons, List.drop_zero]
          refine Shut.out ?_
          iterate 10
            refine still_stepH (fun K hK => ?_)
            go_simp
            refine hK _ ?_
            clear hK K
          refine still_nilH ?_
          have hkf : KeepsFrom w4.heap.size W V := ⟨Nat.le_of_eq hzz.symm, fun k o _ hk _ => (hblk k).trans hk⟩
          have hkb : KeepsBut w4.heap.size (w2.heap.size + 1) W V := ⟨Nat.le_of_eq hzz.symm, fun k _ _ => hblk k⟩
          have hBV : Below w.heap.size w V := hB1.trans (hbV.mono hB1.size)
          have hrowV := own_below hrow hbV
          have hvV : Boxed V (w2.heap.size + 1) 23 v := (hblk _).trans hv
          clear hV hzz hbV hblk hc q0 q1 q2 f1 f2 hrow hv
          gi_wp2
          refine ⟨hkf, hkb, ⟨v, hvV, ?_, trivial⟩, hBV, hK1.trans hkb⟩
          rw [belL_app, if_neg (fun q => h2 q.2), List.append_nil]
          exact hrowV
      · have e1 : (r.area == 1) = false := by simp [h1]
        gi_wp2
        refine region_tail_round 10 (by kernel_rfl) (by kernel_rfl) (by kernel_rfl) ?_
        intro V hV hzz hbV hblk
        simp only [List.take_succ_cons, List.take_zero, List.drop_succ_cons, List.drop_zero]
        refine Shut.out ?_
        iterate 10
          refine still_stepH (fun K hK => ?_)
          go_simp
          refine hK _ ?_
          clear hK K
        refine still_nilH ?_
        have hkf : KeepsFrom w4.heap.size W V := ⟨Nat.le_of_eq hzz.symm, fun k o _ hk _ => (hblk k).trans hk⟩
        have hkb : KeepsBut w4.heap.size (w2.heap.size + 1) W V := ⟨Nat.le_of_eq hzz.symm, fun k _ _ => hblk k⟩
        have hBV : Below w.heap.size w V := hB1.trans (hbV.mono hB1.size)
        have hrowV := own_below hrow hbV
        have hvV : Boxed V (w2.heap.size + 1) 23 v := (hblk _).trans hv
        clear hV hzz hbV hblk hc q0 q1 q2 f1 f2 hrow hv
        gi_wp2
        refine ⟨hkf, hkb, ⟨v, hvV, ?_, trivial⟩, hBV, hK1.trans hkb⟩
        rw [belL_app, if_neg (fun q => h1 q.1), List.append_nil]
        exact hrowV
    case done =>
      rintro D ys W hD rfl ⟨⟨v, hv, hrow, _⟩, hB1, _⟩ hK
      have hc := hv.cell
      gi_wp2
      refine ⟨by simp, .inl ⟨_, _, rfl, run_takeDeferred hK, ?_⟩⟩
      refine ⟨_, results_tmp rfl _ _ _, v, rfl, hB1.trans (belowK_b (w := w) (Nat.le_refl _) W D _ _ (by omega) hK rfl rfl), ?_⟩
      rw [HE.out, ← upTo_mat]
      exact own_less (ownsRow_putObj hrow _ hK rfl) (by omega)
    case stop =>
      rintro D c pre W _ _ h _
      exact h.elim
  · have HE : Hid (membersG ids l id = [] ∧ belowG ids l id = []) := by
      show _ ∧ _
      by_cases hok : okG ids l = true
      · have hin : id ∉ ids := fun q => hc ⟨hok, q⟩
        exact ⟨members_none (.inr hin), belowG_no2 hin⟩
      · have hok2 : okG ids l = false := by simpa using hok
        refine ⟨members_none (.inl hok2), belowG_no1 ?_⟩
        unfold ordOkG
        rw [hok2]
        rfl
    rw [HE.out.1] at hme
    have HC := Lib.hid hme
    clear hme hmr hc ha hb
    go_enter Try.func33, Try.ntmps33
    go_wp2_with fail
    refine HC.out.mono ?_
    rintro e w2 ⟨v2, rfl, k2, o2⟩
    obtain ⟨A2, c2, rfl, _, r2⟩ := own_slice o2
    have HK := Lib.hid k2
    clear k2 o2 r2
    go_wp2_with fail
    go_ret
    exact intsPost_nil HE.out.2 (HK.out.alloc HK.out.size _)
end Go.Proofs.Ytjkjnicgbfpjiaa
