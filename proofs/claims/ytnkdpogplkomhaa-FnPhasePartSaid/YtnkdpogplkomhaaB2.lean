/- What the model's putting in of a relation returns. -/
import Derived.Test.YtnkdpogplkomhaaA2
import Derived.Deep.RegionHeld3
namespace Go.Proofs.Ytnkdpogplkomhaa
open Go.RowKit

theorem relNe_run (a b : Ctx) (h : a ≠ b) (W : World) : (binOp .eql 111 (.agg #[.int .i64 a.id, .int .i64 a.kind, .int .i64 a.area]) (.agg #[.int .i64 b.id, .int .i64 b.kind, .int .i64 b.area])).run Try.prog W = .ok (.bool false) W := by
  by_cases e1 : a.id = b.id
  · have f1 : (a.id == b.id) = true := by simp [e1]
    by_cases e2 : a.kind = b.kind
    · have f2 : (a.kind == b.kind) = true := by simp [e2]
      have f3 : (a.area == b.area) = false := by rw [beq_eq_false_iff_ne]; exact fun e3 => h (Ctx.ext_ e1 e2 e3)
      clear e1 e2 h
      go_simp
    · have f2 : (a.kind == b.kind) = false := by simp [e2]
      clear e1 e2 h
      go_simp
  · have f1 : (a.id == b.id) = false := by simp [e1]
    clear e1 h
    go_simp
theorem relEq_run (a : Ctx) (W : World) : (binOp .eql 111 (.agg #[.int .i64 a.id, .int .i64 a.kind, .int .i64 a.area]) (.agg #[.int .i64 a.id, .int .i64 a.kind, .int .i64 a.area])).run Try.prog W = .ok (.bool true) W := by
  go_simp

set_option maxHeartbeats 800000 in
set_option maxRecDepth 100000 in
theorem sFindR_any (A : Option Addr) (cap : Nat) (l : List Ctx) (c : Ctx) (w : World) (hr : Reads w w.heap.size 3 A l.length (cellsC l)) (hl : l.length ≤ 1000000000000) :
    Calls Try.prog 107 #[.slice A l.length cap, .agg #[.int .i64 c.id, .int .i64 c.kind, .int .i64 c.area]] w fun e w2 => e = .returned (.int .i64 (findR l c)) ∧ Below w.heap.size w w2 := by
  have a0 : Aft 111 w c (w.alloc (.cells #[.int .i64 c.id, .int .i64 c.kind, .int .i64 c.area] 111)) := Below.refl _ _
  have HA0 := Lib.hid a0
  clear a0
  go_enter Try.func107, Try.ntmps107
  go_wp2_with fail
  go_loopw [5] (fun i wr => ∃ k : Nat, k ≤ l.length ∧ i = .int .i64 k ∧ Aft 111 w c wr ∧ ∀ (j : Nat) (d : Ctx), j < k → l[j]? = some d → eqC d c = false) (fun i _ => l.length - (intOf i).toNat)
  case atStart => exact ⟨0, Nat.zero_le _, rfl, HA0.out, fun j d h => absurd h (by omega)⟩
  case round =>
    obtain ⟨k, hk, rfl, ha, hg⟩ := hrel
    have HG := Lib.hid hg; clear hg
    obtain ⟨b0, b1, b2⟩ := ha.cells
    by_cases hlt : k < l.length
    · have hkl : (k : Int) < (l.length : Int) := by omega
      obtain ⟨b, off, hA, hbl, hc⟩ := (ha.reads hr).ctx (by omega)
      subst hA
      have hk0 : l[k]? = some l[k] := List.getElem?_eq_getElem hlt
      obtain ⟨c1, c2, c3⟩ := hc k _ hk0
      have HK := Lib.hid hk0
      have HA := Lib.hid ha
      clear hc hk0 hr ha
      cases hq : eqC l[k] c
      · have HQ := Lib.hid hq
        have hEq := relNe_run l[k] c (fun e => by rw [e, eqC_self] at hq; cases hq)
        clear hq
        go_wp2_with fail
        go_quiet (fail)
        go_wp2_with fail
        go_roundw
        case rel =>
          refine ⟨k + 1, by omega, by go_num, HA.out.draws _, fun j d hj hd => ?_⟩
          by_cases hj2 : j < k
          · exact HG.out j d hj2 hd
          · obtain rfl : j = k := by omega
            rw [HK.out] at hd
            injection hd with hd
            exact hd ▸ HQ.out
        case measure => simp [intOf]; omega
      · have HQ := Lib.hid hq
        have he := (eqC_iff _ _).1 hq
        have f1 : (l[k].id == c.id) = true := by simp [he]
        have f2 : (l[k].kind == c.kind) = true := by simp [he]
        have f3 : (l[k].area == c.area) = true := by simp [he]
        clear he hq
        go_wp2_with fail
        go_quiet (fail)
        go_wp2_with fail
        go_ret
        exact ⟨ret_int (findP_at _ l k _ HG.out HK.out HQ.out).symm, (HA.out.draws nq).below⟩
    · go_wp2_with fail
      go_ret
      exact ⟨ret_int (findP_none _ l fun j d hd => HG.out j d (by have := (List.getElem?_eq_some_iff.1 hd).1; omega) hd).symm, ha.below⟩

/-- What a putting in comes to. -/
def PutPost (w : World) (l m : List Ctx) (e : Ending) (w2 : World) : Prop := ∃ v, e = .returned v ∧ Below w.heap.size w w2 ∧ w2.ownsRow w.heap.size 111 3 v (l.length + 1) (cellsC m)
theorem put_made {w W : World} {l m : List Ctx} {c : Ctx} {k : Nat} {v : Value} (hI : m = l.take k ++ c :: l.drop k) (hk : k ≤ l.length) (ha : Aft 111 w c W)
    (ho : W.ownsRow (w.heap.size + 1) 111 3 v (0 + k + 1 + (l.length - k)) ([] ++ cellsC (l.take k) ++ cellsC [c] ++ cellsC (l.drop k))) : PutPost w l m (.returned v) W := by
  refine ⟨v, rfl, ha.below, ?_⟩
  rw [hI, show l.length + 1 = 0 + k + 1 + (l.length - k) from by omega, show cellsC (l.take k ++ c :: l.drop k) = [] ++ cellsC (l.take k) ++ cellsC [c] ++ cellsC (l.drop k) from by simp [cellsC]]
  exact own_less ho (by omega)

set_option maxHeartbeats 8000000 in
set_option maxRecDepth 100000 in
/-- A relation that is not there is put in its place. -/
theorem sPutR_any (A : Option Addr) (cap : Nat) (l : List Ctx) (c : Ctx) (w : World) (hr : Reads w w.heap.size 3 A l.length (cellsC l)) (hcap : l.length ≤ cap) (hl : l.length ≤ 1000000) (hnot : ∀ d ∈ l, d ≠ c) :
    Calls Try.prog 108 #[.slice A l.length cap, .agg #[.int .i64 c.id, .int .i64 c.kind, .int .i64 c.area]] w (PutPost w l (insO lessR c l)) := by
  obtain ⟨i0, hi0, hz0, hz1, hz2⟩ := info_parts infoRel
  have HR := Lib.hid hr
  have a0 : Aft 111 w c (w.alloc (.cells #[.int .i64 c.id, .int .i64 c.kind, .int .i64 c.area] 111)) := Below.refl _ _
  have HA0 := Lib.hid a0
  have HN := Lib.hid hnot
  clear a0 hr hnot
  go_enter Try.func108, Try.ntmps108
  go_wp2_with fail
  go_loopw [5] (fun i wr => ∃ k : Nat, k ≤ l.length ∧ i = .int .i64 k ∧ Aft 111 w c wr ∧ ∀ (j : Nat) (d : Ctx), j < k → l[j]? = some d → lessR d c = true) (fun i _ => l.length - (intOf i).toNat)
  case atStart => exact ⟨0, Nat.zero_le _, rfl, HA0.out, fun j d h => absurd h (by omega)⟩
  case round =>
    obtain ⟨k, hk, rfl, ha, hg⟩ := hrel
    have HG := Lib.hid hg; clear hg
    obtain ⟨b0, b1, b2⟩ := ha.cells
    have hsz := ha.sz
    have h0k : (0 : Int) ≤ (k : Int) := by omega
    have hkc : (k : Int) ≤ (cap : Int) := by omega
    have hkl : (k : Int) ≤ (l.length : Int) := by omega
    by_cases hlt : k < l.length
    · obtain ⟨b, off, hAd, hbl, hc⟩ := (ha.reads HR.out).ctx (by omega)
      subst hAd
      have hk0 : l[k]? = some l[k] := List.getElem?_eq_getElem hlt
      obtain ⟨c1, c2, c3⟩ := hc k _ hk0
      have HK := Lib.hid hk0
      have e1 : decide (k < l.length) = true := by simp [hlt]
      have hx := ext_cell (w := wr) (B := wr.heap.size) (Nat.lt_trans hbl hsz)
      have hx2 := ext_cell (w := wr) (B := wr.heap.size) hsz
      clear hc hk0
      cases hid : lessR l[k] c
      · have hi2 : lessR ⟨l[k].id, l[k].kind, l[k].area⟩ ⟨c.id, c.kind, c.area⟩ = false := hid
        have HI : Hid (insO lessR c l = l.take k ++ c :: l.drop k) := by
          refine insO_at c l k hk HG.out fun d hd => ?_
          rw [HK.out] at hd
          injection hd with hd
          exact hd ▸ hid
        have hne2 : l[k] ≠ c := HN.out _ (List.getElem_mem hlt)
        have HNE := Lib.hid hne2
        have hneq : ¬ (l[k].id = c.id ∧ l[k].kind = c.kind ∧ l[k].area = c.area) := fun ⟨x1, x2, x3⟩ => hne2 (Ctx.ext_ x1 x2 x3)
        have hne : ¬ cap = k := by omega
        have HT : Hid (0 < l.length - k → (some ⟨b, off + k * 3, none⟩ : Option Addr) = (some ⟨b, off, none⟩ : Option Addr).map (·.add (k * 3))) := by
          show 0 < l.length - k → _
          intro _
          simp only [Option.map, Addr.add]
          split
          · rename_i h0; rw [h0]; rfl
          · rfl
        have HX := Lib.hid (And.intro hneq hid)
        have hEq := relNe_run l[k] c hne2
        clear hneq hid hne2
        go_wp2_with fail
        refine wp_region_ext wr.heap.size (by kernel_rfl) (by kernel_rfl) ?_
        repeat (go_big_quiet_step ((go_at_call 117; exact calls_ext (Nat.le_refl _) (l2Less_any _ _ _ _ _ _ _))))
        refine wpQuiet_nil ?_
        rintro wq ⟨⟨_, hbq⟩, rfl⟩
        have haq := ha.step hbq
        obtain ⟨b0, b1, b2⟩ := haq.cells
        have q1 := (hbq.cell (p := ⟨b, off + k * 3, none⟩) (Nat.lt_trans hbl hsz)).trans c1
        have q2 := (hbq.cell (p := ⟨b, off + k * 3 + 1, none⟩) (Nat.lt_trans hbl hsz)).trans c2
        have q3 := (hbq.cell (p := ⟨b, off + k * 3 + 2, none⟩) (Nat.lt_trans hbl hsz)).trans c3
        clear hx hx2
        go_wp2_with fail
        go_quiet (fail)
        go_wp2_with fail
        have hszq := haq.sz
        have aA : Aft 111 w c ((wq.drewN (nq + 1)).alloc (.cells #[] 111)) := (haq.draws (nq + 1)).alloc _
        have aB : Aft 111 w c (((wq.drewN (nq + 1)).alloc (.cells #[] 111)).alloc (.cells #[.int .i64 c.id, .int .i64 c.kind, .int .i64 c.area] 111)) := aA.alloc _
        have aC : Aft 111 w c (((wq.drewN (nq + 1)).alloc (.cells #[.int .i64 c.id, .int .i64 c.kind, .int .i64 c.area] 111)).alloc (.cells #[] 111)) := ((haq.draws (nq + 1)).alloc _).alloc _
        have hszD : w.heap.size + 1 ≤ (wq.drewN (nq + 1)).heap.size := haq.sz
        have oA : ((wq.drewN (nq + 1)).alloc (.cells #[] 111)).ownsRow (w.heap.size + 1) 111 3 (.slice (some ⟨wq.heap.size, 0, none⟩) 0 0) 0 [] := own_empty hszD rfl
        have oB : (((wq.drewN (nq + 1)).alloc (.cells #[] 111)).alloc (.cells #[.int .i64 c.id, .int .i64 c.kind, .int .i64 c.area] 111)).ownsRow (w.heap.size + 1) 111 3 (.slice (some ⟨wq.heap.size, 0, none⟩) 0 0) 0 [] := oA.alloc _
        have oC : (((wq.drewN (nq + 1)).alloc (.cells #[.int .i64 c.id, .int .i64 c.kind, .int .i64 c.area] 111)).alloc (.cells #[] 111)).ownsRow (w.heap.size + 1) 111 3 (.slice (some ⟨wq.heap.size + 1, 0, none⟩) 0 0) 0 [] := own_empty (by simp; omega) (by simp)
        have rA := (aA.reads HR.out).headC hk
        have rB := (aB.reads HR.out).headC hk
        have rC := (aC.reads HR.out).headC hk
        have nB : (((wq.drewN (nq + 1)).alloc (.cells #[] 111)).alloc (.cells #[.int .i64 c.id, .int .i64 c.kind, .int .i64 c.area] 111)).heap[wq.heap.size + 1]? = some (.cells #[.int .i64 c.id, .int .i64 c.kind, .int .i64 c.area] 111 (0, 0)) := by
          have := heap_alloc_new ((wq.drewN (nq + 1)).alloc (.cells #[] 111)) (.cells #[.int .i64 c.id, .int .i64 c.kind, .int .i64 c.area] 111)
          simpa using this
        have nC : (((wq.drewN (nq + 1)).alloc (.cells #[.int .i64 c.id, .int .i64 c.kind, .int .i64 c.area] 111)).alloc (.cells #[] 111)).heap[wq.heap.size]? = some (.cells #[.int .i64 c.id, .int .i64 c.kind, .int .i64 c.area] 111 (0, 0)) := (Below.heap_alloc _ _ _ (by simp)).trans (heap_alloc_new (wq.drewN (nq + 1)) (.cells #[.int .i64 c.id, .int .i64 c.kind, .int .i64 c.area] 111))
        have XA := Lib.hid (And.intro aA (And.intro oA rA))
        have XB := Lib.hid (And.intro aB (And.intro oB (And.intro rB nB)))
        have XC := Lib.hid (And.intro aC (And.intro oC (And.intro rC nC)))
        clear aA aB aC oA oB oC rA rB rC nB nC
        go_region_held3 (fun w' => w'.cell? ⟨w.heap.size, 0, none⟩ = some (.int .i64 c.id) ∧ w'.cell? ⟨w.heap.size, 1, none⟩ = some (.int .i64 c.kind) ∧ w'.cell? ⟨w.heap.size, 2, none⟩ = some (.int .i64 c.area))
          (first
            | assumption
            | exact ⟨s0, s1, s2⟩
            | (refine ⟨?_, ?_, ?_⟩ <;> (first
                | assumption
                | (rw [World.cell?_alloc_lt _ _ _ (by first | omega | (simp; omega))]; first | assumption | (go_simp; done))
                | (go_simp; done))))
          (first
            | (refine step_append_want ((wq.drewN (nq + 1)).alloc (.cells #[] 111)) (by rfl) (.tmp 35) (.tmp 38) _ (by rfl) (w.heap.size + 1) 111 i0 _ 3 24 Try.underlying24 hi0 hz0 hz1 hz2 rfl (by omega) (.slice (some ⟨wq.heap.size, 0, none⟩) 0 0) 0 [] (by rfl) XA.out.2.1 _ _ k _ (cellsC (l.take k)) (by rfl) XA.out.2.2 (cellsC_one _) (by simp only [maxLen]; omega) (by omega) XA.out.1.sz ?_
               intro v2 w2 hown2 hg2 hat2
               have ha2 := Aft.app XA.out.1 XA.out.2.1 hg2
               obtain ⟨s0, s1, s2⟩ := ha2.cells
               have hs2 := ha2.sz)
            | (refine step_append_want (((wq.drewN (nq + 1)).alloc (.cells #[] 111)).alloc (.cells #[.int .i64 c.id, .int .i64 c.kind, .int .i64 c.area] 111)) (by rfl) (.tmp 35) (.tmp 38) _ (by rfl) (w.heap.size + 1) 111 i0 _ 3 24 Try.underlying24 hi0 hz0 hz1 hz2 rfl (by omega) (.slice (some ⟨wq.heap.size, 0, none⟩) 0 0) 0 [] (by rfl) XB.out.2.1 _ _ k _ (cellsC (l.take k)) (by rfl) XB.out.2.2.1 (cellsC_one _) (by simp only [maxLen]; omega) (by omega) XB.out.1.sz ?_
               intro v2 w2 hown2 hg2 hat2
               have ha2 := Aft.app XB.out.1 XB.out.2.1 hg2
               have hN := reads_new XB.out.2.2.2 hg2 (by simp [Value.ownBlock])
               obtain ⟨s0, s1, s2⟩ := ha2.cells
               have hs2 := ha2.sz)
            | (refine step_append_want (((wq.drewN (nq + 1)).alloc (.cells #[.int .i64 c.id, .int .i64 c.kind, .int .i64 c.area] 111)).alloc (.cells #[] 111)) (by rfl) (.tmp 35) (.tmp 38) _ (by rfl) (w.heap.size + 1) 111 i0 _ 3 24 Try.underlying24 hi0 hz0 hz1 hz2 rfl (by omega) (.slice (some ⟨wq.heap.size + 1, 0, none⟩) 0 0) 0 [] (by rfl) XC.out.2.1 _ _ k _ (cellsC (l.take k)) (by rfl) XC.out.2.2.1 (cellsC_one _) (by simp only [maxLen]; omega) (by omega) XC.out.1.sz ?_
               intro v2 w2 hown2 hg2 hat2
               have ha2 := Aft.app XC.out.1 XC.out.2.1 hg2
               have hN := reads_new XC.out.2.2.2 hg2 (by simp [Value.ownBlock])
               obtain ⟨s0, s1, s2⟩ := ha2.cells
               have hs2 := ha2.sz)
            | (refine step_append_want (w2.alloc (.cells #[.int .i64 c.id, .int .i64 c.kind, .int .i64 c.area] 111)) (by rfl) (.tmp 39) (.tmp 41) _ (by rfl) (w.heap.size + 1) 111 i0 _ 3 24 Try.underlying24 hi0 hz0 hz1 hz2 rfl (by omega) v2 (0 + k) ([] ++ cellsC (l.take k)) (by rfl) (hown2.alloc _) _ _ 1 _ (cellsC [c]) (by rfl) (reads_one (B := w2.heap.size + 1) (by omega)) (cellsC_one _) (by simp only [maxLen]; omega) (by omega) (by simp; omega) ?_
               intro v3 w3 hown3 hg3 hat3
               have ha3 := Aft.app (ha2.alloc (.cells #[.int .i64 c.id, .int .i64 c.kind, .int .i64 c.area] 111)) (hown2.alloc _) hg3
               obtain ⟨s0, s1, s2⟩ := ha3.cells
               have hs3 := ha3.sz)
            | (refine step_append_want (w2) (by rfl) (.tmp 39) (.tmp 41) _ (by rfl) (w.heap.size + 1) 111 i0 _ 3 24 Try.underlying24 hi0 hz0 hz1 hz2 rfl (by omega) v2 (0 + k) ([] ++ cellsC (l.take k)) (by rfl) hown2 _ _ 1 _ (cellsC [c]) (by rfl) hN (cellsC_one _) (by simp only [maxLen]; omega) (by omega) ha2.sz ?_
               intro v3 w3 hown3 hg3 hat3
               have ha3 := Aft.app ha2 hown2 hg3
               obtain ⟨s0, s1, s2⟩ := ha3.cells
               have hs3 := ha3.sz)
            | (refine step_append_want (w3) (by rfl) (.tmp 42) (.tmp 45) _ (by rfl) (w.heap.size + 1) 111 i0 _ 3 24 Try.underlying24 hi0 hz0 hz1 hz2 rfl (by omega) v3 (0 + k + 1) ([] ++ cellsC (l.take k) ++ cellsC [c]) (by rfl) hown3 _ _ (l.length - k) _ (cellsC (l.drop k)) (by rfl) ((ha3.reads HR.out).tailC hk HT.out) (cellsC_one _) (by simp only [maxLen]; omega) (by omega) ha3.sz ?_
               intro v4 w4 hown4 hg4 hat4
               have ha4 := Aft.app ha3 hown3 hg4
               obtain ⟨s0, s1, s2⟩ := ha4.cells))
        all_goals
          go_wp2_with fail
          all_goals
            go_ret
            exact put_made HI.out hk ha4 hown4
      · have hi2 : lessR ⟨l[k].id, l[k].kind, l[k].area⟩ ⟨c.id, c.kind, c.area⟩ = true := hid
        have HID := Lib.hid hid
        have HAA := Lib.hid ha
        clear hid
        go_wp2_with fail
        refine wp_region_ext wr.heap.size (by kernel_rfl) (by kernel_rfl) ?_
        repeat (go_big_quiet_step ((go_at_call 117; exact calls_ext (Nat.le_refl _) (l2Less_any _ _ _ _ _ _ _))))
        refine wpQuiet_nil ?_
        rintro wq ⟨⟨_, hbq⟩, rfl⟩
        go_wp2_with fail
        go_roundw
        case rel =>
          refine ⟨k + 1, by omega, by go_num, HAA.out.step hbq, fun j d hj hd => ?_⟩
          by_cases hj2 : j < k
          · exact HG.out j d hj2 hd
          · obtain rfl : j = k := by omega
            rw [HK.out] at hd
            injection hd with hd
            exact hd ▸ HID.out
        case measure => simp [intOf]; omega
    · have e1 : decide (k < l.length) = false := by simp; omega
      have HI : Hid (insO lessR c l = l.take k ++ c :: l.drop k) := by
        refine insO_at c l k hk HG.out fun d hd => ?_
        rw [List.getElem?_eq_none (by omega)] at hd
        cases hd
      have hlt2 : ¬ 0 < l.length - k := by omega
      clear hlt
      have HAA := Lib.hid ha
      go_wp2_with fail
      refine wp_region_ext wr.heap.size (by kernel_rfl) (by kernel_rfl) ?_
      repeat (go_big_quiet_step (fail))
      refine wpQuiet_nil ?_
      rintro wp ⟨⟨_, hbp⟩, rfl⟩
      have hap := HAA.out.step hbp
      obtain ⟨b0, b1, b2⟩ := hap.cells
      go_wp2_with fail
      go_quiet (fail)
      go_wp2_with fail
      have hszq := hap.sz
      have aA : Aft 111 w c ((wp.drewN (nq + 1)).alloc (.cells #[] 111)) := (hap.draws (nq + 1)).alloc _
      have aB : Aft 111 w c (((wp.drewN (nq + 1)).alloc (.cells #[] 111)).alloc (.cells #[.int .i64 c.id, .int .i64 c.kind, .int .i64 c.area] 111)) := aA.alloc _
      have aC : Aft 111 w c (((wp.drewN (nq + 1)).alloc (.cells #[.int .i64 c.id, .int .i64 c.kind, .int .i64 c.area] 111)).alloc (.cells #[] 111)) := ((hap.draws (nq + 1)).alloc _).alloc _
      have hszD : w.heap.size + 1 ≤ (wp.drewN (nq + 1)).heap.size := hap.sz
      have oA : ((wp.drewN (nq + 1)).alloc (.cells #[] 111)).ownsRow (w.heap.size + 1) 111 3 (.slice (some ⟨wp.heap.size, 0, none⟩) 0 0) 0 [] := own_empty hszD rfl
      have oB : (((wp.drewN (nq + 1)).alloc (.cells #[] 111)).alloc (.cells #[.int .i64 c.id, .int .i64 c.kind, .int .i64 c.area] 111)).ownsRow (w.heap.size + 1) 111 3 (.slice (some ⟨wp.heap.size, 0, none⟩) 0 0) 0 [] := oA.alloc _
      have oC : (((wp.drewN (nq + 1)).alloc (.cells #[.int .i64 c.id, .int .i64 c.kind, .int .i64 c.area] 111)).alloc (.cells #[] 111)).ownsRow (w.heap.size + 1) 111 3 (.slice (some ⟨wp.heap.size + 1, 0, none⟩) 0 0) 0 [] := own_empty (by simp; omega) (by simp)
      have rA := (aA.reads HR.out).headC hk
      have rB := (aB.reads HR.out).headC hk
      have rC := (aC.reads HR.out).headC hk
      have nB : (((wp.drewN (nq + 1)).alloc (.cells #[] 111)).alloc (.cells #[.int .i64 c.id, .int .i64 c.kind, .int .i64 c.area] 111)).heap[wp.heap.size + 1]? = some (.cells #[.int .i64 c.id, .int .i64 c.kind, .int .i64 c.area] 111 (0, 0)) := by
        have := heap_alloc_new ((wp.drewN (nq + 1)).alloc (.cells #[] 111)) (.cells #[.int .i64 c.id, .int .i64 c.kind, .int .i64 c.area] 111)
        simpa using this
      have nC : (((wp.drewN (nq + 1)).alloc (.cells #[.int .i64 c.id, .int .i64 c.kind, .int .i64 c.area] 111)).alloc (.cells #[] 111)).heap[wp.heap.size]? = some (.cells #[.int .i64 c.id, .int .i64 c.kind, .int .i64 c.area] 111 (0, 0)) := (Below.heap_alloc _ _ _ (by simp)).trans (heap_alloc_new (wp.drewN (nq + 1)) (.cells #[.int .i64 c.id, .int .i64 c.kind, .int .i64 c.area] 111))
      have XA := Lib.hid (And.intro aA (And.intro oA rA))
      have XB := Lib.hid (And.intro aB (And.intro oB (And.intro rB nB)))
      have XC := Lib.hid (And.intro aC (And.intro oC (And.intro rC nC)))
      clear aA aB aC oA oB oC rA rB rC nB nC
      go_region_held3 (fun w' => w'.cell? ⟨w.heap.size, 0, none⟩ = some (.int .i64 c.id) ∧ w'.cell? ⟨w.heap.size, 1, none⟩ = some (.int .i64 c.kind) ∧ w'.cell? ⟨w.heap.size, 2, none⟩ = some (.int .i64 c.area))
        (first
          | assumption
          | exact ⟨s0, s1, s2⟩
          | (refine ⟨?_, ?_, ?_⟩ <;> (first
              | assumption
              | (rw [World.cell?_alloc_lt _ _ _ (by first | omega | (simp; omega))]; first | assumption | (go_simp; done))
              | (go_simp; done))))
        (first
          | (refine step_append_want ((wp.drewN (nq + 1)).alloc (.cells #[] 111)) (by rfl) (.tmp 35) (.tmp 38) _ (by rfl) (w.heap.size + 1) 111 i0 _ 3 24 Try.underlying24 hi0 hz0 hz1 hz2 rfl (by omega) (.slice (some ⟨wp.heap.size, 0, none⟩) 0 0) 0 [] (by rfl) XA.out.2.1 _ _ k _ (cellsC (l.take k)) (by rfl) XA.out.2.2 (cellsC_one _) (by simp only [maxLen]; omega) (by omega) XA.out.1.sz ?_
             intro v2 w2 hown2 hg2 hat2
             have ha2 := Aft.app XA.out.1 XA.out.2.1 hg2
             obtain ⟨s0, s1, s2⟩ := ha2.cells
             have hs2 := ha2.sz)
          | (refine step_append_want (((wp.drewN (nq + 1)).alloc (.cells #[] 111)).alloc (.cells #[.int .i64 c.id, .int .i64 c.kind, .int .i64 c.area] 111)) (by rfl) (.tmp 35) (.tmp 38) _ (by rfl) (w.heap.size + 1) 111 i0 _ 3 24 Try.underlying24 hi0 hz0 hz1 hz2 rfl (by omega) (.slice (some ⟨wp.heap.size, 0, none⟩) 0 0) 0 [] (by rfl) XB.out.2.1 _ _ k _ (cellsC (l.take k)) (by rfl) XB.out.2.2.1 (cellsC_one _) (by simp only [maxLen]; omega) (by omega) XB.out.1.sz ?_
             intro v2 w2 hown2 hg2 hat2
             have ha2 := Aft.app XB.out.1 XB.out.2.1 hg2
             have hN := reads_new XB.out.2.2.2 hg2 (by simp [Value.ownBlock])
             obtain ⟨s0, s1, s2⟩ := ha2.cells
             have hs2 := ha2.sz)
          | (refine step_append_want (((wp.drewN (nq + 1)).alloc (.cells #[.int .i64 c.id, .int .i64 c.kind, .int .i64 c.area] 111)).alloc (.cells #[] 111)) (by rfl) (.tmp 35) (.tmp 38) _ (by rfl) (w.heap.size + 1) 111 i0 _ 3 24 Try.underlying24 hi0 hz0 hz1 hz2 rfl (by omega) (.slice (some ⟨wp.heap.size + 1, 0, none⟩) 0 0) 0 [] (by rfl) XC.out.2.1 _ _ k _ (cellsC (l.take k)) (by rfl) XC.out.2.2.1 (cellsC_one _) (by simp only [maxLen]; omega) (by omega) XC.out.1.sz ?_
             intro v2 w2 hown2 hg2 hat2
             have ha2 := Aft.app XC.out.1 XC.out.2.1 hg2
             have hN := reads_new XC.out.2.2.2 hg2 (by simp [Value.ownBlock])
             obtain ⟨s0, s1, s2⟩ := ha2.cells
             have hs2 := ha2.sz)
          | (refine step_append_want (w2.alloc (.cells #[.int .i64 c.id, .int .i64 c.kind, .int .i64 c.area] 111)) (by rfl) (.tmp 39) (.tmp 41) _ (by rfl) (w.heap.size + 1) 111 i0 _ 3 24 Try.underlying24 hi0 hz0 hz1 hz2 rfl (by omega) v2 (0 + k) ([] ++ cellsC (l.take k)) (by rfl) (hown2.alloc _) _ _ 1 _ (cellsC [c]) (by rfl) (reads_one (B := w2.heap.size + 1) (by omega)) (cellsC_one _) (by simp only [maxLen]; omega) (by omega) (by simp; omega) ?_
             intro v3 w3 hown3 hg3 hat3
             have ha3 := Aft.app (ha2.alloc (.cells #[.int .i64 c.id, .int .i64 c.kind, .int .i64 c.area] 111)) (hown2.alloc _) hg3
             obtain ⟨s0, s1, s2⟩ := ha3.cells
             have hs3 := ha3.sz)
          | (refine step_append_want (w2) (by rfl) (.tmp 39) (.tmp 41) _ (by rfl) (w.heap.size + 1) 111 i0 _ 3 24 Try.underlying24 hi0 hz0 hz1 hz2 rfl (by omega) v2 (0 + k) ([] ++ cellsC (l.take k)) (by rfl) hown2 _ _ 1 _ (cellsC [c]) (by rfl) hN (cellsC_one _) (by simp only [maxLen]; omega) (by omega) ha2.sz ?_
             intro v3 w3 hown3 hg3 hat3
             have ha3 := Aft.app ha2 hown2 hg3
             obtain ⟨s0, s1, s2⟩ := ha3.cells
             have hs3 := ha3.sz)
          | (refine step_append_want (w3) (by rfl) (.tmp 42) (.tmp 45) _ (by rfl) (w.heap.size + 1) 111 i0 _ 3 24 Try.underlying24 hi0 hz0 hz1 hz2 rfl (by omega) v3 (0 + k + 1) ([] ++ cellsC (l.take k) ++ cellsC [c]) (by rfl) hown3 _ _ (l.length - k) _ (cellsC (l.drop k)) (by rfl) ((ha3.reads HR.out).tailC hk (fun h => absurd h hlt2)) (cellsC_one _) (by simp only [maxLen]; omega) (by omega) ha3.sz ?_
             intro v4 w4 hown4 hg4 hat4
             have ha4 := Aft.app ha3 hown3 hg4
             obtain ⟨s0, s1, s2⟩ := ha4.cells))
      all_goals
        go_wp2_with fail
        all_goals
          go_ret
          exact put_made HI.out hk ha4 hown4
end Go.Proofs.Ytnkdpogplkomhaa
