/- What the program's order of digging is. -/
import Derived.Test.YtjkjnicgbfpjiaaUc
import Derived.Test.YtjkjnicgbfpjiaaHh
namespace Go.Proofs.Ytjkjnicgbfpjiaa
open Go.RowKit

/-- A list and whether it is told, in memory of the call's own. -/
def DigPost (w : World) (m : List Int) (b : Bool) (e : Ending) (w2 : World) : Prop :=
  ∃ v, e = .returned (.tuple #[v, .bool b]) ∧ Below w.heap.size w w2 ∧ w2.ownsRow w.heap.size 3 1 v m.length (cellsI m)
section
variable {w w2 : World} {base hb : Nat} {v v2 : Value} {L : List Nat}
/-- A store below the heap's memory. -/
theorem HeapM.other (h : HeapM w base hb v L) {g o : Nat} (x : Value) (hg : g < base) : HeapM (w.setCell ⟨g, o, none⟩ x) base hb v L :=
  ⟨(heap_setCell_other _ _ _ _ (by have := h.lo; simp; omega)).trans h.blk, ownsRow_setCell_other h.own (fun e => by have := (h.own.lt _ e).1; simp at this; omega) _, h.lo, h.far⟩
/-- A row that is not the heap's has grown. -/
theorem HeapM.grown (h : HeapM w base hb v L) {u : Value} (hg : w.grownBy w2 u.ownBlock) (h1 : u.ownBlock ≠ some hb) (h2 : ∀ k, u.ownBlock = some k → v.ownBlock ≠ some k) : HeapM w2 base hb v L := by
  refine ⟨(hg.block hb h.lt fun e => h1 e.symm).trans h.blk, h.own.kept hg ?_, h.lo, h.far⟩
  cases hv : v.ownBlock with
  | none => exact .inl rfl
  | some k => exact .inr fun e => h2 k e.symm hv
/-- A row below the heap's memory stays. -/
theorem HeapS.low {base2 e size n : Nat} {u : Value} {xs : List Value} (h : HeapS w w2 hb v v2) (hm : HeapM w base hb v L) (ho : w.ownsRow base2 e size u n xs) (hu : ∀ g, u.ownBlock = some g → g < base) : w2.ownsRow base2 e size u n xs :=
  (h.row ho (fun e => by have := hu _ e; have := hm.lo; omega) (fun k hk hk2 => by have := hu k hk; have := (hm.own.lt k hk2).1; omega)).1
end
set_option maxHeartbeats 8000000 in
set_option maxRecDepth 100000 in
theorem iDigOrder_gen (A B : Option Addr) (ca cb n : Nat) (F : Nat → Nat → Bool) (ok : Bool) (ids : List Int) (l : List Ctx) (w : World) (ha : Reads w w.heap.size 1 A ids.length (cellsI ids)) (hnn : n ≤ ids.length) (hn : n ≤ 12) (hi : ∀ i, F i i = false) (htr : ∀ i j k, F i j = true → F j k = true → F i k = true)
    (hv : Calls Try.prog 68 #[.slice A ids.length ca, .slice B l.length cb] w (RowsPost w n F ok)) :
    Calls Try.prog 69 #[.slice A ids.length ca, .slice B l.length cb] w (DigPost w (numP ids (dP F n)) ok) := by
  obtain ⟨i0, hi0, hz0, hz1, hz2⟩ := info_parts infoInt
  have HV := Lib.hid (And.intro hv ha)
  have HF := Lib.hid (And.intro hi htr)
  have has := fun (W : World) (v : Value) => assert_int W v
  clear hv ha hi htr
  go_enter Try.func69, Try.ntmps69
  go_wp2_with (first
    | (go_at_call 68; go_must (refine HV.out.1.mono ?_); rintro e w2 ⟨v2, rfl, hb2, ho2⟩
       obtain ⟨A2, c2, hv2, _, hr2⟩ := Reads.of_own ho2
       subst hv2
       have H2 := Lib.hid (And.intro hb2 hr2)
       clear hb2 ho2 hr2)
    | (go_at_call 92; go_must (refine (upC_any A2 c2 n F w2 H2.out.2 hn).mono ?_); rintro e w3 ⟨v3, rfl, hb3, ho3⟩
       obtain ⟨A3, c3, hv3, _, _⟩ := Reads.of_own ho3
       subst hv3
       have H3 := Lib.hid (And.intro hb3 ho3)
       clear hb3 ho3))
  obtain ⟨hb, hhb⟩ : ∃ hb, hb = w3.heap.size + 1 := ⟨_, rfl⟩
  obtain ⟨W0, hW0⟩ : ∃ W0, W0 = (w3.alloc (.cells #[] 3)).alloc (.cells #[.slice (some ⟨w3.heap.size, 0, none⟩) 0 0] 104) := ⟨_, rfl⟩
  have hm0 : HeapM W0 w3.heap.size hb (.slice (some ⟨w3.heap.size, 0, none⟩) 0 0) [] := by
    refine ⟨?_, ?_, by omega, fun e => by simp [Value.ownBlock] at e; omega⟩
    · have h1 := heap_alloc_new (w3.alloc (.cells #[] 3)) (.cells #[.slice (some ⟨w3.heap.size, 0, none⟩) 0 0] 104)
      rw [hW0, hhb]
      simpa using h1
    · rw [hW0]
      exact World.ownsRow.alloc (own_empty (Nat.le_refl _) rfl) _
  have hk0 : Below w3.heap.size w3 W0 := by rw [hW0]; exact ((Below.refl _ _).alloc (Nat.le_refl _) _).alloc (by simp) _
  have hwlt : ∀ g, (Value.slice A3 n c3).ownBlock = some g → g < w3.heap.size := fun g h => (H3.out.2.lt g h).2
  have hs23 : w2.heap.size ≤ w3.heap.size := H3.out.1.size
  have HW := Lib.hid (And.intro hm0 (And.intro (below_step H3.out.1 hk0) (own_below H3.out.2 hk0)))
  have HWL := Lib.hid hwlt
  rw [← hW0, ← hhb]
  clear hm0 hk0 hwlt hW0 hhb
  go_loopw [27] (fun i wr => ∃ (k : Nat) (v : Value) (L : List Nat), k ≤ n ∧ i = .int .i64 k ∧ HeapM wr w3.heap.size hb v L ∧ Ready0 F n k L ∧ HeapF (atL L) L.length ∧ Below w2.heap.size w2 wr ∧ wr.ownsRow w2.heap.size 3 1 (.slice A3 n c3) n ((waitL F n fun _ => false).map encN)) (fun i _ => n - (intOf i).toNat)
  case atStart => exact ⟨0, _, [], Nat.zero_le _, rfl, HW.out.1, ⟨List.nodup_nil, fun x => by simp⟩, fun k _ h => by simp at h, HW.out.2.1, HW.out.2.2⟩
  case round =>
    obtain ⟨k, v, L, hk, rfl, hm, hr0, hhp, hbl, hwt⟩ := hrel
    by_cases hlt : k < n
    · have hki : (k : Int) < (n : Int) := by omega
      obtain ⟨gw, cw, hvw, _, _⟩ := hwt.form (by omega)
      injection hvw with e1 e2 e3
      subst e1 e3
      clear e2
      obtain ⟨y, hy⟩ : ∃ y, y = upN F n (fun _ => false) k := ⟨_, rfl⟩
      obtain ⟨c1, _⟩ := nat_cell hwt (by rw [waitL_at hlt, ← hy]) hlt
      have hlen : L.length ≤ 50 := by have := ready0_len hr0; omega
      have HI := Lib.hid (And.intro hm (And.intro hr0 (And.intro hhp (And.intro hbl (And.intro hwt hy)))))
      clear hm hr0 hhp hbl hwt hy
      by_cases hy0 : y = 0
      · have e0 : ((y : Int) == 0) = true := by rw [hy0]; rfl
        have HY := Lib.hid hy0
        clear hy0
        go_wp2_with (go_at_call 93; go_must (refine (hPush_any w3.heap.size hb v L k wr HI.out.1 HI.out.2.2.1 hlen).mono ?_); rintro e w5 ⟨rfl, v5, L5, hm5, hp5, hh5, hs5⟩)
        go_roundw
        case rel =>
          obtain ⟨hm, hr0, hhp, hbl, hwt, hy⟩ := HI.out
          exact ⟨k + 1, v5, L5, by omega, by go_num, hm5, ready0_push hr0 (by rw [← hy]; exact HY.out) hp5, hh5, hs5.below hm hbl hs23, hs5.low hm hwt HWL.out⟩
        case measure => simp [intOf]; omega
      · have e0 : ((y : Int) == 0) = false := by rw [beq_eq_false_iff_ne]; omega
        have HY := Lib.hid hy0
        clear hy0
        go_wp2_with fail
        go_roundw
        case rel =>
          obtain ⟨hm, hr0, hhp, hbl, hwt, hy⟩ := HI.out
          exact ⟨k + 1, v, L, by omega, by go_num, hm, ready0_skip hr0 (by rw [← hy]; exact HY.out), hhp, hbl, hwt⟩
        case measure => simp [intOf]; omega
    · have hkn : k = n := by omega
      have HI := Lib.hid (And.intro hm (And.intro (ready0_end (hkn ▸ hr0)) (And.intro hhp (And.intro hbl hwt))))
      clear hm hr0 hhp hbl hwt hkn
      go_wp2_with (at_make
                   go_must (refine wpList_make_own _ rfl (.const (.int .i64 0)) (.tmp 41) _ rfl w3.heap.size 3 i0 _ 1 Try.underlying23 hi0 hz0 hz1 _ _ _ n rfl rfl rfl (by rw [hz2]; omega) (by simp only [maxLen]; omega) (by have := HI.out.1.lt; have := HI.out.1.lo; omega) ?_)
                   intro w6 hown6 hg6)
      obtain ⟨hm, hrd, hhp, hbl, hwt⟩ := HI.out
      have b6 : Below wr.heap.size wr w6 := (Below.refl _ _).grown hg6 (Nat.le_refl _) (fun k hk => by cases hk)
      have hap1 : (Value.slice (some ⟨wr.heap.size, 0, none⟩) 0 n).ownBlock ≠ some hb := fun e => by have := hm.lt; simp [Value.ownBlock] at e; omega
      have hap2 : ∀ k, (Value.slice (some ⟨wr.heap.size, 0, none⟩) 0 n).ownBlock = some k → v.ownBlock ≠ some k := fun k e e2 => by have := (hm.own.lt k e2).2; simp [Value.ownBlock] at e; omega
      have H6 := Lib.hid (And.intro (hm.step b6) (And.intro hrd (And.intro hhp (And.intro (below_step hbl b6) (And.intro (own_below hwt b6) (And.intro hown6 (And.intro hap1 hap2)))))))
      clear hm hrd hhp hbl hwt HI hown6 hg6 b6 hap1 hap2
      go_loopw [12] (fun u wr => ∃ (t : Nat) (v : Value) (L : List Nat), t ≤ n ∧ HeapM wr w3.heap.size hb v L ∧ ReadyL F n (dT F n t) L ∧ HeapF (atL L) L.length ∧ Below w2.heap.size w2 wr ∧ wr.ownsRow w2.heap.size 3 1 (.slice A3 n c3) n ((waitL F n (dT F n t)).map encN) ∧ wr.ownsRow w3.heap.size 3 1 u t (cellsI (numP ids ((dP F n).take t))) ∧ u.ownBlock ≠ some hb ∧ ∀ k, u.ownBlock = some k → v.ownBlock ≠ some k) (fun u _ => n - (match u with | .slice _ l _ => l | _ => 0))
      case atStart => exact ⟨0, _, _, Nat.zero_le _, H6.out.1, H6.out.2.1, H6.out.2.2.1, H6.out.2.2.2.1, H6.out.2.2.2.2.1, H6.out.2.2.2.2.2.1, H6.out.2.2.2.2.2.2.1, H6.out.2.2.2.2.2.2.2⟩
      case round =>
        obtain ⟨t, v, L, ht, hm, hrd, hhp, hbl, hwt, hou, hap1, hap2⟩ := hrel
        obtain ⟨Au, cu, hvu, _, _⟩ := Reads.of_own hou
        subst hvu
        obtain ⟨Av, cv, hvv, _, _⟩ := Reads.of_own hm.own
        subst hvv
        obtain ⟨hc1, _⟩ := hm.cell
        obtain ⟨hlf, hcl⟩ := d_closed (n := n) HF.out.1 HF.out.2 t ht
        rcases Nat.eq_zero_or_pos L.length with h0 | h0
        · have htn : t = n := by
            refine Classical.byContradiction fun hne => ?_
            obtain ⟨a, h1, h2, h3, _⟩ := d_next (n := n) HF.out.1 HF.out.2 (by omega) hlf
            have h4 := (hrd.2 a).2 ⟨h1, h3⟩
            rw [List.eq_nil_of_length_eq_zero h0] at h4
            cases h4
          have e0 : decide ((0 : Int) < (L.length : Int)) = false := decide_eq_false (by omega)
          have e00 : decide (0 < L.length) = false := decide_eq_false (by omega)
          have HE := Lib.hid (And.intro htn (And.intro hbl hou))
          clear h0 hm hrd hhp hbl hwt hou hap1 hap2 hlf hcl htn
          go_wp2_with (go_at_call 94; go_must (refine (hLen_any _ _ _ _).mono ?_); rintro e w7 ⟨rfl, rfl⟩)
          go_ret2
          obtain ⟨htn, hbl, hou⟩ := HE.out
          have hln : (numP ids (dP F n)).length = t := by rw [numP_len, dP_len, htn]
          have htk : (dP F n).take t = dP F n := by rw [htn]; exact List.take_of_length_le (by rw [dP_len]; exact Nat.le_refl _)
          rw [htk] at hou
          refine ⟨_, rfl, below_step H2.out.1 hbl, ?_⟩
          rw [hln]
          exact own_less hou (Nat.le_trans H2.out.1.size hs23)
        · obtain ⟨m, hL⟩ : ∃ m, L.length = m + 1 := ⟨L.length - 1, by omega⟩
          have hL12 : L.length ≤ 12 := by have := ready_len hrd; omega
          obtain ⟨a, hae⟩ : ∃ a, a = atL L 0 := ⟨_, rfl⟩
          have haL : a ∈ L := by rw [hae]; exact List.mem_of_getElem? (atL_some (k := 0) (by omega))
          obtain ⟨han, haf⟩ := (hrd.2 a).1 haL
          have hmin : ∀ x, x ∈ L → a ≤ x := fun x hx => by
            obtain ⟨k, hk, hkx⟩ := List.mem_iff_getElem.1 hx
            have h1 := heap_least hhp k hk
            have h2 : atL L k = x := by rw [← hkx]; simp [atL, hk]
            rw [hae, ← h2]
            exact h1
          obtain ⟨htn, hpt, hdn⟩ : t < n ∧ (dP F n)[t]? = some a ∧ dT F n (t + 1) = dugB (dT F n t) a := by
            have htn : t < n := by
              refine Classical.byContradiction fun hne => ?_
              have := left_next han (freeB_iff.1 haf).1
              omega
            obtain ⟨a2, h1, h2, h3, h4, h5, _⟩ := d_next (n := n) HF.out.1 HF.out.2 htn hlf
            have e : a = a2 := by
              have h6 := hmin a2 ((hrd.2 a2).2 ⟨h1, h3⟩)
              refine Nat.le_antisymm h6 (Nat.not_lt.1 fun h7 => ?_)
              rw [h4 a h7] at haf
              cases haf
            subst e
            exact ⟨htn, h2, h5⟩
          have hpop := hPop_any w3.heap.size hb m _ L wr hm hhp hL (by omega)
          rw [← hae] at hpop
          obtain ⟨d, hd⟩ : ∃ d, d = dT F n t := ⟨_, rfl⟩
          rw [← hd] at hrd haf hdn hcl hwt
          obtain ⟨x, hx⟩ : ∃ x, ids[a]? = some x := ⟨_, List.getElem?_eq_getElem (by omega)⟩
          have hnx := numP_next (ids := ids) hpt
          have hgx : ids.getD a 0 = x := by simp [hx]
          rw [hgx] at hnx
          obtain ⟨q, hq⟩ : ∃ q, q = numP ids ((dP F n).take t) := ⟨_, rfl⟩
          have hql : q.length = t := by rw [hq, numP_len, List.length_take, dP_len]; omega
          rw [← hq] at hou hnx
          have hai : (a : Int) < (ids.length : Int) := by omega
          have hain : (a : Int) < (n : Int) := by omega
          have HP := Lib.hid (And.intro hpop (And.intro hm (And.intro hrd (And.intro hbl (And.intro hwt (And.intro hou (And.intro hap1 hap2)))))))
          have HD := Lib.hid (And.intro hx (And.intro hnx (And.intro hdn (And.intro hcl (And.intro haf (And.intro hd (And.intro hq hql)))))))
          clear h0 hm hrd hhp hbl hwt hou hap1 hap2 hlf hcl hae haL haf hmin hpt hdn hpop hd hx hnx hgx hq hql
          go_wp2_with (first
            | (go_at_call 94; go_must (refine (hLen_any _ _ _ _).mono ?_); rintro e w7 ⟨rfl, rfl⟩)
            | (go_at_call 95; go_must (refine HP.out.1.mono ?_); rintro e w5 ⟨rfl, v5, L5, hm5, hp5, hh5, hs5⟩
               have hbl5 := hs5.below HP.out.2.1 HP.out.2.2.2.1 hs23
               obtain ⟨b3, off3, hA4, hbb3, hc3⟩ := (HV.out.2.step (below_step H2.out.1 hbl5)).ints (by omega)
               subst hA4
               have f0 := hc3 a _ HD.out.1
               obtain ⟨ho5, hap5⟩ := hs5.row HP.out.2.2.2.2.2.1 HP.out.2.2.2.2.2.2.1 HP.out.2.2.2.2.2.2.2
               have H5 := Lib.hid (And.intro hm5 (And.intro hp5 (And.intro hh5 (And.intro hbl5 (And.intro (hs5.low HP.out.2.1 HP.out.2.2.2.2.1 HWL.out) (And.intro ho5 (And.intro hap5 hbb3)))))))
               have hsz5 : w3.heap.size ≤ w5.heap.size := by have := hm5.lt; have := hm5.lo; omega
               clear hm5 hp5 hh5 hs5 hbl5 hc3 ho5 hap5)
            | (at_builtin
               go_must (refine wpList_append_reads _ rfl (.tmp 52) (.tmp 57) _ rfl w3.heap.size 3 i0 _ 1 8 Try.underlying23 hi0 hz0 hz1 hz2 rfl (by omega) _ t _ rfl (H5.out.2.2.2.2.2.1.alloc _) (w5.heap.size + 1) _ 1 1 (cellsI [x]) rfl (reads_int (by omega)) (cellsI_one _) (by simp only [maxLen]; omega) (by omega) (by simp; omega) ?_)
               intro v8 w8 hown8 hg8 hat8))
          obtain ⟨Au8, cu8, hvu8, _, _⟩ := Reads.of_own hown8
          obtain ⟨q2, hq2⟩ : ∃ q2, q2 = q ++ [x] := ⟨_, rfl⟩
          have hq2l : q2.length = t + 1 := by rw [hq2, List.length_append, HD.out.2.2.2.2.2.2.2]; rfl
          have hown9 : w8.ownsRow w3.heap.size 3 1 v8 (t + 1) (cellsI q2) := by
            rw [hq2, sCells_append]
            exact hown8
          obtain ⟨ha1, ha2⟩ : v8.ownBlock ≠ some hb ∧ ∀ k, v8.ownBlock = some k → v5.ownBlock ≠ some k := by
            have hlt5 := H5.out.1.lt
            have hs8 : w5.heap.size ≤ (w5.alloc (.cells #[.int .i64 x] 3)).heap.size := by simp
            refine ⟨fun e => ?_, fun k e e2 => ?_⟩
            · rcases hat8 with e3 | e3
              · exact HP.out.2.2.2.2.2.2.1 (e3 ▸ e)
              · rw [e] at e3; injection e3 with e3; omega
            · rcases hat8 with e3 | e3
              · exact H5.out.2.2.2.2.2.2.1 k (e3 ▸ e) e2
              · rw [e] at e3; injection e3 with e3
                have := (H5.out.1.own.lt k e2).2
                omega
          have hkp : ∀ u : Value, (∀ g, u.ownBlock = some g → g < w3.heap.size) → u.ownBlock = none ∨ u.ownBlock ≠ (Value.slice Au t cu).ownBlock := fun u hu => by
            cases hg : u.ownBlock with
            | none => exact .inl rfl
            | some g =>
              refine .inr fun e => ?_
              have h1 := hu g hg
              have h2 := (H5.out.2.2.2.2.2.1.lt g e.symm).1
              omega
          have h8m := (H5.out.1.step ((Below.refl _ _).alloc (Nat.le_refl _) (.cells #[.int .i64 x] 3))).grown hg8 HP.out.2.2.2.2.2.2.1 H5.out.2.2.2.2.2.2.1
          have h8b := below_grown (H5.out.2.2.2.2.2.1.alloc _) hg8 (H5.out.2.2.2.1.alloc (by have := H5.out.2.2.2.1.size; omega) _) hs23
          have h8w := (H5.out.2.2.2.2.1.alloc (.cells #[.int .i64 x] 3)).kept hg8 (hkp _ HWL.out)
          obtain ⟨_, _, hrk⟩ := ready_pop HP.out.2.2.1 H5.out.2.1
          have hda : d a = false := (freeB_iff.1 HD.out.2.2.2.2.1).1
          have HE := Lib.hid (And.intro h8m (And.intro hrk (And.intro H5.out.2.2.1 (And.intro h8b (And.intro h8w (And.intro hown9 (And.intro ha1 (And.intro ha2 hda))))))))
          have hx2 : w2.heap.size ≤ w8.heap.size := h8b.size
          have hlen2 : (waitL F n (dugB d a)).length = (waitL F n d).length := by rw [waitL_len, waitL_len]
          have HL := Lib.hid (And.intro hlen2 (And.intro hq2 hq2l))
          clear hown8 hown9 hg8 hat8 ha1 ha2 hkp h8m h8b h8w hrk hda hlen2 hq2 hq2l f0
          subst hvu8
          go_loopw [61] (fun i wr => ∃ (k : Nat) (v : Value) (L : List Nat), k ≤ n ∧ i = .int .i64 k ∧ HeapM wr w3.heap.size hb v L ∧ ReadyK F n d a k L ∧ HeapF (atL L) L.length ∧ Below w2.heap.size w2 wr ∧ wr.ownsRow w2.heap.size 3 1 (.slice A3 n c3) n ((mixL (waitL F n (dugB d a)) (waitL F n d) k).map encN) ∧ wr.ownsRow w3.heap.size 3 1 (.slice Au8 (t + 1) cu8) (t + 1) (cellsI q2) ∧ (Value.slice Au8 (t + 1) cu8).ownBlock ≠ some hb ∧ ∀ k, (Value.slice Au8 (t + 1) cu8).ownBlock = some k → v.ownBlock ≠ some k) (fun i _ => n - (intOf i).toNat)
          case atStart => exact ⟨0, _, _, Nat.zero_le _, rfl, HE.out.1, HE.out.2.1, HE.out.2.2.1, HE.out.2.2.2.1, by rw [mixL_zero]; exact HE.out.2.2.2.2.1, HE.out.2.2.2.2.2.1, HE.out.2.2.2.2.2.2.1, HE.out.2.2.2.2.2.2.2.1⟩
          case round =>
            obtain ⟨k, v, L, hk, rfl, hm, hrk, hhp, hbl, hwt, hou, hap1, hap2⟩ := hrel
            by_cases hlt : k < n
            · have hki : (k : Int) < (n : Int) := by omega
              obtain ⟨b4, off4, hA5, hbb4, hc4⟩ := (H2.out.2.below hbl).rows (by omega)
              subst hA5
              obtain ⟨z, hz⟩ : ∃ z, z = bitN n (F a) := ⟨_, rfl⟩
              have c1 := hc4 a z (by rw [rowsN_at _ han, hz])
              have hht := has_row F n a k hn hlt wr
              rw [← hz] at hht
              obtain ⟨gw, cw, hvw, hgw0, hgwl⟩ := hwt.form (by omega)
              injection hvw with e1 e2 e3
              subst e1 e3
              clear e2
              obtain ⟨y, hy⟩ : ∃ y, y = upN F n d k := ⟨_, rfl⟩
              have hy12 : y ≤ 12 := by rw [hy]; exact Nat.le_trans (upN_le k) hn
              have hup := upN_dug (f := F) (i := k) han HE.out.2.2.2.2.2.2.2.2
              rw [← hy] at hup
              obtain ⟨f1, f2⟩ := nat_cell hwt (by rw [mixL_old HL.out.1 (Nat.le_refl _), waitL_at hlt, ← hy]) hlt
              have hgw3 : gw < w3.heap.size := HWL.out gw rfl
              have hlen : L.length ≤ 12 := by have := readyK_len hrk hk; omega
              cases hF : F a k
              · rw [hF] at hht hup
                have hsame : (waitL F n (dugB d a))[k]? = (waitL F n d)[k]? := by
                  rw [waitL_at hlt, waitL_at hlt]
                  congr 1
                  simpa [hy] using hup
                have HI := Lib.hid (And.intro hm (And.intro (readyK_skip hrk (by rw [hF]; simp)) (And.intro hhp (And.intro hbl (And.intro hwt (And.intro hou (And.intro hap1 (And.intro hap2 hsame))))))))
                have HT := Lib.hid hht
                clear hm hrk hhp hbl hwt hou hap1 hap2 hsame hht hF hy hz hup hc4
                go_wp2_with (go_at_call 67; go_must (refine HT.out.mono ?_); rintro e w9 ⟨rfl, rfl⟩)
                go_roundw
                case rel =>
                  obtain ⟨hm, hrk, hhp, hbl, hwt, hou, hap1, hap2, hsame⟩ := HI.out
                  exact ⟨k + 1, v, L, by omega, by go_num, hm, hrk, hhp, hbl, by rw [mixL_same HL.out.1 hsame]; exact hwt, hou, hap1, hap2⟩
                case measure => simp [intOf]; omega
              · rw [hF, if_pos rfl] at hup
                rw [hF] at hht
                obtain ⟨y2, hy2⟩ : ∃ y2, y2 = upN F n (dugB d a) k := ⟨_, rfl⟩
                rw [← hy2] at hup
                have hyy : (y : Int) - 1 = (y2 : Int) := by omega
                have hset : (waitL F n (dugB d a))[k]? = some y2 := by rw [waitL_at hlt, hy2]
                have hw9 := nat_store hwt k y2
                rw [mixL_set HL.out.1 hset] at hw9
                have hb9 : Below w2.heap.size w2 (wr.setCell ⟨gw, k, none⟩ (.int .i64 (y2 : Int))) := hbl.setCell (by simpa using hgw0) _
                have hm9 := hm.other (o := k) (.int .i64 (y2 : Int)) hgw3
                have ho9 : (wr.setCell ⟨gw, k, none⟩ (.int .i64 (y2 : Int))).ownsRow w3.heap.size 3 1 (.slice Au8 (t + 1) cu8) (t + 1) (cellsI q2) := ownsRow_setCell_other hou (fun e => by have := (hou.lt _ e).1; simp at this; omega) _
                by_cases h0 : y2 = 0
                · have e0 : ((y2 : Int) == 0) = true := by rw [h0]; rfl
                  have HI := Lib.hid (And.intro hm9 (And.intro hrk (And.intro hhp (And.intro hb9 (And.intro hw9 (And.intro ho9 (And.intro hap1 (And.intro hap2 (And.intro hF (hy2 ▸ h0))))))))))
                  have HT := Lib.hid hht
                  clear hm hrk hhp hbl hwt hou hap1 hap2 hht hF hy hy2 hz hup hc4 hset hw9 hb9 hm9 ho9 h0
                  go_wp2_with (first
                    | (go_at_call 67; go_must (refine HT.out.mono ?_); rintro e w9 ⟨rfl, rfl⟩)
                    | (go_at_call 93; go_must (refine (hPush_any w3.heap.size hb v L k _ HI.out.1 HI.out.2.2.1 (by omega)).mono ?_); rintro e w5 ⟨rfl, v5, L5, hm5, hp5, hh5, hs5⟩))
                  go_roundw
                  case rel =>
                    obtain ⟨hm, hrk, hhp, hbl, hwt, hou, hap1, hap2, hF, h0⟩ := HI.out
                    obtain ⟨r1, r2⟩ := hs5.row hou hap1 hap2
                    exact ⟨k + 1, v5, L5, by omega, by go_num, hm5, readyK_push hrk han HE.out.2.2.2.2.2.2.2.2 hF h0 hp5, hh5, hs5.below hm hbl hs23, hs5.low hm hwt HWL.out, r1, hap1, r2⟩
                  case measure => simp [intOf]; omega
                · have e0 : ((y2 : Int) == 0) = false := by rw [beq_eq_false_iff_ne]; omega
                  have HI := Lib.hid (And.intro hm9 (And.intro (readyK_skip hrk (fun h => h0 (by rw [hy2]; exact h.2))) (And.intro hhp (And.intro hb9 (And.intro hw9 (And.intro ho9 (And.intro hap1 hap2)))))))
                  have HT := Lib.hid hht
                  clear hm hrk hhp hbl hwt hou hap1 hap2 hht hF hy hy2 hz hup hc4 hset hw9 hb9 hm9 ho9 h0
                  go_wp2_with (go_at_call 67; go_must (refine HT.out.mono ?_); rintro e w9 ⟨rfl, rfl⟩)
                  go_roundw
                  case rel =>
                    obtain ⟨hm, hrk, hhp, hbl, hwt, hou, hap1, hap2⟩ := HI.out
                    exact ⟨k + 1, v, L, by omega, by go_num, hm, hrk, hhp, hbl, hwt, hou, hap1, hap2⟩
                  case measure => simp [intOf]; omega
            · have hkn : k = n := by omega
              have hend := readyK_end (hkn ▸ hrk) HF.out.1 HD.out.2.2.2.1 han HE.out.2.2.2.2.2.2.2.2
              have HI := Lib.hid (And.intro hm (And.intro hend (And.intro hhp (And.intro hbl (And.intro hwt (And.intro hou (And.intro hap1 (And.intro hap2 hkn))))))))
              clear hm hrk hhp hbl hwt hou hap1 hap2 hend hkn
              go_wp2_with fail
              go_roundw
              case rel =>
                obtain ⟨hm, hend, hhp, hbl, hwt, hou, hap1, hap2, hkn⟩ := HI.out
                have h9 := mixL_all HL.out.1
                rw [waitL_len] at h9
                rw [hkn, h9] at hwt
                refine ⟨t + 1, v, L, by omega, hm, by rw [HD.out.2.2.1]; exact hend, hhp, hbl, by rw [HD.out.2.2.1]; exact hwt, ?_, hap1, hap2⟩
                rw [HD.out.2.1, ← HL.out.2.1]
                exact hou
              case measure => simp; omega
theorem iDigOrder_any (A B : Option Addr) (ca cb : Nat) (ids : List Int) (l : List Ctx) (w : World) (ha : Reads w w.heap.size 1 A ids.length (cellsI ids)) (hb : Reads w w.heap.size 3 B l.length (cellsC l)) (hn : ids.length ≤ 1000000000) (hl : l.length ≤ 1000000000) :
    Calls Try.prog 69 #[.slice A ids.length ca, .slice B l.length cb] w (DigPost w (digG ids l) (ordOkG ids l)) := by
  have hv := iVRows_any A B ca cb ids l w ha hb hn hl
  cases ho : ordOkG ids l
  · rw [vN_no ho, ho] at hv
    have h := iDigOrder_gen A B ca cb 0 (fun _ _ => false) false ids l w ha (by omega) (by omega) (fun _ => rfl) (fun _ _ _ h _ => by cases h) hv
    rw [show digG ids l = numP ids (dP (fun _ _ => false) 0) from by unfold digG; rw [ho]; rfl]
    exact h
  · rw [vN_ok ho, ho] at hv
    have hok := ordOk_ok ho
    have h := iDigOrder_gen A B ca cb ids.length (ordF ids l) true ids l w ha (Nat.le_refl _) (validO_len (okG_parts hok).1) (ordF_irr ho) (ordF_tr hok) hv
    rw [show digG ids l = numP ids (dP (ordF ids l) ids.length) from by unfold digG; rw [ho]; rfl]
    exact h
end Go.Proofs.Ytjkjnicgbfpjiaa
