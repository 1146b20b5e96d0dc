/- Relations as texts; what the model's text of relations returns. -/
import Derived.Test.YtbbjdpmffokcfaaDoorTx
import Derived.Test.YtbbjdpmffokcfaaDoorA2
import Derived.Deep.RegionHeld3
namespace Go.Proofs.YtbbjdpmffokcfaaDoor
open Go.RowKit

/-- The sign of a kind. -/
def sgn (k : Int) : List UInt8 := if k = 2 then [61] else [62]
def relT (r : Ctx) : List UInt8 := dec r.id ++ sgn r.area ++ dec r.kind
def joinR (l : List Ctx) : List UInt8 := Lib.join (l.map relT) [32]
def textR (l : List Ctx) : List UInt8 := if validR l then joinR l else []
theorem dec_len {n : Int} (h0 : 0 ≤ n) (h1 : n < 100) : (dec n).length ≤ 2 := by
  obtain ⟨m, rfl⟩ : ∃ m : Nat, n = (m : Int) := ⟨n.toNat, by omega⟩
  by_cases h : m < 10
  · rw [dec_one h]; simp
  · rw [dec_two h (by omega)]; simp
theorem okR_parts {r : Ctx} (h : okR r = true) : 1 ≤ r.id ∧ r.id ≤ 99 ∧ 1 ≤ r.kind ∧ r.kind ≤ 99 ∧ r.id ≠ r.kind ∧ (r.area = 1 ∨ (r.area = 2 ∧ r.id < r.kind)) := by
  simp only [okR, inR, Bool.and_eq_true, Bool.or_eq_true, decide_eq_true_eq] at h
  omega
theorem sgn_len (k : Int) : (sgn k).length = 1 := by unfold sgn; split <;> rfl
theorem relT_len {r : Ctx} (h : okR r = true) : (relT r).length ≤ 5 := by
  have hp := okR_parts h
  have h1 := dec_len (n := r.id) (by omega) (by omega)
  have h2 := dec_len (n := r.kind) (by omega) (by omega)
  unfold relT
  rw [List.length_append, List.length_append, sgn_len]
  omega
theorem joinR_zero (l : List Ctx) : joinR (l.take 0) = [] := rfl
theorem joinR_one {l : List Ctx} {c : Ctx} (h : l[0]? = some c) : joinR (l.take 1) = relT c := by
  unfold joinR
  rw [List.take_add_one, h]
  simp [Lib.join_one]
theorem joinR_more {l : List Ctx} {k : Nat} {c : Ctx} (hk : 0 < k) (h : l[k]? = some c) : joinR (l.take (k + 1)) = joinR (l.take k) ++ [32] ++ relT c := by
  unfold joinR
  cases l with
  | nil => simp at h
  | cons d l =>
    obtain ⟨j, rfl⟩ : ∃ j, k = j + 1 := ⟨k - 1, by omega⟩
    rw [List.take_succ_cons, List.take_succ_cons, List.map_cons, List.map_cons, Lib.join_cons, Lib.join_cons]
    have hj : (l.map relT)[j]? = some (relT c) := by rw [List.getElem?_map]; simp at h; rw [h]; rfl
    have := Lib.joinTail_take_succ [32] (l.map relT) j (relT c) hj
    rw [List.map_take, List.map_take, this]
    simp
theorem joinR_len {l : List Ctx} (hv : ∀ c ∈ l, okR c = true) : ∀ k, (joinR (l.take k)).length ≤ 6 * k
  | 0 => by rw [joinR_zero]; simp
  | k + 1 => by
    have ih := joinR_len hv k
    cases h : l[k]? with
    | none =>
      have : l.take (k + 1) = l.take k := by rw [List.take_add_one, h]; simp
      rw [this]; omega
    | some c =>
      have hc := relT_len (hv c (List.mem_of_getElem? h))
      rcases Nat.eq_zero_or_pos k with h0 | hp
      · subst h0; rw [joinR_one h]; omega
      · rw [joinR_more hp h, List.length_append, List.length_append]
        simp only [List.length_cons, List.length_nil]
        omega

section
variable {P : Program} {ops : Array Oper} {Q : Exit → Act → World → Prop} {md : Region.Mode}
/-- A condition on the world that says more may be taken on. -/
theorem wpAnyH_more {S S2 : World → Prop} (hi : ∀ w, S2 w → S w) : ∀ (fuel : Nat) (listed : Array Bool) (a : Act) (w : World), wpAnyH P md ops Q S2 fuel listed a w → wpAnyH P md ops Q S fuel listed a w
  | 0, _, _, _, h => h
  | fuel + 1, _, _, _, h => ⟨h.1, fun i hm => wpOp_mono (fun _ _ ⟨h1, h2⟩ => ⟨hi _ h1, wpAnyH_more hi fuel _ _ _ h2⟩) (h.2 i hm)⟩
end

theorem list_at {w : World} {B b off k : Nat} {l : List Ctx} {c : Ctx} (h : ∃ b2 off2, (some ⟨b, off, none⟩ : Option Addr) = some ⟨b2, off2, none⟩ ∧ b2 < B ∧ ∀ j u, (cellsC l)[j]? = some u → w.cell? ⟨b2, off2 + j, none⟩ = some u) (hk : l[k]? = some c) :
    w.cell? ⟨b, off + k * 3, none⟩ = some (.int .i64 c.id) ∧ w.cell? ⟨b, off + k * 3 + 1, none⟩ = some (.int .i64 c.kind) ∧ w.cell? ⟨b, off + k * 3 + 2, none⟩ = some (.int .i64 c.area) := by
  obtain ⟨b2, off2, e, _, hc⟩ := h
  injection e with e
  injection e with e1 e2
  subst e1 e2
  have := cellsC_at l k c hk
  exact ⟨hc _ _ this.1, hc _ _ this.2.1, hc _ _ this.2.2⟩

theorem keepL {W W2 : World} {b o : Nat} {x y z : Value} (hb : Below W.heap.size W W2) (hlt : b < W.heap.size) (h : W.cell? ⟨b, o, none⟩ = some x ∧ W.cell? ⟨b, o + 1, none⟩ = some y ∧ W.cell? ⟨b, o + 2, none⟩ = some z) :
    W2.cell? ⟨b, o, none⟩ = some x ∧ W2.cell? ⟨b, o + 1, none⟩ = some y ∧ W2.cell? ⟨b, o + 2, none⟩ = some z :=
  ⟨(hb.cell (p := ⟨b, o, none⟩) hlt).trans h.1, (hb.cell (p := ⟨b, o + 1, none⟩) hlt).trans h.2.1, (hb.cell (p := ⟨b, o + 2, none⟩) hlt).trans h.2.2⟩

theorem keepA {W : World} {O : Obj} {b o : Nat} {x y z : Value} (hlt : b < W.heap.size) (h : W.cell? ⟨b, o, none⟩ = some x ∧ W.cell? ⟨b, o + 1, none⟩ = some y ∧ W.cell? ⟨b, o + 2, none⟩ = some z) :
    (W.alloc O).cell? ⟨b, o, none⟩ = some x ∧ (W.alloc O).cell? ⟨b, o + 1, none⟩ = some y ∧ (W.alloc O).cell? ⟨b, o + 2, none⟩ = some z :=
  keepL ((Below.refl _ _).alloc (Nat.le_refl _) _) hlt h
theorem keepT {W W2 : World} {b o g i : Nat} {x y z u : Value} (hb : Below W.heap.size W W2) (hlt : b < W.heap.size) (hg : g < W.heap.size) (h : (W.cell? ⟨b, o, none⟩ = some x ∧ W.cell? ⟨b, o + 1, none⟩ = some y ∧ W.cell? ⟨b, o + 2, none⟩ = some z) ∧ W.cell? ⟨g, i, none⟩ = some u) :
    (W2.cell? ⟨b, o, none⟩ = some x ∧ W2.cell? ⟨b, o + 1, none⟩ = some y ∧ W2.cell? ⟨b, o + 2, none⟩ = some z) ∧ W2.cell? ⟨g, i, none⟩ = some u :=
  ⟨keepL hb hlt h.1, (hb.cell (p := ⟨g, i, none⟩) hg).trans h.2⟩
/-- The cell of the table of signs. -/
theorem tab_cell {W : World} {t : TypeId} {j : Nat} (h : j = 1 ∨ j = 2) : (W.alloc (.cells #[.string ⟨#[]⟩, .string ⟨#[62]⟩, .string ⟨#[61]⟩] t)).cell? ⟨W.heap.size, j, none⟩ = some (.string (txt (sgn (j : Int)))) := by
  rw [cell_of_row _ _ _ _ _ _ (heap_alloc_new _ _)]
  rcases h with rfl | rfl <;> rfl
theorem no_wrap {a b : Nat} (h : a + b ≤ 1000) : ¬ 9223372036854775807 < a + b := by omega

set_option maxHeartbeats 8000000 in
set_option maxRecDepth 100000 in
theorem sText_any (A : Option Addr) (cap : Nat) (l : List Ctx) (w : World) (hr : Reads w w.heap.size 3 A l.length (cellsC l)) (hl : l.length ≤ 1000000000000) :
    Calls Tryd.prog 10 #[.slice A l.length cap] w fun e w2 => e = .returned (.string (txt (textR l))) ∧ Below w.heap.size w w2 := by
  go_enter Tryd.func10, Tryd.ntmps10
  go_wp2_with fail
  go_loopw [3, 4] (fun vo vi wr => ∃ k : Nat, k ≤ l.length ∧ vi = .int .i64 k ∧ vo = .string (txt (joinR (l.take k))) ∧ Below w.heap.size w wr ∧ (validR l = false → k = 0)) (fun _ i _ => l.length - (intOf i).toNat)
  case atStart => exact ⟨0, Nat.zero_le _, rfl, rfl, Below.refl _ _, fun _ => rfl⟩
  case round =>
    obtain ⟨k, hk, rfl, rfl, hb, hv0⟩ := hrel
    have HV0 := Lib.hid hv0
    have HB := Lib.hid hb
    clear hv0
    by_cases hlt : k < l.length
    · cases hv : validR l
      · have hk0 : k = 0 := HV0.out hv
        have HT : Hid (textR l = []) := by show textR l = []; unfold textR; rw [hv]; rfl
        subst hk0
        have r1 := hr.step hb
        clear hb
        go_wp2_with (first | (go_at_call 11; go_must (refine (sValidR_any _ _ l _ r1 (by omega)).mono ?_); rintro e w3 ⟨rfl, hb3⟩))
        go_ret
        exact ⟨ret_str (by rw [HT.out]; rfl), below_step HB.out hb3⟩
      · have r1 := hr.step hb
        have hls := validO_len hv
        have hall := validO_ok hv
        have hjl := joinR_len hall k
        have hk0 : l[k]? = some l[k] := List.getElem?_eq_getElem hlt
        have hok := okR_parts (hall _ (List.getElem_mem hlt))
        have HALL := Lib.hid hall
        have HK := Lib.hid hk0
        have hsz : (txt (joinR (l.take k))).size ≤ 200 := by rw [txt_size]; omega
        clear hall hb
        have d1 := dec_len (n := l[k].id) (by omega) (by omega)
        have d2 := dec_len (n := l[k].kind) (by omega) (by omega)
        have z1 : (txt (dec l[k].id)).size ≤ 2 := by rw [txt_size]; omega
        have z2 : (txt (dec l[k].kind)).size ≤ 2 := by rw [txt_size]; omega
        obtain ⟨b, off, hA, hbl, hc⟩ := r1.ctx (by omega)
        subst hA
        have e1 : decide (k < l.length) = true := by simp [hlt]
        obtain ⟨j, hj, hja⟩ : ∃ j : Nat, (j = 1 ∨ j = 2) ∧ l[k].area = (j : Int) := by
          rcases hok.2.2.2.2.2 with h | h
          · exact ⟨1, .inl rfl, h⟩
          · exact ⟨2, .inr rfl, h.1⟩
        have HJ := Lib.hid hj
        have HJA := Lib.hid hja
        have hj3 : j < 3 := by omega
        have hjI : (j : Int) < 3 := by omega
        have hjI0 : (0 : Int) ≤ (j : Int) := by omega
        have hkI : (k : Int) < (l.length : Int) := by omega
        have hI : 1 ≤ l[k].id ∧ l[k].id ≤ 99 ∧ 1 ≤ l[k].kind ∧ l[k].kind ≤ 99 := ⟨hok.1, hok.2.1, hok.2.2.1, hok.2.2.2.1⟩
        clear hj hja hok d1 d2 hk0
        have r1h := Lib.hid r1
        clear r1
        rcases Nat.eq_zero_or_pos k with h0 | hpos
        · have e0 : decide (0 < k) = false := by simp; omega
          obtain ⟨pre, hpre⟩ : ∃ pre, pre = joinR (l.take k) := ⟨_, rfl⟩
          have HF : Hid (pre ++ (dec l[k].id ++ (sgn (j : Int) ++ dec l[k].kind)) = joinR (l.take (k + 1))) := by
            show pre ++ _ = joinR (l.take (k + 1))
            have hk1 := HK.out
            subst h0
            rw [hpre, joinR_one hk1, joinR_zero, relT, HJA.out, List.nil_append, List.append_assoc]
          rw [← hpre]
          rw [← hpre] at hsz
          clear h0 hpre hjl
          go_wp2_with (first | (go_at_call 11; go_must (refine (sValidR_any _ _ l _ r1h.out (by omega)).mono ?_); rintro e w3 ⟨rfl, hb3⟩))
          have hc3 := (r1h.out.step hb3).2 (by omega)
          obtain ⟨hx1, hx2, hx3⟩ := list_at hc3 HK.out
          rw [HJA.out] at hx3
          have HB3 := Lib.hid (below_step HB.out hb3)
          have hlt3 : b < w3.heap.size := Nat.lt_of_lt_of_le hbl hb3.size
          have n1 := no_wrap (a := (txt pre).size) (b := (txt (dec l[k].id)).size) (by omega)
          have n2 := no_wrap (a := (txt (pre ++ dec l[k].id)).size) (b := (txt (sgn (j : Int))).size) (by rw [txt_size, txt_size, List.length_append, sgn_len]; rw [txt_size] at hsz z1; omega)
          have n3 := no_wrap (a := (txt (pre ++ (dec l[k].id ++ sgn (j : Int)))).size) (b := (txt (dec l[k].kind)).size) (by rw [txt_size, txt_size, List.length_append, List.length_append, sgn_len]; rw [txt_size] at hsz z1 z2; omega)
          have hta := txt_append
          clear hc3 hc hb3
          refine wp_region_held_drew (S := fun w' => w'.cell? ⟨b, off + k * 3, none⟩ = some (.int .i64 l[k].id) ∧ w'.cell? ⟨b, off + k * 3 + 1, none⟩ = some (.int .i64 l[k].kind) ∧ w'.cell? ⟨b, off + k * 3 + 2, none⟩ = some (.int .i64 (j : Int))) (by kernel_rfl) ⟨hx1, hx2, hx3⟩ (fun hHeld => ?_)
          refine wpAnyH_take (i := 0) (v := ?_) rfl (by kernel_rfl) (by kernel_rfl) (by kernel_rfl) (fun _ _ _ h => h) (Or.inl ⟨by rfl, ?_⟩) hHeld ?_
          rotate_left
          · intro w' hSw
            try dsimp only at hSw
            go_simp
            try with_reducible rfl
          try simp only [Act.put]
          try simp only [List.setIfInBounds_toArray]
          try simp only [List.set_cons_succ]
          try simp only [List.set_cons_zero]
          refine wpAnyH_take (i := 1) (v := ?_) rfl (by kernel_rfl) (by kernel_rfl) (by kernel_rfl) (fun _ _ _ h => h) (Or.inl ⟨by rfl, ?_⟩) hHeld ?_
          rotate_left
          · intro w' hSw
            try dsimp only at hSw
            go_simp
            try with_reducible rfl
          try simp only [Act.put]
          try simp only [List.setIfInBounds_toArray]
          try simp only [List.set_cons_succ]
          try simp only [List.set_cons_zero]
          refine wpAnyH_take (i := 2) (v := ?_) rfl (by kernel_rfl) (by kernel_rfl) (by kernel_rfl) (fun _ _ _ h => h) (Or.inl ⟨by rfl, ?_⟩) hHeld ?_
          rotate_left
          · intro w' hSw
            try dsimp only at hSw
            go_simp
            try with_reducible rfl
          try simp only [Act.put]
          try simp only [List.setIfInBounds_toArray]
          try simp only [List.set_cons_succ]
          try simp only [List.set_cons_zero]
          refine wpAnyH_take (i := 3) (v := ?_) rfl (by kernel_rfl) (by kernel_rfl) (by kernel_rfl) (fun _ _ _ h => h) (Or.inl ⟨by rfl, ?_⟩) hHeld ?_
          rotate_left
          · intro w' hSw
            try dsimp only at hSw
            go_simp
            try with_reducible rfl
          try simp only [Act.put]
          try simp only [List.setIfInBounds_toArray]
          try simp only [List.set_cons_succ]
          try simp only [List.set_cons_zero]
          refine wpAnyH_take (i := 4) (v := ?_) rfl (by kernel_rfl) (by kernel_rfl) (by kernel_rfl) (fun _ _ _ h => h) (Or.inl ⟨by rfl, ?_⟩) hHeld ?_
          rotate_left
          · intro w' hSw
            try dsimp only at hSw
            go_simp
            try with_reducible rfl
          try simp only [Act.put]
          try simp only [List.setIfInBounds_toArray]
          try simp only [List.set_cons_succ]
          try simp only [List.set_cons_zero]
          refine wpAnyH_take (i := 5) (v := ?_) rfl (by kernel_rfl) (by kernel_rfl) (by kernel_rfl) (fun _ _ _ h => h) (Or.inl ⟨by rfl, ?_⟩) hHeld ?_
          rotate_left
          · intro w' hSw
            try dsimp only at hSw
            go_simp
            try with_reducible rfl
          try simp only [Act.put]
          try simp only [List.setIfInBounds_toArray]
          try simp only [List.set_cons_succ]
          try simp only [List.set_cons_zero]
          refine wpAnyH_take (i := 9) (v := ?_) rfl (by kernel_rfl) (by kernel_rfl) (by kernel_rfl) (fun _ _ _ h => h) (Or.inl ⟨by rfl, ?_⟩) hHeld ?_
          rotate_left
          · intro w' hSw
            try dsimp only at hSw
            go_simp
            try with_reducible rfl
          try simp only [Act.put]
          try simp only [List.setIfInBounds_toArray]
          try simp only [List.set_cons_succ]
          try simp only [List.set_cons_zero]
          refine wpAnyH_take (i := 10) (v := ?_) rfl (by kernel_rfl) (by kernel_rfl) (by kernel_rfl) (fun _ _ _ h => h) (Or.inl ⟨by rfl, ?_⟩) hHeld ?_
          rotate_left
          · intro w' hSw
            try dsimp only at hSw
            go_simp
            try with_reducible rfl
          try simp only [Act.put]
          try simp only [List.setIfInBounds_toArray]
          try simp only [List.set_cons_succ]
          try simp only [List.set_cons_zero]
          refine wpAnyH_take (i := 11) (v := ?_) rfl (by kernel_rfl) (by kernel_rfl) (by kernel_rfl) (fun _ _ _ h => h) (Or.inl ⟨by rfl, ?_⟩) hHeld ?_
          rotate_left
          · intro w' hSw
            try dsimp only at hSw
            go_simp
            try with_reducible rfl
          try simp only [Act.put]
          try simp only [List.setIfInBounds_toArray]
          try simp only [List.set_cons_succ]
          try simp only [List.set_cons_zero]
          refine wpAnyH_take (i := 12) (v := ?_) rfl (by kernel_rfl) (by kernel_rfl) (by kernel_rfl) (fun _ _ _ h => h) (Or.inl ⟨by rfl, ?_⟩) hHeld ?_
          rotate_left
          · intro w' hSw
            try dsimp only at hSw
            go_simp
            try with_reducible rfl
          try simp only [Act.put]
          try simp only [List.setIfInBounds_toArray]
          try simp only [List.set_cons_succ]
          try simp only [List.set_cons_zero]
          refine wpAnyH_take (i := 13) (v := ?_) rfl (by kernel_rfl) (by kernel_rfl) (by kernel_rfl) (fun _ _ _ h => h) (Or.inl ⟨by rfl, ?_⟩) hHeld ?_
          rotate_left
          · intro w' hSw
            try dsimp only at hSw
            go_simp
            try with_reducible rfl
          try simp only [Act.put]
          try simp only [List.setIfInBounds_toArray]
          try simp only [List.set_cons_succ]
          try simp only [List.set_cons_zero]
          refine wpAnyH_take (i := 17) (v := ?_) rfl (by kernel_rfl) (by kernel_rfl) (by kernel_rfl) (fun _ _ _ h => h) (Or.inl ⟨by rfl, ?_⟩) hHeld ?_
          rotate_left
          · intro w' hSw
            try dsimp only at hSw
            go_simp
            try with_reducible rfl
          try simp only [Act.put]
          try simp only [List.setIfInBounds_toArray]
          try simp only [List.set_cons_succ]
          try simp only [List.set_cons_zero]
          refine wpAnyH_take (i := 18) (v := ?_) rfl (by kernel_rfl) (by kernel_rfl) (by kernel_rfl) (fun _ _ _ h => h) (Or.inl ⟨by rfl, ?_⟩) hHeld ?_
          rotate_left
          · intro w' hSw
            try dsimp only at hSw
            go_simp
            try with_reducible rfl
          try simp only [Act.put]
          try simp only [List.setIfInBounds_toArray]
          try simp only [List.set_cons_succ]
          try simp only [List.set_cons_zero]
          refine wpAnyH_take (i := 19) (v := ?_) rfl (by kernel_rfl) (by kernel_rfl) (by kernel_rfl) (fun _ _ _ h => h) (Or.inl ⟨by rfl, ?_⟩) hHeld ?_
          rotate_left
          · intro w' hSw
            try dsimp only at hSw
            go_simp
            try with_reducible rfl
          try simp only [Act.put]
          try simp only [List.setIfInBounds_toArray]
          try simp only [List.set_cons_succ]
          try simp only [List.set_cons_zero]
          refine wpAnyH_take (i := 20) (v := ?_) rfl (by kernel_rfl) (by kernel_rfl) (by kernel_rfl) (fun _ _ _ h => h) (Or.inl ⟨by rfl, ?_⟩) hHeld ?_
          rotate_left
          · intro w' hSw
            try dsimp only at hSw
            go_simp
            try with_reducible rfl
          try simp only [Act.put]
          try simp only [List.setIfInBounds_toArray]
          try simp only [List.set_cons_succ]
          try simp only [List.set_cons_zero]
          refine wpAnyH_take (i := 21) (v := ?_) rfl (by kernel_rfl) (by kernel_rfl) (by kernel_rfl) (fun _ _ _ h => h) (Or.inl ⟨by rfl, ?_⟩) hHeld ?_
          rotate_left
          · intro w' hSw
            try dsimp only at hSw
            go_simp
            try with_reducible rfl
          try simp only [Act.put]
          try simp only [List.setIfInBounds_toArray]
          try simp only [List.set_cons_succ]
          try simp only [List.set_cons_zero]
          refine wpAnyH_ready (rs := [6, 8]) (by kernel_rfl) (by simp) ?_
          refine AllReadyH.cons rfl (fun K hK => ?_) ?_
          · rw [if_pos (by rfl)]
            go_simp
            refine (sDec_any l[k].id (by omega) (by omega) _).mono ?_
            rintro e wb4 ⟨rfl, b4⟩
            try dsimp only
            refine hK.out _ _ ?_ (fun hHeld => ?_)
            · exact keepL b4 hlt3 hHeld
            clear hK K
            try simp only [Act.put]
            try simp only [List.setIfInBounds_toArray]
            try simp only [List.set_cons_succ]
            try simp only [List.set_cons_zero]
            have kb4 := below_step (below_draws HB3.out 1) b4
            have hlt4 := Nat.lt_of_lt_of_le hlt3 b4.size
            refine wpAnyH_take (i := 7) (v := ?_) rfl (by kernel_rfl) (by kernel_rfl) (by kernel_rfl) (fun _ _ _ h => h) (Or.inl ⟨by rfl, ?_⟩) hHeld ?_
            rotate_left
            · intro w' hSw
              try dsimp only at hSw
              go_simp
              try with_reducible rfl
            try simp only [Act.put]
            try simp only [List.setIfInBounds_toArray]
            try simp only [List.set_cons_succ]
            try simp only [List.set_cons_zero]
            refine wpAnyH_ready (rs := [8, 22]) (by kernel_rfl) (by simp) ?_
            refine AllReadyH.cons rfl (fun K hK => ?_) ?_
            · rw [if_pos (by rfl)]
              go_simp
              refine hK.out _ _ ?_ (fun hHeld => ?_)
              · exact keepA hlt4 hHeld
              clear hK K
              try simp only [Act.put]
              try simp only [List.setIfInBounds_toArray]
              try simp only [List.set_cons_succ]
              try simp only [List.set_cons_zero]
              refine wpAnyH_take (i := 14) (v := ?_) rfl (by kernel_rfl) (by kernel_rfl) (by kernel_rfl) (fun _ _ _ h => h) (Or.inl ⟨by rfl, ?_⟩) hHeld ?_
              rotate_left
              · intro w' hSw
                try dsimp only at hSw
                go_simp
                try with_reducible rfl
              try simp only [Act.put]
              try simp only [List.setIfInBounds_toArray]
              try simp only [List.set_cons_succ]
              try simp only [List.set_cons_zero]
              refine wpAnyH_more (S2 := fun w' => (w'.cell? ⟨b, off + k * 3, none⟩ = some (.int .i64 l[k].id) ∧ w'.cell? ⟨b, off + k * 3 + 1, none⟩ = some (.int .i64 l[k].kind) ∧ w'.cell? ⟨b, off + k * 3 + 2, none⟩ = some (.int .i64 (j : Int))) ∧ w'.cell? ⟨wb4.heap.size, j, none⟩ = some (.string (txt (sgn (j : Int))))) (fun _ h => h.1) _ _ _ _ ?_
              replace hHeld := And.intro hHeld (tab_cell (W := wb4) (t := 9) HJ.out)
              refine wpAnyH_take (i := 15) (v := ?_) rfl (by kernel_rfl) (by kernel_rfl) (by kernel_rfl) (fun _ _ _ h => h) (Or.inl ⟨by rfl, ?_⟩) hHeld ?_
              rotate_left
              · intro w' hSw
                try dsimp only at hSw
                go_simp
                try with_reducible rfl
              try simp only [Act.put]
              try simp only [List.setIfInBounds_toArray]
              try simp only [List.set_cons_succ]
              try simp only [List.set_cons_zero]
              refine wpAnyH_take (i := 16) (v := ?_) rfl (by kernel_rfl) (by kernel_rfl) (by kernel_rfl) (fun _ _ _ h => h) (Or.inl ⟨by rfl, ?_⟩) hHeld ?_
              rotate_left
              · intro w' hSw
                try dsimp only at hSw
                go_simp
                try with_reducible rfl
              try simp only [Act.put]
              try simp only [List.setIfInBounds_toArray]
              try simp only [List.set_cons_succ]
              try simp only [List.set_cons_zero]
              refine wpAnyH_ready (rs := [22]) (by kernel_rfl) (by simp) ?_
              refine AllReadyH.cons rfl (fun K hK => ?_) ?_
              · rw [if_pos (by rfl)]
                go_simp
                refine (sDec_any l[k].kind (by omega) (by omega) _).mono ?_
                rintro e wb5 ⟨rfl, b5⟩
                try dsimp only
                refine hK.out _ _ ?_ (fun hHeld => ?_)
                · exact keepT b5 (by simp; omega) (by simp) hHeld
                clear hK K
                try simp only [Act.put]
                try simp only [List.setIfInBounds_toArray]
                try simp only [List.set_cons_succ]
                try simp only [List.set_cons_zero]
                have kb5 := below_alloc_step kb4 b5
                refine wpAnyH_take (i := 23) (v := ?_) rfl (by kernel_rfl) (by kernel_rfl) (by kernel_rfl) (fun _ _ _ h => h) (Or.inl ⟨by rfl, ?_⟩) hHeld ?_
                rotate_left
                · intro w' hSw
                  try dsimp only at hSw
                  go_simp
                  try with_reducible rfl
                try simp only [Act.put]
                try simp only [List.setIfInBounds_toArray]
                try simp only [List.set_cons_succ]
                try simp only [List.set_cons_zero]
                refine wpAnyH_take (i := 24) (v := ?_) rfl (by kernel_rfl) (by kernel_rfl) (by kernel_rfl) (fun _ _ _ h => h) (Or.inl ⟨by rfl, ?_⟩) hHeld ?_
                rotate_left
                · intro w' hSw
                  try dsimp only at hSw
                  go_simp
                  try with_reducible rfl
                try simp only [Act.put]
                try simp only [List.setIfInBounds_toArray]
                try simp only [List.set_cons_succ]
                try simp only [List.set_cons_zero]
                refine wpAnyH_done (by kernel_rfl) ?_ _
                go_wp2_with fail
                go_roundw
                case rel => exact ⟨k + 1, by omega, by go_num, congrArg (fun x => Value.string (txt x)) HF.out, kb5, fun h => absurd h (by simp)⟩
                case measure => simp [intOf]; omega
              exact AllReadyH.nil
            refine AllReadyH.cons rfl (fun K hK => ?_) ?_
            · rw [if_pos (by rfl)]
              go_simp
              refine (sDec_any l[k].kind (by omega) (by omega) _).mono ?_
              rintro e wb5 ⟨rfl, b5⟩
              try dsimp only
              refine hK.out _ _ ?_ (fun hHeld => ?_)
              · exact keepL b5 hlt4 hHeld
              clear hK K
              try simp only [Act.put]
              try simp only [List.setIfInBounds_toArray]
              try simp only [List.set_cons_succ]
              try simp only [List.set_cons_zero]
              have kb5 := below_step kb4 b5
              have hlt5 := Nat.lt_of_lt_of_le hlt4 b5.size
              refine wpAnyH_ready (rs := [8]) (by kernel_rfl) (by simp) ?_
              refine AllReadyH.cons rfl (fun K hK => ?_) ?_
              · rw [if_pos (by rfl)]
                go_simp
                refine hK.out _ _ ?_ (fun hHeld => ?_)
                · exact keepA hlt5 hHeld
                clear hK K
                try simp only [Act.put]
                try simp only [List.setIfInBounds_toArray]
                try simp only [List.set_cons_succ]
                try simp only [List.set_cons_zero]
                refine wpAnyH_take (i := 14) (v := ?_) rfl (by kernel_rfl) (by kernel_rfl) (by kernel_rfl) (fun _ _ _ h => h) (Or.inl ⟨by rfl, ?_⟩) hHeld ?_
                rotate_left
                · intro w' hSw
                  try dsimp only at hSw
                  go_simp
                  try with_reducible rfl
                try simp only [Act.put]
                try simp only [List.setIfInBounds_toArray]
                try simp only [List.set_cons_succ]
                try simp only [List.set_cons_zero]
                refine wpAnyH_more (S2 := fun w' => (w'.cell? ⟨b, off + k * 3, none⟩ = some (.int .i64 l[k].id) ∧ w'.cell? ⟨b, off + k * 3 + 1, none⟩ = some (.int .i64 l[k].kind) ∧ w'.cell? ⟨b, off + k * 3 + 2, none⟩ = some (.int .i64 (j : Int))) ∧ w'.cell? ⟨wb5.heap.size, j, none⟩ = some (.string (txt (sgn (j : Int))))) (fun _ h => h.1) _ _ _ _ ?_
                replace hHeld := And.intro hHeld (tab_cell (W := wb5) (t := 9) HJ.out)
                refine wpAnyH_take (i := 15) (v := ?_) rfl (by kernel_rfl) (by kernel_rfl) (by kernel_rfl) (fun _ _ _ h => h) (Or.inl ⟨by rfl, ?_⟩) hHeld ?_
                rotate_left
                · intro w' hSw
                  try dsimp only at hSw
                  go_simp
                  try with_reducible rfl
                try simp only [Act.put]
                try simp only [List.setIfInBounds_toArray]
                try simp only [List.set_cons_succ]
                try simp only [List.set_cons_zero]
                refine wpAnyH_take (i := 16) (v := ?_) rfl (by kernel_rfl) (by kernel_rfl) (by kernel_rfl) (fun _ _ _ h => h) (Or.inl ⟨by rfl, ?_⟩) hHeld ?_
                rotate_left
                · intro w' hSw
                  try dsimp only at hSw
                  go_simp
                  try with_reducible rfl
                try simp only [Act.put]
                try simp only [List.setIfInBounds_toArray]
                try simp only [List.set_cons_succ]
                try simp only [List.set_cons_zero]
                refine wpAnyH_take (i := 23) (v := ?_) rfl (by kernel_rfl) (by kernel_rfl) (by kernel_rfl) (fun _ _ _ h => h) (Or.inl ⟨by rfl, ?_⟩) hHeld ?_
                rotate_left
                · intro w' hSw
                  try dsimp only at hSw
                  go_simp
                  try with_reducible rfl
                try simp only [Act.put]
                try simp only [List.setIfInBounds_toArray]
                try simp only [List.set_cons_succ]
                try simp only [List.set_cons_zero]
                refine wpAnyH_take (i := 24) (v := ?_) rfl (by kernel_rfl) (by kernel_rfl) (by kernel_rfl) (fun _ _ _ h => h) (Or.inl ⟨by rfl, ?_⟩) hHeld ?_
                rotate_left
                · intro w' hSw
                  try dsimp only at hSw
                  go_simp
                  try with_reducible rfl
                try simp only [Act.put]
                try simp only [List.setIfInBounds_toArray]
                try simp only [List.set_cons_succ]
                try simp only [List.set_cons_zero]
                refine wpAnyH_done (by kernel_rfl) ?_ _
                go_wp2_with fail
                go_roundw
                case rel => exact ⟨k + 1, by omega, by go_num, congrArg (fun x => Value.string (txt x)) HF.out, kb5.alloc kb5.size _, fun h => absurd h (by simp)⟩
                case measure => simp [intOf]; omega
              exact AllReadyH.nil
            exact AllReadyH.nil
          refine AllReadyH.cons rfl (fun K hK => ?_) ?_
          · rw [if_pos (by rfl)]
            go_simp
            refine hK.out _ _ ?_ (fun hHeld => ?_)
            · exact keepA hlt3 hHeld
            clear hK K
            try simp only [Act.put]
            try simp only [List.setIfInBounds_toArray]
            try simp only [List.set_cons_succ]
            try simp only [List.set_cons_zero]
            refine wpAnyH_take (i := 14) (v := ?_) rfl (by kernel_rfl) (by kernel_rfl) (by kernel_rfl) (fun _ _ _ h => h) (Or.inl ⟨by rfl, ?_⟩) hHeld ?_
            rotate_left
            · intro w' hSw
              try dsimp only at hSw
              go_simp
              try with_reducible rfl
            try simp only [Act.put]
            try simp only [List.setIfInBounds_toArray]
            try simp only [List.set_cons_succ]
            try simp only [List.set_cons_zero]
            refine wpAnyH_more (S2 := fun w' => (w'.cell? ⟨b, off + k * 3, none⟩ = some (.int .i64 l[k].id) ∧ w'.cell? ⟨b, off + k * 3 + 1, none⟩ = some (.int .i64 l[k].kind) ∧ w'.cell? ⟨b, off + k * 3 + 2, none⟩ = some (.int .i64 (j : Int))) ∧ w'.cell? ⟨w3.heap.size, j, none⟩ = some (.string (txt (sgn (j : Int))))) (fun _ h => h.1) _ _ _ _ ?_
            replace hHeld := And.intro hHeld (tab_cell (W := w3) (t := 9) HJ.out)
            refine wpAnyH_take (i := 15) (v := ?_) rfl (by kernel_rfl) (by kernel_rfl) (by kernel_rfl) (fun _ _ _ h => h) (Or.inl ⟨by rfl, ?_⟩) hHeld ?_
            rotate_left
            · intro w' hSw
              try dsimp only at hSw
              go_simp
              try with_reducible rfl
            try simp only [Act.put]
            try simp only [List.setIfInBounds_toArray]
            try simp only [List.set_cons_succ]
            try simp only [List.set_cons_zero]
            refine wpAnyH_ready (rs := [6]) (by kernel_rfl) (by simp) ?_
            refine AllReadyH.cons rfl (fun K hK => ?_) ?_
            · rw [if_pos (by rfl)]
              go_simp
              refine (sDec_any l[k].id (by omega) (by omega) _).mono ?_
              rintro e wb4 ⟨rfl, b4⟩
              try dsimp only
              refine hK.out _ _ ?_ (fun hHeld => ?_)
              · exact keepT b4 (by simp; omega) (by simp) hHeld
              clear hK K
              try simp only [Act.put]
              try simp only [List.setIfInBounds_toArray]
              try simp only [List.set_cons_succ]
              try simp only [List.set_cons_zero]
              have kb4 := below_step (below_draws (HB3.out.alloc HB3.out.size _) 1) b4
              refine wpAnyH_take (i := 7) (v := ?_) rfl (by kernel_rfl) (by kernel_rfl) (by kernel_rfl) (fun _ _ _ h => h) (Or.inl ⟨by rfl, ?_⟩) hHeld ?_
              rotate_left
              · intro w' hSw
                try dsimp only at hSw
                go_simp
                try with_reducible rfl
              try simp only [Act.put]
              try simp only [List.setIfInBounds_toArray]
              try simp only [List.set_cons_succ]
              try simp only [List.set_cons_zero]
              refine wpAnyH_take (i := 16) (v := ?_) rfl (by kernel_rfl) (by kernel_rfl) (by kernel_rfl) (fun _ _ _ h => h) (Or.inl ⟨by rfl, ?_⟩) hHeld ?_
              rotate_left
              · intro w' hSw
                try dsimp only at hSw
                go_simp
                try with_reducible rfl
              try simp only [Act.put]
              try simp only [List.setIfInBounds_toArray]
              try simp only [List.set_cons_succ]
              try simp only [List.set_cons_zero]
              refine wpAnyH_ready (rs := [22]) (by kernel_rfl) (by simp) ?_
              refine AllReadyH.cons rfl (fun K hK => ?_) ?_
              · rw [if_pos (by rfl)]
                go_simp
                refine (sDec_any l[k].kind (by omega) (by omega) _).mono ?_
                rintro e wb5 ⟨rfl, b5⟩
                try dsimp only
                refine hK.out _ _ ?_ (fun hHeld => ?_)
                · exact keepT b5 (Nat.lt_of_lt_of_le (by simp; omega) b4.size) (Nat.lt_of_lt_of_le (by simp) b4.size) hHeld
                clear hK K
                try simp only [Act.put]
                try simp only [List.setIfInBounds_toArray]
                try simp only [List.set_cons_succ]
                try simp only [List.set_cons_zero]
                have kb5 := below_step kb4 b5
                refine wpAnyH_take (i := 23) (v := ?_) rfl (by kernel_rfl) (by kernel_rfl) (by kernel_rfl) (fun _ _ _ h => h) (Or.inl ⟨by rfl, ?_⟩) hHeld ?_
                rotate_left
                · intro w' hSw
                  try dsimp only at hSw
                  go_simp
                  try with_reducible rfl
                try simp only [Act.put]
                try simp only [List.setIfInBounds_toArray]
                try simp only [List.set_cons_succ]
                try simp only [List.set_cons_zero]
                refine wpAnyH_take (i := 24) (v := ?_) rfl (by kernel_rfl) (by kernel_rfl) (by kernel_rfl) (fun _ _ _ h => h) (Or.inl ⟨by rfl, ?_⟩) hHeld ?_
                rotate_left
                · intro w' hSw
                  try dsimp only at hSw
                  go_simp
                  try with_reducible rfl
                try simp only [Act.put]
                try simp only [List.setIfInBounds_toArray]
                try simp only [List.set_cons_succ]
                try simp only [List.set_cons_zero]
                refine wpAnyH_done (by kernel_rfl) ?_ _
                go_wp2_with fail
                go_roundw
                case rel => exact ⟨k + 1, by omega, by go_num, congrArg (fun x => Value.string (txt x)) HF.out, kb5, fun h => absurd h (by simp)⟩
                case measure => simp [intOf]; omega
              exact AllReadyH.nil
            exact AllReadyH.nil
          exact AllReadyH.nil
        · have e0 : decide (0 < k) = true := by simp; omega
          obtain ⟨pre, hpre⟩ : ∃ pre, pre = joinR (l.take k) ++ [32] := ⟨_, rfl⟩
          have HF : Hid (pre ++ (dec l[k].id ++ (sgn (j : Int) ++ dec l[k].kind)) = joinR (l.take (k + 1))) := by
            show pre ++ _ = joinR (l.take (k + 1))
            rw [hpre, joinR_more hpos HK.out, relT, HJA.out, List.append_assoc, List.append_assoc, List.append_assoc]
          have h32 : txt (joinR (l.take k)) ++ (⟨#[32]⟩ : ByteArray) = txt pre := by rw [hpre, ← txt_append]; rfl
          have n0 := no_wrap (a := (txt (joinR (l.take k))).size) (b := 1) (by omega)
          have hsz : (txt pre).size ≤ 300 := by rw [hpre, txt_size, List.length_append]; simp only [List.length_cons, List.length_nil]; omega
          clear hpos hpre hjl
          go_wp2_with (first | (go_at_call 11; go_must (refine (sValidR_any _ _ l _ r1h.out (by omega)).mono ?_); rintro e w3 ⟨rfl, hb3⟩))
          have hc3 := (r1h.out.step hb3).2 (by omega)
          obtain ⟨hx1, hx2, hx3⟩ := list_at hc3 HK.out
          rw [HJA.out] at hx3
          have HB3 := Lib.hid (below_step HB.out hb3)
          have hlt3 : b < w3.heap.size := Nat.lt_of_lt_of_le hbl hb3.size
          have n1 := no_wrap (a := (txt pre).size) (b := (txt (dec l[k].id)).size) (by omega)
          have n2 := no_wrap (a := (txt (pre ++ dec l[k].id)).size) (b := (txt (sgn (j : Int))).size) (by rw [txt_size, txt_size, List.length_append, sgn_len]; rw [txt_size] at hsz z1; omega)
          have n3 := no_wrap (a := (txt (pre ++ (dec l[k].id ++ sgn (j : Int)))).size) (b := (txt (dec l[k].kind)).size) (by rw [txt_size, txt_size, List.length_append, List.length_append, sgn_len]; rw [txt_size] at hsz z1 z2; omega)
          have hta := txt_append
          clear hc3 hc hb3
          refine wp_region_held_drew (S := fun w' => w'.cell? ⟨b, off + k * 3, none⟩ = some (.int .i64 l[k].id) ∧ w'.cell? ⟨b, off + k * 3 + 1, none⟩ = some (.int .i64 l[k].kind) ∧ w'.cell? ⟨b, off + k * 3 + 2, none⟩ = some (.int .i64 (j : Int))) (by kernel_rfl) ⟨hx1, hx2, hx3⟩ (fun hHeld => ?_)
          refine wpAnyH_take (i := 0) (v := ?_) rfl (by kernel_rfl) (by kernel_rfl) (by kernel_rfl) (fun _ _ _ h => h) (Or.inl ⟨by rfl, ?_⟩) hHeld ?_
          rotate_left
          · intro w' hSw
            try dsimp only at hSw
            go_simp
            try with_reducible rfl
          try simp only [Act.put]
          try simp only [List.setIfInBounds_toArray]
          try simp only [List.set_cons_succ]
          try simp only [List.set_cons_zero]
          refine wpAnyH_take (i := 1) (v := ?_) rfl (by kernel_rfl) (by kernel_rfl) (by kernel_rfl) (fun _ _ _ h => h) (Or.inl ⟨by rfl, ?_⟩) hHeld ?_
          rotate_left
          · intro w' hSw
            try dsimp only at hSw
            go_simp
            try with_reducible rfl
          try simp only [Act.put]
          try simp only [List.setIfInBounds_toArray]
          try simp only [List.set_cons_succ]
          try simp only [List.set_cons_zero]
          refine wpAnyH_take (i := 2) (v := ?_) rfl (by kernel_rfl) (by kernel_rfl) (by kernel_rfl) (fun _ _ _ h => h) (Or.inl ⟨by rfl, ?_⟩) hHeld ?_
          rotate_left
          · intro w' hSw
            try dsimp only at hSw
            go_simp
            try with_reducible rfl
          try simp only [Act.put]
          try simp only [List.setIfInBounds_toArray]
          try simp only [List.set_cons_succ]
          try simp only [List.set_cons_zero]
          refine wpAnyH_take (i := 3) (v := ?_) rfl (by kernel_rfl) (by kernel_rfl) (by kernel_rfl) (fun _ _ _ h => h) (Or.inl ⟨by rfl, ?_⟩) hHeld ?_
          rotate_left
          · intro w' hSw
            try dsimp only at hSw
            go_simp
            try with_reducible rfl
          try simp only [Act.put]
          try simp only [List.setIfInBounds_toArray]
          try simp only [List.set_cons_succ]
          try simp only [List.set_cons_zero]
          refine wpAnyH_take (i := 4) (v := ?_) rfl (by kernel_rfl) (by kernel_rfl) (by kernel_rfl) (fun _ _ _ h => h) (Or.inl ⟨by rfl, ?_⟩) hHeld ?_
          rotate_left
          · intro w' hSw
            try dsimp only at hSw
            go_simp
            try with_reducible rfl
          try simp only [Act.put]
          try simp only [List.setIfInBounds_toArray]
          try simp only [List.set_cons_succ]
          try simp only [List.set_cons_zero]
          refine wpAnyH_take (i := 5) (v := ?_) rfl (by kernel_rfl) (by kernel_rfl) (by kernel_rfl) (fun _ _ _ h => h) (Or.inl ⟨by rfl, ?_⟩) hHeld ?_
          rotate_left
          · intro w' hSw
            try dsimp only at hSw
            go_simp
            try with_reducible rfl
          try simp only [Act.put]
          try simp only [List.setIfInBounds_toArray]
          try simp only [List.set_cons_succ]
          try simp only [List.set_cons_zero]
          refine wpAnyH_take (i := 9) (v := ?_) rfl (by kernel_rfl) (by kernel_rfl) (by kernel_rfl) (fun _ _ _ h => h) (Or.inl ⟨by rfl, ?_⟩) hHeld ?_
          rotate_left
          · intro w' hSw
            try dsimp only at hSw
            go_simp
            try with_reducible rfl
          try simp only [Act.put]
          try simp only [List.setIfInBounds_toArray]
          try simp only [List.set_cons_succ]
          try simp only [List.set_cons_zero]
          refine wpAnyH_take (i := 10) (v := ?_) rfl (by kernel_rfl) (by kernel_rfl) (by kernel_rfl) (fun _ _ _ h => h) (Or.inl ⟨by rfl, ?_⟩) hHeld ?_
          rotate_left
          · intro w' hSw
            try dsimp only at hSw
            go_simp
            try with_reducible rfl
          try simp only [Act.put]
          try simp only [List.setIfInBounds_toArray]
          try simp only [List.set_cons_succ]
          try simp only [List.set_cons_zero]
          refine wpAnyH_take (i := 11) (v := ?_) rfl (by kernel_rfl) (by kernel_rfl) (by kernel_rfl) (fun _ _ _ h => h) (Or.inl ⟨by rfl, ?_⟩) hHeld ?_
          rotate_left
          · intro w' hSw
            try dsimp only at hSw
            go_simp
            try with_reducible rfl
          try simp only [Act.put]
          try simp only [List.setIfInBounds_toArray]
          try simp only [List.set_cons_succ]
          try simp only [List.set_cons_zero]
          refine wpAnyH_take (i := 12) (v := ?_) rfl (by kernel_rfl) (by kernel_rfl) (by kernel_rfl) (fun _ _ _ h => h) (Or.inl ⟨by rfl, ?_⟩) hHeld ?_
          rotate_left
          · intro w' hSw
            try dsimp only at hSw
            go_simp
            try with_reducible rfl
          try simp only [Act.put]
          try simp only [List.setIfInBounds_toArray]
          try simp only [List.set_cons_succ]
          try simp only [List.set_cons_zero]
          refine wpAnyH_take (i := 13) (v := ?_) rfl (by kernel_rfl) (by kernel_rfl) (by kernel_rfl) (fun _ _ _ h => h) (Or.inl ⟨by rfl, ?_⟩) hHeld ?_
          rotate_left
          · intro w' hSw
            try dsimp only at hSw
            go_simp
            try with_reducible rfl
          try simp only [Act.put]
          try simp only [List.setIfInBounds_toArray]
          try simp only [List.set_cons_succ]
          try simp only [List.set_cons_zero]
          refine wpAnyH_take (i := 17) (v := ?_) rfl (by kernel_rfl) (by kernel_rfl) (by kernel_rfl) (fun _ _ _ h => h) (Or.inl ⟨by rfl, ?_⟩) hHeld ?_
          rotate_left
          · intro w' hSw
            try dsimp only at hSw
            go_simp
            try with_reducible rfl
          try simp only [Act.put]
          try simp only [List.setIfInBounds_toArray]
          try simp only [List.set_cons_succ]
          try simp only [List.set_cons_zero]
          refine wpAnyH_take (i := 18) (v := ?_) rfl (by kernel_rfl) (by kernel_rfl) (by kernel_rfl) (fun _ _ _ h => h) (Or.inl ⟨by rfl, ?_⟩) hHeld ?_
          rotate_left
          · intro w' hSw
            try dsimp only at hSw
            go_simp
            try with_reducible rfl
          try simp only [Act.put]
          try simp only [List.setIfInBounds_toArray]
          try simp only [List.set_cons_succ]
          try simp only [List.set_cons_zero]
          refine wpAnyH_take (i := 19) (v := ?_) rfl (by kernel_rfl) (by kernel_rfl) (by kernel_rfl) (fun _ _ _ h => h) (Or.inl ⟨by rfl, ?_⟩) hHeld ?_
          rotate_left
          · intro w' hSw
            try dsimp only at hSw
            go_simp
            try with_reducible rfl
          try simp only [Act.put]
          try simp only [List.setIfInBounds_toArray]
          try simp only [List.set_cons_succ]
          try simp only [List.set_cons_zero]
          refine wpAnyH_take (i := 20) (v := ?_) rfl (by kernel_rfl) (by kernel_rfl) (by kernel_rfl) (fun _ _ _ h => h) (Or.inl ⟨by rfl, ?_⟩) hHeld ?_
          rotate_left
          · intro w' hSw
            try dsimp only at hSw
            go_simp
            try with_reducible rfl
          try simp only [Act.put]
          try simp only [List.setIfInBounds_toArray]
          try simp only [List.set_cons_succ]
          try simp only [List.set_cons_zero]
          refine wpAnyH_take (i := 21) (v := ?_) rfl (by kernel_rfl) (by kernel_rfl) (by kernel_rfl) (fun _ _ _ h => h) (Or.inl ⟨by rfl, ?_⟩) hHeld ?_
          rotate_left
          · intro w' hSw
            try dsimp only at hSw
            go_simp
            try with_reducible rfl
          try simp only [Act.put]
          try simp only [List.setIfInBounds_toArray]
          try simp only [List.set_cons_succ]
          try simp only [List.set_cons_zero]
          refine wpAnyH_ready (rs := [6, 8]) (by kernel_rfl) (by simp) ?_
          refine AllReadyH.cons rfl (fun K hK => ?_) ?_
          · rw [if_pos (by rfl)]
            go_simp
            refine (sDec_any l[k].id (by omega) (by omega) _).mono ?_
            rintro e wb4 ⟨rfl, b4⟩
            try dsimp only
            refine hK.out _ _ ?_ (fun hHeld => ?_)
            · exact keepL b4 hlt3 hHeld
            clear hK K
            try simp only [Act.put]
            try simp only [List.setIfInBounds_toArray]
            try simp only [List.set_cons_succ]
            try simp only [List.set_cons_zero]
            have kb4 := below_step (below_draws HB3.out 1) b4
            have hlt4 := Nat.lt_of_lt_of_le hlt3 b4.size
            refine wpAnyH_take (i := 7) (v := ?_) rfl (by kernel_rfl) (by kernel_rfl) (by kernel_rfl) (fun _ _ _ h => h) (Or.inl ⟨by rfl, ?_⟩) hHeld ?_
            rotate_left
            · intro w' hSw
              try dsimp only at hSw
              go_simp
              try with_reducible rfl
            try simp only [Act.put]
            try simp only [List.setIfInBounds_toArray]
            try simp only [List.set_cons_succ]
            try simp only [List.set_cons_zero]
            refine wpAnyH_ready (rs := [8, 22]) (by kernel_rfl) (by simp) ?_
            refine AllReadyH.cons rfl (fun K hK => ?_) ?_
            · rw [if_pos (by rfl)]
              go_simp
              refine hK.out _ _ ?_ (fun hHeld => ?_)
              · exact keepA hlt4 hHeld
              clear hK K
              try simp only [Act.put]
              try simp only [List.setIfInBounds_toArray]
              try simp only [List.set_cons_succ]
              try simp only [List.set_cons_zero]
              refine wpAnyH_take (i := 14) (v := ?_) rfl (by kernel_rfl) (by kernel_rfl) (by kernel_rfl) (fun _ _ _ h => h) (Or.inl ⟨by rfl, ?_⟩) hHeld ?_
              rotate_left
              · intro w' hSw
                try dsimp only at hSw
                go_simp
                try with_reducible rfl
              try simp only [Act.put]
              try simp only [List.setIfInBounds_toArray]
              try simp only [List.set_cons_succ]
              try simp only [List.set_cons_zero]
              refine wpAnyH_more (S2 := fun w' => (w'.cell? ⟨b, off + k * 3, none⟩ = some (.int .i64 l[k].id) ∧ w'.cell? ⟨b, off + k * 3 + 1, none⟩ = some (.int .i64 l[k].kind) ∧ w'.cell? ⟨b, off + k * 3 + 2, none⟩ = some (.int .i64 (j : Int))) ∧ w'.cell? ⟨wb4.heap.size, j, none⟩ = some (.string (txt (sgn (j : Int))))) (fun _ h => h.1) _ _ _ _ ?_
              replace hHeld := And.intro hHeld (tab_cell (W := wb4) (t := 9) HJ.out)
              refine wpAnyH_take (i := 15) (v := ?_) rfl (by kernel_rfl) (by kernel_rfl) (by kernel_rfl) (fun _ _ _ h => h) (Or.inl ⟨by rfl, ?_⟩) hHeld ?_
              rotate_left
              · intro w' hSw
                try dsimp only at hSw
                go_simp
                try with_reducible rfl
              try simp only [Act.put]
              try simp only [List.setIfInBounds_toArray]
              try simp only [List.set_cons_succ]
              try simp only [List.set_cons_zero]
              refine wpAnyH_take (i := 16) (v := ?_) rfl (by kernel_rfl) (by kernel_rfl) (by kernel_rfl) (fun _ _ _ h => h) (Or.inl ⟨by rfl, ?_⟩) hHeld ?_
              rotate_left
              · intro w' hSw
                try dsimp only at hSw
                go_simp
                try with_reducible rfl
              try simp only [Act.put]
              try simp only [List.setIfInBounds_toArray]
              try simp only [List.set_cons_succ]
              try simp only [List.set_cons_zero]
              refine wpAnyH_ready (rs := [22]) (by kernel_rfl) (by simp) ?_
              refine AllReadyH.cons rfl (fun K hK => ?_) ?_
              · rw [if_pos (by rfl)]
                go_simp
                refine (sDec_any l[k].kind (by omega) (by omega) _).mono ?_
                rintro e wb5 ⟨rfl, b5⟩
                try dsimp only
                refine hK.out _ _ ?_ (fun hHeld => ?_)
                · exact keepT b5 (by simp; omega) (by simp) hHeld
                clear hK K
                try simp only [Act.put]
                try simp only [List.setIfInBounds_toArray]
                try simp only [List.set_cons_succ]
                try simp only [List.set_cons_zero]
                have kb5 := below_alloc_step kb4 b5
                refine wpAnyH_take (i := 23) (v := ?_) rfl (by kernel_rfl) (by kernel_rfl) (by kernel_rfl) (fun _ _ _ h => h) (Or.inl ⟨by rfl, ?_⟩) hHeld ?_
                rotate_left
                · intro w' hSw
                  try dsimp only at hSw
                  go_simp
                  try with_reducible rfl
                try simp only [Act.put]
                try simp only [List.setIfInBounds_toArray]
                try simp only [List.set_cons_succ]
                try simp only [List.set_cons_zero]
                refine wpAnyH_take (i := 24) (v := ?_) rfl (by kernel_rfl) (by kernel_rfl) (by kernel_rfl) (fun _ _ _ h => h) (Or.inl ⟨by rfl, ?_⟩) hHeld ?_
                rotate_left
                · intro w' hSw
                  try dsimp only at hSw
                  go_simp
                  try with_reducible rfl
                try simp only [Act.put]
                try simp only [List.setIfInBounds_toArray]
                try simp only [List.set_cons_succ]
                try simp only [List.set_cons_zero]
                refine wpAnyH_done (by kernel_rfl) ?_ _
                go_wp2_with fail
                go_roundw
                case rel => exact ⟨k + 1, by omega, by go_num, congrArg (fun x => Value.string (txt x)) HF.out, kb5, fun h => absurd h (by simp)⟩
                case measure => simp [intOf]; omega
              exact AllReadyH.nil
            refine AllReadyH.cons rfl (fun K hK => ?_) ?_
            · rw [if_pos (by rfl)]
              go_simp
              refine (sDec_any l[k].kind (by omega) (by omega) _).mono ?_
              rintro e wb5 ⟨rfl, b5⟩
              try dsimp only
              refine hK.out _ _ ?_ (fun hHeld => ?_)
              · exact keepL b5 hlt4 hHeld
              clear hK K
              try simp only [Act.put]
              try simp only [List.setIfInBounds_toArray]
              try simp only [List.set_cons_succ]
              try simp only [List.set_cons_zero]
              have kb5 := below_step kb4 b5
              have hlt5 := Nat.lt_of_lt_of_le hlt4 b5.size
              refine wpAnyH_ready (rs := [8]) (by kernel_rfl) (by simp) ?_
              refine AllReadyH.cons rfl (fun K hK => ?_) ?_
              · rw [if_pos (by rfl)]
                go_simp
                refine hK.out _ _ ?_ (fun hHeld => ?_)
                · exact keepA hlt5 hHeld
                clear hK K
                try simp only [Act.put]
                try simp only [List.setIfInBounds_toArray]
                try simp only [List.set_cons_succ]
                try simp only [List.set_cons_zero]
                refine wpAnyH_take (i := 14) (v := ?_) rfl (by kernel_rfl) (by kernel_rfl) (by kernel_rfl) (fun _ _ _ h => h) (Or.inl ⟨by rfl, ?_⟩) hHeld ?_
                rotate_left
                · intro w' hSw
                  try dsimp only at hSw
                  go_simp
                  try with_reducible rfl
                try simp only [Act.put]
                try simp only [List.setIfInBounds_toArray]
                try simp only [List.set_cons_succ]
                try simp only [List.set_cons_zero]
                refine wpAnyH_more (S2 := fun w' => (w'.cell? ⟨b, off + k * 3, none⟩ = some (.int .i64 l[k].id) ∧ w'.cell? ⟨b, off + k * 3 + 1, none⟩ = some (.int .i64 l[k].kind) ∧ w'.cell? ⟨b, off + k * 3 + 2, none⟩ = some (.int .i64 (j : Int))) ∧ w'.cell? ⟨wb5.heap.size, j, none⟩ = some (.string (txt (sgn (j : Int))))) (fun _ h => h.1) _ _ _ _ ?_
                replace hHeld := And.intro hHeld (tab_cell (W := wb5) (t := 9) HJ.out)
                refine wpAnyH_take (i := 15) (v := ?_) rfl (by kernel_rfl) (by kernel_rfl) (by kernel_rfl) (fun _ _ _ h => h) (Or.inl ⟨by rfl, ?_⟩) hHeld ?_
                rotate_left
                · intro w' hSw
                  try dsimp only at hSw
                  go_simp
                  try with_reducible rfl
                try simp only [Act.put]
                try simp only [List.setIfInBounds_toArray]
                try simp only [List.set_cons_succ]
                try simp only [List.set_cons_zero]
                refine wpAnyH_take (i := 16) (v := ?_) rfl (by kernel_rfl) (by kernel_rfl) (by kernel_rfl) (fun _ _ _ h => h) (Or.inl ⟨by rfl, ?_⟩) hHeld ?_
                rotate_left
                · intro w' hSw
                  try dsimp only at hSw
                  go_simp
                  try with_reducible rfl
                try simp only [Act.put]
                try simp only [List.setIfInBounds_toArray]
                try simp only [List.set_cons_succ]
                try simp only [List.set_cons_zero]
                refine wpAnyH_take (i := 23) (v := ?_) rfl (by kernel_rfl) (by kernel_rfl) (by kernel_rfl) (fun _ _ _ h => h) (Or.inl ⟨by rfl, ?_⟩) hHeld ?_
                rotate_left
                · intro w' hSw
                  try dsimp only at hSw
                  go_simp
                  try with_reducible rfl
                try simp only [Act.put]
                try simp only [List.setIfInBounds_toArray]
                try simp only [List.set_cons_succ]
                try simp only [List.set_cons_zero]
                refine wpAnyH_take (i := 24) (v := ?_) rfl (by kernel_rfl) (by kernel_rfl) (by kernel_rfl) (fun _ _ _ h => h) (Or.inl ⟨by rfl, ?_⟩) hHeld ?_
                rotate_left
                · intro w' hSw
                  try dsimp only at hSw
                  go_simp
                  try with_reducible rfl
                try simp only [Act.put]
                try simp only [List.setIfInBounds_toArray]
                try simp only [List.set_cons_succ]
                try simp only [List.set_cons_zero]
                refine wpAnyH_done (by kernel_rfl) ?_ _
                go_wp2_with fail
                go_roundw
                case rel => exact ⟨k + 1, by omega, by go_num, congrArg (fun x => Value.string (txt x)) HF.out, kb5.alloc kb5.size _, fun h => absurd h (by simp)⟩
                case measure => simp [intOf]; omega
              exact AllReadyH.nil
            exact AllReadyH.nil
          refine AllReadyH.cons rfl (fun K hK => ?_) ?_
          · rw [if_pos (by rfl)]
            go_simp
            refine hK.out _ _ ?_ (fun hHeld => ?_)
            · exact keepA hlt3 hHeld
            clear hK K
            try simp only [Act.put]
            try simp only [List.setIfInBounds_toArray]
            try simp only [List.set_cons_succ]
            try simp only [List.set_cons_zero]
            refine wpAnyH_take (i := 14) (v := ?_) rfl (by kernel_rfl) (by kernel_rfl) (by kernel_rfl) (fun _ _ _ h => h) (Or.inl ⟨by rfl, ?_⟩) hHeld ?_
            rotate_left
            · intro w' hSw
              try dsimp only at hSw
              go_simp
              try with_reducible rfl
            try simp only [Act.put]
            try simp only [List.setIfInBounds_toArray]
            try simp only [List.set_cons_succ]
            try simp only [List.set_cons_zero]
            refine wpAnyH_more (S2 := fun w' => (w'.cell? ⟨b, off + k * 3, none⟩ = some (.int .i64 l[k].id) ∧ w'.cell? ⟨b, off + k * 3 + 1, none⟩ = some (.int .i64 l[k].kind) ∧ w'.cell? ⟨b, off + k * 3 + 2, none⟩ = some (.int .i64 (j : Int))) ∧ w'.cell? ⟨w3.heap.size, j, none⟩ = some (.string (txt (sgn (j : Int))))) (fun _ h => h.1) _ _ _ _ ?_
            replace hHeld := And.intro hHeld (tab_cell (W := w3) (t := 9) HJ.out)
            refine wpAnyH_take (i := 15) (v := ?_) rfl (by kernel_rfl) (by kernel_rfl) (by kernel_rfl) (fun _ _ _ h => h) (Or.inl ⟨by rfl, ?_⟩) hHeld ?_
            rotate_left
            · intro w' hSw
              try dsimp only at hSw
              go_simp
              try with_reducible rfl
            try simp only [Act.put]
            try simp only [List.setIfInBounds_toArray]
            try simp only [List.set_cons_succ]
            try simp only [List.set_cons_zero]
            refine wpAnyH_ready (rs := [6]) (by kernel_rfl) (by simp) ?_
            refine AllReadyH.cons rfl (fun K hK => ?_) ?_
            · rw [if_pos (by rfl)]
              go_simp
              refine (sDec_any l[k].id (by omega) (by omega) _).mono ?_
              rintro e wb4 ⟨rfl, b4⟩
              try dsimp only
              refine hK.out _ _ ?_ (fun hHeld => ?_)
              · exact keepT b4 (by simp; omega) (by simp) hHeld
              clear hK K
              try simp only [Act.put]
              try simp only [List.setIfInBounds_toArray]
              try simp only [List.set_cons_succ]
              try simp only [List.set_cons_zero]
              have kb4 := below_step (below_draws (HB3.out.alloc HB3.out.size _) 1) b4
              refine wpAnyH_take (i := 7) (v := ?_) rfl (by kernel_rfl) (by kernel_rfl) (by kernel_rfl) (fun _ _ _ h => h) (Or.inl ⟨by rfl, ?_⟩) hHeld ?_
              rotate_left
              · intro w' hSw
                try dsimp only at hSw
                go_simp
                try with_reducible rfl
              try simp only [Act.put]
              try simp only [List.setIfInBounds_toArray]
              try simp only [List.set_cons_succ]
              try simp only [List.set_cons_zero]
              refine wpAnyH_take (i := 16) (v := ?_) rfl (by kernel_rfl) (by kernel_rfl) (by kernel_rfl) (fun _ _ _ h => h) (Or.inl ⟨by rfl, ?_⟩) hHeld ?_
              rotate_left
              · intro w' hSw
                try dsimp only at hSw
                go_simp
                try with_reducible rfl
              try simp only [Act.put]
              try simp only [List.setIfInBounds_toArray]
              try simp only [List.set_cons_succ]
              try simp only [List.set_cons_zero]
              refine wpAnyH_ready (rs := [22]) (by kernel_rfl) (by simp) ?_
              refine AllReadyH.cons rfl (fun K hK => ?_) ?_
              · rw [if_pos (by rfl)]
                go_simp
                refine (sDec_any l[k].kind (by omega) (by omega) _).mono ?_
                rintro e wb5 ⟨rfl, b5⟩
                try dsimp only
                refine hK.out _ _ ?_ (fun hHeld => ?_)
                · exact keepT b5 (Nat.lt_of_lt_of_le (by simp; omega) b4.size) (Nat.lt_of_lt_of_le (by simp) b4.size) hHeld
                clear hK K
                try simp only [Act.put]
                try simp only [List.setIfInBounds_toArray]
                try simp only [List.set_cons_succ]
                try simp only [List.set_cons_zero]
                have kb5 := below_step kb4 b5
                refine wpAnyH_take (i := 23) (v := ?_) rfl (by kernel_rfl) (by kernel_rfl) (by kernel_rfl) (fun _ _ _ h => h) (Or.inl ⟨by rfl, ?_⟩) hHeld ?_
                rotate_left
                · intro w' hSw
                  try dsimp only at hSw
                  go_simp
                  try with_reducible rfl
                try simp only [Act.put]
                try simp only [List.setIfInBounds_toArray]
                try simp only [List.set_cons_succ]
                try simp only [List.set_cons_zero]
                refine wpAnyH_take (i := 24) (v := ?_) rfl (by kernel_rfl) (by kernel_rfl) (by kernel_rfl) (fun _ _ _ h => h) (Or.inl ⟨by rfl, ?_⟩) hHeld ?_
                rotate_left
                · intro w' hSw
                  try dsimp only at hSw
                  go_simp
                  try with_reducible rfl
                try simp only [Act.put]
                try simp only [List.setIfInBounds_toArray]
                try simp only [List.set_cons_succ]
                try simp only [List.set_cons_zero]
                refine wpAnyH_done (by kernel_rfl) ?_ _
                go_wp2_with fail
                go_roundw
                case rel => exact ⟨k + 1, by omega, by go_num, congrArg (fun x => Value.string (txt x)) HF.out, kb5, fun h => absurd h (by simp)⟩
                case measure => simp [intOf]; omega
              exact AllReadyH.nil
            exact AllReadyH.nil
          exact AllReadyH.nil
    · have hkl : k = l.length := by omega
      have HT : Hid (joinR (l.take k) = textR l) := by
        show joinR (l.take k) = textR l
        unfold textR
        cases hv : validR l
        · have h0 := HV0.out hv
          subst h0
          rw [joinR_zero]; rfl
        · rw [if_pos rfl, List.take_of_length_le (by omega)]
      clear hb
      go_wp2_with fail
      go_ret
      exact ⟨ret_str (congrArg txt HT.out), HB.out⟩
end Go.Proofs.YtbbjdpmffokcfaaDoor
