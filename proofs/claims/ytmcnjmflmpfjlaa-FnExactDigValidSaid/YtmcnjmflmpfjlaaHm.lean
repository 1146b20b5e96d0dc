/- A heap of places in memory: what the program's methods of it do. -/
import Derived.Test.YtmcnjmflmpfjlaaHq
import Derived.Test.YtmcnjmflmpfjlaaV2
import Derived.Test.YtmcnjmflmpfjlaaU5
import Derived.Handy
import Derived.BigRegion
namespace Go.Proofs.Ytmcnjmflmpfjlaa
open Go.RowKit

theorem nat_cell {w : World} {base g n cap : Nat} {e : TypeId} {L : List Nat} {k x : Nat} (h : w.ownsRow base e 1 (.slice (some ⟨g, 0, none⟩) n cap) n (L.map encN)) (hx : L[k]? = some x) (hk : k < n) : w.cell? ⟨g, k, none⟩ = some (.int .i64 (x : Int)) ∧ w.frozen? ⟨g, k, none⟩ = false := by
  refine ⟨(h.cellAt k (by omega)).trans ?_, h.frozenAt k⟩
  rw [List.getElem?_map, hx]
  rfl
theorem nat_store {w : World} {base g n cap : Nat} {e : TypeId} {L : List Nat} (h : w.ownsRow base e 1 (.slice (some ⟨g, 0, none⟩) n cap) n (L.map encN)) (k x : Nat) : (w.setCell ⟨g, k, none⟩ (.int .i64 (x : Int))).ownsRow base e 1 (.slice (some ⟨g, 0, none⟩) n cap) n ((L.set k x).map encN) := by
  have h1 := (h.stored k (encN x)).1
  rw [List.map_set]
  exact h1
set_option maxHeartbeats 800000 in
set_option maxRecDepth 100000 in
theorem hLess_any (base g cap n : Nat) (L : List Nat) (i j : Nat) (a b : Int) (ea : a = (i : Int)) (eb : b = (j : Int)) (w : World) (h : w.ownsRow base 3 1 (.slice (some ⟨g, 0, none⟩) n cap) n (L.map encN)) (hi : i < n) (hj : j < n) (hL : L.length = n) :
    Calls Try.prog 134 #[.slice (some ⟨g, 0, none⟩) n cap, .int .i64 a, .int .i64 b] w fun e w2 => e = .returned (.bool (decide (atL L i < atL L j))) ∧ Below w.heap.size w w2 := by
  subst ea eb
  obtain ⟨c1, _⟩ := nat_cell h (atL_some (by omega)) hi
  obtain ⟨c2, _⟩ := nat_cell h (atL_some (by omega)) hj
  obtain ⟨x, hx⟩ : ∃ x, x = atL L i := ⟨_, rfl⟩
  obtain ⟨y, hy⟩ : ∃ y, y = atL L j := ⟨_, rfl⟩
  rw [← hx] at c1 ⊢
  rw [← hy] at c2 ⊢
  have hii : (i : Int) < (n : Int) := by omega
  have hjj : (j : Int) < (n : Int) := by omega
  clear hx hy h hL
  go_enter Try.func134, Try.ntmps134
  go_wp2_with fail
  go_quiet (fail)
  go_wp2_with fail
  go_ret
  exact ⟨ret_bool (by rw [decide_eq_decide]), below_draws (Below.refl _ _) _⟩
set_option maxHeartbeats 800000 in
set_option maxRecDepth 100000 in
theorem hSwap_any (base g cap n : Nat) (L : List Nat) (i j : Nat) (a b : Int) (ea : a = (i : Int)) (eb : b = (j : Int)) (w : World) (h : w.ownsRow base 3 1 (.slice (some ⟨g, 0, none⟩) n cap) n (L.map encN)) (hi : i < n) (hj : j < n) (hij : i ≠ j) (hL : L.length = n) :
    Calls Try.prog 137 #[.slice (some ⟨g, 0, none⟩) n cap, .int .i64 a, .int .i64 b] w fun e w2 => e = .returned (.tuple #[]) ∧ w.grownBy w2 (some g) ∧ w2.ownsRow base 3 1 (.slice (some ⟨g, 0, none⟩) n cap) n ((swL L i j).map encN) := by
  subst ea eb
  obtain ⟨c1, f1⟩ := nat_cell h (atL_some (by omega)) hi
  obtain ⟨c2, f2⟩ := nat_cell h (atL_some (by omega)) hj
  have h3 := nat_store (nat_store h i (atL L j)) j (atL L i)
  have HS : Hid ((L.set i (atL L j)).set j (atL L i) = swL L i j) := by exact rfl
  obtain ⟨x, hx⟩ : ∃ x, x = atL L i := ⟨_, rfl⟩
  obtain ⟨y, hy⟩ : ∃ y, y = atL L j := ⟨_, rfl⟩
  rw [← hx] at c1 h3
  rw [← hy] at c2 h3
  have H3 := Lib.hid h3
  have HX := Lib.hid (And.intro hx hy)
  have hii : (i : Int) < (n : Int) := by omega
  have hjj : (j : Int) < (n : Int) := by omega
  have hgl := (h.lt _ rfl).2
  have H0 := Lib.hid h
  clear hx hy h hL h3
  go_enter Try.func137, Try.ntmps137
  go_wp2_with fail
  go_region
  go_wp2_with fail
  go_end0
  have h1 : w.grownBy ((w.setCell ⟨g, i, none⟩ (.int .i64 (y : Int))).setCell ⟨g, j, none⟩ (.int .i64 (x : Int))) (some g) := grown_store (grown_store (World.grownBy.refl _ _))
  refine ⟨rfl, ⟨h1.os, h1.tape, h1.output, h1.size, h1.block⟩, ?_⟩
  have h2 := H3.out
  rw [HX.out.1, HX.out.2, HS.out, ← HX.out.1, ← HX.out.2] at h2
  exact h2
set_option maxHeartbeats 800000 in
set_option maxRecDepth 100000 in
theorem hSwap0_any (base g cap n : Nat) (L : List Nat) (i : Nat) (w : World) (h : w.ownsRow base 3 1 (.slice (some ⟨g, 0, none⟩) n cap) n (L.map encN)) (hi : i < n) (hL : L.length = n) :
    Calls Try.prog 137 #[.slice (some ⟨g, 0, none⟩) n cap, .int .i64 (i : Int), .int .i64 (i : Int)] w fun e w2 => e = .returned (.tuple #[]) ∧ w.grownBy w2 (some g) ∧ w2.ownsRow base 3 1 (.slice (some ⟨g, 0, none⟩) n cap) n (L.map encN) := by
  obtain ⟨c1, f1⟩ := nat_cell h (atL_some (by omega)) hi
  have h3 := nat_store (nat_store h i (atL L i)) i (atL L i)
  have hs : (L.set i (atL L i)).set i (atL L i) = L := by
    have e : L.set i (atL L i) = L := by
      refine List.ext_getElem? fun k => ?_
      rw [List.getElem?_set]
      by_cases hk : i = k
      · subst hk
        rw [if_pos rfl, if_pos (by omega), atL_some (by omega)]
      · rw [if_neg hk]
    rw [e, e]
  rw [hs] at h3
  obtain ⟨x, hx⟩ : ∃ x, x = atL L i := ⟨_, rfl⟩
  rw [← hx] at c1 h3
  have H3 := Lib.hid h3
  have hii : (i : Int) < (n : Int) := by omega
  clear hx h hL h3 hs
  go_enter Try.func137, Try.ntmps137
  go_wp2_with fail
  go_region
  go_wp2_with fail
  go_end0
  have h1 : w.grownBy ((w.setCell ⟨g, i, none⟩ (.int .i64 (x : Int))).setCell ⟨g, i, none⟩ (.int .i64 (x : Int))) (some g) := grown_store (grown_store (World.grownBy.refl _ _))
  exact ⟨rfl, ⟨h1.os, h1.tape, h1.output, h1.size, h1.block⟩, H3.out⟩
theorem atL_over {L : List Nat} {k : Nat} (h : L.length ≤ k) : atL L k = 0 := by simp [atL, h]
theorem meth_less {hb : Nat} {v : Value} {w : World} (h : w.cell? ⟨hb, 0, none⟩ = some v) : (method 243 78 (.pointer (some ⟨hb, 0, none⟩)) "Less").run Try.prog w = .ok (134, v) w := by
  have e : (method 243 78 (.pointer (some ⟨hb, 0, none⟩)) "Less").run Try.prog w = (Sem.load .plain ⟨hb, 0, none⟩ fun v => pure ((134 : Nat), v)).run Try.prog w := by kernel_rfl
  rw [e]
  simp [Sem.run, h]
theorem meth_swap {hb : Nat} {v : Value} {w : World} (h : w.cell? ⟨hb, 0, none⟩ = some v) : (method 243 78 (.pointer (some ⟨hb, 0, none⟩)) "Swap").run Try.prog w = .ok (137, v) w := by
  have e : (method 243 78 (.pointer (some ⟨hb, 0, none⟩)) "Swap").run Try.prog w = (Sem.load .plain ⟨hb, 0, none⟩ fun v => pure ((137 : Nat), v)).run Try.prog w := by kernel_rfl
  rw [e]
  simp [Sem.run, h]
theorem meth_len {hb : Nat} {v : Value} {w : World} (h : w.cell? ⟨hb, 0, none⟩ = some v) : (method 243 78 (.pointer (some ⟨hb, 0, none⟩)) "Len").run Try.prog w = .ok (74, v) w := by
  have e : (method 243 78 (.pointer (some ⟨hb, 0, none⟩)) "Len").run Try.prog w = (Sem.load .plain ⟨hb, 0, none⟩ fun v => pure ((74 : Nat), v)).run Try.prog w := by kernel_rfl
  rw [e]
  simp [Sem.run, h]
theorem grown_step {w w2 w3 : World} {g : Nat} (h : w.grownBy w2 (some g)) (hb : Below w2.heap.size w2 w3) : w.grownBy w3 (some g) := h.trans (grown_of_below hb _)
/-- The heap's block holds the slice of a row of the call's own. -/
def HeapPost (w : World) (base g cap n m : Nat) (L : List Nat) (w2 : World) : Prop :=
  ∃ L2 : List Nat, L2.Perm L ∧ HeapF (atL L2) m ∧ (∀ k, m ≤ k → atL L2 k = atL L k) ∧ w.grownBy w2 (some g) ∧ w2.ownsRow base 3 1 (.slice (some ⟨g, 0, none⟩) n cap) n (L2.map encN)
set_option maxHeartbeats 1600000 in
set_option maxRecDepth 100000 in
theorem hUp_any (base hb g cap n : Nat) (L : List Nat) (j : Nat) (w : World) (hc : w.cell? ⟨hb, 0, none⟩ = some (.slice (some ⟨g, 0, none⟩) n cap)) (hlt : hb < w.heap.size) (hne : ¬ hb = g) (h : w.ownsRow base 3 1 (.slice (some ⟨g, 0, none⟩) n cap) n (L.map encN)) (hj : j < n) (hL : L.length = n) (hn : n ≤ 100) (hu : UpF (atL L) n j) :
    Calls Try.prog 97 #[.iface 78 (.pointer (some ⟨hb, 0, none⟩)), .int .i64 (j : Int)] w fun e w2 => e = .returned (.tuple #[]) ∧ HeapPost w base g cap n n L w2 := by
  have H0 := Lib.hid (And.intro hc (And.intro h (And.intro hL hu)))
  clear hc h hL hu
  go_enter Try.func97, Try.ntmps97
  go_wp2_with fail
  go_loopw [1] (fun v wr => ∃ (p : Nat) (L1 : List Nat), v = .int .i64 (p : Int) ∧ p < n ∧ L1.length = n ∧ L1.Perm L ∧ UpF (atL L1) n p ∧ w.grownBy wr (some g) ∧ wr.ownsRow base 3 1 (.slice (some ⟨g, 0, none⟩) n cap) n (L1.map encN)) (fun v _ => (intOf v).toNat)
  case atStart => exact ⟨j, L, rfl, hj, H0.out.2.2.1, .refl _, H0.out.2.2.2, World.grownBy.refl _ _, H0.out.2.1⟩
  case round =>
    obtain ⟨p, L1, rfl, hp, hl1, hpm, hup, hgr, hown⟩ := hrel
    have hc := (World.cell?_of_block (w := w) (a := ⟨hb, 0, none⟩) (hgr.block hb hlt (fun e => hne (by injection e)))).trans H0.out.1
    have hm1 := meth_less hc
    have hbs : hb < wr.heap.size := Nat.lt_of_lt_of_le hlt hgr.size
    have hgl := (hown.lt _ rfl).2
    have HI := Lib.hid (And.intro hl1 (And.intro hpm (And.intro hup (And.intro hgr hown))))
    clear hl1 hpm hup hgr hown
    rcases Nat.eq_zero_or_pos p with h0 | h0
    · subst h0
      go_wp2_with fail
      go_end0
      exact ⟨rfl, L1, HI.out.2.1, up_stop HI.out.2.2.1 (.inl rfl), fun k hk => by rw [atL_over (by rw [HI.out.1]; exact hk), atL_over (by rw [H0.out.2.2.1]; exact hk)], HI.out.2.2.2.1, HI.out.2.2.2.2⟩
    · obtain ⟨k, rfl⟩ : ∃ k, p = k + 1 := ⟨p - 1, by omega⟩
      have hk1 : ((k + 1 : Nat) : Int) - 1 = (k : Int) := by omega
      obtain ⟨i, hi⟩ : ∃ i, i = k / 2 := ⟨_, rfl⟩
      have hd : (k : Int) / 2 = (i : Int) := by omega
      have hq : parQ (k + 1) = i := by unfold parQ; omega
      have e0 : ((i : Int) == (k : Int) + 1) = false := by rw [beq_eq_false_iff_ne]; omega
      have hik : i < k + 1 := by omega
      have HQ := Lib.hid hq
      clear hi hq
      cases hls : decide (atL L1 (k + 1) < atL L1 i)
      · have hle := hLess_any base g cap n L1 (k + 1) i ((k : Int) + 1) (i : Int) (by omega) rfl wr HI.out.2.2.2.2 hp (by omega) HI.out.1
        rw [hls] at hle
        have HL := Lib.hid (And.intro hle (of_decide_eq_false hls))
        clear hle hls
        go_wp2_with (go_at_call 134; go_must (refine HL.out.1.mono ?_); rintro e w9 ⟨rfl, b9⟩)
        go_end0
        exact ⟨rfl, L1, HI.out.2.1, up_stop HI.out.2.2.1 (.inr (by rw [HQ.out]; exact Nat.not_lt.1 HL.out.2)), fun q hq => by rw [atL_over (by rw [HI.out.1]; exact hq), atL_over (by rw [H0.out.2.2.1]; exact hq)], grown_step HI.out.2.2.2.1 b9, own_below HI.out.2.2.2.2 b9⟩
      · have hle := hLess_any base g cap n L1 (k + 1) i ((k : Int) + 1) (i : Int) (by omega) rfl wr HI.out.2.2.2.2 hp (by omega) HI.out.1
        rw [hls] at hle
        have HL := Lib.hid (And.intro hle (of_decide_eq_true hls))
        clear hle hls
        go_wp2_with (first
          | (go_at_call 134; go_must (refine HL.out.1.mono ?_); rintro e w9 ⟨rfl, b9⟩
             have hc9 := (below_cell b9 hb 0 hbs).trans hc
             have hm9 := meth_swap hc9
             have o9 := own_below HI.out.2.2.2.2 b9)
          | (go_at_call 137; go_must (refine (hSwap_any base g cap n L1 i (k + 1) (i : Int) ((k : Int) + 1) rfl (by omega) w9 o9 (by omega) hp (by omega) HI.out.1).mono ?_); rintro e w10 ⟨rfl, g10, o10⟩))
        go_roundw
        case rel =>
          refine ⟨i, swL L1 i (k + 1), rfl, by omega, by rw [swL_len, HI.out.1], (swL_perm (by rw [HI.out.1]; omega) (by rw [HI.out.1]; exact hp)).trans HI.out.2.1, ?_, (grown_step HI.out.2.2.2.1 b9).trans g10, o10⟩
          have hs := up_step HI.out.2.2.1 (by omega) hp (by rw [HQ.out]; exact HL.out.2)
          rw [HQ.out] at hs
          exact up_ext hs (by omega) fun q _ => (swL_at (by rw [HI.out.1]; omega) (by rw [HI.out.1]; exact hp) (by omega)).symm
        case measure => simp [intOf]; omega
end Go.Proofs.Ytmcnjmflmpfjlaa
