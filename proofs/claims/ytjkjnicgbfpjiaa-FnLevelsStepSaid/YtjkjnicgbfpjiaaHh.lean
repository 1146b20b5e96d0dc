/- Texts that lie together in one: Hm, Hd, Hp, Hx. -/
import Derived.Test.YtjkjnicgbfpjiaaPe
import Derived.Test.YtjkjnicgbfpjiaaV2
import Derived.Test.YtjkjnicgbfpjiaaU5
import Derived.Test.YtjkjnicgbfpjiaaV7
import Derived.Handy
import Derived.BigRegion
import Derived.Deep.RegionLaw
import Derived.Deep.RegionHeld3
/- A heap of places in memory: what the program's methods of it do. -/
namespace Go.Proofs.Ytjkjnicgbfpjiaa
open Go.RowKit

theorem nat_cell {w : World} {base g n cap : Nat} {e : TypeId} {L : List Nat} {k x : Nat} (h : w.ownsRow base e 1 (.slice (some ⟨g, 0, none⟩) n cap) n (L.map encN)) (hx : L[k]? = some x) (hk : k < n) : w.cell? ⟨g, k, none⟩ = some (.int .i64 (x : Int)) ∧ w.frozen? ⟨g, k, none⟩ = false := by
  refine ⟨(h.cellAt k (by omega)).trans ?_, h.frozenAt k⟩
  rw [List.getElem?_map, hx]
  rfl
theorem nat_store {w : World} {base g n cap : Nat} {e : TypeId} {L : List Nat} (h : w.ownsRow base e 1 (.slice (some ⟨g, 0, none⟩) n cap) n (L.map encN)) (k x : Nat) : (w.setCell ⟨g, k, none⟩ (.int .i64 (x : Int))).ownsRow base e 1 (.slice (some ⟨g, 0, none⟩) n cap) n ((L.set k x).map encN) := by
  have h1 := (h.stored k (encN x)).1
  rw [List.map_set]
  exact h1
set_option maxHeartbeats 800000 in
set_option maxRecDepth 100000 in
theorem hLess_any (base g cap n : Nat) (L : List Nat) (i j : Nat) (a b : Int) (ea : a = (i : Int)) (eb : b = (j : Int)) (w : World) (h : w.ownsRow base 3 1 (.slice (some ⟨g, 0, none⟩) n cap) n (L.map encN)) (hi : i < n) (hj : j < n) (hL : L.length = n) :
    Calls Try.prog 129 #[.slice (some ⟨g, 0, none⟩) n cap, .int .i64 a, .int .i64 b] w fun e w2 => e = .returned (.bool (decide (atL L i < atL L j))) ∧ Below w.heap.size w w2 := by
  subst ea eb
  obtain ⟨c1, _⟩ := nat_cell h (atL_some (by omega)) hi
  obtain ⟨c2, _⟩ := nat_cell h (atL_some (by omega)) hj
  obtain ⟨x, hx⟩ : ∃ x, x = atL L i := ⟨_, rfl⟩
  obtain ⟨y, hy⟩ : ∃ y, y = atL L j := ⟨_, rfl⟩
  rw [← hx] at c1 ⊢
  rw [← hy] at c2 ⊢
  have hii : (i : Int) < (n : Int) := by omega
  have hjj : (j : Int) < (n : Int) := by omega
  clear hx hy h hL
  go_enter Try.func129, Try.ntmps129
  go_wp2_with fail
  go_quiet (fail)
  go_wp2_with fail
  go_ret
  exact ⟨ret_bool (by rw [decide_eq_decide]), below_draws (Below.refl _ _) _⟩
set_option maxHeartbeats 800000 in
set_option maxRecDepth 100000 in
theorem hSwap_any (base g cap n : Nat) (L : List Nat) (i j : Nat) (a b : Int) (ea : a = (i : Int)) (eb : b = (j : Int)) (w : World) (h : w.ownsRow base 3 1 (.slice (some ⟨g, 0, none⟩) n cap) n (L.map encN)) (hi : i < n) (hj : j < n) (hij : i ≠ j) (hL : L.length = n) :
    Calls Try.prog 132 #[.slice (some ⟨g, 0, none⟩) n cap, .int .i64 a, .int .i64 b] w fun e w2 => e = .returned (.tuple #[]) ∧ w.grownBy w2 (some g) ∧ w2.ownsRow base 3 1 (.slice (some ⟨g, 0, none⟩) n cap) n ((swL L i j).map encN) := by
  subst ea eb
  obtain ⟨c1, f1⟩ := nat_cell h (atL_some (by omega)) hi
  obtain ⟨c2, f2⟩ := nat_cell h (atL_some (by omega)) hj
  have h3 := nat_store (nat_store h i (atL L j)) j (atL L i)
  have HS : Hid ((L.set i (atL L j)).set j (atL L i) = swL L i j) := by exact rfl
  obtain ⟨x, hx⟩ : ∃ x, x = atL L i := ⟨_, rfl⟩
  obtain ⟨y, hy⟩ : ∃ y, y = atL L j := ⟨_, rfl⟩
  rw [← hx] at c1 h3
  rw [← hy] at c2 h3
  have H3 := Lib.hid h3
  have HX := Lib.hid (And.intro hx hy)
  have hii : (i : Int) < (n : Int) := by omega
  have hjj : (j : Int) < (n : Int) := by omega
  have hgl := (h.lt _ rfl).2
  have H0 := Lib.hid h
  clear hx hy h hL h3
  go_enter Try.func132, Try.ntmps132
  go_wp2_with fail
  go_region
  go_wp2_with fail
  go_end0
  have h1 : w.grownBy ((w.setCell ⟨g, i, none⟩ (.int .i64 (y : Int))).setCell ⟨g, j, none⟩ (.int .i64 (x : Int))) (some g) := grown_store (grown_store (World.grownBy.refl _ _))
  refine ⟨rfl, ⟨h1.os, h1.tape, h1.output, h1.size, h1.block⟩, ?_⟩
  have h2 := H3.out
  rw [HX.out.1, HX.out.2, HS.out, ← HX.out.1, ← HX.out.2] at h2
  exact h2
set_option maxHeartbeats 800000 in
set_option maxRecDepth 100000 in
theorem hSwap0_any (base g cap n : Nat) (L : List Nat) (i : Nat) (w : World) (h : w.ownsRow base 3 1 (.slice (some ⟨g, 0, none⟩) n cap) n (L.map encN)) (hi : i < n) (hL : L.length = n) :
    Calls Try.prog 132 #[.slice (some ⟨g, 0, none⟩) n cap, .int .i64 (i : Int), .int .i64 (i : Int)] w fun e w2 => e = .returned (.tuple #[]) ∧ w.grownBy w2 (some g) ∧ w2.ownsRow base 3 1 (.slice (some ⟨g, 0, none⟩) n cap) n (L.map encN) := by
  obtain ⟨c1, f1⟩ := nat_cell h (atL_some (by omega)) hi
  have h3 := nat_store (nat_store h i (atL L i)) i (atL L i)
  have hs : (L.set i (atL L i)).set i (atL L i) = L := by
    have e : L.set i (atL L i) = L := by
      refine List.ext_getElem? fun k => ?_
      rw [List.getElem?_set]
      by_cases hk : i = k
      · subst hk
        rw [if_pos rfl, if_pos (by omega), atL_some (by omega)]
      · rw [if_neg hk]
    rw [e, e]
  rw [hs] at h3
  obtain ⟨x, hx⟩ : ∃ x, x = atL L i := ⟨_, rfl⟩
  rw [← hx] at c1 h3
  have H3 := Lib.hid h3
  have hii : (i : Int) < (n : Int) := by omega
  clear hx h hL h3 hs
  go_enter Try.func132, Try.ntmps132
  go_wp2_with fail
  go_region
  go_wp2_with fail
  go_end0
  have h1 : w.grownBy ((w.setCell ⟨g, i, none⟩ (.int .i64 (x : Int))).setCell ⟨g, i, none⟩ (.int .i64 (x : Int))) (some g) := grown_store (grown_store (World.grownBy.refl _ _))
  exact ⟨rfl, ⟨h1.os, h1.tape, h1.output, h1.size, h1.block⟩, H3.out⟩
theorem atL_over {L : List Nat} {k : Nat} (h : L.length ≤ k) : atL L k = 0 := by simp [atL, h]
theorem meth_less {hb : Nat} {v : Value} {w : World} (h : w.cell? ⟨hb, 0, none⟩ = some v) : (method 240 103 (.pointer (some ⟨hb, 0, none⟩)) "Less").run Try.prog w = .ok (129, v) w := by
  have e : (method 240 103 (.pointer (some ⟨hb, 0, none⟩)) "Less").run Try.prog w = (Sem.load .plain ⟨hb, 0, none⟩ fun v => pure ((129 : Nat), v)).run Try.prog w := by kernel_rfl
  rw [e]
  simp [Sem.run, h]
theorem meth_swap {hb : Nat} {v : Value} {w : World} (h : w.cell? ⟨hb, 0, none⟩ = some v) : (method 240 103 (.pointer (some ⟨hb, 0, none⟩)) "Swap").run Try.prog w = .ok (132, v) w := by
  have e : (method 240 103 (.pointer (some ⟨hb, 0, none⟩)) "Swap").run Try.prog w = (Sem.load .plain ⟨hb, 0, none⟩ fun v => pure ((132 : Nat), v)).run Try.prog w := by kernel_rfl
  rw [e]
  simp [Sem.run, h]
theorem meth_len {hb : Nat} {v : Value} {w : World} (h : w.cell? ⟨hb, 0, none⟩ = some v) : (method 240 103 (.pointer (some ⟨hb, 0, none⟩)) "Len").run Try.prog w = .ok (94, v) w := by
  have e : (method 240 103 (.pointer (some ⟨hb, 0, none⟩)) "Len").run Try.prog w = (Sem.load .plain ⟨hb, 0, none⟩ fun v => pure ((94 : Nat), v)).run Try.prog w := by kernel_rfl
  rw [e]
  simp [Sem.run, h]
theorem grown_step {w w2 w3 : World} {g : Nat} (h : w.grownBy w2 (some g)) (hb : Below w2.heap.size w2 w3) : w.grownBy w3 (some g) := h.trans (grown_of_below hb _)
/-- The heap's block holds the slice of a row of the call's own. -/
def HeapPost (w : World) (base g cap n m : Nat) (L : List Nat) (w2 : World) : Prop :=
  ∃ L2 : List Nat, L2.Perm L ∧ HeapF (atL L2) m ∧ (∀ k, m ≤ k → atL L2 k = atL L k) ∧ w.grownBy w2 (some g) ∧ w2.ownsRow base 3 1 (.slice (some ⟨g, 0, none⟩) n cap) n (L2.map encN)
set_option maxHeartbeats 1600000 in
set_option maxRecDepth 100000 in
theorem hUp_any (base hb g cap n : Nat) (L : List Nat) (j : Nat) (w : World) (hc : w.cell? ⟨hb, 0, none⟩ = some (.slice (some ⟨g, 0, none⟩) n cap)) (hlt : hb < w.heap.size) (hne : ¬ hb = g) (h : w.ownsRow base 3 1 (.slice (some ⟨g, 0, none⟩) n cap) n (L.map encN)) (hj : j < n) (hL : L.length = n) (hn : n ≤ 100) (hu : UpF (atL L) n j) :
    Calls Try.prog 104 #[.iface 103 (.pointer (some ⟨hb, 0, none⟩)), .int .i64 (j : Int)] w fun e w2 => e = .returned (.tuple #[]) ∧ HeapPost w base g cap n n L w2 := by
  have H0 := Lib.hid (And.intro hc (And.intro h (And.intro hL hu)))
  clear hc h hL hu
  go_enter Try.func104, Try.ntmps104
  go_wp2_with fail
  go_loopw [1] (fun v wr => ∃ (p : Nat) (L1 : List Nat), v = .int .i64 (p : Int) ∧ p < n ∧ L1.length = n ∧ L1.Perm L ∧ UpF (atL L1) n p ∧ w.grownBy wr (some g) ∧ wr.ownsRow base 3 1 (.slice (some ⟨g, 0, none⟩) n cap) n (L1.map encN)) (fun v _ => (intOf v).toNat)
  case atStart => exact ⟨j, L, rfl, hj, H0.out.2.2.1, .refl _, H0.out.2.2.2, World.grownBy.refl _ _, H0.out.2.1⟩
  case round =>
    obtain ⟨p, L1, rfl, hp, hl1, hpm, hup, hgr, hown⟩ := hrel
    have hc := (World.cell?_of_block (w := w) (a := ⟨hb, 0, none⟩) (hgr.block hb hlt (fun e => hne (by injection e)))).trans H0.out.1
    have hm1 := meth_less hc
    have hbs : hb < wr.heap.size := Nat.lt_of_lt_of_le hlt hgr.size
    have hgl := (hown.lt _ rfl).2
    have HI := Lib.hid (And.intro hl1 (And.intro hpm (And.intro hup (And.intro hgr hown))))
    clear hl1 hpm hup hgr hown
    rcases Nat.eq_zero_or_pos p with h0 | h0
    · subst h0
      go_wp2_with fail
      go_end0
      exact ⟨rfl, L1, HI.out.2.1, up_stop HI.out.2.2.1 (.inl rfl), fun k hk => by rw [atL_over (by rw [HI.out.1]; exact hk), atL_over (by rw [H0.out.2.2.1]; exact hk)], HI.out.2.2.2.1, HI.out.2.2.2.2⟩
    · obtain ⟨k, rfl⟩ : ∃ k, p = k + 1 := ⟨p - 1, by omega⟩
      have hk1 : ((k + 1 : Nat) : Int) - 1 = (k : Int) := by omega
      obtain ⟨i, hi⟩ : ∃ i, i = k / 2 := ⟨_, rfl⟩
      have hd : (k : Int) / 2 = (i : Int) := by omega
      have hq : parQ (k + 1) = i := by unfold parQ; omega
      have e0 : ((i : Int) == (k : Int) + 1) = false := by rw [beq_eq_false_iff_ne]; omega
      have hik : i < k + 1 := by omega
      have HQ := Lib.hid hq
      clear hi hq
      cases hls : decide (atL L1 (k + 1) < atL L1 i)
      · have hle := hLess_any base g cap n L1 (k + 1) i ((k : Int) + 1) (i : Int) (by omega) rfl wr HI.out.2.2.2.2 hp (by omega) HI.out.1
        rw [hls] at hle
        have HL := Lib.hid (And.intro hle (of_decide_eq_false hls))
        clear hle hls
        go_wp2_with (go_at_call 129; go_must (refine HL.out.1.mono ?_); rintro e w9 ⟨rfl, b9⟩)
        go_end0
        exact ⟨rfl, L1, HI.out.2.1, up_stop HI.out.2.2.1 (.inr (by rw [HQ.out]; exact Nat.not_lt.1 HL.out.2)), fun q hq => by rw [atL_over (by rw [HI.out.1]; exact hq), atL_over (by rw [H0.out.2.2.1]; exact hq)], grown_step HI.out.2.2.2.1 b9, own_below HI.out.2.2.2.2 b9⟩
      · have hle := hLess_any base g cap n L1 (k + 1) i ((k : Int) + 1) (i : Int) (by omega) rfl wr HI.out.2.2.2.2 hp (by omega) HI.out.1
        rw [hls] at hle
        have HL := Lib.hid (And.intro hle (of_decide_eq_true hls))
        clear hle hls
        go_wp2_with (first
          | (go_at_call 129; go_must (refine HL.out.1.mono ?_); rintro e w9 ⟨rfl, b9⟩
             have hc9 := (below_cell b9 hb 0 hbs).trans hc
             have hm9 := meth_swap hc9
             have o9 := own_below HI.out.2.2.2.2 b9)
          | (go_at_call 132; go_must (refine (hSwap_any base g cap n L1 i (k + 1) (i : Int) ((k : Int) + 1) rfl (by omega) w9 o9 (by omega) hp (by omega) HI.out.1).mono ?_); rintro e w10 ⟨rfl, g10, o10⟩))
        go_roundw
        case rel =>
          refine ⟨i, swL L1 i (k + 1), rfl, by omega, by rw [swL_len, HI.out.1], (swL_perm (by rw [HI.out.1]; omega) (by rw [HI.out.1]; exact hp)).trans HI.out.2.1, ?_, (grown_step HI.out.2.2.2.1 b9).trans g10, o10⟩
          have hs := up_step HI.out.2.2.1 (by omega) hp (by rw [HQ.out]; exact HL.out.2)
          rw [HQ.out] at hs
          exact up_ext hs (by omega) fun q _ => (swL_at (by rw [HI.out.1]; omega) (by rw [HI.out.1]; exact hp) (by omega)).symm
        case measure => simp [intOf]; omega
end Go.Proofs.Ytjkjnicgbfpjiaa

/- A heap of places in memory: what the library's way down does. -/
namespace Go.Proofs.Ytjkjnicgbfpjiaa
open Go.RowKit

theorem par_kids {p k : Nat} (h0 : 0 < k) (h : parQ k = p) : k = 2 * p + 1 ∨ k = 2 * p + 2 := by unfold parQ at h; omega
set_option maxHeartbeats 1000000 in
set_option maxRecDepth 100000 in
theorem hDown_any (base hb g cap n m : Nat) (L : List Nat) (w : World) (hc : w.cell? ⟨hb, 0, none⟩ = some (.slice (some ⟨g, 0, none⟩) n cap)) (hlt : hb < w.heap.size) (hne : ¬ hb = g) (h : w.ownsRow base 3 1 (.slice (some ⟨g, 0, none⟩) n cap) n (L.map encN)) (hm : m ≤ n) (hL : L.length = n) (hn : n ≤ 100) (hu : DownF (atL L) m 0) :
    Calls Try.prog 105 #[.iface 103 (.pointer (some ⟨hb, 0, none⟩)), .int .i64 0, .int .i64 (m : Int)] w fun e w2 => (∃ b, e = .returned (.bool b)) ∧ HeapPost w base g cap n m L w2 := by
  have H0 := Lib.hid (And.intro hc (And.intro h (And.intro hL hu)))
  clear hc h hL hu
  go_enter Try.func105, Try.ntmps105
  go_wp2_with fail
  go_loopw [7] (fun v wr => ∃ (p : Nat) (L1 : List Nat), v = .int .i64 (p : Int) ∧ (p < m ∨ p = 0) ∧ L1.length = n ∧ L1.Perm L ∧ DownF (atL L1) m p ∧ (∀ k, m ≤ k → atL L1 k = atL L k) ∧ w.grownBy wr (some g) ∧ wr.ownsRow base 3 1 (.slice (some ⟨g, 0, none⟩) n cap) n (L1.map encN)) (fun v _ => m - (intOf v).toNat)
  case atStart => exact ⟨0, L, rfl, .inr rfl, H0.out.2.2.1, .refl _, H0.out.2.2.2, fun _ _ => rfl, World.grownBy.refl _ _, H0.out.2.1⟩
  case round =>
    obtain ⟨p, L1, rfl, hp, hl1, hpm, hup, hrest, hgr, hown⟩ := hrel
    have hc := (World.cell?_of_block (w := w) (a := ⟨hb, 0, none⟩) (hgr.block hb hlt (fun e => hne (by injection e)))).trans H0.out.1
    have hm1 := meth_less hc
    have hbs : hb < wr.heap.size := Nat.lt_of_lt_of_le hlt hgr.size
    have HI := Lib.hid (And.intro hl1 (And.intro hpm (And.intro hup (And.intro hgr (And.intro hown hrest)))))
    clear hl1 hpm hup hgr hown hrest
    obtain ⟨q1, hq1⟩ : ∃ q1, q1 = 2 * p + 1 := ⟨_, rfl⟩
    have k1 : 2 * (p : Int) + 1 = (q1 : Int) := by omega
    have e2 : decide ((q1 : Int) < 0) = false := decide_eq_false (by omega)
    have hpq : p < q1 := by omega
    have hkid : ∀ k, 0 < k → parQ k = p → k = q1 ∨ k = q1 + 1 := fun k h0 h => by have := par_kids h0 h; omega
    have hpar : parQ q1 = p ∧ parQ (q1 + 1) = p := by unfold parQ; omega
    have HK := Lib.hid (And.intro hkid hpar)
    clear hq1 hkid hpar
    by_cases h1 : q1 < m
    · have hi1 : (q1 : Int) < (m : Int) := by omega
      have e1 : decide ((q1 : Int) ≥ (m : Int)) = false := decide_eq_false (by omega)
      obtain ⟨q2, hq2⟩ : ∃ q2, q2 = q1 + 1 := ⟨_, rfl⟩
      have k2 : (q1 : Int) + 1 = (q2 : Int) := by omega
      have hq12 : q1 < q2 := by omega
      have HQ : Hid (parQ q2 = p) := by rw [hq2]; exact HK.out.2.2
      have HQ2 := Lib.hid hq2
      by_cases h2 : q2 < m
      · have hi2 : (q2 : Int) < (m : Int) := by omega
        clear hq2
        by_cases h3 : atL L1 q2 < atL L1 q1
        · have hla := hLess_any base g cap n L1 q2 q1 _ _ rfl rfl wr HI.out.2.2.2.2.1 (by omega) (by omega) HI.out.1
          rw [decide_eq_true h3] at hla
          have HA := Lib.hid (And.intro hla h3)
          clear hla h3
          have hmin : ∀ k, 0 < k → k < m → parQ k = p → atL L1 q2 ≤ atL L1 k := fun k h0 hk hpk => by
            have h3 := HA.out.2
            rcases HK.out.1 k h0 hpk with rfl | h9
            · omega
            · rw [h9, ← HQ2.out]; omega
          have HM := Lib.hid hmin
          clear hmin
          by_cases hls : atL L1 q2 < atL L1 p
          · have HL := Lib.hid hls
            clear hls
            go_wp2_with (first
              | (go_at_call 129; with_reducible (refine HA.out.1.mono ?_); rintro e w8 ⟨rfl, b8⟩
                 have hc8 := (below_cell b8 hb 0 hbs).trans hc
                 have hm8 := meth_less hc8
                 have hbs8 : hb < w8.heap.size := Nat.lt_of_lt_of_le hbs b8.size
                 have o8 := own_below HI.out.2.2.2.2.1 b8)
              | (go_at_call 129; refine (hLess_any base g cap n L1 q2 p _ _ rfl rfl w8 o8 (by omega) (by omega) HI.out.1).mono ?_; rintro e w9 ⟨rfl, b9⟩
                 rw [decide_eq_true HL.out]
                 have hc9 := (below_cell b9 hb 0 hbs8).trans hc8
                 have hm9 := meth_swap hc9
                 have o9 := own_below o8 b9)
              | (go_at_call 132; refine (hSwap_any base g cap n L1 p q2 _ _ rfl rfl w9 o9 (by omega) (by omega) (by omega) HI.out.1).mono ?_; rintro e w10 ⟨rfl, g10, o10⟩))
            go_roundw
            case rel =>
              refine ⟨q2, swL L1 p q2, rfl, .inl (by omega), by rw [swL_len, HI.out.1], (swL_perm (by rw [HI.out.1]; omega) (by rw [HI.out.1]; omega)).trans HI.out.2.1, ?_, fun k hk => ?_, (grown_step (grown_step HI.out.2.2.2.1 b8) b9).trans g10, o10⟩
              · exact down_ext (down_step HI.out.2.2.1 (by omega) (by omega) HQ.out HL.out HM.out) (by omega) fun q _ => (swL_at (by rw [HI.out.1]; omega) (by rw [HI.out.1]; omega) (by omega)).symm
              · rw [swL_at (by rw [HI.out.1]; omega) (by rw [HI.out.1]; omega) (by omega), swF, if_neg (by omega), if_neg (by omega)]
                exact HI.out.2.2.2.2.2 k hk
            case measure => simp [intOf]; omega
          · have HL := Lib.hid hls
            clear hls
            go_wp2_with (first
              | (go_at_call 129; with_reducible (refine HA.out.1.mono ?_); rintro e w8 ⟨rfl, b8⟩
                 have hc8 := (below_cell b8 hb 0 hbs).trans hc
                 have hm8 := meth_less hc8
                 have hbs8 : hb < w8.heap.size := Nat.lt_of_lt_of_le hbs b8.size
                 have o8 := own_below HI.out.2.2.2.2.1 b8)
              | (go_at_call 129; refine (hLess_any base g cap n L1 q2 p _ _ rfl rfl w8 o8 (by omega) (by omega) HI.out.1).mono ?_; rintro e w9 ⟨rfl, b9⟩
                 rw [decide_eq_false HL.out]
                 have hc9 := (below_cell b9 hb 0 hbs8).trans hc8
                 have hm9 := meth_swap hc9
                 have o9 := own_below o8 b9))
            go_ret
            exact ⟨⟨_, rfl⟩, L1, HI.out.2.1, down_stop HI.out.2.2.1 (fun k h0 hk hpk => Nat.le_trans (Nat.not_lt.1 HL.out) (HM.out k h0 hk hpk)), HI.out.2.2.2.2.2, grown_step (grown_step HI.out.2.2.2.1 b8) b9, own_below o8 b9⟩
        · have hla := hLess_any base g cap n L1 q2 q1 _ _ rfl rfl wr HI.out.2.2.2.2.1 (by omega) (by omega) HI.out.1
          rw [decide_eq_false h3] at hla
          have HA := Lib.hid (And.intro hla h3)
          clear hla h3
          have hmin : ∀ k, 0 < k → k < m → parQ k = p → atL L1 q1 ≤ atL L1 k := fun k h0 hk hpk => by
            have h3 := HA.out.2
            rcases HK.out.1 k h0 hpk with rfl | h9
            · omega
            · rw [h9, ← HQ2.out]; omega
          have HM := Lib.hid hmin
          clear hmin
          by_cases hls : atL L1 q1 < atL L1 p
          · have HL := Lib.hid hls
            clear hls
            go_wp2_with (first
              | (go_at_call 129; with_reducible (refine HA.out.1.mono ?_); rintro e w8 ⟨rfl, b8⟩
                 have hc8 := (below_cell b8 hb 0 hbs).trans hc
                 have hm8 := meth_less hc8
                 have hbs8 : hb < w8.heap.size := Nat.lt_of_lt_of_le hbs b8.size
                 have o8 := own_below HI.out.2.2.2.2.1 b8)
              | (go_at_call 129; refine (hLess_any base g cap n L1 q1 p _ _ rfl rfl w8 o8 (by omega) (by omega) HI.out.1).mono ?_; rintro e w9 ⟨rfl, b9⟩
                 rw [decide_eq_true HL.out]
                 have hc9 := (below_cell b9 hb 0 hbs8).trans hc8
                 have hm9 := meth_swap hc9
                 have o9 := own_below o8 b9)
              | (go_at_call 132; refine (hSwap_any base g cap n L1 p q1 _ _ rfl rfl w9 o9 (by omega) (by omega) (by omega) HI.out.1).mono ?_; rintro e w10 ⟨rfl, g10, o10⟩))
            go_roundw
            case rel =>
              refine ⟨q1, swL L1 p q1, rfl, .inl (by omega), by rw [swL_len, HI.out.1], (swL_perm (by rw [HI.out.1]; omega) (by rw [HI.out.1]; omega)).trans HI.out.2.1, ?_, fun k hk => ?_, (grown_step (grown_step HI.out.2.2.2.1 b8) b9).trans g10, o10⟩
              · exact down_ext (down_step HI.out.2.2.1 (by omega) (by omega) HK.out.2.1 HL.out HM.out) (by omega) fun q _ => (swL_at (by rw [HI.out.1]; omega) (by rw [HI.out.1]; omega) (by omega)).symm
              · rw [swL_at (by rw [HI.out.1]; omega) (by rw [HI.out.1]; omega) (by omega), swF, if_neg (by omega), if_neg (by omega)]
                exact HI.out.2.2.2.2.2 k hk
            case measure => simp [intOf]; omega
          · have HL := Lib.hid hls
            clear hls
            go_wp2_with (first
              | (go_at_call 129; with_reducible (refine HA.out.1.mono ?_); rintro e w8 ⟨rfl, b8⟩
                 have hc8 := (below_cell b8 hb 0 hbs).trans hc
                 have hm8 := meth_less hc8
                 have hbs8 : hb < w8.heap.size := Nat.lt_of_lt_of_le hbs b8.size
                 have o8 := own_below HI.out.2.2.2.2.1 b8)
              | (go_at_call 129; refine (hLess_any base g cap n L1 q1 p _ _ rfl rfl w8 o8 (by omega) (by omega) HI.out.1).mono ?_; rintro e w9 ⟨rfl, b9⟩
                 rw [decide_eq_false HL.out]
                 have hc9 := (below_cell b9 hb 0 hbs8).trans hc8
                 have hm9 := meth_swap hc9
                 have o9 := own_below o8 b9))
            go_ret
            exact ⟨⟨_, rfl⟩, L1, HI.out.2.1, down_stop HI.out.2.2.1 (fun k h0 hk hpk => Nat.le_trans (Nat.not_lt.1 HL.out) (HM.out k h0 hk hpk)), HI.out.2.2.2.2.2, grown_step (grown_step HI.out.2.2.2.1 b8) b9, own_below o8 b9⟩
      · have e3 : decide ((q2 : Int) < (m : Int)) = false := decide_eq_false (by omega)
        have hno : ∀ k, k < m → k = q1 + 1 → False := fun k hk e => by omega
        have HN := Lib.hid hno
        clear hq2 hno
        have hmin : ∀ k, 0 < k → k < m → parQ k = p → atL L1 q1 ≤ atL L1 k := fun k h0 hk hpk => by
          rcases HK.out.1 k h0 hpk with rfl | h9
          · exact Nat.le_refl _
          · exact (HN.out k hk h9).elim
        have HM := Lib.hid hmin
        clear hmin
        by_cases hls : atL L1 q1 < atL L1 p
        · have HL := Lib.hid hls
          clear hls
          go_wp2_with (first
            | (go_at_call 129; refine (hLess_any base g cap n L1 q1 p _ _ rfl rfl wr HI.out.2.2.2.2.1 (by omega) (by omega) HI.out.1).mono ?_; rintro e w9 ⟨rfl, b9⟩
               rw [decide_eq_true HL.out]
               have hc9 := (below_cell b9 hb 0 hbs).trans hc
               have hm9 := meth_swap hc9
               have o9 := own_below HI.out.2.2.2.2.1 b9)
            | (go_at_call 132; refine (hSwap_any base g cap n L1 p q1 _ _ rfl rfl w9 o9 (by omega) (by omega) (by omega) HI.out.1).mono ?_; rintro e w10 ⟨rfl, g10, o10⟩))
          go_roundw
          case rel =>
            refine ⟨q1, swL L1 p q1, rfl, .inl (by omega), by rw [swL_len, HI.out.1], (swL_perm (by rw [HI.out.1]; omega) (by rw [HI.out.1]; omega)).trans HI.out.2.1, ?_, fun k hk => ?_, (grown_step HI.out.2.2.2.1 b9).trans g10, o10⟩
            · exact down_ext (down_step HI.out.2.2.1 (by omega) (by omega) HK.out.2.1 HL.out HM.out) (by omega) fun q _ => (swL_at (by rw [HI.out.1]; omega) (by rw [HI.out.1]; omega) (by omega)).symm
            · rw [swL_at (by rw [HI.out.1]; omega) (by rw [HI.out.1]; omega) (by omega), swF, if_neg (by omega), if_neg (by omega)]
              exact HI.out.2.2.2.2.2 k hk
          case measure => simp [intOf]; omega
        · have HL := Lib.hid hls
          clear hls
          go_wp2_with (first
            | (go_at_call 129; refine (hLess_any base g cap n L1 q1 p _ _ rfl rfl wr HI.out.2.2.2.2.1 (by omega) (by omega) HI.out.1).mono ?_; rintro e w9 ⟨rfl, b9⟩
               rw [decide_eq_false HL.out]
               have hc9 := (below_cell b9 hb 0 hbs).trans hc
               have hm9 := meth_swap hc9
               have o9 := own_below HI.out.2.2.2.2.1 b9))
          go_ret
          exact ⟨⟨_, rfl⟩, L1, HI.out.2.1, down_stop HI.out.2.2.1 (fun k h0 hk hpk => Nat.le_trans (Nat.not_lt.1 HL.out) (HM.out k h0 hk hpk)), HI.out.2.2.2.2.2, grown_step HI.out.2.2.2.1 b9, own_below HI.out.2.2.2.2.1 b9⟩
    · have e1 : decide ((q1 : Int) ≥ (m : Int)) = true := decide_eq_true (by omega)
      go_wp2_with fail
      go_ret
      exact ⟨⟨_, rfl⟩, L1, HI.out.2.1, down_stop HI.out.2.2.1 (fun k h0 hk hpk => by have := HK.out.1 k h0 hpk; omega), HI.out.2.2.2.2.2, HI.out.2.2.2.1, HI.out.2.2.2.2.1⟩
end Go.Proofs.Ytjkjnicgbfpjiaa

/- A heap of places in memory: a place laid into it, and the least one taken out. -/
namespace Go.Proofs.Ytjkjnicgbfpjiaa
open Go.RowKit

/-- The block hb holds the slice v, a row of the call's own with these places. -/
structure HeapM (w : World) (base hb : Nat) (v : Value) (L : List Nat) : Prop where
  blk : w.heap[hb]? = some (.cells #[v] 104 (0, 0))
  own : w.ownsRow base 3 1 v L.length (L.map encN)
  lo : base ≤ hb
  far : v.ownBlock ≠ some hb
/-- Only the heap's block and its row have turned, and new blocks. -/
structure HeapS (w w2 : World) (hb : Nat) (v v2 : Value) : Prop where
  os : w2.os = w.os
  tape : w2.tape = w.tape
  output : w2.output = w.output
  size : w.heap.size ≤ w2.heap.size
  block : ∀ k, k < w.heap.size → k ≠ hb → v.ownBlock ≠ some k → w2.heap[k]? = w.heap[k]?
  late : ∀ k, v2.ownBlock = some k → v.ownBlock = some k ∨ w.heap.size ≤ k
section
variable {w w2 w3 : World} {base hb : Nat} {v v2 v3 : Value} {L : List Nat}
theorem HeapM.lt (h : HeapM w base hb v L) : hb < w.heap.size := (Array.getElem?_eq_some_iff.1 h.blk).1
theorem HeapM.cell (h : HeapM w base hb v L) : w.cell? ⟨hb, 0, none⟩ = some v ∧ w.frozen? ⟨hb, 0, none⟩ = false := ⟨cell_of_row _ _ 0 _ _ _ h.blk, frozen_of_row _ _ 0 _ _ h.blk⟩
theorem HeapM.step (h : HeapM w base hb v L) (hb2 : Below w.heap.size w w2) : HeapM w2 base hb v L := ⟨(hb2.block hb h.lt).trans h.blk, own_below h.own hb2, h.lo, h.far⟩
theorem HeapS.refl (w : World) (hb : Nat) (v : Value) : HeapS w w hb v v := ⟨rfl, rfl, rfl, Nat.le_refl _, fun _ _ _ _ => rfl, fun _ h => .inl h⟩
theorem HeapS.trans (h : HeapS w w2 hb v v2) (k : HeapS w2 w3 hb v2 v3) : HeapS w w3 hb v v3 :=
  ⟨k.os.trans h.os, k.tape.trans h.tape, k.output.trans h.output, Nat.le_trans h.size k.size, fun i hi hne hv => by
    refine (k.block i (by have := h.size; omega) hne fun e => ?_).trans (h.block i hi hne hv)
    rcases h.late i e with h1 | h1
    · exact hv h1
    · omega, fun i hi => by
    rcases k.late i hi with h1 | h1
    · exact h.late i h1
    · right; have := h.size; omega⟩
theorem HeapS.of_below (h : Below w.heap.size w w2) (hb : Nat) (v : Value) : HeapS w w2 hb v v := ⟨h.os, h.tape, h.output, h.size, fun k hk _ _ => h.block k hk, fun _ h => .inl h⟩
theorem HeapS.of_grown {g : Nat} (h : w.grownBy w2 (some g)) (hg : v.ownBlock = some g) : HeapS w w2 hb v v :=
  ⟨h.os, h.tape, h.output, h.size, fun k hk _ hne => h.block k hk fun e => hne (by rw [hg, ← e]), fun _ h => .inl h⟩
/-- What lies in neither is as it was, and still apart. -/
theorem HeapS.row {base2 e size n : Nat} {u : Value} {xs : List Value} (h : HeapS w w2 hb v v2) (ho : w.ownsRow base2 e size u n xs) (h1 : u.ownBlock ≠ some hb) (h2 : ∀ k, u.ownBlock = some k → v.ownBlock ≠ some k) : w2.ownsRow base2 e size u n xs ∧ ∀ k, u.ownBlock = some k → v2.ownBlock ≠ some k := by
  refine ⟨⟨ho.1, ?_⟩, fun k hk hk2 => ?_⟩
  · rcases ho.2 with hn | ⟨g, cap, cur, hv, hbg, hgb, rest⟩
    · exact .inl hn
    · refine .inr ⟨g, cap, cur, hv, hbg, ?_, rest⟩
      have hu : u.ownBlock = some g := by rw [hv]; rfl
      rw [h.block g (Array.getElem?_eq_some_iff.1 hgb).1 (fun e => h1 (by rw [hu, e])) (h2 g hu)]
      exact hgb
  · rcases h.late k hk2 with h3 | h3
    · exact h2 k hk h3
    · have := (ho.lt k hk).2; omega
theorem HeapS.below {w0 : World} (h : HeapS w w2 hb v v2) (hm : HeapM w base hb v L) (hb0 : Below w0.heap.size w0 w) (hbase : w0.heap.size ≤ base) : Below w0.heap.size w0 w2 :=
  ⟨h.os.trans hb0.os, h.tape.trans hb0.tape, h.output.trans hb0.output, Nat.le_trans hb0.size h.size, fun k hk => by
    refine (h.block k (by have := hb0.size; omega) (by have := hm.lo; omega) fun e => ?_).trans (hb0.block k hk)
    have := (hm.own.lt k e).1
    omega⟩
end
/-- The heap's block as it was, behind an append to its row. -/
theorem HeapM.keep8 {w w8 : World} {o : Obj} {base hb : Nat} {v : Value} {L : List Nat} (h : HeapM w base hb v L) (hg : ((w.drewN 1).alloc o).grownBy w8 v.ownBlock) : w8.heap[hb]? = some (.cells #[v] 104 (0, 0)) := by
  have h1 : ((w.drewN 1).alloc o).heap[hb]? = w.heap[hb]? := Below.heap_alloc (w.drewN 1) o hb h.lt
  exact ((hg.block hb (by have := h.lt; simp [World.drewN]; omega) (fun e => h.far e.symm)).trans h1).trans h.blk
/-- Another slice is laid into the heap's block. -/
theorem HeapM.put {w w8 : World} {base hb : Nat} {v v2 : Value} {L L2 : List Nat} (h : HeapM w base hb v L) (hbk : w8.heap[hb]? = some (.cells #[v] 104 (0, 0))) (hs : HeapS w w8 hb v v) (ho : w8.ownsRow base 3 1 v2 L2.length (L2.map encN))
    (hat : ∀ k, v2.ownBlock = some k → v.ownBlock = some k ∨ w.heap.size ≤ k) : HeapM (w8.setCell ⟨hb, 0, none⟩ v2) base hb v2 L2 ∧ HeapS w (w8.setCell ⟨hb, 0, none⟩ v2) hb v v2 := by
  have hfar : v2.ownBlock ≠ some hb := fun e => by
    rcases hat hb e with h1 | h1
    · exact h.far h1
    · have := h.lt; omega
  refine ⟨⟨?_, ownsRow_setCell_other ho (fun e => hfar e) _, h.lo, hfar⟩, ⟨hs.os, hs.tape, hs.output, by simpa [World.setCell] using hs.size, fun k hk hne hv => ?_, hat⟩⟩
  · rw [heap_setCell_same _ _ _ _ _ _ hbk]
    simp
  · exact (heap_setCell_other _ _ _ _ hne).trans (hs.block k hk hne hv)
theorem HeapS.of_laid {w w8 : World} {o : Obj} {hb : Nat} {v : Value} (hg : ((w.drewN 1).alloc o).grownBy w8 v.ownBlock) : HeapS w w8 hb v v :=
  ⟨hg.os, hg.tape, hg.output, Nat.le_trans (by simp [World.drewN]) hg.size, fun k hk _ hv => (hg.block k (by simp [World.drewN]; omega) (fun e => hv e.symm)).trans (Below.heap_alloc (w.drewN 1) o k hk), fun _ h => .inl h⟩
/-- A slice's beginning is a row of one's own, too. -/
theorem own_take {w : World} {base e g n m cap : Nat} {xs : List Value} (h : w.ownsRow base e 1 (.slice (some ⟨g, 0, none⟩) n cap) n xs) (hm : m ≤ n) : w.ownsRow base e 1 (.slice (some ⟨g, 0, none⟩) m cap) m (xs.take m) := by
  obtain ⟨h1, h2⟩ := h
  refine ⟨by rw [List.length_take]; omega, ?_⟩
  rcases h2 with ⟨hn, _⟩ | ⟨g2, cap2, cur, hv, hbg, hgb, hcap, hmax, hsz, htk⟩
  · cases hn
  · injection hv with e1 e2 e3
    injection e1 with e1
    injection e1 with e1 _ _
    subst e1 e3
    exact .inr ⟨_, _, cur, rfl, hbg, hgb, by omega, hmax, hsz, by rw [← htk, List.take_take]; congr 1; omega⟩
theorem assert_int (W : World) (v : Value) : (Instr.typeAssert (.iface 3 v) 20 3 false).run Try.prog W = .ok v W := by kernel_rfl
set_option maxHeartbeats 1600000 in
set_option maxRecDepth 100000 in
theorem hLay_any (base hb : Nat) (v : Value) (L : List Nat) (x : Nat) (w : World) (h : HeapM w base hb v L) (hn : L.length ≤ 100) :
    Calls Try.prog 131 #[.pointer (some ⟨hb, 0, none⟩), .iface 3 (.int .i64 (x : Int))] w fun e w2 => e = .returned (.tuple #[]) ∧ ∃ v2, HeapM w2 base hb v2 (L ++ [x]) ∧ HeapS w w2 hb v v2 := by
  obtain ⟨i0, hi0, hz0, hz1, hz2⟩ := info_parts infoInt
  obtain ⟨c1, f1⟩ := h.cell
  have hlt := h.lt
  have bA : Below w.heap.size w ((w.drewN 1).alloc (.cells #[.int .i64 (x : Int)] 3)) := (below_draws (Below.refl _ _) 1).alloc (Nat.le_refl _) _
  have XA := Lib.hid (And.intro bA (And.intro (own_below h.own bA) (And.intro (reads_nat (w := w.drewN 1) (x := x) (t := 3) (B := w.heap.size + 1) (by simp [World.drewN])) (h.step bA))))
  have HM := Lib.hid h
  have hbase : base ≤ ((w.drewN 1).alloc (.cells #[.int .i64 (x : Int)] 3)).heap.size := by have := h.lo; have := bA.size; omega
  have ha := fun W => assert_int W (.int .i64 (x : Int))
  clear h bA
  go_enter Try.func131, Try.ntmps131
  go_wp2_with fail
  go_region_law
    (refine step_append_want ((w.drewN 1).alloc (.cells #[.int .i64 (x : Int)] 3)) (by rfl) (.tmp 7) (.tmp 10) _ (by rfl) base 3 i0 _ 1 8 Try.underlying104 hi0 hz0 hz1 hz2 rfl (by omega) v L.length (L.map encN) (by rfl) XA.out.2.1 _ _ 1 _ [encN x] (by rfl) XA.out.2.2.1 one_n (by simp only [maxLen]; omega) (by omega) hbase ?_
     intro v8 w8 hown8 hg8 hat8
     have hbk := HM.out.keep8 hg8
     obtain ⟨A8, k8, hv8, _, _⟩ := Reads.of_own hown8
     subst hv8
     have c8 := cell_of_row _ _ 0 _ _ _ hbk
     have f8 := frozen_of_row _ _ 0 _ _ hbk)
  all_goals
    go_wp2_with fail
    go_end0
    have hl : L.length + 1 = (L ++ [x]).length := by simp
    have hm : L.map encN ++ [encN x] = (L ++ [x]).map encN := by simp
    rw [hm] at hown8
    rw [hl] at hown8 hat8 ⊢
    obtain ⟨r1, r2⟩ := HM.out.put hbk (HeapS.of_laid hg8) hown8 fun k hk => by
      rcases hat8 with e | e
      · left; rw [← e]; exact hk
      · right; rw [hk] at e; injection e with e; rw [e]; simp [World.drewN]
    exact ⟨rfl, _, r1, r2⟩
set_option maxHeartbeats 1600000 in
set_option maxRecDepth 100000 in
theorem hTake_any (base hb n : Nat) (v : Value) (L : List Nat) (w : World) (h : HeapM w base hb v L) (hL : L.length = n + 1) (hn : L.length ≤ 100) :
    Calls Try.prog 130 #[.pointer (some ⟨hb, 0, none⟩)] w fun e w2 => e = .returned (.iface 3 (.int .i64 (atL L n : Int))) ∧ ∃ v2, HeapM w2 base hb v2 (L.take n) ∧ HeapS w w2 hb v v2 := by
  obtain ⟨c1, f1⟩ := h.cell
  have hlt := h.lt
  have ho := h.own
  rw [hL] at ho
  obtain ⟨g, cap, hv, hbg, hgl⟩ := ho.form (by omega)
  subst hv
  obtain ⟨c2, _⟩ := nat_cell ho (atL_some (k := n) (by omega)) (by omega)
  have hc1 : ((n + 1 : Nat) : Int) - 1 = (n : Int) := by omega
  have hcn : (n : Int) ≤ (cap : Int) := by
    obtain ⟨_, c3, hv3, hle, _⟩ := own_slice ho
    injection hv3 with _ _ e
    omega
  obtain ⟨x, hx⟩ : ∃ x, x = atL L n := ⟨_, rfl⟩
  rw [← hx] at c2 ⊢
  have HM := Lib.hid (And.intro h ho)
  clear h ho hx
  go_enter Try.func130, Try.ntmps130
  go_wp2_with fail
  go_ret
  have hlen : (L.take n).length = n := by rw [List.length_take]; omega
  have ht := own_take HM.out.2 (m := n) (by omega)
  rw [← List.map_take] at ht
  obtain ⟨r1, r2⟩ := HM.out.1.put HM.out.1.blk (HeapS.refl w hb _) (L2 := L.take n) (v2 := .slice (some ⟨g, 0, none⟩) n cap) (by rw [hlen]; exact ht) fun k hk => .inl hk
  exact ⟨rfl, _, r1, r2⟩
end Go.Proofs.Ytjkjnicgbfpjiaa

/- A heap of places in memory: what the library's Push and Pop do. -/
namespace Go.Proofs.Ytjkjnicgbfpjiaa
open Go.RowKit

theorem atL_app {L : List Nat} {x k : Nat} (hk : k < L.length + 1) : atL (L ++ [x]) k = if k = L.length then x else atL L k := by
  unfold atL
  rw [List.getD_eq_getElem?_getD, List.getElem?_append]
  by_cases h : k < L.length
  · rw [if_pos h, if_neg (by omega)]
    simp [List.getD_eq_getElem?_getD]
  · have e : k = L.length := by omega
    subst e
    simp
theorem atL_take {L : List Nat} {m k : Nat} (hk : k < m) : atL (L.take m) k = atL L k := by
  unfold atL
  rw [List.getD_eq_getElem?_getD, List.getElem?_take, if_pos hk, List.getD_eq_getElem?_getD]
theorem take_last {L : List Nat} {m : Nat} (h : L.length = m + 1) : L = L.take m ++ [atL L m] := by
  have h1 : L[m]? = some (atL L m) := atL_some (by omega)
  have h2 := List.take_add_one (l := L) (i := m)
  rw [h1, ← h, List.take_length] at h2
  exact h2
theorem hLen_any (A : Option Addr) (n cap : Nat) (w : World) : Calls Try.prog 94 #[.slice A n cap] w fun e w2 => e = .returned (.int .i64 (n : Int)) ∧ w = w2 := by
  go_enter Try.func94, Try.ntmps94
  go_wp2_with fail
  go_ret
  exact ⟨rfl, rfl⟩
set_option maxHeartbeats 1600000 in
set_option maxRecDepth 100000 in
theorem hPush_any (base hb : Nat) (v : Value) (L : List Nat) (x : Nat) (w : World) (h : HeapM w base hb v L) (hh : HeapF (atL L) L.length) (hn : L.length ≤ 50) :
    Calls Try.prog 93 #[.iface 103 (.pointer (some ⟨hb, 0, none⟩)), .iface 3 (.int .i64 (x : Int))] w fun e w2 => e = .returned (.tuple #[]) ∧ ∃ v2 L2, HeapM w2 base hb v2 L2 ∧ L2.Perm (x :: L) ∧ HeapF (atL L2) L2.length ∧ HeapS w w2 hb v v2 := by
  have HL := Lib.hid (hLay_any base hb v L x w h (by omega))
  obtain ⟨n, hnl⟩ : ∃ n, n = L.length := ⟨_, rfl⟩
  have hup : UpF (atL (L ++ [x])) (n + 1) n := by
    have h1 := heap_up hh x
    rw [← hnl] at h1
    exact up_ext h1 (by omega) fun k hk => by rw [atL_app (by omega), hnl]
  have HM := Lib.hid (And.intro h (And.intro hup hnl))
  have hn50 : n ≤ 50 := by omega
  have hn1 : ((n + 1 : Nat) : Int) - 1 = (n : Int) := by omega
  clear h hh hup hnl hn
  go_enter Try.func93, Try.ntmps93
  go_wp2_with (first
    | (go_at_call 131; go_must (refine HL.out.mono ?_); rintro e w2 ⟨rfl, v2, hm2, hs2⟩
       have ho2 := hm2.own
       rw [List.length_append, ← HM.out.2.2] at ho2
       obtain ⟨g, cap, hv2, hbg, hgl⟩ := ho2.form (by simp)
       subst hv2
       have hc2 := hm2.cell.1
       have hml := meth_len hc2
       have H2 := Lib.hid (And.intro hm2 (And.intro hs2 ho2))
       clear hm2 hs2 ho2)
    | (go_at_call 94; go_must (refine (hLen_any _ _ _ _).mono ?_); rintro e w3 ⟨rfl, rfl⟩)
    | (go_at_call 104; go_must (refine (hUp_any base hb g cap (n + 1) (L ++ [x]) n w2 hc2 H2.out.1.lt (fun e => H2.out.1.far (by rw [e]; rfl)) H2.out.2.2 (by omega) (by rw [List.length_append, ← HM.out.2.2]; rfl) (by omega) HM.out.2.1).mono ?_); rintro e w4 ⟨rfl, hp4⟩))
  go_end0
  obtain ⟨hm2, hs2, ho2⟩ := H2.out
  obtain ⟨L2, hpm, hhp, _, hg4, ho4⟩ := hp4
  have hl2 : L2.length = n + 1 := by rw [hpm.length_eq, List.length_append, ← HM.out.2.2]; rfl
  refine ⟨rfl, _, L2, ⟨?_, ?_, hm2.lo, hm2.far⟩, hpm.trans (List.perm_append_singleton x L), by rw [hl2]; exact hhp, hs2.trans (HeapS.of_grown hg4 rfl)⟩
  · exact (hg4.block hb hm2.lt (fun e => hm2.far (by injection e with e; rw [← e]; rfl))).trans hm2.blk
  · rw [hl2]; exact ho4
set_option maxHeartbeats 3200000 in
set_option maxRecDepth 100000 in
theorem hPop_any (base hb m : Nat) (v : Value) (L : List Nat) (w : World) (h : HeapM w base hb v L) (hh : HeapF (atL L) L.length) (hL : L.length = m + 1) (hn : m ≤ 50) :
    Calls Try.prog 95 #[.iface 103 (.pointer (some ⟨hb, 0, none⟩))] w fun e w2 => e = .returned (.iface 3 (.int .i64 (atL L 0 : Int))) ∧ ∃ v2 L2, HeapM w2 base hb v2 L2 ∧ (atL L 0 :: L2).Perm L ∧ HeapF (atL L2) L2.length ∧ HeapS w w2 hb v v2 := by
  have ho := h.own
  rw [hL] at ho hh
  obtain ⟨g, cap, hv, hbg, hgl⟩ := ho.form (by omega)
  subst hv
  have hc := h.cell.1
  have hml := meth_len hc
  have hms := meth_swap hc
  have hlt := h.lt
  have hne : ¬ hb = g := fun e => h.far (by rw [e]; rfl)
  have hm1 : ((m + 1 : Nat) : Int) - 1 = (m : Int) := by omega
  -- the row behind the exchange, whichever it is
  have hsw : ∃ L1 : List Nat, L1.Perm L ∧ L1.length = m + 1 ∧ atL L1 m = atL L 0 ∧ DownF (atL L1) m 0 ∧ Calls Try.prog 132 #[.slice (some ⟨g, 0, none⟩) (m + 1) cap, .int .i64 0, .int .i64 (m : Int)] w fun e w2 => e = .returned (.tuple #[]) ∧ w.grownBy w2 (some g) ∧ w2.ownsRow base 3 1 (.slice (some ⟨g, 0, none⟩) (m + 1) cap) (m + 1) (L1.map encN) := by
    rcases Nat.eq_zero_or_pos m with h0 | h0
    · subst h0
      exact ⟨L, .refl _, hL, rfl, ⟨fun k h1 h2 => by omega, fun k h1 h2 => by omega⟩, hSwap0_any base g cap 1 L 0 w ho (by omega) hL⟩
    · have e1 : ∀ k, atL (swL L 0 m) k = swF (atL L) 0 m k := fun k => swL_at (by omega) (by omega) (by omega)
      refine ⟨swL L 0 m, swL_perm (by omega) (by omega), by rw [swL_len, hL], ?_, ?_, hSwap_any base g cap (m + 1) L 0 m 0 (m : Int) rfl rfl w ho (by omega) (by omega) (by omega) hL⟩
      · rw [e1, swF, if_neg (by omega), if_pos rfl]
      · refine down_ext (heap_down (heap_less hh (by omega)) (atL L m)) h0 fun k hk => ?_
        rw [e1, swF]
        by_cases hk0 : k = 0
        · rw [if_pos hk0, if_pos hk0]
        · rw [if_neg hk0, if_neg hk0, if_neg (by omega)]
  obtain ⟨L1, hp1, hl1, ha1, hd1, hcall⟩ := hsw
  have HM := Lib.hid (And.intro h (And.intro hp1 (And.intro hl1 (And.intro ha1 hd1))))
  have HC := Lib.hid hcall
  clear h hh hL ho hp1 hl1 ha1 hd1 hcall
  go_enter Try.func95, Try.ntmps95
  go_wp2_with (first
    | (go_at_call 94; go_must (refine (hLen_any _ _ _ _).mono ?_); rintro e w3 ⟨rfl, rfl⟩)
    | (go_at_call 132; go_must (refine HC.out.mono ?_); rintro e w2 ⟨rfl, g2, o2⟩
       have hc2 := (World.cell?_of_block (w := w) (a := ⟨hb, 0, none⟩) (g2.block hb hlt (fun e => hne (by injection e)))).trans hc
       have hlt2 := Nat.lt_of_lt_of_le hlt g2.size)
    | (go_at_call 105; go_must (refine (hDown_any base hb g cap (m + 1) m L1 w2 hc2 hlt2 hne o2 (by omega) HM.out.2.2.1 (by omega) HM.out.2.2.2.2).mono ?_); rintro e w4 ⟨⟨b4, rfl⟩, hp4⟩
       obtain ⟨L2, hpm, hhp, hrs, g4, o4⟩ := hp4
       have hl2 : L2.length = m + 1 := by rw [hpm.length_eq]; exact HM.out.2.2.1
       have hm4 : HeapM w4 base hb (.slice (some ⟨g, 0, none⟩) (m + 1) cap) L2 := ⟨((g2.trans g4).block hb hlt (fun e => hne (by injection e))).trans HM.out.1.blk, by rw [hl2]; exact o4, HM.out.1.lo, HM.out.1.far⟩
       have H4 := Lib.hid (And.intro hm4 (And.intro hl2 (And.intro hpm (And.intro hhp (And.intro hrs (g2.trans g4))))))
       clear hm4 hl2 hpm hhp hrs g4 o4)
    | (go_at_call 130; go_must (refine (hTake_any base hb m _ L2 w4 H4.out.1 H4.out.2.1 (by rw [H4.out.2.1]; omega)).mono ?_); rintro e w5 ⟨rfl, v5, hm5, hs5⟩))
  go_ret
  obtain ⟨hm4, hl2, hpm, hhp, hrs, hg4⟩ := H4.out
  have ea : atL L2 m = atL L 0 := (hrs m (Nat.le_refl _)).trans HM.out.2.2.2.1
  have hlt5 : (L2.take m).length = m := by rw [List.length_take]; omega
  refine ⟨by rw [ea]; rfl, v5, L2.take m, hm5, ?_, ?_, (HeapS.of_grown hg4 rfl).trans hs5⟩
  · have h1 := take_last hl2
    have h2 : (atL L 0 :: L2.take m).Perm (L2.take m ++ [atL L2 m]) := by
      rw [ea]
      exact (List.perm_append_singleton _ _).symm
    rw [← h1] at h2
    exact h2.trans (hpm.trans HM.out.2.1)
  · rw [hlt5]
    exact heap_ext hhp fun k hk => (atL_take hk).symm
end Go.Proofs.Ytjkjnicgbfpjiaa
