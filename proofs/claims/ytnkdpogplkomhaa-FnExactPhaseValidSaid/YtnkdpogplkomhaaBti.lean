/- Comparisons of tables of numbers, as the laws make them. (written by gen_tabi.py) -/
import Derived.Test.YtnkdpogplkomhaaInts
import Derived.Test.YtnkdpogplkomhaaTab
namespace Go.Proofs.Ytnkdpogplkomhaa
open Go.RowKit

theorem sameInts_to (A B : Option Addr) (ca cb : Nat) (l m : List Int) (t : Bool) (w : World) (ha : Reads w w.heap.size 1 A l.length (l.map (Value.int .i64))) (hb : Reads w w.heap.size 1 B m.length (m.map (Value.int .i64))) (hl : l.length ≤ 1000000000000) (ht : decide (l = m) = t) :
    Calls Try.prog 24 #[.slice A l.length ca, .slice B m.length cb] w fun e w2 => e = .returned (.bool t) ∧ Below w.heap.size w w2 :=
  (sameInts_any A B ca cb l m w ha hb hl).mono fun _ _ ⟨h1, h2⟩ => ⟨by rw [h1, ← ht]; rfl, h2⟩
theorem eqIS_to (A B : Option Addr) (ca cb : Nat) (l m : List Int) (t : Bool) (w : World) (ha : Reads w w.heap.size 1 A l.length (l.map (Value.int .i64))) (hb : Reads w w.heap.size 1 B m.length (m.map (Value.int .i64))) (hl : l.length ≤ 1000000000000) (ht : decide (l = m) = t) :
    Calls Try.prog 34 #[.slice A l.length ca, .slice B m.length cb] w fun e w2 => e = .returned (.bool t) ∧ Below w.heap.size w w2 :=
  (eqIS_any A B ca cb l m w ha hb hl).mono fun _ _ ⟨h1, h2⟩ => ⟨by rw [h1, ← ht]; rfl, h2⟩
set_option maxHeartbeats 1600000 in
set_option maxRecDepth 100000 in
theorem eqIT_any (A B : Option Addr) (ca cb : Nat) (L M : List (List Int)) (w : World) (ha : Nest (Value.int .i64) w w.heap.size A L.length L) (hb : Nest (Value.int .i64) w w.heap.size B M.length M) (hl : L.length ≤ 1000000000) (hr : ∀ r ∈ L, r.length ≤ 1000000000) :
    Calls Try.prog 39 #[.slice A L.length ca, .slice B M.length cb] w fun e w2 => e = .returned (.bool (decide (L = M))) ∧ Below w.heap.size w w2 := by
  by_cases hlen : L.length = M.length
  · have e0 : ((L.length : Int) != (M.length : Int)) = false := by simp [hlen]
    have HL := Lib.hid hlen
    have HR := Lib.hid hr
    clear hlen hr
    go_enter Try.func39, Try.ntmps39
    go_wp2_with fail
    go_loopw [5] (fun i wr => ∃ k : Nat, k ≤ L.length ∧ i = .int .i64 k ∧ Below w.heap.size w wr ∧ L.take k = M.take k) (fun i _ => L.length - (intOf i).toNat)
    case atStart => exact ⟨0, Nat.zero_le _, rfl, Below.refl _ _, rfl⟩
    case round =>
      obtain ⟨k, hk, rfl, hbl, heq⟩ := hrel
      have HE := Lib.hid heq
      clear heq
      by_cases hlt : k < L.length
      · have hlt2 : k < M.length := by have := HL.out; omega
        have hkm : (k : Int) < (M.length : Int) := by omega
        have hkl : (k : Int) < (L.length : Int) := by omega
        obtain ⟨x, hx⟩ : ∃ x, L[k]? = some x := ⟨_, List.getElem?_eq_getElem hlt⟩
        obtain ⟨y, hy⟩ : ∃ y, M[k]? = some y := ⟨_, List.getElem?_eq_getElem hlt2⟩
        have hxl := HR.out x (List.mem_of_getElem? hx)
        obtain ⟨b, off, A2, c2, hA, hbb, c1, hc2, hra⟩ := (ha.step hbl).row hx
        obtain ⟨b2, off2, B2, d2, hB, hbb2, d1, hd2, hrb⟩ := (hb.step hbl).row hy
        subst hA hB
        have HK := Lib.hid (And.intro hx (And.intro hy (And.intro hra hrb)))
        clear hx hy ha hb hra hrb
        have hx1 := ext_cell (w := wr) (B := wr.heap.size) hbb
        have hx2 := ext_cell (w := wr) (B := wr.heap.size) hbb2
        obtain ⟨t, ht⟩ : ∃ t, decide (x = y) = t := ⟨_, rfl⟩
        have HT := Lib.hid ht
        clear ht
        cases t
        · go_wp2_with fail
          refine wp_region_ext wr.heap.size (by kernel_rfl) (by kernel_rfl) ?_
          repeat (go_big_quiet_step ((go_at_call 34; exact calls_ext (Nat.le_refl _) (eqIS_to _ _ _ _ x y false _ (HK.out.2.2.1.step (Ext.below _)) (HK.out.2.2.2.step (Ext.below _)) (by omega) HT.out))))
          refine wpQuiet_nil ?_
          rintro _ ⟨x9, rfl⟩
          clear hx1 hx2 c1 d1
          go_wp2_with fail
          go_ret
          refine ⟨ret_bool ?_, hbl.trans (x9.below.mono hbl.size)⟩
          rw [eq_comm, decide_eq_false_iff_not]
          intro e
          have h1 := HK.out.1
          rw [e, HK.out.2.1] at h1
          injection h1 with h1
          exact (decide_eq_false_iff_not.1 HT.out) h1.symm
        · go_wp2_with fail
          refine wp_region_ext wr.heap.size (by kernel_rfl) (by kernel_rfl) ?_
          repeat (go_big_quiet_step ((go_at_call 34; exact calls_ext (Nat.le_refl _) (eqIS_to _ _ _ _ x y true _ (HK.out.2.2.1.step (Ext.below _)) (HK.out.2.2.2.step (Ext.below _)) (by omega) HT.out))))
          refine wpQuiet_nil ?_
          rintro _ ⟨x9, rfl⟩
          clear hx1 hx2 c1 d1
          go_wp2_with fail
          go_roundw
          case rel =>
            refine ⟨k + 1, by omega, by go_num, hbl.trans (x9.below.mono hbl.size), ?_⟩
            rw [List.take_add_one, List.take_add_one, HE.out, HK.out.1, HK.out.2.1, of_decide_eq_true HT.out]
          case measure => simp [intOf]; omega
      · have hkl : k = L.length := by omega
        have HK := Lib.hid hkl
        clear hkl
        go_wp2_with fail
        go_ret
        refine ⟨ret_bool ?_, hbl⟩
        have h := HE.out
        rw [HK.out, List.take_length, List.take_of_length_le (by have := HL.out; omega)] at h
        rw [h]
        simp
  · have e0 : ((L.length : Int) != (M.length : Int)) = true := by simp; omega
    have HL := Lib.hid hlen
    clear hlen
    go_enter Try.func39, Try.ntmps39
    go_wp2_with fail
    go_ret
    refine ⟨ret_bool ?_, Below.refl _ _⟩
    rw [eq_comm, decide_eq_false_iff_not]
    intro e
    exact HL.out (by rw [e])
end Go.Proofs.Ytnkdpogplkomhaa
