/- What the program's check of relations returns. -/
import Derived.Test.YtnkdpogplkomhaaP1
namespace Go.Proofs.Ytnkdpogplkomhaa
open Go.RowKit

/-- A relation in a block of its own is read in every later world. -/
theorem ext_box {w : World} {c : Ctx} {t : TypeId} (x : Ext (w.heap.size + 1) (w.alloc (.cells #[.int .i64 c.id, .int .i64 c.kind, .int .i64 c.area] t))) :
    x.val.cell? ⟨w.heap.size, 0, none⟩ = some (.int .i64 c.id) ∧ x.val.cell? ⟨w.heap.size, 1, none⟩ = some (.int .i64 c.kind) ∧ x.val.cell? ⟨w.heap.size, 2, none⟩ = some (.int .i64 c.area) := by
  refine ⟨?_, ?_, ?_⟩
  · exact (ext_cell (by omega) x 0).trans ((cell_of_row _ _ _ _ _ _ (heap_alloc_new _ _)).trans rfl)
  · exact (ext_cell (by omega) x 1).trans ((cell_of_row _ _ _ _ _ _ (heap_alloc_new _ _)).trans rfl)
  · exact (ext_cell (by omega) x 2).trans ((cell_of_row _ _ _ _ _ _ (heap_alloc_new _ _)).trans rfl)
theorem ext_old {w : World} {o : Obj} {b : Nat} (hb : b < w.heap.size) (x : Ext (w.heap.size + 1) (w.alloc o)) (j : Nat) : x.val.cell? ⟨b, j, none⟩ = w.cell? ⟨b, j, none⟩ :=
  (ext_cell (by omega) x j).trans (World.cell?_alloc_lt _ _ _ hb)
theorem ext_below {w : World} {o : Obj} (x : Ext (w.heap.size + 1) (w.alloc o)) : Below w.heap.size w x.val :=
  ((Below.refl _ _).alloc (Nat.le_refl _) _).trans (x.below.mono (by omega))
theorem cmpR_lt {a b : Ctx} (h : lessR a b = true) : decide (0 ≤ cmpR a b) = false := by
  rw [← cmpR_neg, decide_eq_true_eq] at h
  simp; omega
theorem cmpR_ge {a b : Ctx} (h : lessR a b = false) : decide (0 ≤ cmpR a b) = true := by
  rw [← cmpR_neg, decide_eq_false_iff_not] at h
  simp; omega

set_option maxHeartbeats 2000000 in
set_option maxRecDepth 100000 in
theorem iValidR_any (A : Option Addr) (cap : Nat) (l : List Ctx) (w : World) (hr : Reads w w.heap.size 3 A l.length (cellsC l)) (hl : l.length ≤ 1000000000000000) :
    Calls Try.prog 87 #[.slice A l.length cap] w fun e w2 => e = .returned (.bool (validR l)) ∧ Below w.heap.size w w2 := by
  by_cases hlen : l.length ≤ 30
  · have e30 : decide ((30 : Int) < (l.length : Int)) = false := by simp; omega
    go_enter Try.func87, Try.ntmps87
    go_wp2_with fail
    go_loopw [10] (fun i wr => ∃ k : Nat, k ≤ l.length ∧ i = .int .i64 k ∧ Below w.heap.size w wr ∧ ∀ j, j < k → goodO okR lessR l j = true) (fun i _ => l.length - (intOf i).toNat)
    case atStart => exact ⟨0, Nat.zero_le _, rfl, Below.refl _ _, fun j h => absurd h (by omega)⟩
    case round =>
      obtain ⟨k, hk, rfl, hb, hg⟩ := hrel
      have HG := Lib.hid hg; clear hg
      have hB : wr.heap.size + 1 ≤ (wr.alloc (.cells #[.int .i64 0] 0)).heap.size := by simp
      by_cases hlt : k < l.length
      · obtain ⟨b, off, hA, hbl, hc⟩ := (hr.step hb).ctx (by omega)
        subst hA
        have hk0 : l[k]? = some l[k] := List.getElem?_eq_getElem hlt
        have HK := Lib.hid hk0
        obtain ⟨c1, c2, c3⟩ := hc k _ hk0
        have hx := ext_old (o := .cells #[.int .i64 l[k].id, .int .i64 l[k].kind, .int .i64 l[k].area] 111) hbl
        have hy := ext_box (w := wr) (c := l[k]) (t := 111)
        have hy0 := fun x => (hy x).1
        have hy1 := fun x => (hy x).2.1
        have hy2 := fun x => (hy x).2.2
        have HB := Lib.hid hb
        clear hr hk0 hy hb
        have e01 : decide ((0 : Int) < (k : Int)) = decide (0 < k) := by simp
        by_cases h1 : okR l[k] = true
        · have h1' : okR ⟨l[k].id, l[k].kind, l[k].area⟩ = true := h1
          rcases Nat.eq_zero_or_pos k with h0 | hpos
          · clear hc
            have HO := Lib.hid h1
            have e0 : decide (0 < k) = false := by simp; omega
            have H0 := Lib.hid h0
            clear h0 h1 e01
            go_wp2_with fail
            refine wp_region_ext (wr.heap.size + 1) (by kernel_rfl) (by kernel_rfl) ?_
            repeat (go_big_quiet_step ((go_at_call 103; exact calls_ext (by simp) (iRel_any _ _ _ _))))
            refine wpQuiet_nil ?_
            rintro _ ⟨x, rfl⟩
            have hbx := below_step HB.out (ext_below x)
            clear hx hy0 hy1 hy2
            go_wp2_with fail
            go_roundw
            case rel =>
              refine ⟨k + 1, by omega, by go_num, hbx, fun j hj => ?_⟩
              by_cases hj2 : j < k
              · exact HG.out j hj2
              · obtain rfl : j = k := by omega
                exact goodO_first H0.out HK.out HO.out
            case measure => simp [intOf]; omega
          · have hk1 : l[k-1]? = some l[k-1] := List.getElem?_eq_getElem (by omega)
            have HK1 := Lib.hid hk1
            obtain ⟨d1, d2, d3⟩ := hc (k-1) _ hk1
            clear hc hk1
            have HO := Lib.hid h1
            have e0 : decide (0 < k) = true := by simp; omega
            have e1 : ((k : Int) - 1).toNat = k - 1 := by omega
            clear h1 e01
            cases h2 : lessR l[k-1] l[k]
            · have e2 := cmpR_ge h2
              have H2 := Lib.hid h2
              clear h2
              go_wp2_with fail
              refine wp_region_ext (wr.heap.size + 1) (by kernel_rfl) (by kernel_rfl) ?_
              repeat (go_big_quiet_step ((first
                | (go_at_call 103; exact calls_ext (by simp) (iRel_any _ _ _ _))
                | (go_at_call 104; exact calls_ext (by simp) (cmpR_any l[k-1] l[k] _)))))
              refine wpQuiet_nil ?_
              rintro _ ⟨x, rfl⟩
              have hbx := below_step HB.out (ext_below x)
              clear hx hy0 hy1 hy2
              go_wp2_with fail
              go_ret
              exact ⟨ret_bool (validO_no hlt (goodO_less hpos HK.out HK1.out H2.out)).symm, hbx⟩
            · have e2 := cmpR_lt h2
              have H2 := Lib.hid h2
              clear h2
              go_wp2_with fail
              refine wp_region_ext (wr.heap.size + 1) (by kernel_rfl) (by kernel_rfl) ?_
              repeat (go_big_quiet_step ((first
                | (go_at_call 103; exact calls_ext (by simp) (iRel_any _ _ _ _))
                | (go_at_call 104; exact calls_ext (by simp) (cmpR_any l[k-1] l[k] _)))))
              refine wpQuiet_nil ?_
              rintro _ ⟨x, rfl⟩
              have hbx := below_step HB.out (ext_below x)
              clear hx hy0 hy1 hy2
              go_wp2_with fail
              go_roundw
              case rel =>
                refine ⟨k + 1, by omega, by go_num, hbx, fun j hj => ?_⟩
                by_cases hj2 : j < k
                · exact HG.out j hj2
                · obtain rfl : j = k := by omega
                  exact goodO_next HK.out HK1.out HO.out H2.out
              case measure => simp [intOf]; omega
        · simp only [Bool.not_eq_true] at h1
          have h1' : okR ⟨l[k].id, l[k].kind, l[k].area⟩ = false := h1
          have HO := Lib.hid h1
          clear hc h1 e01
          go_wp2_with fail
          refine wp_region_ext (wr.heap.size + 1) (by kernel_rfl) (by kernel_rfl) ?_
          repeat (go_big_quiet_step ((go_at_call 103; exact calls_ext (by simp) (iRel_any _ _ _ _))))
          refine wpQuiet_nil ?_
          rintro _ ⟨x, rfl⟩
          have hbx := below_step HB.out (ext_below x)
          clear hx hy0 hy1 hy2
          go_wp2_with fail
          go_ret
          exact ⟨ret_bool (validO_no hlt (goodO_bad HK.out HO.out)).symm, hbx⟩
      · have hkl : k = l.length := by omega
        go_wp2_with fail
        go_ret
        refine ⟨ret_bool ?_, hb⟩
        show _ = validR l
        unfold validR
        rw [validO_of (fun j hj => HG.out j (by omega)), eq_comm, decide_eq_true_eq]
        exact hlen
  · have e30 : decide ((30 : Int) < (l.length : Int)) = true := by simp; omega
    go_enter Try.func87, Try.ntmps87
    go_wp2_with fail
    go_ret
    exact ⟨ret_bool (validO_long (by omega)).symm, Below.refl _ _⟩

theorem iRelsValid_any (A : Option Addr) (cap : Nat) (l : List Ctx) (w : World) (hr : Reads w w.heap.size 3 A l.length (cellsC l)) (hl : l.length ≤ 1000000000000000) :
    Calls Try.prog 57 #[.slice A l.length cap] w fun e w2 => e = .returned (.bool (validR l)) ∧ Below w.heap.size w w2 := by
  go_enter Try.func57, Try.ntmps57
  go_wp2_with fail
  refine (iValidR_any A cap l w hr hl).mono ?_
  rintro e w2 ⟨rfl, hb⟩
  go_wp2_with fail
  go_ret
  exact ⟨rfl, hb⟩
end Go.Proofs.Ytnkdpogplkomhaa
