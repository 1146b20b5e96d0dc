/- A linked list of contexts in memory: made of a slice, searched, listed; what the program's search returns. -/
import Derived.Test.YtfcjhpgohcbcaaaB
import Derived.Deep.LoopGhost
namespace Go.Proofs.Ytfcjhpgohcbcaaa
open Go.RowKit

def nodeCells (c : Ctx) (p : Option Addr) : Array Value := #[.int .i64 c.id, .int .i64 c.kind, .int .i64 c.area, .pointer p]
/-- From the pointer p on lie the contexts l, in blocks of which S holds. -/
def LkAt (w : World) (S : Nat → Prop) : Option Addr → List Ctx → Prop
  | p, [] => p = none
  | p, c :: r => ∃ g p2, p = some ⟨g, 0, none⟩ ∧ S g ∧ w.heap[g]? = some (.cells (nodeCells c p2) 63 (0, 0)) ∧ LkAt w S p2 r
/-- .. and each node lies below the one ahead of it, all from lo on and below hi. -/
def LkDn (w : World) (lo : Nat) : Nat → Option Addr → List Ctx → Prop
  | _, p, [] => p = none
  | hi, p, c :: r => ∃ g p2, p = some ⟨g, 0, none⟩ ∧ lo ≤ g ∧ g < hi ∧ w.heap[g]? = some (.cells (nodeCells c p2) 63 (0, 0)) ∧ LkDn w lo g p2 r

theorem LkAt.keep {w w2 : World} {S : Nat → Prop} (hk : ∀ g, S g → w2.heap[g]? = w.heap[g]?) : ∀ {p : Option Addr} {l : List Ctx}, LkAt w S p l → LkAt w2 S p l
  | _, [], h => h
  | _, _ :: _, ⟨g, p2, h1, h2, h3, h4⟩ => ⟨g, p2, h1, h2, (hk g h2).trans h3, LkAt.keep hk h4⟩
theorem LkAt.weaken {w : World} {S S2 : Nat → Prop} (hk : ∀ g, S g → S2 g) : ∀ {p : Option Addr} {l : List Ctx}, LkAt w S p l → LkAt w S2 p l
  | _, [], h => h
  | _, _ :: _, ⟨g, p2, h1, h2, h3, h4⟩ => ⟨g, p2, h1, hk g h2, h3, LkAt.weaken hk h4⟩
theorem LkDn.keep {w w2 : World} {lo : Nat} : ∀ {hi : Nat} {p : Option Addr} {l : List Ctx}, (∀ g, g < hi → w2.heap[g]? = w.heap[g]?) → LkDn w lo hi p l → LkDn w2 lo hi p l
  | _, _, [], _, h => h
  | _, _, _ :: _, hk, ⟨g, p2, h1, h2, h3, h4, h5⟩ => ⟨g, p2, h1, h2, h3, (hk g h3).trans h4, LkDn.keep (fun k hk2 => hk k (by omega)) h5⟩
theorem LkDn.more {w : World} {lo : Nat} : ∀ {hi hi2 : Nat} {p : Option Addr} {l : List Ctx}, hi ≤ hi2 → LkDn w lo hi p l → LkDn w lo hi2 p l
  | _, _, _, [], _, h => h
  | _, _, _, _ :: _, _, ⟨g, p2, h1, h2, h3, h4, h5⟩ => ⟨g, p2, h1, h2, by omega, h4, h5⟩
theorem LkDn.at_ {w : World} {lo : Nat} : ∀ {hi : Nat} {p : Option Addr} {l : List Ctx}, LkDn w lo hi p l → LkAt w (fun g => lo ≤ g ∧ g < hi) p l
  | _, _, [], h => h
  | _, _, _ :: _, ⟨g, p2, h1, h2, h3, h4, h5⟩ => ⟨g, p2, h1, ⟨h2, h3⟩, h4, (LkDn.at_ h5).weaken fun k hk => ⟨hk.1, by omega⟩⟩
theorem LkAt.node {w : World} {S : Nat → Prop} {p : Option Addr} {c : Ctx} {r : List Ctx} (h : LkAt w S p (c :: r)) : ∃ g p2, p = some ⟨g, 0, none⟩ ∧ S g ∧
    w.cell? ⟨g, 0, none⟩ = some (.int .i64 c.id) ∧ w.cell? ⟨g, 1, none⟩ = some (.int .i64 c.kind) ∧ w.cell? ⟨g, 2, none⟩ = some (.int .i64 c.area) ∧ w.cell? ⟨g, 3, none⟩ = some (.pointer p2) ∧ LkAt w S p2 r := by
  obtain ⟨g, p2, h1, h2, h3, h4⟩ := h
  exact ⟨g, p2, h1, h2, cell_of_row _ _ 0 _ _ _ h3, cell_of_row _ _ 1 _ _ _ h3, cell_of_row _ _ 2 _ _ _ h3, cell_of_row _ _ 3 _ _ _ h3, h4⟩
theorem LkDn.cons_ {w w2 : World} {lo : Nat} {c : Ctx} {p : Option Addr} {l : List Ctx} (hlo : lo ≤ w.heap.size) (hw : w2 = w.alloc (.cells (nodeCells c p) 63)) (h : LkDn w lo w.heap.size p l) : LkDn w2 lo w2.heap.size (some ⟨w.heap.size, 0, none⟩) (c :: l) := by
  subst hw
  refine ⟨_, p, rfl, hlo, by simp, heap_alloc_new _ _, h.keep fun g hg => Below.heap_alloc _ _ _ hg⟩

set_option maxHeartbeats 400000 in
theorem link_any (A : Option Addr) (cap : Nat) (l : List Ctx) (w : World) (hr : Reads w w.heap.size 3 A l.length (cellsC l)) (hl : l.length ≤ 1000000000000000) :
    Calls Try.prog 42 #[.slice A l.length cap] w fun e w2 => ∃ p, e = .returned (.pointer p) ∧ Below w.heap.size w w2 ∧ LkDn w2 w.heap.size w2.heap.size p l := by
  go_enter Try.func42, Try.ntmps42
  go_wp2_with fail
  go_loopw [3, 4] (fun v i wr => ∃ (k : Nat) (p : Option Addr), k ≤ l.length ∧ i = .int .i64 ((k : Int) - 1) ∧ v = .pointer p ∧ Below w.heap.size w wr ∧ LkDn wr w.heap.size wr.heap.size p (l.drop k)) (fun _ i _ => (intOf i + 1).toNat)
  case atStart => exact ⟨l.length, none, Nat.le_refl _, rfl, rfl, Below.refl _ _, by simp [LkDn]⟩
  case round =>
    obtain ⟨k, p, hk, rfl, rfl, hb, hg⟩ := hrel
    have HG := Lib.hid hg; clear hg
    rcases Nat.eq_zero_or_pos k with h0 | hpos
    · have e0 : (k : Int) < 1 := by omega
      have H0 := Lib.hid h0; clear h0
      go_wp2_with fail
      go_ret
      exact ⟨p, rfl, hb, by have := HG.out; rw [H0.out] at this; exact this⟩
    · have e0 : decide ((0 : Int) ≤ (k : Int) - 1) = true := by simp; omega
      have e1 : ((k : Int) - 1).toNat = k - 1 := by omega
      obtain ⟨b, off, rfl, hbl, hc⟩ := (hr.below hb).ctx (by omega)
      have hk1 : l[k-1]? = some l[k-1] := List.getElem?_eq_getElem (by omega)
      obtain ⟨c1, c2, c3⟩ := hc (k-1) _ hk1
      have HD : Hid (l.drop (k-1) = l[k-1] :: l.drop k) := by
        have := List.drop_eq_getElem_cons (l := l) (i := k-1) (by omega)
        rw [show k - 1 + 1 = k from by omega] at this
        exact this
      clear hc hk1 hr
      go_wp2_with fail
      go_roundw
      case rel =>
        refine ⟨k-1, _, by omega, ?_, rfl, hb.alloc hb.size _, ?_⟩
        · rw [show ((k - 1 : Nat) : Int) = (k : Int) - 1 from by omega]
        · rw [HD.out]
          exact LkDn.cons_ hb.size rfl HG.out
      case measure => simp [intOf]; omega

set_option maxHeartbeats 400000 in
theorem place_any (S : Nat → Prop) (p : Option Addr) (l : List Ctx) (id : Int) (w : World) (hr : LkAt w S p l) (hl : l.length ≤ 1000000000000000) :
    Calls Try.prog 43 #[.pointer p, .int .i64 id] w fun e w2 => e = .returned (.int .i64 (findC l id)) ∧ w = w2 := by
  go_enter Try.func43, Try.ntmps43
  go_wp2_with fail
  go_loop [5, 6] (fun i v => ∃ (k : Nat) (q : Option Addr), k ≤ l.length ∧ i = .int .i64 k ∧ v = .pointer q ∧ LkAt w S q (l.drop k) ∧ ∀ (j : Nat) (c : Ctx), j < k → l[j]? = some c → c.id ≠ id) (fun i _ => l.length - (intOf i).toNat)
  case atStart => exact ⟨0, p, Nat.zero_le _, rfl, rfl, by simpa using hr, fun j c h => absurd h (by omega)⟩
  case round =>
    obtain ⟨k, q, hk, rfl, rfl, hq, hg⟩ := hrel
    have HG := Lib.hid hg; clear hg hr
    by_cases hlt : k < l.length
    · rw [List.drop_eq_getElem_cons hlt] at hq
      obtain ⟨g, q2, rfl, _, c1, _, _, c4, hq2⟩ := hq.node
      have HK := Lib.hid (List.getElem?_eq_getElem hlt)
      have HQ := Lib.hid hq2
      clear hq hq2
      by_cases h1 : l[k].id = id
      · have e1 : (l[k].id == id) = true := by simp [h1]
        have H1 := Lib.hid h1; clear h1
        go_wp2_with fail
        go_ret
        exact ⟨ret_int (findC_at id l k _ HG.out HK.out H1.out).symm, rfl⟩
      · have e1 : (l[k].id == id) = false := by simp [h1]
        have H1 := Lib.hid h1; clear h1
        go_wp2_with fail
        go_round
        case rel =>
          refine ⟨k + 1, _, by omega, by go_num, rfl, HQ.out, fun j c hj hc => ?_⟩
          by_cases hj2 : j < k
          · exact HG.out j c hj2 hc
          · obtain rfl : j = k := by omega
            rw [HK.out] at hc
            injection hc with hc
            exact hc ▸ H1.out
        case measure => simp [intOf]; omega
    · rw [List.drop_eq_nil_of_le (by omega)] at hq
      obtain rfl : q = none := hq
      go_wp2_with fail
      go_ret
      exact ⟨ret_int (findC_none id l fun j c hc => HG.out j c (by have := (List.getElem?_eq_some_iff.1 hc).1; omega) hc).symm, rfl⟩

theorem iFind_any (A : Option Addr) (cap : Nat) (l : List Ctx) (id : Int) (w : World) (hr : Reads w w.heap.size 3 A l.length (cellsC l)) (hl : l.length ≤ 1000000000000000) :
    Calls Try.prog 18 #[.slice A l.length cap, .int .i64 id] w fun e w2 => e = .returned (.int .i64 (findL l id)) ∧ Below w.heap.size w w2 := by
  by_cases hv : validL l = true
  · have HV := Lib.hid hv
    go_enter Try.func18, Try.ntmps18
    go_wp2_with (first
      | (go_at_call 19; refine (iValid_any _ _ l _ hr hl).mono ?_; rintro e w2 ⟨rfl, hb2⟩)
      | (go_at_call 42; refine (link_any _ _ l _ (hr.step hb2) hl).mono ?_; rintro e w3 ⟨p, rfl, hb3, hlk⟩)
      | (go_at_call 43; refine (place_any _ p l _ _ hlk.at_ hl).mono ?_; rintro e w4 ⟨rfl, rfl⟩))
    go_ret
    exact ⟨ret_int (by simp [findL, HV.out]), below_step hb2 hb3⟩
  · simp only [Bool.not_eq_true] at hv
    have HV := Lib.hid hv
    go_enter Try.func18, Try.ntmps18
    go_wp2_with (first
      | (go_at_call 19; refine (iValid_any _ _ l _ hr hl).mono ?_; rintro e w2 ⟨rfl, hb2⟩))
    go_ret
    exact ⟨ret_int (by simp [findL, HV.out]), hb2⟩
end Go.Proofs.Ytfcjhpgohcbcaaa
