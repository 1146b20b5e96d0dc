/- Texts that lie together in one: Gi, Gt, Gu, Gv. -/
import Derived.Test.YtnkdpogplkomhaaP2
import Derived.Test.YtnkdpogplkomhaaPe
import Derived.Test.YtnkdpogplkomhaaTriRel
import Derived.Test.YtnkdpogplkomhaaIl
import Derived.StillTailTactics
import Derived.Deep.RegionLaw
/- What the program's checks of contexts and of their relations return. -/
namespace Go.Proofs.Ytnkdpogplkomhaa
open Go.RowKit

theorem indexI_any (A : Option Addr) (cap : Nat) (l : List Int) (n : Int) (w : World) (hr : Reads w w.heap.size 1 A l.length (cellsI l)) (hl : l.length ≤ 1000000000000) :
    Calls Try.prog 62 #[.slice A l.length cap, .int .i64 n] w fun e w2 => e = .returned (.int .i64 (findI l n)) ∧ w = w2 := by
  go_enter Try.func62, Try.ntmps62
  go_wp2_with fail
  go_loop [8] (fun i => ∃ k : Nat, k ≤ l.length ∧ i = .int .i64 k ∧ ∀ (j : Nat) (c : Int), j < k → l[j]? = some c → c ≠ n) (fun i => l.length - (intOf i).toNat)
  case atStart => exact ⟨0, Nat.zero_le _, rfl, fun j c h => absurd h (by omega)⟩
  case round =>
    obtain ⟨k, hk, rfl, hg⟩ := hrel
    have HG := Lib.hid hg; clear hg
    by_cases hlt : k < l.length
    · obtain ⟨b, off, hA, hbl, hc⟩ := hr.ints (by omega)
      subst hA
      have hk0 : l[k]? = some l[k] := List.getElem?_eq_getElem hlt
      have c1 := hc k _ hk0
      have HK := Lib.hid hk0
      clear hc hk0 hr
      by_cases h0 : l[k] = n
      · have e0 : (n == l[k]) = true := by simp [h0]
        have H0 := Lib.hid h0
        clear h0
        go_wp2_with fail
        go_ret
        exact ⟨ret_int (findI_at l n k HG.out (H0.out ▸ HK.out)).symm, rfl⟩
      · have e0 : (n == l[k]) = false := by simp; exact fun e => h0 e.symm
        have H0 := Lib.hid h0
        clear h0
        go_wp2_with fail
        go_round
        case rel =>
          refine ⟨k + 1, by omega, by go_num, fun j c hj hc => ?_⟩
          by_cases hj2 : j < k
          · exact HG.out j c hj2 hc
          · obtain rfl : j = k := by omega
            rw [HK.out] at hc
            injection hc with hc
            exact hc ▸ H0.out
        case measure => simp [intOf]; omega
    · go_wp2_with fail
      go_ret
      exact ⟨ret_int (findI_none l n fun j c hc => HG.out j c (by have := (List.getElem?_eq_some_iff.1 hc).1; omega) hc).symm, rfl⟩

theorem containsI_any (A : Option Addr) (cap : Nat) (l : List Int) (n : Int) (w : World) (hr : Reads w w.heap.size 1 A l.length (cellsI l)) (hl : l.length ≤ 1000000000000) :
    Calls Try.prog 76 #[.slice A l.length cap, .int .i64 n] w fun e w2 => e = .returned (.bool (decide (n ∈ l))) ∧ w = w2 := by
  go_enter Try.func76, Try.ntmps76
  go_wp2_with fail
  refine (indexI_any A cap l n w hr hl).mono ?_
  rintro e w2 ⟨rfl, rfl⟩
  go_wp2_with fail
  go_ret
  exact ⟨ret_bool (findI_mem l n), rfl⟩

theorem goodI_next {l : List Int} {k : Nat} {c d : Int} (hk : l[k]? = some c) (h : inR c 1 99 = true) (hd : (k = 0 ∧ d = 0) ∨ (0 < k ∧ l[k-1]? = some d)) (hlt : d < c) : goodO okI lessI l k = true := by
  rcases hd with ⟨h0, _⟩ | ⟨_, hd⟩
  · exact goodO_first h0 hk h
  · exact goodO_next hk hd h (by simp [lessI, hlt])
theorem goodI_less {l : List Int} {k : Nat} {c d : Int} (hk : l[k]? = some c) (hd : (k = 0 ∧ d = 0) ∨ (0 < k ∧ l[k-1]? = some d)) (hle : c ≤ d) : goodO okI lessI l k = false := by
  rcases hd with ⟨h0, hd⟩ | ⟨hp, hd⟩
  · refine goodO_bad hk ?_
    simp [okI, inR]; omega
  · exact goodO_less hp hk hd (by simp [lessI]; omega)
set_option maxHeartbeats 800000 in
set_option maxRecDepth 100000 in
theorem iIds_any (A : Option Addr) (cap : Nat) (l : List Int) (w : World) (hr : Reads w w.heap.size 1 A l.length (cellsI l)) (hl : l.length ≤ 1000000000000) :
    Calls Try.prog 56 #[.slice A l.length cap] w fun e w2 => e = .returned (.bool (validI l)) ∧ w = w2 := by
  by_cases hlen : l.length ≤ 12
  · have e12 : decide ((12 : Int) < (l.length : Int)) = false := by simp; omega
    go_enter Try.func56, Try.ntmps56
    go_wp2_with fail
    go_loop [3, 11] (fun d i => ∃ (k : Nat) (x : Int), k ≤ l.length ∧ i = .int .i64 k ∧ d = .int .i64 x ∧ ((k = 0 ∧ x = 0) ∨ (0 < k ∧ l[k-1]? = some x)) ∧ ∀ j, j < k → goodO okI lessI l j = true) (fun _ i => l.length - (intOf i).toNat)
    case atStart => exact ⟨0, 0, Nat.zero_le _, rfl, rfl, .inl ⟨rfl, rfl⟩, fun j h => absurd h (by omega)⟩
    case round =>
      obtain ⟨k, x, hk, rfl, rfl, hd, hg⟩ := hrel
      have HG := Lib.hid hg; clear hg
      have HD := Lib.hid hd; clear hd
      by_cases hlt : k < l.length
      · obtain ⟨b, off, hA, hbl, hc⟩ := hr.ints (by omega)
        subst hA
        have hk0 : l[k]? = some l[k] := List.getElem?_eq_getElem hlt
        have c1 := hc k _ hk0
        have HK := Lib.hid hk0
        clear hc hk0 hr
        cases h1 : inR l[k] 1 99
        · have H1 := Lib.hid h1
          clear h1
          have h1 := H1.out
          go_wp2_with (go_at_call 45; refine (iIn_any _ _ _ _).mono ?_; rintro e w2 ⟨rfl, rfl⟩)
          go_ret
          exact ⟨ret_bool (validO_no hlt (goodO_bad HK.out H1.out)).symm, rfl⟩
        · by_cases h2 : l[k] ≤ x
          · have e2 : decide (l[k] ≤ x) = true := by simp [h2]
            have H2 := Lib.hid h2
            clear h2
            go_wp2_with (go_at_call 45; refine (iIn_any _ _ _ _).mono ?_; rintro e w2 ⟨rfl, rfl⟩)
            go_ret
            exact ⟨ret_bool (validO_no hlt (goodI_less HK.out HD.out H2.out)).symm, rfl⟩
          · have e2 : decide (l[k] ≤ x) = false := by simp; omega
            have H1 := Lib.hid h1
            have H2 := Lib.hid (Int.not_le.1 h2)
            clear h2
            go_wp2_with (go_at_call 45; refine (iIn_any _ _ _ _).mono ?_; rintro e w2 ⟨rfl, rfl⟩)
            go_round
            case rel =>
              refine ⟨k + 1, l[k], by omega, by go_num, rfl, .inr ⟨by omega, by rw [Nat.add_sub_cancel]; exact HK.out⟩, fun j hj => ?_⟩
              by_cases hj2 : j < k
              · exact HG.out j hj2
              · obtain rfl : j = k := by omega
                exact goodI_next HK.out H1.out HD.out H2.out
            case measure => simp [intOf]; omega
      · go_wp2_with fail
        go_ret
        refine ⟨ret_bool ?_, rfl⟩
        show _ = validI l
        unfold validI
        rw [validO_of (fun j hj => HG.out j (by omega)), eq_comm, decide_eq_true_eq]
        exact hlen
  · have e12 : decide ((12 : Int) < (l.length : Int)) = true := by simp; omega
    go_enter Try.func56, Try.ntmps56
    go_wp2_with fail
    go_ret
    exact ⟨ret_bool (validO_long (by omega)).symm, rfl⟩

theorem amongR_no {ids : List Int} {l : List Ctx} {k : Nat} (hk : k < l.length) (h : l[k].id ∉ ids ∨ l[k].kind ∉ ids) : amongR ids l = false := by
  unfold amongR
  rw [List.all_eq_false]
  refine ⟨l[k], List.getElem_mem hk, ?_⟩
  rcases h with h | h <;> simp [h]
theorem amongR_of {ids : List Int} {l : List Ctx} (h : ∀ j (hj : j < l.length), l[j].id ∈ ids ∧ l[j].kind ∈ ids) : amongR ids l = true := by
  unfold amongR
  rw [List.all_eq_true]
  intro r hr
  obtain ⟨j, hj, rfl⟩ := List.mem_iff_getElem.1 hr
  simp [h j hj]
set_option maxHeartbeats 800000 in
set_option maxRecDepth 100000 in
theorem iAmong_any (A B : Option Addr) (ca cb : Nat) (ids : List Int) (l : List Ctx) (w : World) (ha : Reads w w.heap.size 1 A ids.length (cellsI ids)) (hb : Reads w w.heap.size 3 B l.length (cellsC l)) (hn : ids.length ≤ 1000000000000) (hl : l.length ≤ 1000000000000) :
    Calls Try.prog 58 #[.slice A ids.length ca, .slice B l.length cb] w fun e w2 => e = .returned (.bool (amongR ids l)) ∧ Below w.heap.size w w2 := by
  go_enter Try.func58, Try.ntmps58
  go_wp2_with fail
  go_loopw [9] (fun i wr => ∃ k : Nat, k ≤ l.length ∧ i = .int .i64 k ∧ Below w.heap.size w wr ∧ ∀ j (hj : j < l.length), j < k → l[j].id ∈ ids ∧ l[j].kind ∈ ids) (fun i _ => l.length - (intOf i).toNat)
  case atStart => exact ⟨0, Nat.zero_le _, rfl, Below.refl _ _, fun j _ h => absurd h (by omega)⟩
  case round =>
    obtain ⟨k, hk, rfl, hbl, hg⟩ := hrel
    have HG := Lib.hid hg; clear hg
    by_cases hlt : k < l.length
    · obtain ⟨b, off, hB, hbb, hc⟩ := (hb.below hbl).ctx (by omega)
      subst hB
      have hk0 : l[k]? = some l[k] := List.getElem?_eq_getElem hlt
      obtain ⟨c1, c2, c3⟩ := hc k _ hk0
      have ha2 : ∀ t, Reads (wr.alloc (.cells #[.int .i64 l[k].id, .int .i64 l[k].kind, .int .i64 l[k].area] t)) (wr.alloc (.cells #[.int .i64 l[k].id, .int .i64 l[k].kind, .int .i64 l[k].area] t)).heap.size 1 A ids.length (cellsI ids) := fun t => ha.step (hbl.alloc hbl.size _)
      clear hc hk0 ha
      have HB := Lib.hid hbl
      clear hbl
      by_cases h1 : l[k].id ∈ ids
      · have e1 : decide (l[k].id ∈ ids) = true := by simp [h1]
        by_cases h2 : l[k].kind ∈ ids
        · have e2 : decide (l[k].kind ∈ ids) = true := by simp [h2]
          have H12 := Lib.hid (And.intro h1 h2)
          clear h1 h2
          go_wp2_with (go_at_call 76; go_must (refine (containsI_any A ca ids _ _ (ha2 _) hn).mono ?_); rintro e w2 ⟨rfl, rfl⟩)
          go_roundw
          case rel =>
            refine ⟨k + 1, by omega, by go_num, HB.out.alloc HB.out.size _, fun j hj hjk => ?_⟩
            by_cases hj2 : j < k
            · exact HG.out j hj hj2
            · obtain rfl : j = k := by omega
              exact H12.out
          case measure => simp [intOf]; omega
        · have e2 : decide (l[k].kind ∈ ids) = false := by simp [h2]
          have H2 := Lib.hid h2
          clear h1 h2
          go_wp2_with (go_at_call 76; go_must (refine (containsI_any A ca ids _ _ (ha2 _) hn).mono ?_); rintro e w2 ⟨rfl, rfl⟩)
          go_ret
          exact ⟨ret_bool (amongR_no hlt (.inr H2.out)).symm, HB.out.alloc HB.out.size _⟩
      · have e1 : decide (l[k].id ∈ ids) = false := by simp [h1]
        have H1 := Lib.hid h1
        clear h1
        go_wp2_with (go_at_call 76; go_must (refine (containsI_any A ca ids _ _ (ha2 _) hn).mono ?_); rintro e w2 ⟨rfl, rfl⟩)
        go_ret
        exact ⟨ret_bool (amongR_no hlt (.inl H1.out)).symm, HB.out.alloc HB.out.size _⟩
    · go_wp2_with fail
      go_ret
      exact ⟨ret_bool (amongR_of fun j hj => HG.out j hj (by omega)).symm, hbl⟩
end Go.Proofs.Ytnkdpogplkomhaa

/- Trees of nodes in memory: what the program's search of a root and its joining of two trees do. -/
namespace Go.Proofs.Ytnkdpogplkomhaa
open Go.RowKit
set_option linter.unusedVariables false

/-- The blocks below lo, and those from hi on that were there, are as they were. -/
structure Mid (lo hi : Nat) (w w2 : World) : Prop where
  os : w2.os = w.os
  tape : w2.tape = w.tape
  output : w2.output = w.output
  size : w.heap.size ≤ w2.heap.size
  block : ∀ k, (k < lo ∨ (hi ≤ k ∧ k < w.heap.size)) → w2.heap[k]? = w.heap[k]?
theorem Mid.of_below {lo hi : Nat} {w w2 : World} (h : Below w.heap.size w w2) (hlo : lo ≤ w.heap.size) : Mid lo hi w w2 := ⟨h.os, h.tape, h.output, h.size, fun k hk => h.block k (by omega)⟩
theorem Mid.refl (lo hi : Nat) (w : World) : Mid lo hi w w := ⟨rfl, rfl, rfl, Nat.le_refl _, fun _ _ => rfl⟩
theorem Mid.trans {lo hi : Nat} {w w2 w3 : World} (h : Mid lo hi w w2) (k : Mid lo hi w2 w3) : Mid lo hi w w3 :=
  ⟨k.os.trans h.os, k.tape.trans h.tape, k.output.trans h.output, Nat.le_trans h.size k.size, fun j hj => (k.block j (by have := h.size; omega)).trans (h.block j hj)⟩
theorem Mid.below {lo hi : Nat} {w0 w w2 : World} (h : Below w0.heap.size w0 w) (hlo : w0.heap.size ≤ lo) (hm : Mid lo hi w w2) : Below w0.heap.size w0 w2 :=
  h.trans ⟨hm.os, hm.tape, hm.output, hm.size, fun k hk => hm.block k (.inl (by omega))⟩
theorem Mid.draws {lo hi : Nat} {w w2 : World} (h : Mid lo hi w w2) (n : Nat) : Mid lo hi w (w2.drewN n) := ⟨h.os, h.tape, h.output, h.size, h.block⟩

def ptrF (b0 : Nat) : Option Nat → Option Addr
  | none => none
  | some j => some ⟨b0 + j, 0, none⟩
/-- The blocks from b0 on hold a node for each context. -/
def Forest (w : World) (b0 : Nat) (ids : List Int) (par : Nat → Option Nat) : Prop :=
  OkP par ∧ ∀ (i : Nat) (x : Int), ids[i]? = some x → w.heap[b0 + i]? = some (.cells #[.int .i64 x, .pointer (ptrF b0 (par i))] 98 (0, 0))
theorem Forest.keep {w w2 : World} {b0 : Nat} {ids : List Int} {par : Nat → Option Nat} (h : Forest w b0 ids par) (hk : ∀ k, b0 ≤ k → k < b0 + ids.length → w2.heap[k]? = w.heap[k]?) : Forest w2 b0 ids par :=
  ⟨h.1, fun i x hx => (hk _ (by omega) (by have := (List.getElem?_eq_some_iff.1 hx).1; omega)).trans (h.2 i x hx)⟩
theorem Forest.cells {w : World} {b0 : Nat} {ids : List Int} {par : Nat → Option Nat} (h : Forest w b0 ids par) {i : Nat} {x : Int} (hx : ids[i]? = some x) :
    w.cell? ⟨b0 + i, 0, none⟩ = some (.int .i64 x) ∧ w.cell? ⟨b0 + i, 1, none⟩ = some (.pointer (ptrF b0 (par i))) ∧ w.frozen? ⟨b0 + i, 1, none⟩ = false ∧ b0 + i < w.heap.size :=
  ⟨cell_of_row _ _ 0 _ _ _ (h.2 i x hx), cell_of_row _ _ 1 _ _ _ (h.2 i x hx), frozen_of_row _ _ 1 _ _ (h.2 i x hx), (Array.getElem?_eq_some_iff.1 (h.2 i x hx)).1⟩
/-- A node is hung below another one. -/
theorem Forest.hang {w w2 : World} {b0 : Nat} {ids : List Int} {par : Nat → Option Nat} (h : Forest w b0 ids par) {i r : Nat} (hr : r < i) (hi : i < ids.length) (hw : w2 = w.setCell ⟨b0 + i, 1, none⟩ (.pointer (some ⟨b0 + r, 0, none⟩))) :
    Forest w2 b0 ids (updP par i r) ∧ Mid b0 (b0 + ids.length) w w2 := by
  subst hw
  refine ⟨⟨okP_upd h.1 hr, fun k x hx => ?_⟩, ⟨rfl, rfl, rfl, by simp [World.setCell], fun k hk => ?_⟩⟩
  · by_cases hk : k = i
    · subst hk
      rw [heap_setCell_same _ _ _ _ _ _ (h.2 k x hx)]
      simp [updP, ptrF]
    · rw [heap_setCell_other _ _ _ _ (show b0 + k ≠ b0 + i by omega), h.2 k x hx]
      simp [updP, hk]
  · exact heap_setCell_other _ _ _ _ (show k ≠ b0 + i by omega)
def RootPost (w : World) (b0 : Nat) (ids : List Int) (par : Nat → Option Nat) (i : Nat) (e : Ending) (w2 : World) : Prop :=
  e = .returned (.pointer (some ⟨b0 + rootF par i, 0, none⟩)) ∧ (∃ par2, Forest w2 b0 ids par2 ∧ ∀ k, rootF par2 k = rootF par k) ∧ Mid b0 (b0 + ids.length) w w2
set_option maxHeartbeats 800000 in
set_option maxRecDepth 100000 in
theorem root_any (b0 : Nat) (ids : List Int) (hn : ids.length ≤ 1000000000000) : ∀ (i : Nat) (par : Nat → Option Nat) (w : World), i < ids.length → Forest w b0 ids par →
    Calls Try.prog 60 #[.pointer (some ⟨b0 + i, 0, none⟩)] w (RootPost w b0 ids par i) := by
  intro i
  induction i using Nat.strongRecOn with
  | ind i ih =>
    intro par w hi hf
    have IH := Lib.hid ih; clear ih
    have HF := Lib.hid hf
    have hx := List.getElem?_eq_getElem hi
    obtain ⟨c0, c1, f1, hlt⟩ := hf.cells hx
    clear hf hx
    cases hp : par i with
    | none =>
      rw [hp] at c1
      have HP := Lib.hid hp; clear hp
      simp only [ptrF] at c1
      go_enter Try.func60, Try.ntmps60
      go_wp2_with fail
      go_ret
      exact ⟨by rw [rootF_none HP.out]; rfl, ⟨par, HF.out, fun k => rfl⟩, Mid.refl _ _ _⟩
    | some j =>
      rw [hp] at c1
      have hj : j < i := HF.out.1 i j hp
      have HP := Lib.hid hp; clear hp
      simp only [ptrF] at c1
      go_enter Try.func60, Try.ntmps60
      go_wp2_with fail
      refine (IH.out j hj par w (by omega) HF.out).mono ?_
      rintro e w2 ⟨rfl, ⟨par2, hf2, hr2⟩, hm2⟩
      have hx := List.getElem?_eq_getElem hi
      obtain ⟨d0, d1, g1, hlt2⟩ := hf2.cells hx
      have hr : rootF par i = rootF par j := rootF_some HF.out.1 HP.out
      have hle : rootF par j < i := Nat.lt_of_le_of_lt (rootF_le HF.out.1 j) hj
      have HR := Lib.hid (And.intro hr hle)
      have H2 := Lib.hid (And.intro hf2 (And.intro hr2 hm2))
      clear hx hf2 hr2 hm2 hr hle
      go_wp2_with fail
      go_ret
      obtain ⟨hr, hle⟩ := HR.out
      obtain ⟨hf2, hr2, hm2⟩ := H2.out
      obtain ⟨hf3, hm3⟩ := hf2.hang hle hi rfl
      exact ⟨by rw [hr]; rfl, ⟨_, hf3, fun k => by rw [rootF_hang hf2.1 (by rw [hr2, hr]) hle, hr2]⟩, hm2.trans hm3⟩

def JoinPost (w : World) (b0 : Nat) (ids : List Int) (par : Nat → Option Nat) (i j : Nat) (e : Ending) (w2 : World) : Prop :=
  e = .returned (.tuple #[]) ∧ (∃ par2, Forest w2 b0 ids par2 ∧ JoinP par par2 i j ids.length) ∧ Mid b0 (b0 + ids.length) w w2
theorem joinP_same {par par2 : Nat → Option Nat} {i j n : Nat} (h : rootF par i = rootF par j) (hr : ∀ k, rootF par2 k = rootF par k) : JoinP par par2 i j n := by
  intro k _
  rw [h, Nat.max_self, Nat.min_self, hr k]
  split
  · rename_i h2; exact h2
  · rfl
theorem joinP_hang {par par2 : Nat → Option Nat} {i j n a b : Nat} (hP : OkP par2) (h : (rootF par i = a ∧ rootF par j = b) ∨ (rootF par i = b ∧ rootF par j = a)) (hlt : a < b) (hr : ∀ k, rootF par2 k = rootF par k) : JoinP par (updP par2 b a) i j n := by
  have ha : par2 a = none := by
    rcases h with h | h
    · rw [← h.1, ← hr i]; exact rootF_root hP i
    · rw [← h.2, ← hr j]; exact rootF_root hP j
  have hb : par2 b = none := by
    rcases h with h | h
    · rw [← h.2, ← hr j]; exact rootF_root hP j
    · rw [← h.1, ← hr i]; exact rootF_root hP i
  intro k _
  rw [rootF_join hP ha hb hlt, hr k]
  rcases h with ⟨h1, h2⟩ | ⟨h1, h2⟩
  · rw [h1, h2, Nat.max_eq_right (by omega), Nat.min_eq_left (by omega)]
  · rw [h1, h2, Nat.max_eq_left (by omega), Nat.min_eq_right (by omega)]
set_option maxHeartbeats 1600000 in
set_option maxRecDepth 100000 in
theorem join_any (b0 : Nat) (ids : List Int) (hn : ids.length ≤ 1000000000000) (hv : validI ids = true) (i j : Nat) (par : Nat → Option Nat) (w : World) (hi : i < ids.length) (hj : j < ids.length) (hf : Forest w b0 ids par) :
    Calls Try.prog 88 #[.pointer (some ⟨b0 + i, 0, none⟩), .pointer (some ⟨b0 + j, 0, none⟩)] w (JoinPost w b0 ids par i j) := by
  have HV := Lib.hid hv; clear hv
  have hP := hf.1
  obtain ⟨a, ha⟩ : ∃ a, a = rootF par i := ⟨_, rfl⟩
  obtain ⟨b, hb⟩ : ∃ b, b = rootF par j := ⟨_, rfl⟩
  have hai : a < ids.length := by rw [ha]; exact Nat.lt_of_le_of_lt (rootF_le hP i) hi
  have hbj : b < ids.length := by rw [hb]; exact Nat.lt_of_le_of_lt (rootF_le hP j) hj
  have HA := Lib.hid (And.intro ha hb)
  have HF := Lib.hid hf
  clear hP hf ha hb
  go_enter Try.func88, Try.ntmps88
  go_wp2_with fail
  refine (root_any b0 ids hn i par w hi HF.out).mono ?_
  rintro e w2 ⟨he, ⟨par2, hf2, hr2⟩, hm2⟩
  rw [← HA.out.1] at he
  subst he
  have H2 := Lib.hid (And.intro hr2 hm2)
  go_wp2_with fail
  refine (root_any b0 ids hn j par2 w2 hj hf2).mono ?_
  rintro e w3 ⟨he, ⟨par3, hf3, hr3⟩, hm3⟩
  rw [hr2, ← HA.out.2] at he
  subst he
  have H3 := Lib.hid (And.intro hr3 hm3)
  have HF3 := Lib.hid hf3
  obtain ⟨x, hxa⟩ : ∃ x, ids[a]? = some x := ⟨_, List.getElem?_eq_getElem hai⟩
  obtain ⟨y, hxb⟩ : ∃ y, ids[b]? = some y := ⟨_, List.getElem?_eq_getElem hbj⟩
  obtain ⟨c0, c1, f1, hlt⟩ := hf3.cells hxa
  obtain ⟨d0, d1, g1, hltb⟩ := hf3.cells hxb
  have HO : Hid (∀ k, rootF par3 k = rootF par k) := by exact fun k => (hr3 k).trans (hr2 k)
  have HM : Hid (Mid b0 (b0 + ids.length) w w3) := by exact hm2.trans hm3
  clear hr2 hm2 hr3 hm3 hf2 hf3 H2 H3
  rcases Nat.lt_trichotomy a b with hab | hab | hab
  · have hlt2 : x < y := asc_lt HV.out hxa hxb hab
    have e1 : decide (x < y) = true := by simp [hlt2]
    clear hxa hxb
    go_wp2_with fail
    go_quiet (fail)
    go_wp2_with fail
    go_end0
    obtain ⟨hf4, hm4⟩ := (HF3.out.keep (w2 := w3.drewN nq) fun _ _ _ => rfl).hang hab hbj rfl
    exact ⟨rfl, ⟨_, hf4, joinP_hang HF3.out.1 (.inl ⟨HA.out.1.symm, HA.out.2.symm⟩) hab HO.out⟩, (HM.out.draws nq).trans hm4⟩
  · subst hab
    rw [hxa] at hxb
    injection hxb with hxy
    subst hxy
    have e1 : decide (x < x) = false := by simp
    clear hxa
    go_wp2_with fail
    go_quiet (fail)
    go_wp2_with fail
    go_quiet (fail)
    go_wp2_with fail
    go_end0
    exact ⟨rfl, ⟨_, HF3.out.keep fun _ _ _ => rfl, joinP_same (HA.out.1.symm.trans HA.out.2) HO.out⟩, (HM.out.draws _).draws _⟩
  · have hlt2 : y < x := asc_lt HV.out hxb hxa hab
    have e1 : decide (x < y) = false := by simp; omega
    have e2 : decide (y < x) = true := by simp [hlt2]
    clear hxa hxb
    go_wp2_with fail
    go_quiet (fail)
    go_wp2_with fail
    go_quiet (fail)
    go_wp2_with fail
    go_end0
    obtain ⟨hf4, hm4⟩ := (HF3.out.keep (w2 := w3.drewN _) fun _ _ _ => rfl).hang hab hai rfl
    exact ⟨rfl, ⟨_, hf4, joinP_hang HF3.out.1 (.inr ⟨HA.out.1.symm, HA.out.2.symm⟩) hab HO.out⟩, (HM.out.draws _).trans hm4⟩
end Go.Proofs.Ytnkdpogplkomhaa

/- The program makes a tree for each group. -/
namespace Go.Proofs.Ytnkdpogplkomhaa
open Go.RowKit

theorem infoPtr : (Try.prog.info? 96).map (fun i => (i.zero, i.size, i.bytes)) = some (some (.pointer none), 1, 8) := by kernel_rfl
/-- Pointers to the first k of n nodes from b0 on. -/
def ptrs (b0 n k : Nat) : List Value := (List.range n).map fun i => .pointer (if i < k then some ⟨b0 + i, 0, none⟩ else none)
theorem ptrs_len (b0 n k : Nat) : (ptrs b0 n k).length = n := by simp [ptrs]
theorem ptrs_set (b0 n k : Nat) (hk : k < n) : (ptrs b0 n k).set k (.pointer (some ⟨b0 + k, 0, none⟩)) = ptrs b0 n (k + 1) := by
  refine List.ext_getElem? fun i => ?_
  rw [List.getElem?_set]
  by_cases h : k = i
  · subst h
    simp [ptrs, hk]
  · rw [if_neg h]
    by_cases hi : i < n
    · have : (i < k + 1) = (i < k) := by rw [eq_iff_iff]; omega
      simp [ptrs, hi, this]
    · simp [ptrs, hi]
theorem ptrs_at (b0 n : Nat) {i : Nat} (hi : i < n) : (ptrs b0 n n)[i]? = some (.pointer (some ⟨b0 + i, 0, none⟩)) := by simp [ptrs, hi]
theorem ptrs_new (b0 n : Nat) {k : Nat} (hk : k < n) : (ptrs b0 n k)[k]? = some (.pointer none) := by simp [ptrs, hk]
theorem zero_ptrs (b0 n : Nat) : (madeCells (Value.pointer none).cells (n * 1)).toList = ptrs b0 n 0 := by
  refine List.ext_getElem? fun i => ?_
  by_cases hi : i < n
  · have : i % 1 = 0 := by omega
    simp [ptrs, madeCells, hi, Value.cells, Nat.mod_one]
  · simp [ptrs, madeCells, hi]
/-- The first k nodes stand alone. -/
def Alone (w : World) (b0 : Nat) (ids : List Int) (k : Nat) : Prop := ∀ (i : Nat) (x : Int), i < k → ids[i]? = some x → w.heap[b0 + i]? = some (.cells #[.int .i64 x, .pointer none] 98 (0, 0))

theorem Alone.next {w w2 : World} {b0 k : Nat} {ids : List Int} {x : Int} {g : Nat} {u : Value} (h : Alone w b0 ids k) (hs : w.heap.size = b0 + k) (hx : ids[k]? = some x) (hg : g < b0)
    (hw : w2 = (w.setCell ⟨g, k, none⟩ u).alloc (.cells #[.int .i64 x, .pointer none] 98)) : Alone w2 b0 ids (k + 1) := by
  have hs2 : (w.setCell ⟨g, k, none⟩ u).heap.size = b0 + k := by rw [← hs]; simp [World.setCell]
  subst hw
  intro i y hi hy
  by_cases h2 : i = k
  · subst h2
    rw [hx] at hy
    injection hy with hy
    subst hy
    rw [← hs2]
    exact heap_alloc_new _ _
  · rw [Below.heap_alloc _ _ _ (by omega), heap_setCell_other _ _ _ _ (show b0 + i ≠ g by omega)]
    exact h i y (by omega) hy
theorem Alone.forest {w : World} {b0 : Nat} {ids : List Int} (h : Alone w b0 ids ids.length) : Forest w b0 ids (fun _ => none) ∧ LabP ids (fun _ => none) ids :=
  ⟨⟨fun _ _ hj => (by cases hj), fun i x hx => h i x (List.getElem?_eq_some_iff.1 hx).1 hx⟩, labP_start fun _ _ => rfl⟩

theorem own_mid {w w2 : World} {base e size n lo hi g cap : Nat} {xs : List Value} (h : w.ownsRow base e size (.slice (some ⟨g, 0, none⟩) n cap) n xs) (hm : Mid lo hi w w2) (hg : g < lo) : w2.ownsRow base e size (.slice (some ⟨g, 0, none⟩) n cap) n xs := by
  refine ⟨h.1, ?_⟩
  rcases h.2 with hn | ⟨g2, cap2, cur, hv, hbg, hh, rest⟩
  · exact .inl hn
  · have e : g2 = g := by injection hv with h1; injection h1 with h1; injection h1 with h1; exact h1.symm
    exact .inr ⟨g2, cap2, cur, hv, hbg, (hm.block g2 (.inl (by omega))).trans hh, rest⟩
def TreesPost (w : World) (ids : List Int) (rels : List Ctx) (e : Ending) (w2 : World) : Prop :=
  ∃ (b0 : Nat) (par : Nat → Option Nat), e = .returned (.slice (some ⟨w.heap.size, 0, none⟩) ids.length ids.length) ∧ Below w.heap.size w w2 ∧
    w2.ownsRow w.heap.size 96 1 (.slice (some ⟨w.heap.size, 0, none⟩) ids.length ids.length) ids.length (ptrs b0 ids.length ids.length) ∧ w.heap.size < b0 ∧ b0 + ids.length ≤ w2.heap.size ∧
    Forest w2 b0 ids par ∧ LabP ids par (groupsG ids rels)
theorem indexI_same (A : Option Addr) (cap : Nat) (l : List Int) (n : Int) (w : World) (hr : Reads w w.heap.size 1 A l.length (cellsI l)) (hl : l.length ≤ 1000000000000) :
    Calls Try.prog 62 #[.slice A l.length cap, .int .i64 n] w fun e w2 => e = .returned (.int .i64 (findI l n)) ∧ w2 = w :=
  (indexI_any A cap l n w hr hl).mono fun _ _ ⟨h1, h2⟩ => ⟨h1, h2.symm⟩
theorem indexI_to (A : Option Addr) (cap : Nat) (l : List Int) (n : Int) (p : Nat) (w : World) (hr : Reads w w.heap.size 1 A l.length (cellsI l)) (hl : l.length ≤ 1000000000000) (hp : findI l n = (p : Int)) :
    Calls Try.prog 62 #[.slice A l.length cap, .int .i64 n] w fun e w2 => e = .returned (.int .i64 (p : Int)) ∧ w2 = w :=
  (indexI_any A cap l n w hr hl).mono fun _ _ ⟨h1, h2⟩ => ⟨by rw [h1, hp], h2.symm⟩
theorem ptr_cell {w : World} {base e g n cap b0 i : Nat} (h : w.ownsRow base e 1 (.slice (some ⟨g, 0, none⟩) n cap) n (ptrs b0 n n)) (hi : i < n) : w.cell? ⟨g, i, none⟩ = some (.pointer (some ⟨b0 + i, 0, none⟩)) :=
  (h.cellAt _ (by omega)).trans (ptrs_at b0 n hi)
set_option maxHeartbeats 1600000 in
set_option maxRecDepth 100000 in
theorem trees_any (A B : Option Addr) (ca cb : Nat) (ids : List Int) (l : List Ctx) (w : World) (ha : Reads w w.heap.size 1 A ids.length (cellsI ids)) (hb : Reads w w.heap.size 3 B l.length (cellsC l)) (hok : okG ids l = true) :
    Calls Try.prog 59 #[.slice A ids.length ca, .slice B l.length cb] w (TreesPost w ids l) := by
  obtain ⟨i0, hi0, hz0, hz1, hz2⟩ := info_parts infoPtr
  obtain ⟨hv, hvr, hin⟩ := okG_parts hok
  have hn : ids.length ≤ 12 := validO_len hv
  have hl : l.length ≤ 30 := validO_len hvr
  have HV := Lib.hid (And.intro hv hin)
  clear hv hvr hin hok
  go_enter Try.func59, Try.ntmps59
  go_wp2_with (at_make
               go_must (refine wpList_make_full _ rfl (.tmp 11) (.tmp 11) _ rfl w.heap.size 96 i0 _ 1 Try.underlying94 hi0 hz0 hz1 _ _ _ _ ids.length rfl rfl rfl rfl (by rw [hz2]; omega) (by simp only [maxLen]; omega) (Nat.le_refl _) ?_)
               intro w1 hown hg)
  have hb1 : Below w.heap.size w w1 := (Below.refl _ _).grown hg (Nat.le_refl _) (fun k hk => by cases hk)
  obtain ⟨b0, hb0⟩ : ∃ b0, w1.heap.size = b0 := ⟨_, rfl⟩
  have hlt0 : w.heap.size < b0 := by rw [← hb0]; exact (hown.lt _ rfl).2
  rw [zero_ptrs b0] at hown
  have HO1 := Lib.hid (And.intro hown (And.intro hb1 hb0))
  clear hown hg hb1 hb0
  go_loopw [15] (fun i wr => ∃ k : Nat, k ≤ ids.length ∧ i = .int .i64 k ∧ Below w.heap.size w wr ∧ wr.ownsRow w.heap.size 96 1 (.slice (some ⟨w.heap.size, 0, none⟩) ids.length ids.length) ids.length (ptrs b0 ids.length k) ∧ wr.heap.size = b0 + k ∧ Alone wr b0 ids k) (fun i _ => ids.length - (intOf i).toNat)
  case atStart => exact ⟨0, Nat.zero_le _, rfl, HO1.out.2.1, HO1.out.1, HO1.out.2.2, fun i x h => absurd h (by omega)⟩
  case round =>
    obtain ⟨k, hk, rfl, hbl, hown, hsz, hal⟩ := hrel
    by_cases hlt : k < ids.length
    · obtain ⟨b, off, hA, hbb, hc⟩ := (ha.below hbl).ints (by omega)
      subst hA
      have hk0 : ids[k]? = some ids[k] := List.getElem?_eq_getElem hlt
      have c1 := hc k _ hk0
      have hkl : (k : Int) < (ids.length : Int) := by omega
      have d1 := (hown.cellAt k (by omega)).trans (ptrs_new b0 ids.length hlt)
      have d2 := hown.frozenAt k
      have hgs := (hown.lt _ rfl).2
      have hns : ¬ w.heap.size = wr.heap.size := by omega
      have HX := Lib.hid (And.intro hk0 (And.intro hbl (And.intro hown (And.intro hsz hal))))
      clear hc hk0 ha hb hbl hown hsz hal
      go_wp2_with fail
      go_roundw
      case rel =>
        obtain ⟨hk0, hbl, hown, hsz, hal⟩ := HX.out
        have h1 := (hown.stored k (.pointer (some ⟨wr.heap.size, 0, none⟩))).1
        rw [hsz, ptrs_set _ _ _ hlt, ← hsz] at h1
        refine ⟨k + 1, by omega, by go_num, (hbl.setCell (by simp) _).alloc (by simp [World.setCell]; exact hbl.size) _, own_below h1 ((Below.refl _ _).alloc (Nat.le_refl _) _), ?_, hal.next hsz hk0 hlt0 rfl⟩
        simp [World.setCell]; omega
      case measure => simp [intOf]; omega
    · have hkl : k = ids.length := by omega
      subst hkl
      obtain ⟨hfo, hla⟩ := hal.forest
      have HX := Lib.hid (And.intro hbl (And.intro hown (And.intro hfo hla)))
      have hbs : b0 + ids.length ≤ wr.heap.size := by omega
      clear hbl hown hal hfo hla hsz HO1 hlt hk
      go_wp2_with fail
      go_loopw [29] (fun i w2 => ∃ (k : Nat) (par : Nat → Option Nat), k ≤ l.length ∧ i = .int .i64 k ∧ Below w.heap.size w w2 ∧ w2.ownsRow w.heap.size 96 1 (.slice (some ⟨w.heap.size, 0, none⟩) ids.length ids.length) ids.length (ptrs b0 ids.length ids.length) ∧ b0 + ids.length ≤ w2.heap.size ∧ Forest w2 b0 ids par ∧ LabP ids par (groupsG ids (l.take k))) (fun i _ => l.length - (intOf i).toNat)
      case atStart => exact ⟨0, _, Nat.zero_le _, rfl, HX.out.1, HX.out.2.1, hbs, HX.out.2.2.1, by simpa [groupsG] using HX.out.2.2.2⟩
      case round =>
        obtain ⟨k, par, hk, rfl, hbl, hown, hsz, hfo, hla⟩ := hrel
        by_cases hlt : k < l.length
        · obtain ⟨b, off, hB, hbb, hc⟩ := (hb.below hbl).ctx (by omega)
          subst hB
          have hk0 : l[k]? = some l[k] := List.getElem?_eq_getElem hlt
          obtain ⟨c1, c2, c3⟩ := hc k _ hk0
          have hkl : (k : Int) < (l.length : Int) := by omega
          by_cases h2 : l[k].area = 2
          · have e2 : (l[k].area == 2) = true := by simp [h2]
            obtain ⟨hm1, hm2⟩ := HV.out.2 l[k] (List.getElem_mem hlt)
            obtain ⟨hp1, hp2, _⟩ := placeI_at hm1
            obtain ⟨hq1, hq2, _⟩ := placeI_at hm2
            obtain ⟨x, hx⟩ : ∃ x, x = l[k].id := ⟨_, rfl⟩
            obtain ⟨y, hy⟩ : ∃ y, y = l[k].kind := ⟨_, rfl⟩
            obtain ⟨p, hp⟩ : ∃ p, p = placeI ids x := ⟨_, rfl⟩
            obtain ⟨q, hq⟩ : ∃ q, q = placeI ids y := ⟨_, rfl⟩
            rw [← hx, ← hp] at hp1 hp2
            rw [← hy, ← hq] at hq1 hq2
            have hbl2 := hbl.alloc hbl.size (.cells #[.int .i64 l[k].id, .int .i64 l[k].kind, .int .i64 l[k].area] 111)
            have hown2 := own_below hown ((Below.refl _ _).alloc (Nat.le_refl _) (.cells #[.int .i64 l[k].id, .int .i64 l[k].kind, .int .i64 l[k].area] 111))
            have hfo2 := hfo.keep (w2 := wr.alloc (.cells #[.int .i64 l[k].id, .int .i64 l[k].kind, .int .i64 l[k].area] 111)) fun j h1 h2 => Below.heap_alloc _ _ _ (by omega)
            rw [← hx] at c1
            rw [← hy] at c2
            rw [← hx, ← hy] at hbl2 hown2 hfo2
            have HX2 := Lib.hid (And.intro hbl2 (And.intro hown2 (And.intro hfo2 hla)))
            have HE := Lib.hid (And.intro hx (And.intro hy (And.intro hp (And.intro hq (And.intro h2 (And.intro hm1 hm2))))))
            have HA := Lib.hid ha
            have g1 := ptr_cell hown hp2
            have g2 := ptr_cell hown hq2
            have hgs := (hown.lt _ rfl).2
            clear h2 hc hk0 hbl hown hfo hla hbl2 hown2 hfo2 HX ha hb hx hy hp hq hm1 hm2
            go_wp2_with fail
            refine region_still_tail 14 (by kernel_rfl) (by kernel_rfl) ?_
            intro W hW hz hbw
            simp only [List.take_succ_cons, List.take_zero, List.drop_succ_cons, List.drop_zero]
            have haW := HA.out.step (below_step HX2.out.1 hbw)
            have hoW := own_below HX2.out.2.1 hbw
            repeat (first | still_step | still_call (indexI_to A ca ids _ p _ haW (by omega) hp1) | still_call (indexI_to A ca ids _ q _ haW (by omega) hq1))
            refine wpStill_nil ?_
            have hfW := HX2.out.2.2.1.keep (w2 := W) fun j h1 h2 => hbw.block j (by simp; omega)
            have HW := Lib.hid (And.intro hoW (And.intro hfW hbw))
            clear hW hbw hoW hfW haW g1 g2
            go_wp2_with (go_at_call 88
                         go_must (refine (join_any b0 ids (by omega) HV.out.1 p q par _ hp2 hq2 HW.out.2.1).mono ?_)
                         rintro e w4 ⟨rfl, ⟨par2, hf4, hj4⟩, hm4⟩)
            go_roundw
            case rel =>
              obtain ⟨hoW, hfW, hbw⟩ := HW.out
              obtain ⟨hbl, hown, hfo, hla⟩ := HX2.out
              obtain ⟨hx, hy, hp, hq, h2, hm1, hm2⟩ := HE.out
              refine ⟨k + 1, par2, by omega, by go_num, Mid.below (below_step hbl hbw) (by omega) hm4, own_mid hoW hm4 hlt0, ?_, hf4, ?_⟩
              · have h1 := hbw.size
                have h3 := hm4.size
                simp at h1
                omega
              · rw [groupsG_next hlt]
                refine labP_join HV.out.1 hfo.1 hla hm1 hm2 h2 ?_
                rw [← hx, ← hy, ← hp, ← hq]
                exact hj4
            case measure => simp [intOf]; omega
          · have e2 : (l[k].area == 2) = false := by simp [h2]
            have HN := Lib.hid h2
            have hbl2 := hbl.alloc hbl.size (.cells #[.int .i64 l[k].id, .int .i64 l[k].kind, .int .i64 l[k].area] 111)
            have hown2 := own_below hown ((Below.refl _ _).alloc (Nat.le_refl _) (.cells #[.int .i64 l[k].id, .int .i64 l[k].kind, .int .i64 l[k].area] 111))
            have hfo2 := hfo.keep (w2 := wr.alloc (.cells #[.int .i64 l[k].id, .int .i64 l[k].kind, .int .i64 l[k].area] 111)) fun j h1 h2 => Below.heap_alloc _ _ _ (by omega)
            have HX2 := Lib.hid (And.intro hbl2 (And.intro hown2 (And.intro hfo2 hla)))
            clear h2 hc hk0 hbl hown hfo hla hbl2 hown2 hfo2 HX ha hb
            go_wp2_with fail
            go_roundw
            case rel =>
              obtain ⟨hbl, hown, hfo, hla⟩ := HX2.out
              refine ⟨k + 1, par, by omega, by go_num, hbl, hown, by simp; omega, hfo, ?_⟩
              rw [groupsG_next hlt]
              exact labP_skip hla HN.out
            case measure => simp [intOf]; omega
        · have hkl : k = l.length := by omega
          have HK := Lib.hid hkl
          have HX2 := Lib.hid (And.intro hbl (And.intro hown (And.intro hsz (And.intro hfo hla))))
          clear hkl hbl hown hfo hla HX
          go_wp2_with fail
          go_ret
          obtain ⟨hbl, hown, hsz, hfo, hla⟩ := HX2.out
          rw [HK.out, List.take_length] at hla
          exact ⟨b0, par, rfl, hbl, hown, hlt0, hsz, hfo, hla⟩
end Go.Proofs.Ytnkdpogplkomhaa

/- What the program's groups, their heads and their members are. -/
namespace Go.Proofs.Ytnkdpogplkomhaa
open Go.RowKit

theorem own_set_other {w : World} {base e size n g cap : Nat} {xs : List Value} (h : w.ownsRow base e size (.slice (some ⟨g, 0, none⟩) n cap) n xs) {q : Addr} (hq : g ≠ q.block) (u : Value) : (w.setCell q u).ownsRow base e size (.slice (some ⟨g, 0, none⟩) n cap) n xs := by
  refine ⟨h.1, ?_⟩
  rcases h.2 with hn | ⟨g2, cap2, cur, hv, hbg, hh, rest⟩
  · exact .inl hn
  · have e : g2 = g := by injection hv with h1; injection h1 with h1; injection h1 with h1; exact h1.symm
    exact .inr ⟨g2, cap2, cur, hv, hbg, (heap_setCell_other _ _ _ _ (by omega)).trans hh, rest⟩
def GroupsPost (w : World) (ids : List Int) (rels : List Ctx) (e : Ending) (w2 : World) : Prop :=
  ∃ v, e = .returned (.tuple #[v, .bool (okG ids rels)]) ∧ Below w.heap.size w w2 ∧ w2.ownsRow w.heap.size 3 1 v (groupsOfG ids rels).length (cellsI (groupsOfG ids rels))
theorem groupsPost_bad {w w2 : World} {ids : List Int} {rels : List Ctx} (h : okG ids rels = false) (hb : Below w.heap.size w w2) : GroupsPost w ids rels (.returned (.tuple #[.slice none 0 0, .bool false])) w2 := by
  refine ⟨_, by rw [h], hb, ?_⟩
  rw [groupsOfG, h]
  exact ⟨rfl, .inl ⟨rfl, rfl⟩⟩
set_option maxHeartbeats 1600000 in
set_option maxRecDepth 100000 in
theorem iGroups_any (A B : Option Addr) (ca cb : Nat) (ids : List Int) (l : List Ctx) (w : World) (ha : Reads w w.heap.size 1 A ids.length (cellsI ids)) (hb : Reads w w.heap.size 3 B l.length (cellsC l)) (hn : ids.length ≤ 1000000000000) (hl : l.length ≤ 1000000000000) :
    Calls Try.prog 19 #[.slice A ids.length ca, .slice B l.length cb] w (GroupsPost w ids l) := by
  cases h1 : validI ids
  · go_enter Try.func19, Try.ntmps19
    go_wp2_with (first
      | (go_at_call 56; go_must (refine (iIds_any _ _ ids _ ha hn).mono ?_); rintro e w2 ⟨rfl, rfl⟩))
    go_ret2
    exact groupsPost_bad (by simp [okG, h1]) (Below.refl _ _)
  · cases h2 : validR l
    · go_enter Try.func19, Try.ntmps19
      go_wp2_with (first
        | (go_at_call 56; go_must (refine (iIds_any _ _ ids _ ha hn).mono ?_); rintro e w2 ⟨rfl, rfl⟩)
        | (go_at_call 57; go_must (refine (iRelsValid_any _ _ l _ hb (by omega)).mono ?_); rintro e w3 ⟨rfl, k3⟩))
      go_ret2
      exact groupsPost_bad (by simp [okG, h2]) k3
    · cases h3 : amongR ids l
      · go_enter Try.func19, Try.ntmps19
        go_wp2_with (first
          | (go_at_call 56; go_must (refine (iIds_any _ _ ids _ ha hn).mono ?_); rintro e w2 ⟨rfl, rfl⟩)
          | (go_at_call 57; go_must (refine (iRelsValid_any _ _ l _ hb (by omega)).mono ?_); rintro e w3 ⟨rfl, k3⟩)
          | (go_at_call 58; go_must (refine (iAmong_any _ _ _ _ ids l _ (ha.step k3) (hb.step k3) hn hl).mono ?_); rintro e w4 ⟨rfl, k4⟩))
        go_ret2
        exact groupsPost_bad (by simp [okG, h3]) (below_step k3 k4)
      · have hok : okG ids l = true := by simp [okG, h1, h2, h3]
        have hnn : ids.length ≤ 12 := validO_len h1
        have hll : l.length ≤ 30 := validO_len h2
        obtain ⟨i0, hi0, hz0, hz1, hz2⟩ := info_parts infoInt
        have HOK := Lib.hid hok
        clear hok
        go_enter Try.func19, Try.ntmps19
        go_wp2_with (first
          | (go_at_call 56; go_must (refine (iIds_any _ _ ids _ ha hn).mono ?_); rintro e w2 ⟨rfl, rfl⟩)
          | (go_at_call 57; go_must (refine (iRelsValid_any _ _ l _ hb (by omega)).mono ?_); rintro e w3 ⟨rfl, k3⟩)
          | (go_at_call 58; go_must (refine (iAmong_any _ _ _ _ ids l _ (ha.step k3) (hb.step k3) hn hl).mono ?_); rintro e w4 ⟨rfl, k4⟩; have k34 := below_step k3 k4)
          | (at_make
             go_must (refine wpList_make_full _ rfl (.tmp 24) (.tmp 24) _ rfl w4.heap.size 3 i0 _ 1 Try.underlying23 hi0 hz0 hz1 _ _ _ _ ids.length rfl rfl rfl rfl (by rw [hz2]; omega) (by simp only [maxLen]; omega) (Nat.le_refl _) ?_)
             intro w5 hown hg))
        obtain ⟨G, hG⟩ : ∃ G, G = groupsG ids l := ⟨_, rfl⟩
        have hGl : G.length = ids.length := by rw [hG, groupsG_len]
        have hb5 : Below w.heap.size w w5 := k34.grown hg k34.size (fun k hk => by cases hk)
        rw [zero_cellsI] at hown
        have hown0 : w5.ownsRow w4.heap.size 3 1 (.slice (some ⟨w4.heap.size, 0, none⟩) ids.length ids.length) ids.length (cellsI (fillI G 0)) := by simpa [fillI, hGl] using hown
        have hlt5 := (hown.lt _ rfl).2
        have hlt4 := k34.size
        have HX := Lib.hid (And.intro hG (And.intro hGl (And.intro hb5 hown0)))
        have HAB := Lib.hid (And.intro ha hb)
        clear hown hg hG hb5 hown0 k34 k3 k4 hGl ha hb h1 h2 h3 hi0 hz0 hz1 hz2
        refine (trees_any A B ca cb ids l w5 (HAB.out.1.step HX.out.2.2.1) (HAB.out.2.step HX.out.2.2.1) HOK.out).mono ?_
        rintro e w6 ⟨b0, par, rfl, hb6, hn6, hlt6, hs6, hf6, hl6⟩
        have hh6 := own_below HX.out.2.2.2 hb6
        have HY := Lib.hid (And.intro (below_step HX.out.2.2.1 hb6) (And.intro hn6 (And.intro hh6 (And.intro hf6 hl6))))
        clear hb6 hn6 hh6 hf6 hl6
        go_wp2_with fail
        go_loopw [30] (fun i wr => ∃ (k : Nat) (par : Nat → Option Nat), k ≤ ids.length ∧ i = .int .i64 k ∧ Below w.heap.size w wr ∧ wr.ownsRow w5.heap.size 96 1 (.slice (some ⟨w5.heap.size, 0, none⟩) ids.length ids.length) ids.length (ptrs b0 ids.length ids.length) ∧
          wr.ownsRow w4.heap.size 3 1 (.slice (some ⟨w4.heap.size, 0, none⟩) ids.length ids.length) ids.length (cellsI (fillI G k)) ∧ Forest wr b0 ids par ∧ LabP ids par G) (fun i _ => ids.length - (intOf i).toNat)
        case atStart => exact ⟨0, par, Nat.zero_le _, rfl, HY.out.1, HY.out.2.1, HY.out.2.2.1, HY.out.2.2.2.1, by rw [HX.out.1]; exact HY.out.2.2.2.2⟩
        case round =>
          obtain ⟨k, par, hk, rfl, hbl, hno, hhe, hfo, hla⟩ := hrel
          by_cases hlt : k < ids.length
          · have g1 := ptr_cell hno hlt
            have hkl : (k : Int) < (ids.length : Int) := by omega
            have hgk : G[k]? = some (G[k]'(by rw [HX.out.2.1]; exact hlt)) := List.getElem?_eq_getElem _
            obtain ⟨x, hx⟩ : ∃ x, G[k]? = some x := ⟨_, hgk⟩
            have hr : ids[rootF par k]? = some x := by rw [← hla.2 k hlt]; exact hx
            have HZ := Lib.hid (And.intro hbl (And.intro hno (And.intro hhe (And.intro hfo (And.intro hla (And.intro hx hr))))))
            clear hgk hx hr hbl hno hhe hfo hla
            go_wp2_with (go_at_call 60
                         go_must (refine (root_any b0 ids (by omega) k par _ hlt HZ.out.2.2.2.1).mono ?_)
                         rintro e w7 ⟨rfl, ⟨par2, hf2, hr2⟩, hm2⟩
                         go_must (have c0 := (hf2.cells ((congrArg (fun j => ids[j]?) (hr2 k)).trans HZ.out.2.2.2.2.2.2)).1)
                         go_must (rw [hr2 k] at c0)
                         go_must (have hh7 := own_mid HZ.out.2.2.1 hm2 (by omega))
                         go_must (obtain ⟨d1, d2⟩ := own_cell0 hh7 HX.out.2.1 hlt))
            go_roundw
            case rel =>
              obtain ⟨hbl, hno, hhe, hfo, hla, hx, hr⟩ := HZ.out
              have hno7 := own_set_other (own_mid hno hm2 hlt6) (q := ⟨w4.heap.size, k, none⟩) (show w5.heap.size ≠ w4.heap.size by omega) (.int .i64 x)
              have hh8 := own_storeI hh7 k x
              rw [fillI_set hx] at hh8
              refine ⟨k + 1, par2, by omega, by go_num, (Mid.below hbl (by omega) hm2).setCell (by simpa using hlt4) _, hno7, hh8, hf2.keep fun j h1 h2 => heap_setCell_other _ _ _ _ (show j ≠ w4.heap.size by omega), labP_roots hla hr2⟩
            case measure => simp [intOf]; omega
          · have hkl : k = ids.length := by omega
            have HZ := Lib.hid (And.intro hkl (And.intro hbl hhe))
            clear hkl hbl hno hhe hfo hla
            go_wp2_with fail
            go_ret2
            obtain ⟨hkl, hbl, hhe⟩ := HZ.out
            subst hkl
            refine ⟨_, by rw [HOK.out]; rfl, hbl, ?_⟩
            rw [groupsOfG, if_pos HOK.out, ← HX.out.1, HX.out.2.1]
            rw [← HX.out.2.1, fillI_all, HX.out.2.1] at hhe
            exact own_less hhe hlt4
end Go.Proofs.Ytnkdpogplkomhaa
