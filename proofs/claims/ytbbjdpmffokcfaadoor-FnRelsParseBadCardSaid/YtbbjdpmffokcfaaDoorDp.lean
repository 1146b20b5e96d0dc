/- The laws' draw of a text of relations. -/
import Derived.Test.YtbbjdpmffokcfaaDoorDd
import Derived.Test.YtbbjdpmffokcfaaDoorTm
import Derived.Deep.RegionHeld3
namespace Go.Proofs.YtbbjdpmffokcfaaDoor
open Go.RowKit

theorem joinR_ascii {l : List Ctx} (hv : ∀ c ∈ l, okR c = true) : ∀ k, ∀ b ∈ joinR (l.take k), b.toNat < 128
  | 0 => fun b hb => by rw [joinR_zero] at hb; cases hb
  | k + 1 => by
    have ih := joinR_ascii hv k
    cases h : l[k]? with
    | none =>
      have : l.take (k + 1) = l.take k := by rw [List.take_add_one, h]; simp
      rw [this]; exact ih
    | some c =>
      have hc := relT_byte (hv c (List.mem_of_getElem? h))
      rcases Nat.eq_zero_or_pos k with h0 | hp
      · subst h0; rw [joinR_one h]; exact fun b hb => (hc b hb).2
      · rw [joinR_more hp h]
        intro b hb
        rw [List.mem_append, List.mem_append] at hb
        rcases hb with (hb | hb) | hb
        · exact ih b hb
        · simp at hb; subst hb; decide
        · exact (hc b hb).2
theorem textR_fine (l : List Ctx) (hl : l.length ≤ 1000) : (textR l).length ≤ 6000 ∧ ∀ b ∈ textR l, b.toNat < 128 := by
  unfold textR
  cases hv : validR l
  · exact ⟨by simp, fun b hb => by simp at hb⟩
  · rw [if_pos rfl]
    have hok := validO_ok hv
    have h1 := joinR_len hok l.length
    have h2 := joinR_ascii hok l.length
    rw [List.take_length] at h1 h2
    exact ⟨by omega, h2⟩
/-- A text of ASCII bytes, not too long. -/
def Fine (t : List UInt8) : Prop := t.length ≤ 7000 ∧ ∀ b ∈ t, b.toNat < 128
theorem no_wrap2 {a b : Nat} (h : a + b ≤ 100000) : ¬ 9223372036854775807 < a + b := by omega
theorem fine_edit {s x : List UInt8} {i j n : Nat} (h : s.length ≤ 6000 ∧ ∀ b ∈ s, b.toNat < 128) (hx : x.length ≤ 10 ∧ ∀ b ∈ x, b.toNat < 128) (hj : i ≤ j) : Fine (s.take i ++ (x ++ (s.drop j).take n)) := by
  refine ⟨by simp; omega, fun b hb => ?_⟩
  rw [List.mem_append, List.mem_append] at hb
  rcases hb with hb | hb | hb
  · exact h.2 b (List.mem_of_mem_take hb)
  · exact hx.2 b hb
  · exact h.2 b (List.mem_of_mem_drop (List.mem_of_mem_take hb))

set_option maxHeartbeats 2000000 in
set_option maxRecDepth 100000 in
theorem of_any (g c p : Nat) (A : Option Addr) (z : List Int) (b cap : Nat) (ws : List (List UInt8)) (w : World) (h : Rd w g A z c p) (hp : p ≤ 900000) (hs : Strs w b 0 ws) (hn : 0 < ws.length) (hn2 : ws.length ≤ 1000) (hbg : b ≠ g) (hcap : ws.length ≤ cap) :
    Calls Tryd.prog 31 #[.pointer (some ⟨g, 0, none⟩), .slice (some ⟨b, 0, none⟩) ws.length cap] w fun e w2 => ∃ x, x ∈ ws ∧ e = .returned (.string (txt x)) ∧ (∃ p2, p2 ≤ p + 10 ∧ Rd w2 g A z c p2) ∧ w.grownBy w2 (some g) := by
  go_enter Tryd.func31, Tryd.ntmps31
  go_wp2_with fail
  refine (pick_any g c p A z _ _ h (by omega) (by omega)).mono ?_
  rintro e w2 ⟨r, rfl, a2, b2, hd, hr2, hg2⟩
  have b2 := b2 (by omega)
  obtain ⟨k, rfl⟩ := Int.eq_ofNat_of_zero_le a2
  have hk : k < ws.length := by omega
  have hk0 : ws[k]? = some ws[k] := List.getElem?_eq_getElem hk
  obtain ⟨x, hx⟩ : ∃ x, x = ws[k] := ⟨_, rfl⟩
  rw [← hx] at hk0
  have cx := (hs.grown hg2 (fun e => hbg (Option.some.inj e).symm)).2 k x hk0
  rw [Nat.zero_add] at cx
  have HK := Lib.hid hk0
  have HD := Lib.hid hd
  clear hk0 hx
  go_wp2_with fail
  go_ret
  exact ⟨x, List.mem_of_getElem? HK.out, rfl, ⟨_, by omega, hr2⟩, hg2⟩

def edits : List (List UInt8) := [[], [32], [62], [61], [48], [49], [120]]
theorem edits_fine : ∀ x ∈ edits, x.length ≤ 10 ∧ ∀ b ∈ x, b.toNat < 128 := by decide
def editVals : Array Value := #[.string ⟨#[]⟩, .string ⟨#[32]⟩, .string ⟨#[62]⟩, .string ⟨#[61]⟩, .string ⟨#[48]⟩, .string ⟨#[49]⟩, .string ⟨#[120]⟩]
theorem editVals_at {k : Nat} {x : List UInt8} (h : edits[k]? = some x) : editVals[k]? = some (.string (txt x)) := by
  match k with
  | 0 | 1 | 2 | 3 | 4 | 5 | 6 => simp [edits] at h; subst h; rfl
  | k + 7 => simp [edits] at h
theorem edits_strs {w : World} {t : TypeId} : Strs (w.alloc (.cells #[.string ⟨#[]⟩, .string ⟨#[32]⟩, .string ⟨#[62]⟩, .string ⟨#[61]⟩, .string ⟨#[48]⟩, .string ⟨#[49]⟩, .string ⟨#[120]⟩] t)) w.heap.size 0 edits := by
  refine ⟨by simp, fun k x hk => ?_⟩
  rw [Nat.zero_add]
  exact (cell_of_row _ _ k _ _ _ (heap_alloc_new _ _)).trans (editVals_at hk)

set_option maxHeartbeats 4000000 in
set_option maxRecDepth 100000 in
theorem dParse_any (A : Option Addr) (c : Nat) (z : List Int) (w : World) (h : Bytes w A c z) :
    Calls Tryd.prog 14 #[.slice A z.length c] w fun e w2 => ∃ t, e = .returned (.string (txt t)) ∧ Fine t ∧ Below w.heap.size w w2 := by
  go_enter Tryd.func14, Tryd.ntmps14
  go_wp2_with fail
  refine (open_any A c z _ h.reads h.byte h.cap h.room).mono ?_
  rintro e w2 ⟨g, c2, A2, z2, rfl, hg, hb2, hr2⟩
  go_wp2_with fail
  refine (drawRs_any g c2 0 A2 z2 _ _ hr2 (by omega) (by omega) (by omega)).mono ?_
  rintro e w3 ⟨v, l, rfl, ho3, hl, ⟨p3, hp3, hr3⟩, hg3⟩
  obtain ⟨Al, cl, hv, hcap, hrl⟩ := own_slice ho3
  subst hv
  have hb3 : Below w.heap.size w w3 := grown_below hg3 hb2 hg
  go_wp2_with fail
  refine (sText_any _ _ l _ hrl (by omega)).mono ?_
  rintro e w4 ⟨rfl, hb4⟩
  have hf := textR_fine l (by omega)
  have hr4 := hr3.step hb4
  have k4 := below_step hb3 hb4
  obtain ⟨s, hs⟩ : ∃ s, s = textR l := ⟨_, rfl⟩
  rw [← hs] at hf
  rw [← hs]
  have HF := Lib.hid hf
  have hsl := hf.1
  have hsz := txt_size s
  clear hs hf hrl ho3 hr3 hr2 hb2 hb3 hb4 hg3 hcap hl
  by_cases h0 : s.length = 0
  · have e0 : decide ((0 : Int) < (s.length : Int)) = false := decide_eq_false (by omega)
    have e00 : decide (0 < s.length) = false := decide_eq_false (by omega)
    clear h0
    go_wp2_with fail
    go_ret
    exact ⟨s, rfl, ⟨by omega, HF.out.2⟩, k4⟩
  · have e0 : decide ((0 : Int) < (s.length : Int)) = true := decide_eq_true (by omega)
    have e00 : decide (0 < s.length) = true := decide_eq_true (by omega)
    have hpos : 0 < s.length := by omega
    clear h0
    go_wp2_with fail
    refine (pick_any g c2 p3 A2 z2 _ _ hr4 (by omega) (by omega)).mono ?_
    rintro e w5 ⟨r5, rfl, a5, b5, _, hr5, hg5⟩
    have k5 : Below w.heap.size w w5 := grown_below hg5 k4 hg
    by_cases c5 : r5 = 0
    · subst c5
      go_wp2_with fail
      refine (pick_any g c2 _ A2 z2 _ _ hr5 (by omega) (by omega)).mono ?_
      rintro e w6 ⟨r6, rfl, a6, b6, hd6, hr6, hg6⟩
      have b6 := b6 (by omega)
      obtain ⟨i, rfl⟩ := Int.eq_ofNat_of_zero_le a6
      have k6 : Below w.heap.size w w6 := grown_below hg6 k5 hg
      have HD6 := Lib.hid hd6
      have hil : i ≤ s.length := by omega
      have sub1 := sub_txt s 0 i
      have hta := txt_append
      have h7 : Rd (w6.alloc (.cells #[.string ⟨#[]⟩, .string ⟨#[32]⟩, .string ⟨#[62]⟩, .string ⟨#[61]⟩, .string ⟨#[48]⟩, .string ⟨#[49]⟩, .string ⟨#[120]⟩] 9)).drew g A2 z2 c2 (p3 + 1 + 1) := hr6.step (((Below.refl _ w6).alloc (Nat.le_refl _) _).drew)
      have hs7 : Strs (w6.alloc (.cells #[.string ⟨#[]⟩, .string ⟨#[32]⟩, .string ⟨#[62]⟩, .string ⟨#[61]⟩, .string ⟨#[48]⟩, .string ⟨#[49]⟩, .string ⟨#[120]⟩] 9)).drew w6.heap.size 0 edits := (edits_strs (w := w6)).step ((Below.refl _ _).drew)
      have k7 : Below w.heap.size w (w6.alloc (.cells #[.string ⟨#[]⟩, .string ⟨#[32]⟩, .string ⟨#[62]⟩, .string ⟨#[61]⟩, .string ⟨#[48]⟩, .string ⟨#[49]⟩, .string ⟨#[120]⟩] 9)).drew := (k6.alloc k6.size _).drew
      have hgl := hr6.lt
      have HX := Lib.hid (And.intro h7 (And.intro hs7 k7))
      clear hd6 b5 hr5 hr4 h7 hs7 k7 hr6 hg6 hg5 k4 k5 k6
      go_wp2_with fail
      go_region_held3 (fun _ => True) (trivial) (first
        | (go_at_call 31
           go_must (refine (of_any g c2 _ A2 z2 w6.heap.size 7 edits _ HX.out.1 (by omega) HX.out.2.1 (by decide) (by decide) (by omega) (by decide)).mono ?_)
           go_must (rintro e w7 ⟨x, hxe, rfl, ⟨p7, hp7, hr7⟩, hg7⟩)
           have hxf := edits_fine x hxe
           have HXF := Lib.hid hxf
           have hxl := hxf.1
           go_must (have k7 := grown_below hg7 HX.out.2.2 hg)
           go_must (have n1 := no_wrap2 (a := (txt (s.take i)).size) (b := (txt x).size) (by rw [txt_size, txt_size, List.length_take]; omega))
           clear hxe hxf hg7)
        | (go_at_call 30
           go_must (refine (pick_any g c2 _ A2 z2 _ _ hr7 (by omega) (by omega)).mono ?_)
           rintro e w8 ⟨r8, rfl, a8, b8, hd8, hr8, hg8⟩
           have b8 := b8 (by omega)
           obtain ⟨m, rfl⟩ := Int.eq_ofNat_of_zero_le a8
           have k8 := grown_below hg8 k7 hg
           have hm2 : m < 2 := by omega
           have hw8 : IntKind.i64.wrap ((i : Int) + (m : Int)) = (i : Int) + (m : Int) := IntWalk.i64_in _ (by omega)
           have ht8 : ((i : Int) + (m : Int)).toNat = i + m := by omega
           have hl8 : (i : Int) + (m : Int) ≤ (s.length : Int) := by omega
           have hn8 : (0 : Int) ≤ (i : Int) + (m : Int) := by omega
           have sub2 := sub_txt s (i + m) s.length
           have n2 := no_wrap2 (a := (txt (s.take i ++ x)).size) (b := (txt ((s.drop (i + m)).take (s.length - (i + m)))).size) (by rw [txt_size, txt_size, List.length_append, List.length_take, List.length_take, List.length_drop]; omega)
           clear hd8 hr8 hg8 hr7))
      go_wp2_with fail
      go_ret
      exact ⟨_, rfl, fine_edit HF.out HXF.out (by omega), k8⟩
    · have e5 : (r5 == 0) = false := by simp [c5]
      clear c5 b5
      go_wp2_with fail
      go_ret
      exact ⟨s, rfl, ⟨by omega, HF.out.2⟩, k5⟩
end Go.Proofs.YtbbjdpmffokcfaaDoor
