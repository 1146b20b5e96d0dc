/-
  Whatever bytes are given: of bounds and a context drawn from them, the span that the program tells lies in each bound of the context, and is the widest such span; its answer is the model's. No condition.
-/
import Derived.Test.YtjmbbepklofodaaYf
import Derived.Test.YtjmbbepklofodaaSt
import Derived.Test.YtjmbbepklofodaaIb
import Derived.Test.YtjmbbepklofodaaOpen
import Derived.Deep.RegionHeld3
namespace Go.Proofs.Ytjmbbepklofodaa.lawBoundsOf
open Go.ChangeShapes Go.WideShapes Go.ChangeAt Go.RowKit

/-- Whether a number is the given one, or that of a bound of the context. -/
def hitB (g : Ctx → Int) (id m d : Int) (L : List Ctx) : Bool := decide (m = d) || L.any (fun b => decide (b.id = id) && decide (m = g b))
theorem hitB_next {g : Ctx → Int} {id m d : Int} {L : List Ctx} {k : Nat} {x : Ctx} (hk : L[k]? = some x) : hitB g id m d (L.take (k + 1)) = (hitB g id m d (L.take k) || (decide (x.id = id) && decide (m = g x))) := by
  rw [List.take_add_one, hk]
  simp [hitB, Bool.or_assoc]
theorem hit_low (L : List Ctx) (id : Int) : hitB Ctx.kind id (lowB L id) 0 L = true := by
  simp only [hitB, Bool.or_eq_true, decide_eq_true_eq, List.any_eq_true, Bool.and_eq_true]
  exact lowB_or L id
theorem hit_high (L : List Ctx) (id : Int) : hitB Ctx.area id (highB L id) 999 L = true := by
  simp only [hitB, Bool.or_eq_true, decide_eq_true_eq, List.any_eq_true, Bool.and_eq_true]
  exact highB_or L id
set_option maxHeartbeats 2000000 in
set_option maxRecDepth 100000 in
theorem walk_short (A : Option Addr) (c : Nat) (z : List Int) (w : World) (h : Bytes w A c z) (hn : z.length ≤ 1048576) :
    Calls Try.prog 3 #[.slice A z.length c] w fun e w2 => e = .returned (.bool true) ∧ Below w.heap.size w w2 := by
  have e0 : decide ((1048576 : Int) < (z.length : Int)) = false := decide_eq_false (by omega)
  go_enter Try.func3, Try.ntmps3
  go_wp2_with fail
  refine (dOfB_any A c z _ h).mono ?_
  rintro e w2 ⟨v, l, id, rfl, ⟨ho2, hl, hb2⟩, hid0, hid4⟩
  obtain ⟨Al, cl, hv, hcap, hrl⟩ := own_slice ho2
  subst hv
  go_wp2_with fail
  refine (iBoundsOf_any _ _ l id _ hrl (by omega)).mono ?_
  rintro e w3 ⟨rfl, hb3⟩
  go_wp2_with fail
  refine (sBoundsOf_any _ _ l id _ (hrl.step hb3) (by omega)).mono ?_
  rintro e w4 ⟨rfl, hb4⟩
  have k4 := below_step hb3 hb4
  have hr4 := hrl.step k4
  have HB := Lib.hid (below_step hb2 k4)
  clear hrl ho2 hb2 hb3 hb4 k4 h
  cases hok : boundsOkG l id
  · go_wp2_with fail
    go_ret
    exact ⟨rfl, HB.out⟩
  · have h2 : boundsLowG l id = lowB l id := by simp [boundsLowG, hok]
    have h3 : boundsHighG l id = highB l id := by simp [boundsHighG, hok]
    rw [h2, h3]
    have hle : lowB l id ≤ highB l id := by
      simp only [boundsOkG, Bool.and_eq_true, decide_eq_true_eq] at hok
      exact hok.2.2
    have HLO := Lib.hid (fun (b : Ctx) (hb : b ∈ l) (he : b.id = id) => And.intro (lowB_ge hb he) (highB_le hb he))
    have HH := Lib.hid (And.intro (hit_low l id) (hit_high l id))
    clear h2 h3 hok
    obtain ⟨lo, hlo⟩ : ∃ lo, lo = lowB l id := ⟨_, rfl⟩
    obtain ⟨hi, hhi⟩ : ∃ hi, hi = highB l id := ⟨_, rfl⟩
    rw [← hlo, ← hhi] at HLO HH hle ⊢
    clear hlo hhi
    go_wp2_with fail
    go_loop [11, 12, 13] (fun f s i => ∃ k : Nat, k ≤ l.length ∧ i = .int .i64 k ∧ f = .bool (hitB Ctx.kind id lo 0 (l.take k)) ∧ s = .bool (hitB Ctx.area id hi 999 (l.take k))) (fun _ _ i => l.length - (intOf i).toNat)
    case atStart => exact ⟨0, Nat.zero_le _, rfl, by simp [hitB]; rfl, by simp [hitB]; rfl⟩
    case round =>
      obtain ⟨k, hk, rfl, rfl, rfl⟩ := hrel
      by_cases hlt : k < l.length
      · obtain ⟨b, off, hA, hbl, hc⟩ := hr4.ctx (by omega)
        subst hA
        have hk0 : l[k]? = some l[k] := List.getElem?_eq_getElem hlt
        obtain ⟨c1, c2, c3⟩ := hc k _ hk0
        have HF := Lib.hid (hitB_next (g := Ctx.kind) (id := id) (m := lo) (d := 0) hk0)
        have HS := Lib.hid (hitB_next (g := Ctx.area) (id := id) (m := hi) (d := 999) hk0)
        have hmem := HLO.out l[k] (List.getElem_mem hlt)
        obtain ⟨f, hf⟩ : ∃ f, f = hitB Ctx.kind id lo 0 (l.take k) := ⟨_, rfl⟩
        obtain ⟨s, hs⟩ : ∃ s, s = hitB Ctx.area id hi 999 (l.take k) := ⟨_, rfl⟩
        rw [← hf] at HF ⊢
        rw [← hs] at HS ⊢
        clear hr4 hk0 hc hf hs
        by_cases h1 : l[k].id = id
        · have e2 : (l[k].id == id) = true := by simp [h1]
          obtain ⟨g1, g2⟩ := hmem h1
          have e3 : decide (lo < l[k].kind) = false := decide_eq_false (by omega)
          have e4 : decide (l[k].area < hi) = false := decide_eq_false (by omega)
          have H1 := Lib.hid h1
          clear h1 g1 g2 hmem
          obtain ⟨p, hp⟩ : ∃ p, p = decide (lo = l[k].kind) := ⟨_, rfl⟩
          obtain ⟨q, hq⟩ : ∃ q, q = decide (hi = l[k].area) := ⟨_, rfl⟩
          have e5 : (lo == l[k].kind) = p := by rw [hp]; rfl
          have e6 : (hi == l[k].area) = q := by rw [hq]; rfl
          have HF2 : Hid (hitB Ctx.kind id lo 0 (l.take (k + 1)) = (f || p)) := by show _ = _; rw [HF.out, H1.out, hp]; simp
          have HS2 : Hid (hitB Ctx.area id hi 999 (l.take (k + 1)) = (s || q)) := by show _ = _; rw [HS.out, H1.out, hq]; simp
          clear hp hq
          cases f <;> cases s <;> (
            go_wp2_with fail
            go_round
            case rel => exact ⟨k + 1, by omega, by go_num, by rw [HF2.out]; simp, by rw [HS2.out]; simp⟩
            case measure => simp [intOf]; omega)
        · have e2 : (l[k].id == id) = false := by simp [h1]
          have HF2 : Hid (hitB Ctx.kind id lo 0 (l.take (k + 1)) = f) := by show _ = _; rw [HF.out]; simp [h1]
          have HS2 : Hid (hitB Ctx.area id hi 999 (l.take (k + 1)) = s) := by show _ = _; rw [HS.out]; simp [h1]
          clear h1
          go_wp2_with fail
          go_round
          case rel => exact ⟨k + 1, by omega, by go_num, by rw [HF2.out], by rw [HS2.out]⟩
          case measure => simp [intOf]; omega
      · have hkl : l.take k = l := List.take_of_length_le (by omega)
        rw [hkl, HH.out.1, HH.out.2]
        have ele : decide (lo ≤ hi) = true := decide_eq_true hle
        clear hkl
        go_wp2_with fail
        go_ret
        exact ⟨rfl, HB.out⟩

theorem walk (A : Option Addr) (c : Nat) (z : List Int) (w : World) (h1 : z.length ≤ c) (h2 : Reads w w.heap.size 1 A z.length (cellsB z)) (h3 : ∀ b ∈ z, 0 ≤ b ∧ b ≤ 255) (h4 : c ≤ maxLen) :
    Calls Try.prog 3 #[.slice A z.length c] w fun e w2 => e = .returned (.bool true) ∧ Below w.heap.size w w2 := by
  by_cases hn : z.length ≤ 1048576
  · exact walk_short A c z w (Bytes.mk_ h1 h2 h3 h4) hn
  · have e0 : decide ((1048576 : Int) < (z.length : Int)) = true := decide_eq_true (by omega)
    go_enter Try.func3, Try.ntmps3
    go_wp2_with fail
    go_ret
    exact ⟨rfl, Below.refl _ _⟩

set_option linter.unusedVariables false
set_option maxRecDepth 100000 in
theorem lifted (os : Os) (started : os.Started) (H : Type) (enc : TypeId × Value → H) :
    ReturnsInHanded {} Try.checked os 3 .any (Rows.fnBoundsOfSpec.pre6 enc Try.prog Try.f3 Rows.fnBoundsOfRow.domain false) (Rows.fnBoundsOfSpec.post enc Try.prog Try.f3 false true false false) := by
  refine returnsInHanded_of_change (C := Try.checked) lawOwn started (by kernel_rfl) Try.func3
    (ChangeSpec.witness6 (enc := enc) (C := Try.checked) false ⟨#[], #[.slice none 0 0], []⟩ 8 (by kernel_rfl) (by kernel_rfl) (by kernel_rfl) (by kernel_rfl)) ?_
  intro W base args ds gs before hval0 hW hcnd _
  have hval : ∀ (j : Nat) t v, Try.f3.params[j]? = some t → args[j]? = some v → Value.okWide Try.prog W .any base t v := hval0
  have hW' := hW
  obtain ⟨p, q, hA0, hV, rfl, hfz, hnd⟩ := hW
  have hA : DataW.TrodAll enc Try.prog W 0 (fun _ => true) true Try.f3.params.toList args.toList ds p := hA0
  rw [Try.params3] at hA hval
  obtain ⟨v0, vs0, d0, ds0, p0, q0, hargs, rfl, rfl, h0, r0⟩ := trodAll_cons hA
  obtain ⟨rfl, rfl, rfl⟩ := trodAll_nil r0
  obtain rfl : args = #[v0] := by cases args; simp_all
  obtain ⟨rfl, rfl⟩ := trodVars_none hV
  have k0 := h0
  have lt0 : ∀ x ∈ p0, x.block < W.heap.size := by obtain ⟨m, hm⟩ := k0; exact DataW.trod_lt m _ _ _ hm
  obtain ⟨a0, len0, cap0, rfl⟩ := okWide_slice Try.underlying22 (hval 0 22 v0 rfl rfl)
  obtain ⟨z0, hl0, hc0, hr0, hb0, hm0⟩ : ∃ z : List Int, len0 = z.length ∧ len0 ≤ cap0 ∧ Reads W W.heap.size 1 a0 len0 (cellsB z) ∧ (∀ b ∈ z, 0 ≤ b ∧ b ≤ 255) ∧ cap0 ≤ maxLen := by
    obtain ⟨fuel, hf⟩ := h0
    exact open_bytes Try.underlying22 Try.underlying5 (by kernel_rfl) (by simpa [Value.cells] using hf)
  subst hl0
  clear hA0 hval0
  refine (walk a0 cap0 z0 W hc0 hr0 hb0 hm0).mono fun e W' ⟨he, bel⟩ => ?_
  subst he
  exact ⟨_, rfl, _, _, _, [], _, [], hW', trodAll_mk1 (shut_bool Try.underlying4 _), (trodAll_cons_mk (Below.trod lawLaid (by kernel_rfl) (of_decide_eq_true (by kernel_rfl)) k0 bel lt0) trodAll_mk0), rfl, bel.frame _, fun h => by cases h⟩

theorem proved : Rows.FnBoundsOfSaid :=
  OpenClaim.holds_of_wide 3 Try.f3 rfl rfl rfl rfl rfl rfl rfl ⟨rfl, rfl, rfl, rfl, rfl⟩ rfl rfl rfl rfl rfl (by kernel_rfl) Try.func3 (by kernel_rfl)
    (of_decide_eq_true (by kernel_rfl)) (by unfold Func.isWrapper; rw [if_neg (of_decide_eq_false (by kernel_rfl))]; exact ⟨rfl, rfl⟩)
    (fun os started H enc _ => lifted os started H enc)
#print axioms proved
end Go.Proofs.Ytjmbbepklofodaa.lawBoundsOf
