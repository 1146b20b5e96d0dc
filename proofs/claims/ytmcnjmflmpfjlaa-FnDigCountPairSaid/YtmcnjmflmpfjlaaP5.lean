/- What the program's lists of relations with one more and with one less return. -/
import Derived.Test.YtmcnjmflmpfjlaaP4
import Derived.Deep.RegionHeld3
namespace Go.Proofs.Ytmcnjmflmpfjlaa
open Go.RowKit

theorem reads_vals {w : World} {vs : List Value} {t : TypeId} {g B : Nat} (hg : g = w.heap.size) (hB : g < B) : Reads (w.alloc (.cells vs.toArray t)) B 1 (some ⟨g, 0, none⟩) vs.length vs := by
  subst hg
  refine ⟨by omega, fun _ => ⟨_, 0, rfl, hB, fun j u hu => ?_⟩⟩
  rw [cell_of_row _ _ _ _ _ _ (heap_alloc_new _ _)]
  simpa using hu
theorem part_mk {w : World} {A : Option Addr} {n c : Nat} {m : List Ctx} (hr : Reads w w.heap.size 3 A n (cellsC m)) : Part w (.slice A n c) m := by
  have := hr.len
  subst this
  exact ⟨A, c, rfl, hr⟩
theorem parts1 {w : World} {v : Value} {m : List Ctx} (h : Part w v m) : ∀ (i : Nat) (x : Value) (y : List Ctx), [v][i]? = some x → [m][i]? = some y → Part w x y := by
  intro i x y hx hy
  match i with
  | 0 => simp at hx hy; subst hx hy; exact h
  | i + 1 => simp at hx
theorem parts2 {w : World} {v v2 : Value} {m m2 : List Ctx} (h : Part w v m) (h2 : Part w v2 m2) : ∀ (i : Nat) (x : Value) (y : List Ctx), [v, v2][i]? = some x → [m, m2][i]? = some y → Part w x y := by
  intro i x y hx hy
  match i with
  | 0 => simp at hx hy; subst hx hy; exact h
  | i + 1 => exact parts1 h2 i x y (by simpa using hx) (by simpa using hy)
theorem parts3 {w : World} {v v2 v3 : Value} {m m2 m3 : List Ctx} (h : Part w v m) (h2 : Part w v2 m2) (h3 : Part w v3 m3) : ∀ (i : Nat) (x : Value) (y : List Ctx), [v, v2, v3][i]? = some x → [m, m2, m3][i]? = some y → Part w x y := by
  intro i x y hx hy
  match i with
  | 0 => simp at hx hy; subst hx hy; exact h
  | i + 1 => exact parts2 h2 h3 i x y (by simpa using hx) (by simpa using hy)
theorem made_mono {w w1 : World} {m m2 : List Ctx} {e : Ending} {w2 : World} (h : Made w1 m e w2) (hb : Below w.heap.size w w1) (he : m = m2) : Made w m2 e w2 := by
  subst he
  obtain ⟨v, he, hb2, ho⟩ := h
  exact ⟨v, he, below_step hb hb2, own_less ho hb.size⟩

theorem copied_any (A : Option Addr) (cap : Nat) (l : List Ctx) (w : World) (hr : Reads w w.heap.size 3 A l.length (cellsC l)) (hl : l.length ≤ 1000000) :
    Calls Try.prog 85 #[.slice A l.length cap] w (Made w l) := by
  have hb0 := (Below.refl w.heap.size w).alloc (Nat.le_refl _) (.cells #[.slice A l.length cap] 89)
  have hr1 := hr.step hb0
  go_enter Try.func85, Try.ntmps85
  go_wp2_with fail
  refine (concat_any _ _ [.slice A l.length cap] [l] _ (reads_vals (by simp) (by simp)) rfl (by simp) (parts1 (part_mk hr1)) (by simpa using hl)).mono ?_
  rintro e w2 ⟨v, rfl, hb, ho⟩
  go_wp2_with fail
  go_ret
  exact made_mono ⟨v, rfl, hb, ho⟩ hb0 (by simp)

theorem reads_drew {w : World} {B size n : Nat} {A : Option Addr} {xs : List Value} (h : Reads w B size A n xs) : Reads w.drew B size A n xs := h
theorem below_drew {w w2 : World} {B : Nat} (h : Below B w w2) : Below B w w2.drew := below_draws h 1
theorem mapAdd (a : Addr) (k : Nat) : (some (a.add k) : Option Addr) = (some a : Option Addr).map (·.add k) := rfl
theorem keepS3 {W w2 : World} {g : Nat} {u0 u1 u2 : Option Value} (hb : Below W.heap.size W w2) (hg : g < W.heap.size) (h : W.cell? ⟨g, 0, none⟩ = u0 ∧ W.cell? ⟨g, 1, none⟩ = u1 ∧ W.cell? ⟨g, 2, none⟩ = u2) :
    w2.cell? ⟨g, 0, none⟩ = u0 ∧ w2.cell? ⟨g, 1, none⟩ = u1 ∧ w2.cell? ⟨g, 2, none⟩ = u2 :=
  ⟨(hb.cell (p := ⟨g, 0, none⟩) hg).trans h.1, (hb.cell (p := ⟨g, 1, none⟩) hg).trans h.2.1, (hb.cell (p := ⟨g, 2, none⟩) hg).trans h.2.2⟩
/-- The parts that are joined when a relation is put at a place. -/
theorem with_parts {w : World} {A A3 : Option Addr} {cap k : Nat} {l : List Ctx} {c : Ctx} (hr : Reads w w.heap.size 3 A l.length (cellsC l)) (hk : k ≤ l.length) (h3 : 0 < l.length - k → A3 = A.map (·.add (k * 3))) :
    ∀ (i : Nat) (x : Value) (y : List Ctx), [Value.slice A k cap, Value.slice (some ⟨w.heap.size + 1, 0, none⟩) 1 1, Value.slice A3 (l.length - k) (cap - k)][i]? = some x → [l.take k, [c], l.drop k][i]? = some y →
      Part (((w.alloc (.cells #[.int .i64 c.id, .int .i64 c.kind, .int .i64 c.area] 44)).alloc (.cells #[.int .i64 c.id, .int .i64 c.kind, .int .i64 c.area] 44)).alloc (.cells #[.slice A k cap, .slice (some ⟨w.heap.size + 1, 0, none⟩) 1 1, .slice A3 (l.length - k) (cap - k)] 89)).drew x y := by
  have hb : Below w.heap.size w (((w.alloc (.cells #[.int .i64 c.id, .int .i64 c.kind, .int .i64 c.area] 44)).alloc (.cells #[.int .i64 c.id, .int .i64 c.kind, .int .i64 c.area] 44)).alloc (.cells #[.slice A k cap, .slice (some ⟨w.heap.size + 1, 0, none⟩) 1 1, .slice A3 (l.length - k) (cap - k)] 89)).drew :=
    below_drew ((((Below.refl _ _).alloc (Nat.le_refl _) _).alloc (by simp) _).alloc (by simp; omega) _)
  have hr2 := hr.step hb
  have hn : Reads (((w.alloc (.cells #[.int .i64 c.id, .int .i64 c.kind, .int .i64 c.area] 44)).alloc (.cells #[.int .i64 c.id, .int .i64 c.kind, .int .i64 c.area] 44)).alloc (.cells #[.slice A k cap, .slice (some ⟨w.heap.size + 1, 0, none⟩) 1 1, .slice A3 (l.length - k) (cap - k)] 89)).drew (((w.alloc (.cells #[.int .i64 c.id, .int .i64 c.kind, .int .i64 c.area] 44)).alloc (.cells #[.int .i64 c.id, .int .i64 c.kind, .int .i64 c.area] 44)).alloc (.cells #[.slice A k cap, .slice (some ⟨w.heap.size + 1, 0, none⟩) 1 1, .slice A3 (l.length - k) (cap - k)] 89)).drew.heap.size 3 (some ⟨w.heap.size + 1, 0, none⟩) 1 (cellsC [c]) := by
    refine reads_drew ?_
    have h0 : Reads ((w.alloc (.cells #[.int .i64 c.id, .int .i64 c.kind, .int .i64 c.area] 44)).alloc (.cells #[.int .i64 c.id, .int .i64 c.kind, .int .i64 c.area] 44)) ((w.alloc (.cells #[.int .i64 c.id, .int .i64 c.kind, .int .i64 c.area] 44)).alloc (.cells #[.int .i64 c.id, .int .i64 c.kind, .int .i64 c.area] 44)).heap.size 3 (some ⟨(w.alloc (.cells #[.int .i64 c.id, .int .i64 c.kind, .int .i64 c.area] 44)).heap.size, 0, none⟩) 1 (cellsC [c]) := reads_one (by simp)
    have h1 := h0.step ((Below.refl _ _).alloc (Nat.le_refl _) (.cells #[.slice A k cap, .slice (some ⟨w.heap.size + 1, 0, none⟩) 1 1, .slice A3 (l.length - k) (cap - k)] 89))
    simpa using h1
  exact parts3 (part_mk (hr2.headC hk)) (part_mk hn) (part_mk (hr2.tailC hk h3))
theorem with_flat (l : List Ctx) (c : Ctx) (k : Nat) : [l.take k, [c], l.drop k].flatten = l.take k ++ c :: l.drop k := by simp
theorem with_len (l : List Ctx) (c : Ctx) (k : Nat) (hl : l.length ≤ 1000) : [l.take k, [c], l.drop k].flatten.length ≤ 1000000 := by
  rw [with_flat, List.length_append, List.length_cons, List.length_take, List.length_drop]; omega

set_option maxHeartbeats 2000000 in
set_option maxRecDepth 100000 in
theorem with_any (A : Option Addr) (cap k : Nat) (l : List Ctx) (c : Ctx) (w : World) (hr : Reads w w.heap.size 3 A l.length (cellsC l)) (hl : l.length ≤ 1000) (hcap : l.length ≤ cap) (hk : k ≤ l.length) :
    Calls Try.prog 86 #[.slice A l.length cap, .int .i64 k, .agg #[.int .i64 c.id, .int .i64 c.kind, .int .i64 c.area]] w (Made w (l.take k ++ c :: l.drop k)) := by
  have h0k : (0 : Int) ≤ (k : Int) := by omega
  have hkc : (k : Int) ≤ (cap : Int) := by omega
  have hkl : (k : Int) ≤ (l.length : Int) := by omega
  have HR := Lib.hid hr
  clear hr
  rcases A with _ | ad
  · have HP := Lib.hid (with_parts (A3 := none) (cap := cap) (k := k) (c := c) HR.out hk (fun _ => rfl))
    go_enter Try.func86, Try.ntmps86
    go_wp2_with fail
    go_region_held3 (fun w' => w'.cell? ⟨w.heap.size, 0, none⟩ = some (.int .i64 c.id) ∧ w'.cell? ⟨w.heap.size, 1, none⟩ = some (.int .i64 c.kind) ∧ w'.cell? ⟨w.heap.size, 2, none⟩ = some (.int .i64 c.area))
      (first
        | assumption
        | exact ⟨s0, s1, s2⟩
        | (go_simp; done))
      (first
        | (go_at_call 107
           go_must (refine (concat_any _ _ [.slice none k cap, .slice (some ⟨w.heap.size + 1, 0, none⟩) 1 1, .slice none (l.length - k) (cap - k)] [l.take k, [c], l.drop k] _ (reads_drew (reads_vals (by simp) (by simp))) rfl (by simp) HP.out (with_len l c k hl)).mono ?_)
           rintro e w2 hm
           have HM := Lib.hid (made_mono (w := w) hm (below_drew ((((Below.refl _ _).alloc (Nat.le_refl _) _).alloc (by simp) _).alloc (by simp; omega) _)) (with_flat l c k))
           obtain ⟨v, rfl, hb, ho⟩ := hm
           obtain ⟨s0, s1, s2⟩ := keepS3 (g := w.heap.size) hb (by simp; omega) (by assumption)))
    go_wp2_with fail
    go_ret
    exact HM.out
  · by_cases hcc : cap = k
    · have hcc2 : (cap = k) = True := eq_true hcc
      have HP := Lib.hid (with_parts (A3 := some ad) (cap := cap) (k := k) (c := c) HR.out hk (fun h => absurd h (by omega)))
      clear hcc
      go_enter Try.func86, Try.ntmps86
      go_wp2_with fail
      go_region_held3 (fun w' => w'.cell? ⟨w.heap.size, 0, none⟩ = some (.int .i64 c.id) ∧ w'.cell? ⟨w.heap.size, 1, none⟩ = some (.int .i64 c.kind) ∧ w'.cell? ⟨w.heap.size, 2, none⟩ = some (.int .i64 c.area))
        (first
          | assumption
          | exact ⟨s0, s1, s2⟩
          | (go_simp; done))
        (first
          | (go_at_call 107
             go_must (refine (concat_any _ _ [.slice (some ad) k cap, .slice (some ⟨w.heap.size + 1, 0, none⟩) 1 1, .slice (some ad) (l.length - k) (cap - k)] [l.take k, [c], l.drop k] _ (reads_drew (reads_vals (by simp) (by simp))) rfl (by simp) HP.out (with_len l c k hl)).mono ?_)
             rintro e w2 hm
             have HM := Lib.hid (made_mono (w := w) hm (below_drew ((((Below.refl _ _).alloc (Nat.le_refl _) _).alloc (by simp) _).alloc (by simp; omega) _)) (with_flat l c k))
             obtain ⟨v, rfl, hb, ho⟩ := hm
             obtain ⟨s0, s1, s2⟩ := keepS3 (g := w.heap.size) hb (by simp; omega) (by assumption)))
      go_wp2_with fail
      go_ret
      exact HM.out
    · have hcc2 : (cap = k) = False := eq_false hcc
      have HP := Lib.hid (with_parts (A3 := some (ad.add (k * 3))) (cap := cap) (k := k) (c := c) HR.out hk (fun _ => rfl))
      clear hcc
      go_enter Try.func86, Try.ntmps86
      go_wp2_with fail
      go_region_held3 (fun w' => w'.cell? ⟨w.heap.size, 0, none⟩ = some (.int .i64 c.id) ∧ w'.cell? ⟨w.heap.size, 1, none⟩ = some (.int .i64 c.kind) ∧ w'.cell? ⟨w.heap.size, 2, none⟩ = some (.int .i64 c.area))
        (first
          | assumption
          | exact ⟨s0, s1, s2⟩
          | (go_simp; done))
        (first
          | (go_at_call 107
             go_must (refine (concat_any _ _ [.slice (some ad) k cap, .slice (some ⟨w.heap.size + 1, 0, none⟩) 1 1, .slice (some (ad.add (k * 3))) (l.length - k) (cap - k)] [l.take k, [c], l.drop k] _ (reads_drew (reads_vals (by simp) (by simp))) rfl (by simp) HP.out (with_len l c k hl)).mono ?_)
             rintro e w2 hm
             have HM := Lib.hid (made_mono (w := w) hm (below_drew ((((Below.refl _ _).alloc (Nat.le_refl _) _).alloc (by simp) _).alloc (by simp; omega) _)) (with_flat l c k))
             obtain ⟨v, rfl, hb, ho⟩ := hm
             obtain ⟨s0, s1, s2⟩ := keepS3 (g := w.heap.size) hb (by simp; omega) (by assumption)))
      go_wp2_with fail
      go_ret
      exact HM.out

/-- The parts that are joined when a relation is left out. -/
theorem without_parts {w : World} {A A3 : Option Addr} {cap k c3 : Nat} {l : List Ctx} (hr : Reads w w.heap.size 3 A l.length (cellsC l)) (hk : k < l.length) (h3 : 0 < l.length - (k + 1) → A3 = A.map (·.add ((k + 1) * 3))) :
    ∀ (i : Nat) (x : Value) (y : List Ctx), [Value.slice A k cap, Value.slice A3 (l.length - (k + 1)) c3][i]? = some x → [l.take k, l.drop (k + 1)][i]? = some y →
      Part (w.alloc (.cells #[.slice A k cap, .slice A3 (l.length - (k + 1)) c3] 89)).drew x y := by
  have hb : Below w.heap.size w (w.alloc (.cells #[.slice A k cap, .slice A3 (l.length - (k + 1)) c3] 89)).drew := below_drew ((Below.refl _ _).alloc (Nat.le_refl _) _)
  have hr2 := hr.step hb
  exact parts2 (part_mk (hr2.headC (by omega))) (part_mk (hr2.tailC (by omega) h3))
theorem without_flat (l : List Ctx) (k : Nat) : [l.take k, l.drop (k + 1)].flatten = l.take k ++ l.drop (k + 1) := by simp
theorem without_len (l : List Ctx) (k : Nat) (hl : l.length ≤ 1000) : [l.take k, l.drop (k + 1)].flatten.length ≤ 1000000 := by
  rw [without_flat, List.length_append, List.length_take, List.length_drop]; omega

theorem roomR_no {l : List Ctx} {c : Ctx} (h1 : validR l = true) (h2 : okR c = true) (h : 0 ≤ findR l c ∨ l.length = 30) : addR l c = l ∧ addOkR l c = false :=
  addR_full h1 h2 (by omega)
theorem placed_yes {l : List Ctx} {c : Ctx} {k : Nat} (hp : Placed l c k) (h : hereR l c k = true) : findR l c = k ∧ k < l.length := by
  obtain ⟨h1, h2, h3⟩ := hp
  cases hk : l[k]? with
  | none => unfold hereR at h; rw [hk] at h; cases h
  | some e =>
    have he : eqC e c = true := by unfold hereR at h; rw [hk] at h; exact h
    refine ⟨findP_at _ _ k e (fun j d hj hd => ?_) hk he, (List.getElem?_eq_some_iff.1 hk).1⟩
    refine eqC_no fun e2 => ?_
    subst e2
    have := h2 j d hj hd
    rw [lessR_ir] at this
    cases this
theorem placed_no {l : List Ctx} {c : Ctx} {k : Nat} (hv : validR l = true) (hp : Placed l c k) (h : hereR l c k = false) : findR l c = -1 := by
  obtain ⟨h1, h2, h3⟩ := hp
  refine findP_none _ _ fun j d hd => ?_
  refine eqC_no fun e2 => ?_
  subst e2
  have hj : j < l.length := (List.getElem?_eq_some_iff.1 hd).1
  have hnl : ¬ j < k := fun hlt => by
    have := h2 j d hlt hd
    rw [lessR_ir] at this
    cases this
  have hkl : k < l.length := by omega
  have hk : l[k]? = some l[k] := List.getElem?_eq_getElem hkl
  rcases Nat.lt_or_ge k j with hgt | hge
  · have hp := pairO lessR_tr hv
    rw [List.pairwise_iff_getElem] at hp
    have hx := hp k j hkl hj hgt
    rw [(List.getElem?_eq_some_iff.1 hd).2, h3 _ hk] at hx
    cases hx
  · obtain rfl : j = k := by omega
    unfold hereR at h
    rw [hd] at h
    change eqC d d = false at h
    rw [eqC_self] at h
    cases h
theorem placed_ins {l : List Ctx} {c : Ctx} {k : Nat} (hp : Placed l c k) : insO lessR c l = l.take k ++ c :: l.drop k := insO_at c l k hp.1 hp.2.1 hp.2.2
end Go.Proofs.Ytmcnjmflmpfjlaa
