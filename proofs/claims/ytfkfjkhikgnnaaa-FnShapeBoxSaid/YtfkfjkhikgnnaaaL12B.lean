/-
  Whatever bytes are given: a shape is in its box, touches all its sides and is no larger. No condition.
-/
import Derived.Test.YtfkfjkhikgnnaaaEnt
import Derived.Test.YtfkfjkhikgnnaaaLif
import Derived.Test.YtfkfjkhikgnnaaaMak
import Derived.Test.YtfkfjkhikgnnaaaOpen
import Derived.Test.YtfkfjkhikgnnaaaIsh
import Derived.Test.YtfkfjkhikgnnaaaQt
import Derived.Test.YtfkfjkhikgnnaaaGe5
import Derived.Test.YtfkfjkhikgnnaaaSd3
import Derived.Test.YtfkfjkhikgnnaaaToP
namespace Go.Proofs.Ytfkfjkhikgnnaaa.lawShapeBox
open Go.ChangeShapes Go.WideShapes Go.ChangeAt Go.RowKit

def anyB (f : Nat → Bool) : Nat → Bool
  | 0 => false
  | k + 1 => anyB f k || f k
theorem anyB_of {f : Nat → Bool} : ∀ {n i : Nat}, i < n → f i = true → anyB f n = true
  | 0, _, h, _ => absurd h (by omega)
  | n + 1, i, h, hf => by
    show (anyB f n || f n) = true
    by_cases e : i = n
    · rw [← e, hf, Bool.or_true]
    · rw [anyB_of (show i < n by omega) hf, Bool.true_or]
set_option maxHeartbeats 8000000 in
set_option maxRecDepth 100000 in
theorem walk_short (A : Option Addr) (c : Nat) (z : List Int) (w : World) (h : Bytes w A c z) (hn : z.length ≤ 1048576) :
    Calls Try.prog 4 #[.slice A z.length c] w fun e w2 => e = .returned (.bool true) ∧ Below w.heap.size w w2 := by
  have e0 : decide ((1048576 : Int) < (z.length : Int)) = false := decide_eq_false (by omega)
  go_enter Try.func4, Try.ntmps4
  go_wp2_with fail
  refine (dShBox_any A c z _ h).mono ?_
  rintro e w2 ⟨v1, L, rfl, ⟨A2, c2, hv1, hc2, hr2⟩, hL, hb2⟩
  subst hv1
  obtain ⟨a, ha⟩ : ∃ a, a = boxA L := ⟨_, rfl⟩
  obtain ⟨b, hb⟩ : ∃ b, b = boxB L := ⟨_, rfl⟩
  obtain ⟨ok, hok⟩ : ∃ ok, ok = okSh L := ⟨_, rfl⟩
  have HM := Lib.hid (And.intro ha (And.intro hb hok))
  clear ha hb hok
  have eok : (ok != ok) = false := by simp
  have eok2 : (ok == ok) = true := by simp
  have ea1 : (a.lo == a.lo) = true := by simp
  have ea2 : (a.hi == a.hi) = true := by simp
  have eb1 : (b.lo == b.lo) = true := by simp
  have eb2 : (b.hi == b.hi) = true := by simp
  go_wp2_with fail
  refine (iShBox_any _ _ L _ hr2 (by omega)).mono ?_
  rw [← HM.out.1, ← HM.out.2.1, ← HM.out.2.2]
  rintro e w3 ⟨rfl, hb3⟩
  obtain ⟨j3, pa, pb⟩ := pts_two w3 a b
  have K3 := Lib.hid (And.intro (below_step (below_step hb2 hb3) j3) (And.intro ((hr2.step hb3).step j3) (And.intro pa pb)))
  clear j3 pa pb hb2 hb3 hr2 h
  go_wp2_with fail
  generalize (w3.alloc (.cells #[.int .i64 a.lo, .int .i64 a.hi] 27)).alloc (.cells #[.int .i64 b.lo, .int .i64 b.hi] 27) = V3 at K3 ⊢
  refine (sShBox_any _ _ L _ K3.out.2.1 (by omega)).mono ?_
  rw [← HM.out.1, ← HM.out.2.1, ← HM.out.2.2]
  rintro e w4 ⟨rfl, hb4⟩
  obtain ⟨j4, pc, pd⟩ := pts_two w4 a b
  have K4 := Lib.hid (And.intro (below_step (below_step K3.out.1 hb4) j4) (And.intro ((K3.out.2.1.step hb4).step j4) (And.intro ((K3.out.2.2.1.step hb4).step j4) (And.intro ((K3.out.2.2.2.step hb4).step j4) (And.intro pc pd)))))
  clear j4 pc pd hb4
  obtain ⟨a1, a2⟩ := K4.out.2.2.1.cells
  obtain ⟨b1, b2⟩ := K4.out.2.2.2.1.cells
  obtain ⟨c1', c2'⟩ := K4.out.2.2.2.2.1.cells
  obtain ⟨d1', d2'⟩ := K4.out.2.2.2.2.2.cells
  have lA := K4.out.2.2.1.lt
  have lB := K4.out.2.2.2.1.lt
  cases hv : ok
  · subst hv
    go_wp2_with fail
    go_ret
    exact ⟨rfl, K4.out.1⟩
  · subst hv
    have hbo : okSh L = true := HM.out.2.2.symm
    have ha : a = boxLo L := by rw [HM.out.1]; unfold boxA; rw [if_pos hbo]
    have hb : b = boxHi L := by rw [HM.out.2.1]; unfold boxB; rw [if_pos hbo]
    have h3 := (okSh_parts hbo).1.three
    have HX := Lib.hid (And.intro hbo (And.intro ha hb))
    clear hbo ha hb
    have hz4 : ((w4.alloc (.cells #[.int .i64 a.lo, .int .i64 a.hi] 27)).alloc (.cells #[.int .i64 b.lo, .int .i64 b.hi] 27)).heap.size = w4.heap.size + 1 + 1 := by simp
    have HZ4 := Lib.hid hz4
    clear hz4
    go_wp2_with fail
    generalize (w4.alloc (.cells #[.int .i64 a.lo, .int .i64 a.hi] 27)).alloc (.cells #[.int .i64 b.lo, .int .i64 b.hi] 27) = V4 at K4 lA lB HZ4 ⊢
    clear a1 a2 b1 b2 c1' c2' d1' d2'
    have jS : Below V4.heap.size V4 (V4.alloc (.cells #[.bool false, .bool false, .bool false, .bool false] 4)) := (Below.refl _ _).alloc (Nat.le_refl _) _
    have mS := heap_alloc_new V4 (.cells #[.bool false, .bool false, .bool false, .bool false] 4)
    have HS := Lib.hid (And.intro jS mS)
    clear jS mS
    go_loopw [10, 11] (fun v i wr => ∃ (k g : Nat) (s0 s1 s2 s3 : Bool), k ≤ L.length ∧ i = .int .i64 k ∧ v = .slice (some ⟨g, 0, none⟩) 4 4 ∧ Below V4.heap.size V4 wr ∧ wr.heap[g]? = some (.cells #[.bool s0, .bool s1, .bool s2, .bool s3] 4 (0, 0)) ∧
      s0 = anyB (fun i => (ptG L i).lo == a.lo) k ∧ s1 = anyB (fun i => (ptG L i).lo == b.lo) k ∧ s2 = anyB (fun i => (ptG L i).hi == a.hi) k ∧ s3 = anyB (fun i => (ptG L i).hi == b.hi) k) (fun _ i _ => L.length - (intOf i).toNat)
    case atStart => exact ⟨0, w4.heap.size + 1 + 1, false, false, false, false, Nat.zero_le _, rfl, rfl, HS.out.1, by rw [← HZ4.out]; exact HS.out.2, rfl, rfl, rfl, rfl⟩
    case round =>
      obtain ⟨k, g, s0, s1, s2, s3, hk, rfl, rfl, hbl, hrow, q0, q1, q2, q3⟩ := hrel
      by_cases hlt : k < L.length
      · have hki : (k : Int) < (L.length : Int) := by omega
        obtain ⟨d, off, hA, hbb, hc⟩ := (K4.out.2.1.step hbl).corner (by omega)
        subst hA
        obtain ⟨d1, d2⟩ := hc k hlt
        have hin := box_in HX.out.1 k
        rw [← HX.out.2.1, ← HX.out.2.2] at hin
        obtain ⟨p, hp⟩ : ∃ p, p = ptG L k := ⟨_, rfl⟩
        rw [← hp] at d1 d2 hin
        obtain ⟨i1, i2, i3, i4⟩ := hin
        have e1 : decide (p.lo < a.lo) = false := decide_eq_false (by omega)
        have e2 : decide (b.lo < p.lo) = false := decide_eq_false (by omega)
        have e3 : decide (p.hi < a.hi) = false := decide_eq_false (by omega)
        have e4 : decide (b.hi < p.hi) = false := decide_eq_false (by omega)
        obtain ⟨t0, ht0⟩ : ∃ t, (p.lo == a.lo) = t := ⟨_, rfl⟩
        obtain ⟨t1, ht1⟩ : ∃ t, (p.lo == b.lo) = t := ⟨_, rfl⟩
        obtain ⟨t2, ht2⟩ : ∃ t, (p.hi == a.hi) = t := ⟨_, rfl⟩
        obtain ⟨t3, ht3⟩ : ∃ t, (p.hi == b.hi) = t := ⟨_, rfl⟩
        have jP : Below wr.heap.size wr (wr.alloc (.cells #[.int .i64 p.lo, .int .i64 p.hi] 27)) := (Below.refl _ _).alloc (Nat.le_refl _) _
        have mP := PtAt.new wr p
        have hg := (Array.getElem?_eq_some_iff.1 hrow).1
        have mA := K4.out.2.2.1.step hbl
        have mB := K4.out.2.2.2.1.step hbl
        have HV := Lib.hid (And.intro (below_step hbl jP) (And.intro ((jP.block g hg).trans hrow) (And.intro mP (And.intro (mA.step jP) (mB.step jP)))))
        have HQ := Lib.hid (And.intro (show (s0 || t0) = anyB (fun i => (ptG L i).lo == a.lo) (k + 1) by rw [q0, ← ht0, hp]; rfl) (And.intro (show (s1 || t1) = anyB (fun i => (ptG L i).lo == b.lo) (k + 1) by rw [q1, ← ht1, hp]; rfl) (And.intro (show (s2 || t2) = anyB (fun i => (ptG L i).hi == a.hi) (k + 1) by rw [q2, ← ht2, hp]; rfl) (show (s3 || t3) = anyB (fun i => (ptG L i).hi == b.hi) (k + 1) by rw [q3, ← ht3, hp]; rfl))))
        obtain ⟨a1, a2⟩ := mA.cells
        obtain ⟨b1, b2⟩ := mB.cells
        obtain ⟨a3, a4⟩ := (mA.step jP).cells
        obtain ⟨b3, b4⟩ := (mB.step jP).cells
        clear mA mB mP jP hrow q0 q1 q2 q3 hbl hc hp
        go_wp2_with fail
        generalize wr.alloc (.cells #[.int .i64 p.lo, .int .i64 p.hi] 27) = V at HV a3 a4 b3 b4 ⊢
        obtain ⟨p1, p2⟩ := HV.out.2.2.1.cells
        have g0 := cell_of_row _ _ 0 _ _ _ HV.out.2.1
        have g1 := cell_of_row _ _ 1 _ _ _ HV.out.2.1
        have g2 := cell_of_row _ _ 2 _ _ _ HV.out.2.1
        have g3 := cell_of_row _ _ 3 _ _ _ HV.out.2.1
        clear a1 a2 b1 b2
        have HE := Lib.hid (show ∀ (W : World) (x0 x1 x2 x3 : Bool), Below V.heap.size V W → Below V4.heap.size V4 (W.alloc (.cells #[.bool x0, .bool x1, .bool x2, .bool x3] 4)) ∧ (W.alloc (.cells #[.bool x0, .bool x1, .bool x2, .bool x3] 4)).heap[W.heap.size]? = some (.cells #[.bool x0, .bool x1, .bool x2, .bool x3] 4 (0, 0)) from fun W x0 x1 x2 x3 hb => ⟨below_step HV.out.1 (hb.alloc hb.size _), heap_alloc_new W _⟩)
        have hx0 := ext_cell (w := V) (Array.getElem?_eq_some_iff.1 HV.out.2.1).1
        have hx1 := ext_cell (w := V) HV.out.2.2.1.lt
        have hx2 := ext_cell (w := V) HV.out.2.2.2.1.lt
        have hx3 := ext_cell (w := V) HV.out.2.2.2.2.lt
        cases s0 <;> cases s1 <;> cases s2 <;> cases s3
        all_goals
          refine region_quiet_tail V.heap.size 40 (by kernel_rfl) (by kernel_rfl) ?_
          simp only [List.take_succ_cons, List.take_zero, List.drop_succ_cons, List.drop_zero]
          repeat (go_big_quiet_step (fail))
          refine wpQuiet_nil ?_
          rintro _ ⟨W, rfl⟩
          clear hx0 hx1 hx2 hx3 g0 g1 g2 g3 a3 a4 b3 b4 p1 p2
          go_wp2_with fail
          go_roundw
          case rel => exact ⟨k + 1, W.val.heap.size, _, _, _, _, by omega, by go_num, rfl, (HE.out W.val _ _ _ _ W.below).1, (HE.out W.val _ _ _ _ W.below).2, HQ.out.1, HQ.out.2.1, HQ.out.2.2.1, HQ.out.2.2.2⟩
          case measure => simp [intOf]; omega
      · obtain rfl : k = L.length := by omega
        obtain ⟨⟨x0, y0, z0⟩, ⟨x1, y1, z1'⟩, ⟨x2, y2, z2⟩, ⟨x3, y3, z3⟩⟩ := box_at HX.out.1
        rw [← HX.out.2.1] at z0 z2
        rw [← HX.out.2.2] at z1' z3
        obtain rfl : s0 = true := by rw [q0]; exact anyB_of y0 (by rw [beq_iff_eq]; exact z0)
        obtain rfl : s1 = true := by rw [q1]; exact anyB_of y1 (by rw [beq_iff_eq]; exact z1')
        obtain rfl : s2 = true := by rw [q2]; exact anyB_of y2 (by rw [beq_iff_eq]; exact z2)
        obtain rfl : s3 = true := by rw [q3]; exact anyB_of y3 (by rw [beq_iff_eq]; exact z3)
        have hbx := area_in_box HX.out.1
        have rg := box_range HX.out.1
        have bi := box_in HX.out.1 0
        rw [← HX.out.2.1, ← HX.out.2.2] at hbx rg bi
        obtain ⟨ar, har⟩ : ∃ ar, ar = areaS L := ⟨_, rfl⟩
        rw [← har] at hbx
        obtain ⟨u, hu⟩ : ∃ u, b.lo - a.lo = u := ⟨_, rfl⟩
        obtain ⟨v, hv⟩ : ∃ v, b.hi - a.hi = v := ⟨_, rfl⟩
        rw [hu, hv] at hbx
        obtain ⟨m, hm⟩ : ∃ m, 2 * u = m := ⟨_, rfl⟩
        rw [hm] at hbx
        have hmb := mul_small (u := m) (v := v) (K := 200000) (by omega) (by omega) (by omega) (by omega) rfl
        obtain ⟨n, hn2⟩ : ∃ n, m * v = n := ⟨_, rfl⟩
        rw [hn2] at hbx hmb
        have o1 : IntKind.i64.wrap u = u := by rw [IntKind.wrap_i64]; omega
        have o2 : IntKind.i64.wrap v = v := by rw [IntKind.wrap_i64]; omega
        have o3 : IntKind.i64.wrap m = m := by rw [IntKind.wrap_i64]; omega
        have o4 : IntKind.i64.wrap n = n := by rw [IntKind.wrap_i64]; omega
        have ele : decide (ar ≤ n) = true := decide_eq_true hbx
        have cells : ∀ W : World, Below wr.heap.size wr W → W.cell? ⟨g, 0, none⟩ = some (.bool true) ∧ W.cell? ⟨g, 1, none⟩ = some (.bool true) ∧ W.cell? ⟨g, 2, none⟩ = some (.bool true) ∧ W.cell? ⟨g, 3, none⟩ = some (.bool true) ∧
            W.cell? ⟨w3.heap.size, 0, none⟩ = some (.int .i64 a.lo) ∧ W.cell? ⟨w3.heap.size, 1, none⟩ = some (.int .i64 a.hi) ∧ W.cell? ⟨w3.heap.size + 1, 0, none⟩ = some (.int .i64 b.lo) ∧ W.cell? ⟨w3.heap.size + 1, 1, none⟩ = some (.int .i64 b.hi) := by
          intro W hW
          have r := (hW.block g (Array.getElem?_eq_some_iff.1 hrow).1).trans hrow
          obtain ⟨x1, x2⟩ := ((K4.out.2.2.1.step hbl).step hW).cells
          obtain ⟨x3, x4⟩ := ((K4.out.2.2.2.1.step hbl).step hW).cells
          exact ⟨cell_of_row _ _ 0 _ _ _ r, cell_of_row _ _ 1 _ _ _ r, cell_of_row _ _ 2 _ _ _ r, cell_of_row _ _ 3 _ _ _ r, x1, x2, x3, x4⟩
        have hV0 := cells wr (Below.refl _ _)
        have hV1 := cells wr.drew (below_draws (Below.refl _ _) 1)
        have HC := Lib.hid cells
        have HB := Lib.hid (And.intro hbl har)
        obtain ⟨e1, e2, e3, e4, e5, e6, e7, e8⟩ := hV0
        clear cells hbl har hbx hrow q0 q1 q2 q3 x0 y0 z0 x1 y1 z1' x2 y2 z2 x3 y3 z3
        go_wp2_with fail
        go_region_held3 (fun W => W.cell? ⟨g, 0, none⟩ = some (.bool true) ∧ W.cell? ⟨g, 1, none⟩ = some (.bool true) ∧ W.cell? ⟨g, 2, none⟩ = some (.bool true) ∧ W.cell? ⟨g, 3, none⟩ = some (.bool true) ∧
            W.cell? ⟨w3.heap.size, 0, none⟩ = some (.int .i64 a.lo) ∧ W.cell? ⟨w3.heap.size, 1, none⟩ = some (.int .i64 a.hi) ∧ W.cell? ⟨w3.heap.size + 1, 0, none⟩ = some (.int .i64 b.lo) ∧ W.cell? ⟨w3.heap.size + 1, 1, none⟩ = some (.int .i64 b.hi))
          (first
            | assumption
            | exact ⟨e1, e2, e3, e4, e5, e6, e7, e8⟩
            | exact hV1
            | exact hV6)
          (first
            | (go_at_call 20
               refine (iShArea_any _ _ L _ (K4.out.2.1.step (below_step HB.out.1 (below_draws (Below.refl _ _) 1))) (by omega)).mono ?_
               rw [← HB.out.2]
               rintro e w6 ⟨rfl, hb6⟩
               have hV6 := HC.out w6 (below_step (below_draws (Below.refl _ _) 1) hb6)
               have KE := Lib.hid (below_step (below_step HB.out.1 (below_draws (Below.refl _ _) 1)) hb6)
               clear hb6))
        all_goals (go_wp2_with fail)
        all_goals go_ret
        all_goals exact ⟨rfl, below_step K4.out.1 KE.out⟩
set_option maxRecDepth 100000 in
theorem walk (A : Option Addr) (c : Nat) (z : List Int) (w : World) (h1 : z.length ≤ c) (h2 : Reads w w.heap.size 1 A z.length (cellsB z)) (h3 : ∀ b ∈ z, 0 ≤ b ∧ b ≤ 255) (h4 : c ≤ maxLen) :
    Calls Try.prog 4 #[.slice A z.length c] w fun e w2 => e = .returned (.bool true) ∧ Below w.heap.size w w2 := by
  by_cases hn : z.length ≤ 1048576
  · exact walk_short A c z w (Bytes.mk_ h1 h2 h3 h4) hn
  · have e0 : decide ((1048576 : Int) < (z.length : Int)) = true := decide_eq_true (by omega)
    go_enter Try.func4, Try.ntmps4
    go_wp2_with fail
    go_ret
    exact ⟨rfl, Below.refl _ _⟩

set_option linter.unusedVariables false
set_option maxRecDepth 100000 in
theorem lifted (os : Os) (started : os.Started) (H : Type) (enc : TypeId × Value → H) :
    ReturnsInHanded {} Try.checked os 4 .any (Rows.fnShapeBoxSpec.pre6 enc Try.prog Try.f4 Rows.fnShapeBoxRow.domain false) (Rows.fnShapeBoxSpec.post enc Try.prog Try.f4 false true false false) := by
  refine returnsInHanded_of_change (C := Try.checked) lawOwn started (by kernel_rfl) Try.func4
    (ChangeSpec.witness6 (enc := enc) (C := Try.checked) false ⟨#[], #[.slice none 0 0], []⟩ 8 (by kernel_rfl) (by kernel_rfl) (by kernel_rfl) (by kernel_rfl)) ?_
  intro W base args ds gs before hval0 hW hcnd _
  have hval : ∀ (j : Nat) t v, Try.f4.params[j]? = some t → args[j]? = some v → Value.okWide Try.prog W .any base t v := hval0
  have hW' := hW
  obtain ⟨p, q, hA0, hV, rfl, hfz, hnd⟩ := hW
  have hA : DataW.TrodAll enc Try.prog W 0 (fun _ => true) true Try.f4.params.toList args.toList ds p := hA0
  rw [Try.params4] at hA hval
  obtain ⟨v0, vs0, d0, ds0, p0, q0, hargs, rfl, rfl, h0, r0⟩ := trodAll_cons hA
  obtain ⟨rfl, rfl, rfl⟩ := trodAll_nil r0
  obtain rfl : args = #[v0] := by cases args; simp_all
  obtain ⟨rfl, rfl⟩ := trodVars_none hV
  have k0 := h0
  have lt0 : ∀ x ∈ p0, x.block < W.heap.size := by obtain ⟨m, hm⟩ := k0; exact DataW.trod_lt m _ _ _ hm
  obtain ⟨a0, len0, cap0, rfl⟩ := okWide_slice Try.underlying22 (hval 0 22 v0 rfl rfl)
  obtain ⟨z0, hl0, hc0, hr0, hb0, hm0⟩ : ∃ z : List Int, len0 = z.length ∧ len0 ≤ cap0 ∧ Reads W W.heap.size 1 a0 len0 (cellsB z) ∧ (∀ b ∈ z, 0 ≤ b ∧ b ≤ 255) ∧ cap0 ≤ maxLen := by
    obtain ⟨fuel, hf⟩ := h0
    exact open_bytes Try.underlying22 Try.underlying5 (by kernel_rfl) (by simpa [Value.cells] using hf)
  subst hl0
  clear hA0 hval0
  refine (walk a0 cap0 z0 W hc0 hr0 hb0 hm0).mono fun e W' ⟨he, bel⟩ => ?_
  subst he
  exact ⟨_, rfl, _, _, _, [], _, [], hW', trodAll_mk1 (shut_bool Try.underlying4 _), (trodAll_cons_mk (Below.trod lawLaid (by kernel_rfl) (of_decide_eq_true (by kernel_rfl)) k0 bel lt0) trodAll_mk0), rfl, bel.frame _, fun h => by cases h⟩

theorem closed : joinedFacts Try.checked.prog 4 Try.f4 Rows.fnShapeBoxSpec Rows.fnShapeBoxRow = true := by
  unfold joinedFacts
  repeat (refine and_t ?_ (by first | (with_reducible exact ent) | (with_reducible refine lif_c ?_; kernel_rfl) | (with_reducible refine mak_c ?_; kernel_rfl) | kernel_rfl))
  kernel_rfl
theorem proved : Rows.FnShapeBoxSaid :=
  OpenClaim.holds_of_wide 4 Try.f4 rfl rfl rfl rfl rfl rfl rfl ⟨rfl, rfl, rfl, rfl, rfl⟩ rfl rfl rfl rfl rfl (by kernel_rfl) Try.func4 closed
    (of_decide_eq_true (by kernel_rfl)) (by unfold Func.isWrapper; rw [if_neg (of_decide_eq_false (by kernel_rfl))]; exact ⟨rfl, rfl⟩)
    (fun os started H enc _ => lifted os started H enc)
#print axioms proved
end Go.Proofs.Ytfkfjkhikgnnaaa.lawShapeBox
