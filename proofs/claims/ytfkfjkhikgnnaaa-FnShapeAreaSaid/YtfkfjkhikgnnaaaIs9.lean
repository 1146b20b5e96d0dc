/- The program's moved list. -/
import Derived.Test.YtfkfjkhikgnnaaaIs7
namespace Go.Proofs.Ytfkfjkhikgnnaaa
open Go.RowKit

set_option maxHeartbeats 8000000 in
set_option maxRecDepth 100000 in
theorem iShMove_any (A : Option Addr) (cap : Nat) (L : List Sp) (x y : Int) (w : World) (hr : Reads w w.heap.size 2 A L.length (cellsS L)) (hl : L.length ≤ 1000000000) :
    Calls Try.prog 32 #[.slice A L.length cap, .int .i64 x, .int .i64 y] w (PairP w (moveG L x y) (moveOk L x y)) := by
  have hV := iShapeOf_any A cap L w hr hl
  unfold ShapeR at hV
  have no : ∀ {w2 : World}, moveOk L x y = false → Below w.heap.size w w2 → PairP w (moveG L x y) (moveOk L x y) (.returned (.tuple #[.slice none 0 0, .bool false])) w2 := by
    intro w2 hn hb2
    have e : moveG L x y = [] := by simp [moveG, hn]
    unfold PairP
    rw [hn, e]
    exact ⟨_, rfl, hb2, World.ownsRow_nil _ _ _ _⟩
  cases h1 : okSh L
  · rw [h1] at hV
    have H := Lib.hid (And.intro hV (And.intro (by simp [moveOk, h1] : moveOk L x y = false) @no))
    clear hV h1 hr no
    go_enter Try.func32, Try.ntmps32
    go_wp2_with (first
      | (go_at_call 47; go_must (refine H.out.1.mono ?_); rintro e w2 ⟨c, q, rfl, k2, ⟨n, hz⟩, hok⟩)
      | (refine wpList_store_all rfl 57 _ _ rfl w2.heap.size 57 #[.int .i64 0, .int .i64 0, .int .i64 0, .int .i64 0, .int .i64 0, .int .i64 0, .int .i64 0, .int .i64 0, .int .i64 0, .int .i64 0, .int .i64 0, .int .i64 0, .int .i64 0, .int .i64 0, .int .i64 0, .int .i64 0, .int .i64 0] c rfl rfl (heap_alloc_new _ _) hz.info hz.sz.symm hz.one ?_))
    go_ret2
    exact H.out.2.2 H.out.2.1 (below_var k2)
  · rw [h1] at hV
    cases q1 : inR x (-99) 99
    · have hX := iInP_any x (-99) 99
      rw [q1] at hX
      have H := Lib.hid (And.intro hV (And.intro (by simp [moveOk, q1] : moveOk L x y = false) (And.intro hX @no)))
      clear hV h1 hr no hX q1
      go_enter Try.func32, Try.ntmps32
      go_wp2_with (first
        | (go_at_call 47; go_must (refine H.out.1.mono ?_); rintro e w2 ⟨c, q, rfl, k2, ⟨n, hz⟩, hok⟩)
        | (refine wpList_store_all rfl 57 _ _ rfl w2.heap.size 57 #[.int .i64 0, .int .i64 0, .int .i64 0, .int .i64 0, .int .i64 0, .int .i64 0, .int .i64 0, .int .i64 0, .int .i64 0, .int .i64 0, .int .i64 0, .int .i64 0, .int .i64 0, .int .i64 0, .int .i64 0, .int .i64 0, .int .i64 0] c rfl rfl (heap_alloc_new _ _) hz.info hz.sz.symm hz.one ?_)
        | (go_at_call 57; go_must (refine (H.out.2.2.1 _).mono ?_); rintro e w3 ⟨rfl, rfl⟩))
      go_ret2
      exact H.out.2.2.2 H.out.2.1 (below_var k2)
    · have hX := iInP_any x (-99) 99
      rw [q1] at hX
      cases q2 : inR y (-99) 99
      · have hY := iInP_any y (-99) 99
        rw [q2] at hY
        have H := Lib.hid (And.intro hV (And.intro (by simp [moveOk, q2] : moveOk L x y = false) (And.intro hX (And.intro hY @no))))
        clear hV h1 hr no hX hY q1 q2
        go_enter Try.func32, Try.ntmps32
        go_wp2_with (first
          | (go_at_call 47; go_must (refine H.out.1.mono ?_); rintro e w2 ⟨c, q, rfl, k2, ⟨n, hz⟩, hok⟩)
          | (refine wpList_store_all rfl 57 _ _ rfl w2.heap.size 57 #[.int .i64 0, .int .i64 0, .int .i64 0, .int .i64 0, .int .i64 0, .int .i64 0, .int .i64 0, .int .i64 0, .int .i64 0, .int .i64 0, .int .i64 0, .int .i64 0, .int .i64 0, .int .i64 0, .int .i64 0, .int .i64 0, .int .i64 0] c rfl rfl (heap_alloc_new _ _) hz.info hz.sz.symm hz.one ?_)
          | (go_at_call 57; with_reducible refine (H.out.2.2.1 _).mono ?_; rintro e w3 ⟨rfl, rfl⟩)
          | (go_at_call 57; refine (H.out.2.2.2.1 _).mono ?_; rintro e w3 ⟨rfl, rfl⟩))
        go_ret2
        exact H.out.2.2.2.2 H.out.2.1 (below_var k2)
      · have hY := iInP_any y (-99) 99
        rw [q2] at hY
        have hmo : moveOk L x y = okSh (moveL L x y) := by simp [moveOk, h1, q1, q2]
        have hml := moveL_len L x y
        have hMv : ∀ (c : Array Value) (q : Nat → Sp) (W : World), ShC c q L.length → Fits q L → Calls Try.prog 58 #[.agg c, .int .i64 x, .int .i64 y] W fun e w2 => ∃ c' q', e = .returned (.agg c') ∧ Below W.heap.size W w2 ∧ ShC c' q' L.length ∧ Fits q' (moveL L x y) := by
          intro c q W hz hf
          refine (iMoved_any hz (okSh_parts h1).2.1 (fun k hk => by rw [hf k hk]; exact inP_pt h1 k) q1 q2 W).mono ?_
          rintro e w2 ⟨c', q', e1, e2, e3, e4⟩
          refine ⟨c', q', e1, e2, e3, fun k hk => ?_⟩
          rw [hml] at hk
          rw [e4 k hk, hf k hk, moveL_pt (by omega)]
        have hLs : ∀ (c : Array Value) (q : Nat → Sp) (W : World), ShC c q L.length → Fits q (moveL L x y) → Calls Try.prog 59 #[.agg c] W fun e w2 => ∃ v, e = .returned v ∧ Below W.heap.size W w2 ∧ w2.ownsRow W.heap.size 27 2 v (moveL L x y).length (cellsS (moveL L x y)) :=
          fun c q W hz hf => iList_any hz hf hml.symm (okSh_parts h1).2.1 W
        have hV2 := fun (A2 : Option Addr) (c2 : Nat) (W : World) (h : Reads W W.heap.size 2 A2 (moveL L x y).length (cellsS (moveL L x y))) => iShValid_any A2 c2 (moveL L x y) W h (by omega)
        obtain ⟨m, hm⟩ : ∃ m, m = moveL L x y := ⟨_, rfl⟩
        obtain ⟨ok, hok⟩ : ∃ ok, ok = okSh (moveL L x y) := ⟨_, rfl⟩
        rw [← hok] at hmo hV2
        rw [← hm] at hMv hLs hV2
        cases ok
        · have H := Lib.hid (And.intro hV (And.intro hmo (And.intro hX (And.intro hY (And.intro hMv (And.intro hLs (And.intro hV2 @no)))))))
          clear hV h1 hr no hX hY q1 q2 hMv hLs hV2 hmo hml hm hok
          go_enter Try.func32, Try.ntmps32
          go_wp2_with (first
            | (go_at_call 47; go_must (refine H.out.1.mono ?_); rintro e w2 ⟨c, q, rfl, k2, ⟨n, hz⟩, hok⟩
               have K2 := Lib.hid (And.intro hz (And.intro (hok rfl) (below_var (o := .cells #[.int .i64 0, .int .i64 0, .int .i64 0, .int .i64 0, .int .i64 0, .int .i64 0, .int .i64 0, .int .i64 0, .int .i64 0, .int .i64 0, .int .i64 0, .int .i64 0, .int .i64 0, .int .i64 0, .int .i64 0, .int .i64 0, .int .i64 0] 57) (c := c) k2)))
               clear hz hok k2)
            | (refine wpList_store_all rfl 57 _ _ rfl w2.heap.size 57 #[.int .i64 0, .int .i64 0, .int .i64 0, .int .i64 0, .int .i64 0, .int .i64 0, .int .i64 0, .int .i64 0, .int .i64 0, .int .i64 0, .int .i64 0, .int .i64 0, .int .i64 0, .int .i64 0, .int .i64 0, .int .i64 0, .int .i64 0] c rfl rfl (heap_alloc_new _ _) K2.out.1.info K2.out.1.sz.symm K2.out.1.one ?_)
            | (refine wpList_load_row rfl 57 _ rfl w2.heap.size rfl 57 c _ _ (var_at _ _ _ _) Try.underlying57 rfl K2.out.1.info ?_)
            | (go_at_call 57; with_reducible refine (H.out.2.2.1 _).mono ?_; rintro e w3 ⟨rfl, rfl⟩)
            | (go_at_call 57; refine (H.out.2.2.2.1 _).mono ?_; rintro e w3 ⟨rfl, rfl⟩)
            | (go_at_call 58; refine (H.out.2.2.2.2.1 c q _ K2.out.2.1.1 K2.out.2.1.2).mono ?_; rintro e w3 ⟨c3, q3, rfl, k3, z3, f3⟩
               have K3 := Lib.hid (And.intro (below_step K2.out.2.2 k3) (And.intro z3 f3))
               clear k3 z3 f3)
            | (go_at_call 59; refine (H.out.2.2.2.2.2.1 c3 q3 _ K3.out.2.1 K3.out.2.2).mono ?_; rintro e w4 ⟨v4, rfl, k4, o4⟩
               obtain ⟨A4, c4, rfl, _, r4⟩ := own_slice o4
               have K4 := Lib.hid (And.intro (below_step K3.out.1 k4) (And.intro o4 r4))
               clear k4 o4 r4)
            | (go_at_call 26; refine (H.out.2.2.2.2.2.2.1 A4 c4 _ K4.out.2.2).mono ?_; rintro e w5 ⟨rfl, k5⟩))
          go_ret2
          exact H.out.2.2.2.2.2.2.2 H.out.2.1 (below_step K4.out.1 k5)
        · have H := Lib.hid (And.intro hV (And.intro hmo (And.intro hX (And.intro hY (And.intro hMv (And.intro hLs (And.intro hV2 (show moveG L x y = m from by unfold moveG; rw [hmo, if_pos rfl, hm]))))))))
          clear hV h1 hr no hX hY q1 q2 hMv hLs hV2 hmo hml hm hok
          go_enter Try.func32, Try.ntmps32
          go_wp2_with (first
            | (go_at_call 47; go_must (refine H.out.1.mono ?_); rintro e w2 ⟨c, q, rfl, k2, ⟨n, hz⟩, hok⟩
               have K2 := Lib.hid (And.intro hz (And.intro (hok rfl) (below_var (o := .cells #[.int .i64 0, .int .i64 0, .int .i64 0, .int .i64 0, .int .i64 0, .int .i64 0, .int .i64 0, .int .i64 0, .int .i64 0, .int .i64 0, .int .i64 0, .int .i64 0, .int .i64 0, .int .i64 0, .int .i64 0, .int .i64 0, .int .i64 0] 57) (c := c) k2)))
               clear hz hok k2)
            | (refine wpList_store_all rfl 57 _ _ rfl w2.heap.size 57 #[.int .i64 0, .int .i64 0, .int .i64 0, .int .i64 0, .int .i64 0, .int .i64 0, .int .i64 0, .int .i64 0, .int .i64 0, .int .i64 0, .int .i64 0, .int .i64 0, .int .i64 0, .int .i64 0, .int .i64 0, .int .i64 0, .int .i64 0] c rfl rfl (heap_alloc_new _ _) K2.out.1.info K2.out.1.sz.symm K2.out.1.one ?_)
            | (refine wpList_load_row rfl 57 _ rfl w2.heap.size rfl 57 c _ _ (var_at _ _ _ _) Try.underlying57 rfl K2.out.1.info ?_)
            | (go_at_call 57; with_reducible refine (H.out.2.2.1 _).mono ?_; rintro e w3 ⟨rfl, rfl⟩)
            | (go_at_call 57; refine (H.out.2.2.2.1 _).mono ?_; rintro e w3 ⟨rfl, rfl⟩)
            | (go_at_call 58; refine (H.out.2.2.2.2.1 c q _ K2.out.2.1.1 K2.out.2.1.2).mono ?_; rintro e w3 ⟨c3, q3, rfl, k3, z3, f3⟩
               have K3 := Lib.hid (And.intro (below_step K2.out.2.2 k3) (And.intro z3 f3))
               clear k3 z3 f3)
            | (go_at_call 59; refine (H.out.2.2.2.2.2.1 c3 q3 _ K3.out.2.1 K3.out.2.2).mono ?_; rintro e w4 ⟨v4, rfl, k4, o4⟩
               obtain ⟨A4, c4, rfl, _, r4⟩ := own_slice o4
               have K4 := Lib.hid (And.intro (below_step K3.out.1 k4) (And.intro (own_less o4 K3.out.1.size) r4))
               clear k4 o4 r4)
            | (go_at_call 26; refine (H.out.2.2.2.2.2.2.1 A4 c4 _ K4.out.2.2).mono ?_; rintro e w5 ⟨rfl, k5⟩))
          go_ret2
          unfold PairP
          rw [H.out.2.1, H.out.2.2.2.2.2.2.2]
          exact ⟨_, rfl, below_step K4.out.1 k5, own_below K4.out.2.1 k5⟩
end Go.Proofs.Ytfkfjkhikgnnaaa
