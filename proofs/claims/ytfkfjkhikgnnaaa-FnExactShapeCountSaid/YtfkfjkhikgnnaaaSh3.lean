/- The model's moved shapes. -/
import Derived.Test.YtfkfjkhikgnnaaaSh2
import Derived.Test.YtfkfjkhikgnnaaaTriPoint
import Derived.Deep.RegionHeld3
namespace Go.Proofs.Ytfkfjkhikgnnaaa
open Go.RowKit

/-- A row of points of the call's own, and a word. -/
def PairP (w : World) (m : List Sp) (b : Bool) (e : Ending) (w2 : World) : Prop :=
  ∃ v, e = .returned (.tuple #[v, .bool b]) ∧ Below w.heap.size w w2 ∧ w2.ownsRow w.heap.size 27 2 v m.length (cellsS m)
theorem own_emptyP {w : World} {base g : Nat} (hb : base ≤ w.heap.size) (hg : g = w.heap.size) : (w.alloc (.cells #[] 27)).ownsRow base 27 2 (.slice (some ⟨g, 0, none⟩) 0 0) ([] : List Sp).length (cellsS []) := own_empty hb hg
def moveW (L : List Sp) (x y : Int) : List Sp := L.map fun p => ⟨wrap64 (p.lo + x), wrap64 (p.hi + y)⟩
theorem moveW_len (L : List Sp) (x y : Int) : (moveW L x y).length = L.length := by simp [moveW]
theorem moveW_eq {L : List Sp} {x y : Int} (h : okSh L = true) (hx : inR x (-99) 99 = true) (hy : inR y (-99) 99 = true) : moveW L x y = moveL L x y := by
  simp only [inR, Bool.and_eq_true, decide_eq_true_eq] at hx hy
  refine List.map_congr_left fun p hp => ?_
  have := inP_iff.1 ((okSh_parts h).2.2 p hp)
  rw [IntWalk.wrap64_in _ (by omega), IntWalk.wrap64_in _ (by omega)]
set_option maxHeartbeats 4000000 in
set_option maxRecDepth 100000 in
theorem sShMove_any (A : Option Addr) (cap : Nat) (L : List Sp) (x y : Int) (w : World) (hr : Reads w w.heap.size 2 A L.length (cellsS L)) (hl : L.length ≤ 1000000000) :
    Calls Try.prog 33 #[.slice A L.length cap, .int .i64 x, .int .i64 y] w (PairP w (moveG L x y) (moveOk L x y)) := by
  obtain ⟨i0, hi0, hz0, hz1, hz2⟩ := info_parts infoPoint
  have H := Lib.hid hr
  clear hr
  have hb1 : Below w.heap.size w (w.alloc (.cells #[] 27)) := (Below.refl _ _).alloc (Nat.le_refl _) _
  have ho1 : (w.alloc (.cells #[] 27)).ownsRow w.heap.size 27 2 (.slice (some ⟨w.heap.size, 0, none⟩) 0 0) 0 (cellsS ((moveW L x y).take 0)) := own_empty (Nat.le_refl _) rfl
  have H1 := Lib.hid (And.intro hb1 ho1)
  clear hb1 ho1
  go_enter Try.func33, Try.ntmps33
  go_wp2_with fail
  go_loopw [8, 9] (fun v i wr => ∃ k : Nat, k ≤ L.length ∧ i = .int .i64 k ∧ Below w.heap.size w wr ∧ wr.ownsRow w.heap.size 27 2 v k (cellsS ((moveW L x y).take k))) (fun _ i _ => L.length - (intOf i).toNat)
  case atStart => exact ⟨0, Nat.zero_le _, rfl, H1.out.1, H1.out.2⟩
  case round =>
    obtain ⟨k, hk, rfl, hbl, hown⟩ := hrel
    have hsz := hbl.size
    by_cases hlt : k < L.length
    · have hki : (k : Int) < (L.length : Int) := by omega
      obtain ⟨b, off, hA, hbb, hc⟩ := H.out.corner (by omega)
      subst hA
      obtain ⟨d1, d2⟩ := hc k hlt
      obtain ⟨p, hp⟩ : ∃ p, p = ptG L k := ⟨_, rfl⟩
      rw [← hp] at d1 d2
      obtain ⟨xx, hwx⟩ : ∃ xx, IntKind.i64.wrap (p.lo + x) = xx := ⟨_, rfl⟩
      obtain ⟨yy, hwy⟩ : ∃ yy, IntKind.i64.wrap (p.hi + y) = yy := ⟨_, rfl⟩
      have hnx : (moveW L x y).take (k + 1) = (moveW L x y).take k ++ [⟨xx, yy⟩] := by
        rw [List.take_add_one, moveW, List.getElem?_map, ptG_get hlt, ← hp, ← hwx, ← hwy, IntWalk.i64_left, IntWalk.i64_left]
        rfl
      have hbD := below_draws (Below.refl wr.heap.size wr) 1
      have bA : Below wr.heap.size wr ((wr.drewN 1).alloc (.cells #[.int .i64 xx, .int .i64 yy] 27)) := hbD.alloc hbD.size _
      have cells : ∀ W : World, Below w.heap.size w W → W.cell? ⟨b, off + k * 2, none⟩ = some (.int .i64 p.lo) ∧ W.cell? ⟨b, off + k * 2 + 1, none⟩ = some (.int .i64 p.hi) := fun W hW => ⟨(hW.cell hbb).trans d1, (hW.cell hbb).trans d2⟩
      have rA : Reads ((wr.drewN 1).alloc (.cells #[.int .i64 xx, .int .i64 yy] 27)) (wr.heap.size + 1) 2 (some ⟨wr.heap.size, 0, none⟩) 1 (cellsS [⟨xx, yy⟩]) := readsS_one (w := wr.drewN 1) (c := ⟨xx, yy⟩) (by show wr.heap.size < wr.heap.size + 1; omega)
      have oA := own_below hown bA
      have HS := Lib.hid (And.intro (cells _ (below_step hbl hbD)) (And.intro (cells _ (below_step hbl bA)) cells))
      have d1 := (cells _ hbl).1
      have d2 := (cells _ hbl).2
      have HI := Lib.hid (And.intro hbl (And.intro bA (And.intro oA (And.intro rA hnx))))
      clear hbl hown bA oA rA hnx cells hbD hc hp
      go_wp2_with fail
      go_region_held3 (fun w' => w'.cell? ⟨b, off + k * 2, none⟩ = some (.int .i64 p.lo) ∧ w'.cell? ⟨b, off + k * 2 + 1, none⟩ = some (.int .i64 p.hi))
        (first
          | assumption
          | exact ⟨d1, d2⟩
          | exact HS.out.1
          | exact HS.out.2.1
          | exact HS.out.2.2 _ K8.out.1)
        (first
          | (refine step_append_want ((wr.drewN 1).alloc (.cells #[.int .i64 xx, .int .i64 yy] 27)) (by rfl) (.tmp 17) (.tmp 33) _ (by rfl) w.heap.size 27 i0 _ 2 16 Try.underlying23 hi0 hz0 hz1 hz2 rfl (by omega) u8 k (cellsS ((moveW L x y).take k)) (by rfl) HI.out.2.2.1 _ _ 1 _ (cellsS [⟨xx, yy⟩]) (by rfl) HI.out.2.2.2.1 (cellsS_one _) (by simp only [maxLen]; omega) (by omega) (Nat.le_trans hsz HI.out.2.1.size) ?_
             intro v8 w8 hown8 hg8 hat8
             have b8 : Below w.heap.size w w8 := (below_step HI.out.1 HI.out.2.1).trans (app_below0 HI.out.2.2.1 (Nat.le_refl _) (Nat.le_trans hsz HI.out.2.1.size) hg8)
             rw [← cellsS_append, ← HI.out.2.2.2.2] at hown8
             have K8 := Lib.hid (And.intro b8 hown8)
             clear b8 hown8 hg8 hat8))
      go_wp2_with fail
      go_roundw
      case rel => exact ⟨k + 1, by omega, by go_num, K8.out.1, K8.out.2⟩
      case measure => simp [intOf]; omega
    · have hkn : k = L.length := by omega
      have htk : (moveW L x y).take k = moveW L x y := List.take_of_length_le (by rw [moveW_len]; omega)
      rw [htk] at hown
      obtain ⟨Ao, co, hvo, _, hro⟩ := own_slice hown
      subst hvo
      have hdn : decide ((k : Int) < (L.length : Int)) = false := decide_eq_false (by omega)
      have hV := sShValid_any A cap L wr (H.out.step hbl) hl
      have hb0 : Below w.heap.size w (wr.alloc (.cells #[] 27)) := hbl.alloc hsz _
      have no : ∀ {w2 : World} {g : Nat}, moveOk L x y = false → Below w.heap.size w w2 → g = w2.heap.size → PairP w (moveG L x y) (moveOk L x y) (.returned (.tuple #[.slice (some ⟨g, 0, none⟩) 0 0, .bool false])) (w2.alloc (.cells #[] 27)) := by
        intro w2 g hn hb2 hg
        have e : moveG L x y = [] := by simp [moveG, hn]
        unfold PairP
        rw [hn, e]
        exact ⟨_, rfl, hb2.alloc hb2.size _, own_emptyP hb2.size hg⟩
      cases h1 : okSh L
      · rw [h1] at hV
        have HN := Lib.hid (And.intro hV (And.intro (by simp [moveOk, h1] : moveOk L x y = false) (And.intro hbl @no)))
        clear hV hown hro hb0 hbl h1 no hkn htk
        go_wp2_with (go_at_call 27; go_must (refine HN.out.1.mono ?_); rintro e w2 ⟨rfl, k2⟩)
        go_ret2
        exact HN.out.2.2.2 HN.out.2.1 (below_step HN.out.2.2.1 k2) rfl
      · rw [h1] at hV
        cases q1 : inR x (-99) 99
        · have HN := Lib.hid (And.intro hV (And.intro (by simp [moveOk, q1] : moveOk L x y = false) (And.intro hbl @no)))
          clear hV hown hro hb0 hbl h1 no hkn htk
          go_wp2_with (first
            | (go_at_call 27; go_must (refine HN.out.1.mono ?_); rintro e w2 ⟨rfl, k2⟩)
            | (go_at_call 51; go_must (refine (l6InP_any _ _ _ _).mono ?_); rintro e w3 ⟨rfl, rfl⟩))
          go_ret2
          exact HN.out.2.2.2 HN.out.2.1 (below_step HN.out.2.2.1 k2) rfl
        · cases q2 : inR y (-99) 99
          · have HN := Lib.hid (And.intro hV (And.intro (by simp [moveOk, q2] : moveOk L x y = false) (And.intro hbl @no)))
            clear hV hown hro hb0 hbl h1 no hkn htk
            go_wp2_with (first
              | (go_at_call 27; go_must (refine HN.out.1.mono ?_); rintro e w2 ⟨rfl, k2⟩)
              | (go_at_call 51; go_must (refine (l6InP_any _ _ _ _).mono ?_); rintro e w3 ⟨rfl, rfl⟩))
            go_ret2
            exact HN.out.2.2.2 HN.out.2.1 (below_step HN.out.2.2.1 k2) rfl
          · rw [moveW_eq h1 q1 q2] at hown hro
            have hml : (moveL L x y).length = k := by rw [moveL_len, hkn]
            have hV2 := fun (W : World) (hW : Below wr.heap.size wr W) => sShValid_any Ao co (moveL L x y) W (by rw [hml]; exact hro.step hW) (by omega)
            rw [hml] at hV2
            have hmo : moveOk L x y = okSh (moveL L x y) := by simp [moveOk, h1, q1, q2]
            obtain ⟨ok, hok⟩ : ∃ ok, ok = okSh (moveL L x y) := ⟨_, rfl⟩
            rw [← hok] at hV2 hmo
            cases ok
            · have HN := Lib.hid (And.intro hV (And.intro hmo (And.intro hbl (And.intro @no hV2))))
              clear hV hown hro hb0 hbl h1 no hkn htk hV2 hmo hok hml
              go_wp2_with (first
                | (go_at_call 51; go_must (refine (l6InP_any _ _ _ _).mono ?_); rintro e w3 ⟨rfl, rfl⟩)
                | (go_at_call 27; with_reducible refine HN.out.1.mono ?_; rintro e w2 ⟨rfl, k2⟩; have K2 := Lib.hid k2)
                | (go_at_call 27; refine (HN.out.2.2.2.2 _ K2.out).mono ?_; rintro e w4 ⟨rfl, k4⟩))
              go_ret2
              exact HN.out.2.2.2.1 HN.out.2.1 (below_step HN.out.2.2.1 (below_step K2.out k4)) rfl
            · have HN := Lib.hid (And.intro hV (And.intro hmo (And.intro hbl (And.intro hown (And.intro hV2 hml)))))
              clear hV hown hro hb0 hbl h1 no hkn htk hV2 hmo hok hml
              go_wp2_with (first
                | (go_at_call 51; go_must (refine (l6InP_any _ _ _ _).mono ?_); rintro e w3 ⟨rfl, rfl⟩)
                | (go_at_call 27; with_reducible refine HN.out.1.mono ?_; rintro e w2 ⟨rfl, k2⟩; have K2 := Lib.hid k2)
                | (go_at_call 27; refine (HN.out.2.2.2.2.1 _ K2.out).mono ?_; rintro e w4 ⟨rfl, k4⟩))
              go_ret2
              unfold PairP moveG
              rw [HN.out.2.1, if_pos rfl]
              refine ⟨_, rfl, below_step HN.out.2.2.1 (below_step K2.out k4), ?_⟩
              have := own_below HN.out.2.2.2.1 (below_step K2.out k4)
              rw [HN.out.2.2.2.2.2]
              exact this
end Go.Proofs.Ytfkfjkhikgnnaaa
