/- What the program's phase model of its parts is. -/
import Derived.Test.YtnkdpogplkomhaaIpv
import Derived.Deep.RegionHeld
namespace Go.Proofs.Ytnkdpogplkomhaa
open Go.RowKit

/-- The model of valid parts: the order of dates and the weights themselves. -/
def PhModP (w : World) (A C : Option Addr) (ca cc : Nat) (ids : List Int) (l : List Ctx) (L : List (List Int)) (e : Ending) (w2 : World) : Prop :=
  Below w.heap.size w w2 ∧ ((phOk ids l L = false ∧ e = .returned (.tuple #[.agg #[.slice none 0 0, .slice none 0 0, .slice none 0 0, .slice none 0 0], .bool false])) ∨
    (phOk ids l L = true ∧ ∃ A2 c2 A3 c3, e = .returned (.tuple #[.agg #[.slice A ids.length ca, .slice A2 ids.length c2, .slice A3 ids.length c3, .slice C L.length cc], .bool true]) ∧
      Reads w2 w2.heap.size 1 A2 ids.length (cellsI (groupsG ids l)) ∧ Reads w2 w2.heap.size 1 A3 ids.length (cellsU (rowsN ids.length (dirQ ids l)))))
theorem argsD_nil (ids : List Int) (l : List Ctx) : argsD ids l [] = ordOkG ids l := by
  have h : validB [] = true := by decide
  simp [argsD, h]
theorem mod_cells {W : World} {g : Nat} {x y z u : Value} (a b c d : Value) (h : W.heap[g]? = some (.cells #[x, y, z, u] 106 (0, 0))) :
    ((((W.setCell ⟨g, 0, none⟩ a).setCell ⟨g, 1, none⟩ b).setCell ⟨g, 2, none⟩ c).setCell ⟨g, 3, none⟩ d).heap[g]? = some (.cells #[a, b, c, d] 106 (0, 0)) := by
  have h1 := heap_setCell_same _ g 0 _ _ a h
  have h2 := heap_setCell_same _ g 1 _ _ b h1
  have h3 := heap_setCell_same _ g 2 _ _ c h2
  have h4 := heap_setCell_same _ g 3 _ _ d h3
  rw [h4]
  rfl
/-- A row of other things than slices does not lie in a block that holds slices. -/
theorem reads_apart {W : World} {B g n : Nat} {A : Option Addr} {xs : List Value} {c : Array Value} {t : TypeId} {f : Nat × Nat} (h : Reads W B 1 A n xs) (hg : W.heap[g]? = some (.cells c t f)) (hc : ∀ (i : Nat) (v : Value), c[i]? = some v → v = .slice none 0 0) (hx : ∀ v ∈ xs, v ≠ .slice none 0 0) :
    0 < n → ∀ b off, A = some ⟨b, off, none⟩ → b ≠ g := by
  intro hn b off e hb
  obtain ⟨b2, off2, e2, _, hcc⟩ := h.2 hn
  rw [e] at e2
  injection e2 with e2
  injection e2 with e3 e4
  subst e3 e4 hb
  have h0 : 0 < xs.length := by rw [h.1]; omega
  obtain ⟨u, hu⟩ : ∃ u, xs[0]? = some u := ⟨_, List.getElem?_eq_getElem h0⟩
  have h1 := hcc 0 u hu
  simp only [World.cell?, hg] at h1
  exact hx u (List.mem_of_getElem? hu) (hc _ _ (by simpa using h1))
theorem Reads.off {W : World} {B g k n size : Nat} {A : Option Addr} {xs : List Value} (h : Reads W B size A n xs) (hne : 0 < n → ∀ b off, A = some ⟨b, off, none⟩ → b ≠ g) (v : Value) : Reads (W.setCell ⟨g, k, none⟩ v) B size A n xs :=
  ⟨h.1, fun hn => by
    obtain ⟨b, o, e, hlt, hc⟩ := h.2 hn
    exact ⟨b, o, e, hlt, fun j u hu => (World.cell?_setCell_far _ _ _ _ (fun q => hne hn b o e q.symm)).trans (hc j u hu)⟩⟩
theorem mod_ret {W : World} {g : Nat} {a b c d t : Value} {tmps : Array Value} (h : W.heap[g]? = some (.cells #[a, b, c, d] 106 (0, 0))) (h6 : tmps.getD 6 undef = .pointer (some ⟨g, 0, none⟩)) (h7 : tmps.getD 7 undef = t) :
    (results Try.f65 tmps).run Try.prog W = .ok (.tuple #[.agg #[a, b, c, d], t]) W := by
  rw [results_cell_tmp rfl, h6, h7]
  have hl := run_loadVar_row (P := Try.prog) W g 106 106 #[a, b, c, d] (0, 0) _ h Try.underlying106 rfl (by kernel_rfl)
  simp [asAddr, Result.andThen, hl]
set_option maxHeartbeats 4000000 in
set_option maxRecDepth 100000 in
theorem iModel_any (A B C : Option Addr) (ca cb cc : Nat) (ids : List Int) (l : List Ctx) (L : List (List Int)) (w : World) (ha : Reads w w.heap.size 1 A ids.length (cellsI ids)) (hb : Reads w w.heap.size 3 B l.length (cellsC l)) (hc : Nest (Value.int .i64) w w.heap.size C L.length L)
    (hn : ids.length ≤ 1000000000) (hl : l.length ≤ 1000000000) (hm : L.length ≤ 1000000000) (hr : ∀ r ∈ L, r.length ≤ 1000000000) :
    Calls Try.prog 65 #[.slice A ids.length ca, .slice B l.length cb, .slice C L.length cc] w (PhModP w A C ca cc ids l L) := by
  obtain ⟨W0, hW0⟩ : ∃ W0, W0 = w.alloc (.cells #[.slice none 0 0, .slice none 0 0, .slice none 0 0, .slice none 0 0] 106) := ⟨_, rfl⟩
  have b0 : Below w.heap.size w W0 := by rw [hW0]; exact (Below.refl _ _).alloc (Nat.le_refl _) _
  have hs0 : w.heap.size < W0.heap.size := by rw [hW0]; simp
  have hz : ∀ W, Below W0.heap.size W0 W → W.heap[w.heap.size]? = some (.cells #[.slice none 0 0, .slice none 0 0, .slice none 0 0, .slice none 0 0] 106 (0, 0)) := fun W h => (h.block _ hs0).trans (by rw [hW0]; exact heap_alloc_new _ _)
  have hO := iDOrder_any A B none ca cb 0 ids l [] W0 (ha.step b0) (hb.step b0) ⟨rfl, fun h => absurd h (by simp)⟩ hn hl (by simp)
  rw [hW0] at hO
  have HO := Lib.hid hO
  have HW := Lib.hid hW0
  have HWt := Lib.hid (fun (w2 : World) (b2 : Below W0.heap.size W0 w2) => iWeights_any C cc ids.length L w2 ((hc.step b0).step b2) hm hr)
  have HR := Lib.hid (And.intro hz b0)
  clear hW0 ha hb hc hz b0 hO
  go_enter Try.func65, Try.ntmps65
  have HP := Lib.hid (argsD_nil ids l)
  cases ho : ordOkG ids l
  · have HA := Lib.hid ho
    clear ho
    go_wp2_with (go_at_call 43; go_must (refine HO.out.mono ?_); rintro e w2 ⟨b2, h⟩
                 obtain ⟨h0, rfl⟩ | ⟨h0, _⟩ := h
                 case inr => rw [HP.out, HA.out] at h0; cases h0
                 have b3 : Below W0.heap.size W0 (w2.alloc (.cells #[.slice none 0 0, .slice none 0 0, .slice none 0 0] 73)) := by
                   have b2' : Below W0.heap.size W0 w2 := by rw [HW.out]; exact b2
                   exact b2'.alloc b2'.size _
                 have z := HR.out.1 _ b3
                 have z0 := cell_of_row _ _ 0 _ _ _ z
                 have z1 := cell_of_row _ _ 1 _ _ _ z
                 have z2 := cell_of_row _ _ 2 _ _ _ z
                 have z3 := cell_of_row _ _ 3 _ _ _ z
                 have y0 := frozen_of_row _ _ 0 _ _ z
                 have y1 := frozen_of_row _ _ 1 _ _ z
                 have y2 := frozen_of_row _ _ 2 _ _ z
                 have y3 := frozen_of_row _ _ 3 _ _ z
                 have B3 := Lib.hid b3
                 clear b3 h0 b2)
    (try simp only [Exit.inBlock, Exit.then]); refine bodyPost_ret (mod_ret (mod_cells _ _ _ _ z) rfl rfl) rfl ?_
    refine ⟨((((HR.out.2.trans (B3.out.mono (Nat.le_of_lt hs0))).setCell (Nat.le_refl _) _).setCell (Nat.le_refl _) _).setCell (Nat.le_refl _) _).setCell (Nat.le_refl _) _, .inl ⟨by simp [phOk, HA.out], rfl⟩⟩
  · have HA := Lib.hid ho
    clear ho
    by_cases h4 : ids.length ≤ 4
    · have h4i : ¬ (ids.length : Int) > 4 := by omega
      cases hw : okW L ids.length
      · have HK := Lib.hid hw
        clear hw
        go_wp2_with (first
          | (go_at_call 43; go_must (refine HO.out.mono ?_); rintro e w2 ⟨b2, h⟩
             obtain (⟨h0, _⟩ | ⟨_, A2, c2, A3, c3, rfl, rg, rf⟩) := h
             case inl => rw [HP.out, HA.out] at h0; cases h0
             have bD : Below w2.heap.size w2 (w2.alloc (.cells #[.slice A ids.length ca, .slice A2 ids.length c2, .slice A3 ids.length c3] 73)) := (Below.refl _ _).alloc (Nat.le_refl _) _
             have b3 : Below W0.heap.size W0 (w2.alloc (.cells #[.slice A ids.length ca, .slice A2 ids.length c2, .slice A3 ids.length c3] 73)) := by
               have b2' : Below W0.heap.size W0 w2 := by rw [HW.out]; exact b2
               exact below_step b2' bD
             have z := HR.out.1 _ b3
             have z0 := cell_of_row _ _ 0 _ _ _ z
             have z1 := cell_of_row _ _ 1 _ _ _ z
             have z2 := cell_of_row _ _ 2 _ _ _ z
             have z3 := cell_of_row _ _ 3 _ _ _ z
             have y0 := frozen_of_row _ _ 0 _ _ z
             have y1 := frozen_of_row _ _ 1 _ _ z
             have y2 := frozen_of_row _ _ 2 _ _ z
             have y3 := frozen_of_row _ _ 3 _ _ z
             have B3 := Lib.hid (And.intro b3 (And.intro (rg.step bD) (rf.step bD)))
             skip
             clear b3 b2 rg rf bD)
          | (go_at_call 91; go_must (refine (HWt.out _ B3.out.1).mono ?_); rintro e w4 ⟨rfl, rfl⟩; rw [HK.out]))
        (try simp only [Exit.inBlock, Exit.then]); refine bodyPost_ret (mod_ret (mod_cells _ _ _ _ z) rfl rfl) rfl ?_
        refine ⟨((((HR.out.2.trans (B3.out.1.mono (Nat.le_of_lt hs0))).setCell (Nat.le_refl _) _).setCell (Nat.le_refl _) _).setCell (Nat.le_refl _) _).setCell (Nat.le_refl _) _, .inl ⟨by simp [phOk, HK.out], rfl⟩⟩
      · have HK := Lib.hid (And.intro hw h4)
        clear hw
        go_wp2_with (first
          | (go_at_call 43; go_must (refine HO.out.mono ?_); rintro e w2 ⟨b2, h⟩
             obtain (⟨h0, _⟩ | ⟨_, A2, c2, A3, c3, rfl, rg, rf⟩) := h
             case inl => rw [HP.out, HA.out] at h0; cases h0
             have bD : Below w2.heap.size w2 (w2.alloc (.cells #[.slice A ids.length ca, .slice A2 ids.length c2, .slice A3 ids.length c3] 73)) := (Below.refl _ _).alloc (Nat.le_refl _) _
             have b3 : Below W0.heap.size W0 (w2.alloc (.cells #[.slice A ids.length ca, .slice A2 ids.length c2, .slice A3 ids.length c3] 73)) := by
               have b2' : Below W0.heap.size W0 w2 := by rw [HW.out]; exact b2
               exact below_step b2' bD
             have z := HR.out.1 _ b3
             have z0 := cell_of_row _ _ 0 _ _ _ z
             have z1 := cell_of_row _ _ 1 _ _ _ z
             have z2 := cell_of_row _ _ 2 _ _ _ z
             have z3 := cell_of_row _ _ 3 _ _ _ z
             have y0 := frozen_of_row _ _ 0 _ _ z
             have y1 := frozen_of_row _ _ 1 _ _ z
             have y2 := frozen_of_row _ _ 2 _ _ z
             have y3 := frozen_of_row _ _ 3 _ _ z
             have B3 := Lib.hid (And.intro b3 (And.intro (rg.step bD) (rf.step bD)))
             skip
             clear b3 b2 rg rf bD)
          | (go_at_call 91; go_must (refine (HWt.out _ B3.out.1).mono ?_); rintro e w4 ⟨rfl, rfl⟩; rw [HK.out.1]))
        (try simp only [Exit.inBlock, Exit.then]); refine bodyPost_ret (mod_ret (mod_cells _ _ _ _ z) rfl rfl) rfl ?_
        obtain ⟨b3, rg, rf⟩ := B3.out
        have hsl : ∀ (i : Nat) (v : Value), (#[Value.slice none 0 0, .slice none 0 0, .slice none 0 0, .slice none 0 0] : Array Value)[i]? = some v → v = .slice none 0 0 := fun i v h => by
          have := Array.mem_of_getElem? h
          simpa using this
        have n2 := reads_apart rg z hsl (fun v hv => by simp only [cellsI, List.mem_map] at hv; obtain ⟨x, _, rfl⟩ := hv; exact fun h => by cases h)
        have n3 := reads_apart rf z hsl (fun v hv => by simp only [cellsU, List.mem_map] at hv; obtain ⟨x, _, rfl⟩ := hv; exact fun h => by cases h)
        refine ⟨((((HR.out.2.trans (b3.mono (Nat.le_of_lt hs0))).setCell (Nat.le_refl _) _).setCell (Nat.le_refl _) _).setCell (Nat.le_refl _) _).setCell (Nat.le_refl _) _, .inr ⟨by simp [phOk, HA.out, HK.out.1, HK.out.2], A2, c2, A3, c3, rfl, ?_, ?_⟩⟩
        · simpa using (((rg.off n2 _).off n2 _).off n2 _).off n2 _
        · simpa using (((rf.off n3 _).off n3 _).off n3 _).off n3 _
    · have h4i : (ids.length : Int) > 4 := by omega
      go_wp2_with (go_at_call 43; go_must (refine HO.out.mono ?_); rintro e w2 ⟨b2, h⟩
                   obtain (⟨h0, _⟩ | ⟨_, A2, c2, A3, c3, rfl, rg, rf⟩) := h
                   case inl => rw [HP.out, HA.out] at h0; cases h0
                   have bD : Below w2.heap.size w2 (w2.alloc (.cells #[.slice A ids.length ca, .slice A2 ids.length c2, .slice A3 ids.length c3] 73)) := (Below.refl _ _).alloc (Nat.le_refl _) _
                   have b3 : Below W0.heap.size W0 (w2.alloc (.cells #[.slice A ids.length ca, .slice A2 ids.length c2, .slice A3 ids.length c3] 73)) := by
                     have b2' : Below W0.heap.size W0 w2 := by rw [HW.out]; exact b2
                     exact below_step b2' bD
                   have z := HR.out.1 _ b3
                   have z0 := cell_of_row _ _ 0 _ _ _ z
                   have z1 := cell_of_row _ _ 1 _ _ _ z
                   have z2 := cell_of_row _ _ 2 _ _ _ z
                   have z3 := cell_of_row _ _ 3 _ _ _ z
                   have y0 := frozen_of_row _ _ 0 _ _ z
                   have y1 := frozen_of_row _ _ 1 _ _ z
                   have y2 := frozen_of_row _ _ 2 _ _ z
                   have y3 := frozen_of_row _ _ 3 _ _ z
                   have B3 := Lib.hid (And.intro b3 (And.intro (rg.step bD) (rf.step bD)))
                   skip
                   clear b3 b2 rg rf bD)
      (try simp only [Exit.inBlock, Exit.then]); refine bodyPost_ret (mod_ret (mod_cells _ _ _ _ z) rfl rfl) rfl ?_
      refine ⟨((((HR.out.2.trans (B3.out.1.mono (Nat.le_of_lt hs0))).setCell (Nat.le_refl _) _).setCell (Nat.le_refl _) _).setCell (Nat.le_refl _) _).setCell (Nat.le_refl _) _, .inl ⟨by simp [phOk, h4], rfl⟩⟩
set_option maxHeartbeats 1600000 in
set_option maxRecDepth 100000 in
theorem iPhValid_any (A B C : Option Addr) (ca cb cc : Nat) (ids : List Int) (l : List Ctx) (L : List (List Int)) (w : World) (ha : Reads w w.heap.size 1 A ids.length (cellsI ids)) (hb : Reads w w.heap.size 3 B l.length (cellsC l)) (hc : Nest (Value.int .i64) w w.heap.size C L.length L)
    (hn : ids.length ≤ 1000000000) (hl : l.length ≤ 1000000000) (hm : L.length ≤ 1000000000) (hr : ∀ r ∈ L, r.length ≤ 1000000000) :
    Calls Try.prog 26 #[.slice A ids.length ca, .slice B l.length cb, .slice C L.length cc] w fun e w2 => e = .returned (.bool (phOk ids l L)) ∧ Below w.heap.size w w2 := by
  have HM := Lib.hid (iModel_any A B C ca cb cc ids l L w ha hb hc hn hl hm hr)
  clear ha hb hc hr
  go_enter Try.func26, Try.ntmps26
  cases hp : phOk ids l L
  · have HP := Lib.hid hp
    clear hp
    go_wp2_with (go_at_call 65; go_must (refine HM.out.mono ?_); rintro e w2 ⟨b2, h⟩
                 obtain ⟨_, rfl⟩ | ⟨h0, _⟩ := h
                 case inr => rw [HP.out] at h0; cases h0)
    go_ret
    exact ⟨rfl, b2.alloc b2.size _⟩
  · have HP := Lib.hid hp
    clear hp
    go_wp2_with (go_at_call 65; go_must (refine HM.out.mono ?_); rintro e w2 ⟨b2, h⟩
                 obtain ⟨h0, _⟩ | ⟨_, A2, c2, A3, c3, rfl, rg, rf⟩ := h
                 case inl => rw [HP.out] at h0; cases h0)
    go_ret
    exact ⟨rfl, b2.alloc b2.size _⟩
end Go.Proofs.Ytnkdpogplkomhaa
