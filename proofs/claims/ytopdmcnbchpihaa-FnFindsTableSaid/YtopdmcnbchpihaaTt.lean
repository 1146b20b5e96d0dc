/- Texts that lie together in one: Tbl, Ilt. -/
import Derived.Test.YtopdmcnbchpihaaGg
import Derived.Test.YtopdmcnbchpihaaIl
import Derived.Test.YtopdmcnbchpihaaFf
import Derived.Test.YtopdmcnbchpihaaVv
import Derived.OwnWalk
import Derived.OneCell
/- The program's tables of contexts: what a new one is, and where it has the entry of a context. -/
namespace Go.Proofs.Ytopdmcnbchpihaa
open Go.RowKit

theorem results_cell1 {fn : Func} {p : Tmp} {ty : TypeId} (h : fn.results = #[.cell p ty]) (tmps : Array Value) (P : Program) (w : World) :
    (results fn tmps).run P w = ((asAddr (tmps.getD p undef)).run P w).andThen fun a w₁ => (loadVar ty a).run P w₁ := by
  simp only [results, h]
  simp [Sem.run_bind, Result.andThen]
theorem two_cells {W : World} {g : Nat} {x y : Value} {t : TypeId} (a b : Value) (h : W.heap[g]? = some (.cells #[x, y] t (0, 0))) :
    ((W.setCell ⟨g, 0, none⟩ a).setCell ⟨g, 1, none⟩ b).heap[g]? = some (.cells #[a, b] t (0, 0)) := by
  have h1 := heap_setCell_same _ g 0 _ _ a h
  have h2 := heap_setCell_same _ g 1 _ _ b h1
  rw [h2]
  rfl
theorem zero_cellsV (n : Nat) : (madeCells (Value.slice none 0 0).cells (n * 1)).toList = List.replicate n (Value.slice none 0 0) := by
  refine List.ext_getElem? fun i => ?_
  by_cases hi : i < n
  · simp [madeCells, hi, Value.cells, Nat.mod_one]
  · simp [madeCells, hi]
theorem zero_cells5 (n : Nat) : (madeCells (Value.agg #[.int .i64 0, .int .i64 0, .int .i64 0, .int .i64 0, .int .i64 0]).cells (n * 5)).toList = cellsI (List.replicate (n * 5) 0) := by
  refine List.ext_getElem? fun i => ?_
  by_cases hi : i < n * 5
  · have h5 : i % 5 < 5 := Nat.mod_lt _ (by omega)
    have hm : ∀ k, k < 5 → (#[Value.int .i64 0, .int .i64 0, .int .i64 0, .int .i64 0, .int .i64 0] : Array Value)[k]? = some (.int .i64 0) := by
      intro k hk
      rcases (by omega : k = 0 ∨ k = 1 ∨ k = 2 ∨ k = 3 ∨ k = 4) with h | h | h | h | h <;> subst h <;> rfl
    simp [cellsI, madeCells, hi, Value.cells]
    have := hm (i % 5) h5
    rcases (by omega : i % 5 = 0 ∨ i % 5 = 1 ∨ i % 5 = 2 ∨ i % 5 = 3 ∨ i % 5 = 4) with h | h | h | h | h <;> simp [h]
  · simp [cellsI, madeCells, hi]

theorem infoRowI : (Try.prog.info? 29).map (fun i => (i.zero, i.size, i.bytes)) = some (some (.slice none 0 0), 1, 24) := by kernel_rfl
theorem tabR_ret {W : World} {g : Nat} {a b : Value} {tmps : Array Value} (h : W.heap[g]? = some (.cells #[a, b] 87 (0, 0))) (h2 : tmps.getD 2 undef = .pointer (some ⟨g, 0, none⟩)) :
    (results Try.f62 tmps).run Try.prog W = .ok (.agg #[a, b]) W := by
  rw [results_cell1 rfl, h2]
  have hl := run_loadVar_row (P := Try.prog) W g 87 87 #[a, b] (0, 0) _ h Try.underlying87 rfl (by kernel_rfl)
  simp [asAddr, Result.andThen, hl]
set_option maxHeartbeats 800000 in
set_option maxRecDepth 100000 in
theorem newR_any (A : Option Addr) (n ca : Nat) (w : World) (hn : n ≤ 1000000000) :
    Calls Try.prog 62 #[.slice A n ca] w fun e w2 => ∃ g, e = .returned (.agg #[.slice A n ca, .slice (some ⟨g, 0, none⟩) n n]) ∧ Below w.heap.size w w2 ∧
      w2.ownsRow w.heap.size 29 1 (.slice (some ⟨g, 0, none⟩) n n) n (List.replicate n (Value.slice none 0 0)) := by
  obtain ⟨i0, hi0, hz0, hz1, hz2⟩ := info_parts infoRowI
  obtain ⟨W0, hW0⟩ : ∃ W0, W0 = w.alloc (.cells #[.slice none 0 0, .slice none 0 0] 87) := ⟨_, rfl⟩
  have b0 : Below w.heap.size w W0 := by rw [hW0]; exact (Below.refl _ _).alloc (Nat.le_refl _) _
  have hs0 : w.heap.size < W0.heap.size := by rw [hW0]; simp
  have hz : W0.heap[w.heap.size]? = some (.cells #[.slice none 0 0, .slice none 0 0] 87 (0, 0)) := by rw [hW0]; exact heap_alloc_new _ _
  have HR := Lib.hid (And.intro hz b0)
  clear hz b0
  go_enter Try.func62, Try.ntmps62
  go_wp2_with (at_make
               rw [← hW0]
               go_must (refine wpList_make_full _ rfl (.tmp 5) (.tmp 5) _ rfl W0.heap.size 29 i0 _ 1 Try.underlying40 hi0 hz0 hz1 _ _ _ _ n rfl rfl rfl rfl (by rw [hz2]; omega) (by simp only [maxLen]; omega) (Nat.le_refl _) ?_)
               intro w2 ho2 hg2
               rw [zero_cellsV n] at ho2
               have b2 : Below W0.heap.size W0 w2 := (Below.refl _ _).grown hg2 (Nat.le_refl _) (fun k hk => by cases hk)
               have z := (b2.block _ hs0).trans HR.out.1
               have z0 := cell_of_row _ _ 0 _ _ _ z
               have z1 := cell_of_row _ _ 1 _ _ _ z
               have y0 := frozen_of_row _ _ 0 _ _ z
               have y1 := frozen_of_row _ _ 1 _ _ z
               have K2 := Lib.hid (And.intro b2 (And.intro ho2 z))
               clear b2 ho2 z hg2)
  (try simp only [Exit.inBlock, Exit.then]); refine bodyPost_ret (tabR_ret (two_cells _ _ K2.out.2.2) rfl) rfl ?_
  have h0 : w.heap.size < w2.heap.size := Nat.lt_of_lt_of_le hs0 K2.out.1.size
  have hlt := (K2.out.2.1.lt W0.heap.size rfl).2
  refine ⟨W0.heap.size, by rw [hW0]; simp, ((HR.out.2.trans (K2.out.1.mono (Nat.le_of_lt hs0))).setCell (Nat.le_refl _) _).setCell (Nat.le_refl _) _, ?_⟩
  refine own_less (base := W0.heap.size) ?_ (Nat.le_of_lt hs0)
  have hne : (Value.slice (some ⟨W0.heap.size, 0, none⟩) n n).ownBlock ≠ some w.heap.size := fun hg => by
    have : W0.heap.size = w.heap.size := by injection hg
    omega
  exact ownsRow_setCell_other (ownsRow_setCell_other K2.out.2.1 (a := ⟨w.heap.size, 0, none⟩) hne _) (a := ⟨w.heap.size, 1, none⟩) hne _
theorem info5 : (Try.prog.info? 106).map (fun i => (i.zero, i.size, i.bytes)) = some (some (.agg #[.int .i64 0, .int .i64 0, .int .i64 0, .int .i64 0, .int .i64 0]), 5, 40) := by kernel_rfl
theorem tab5_ret {W : World} {g : Nat} {a b : Value} {tmps : Array Value} (h : W.heap[g]? = some (.cells #[a, b] 104 (0, 0))) (h2 : tmps.getD 2 undef = .pointer (some ⟨g, 0, none⟩)) :
    (results Try.f73 tmps).run Try.prog W = .ok (.agg #[a, b]) W := by
  rw [results_cell1 rfl, h2]
  have hl := run_loadVar_row (P := Try.prog) W g 104 104 #[a, b] (0, 0) _ h Try.underlying104 rfl (by kernel_rfl)
  simp [asAddr, Result.andThen, hl]
set_option maxHeartbeats 800000 in
set_option maxRecDepth 100000 in
theorem new5_any (A : Option Addr) (n ca : Nat) (w : World) (hn : n ≤ 1000000000) :
    Calls Try.prog 73 #[.slice A n ca] w fun e w2 => ∃ g, e = .returned (.agg #[.slice A n ca, .slice (some ⟨g, 0, none⟩) n n]) ∧ Below w.heap.size w w2 ∧
      w2.ownsRow w.heap.size 106 5 (.slice (some ⟨g, 0, none⟩) n n) n (cellsI (List.replicate (n * 5) 0)) := by
  obtain ⟨i0, hi0, hz0, hz1, hz2⟩ := info_parts info5
  obtain ⟨W0, hW0⟩ : ∃ W0, W0 = w.alloc (.cells #[.slice none 0 0, .slice none 0 0] 104) := ⟨_, rfl⟩
  have b0 : Below w.heap.size w W0 := by rw [hW0]; exact (Below.refl _ _).alloc (Nat.le_refl _) _
  have hs0 : w.heap.size < W0.heap.size := by rw [hW0]; simp
  have hz : W0.heap[w.heap.size]? = some (.cells #[.slice none 0 0, .slice none 0 0] 104 (0, 0)) := by rw [hW0]; exact heap_alloc_new _ _
  have HR := Lib.hid (And.intro hz b0)
  clear hz b0
  go_enter Try.func73, Try.ntmps73
  go_wp2_with (at_make
               rw [← hW0]
               go_must (refine wpList_make_full _ rfl (.tmp 5) (.tmp 5) _ rfl W0.heap.size 106 i0 _ 5 Try.underlying102 hi0 hz0 hz1 _ _ _ _ n rfl rfl rfl rfl (by rw [hz2]; omega) (by simp only [maxLen]; omega) (Nat.le_refl _) ?_)
               intro w2 ho2 hg2
               rw [zero_cells5 n] at ho2
               have b2 : Below W0.heap.size W0 w2 := (Below.refl _ _).grown hg2 (Nat.le_refl _) (fun k hk => by cases hk)
               have z := (b2.block _ hs0).trans HR.out.1
               have z0 := cell_of_row _ _ 0 _ _ _ z
               have z1 := cell_of_row _ _ 1 _ _ _ z
               have y0 := frozen_of_row _ _ 0 _ _ z
               have y1 := frozen_of_row _ _ 1 _ _ z
               have K2 := Lib.hid (And.intro b2 (And.intro ho2 z))
               clear b2 ho2 z hg2)
  (try simp only [Exit.inBlock, Exit.then]); refine bodyPost_ret (tab5_ret (two_cells _ _ K2.out.2.2) rfl) rfl ?_
  have h0 : w.heap.size < w2.heap.size := Nat.lt_of_lt_of_le hs0 K2.out.1.size
  have hlt := (K2.out.2.1.lt W0.heap.size rfl).2
  refine ⟨W0.heap.size, by rw [hW0]; simp, ((HR.out.2.trans (K2.out.1.mono (Nat.le_of_lt hs0))).setCell (Nat.le_refl _) _).setCell (Nat.le_refl _) _, ?_⟩
  refine own_less (base := W0.heap.size) ?_ (Nat.le_of_lt hs0)
  have hne : (Value.slice (some ⟨W0.heap.size, 0, none⟩) n n).ownBlock ≠ some w.heap.size := fun hg => by
    have : W0.heap.size = w.heap.size := by injection hg
    omega
  exact ownsRow_setCell_other (ownsRow_setCell_other K2.out.2.1 (a := ⟨w.heap.size, 0, none⟩) hne _) (a := ⟨w.heap.size, 1, none⟩) hne _
theorem tabI_ret {W : World} {g : Nat} {a b : Value} {tmps : Array Value} (h : W.heap[g]? = some (.cells #[a, b] 128 (0, 0))) (h2 : tmps.getD 2 undef = .pointer (some ⟨g, 0, none⟩)) :
    (results Try.f116 tmps).run Try.prog W = .ok (.agg #[a, b]) W := by
  rw [results_cell1 rfl, h2]
  have hl := run_loadVar_row (P := Try.prog) W g 128 128 #[a, b] (0, 0) _ h Try.underlying128 rfl (by kernel_rfl)
  simp [asAddr, Result.andThen, hl]
set_option maxHeartbeats 800000 in
set_option maxRecDepth 100000 in
theorem newI_any (A : Option Addr) (n ca : Nat) (w : World) (hn : n ≤ 1000000000) :
    Calls Try.prog 116 #[.slice A n ca] w fun e w2 => ∃ g, e = .returned (.agg #[.slice A n ca, .slice (some ⟨g, 0, none⟩) n n]) ∧ Below w.heap.size w w2 ∧
      w2.ownsRow w.heap.size 3 1 (.slice (some ⟨g, 0, none⟩) n n) n (cellsI (List.replicate n 0)) := by
  obtain ⟨i0, hi0, hz0, hz1, hz2⟩ := info_parts infoInt
  obtain ⟨W0, hW0⟩ : ∃ W0, W0 = w.alloc (.cells #[.slice none 0 0, .slice none 0 0] 128) := ⟨_, rfl⟩
  have b0 : Below w.heap.size w W0 := by rw [hW0]; exact (Below.refl _ _).alloc (Nat.le_refl _) _
  have hs0 : w.heap.size < W0.heap.size := by rw [hW0]; simp
  have hz : W0.heap[w.heap.size]? = some (.cells #[.slice none 0 0, .slice none 0 0] 128 (0, 0)) := by rw [hW0]; exact heap_alloc_new _ _
  have HR := Lib.hid (And.intro hz b0)
  clear hz b0
  go_enter Try.func116, Try.ntmps116
  go_wp2_with (at_make
               rw [← hW0]
               go_must (refine wpList_make_full _ rfl (.tmp 5) (.tmp 5) _ rfl W0.heap.size 3 i0 _ 1 Try.underlying29 hi0 hz0 hz1 _ _ _ _ n rfl rfl rfl rfl (by rw [hz2]; omega) (by simp only [maxLen]; omega) (Nat.le_refl _) ?_)
               intro w2 ho2 hg2
               rw [zero_cellsI n] at ho2
               have b2 : Below W0.heap.size W0 w2 := (Below.refl _ _).grown hg2 (Nat.le_refl _) (fun k hk => by cases hk)
               have z := (b2.block _ hs0).trans HR.out.1
               have z0 := cell_of_row _ _ 0 _ _ _ z
               have z1 := cell_of_row _ _ 1 _ _ _ z
               have y0 := frozen_of_row _ _ 0 _ _ z
               have y1 := frozen_of_row _ _ 1 _ _ z
               have K2 := Lib.hid (And.intro b2 (And.intro ho2 z))
               clear b2 ho2 z hg2)
  (try simp only [Exit.inBlock, Exit.then]); refine bodyPost_ret (tabI_ret (two_cells _ _ K2.out.2.2) rfl) rfl ?_
  have h0 : w.heap.size < w2.heap.size := Nat.lt_of_lt_of_le hs0 K2.out.1.size
  have hlt := (K2.out.2.1.lt W0.heap.size rfl).2
  refine ⟨W0.heap.size, by rw [hW0]; simp, ((HR.out.2.trans (K2.out.1.mono (Nat.le_of_lt hs0))).setCell (Nat.le_refl _) _).setCell (Nat.le_refl _) _, ?_⟩
  refine own_less (base := W0.heap.size) ?_ (Nat.le_of_lt hs0)
  have hne : (Value.slice (some ⟨W0.heap.size, 0, none⟩) n n).ownBlock ≠ some w.heap.size := fun hg => by
    have : W0.heap.size = w.heap.size := by injection hg
    omega
  exact ownsRow_setCell_other (ownsRow_setCell_other K2.out.2.1 (a := ⟨w.heap.size, 0, none⟩) hne _) (a := ⟨w.heap.size, 1, none⟩) hne _
set_option maxHeartbeats 800000 in
set_option maxRecDepth 100000 in
theorem entR_yes (A : Option Addr) (ca g c : Nat) (ids : List Int) (id : Int) (w : World) (ha : Reads w w.heap.size 1 A ids.length (cellsI ids)) (hn : ids.length ≤ 1000000000) (hin : id ∈ ids) :
    Calls Try.prog 64 #[.agg #[.slice A ids.length ca, .slice (some ⟨g, 0, none⟩) ids.length c], .int .i64 id] w fun e w2 => e = .returned (.pointer (some ⟨g, placeI ids id, none⟩)) ∧ Below w.heap.size w w2 := by
  obtain ⟨W0, hW0⟩ : ∃ W0, W0 = w.alloc (.cells #[.slice A ids.length ca, .slice (some ⟨g, 0, none⟩) ids.length c] 87) := ⟨_, rfl⟩
  have b0 : Below w.heap.size w W0 := by rw [hW0]; exact (Below.refl _ _).alloc (Nat.le_refl _) _
  have hz : W0.heap[w.heap.size]? = some (.cells #[.slice A ids.length ca, .slice (some ⟨g, 0, none⟩) ids.length c] 87 (0, 0)) := by rw [hW0]; exact heap_alloc_new _ _
  have z0 := cell_of_row _ _ 0 _ _ _ hz
  have z1 := cell_of_row _ _ 1 _ _ _ hz
  have hI := indexI_any A ca ids id W0 (ha.step b0) (by omega)
  obtain ⟨p1, p2, p3⟩ := placeI_at hin
  rw [p1] at hI
  obtain ⟨q, hq⟩ : ∃ q, q = placeI ids id := ⟨_, rfl⟩
  rw [← hq] at hI p2 ⊢
  have hqi : (0 : Int) ≤ (q : Int) := by omega
  have hqn : (q : Int) < (ids.length : Int) := by omega
  have e0 : decide ((q : Int) < 0) = false := decide_eq_false (by omega)
  have H := Lib.hid (And.intro hI b0)
  clear hI b0 ha p1 p3 hin hq hz
  go_enter Try.func64, Try.ntmps64
  go_wp2_with (rw [← hW0]; go_at_call 93; go_must (refine H.out.1.mono ?_); rintro e w2 ⟨rfl, rfl⟩)
  go_ret
  exact ⟨by simp, by rw [← hW0]; exact H.out.2⟩
set_option maxHeartbeats 800000 in
set_option maxRecDepth 100000 in
theorem entR_no (A : Option Addr) (ca : Nat) (v : Value) (ids : List Int) (id : Int) (w : World) (ha : Reads w w.heap.size 1 A ids.length (cellsI ids)) (hn : ids.length ≤ 1000000000) (hin : id ∉ ids) :
    Calls Try.prog 64 #[.agg #[.slice A ids.length ca, v], .int .i64 id] w fun e w2 => e = .returned (.pointer none) ∧ Below w.heap.size w w2 := by
  obtain ⟨W0, hW0⟩ : ∃ W0, W0 = w.alloc (.cells #[.slice A ids.length ca, v] 87) := ⟨_, rfl⟩
  have b0 : Below w.heap.size w W0 := by rw [hW0]; exact (Below.refl _ _).alloc (Nat.le_refl _) _
  have hz : W0.heap[w.heap.size]? = some (.cells #[.slice A ids.length ca, v] 87 (0, 0)) := by rw [hW0]; exact heap_alloc_new _ _
  have z0 := cell_of_row _ _ 0 _ _ _ hz
  have hI := indexI_any A ca ids id W0 (ha.step b0) (by omega)
  have hf : findI ids id = -1 := by
    rcases findI_spec ids id with h | ⟨_, _, _, _, h⟩
    · exact h.1
    · exact absurd h hin
  rw [hf] at hI
  have H := Lib.hid (And.intro hI b0)
  clear hI b0 ha hin hz hf
  go_enter Try.func64, Try.ntmps64
  go_wp2_with (rw [← hW0]; go_at_call 93; go_must (refine H.out.1.mono ?_); rintro e w2 ⟨rfl, rfl⟩)
  go_ret
  exact ⟨rfl, by rw [← hW0]; exact H.out.2⟩
set_option maxHeartbeats 800000 in
set_option maxRecDepth 100000 in
theorem ent5_yes (A : Option Addr) (ca g c : Nat) (ids : List Int) (id : Int) (w : World) (ha : Reads w w.heap.size 1 A ids.length (cellsI ids)) (hn : ids.length ≤ 1000000000) (hin : id ∈ ids) :
    Calls Try.prog 74 #[.agg #[.slice A ids.length ca, .slice (some ⟨g, 0, none⟩) ids.length c], .int .i64 id] w fun e w2 => e = .returned (.pointer (some ⟨g, placeI ids id * 5, none⟩)) ∧ Below w.heap.size w w2 := by
  obtain ⟨W0, hW0⟩ : ∃ W0, W0 = w.alloc (.cells #[.slice A ids.length ca, .slice (some ⟨g, 0, none⟩) ids.length c] 104) := ⟨_, rfl⟩
  have b0 : Below w.heap.size w W0 := by rw [hW0]; exact (Below.refl _ _).alloc (Nat.le_refl _) _
  have hz : W0.heap[w.heap.size]? = some (.cells #[.slice A ids.length ca, .slice (some ⟨g, 0, none⟩) ids.length c] 104 (0, 0)) := by rw [hW0]; exact heap_alloc_new _ _
  have z0 := cell_of_row _ _ 0 _ _ _ hz
  have z1 := cell_of_row _ _ 1 _ _ _ hz
  have hI := indexI_any A ca ids id W0 (ha.step b0) (by omega)
  obtain ⟨p1, p2, p3⟩ := placeI_at hin
  rw [p1] at hI
  obtain ⟨q, hq⟩ : ∃ q, q = placeI ids id := ⟨_, rfl⟩
  rw [← hq] at hI p2 ⊢
  have hqi : (0 : Int) ≤ (q : Int) := by omega
  have hqn : (q : Int) < (ids.length : Int) := by omega
  have e0 : decide ((q : Int) < 0) = false := decide_eq_false (by omega)
  have H := Lib.hid (And.intro hI b0)
  clear hI b0 ha p1 p3 hin hq hz
  go_enter Try.func74, Try.ntmps74
  go_wp2_with (rw [← hW0]; go_at_call 93; go_must (refine H.out.1.mono ?_); rintro e w2 ⟨rfl, rfl⟩)
  go_ret
  exact ⟨by simp, by rw [← hW0]; exact H.out.2⟩
set_option maxHeartbeats 800000 in
set_option maxRecDepth 100000 in
theorem ent5_no (A : Option Addr) (ca : Nat) (v : Value) (ids : List Int) (id : Int) (w : World) (ha : Reads w w.heap.size 1 A ids.length (cellsI ids)) (hn : ids.length ≤ 1000000000) (hin : id ∉ ids) :
    Calls Try.prog 74 #[.agg #[.slice A ids.length ca, v], .int .i64 id] w fun e w2 => e = .returned (.pointer none) ∧ Below w.heap.size w w2 := by
  obtain ⟨W0, hW0⟩ : ∃ W0, W0 = w.alloc (.cells #[.slice A ids.length ca, v] 104) := ⟨_, rfl⟩
  have b0 : Below w.heap.size w W0 := by rw [hW0]; exact (Below.refl _ _).alloc (Nat.le_refl _) _
  have hz : W0.heap[w.heap.size]? = some (.cells #[.slice A ids.length ca, v] 104 (0, 0)) := by rw [hW0]; exact heap_alloc_new _ _
  have z0 := cell_of_row _ _ 0 _ _ _ hz
  have hI := indexI_any A ca ids id W0 (ha.step b0) (by omega)
  have hf : findI ids id = -1 := by
    rcases findI_spec ids id with h | ⟨_, _, _, _, h⟩
    · exact h.1
    · exact absurd h hin
  rw [hf] at hI
  have H := Lib.hid (And.intro hI b0)
  clear hI b0 ha hin hz hf
  go_enter Try.func74, Try.ntmps74
  go_wp2_with (rw [← hW0]; go_at_call 93; go_must (refine H.out.1.mono ?_); rintro e w2 ⟨rfl, rfl⟩)
  go_ret
  exact ⟨rfl, by rw [← hW0]; exact H.out.2⟩
set_option maxHeartbeats 800000 in
set_option maxRecDepth 100000 in
theorem entI_yes (A : Option Addr) (ca g c : Nat) (ids : List Int) (id : Int) (w : World) (ha : Reads w w.heap.size 1 A ids.length (cellsI ids)) (hn : ids.length ≤ 1000000000) (hin : id ∈ ids) :
    Calls Try.prog 87 #[.agg #[.slice A ids.length ca, .slice (some ⟨g, 0, none⟩) ids.length c], .int .i64 id] w fun e w2 => e = .returned (.pointer (some ⟨g, placeI ids id, none⟩)) ∧ Below w.heap.size w w2 := by
  obtain ⟨W0, hW0⟩ : ∃ W0, W0 = w.alloc (.cells #[.slice A ids.length ca, .slice (some ⟨g, 0, none⟩) ids.length c] 128) := ⟨_, rfl⟩
  have b0 : Below w.heap.size w W0 := by rw [hW0]; exact (Below.refl _ _).alloc (Nat.le_refl _) _
  have hz : W0.heap[w.heap.size]? = some (.cells #[.slice A ids.length ca, .slice (some ⟨g, 0, none⟩) ids.length c] 128 (0, 0)) := by rw [hW0]; exact heap_alloc_new _ _
  have z0 := cell_of_row _ _ 0 _ _ _ hz
  have z1 := cell_of_row _ _ 1 _ _ _ hz
  have hI := indexI_any A ca ids id W0 (ha.step b0) (by omega)
  obtain ⟨p1, p2, p3⟩ := placeI_at hin
  rw [p1] at hI
  obtain ⟨q, hq⟩ : ∃ q, q = placeI ids id := ⟨_, rfl⟩
  rw [← hq] at hI p2 ⊢
  have hqi : (0 : Int) ≤ (q : Int) := by omega
  have hqn : (q : Int) < (ids.length : Int) := by omega
  have e0 : decide ((q : Int) < 0) = false := decide_eq_false (by omega)
  have H := Lib.hid (And.intro hI b0)
  clear hI b0 ha p1 p3 hin hq hz
  go_enter Try.func87, Try.ntmps87
  go_wp2_with (rw [← hW0]; go_at_call 93; go_must (refine H.out.1.mono ?_); rintro e w2 ⟨rfl, rfl⟩)
  go_ret
  exact ⟨by simp, by rw [← hW0]; exact H.out.2⟩
set_option maxHeartbeats 800000 in
set_option maxRecDepth 100000 in
theorem entI_no (A : Option Addr) (ca : Nat) (v : Value) (ids : List Int) (id : Int) (w : World) (ha : Reads w w.heap.size 1 A ids.length (cellsI ids)) (hn : ids.length ≤ 1000000000) (hin : id ∉ ids) :
    Calls Try.prog 87 #[.agg #[.slice A ids.length ca, v], .int .i64 id] w fun e w2 => e = .returned (.pointer none) ∧ Below w.heap.size w w2 := by
  obtain ⟨W0, hW0⟩ : ∃ W0, W0 = w.alloc (.cells #[.slice A ids.length ca, v] 128) := ⟨_, rfl⟩
  have b0 : Below w.heap.size w W0 := by rw [hW0]; exact (Below.refl _ _).alloc (Nat.le_refl _) _
  have hz : W0.heap[w.heap.size]? = some (.cells #[.slice A ids.length ca, v] 128 (0, 0)) := by rw [hW0]; exact heap_alloc_new _ _
  have z0 := cell_of_row _ _ 0 _ _ _ hz
  have hI := indexI_any A ca ids id W0 (ha.step b0) (by omega)
  have hf : findI ids id = -1 := by
    rcases findI_spec ids id with h | ⟨_, _, _, _, h⟩
    · exact h.1
    · exact absurd h hin
  rw [hf] at hI
  have H := Lib.hid (And.intro hI b0)
  clear hI b0 ha hin hz hf
  go_enter Try.func87, Try.ntmps87
  go_wp2_with (rw [← hW0]; go_at_call 93; go_must (refine H.out.1.mono ?_); rintro e w2 ⟨rfl, rfl⟩)
  go_ret
  exact ⟨rfl, by rw [← hW0]; exact H.out.2⟩
set_option maxHeartbeats 800000 in
set_option maxRecDepth 100000 in
theorem entS_yes (A : Option Addr) (ca g c : Nat) (ids : List Int) (id : Int) (w : World) (ha : Reads w w.heap.size 1 A ids.length (cellsI ids)) (hn : ids.length ≤ 1000000000) (hin : id ∈ ids) :
    Calls Try.prog 79 #[.agg #[.slice A ids.length ca, .slice (some ⟨g, 0, none⟩) ids.length c], .int .i64 id] w fun e w2 => e = .returned (.pointer (some ⟨g, placeI ids id * 2, none⟩)) ∧ Below w.heap.size w w2 := by
  obtain ⟨W0, hW0⟩ : ∃ W0, W0 = w.alloc (.cells #[.slice A ids.length ca, .slice (some ⟨g, 0, none⟩) ids.length c] 113) := ⟨_, rfl⟩
  have b0 : Below w.heap.size w W0 := by rw [hW0]; exact (Below.refl _ _).alloc (Nat.le_refl _) _
  have hz : W0.heap[w.heap.size]? = some (.cells #[.slice A ids.length ca, .slice (some ⟨g, 0, none⟩) ids.length c] 113 (0, 0)) := by rw [hW0]; exact heap_alloc_new _ _
  have z0 := cell_of_row _ _ 0 _ _ _ hz
  have z1 := cell_of_row _ _ 1 _ _ _ hz
  have hI := indexI_any A ca ids id W0 (ha.step b0) (by omega)
  obtain ⟨p1, p2, p3⟩ := placeI_at hin
  rw [p1] at hI
  obtain ⟨q, hq⟩ : ∃ q, q = placeI ids id := ⟨_, rfl⟩
  rw [← hq] at hI p2 ⊢
  have hqi : (0 : Int) ≤ (q : Int) := by omega
  have hqn : (q : Int) < (ids.length : Int) := by omega
  have e0 : decide ((q : Int) < 0) = false := decide_eq_false (by omega)
  have H := Lib.hid (And.intro hI b0)
  clear hI b0 ha p1 p3 hin hq hz
  go_enter Try.func79, Try.ntmps79
  go_wp2_with (rw [← hW0]; go_at_call 93; go_must (refine H.out.1.mono ?_); rintro e w2 ⟨rfl, rfl⟩)
  go_ret
  exact ⟨by simp, by rw [← hW0]; exact H.out.2⟩
set_option maxHeartbeats 800000 in
set_option maxRecDepth 100000 in
theorem entS_no (A : Option Addr) (ca : Nat) (v : Value) (ids : List Int) (id : Int) (w : World) (ha : Reads w w.heap.size 1 A ids.length (cellsI ids)) (hn : ids.length ≤ 1000000000) (hin : id ∉ ids) :
    Calls Try.prog 79 #[.agg #[.slice A ids.length ca, v], .int .i64 id] w fun e w2 => e = .returned (.pointer none) ∧ Below w.heap.size w w2 := by
  obtain ⟨W0, hW0⟩ : ∃ W0, W0 = w.alloc (.cells #[.slice A ids.length ca, v] 113) := ⟨_, rfl⟩
  have b0 : Below w.heap.size w W0 := by rw [hW0]; exact (Below.refl _ _).alloc (Nat.le_refl _) _
  have hz : W0.heap[w.heap.size]? = some (.cells #[.slice A ids.length ca, v] 113 (0, 0)) := by rw [hW0]; exact heap_alloc_new _ _
  have z0 := cell_of_row _ _ 0 _ _ _ hz
  have hI := indexI_any A ca ids id W0 (ha.step b0) (by omega)
  have hf : findI ids id = -1 := by
    rcases findI_spec ids id with h | ⟨_, _, _, _, h⟩
    · exact h.1
    · exact absurd h hin
  rw [hf] at hI
  have H := Lib.hid (And.intro hI b0)
  clear hI b0 ha hin hz hf
  go_enter Try.func79, Try.ntmps79
  go_wp2_with (rw [← hW0]; go_at_call 93; go_must (refine H.out.1.mono ?_); rintro e w2 ⟨rfl, rfl⟩)
  go_ret
  exact ⟨rfl, by rw [← hW0]; exact H.out.2⟩
end Go.Proofs.Ytopdmcnbchpihaa

/- The program's tables of the latest years, and of the latest years below. -/
namespace Go.Proofs.Ytopdmcnbchpihaa
open Go.RowKit

/-- A table of numbers of the call's own. -/
def TabY (w : World) (A : Option Addr) (ca n : Nat) (Y : List Int) (e : Ending) (w2 : World) : Prop :=
  ∃ g, e = .returned (.agg #[.slice A n ca, .slice (some ⟨g, 0, none⟩) n n]) ∧ Below w.heap.size w w2 ∧ w2.ownsRow w.heap.size 3 1 (.slice (some ⟨g, 0, none⟩) n n) n (cellsI Y)
theorem own_grow {w w2 : World} {base e size n : Nat} {v : Value} {xs : List Value} {g : Nat} (h : w.ownsRow base e size v n xs) (hg : w.grownBy w2 (some g)) (hne : v.ownBlock ≠ some g) : w2.ownsRow base e size v n xs := h.kept hg (.inr hne)
theorem tabI4_ret {W : World} {g : Nat} {a b : Value} {tmps : Array Value} (h : W.heap[g]? = some (.cells #[a, b] 128 (0, 0))) (h2 : tmps.getD 4 undef = .pointer (some ⟨g, 0, none⟩)) :
    (results Try.f115 tmps).run Try.prog W = .ok (.agg #[a, b]) W := by
  rw [results_cell1 rfl, h2]
  have hl := run_loadVar_row (P := Try.prog) W g 128 128 #[a, b] (0, 0) _ h Try.underlying128 rfl (by kernel_rfl)
  simp [asAddr, Result.andThen, hl]
set_option maxHeartbeats 4000000 in
set_option maxRecDepth 100000 in
theorem latest_any (A D : Option Addr) (ca cd : Nat) (ids : List Int) (L : List Ctx) (w : World) (ha : Reads w w.heap.size 1 A ids.length (cellsI ids)) (hd : Reads w w.heap.size 3 D L.length (cellsC L)) (hv : validI ids = true) (hL : L.length ≤ 1000000000) :
    Calls Try.prog 115 #[.slice A ids.length ca, .slice D L.length cd] w (TabY w A ca ids.length (latT ids L)) := by
  have hn12 : ids.length ≤ 12 := validO_len hv
  obtain ⟨W0, hW0⟩ : ∃ W0, W0 = w.alloc (.cells #[.slice none 0 0, .slice none 0 0] 128) := ⟨_, rfl⟩
  have b0 : Below w.heap.size w W0 := by rw [hW0]; exact (Below.refl _ _).alloc (Nat.le_refl _) _
  have hs0 : w.heap.size < W0.heap.size := by rw [hW0]; simp
  have hz : W0.heap[w.heap.size]? = some (.cells #[.slice none 0 0, .slice none 0 0] 128 (0, 0)) := by rw [hW0]; exact heap_alloc_new _ _
  have hN := newI_any A ids.length ca W0 (by omega)
  have H := Lib.hid (And.intro hN (And.intro hz (And.intro b0 (And.intro (ha.step b0) (And.intro (hd.step b0) hv)))))
  have HW0 := Lib.hid hW0
  clear hN hz b0 ha hd hv
  go_enter Try.func115, Try.ntmps115
  go_wp2_with (rw [← hW0]; go_at_call 116; go_must (refine H.out.1.mono ?_); rintro e w2 ⟨g, rfl, k2, o2⟩)
  clear hW0
  have hgl := o2.lt g rfl
  obtain ⟨W3, hW3⟩ : ∃ W3, W3 = w2.alloc (.cells #[.slice A ids.length ca, .slice (some ⟨g, 0, none⟩) ids.length ids.length] 128) := ⟨_, rfl⟩
  have b3 : Below w2.heap.size w2 W3 := by rw [hW3]; exact (Below.refl w2.heap.size w2).alloc (Nat.le_refl _) _
  have hs3 : w2.heap.size < W3.heap.size := by rw [hW3]; simp
  have ht3 : W3.heap[w2.heap.size]? = some (.cells #[.slice A ids.length ca, .slice (some ⟨g, 0, none⟩) ids.length ids.length] 128 (0, 0)) := by rw [hW3]; exact heap_alloc_new _ _
  have b03 := below_step k2 b3
  have r3 : W3.heap[w.heap.size]? = _ := (b03.block _ hs0).trans H.out.2.1
  have K := Lib.hid (And.intro b03 (And.intro (own_below o2 b3) (And.intro ht3 (And.intro r3 (And.intro (H.out.2.2.2.1.step b03) (H.out.2.2.2.2.1.step b03))))))
  rw [← hW3]
  have hs02 : W0.heap.size ≤ w2.heap.size := k2.size
  clear k2 o2 b3 ht3 b03 r3 hW3
  go_loopw [13] (fun c wr => ∃ k : Nat, k ≤ L.length ∧ c = .int .i64 k ∧ W3.grownBy wr (some g) ∧ wr.ownsRow W0.heap.size 3 1 (.slice (some ⟨g, 0, none⟩) ids.length ids.length) ids.length (cellsI (latT ids (L.take k)))) (fun c _ => L.length - (intOf c).toNat)
  case atStart => exact ⟨0, Nat.zero_le _, rfl, World.grownBy.refl _ _, by rw [List.take_zero, latT_zero]; exact K.out.2.1⟩
  case round =>
    obtain ⟨k, hk, rfl, hgr, how⟩ := hrel
    have hsz := hgr.size
    have bw := grown_below hgr K.out.1 hgl.1
    have htw := (hgr.block _ hs3 (by intro e; injection e with e; omega)).trans K.out.2.2.1
    by_cases hlt : k < L.length
    · have hkl : (k : Int) < (L.length : Int) := by omega
      obtain ⟨b, off, hA, hbb, hcc⟩ := (H.out.2.2.2.2.1.step bw).ctx (by omega)
      subst hA
      obtain ⟨⟨xa, xb, xc⟩, hx⟩ : ∃ f, L[k]? = some f := ⟨_, List.getElem?_eq_getElem hlt⟩
      obtain ⟨c1, c2, c3⟩ := hcc k _ hx
      dsimp only at c1 c2 c3
      obtain ⟨W5, hW5⟩ : ∃ W5, W5 = wr.alloc (.cells #[.int .i64 xa, .int .i64 xb, .int .i64 xc] 31) := ⟨_, rfl⟩
      have b5 : Below wr.heap.size wr W5 := by rw [hW5]; exact (Below.refl wr.heap.size wr).alloc (Nat.le_refl _) _
      have hs5 : wr.heap.size < W5.heap.size := by rw [hW5]; simp
      have hf5 : W5.heap[wr.heap.size]? = some (.cells #[.int .i64 xa, .int .i64 xb, .int .i64 xc] 31 (0, 0)) := by rw [hW5]; exact heap_alloc_new _ _
      have t5 := (b5.block _ (by omega)).trans htw
      have z0 := cell_of_row _ _ 0 _ _ _ t5
      have z1 := cell_of_row _ _ 1 _ _ _ t5
      have y0 := cell_of_row _ _ 0 _ _ _ hf5
      have y2 := cell_of_row _ _ 2 _ _ _ hf5
      rw [hW5] at z0 z1 y0
      have hrd := H.out.2.2.2.1.step (below_step bw b5)
      have o5 := own_below how b5
      have HX := Lib.hid (And.intro (hgr.trans (grown_of_below b5 (some g))) (And.intro o5 hx))
      clear hgr how bw htw hcc t5 hf5
      by_cases hin : xa ∈ ids
      · obtain ⟨p1, p2, p3⟩ := placeI_at hin
        have hE := entI_yes A ca g ids.length ids xa W5 hrd (by omega) hin
        obtain ⟨q, hq⟩ : ∃ q, q = placeI ids xa := ⟨_, rfl⟩
        rw [← hq] at hE p2 p3
        obtain ⟨y, hy⟩ : ∃ y, y = lat0 (L.take k) xa := ⟨_, rfl⟩
        obtain ⟨z, hzm⟩ : ∃ z, z = max y xc := ⟨_, rfl⟩
        have m0 : (if y < xc then xc else y) = z := by rw [hzm]; omega
        have hcell := own_cellI (k := q) (x := y) o5 (by rw [hy]; exact latT_at p3)
        have hnx := latT_in (ids := ids) H.out.2.2.2.2.2 hx p3
        dsimp only at hnx
        rw [← hy, ← hzm] at hnx
        have arm : ∀ w6, Below W5.heap.size W5 w6 → w6.cell? ⟨wr.heap.size, 2, none⟩ = some (.int .i64 xc) ∧ w6.cell? ⟨g, q, none⟩ = some (.int .i64 y) ∧ w6.frozen? ⟨g, q, none⟩ = false := fun w6 k6 =>
          ⟨(k6.cell (p := ⟨wr.heap.size, 2, none⟩) hs5).trans y2, (k6.cell (p := ⟨g, q, none⟩) (by show g < W5.heap.size; omega)).trans hcell.1, (own_below o5 k6).frozenAt q⟩
        have HM := Lib.hid (And.intro hE (And.intro hnx arm))
        clear arm hE hnx hcell p1 p2 p3 hin hq hy hzm hrd o5
        go_wp2_with (go_at_call 87; rw [← hW5]; go_must (refine HM.out.1.mono ?_); rintro e w6 ⟨rfl, k6⟩
                     obtain ⟨m1, m2, m3⟩ := HM.out.2.2 w6 k6
                     have K6 := Lib.hid k6
                     clear k6)
        go_region
        go_wp2_with fail
        go_roundw
        case rel =>
          have ho6 := own_below HX.out.2.1 K6.out
          have ho7 := own_storeI ho6 q z
          rw [← HM.out.2.1] at ho7
          exact ⟨k + 1, by omega, by go_num, (grown_store (HX.out.1.trans (grown_of_below K6.out (some g)))).trans (grown_of_below ((Below.refl _ _).drew) (some g)), own_below ho7 ((Below.refl _ _).drew)⟩
        case measure => simp [intOf]; omega
      · have HP := Lib.hid (entI_no A ca (.slice (some ⟨g, 0, none⟩) ids.length ids.length) ids xa W5 hrd (by omega) hin)
        have HT := Lib.hid (latT_out (ids := ids) hx hin)
        clear hin hrd o5
        go_wp2_with (go_at_call 87; rw [← hW5]; go_must (refine HP.out.mono ?_); rintro e w6 ⟨rfl, k6⟩)
        go_roundw
        case rel => exact ⟨k + 1, by omega, by go_num, HX.out.1.trans (grown_of_below k6 (some g)), by rw [HT.out]; exact own_below HX.out.2.1 k6⟩
        case measure => simp [intOf]; omega
    · have hkl : k = L.length := by omega
      subst hkl
      rw [List.take_length] at how
      have z0 := cell_of_row _ _ 0 _ _ _ htw
      have z1 := cell_of_row _ _ 1 _ _ _ htw
      have hrc := (bw.block _ hs0).trans H.out.2.1
      have v0 := cell_of_row _ _ 0 _ _ _ hrc
      have v1 := cell_of_row _ _ 1 _ _ _ hrc
      have x0 := frozen_of_row _ _ 0 _ _ hrc
      have x1 := frozen_of_row _ _ 1 _ _ hrc
      have HX := Lib.hid (And.intro bw (And.intro how hrc))
      clear hgr how bw htw hrc
      go_wp2_with fail
      (try simp only [Exit.inBlock, Exit.then]); refine bodyPost_ret (tabI4_ret (two_cells _ _ HX.out.2.2) rfl) rfl ?_
      have hne : (Value.slice (some ⟨g, 0, none⟩) ids.length ids.length).ownBlock ≠ some w.heap.size := fun e => by
        have : g = w.heap.size := by injection e
        omega
      exact ⟨g, rfl, ((H.out.2.2.1.trans (HX.out.1.mono (Nat.le_of_lt hs0))).setCell (Nat.le_refl _) _).setCell (Nat.le_refl _) _,
        ownsRow_setCell_other (ownsRow_setCell_other (own_less HX.out.2.1 (Nat.le_of_lt hs0)) (a := ⟨w.heap.size, 0, none⟩) hne _) (a := ⟨w.heap.size, 1, none⟩) hne _⟩
theorem tabI6_ret {W : World} {g : Nat} {a b : Value} {tmps : Array Value} (h : W.heap[g]? = some (.cells #[a, b] 128 (0, 0))) (h2 : tmps.getD 6 undef = .pointer (some ⟨g, 0, none⟩)) :
    (results Try.f86 tmps).run Try.prog W = .ok (.agg #[a, b]) W := by
  rw [results_cell1 rfl, h2]
  have hl := run_loadVar_row (P := Try.prog) W g 128 128 #[a, b] (0, 0) _ h Try.underlying128 rfl (by kernel_rfl)
  simp [asAddr, Result.andThen, hl]
theorem fillI_here {l : List Int} {k : Nat} (hk : k < l.length) : (fillI l k).set k 0 = fillI l k := by
  refine List.ext_getElem? fun i => ?_
  by_cases e : k = i
  · subst e
    rw [List.getElem?_set_self (by rw [fillI_len (by omega)]; exact hk), fillI_at hk]
  · rw [List.getElem?_set_ne e]
theorem has_is (r p : Nat) (b : Bool) (hr : r < 65536) (hp : p < 16) (h : r.testBit p = b) (w : World) :
    Calls Try.prog 94 #[.int .u16 (r : Int), .int .i64 (p : Int)] w fun e w2 => e = .returned (.bool b) ∧ w = w2 := by
  rw [← h]
  exact has_any r p hr hp w
set_option maxHeartbeats 8000000 in
set_option maxRecDepth 100000 in
theorem lbelow_any (A D R : Option Addr) (ca cd cr : Nat) (ids : List Int) (L : List Ctx) (F : Nat → Nat → Bool) (w : World) (ha : Reads w w.heap.size 1 A ids.length (cellsI ids)) (hd : Reads w w.heap.size 3 D L.length (cellsC L))
    (hR : Reads w w.heap.size 1 R ids.length (cellsU (rowsN ids.length F))) (hv : validI ids = true) (hL : L.length ≤ 1000000000) :
    Calls Try.prog 86 #[.slice A ids.length ca, .slice R ids.length cr, .slice D L.length cd] w (TabY w A ca ids.length (belT F (latT ids L) ids.length)) := by
  have hn12 : ids.length ≤ 12 := validO_len hv
  obtain ⟨W0, hW0⟩ : ∃ W0, W0 = w.alloc (.cells #[.slice none 0 0, .slice none 0 0] 128) := ⟨_, rfl⟩
  have b0 : Below w.heap.size w W0 := by rw [hW0]; exact (Below.refl _ _).alloc (Nat.le_refl _) _
  have hs0 : w.heap.size < W0.heap.size := by rw [hW0]; simp
  have hz : W0.heap[w.heap.size]? = some (.cells #[.slice none 0 0, .slice none 0 0] 128 (0, 0)) := by rw [hW0]; exact heap_alloc_new _ _
  have hLt := latest_any A D ca cd ids L W0 (ha.step b0) (hd.step b0) hv hL
  obtain ⟨Y, hY⟩ : ∃ Y, Y = latT ids L := ⟨_, rfl⟩
  have hYl : Y.length = ids.length := by rw [hY]; exact latT_len _ _
  rw [← hY] at hLt ⊢
  obtain ⟨n, hn⟩ : ∃ n, n = ids.length := ⟨_, rfl⟩
  rw [← hn] at hLt hR ha hn12 hYl ⊢
  have H := Lib.hid (And.intro hLt (And.intro hz (And.intro b0 (hR.step b0))))
  clear hLt hz b0 ha hd hR hv hY hn
  go_enter Try.func86, Try.ntmps86
  go_wp2_with (first
    | (rw [← hW0]; go_at_call 115; go_must (refine H.out.1.mono ?_); rintro e w2 ⟨g1, rfl, k2, o2⟩
       have K2 := Lib.hid (And.intro k2 o2)
       clear k2 o2)
    | (go_at_call 116; go_must (refine (newI_any A n ca w2 (by omega)).mono ?_); rintro e w3 ⟨g2, rfl, k3, o3⟩))
  clear hW0
  have hgl1 := K2.out.2.lt g1 rfl
  have hgl2 := o3.lt g2 rfl
  have hs23 := k3.size
  have hs02 := K2.out.1.size
  obtain ⟨T, hT⟩ : ∃ T, T = 128 := ⟨_, rfl⟩
  obtain ⟨W4, hW4⟩ : ∃ W4, W4 = (w3.alloc (.cells #[.slice A n ca, .slice (some ⟨g1, 0, none⟩) n n] 128)).alloc (.cells #[.slice A n ca, .slice (some ⟨g2, 0, none⟩) n n] 128) := ⟨_, rfl⟩
  have b4 : Below w3.heap.size w3 W4 := by rw [hW4]; exact ((Below.refl w3.heap.size w3).alloc (Nat.le_refl _) _).alloc (by simp) _
  have hs4 : w3.heap.size + 1 < W4.heap.size := by rw [hW4]; simp
  have ht7 : W4.heap[w3.heap.size]? = some (.cells #[.slice A n ca, .slice (some ⟨g1, 0, none⟩) n n] 128 (0, 0)) := by rw [hW4]; exact row_alloc (heap_alloc_new _ _)
  have ht8 : W4.heap[w3.heap.size + 1]? = some (.cells #[.slice A n ca, .slice (some ⟨g2, 0, none⟩) n n] 128 (0, 0)) := by
    rw [hW4]
    have h := heap_alloc_new (w3.alloc (.cells #[.slice A n ca, .slice (some ⟨g1, 0, none⟩) n n] 128)) (.cells #[.slice A n ca, .slice (some ⟨g2, 0, none⟩) n n] 128)
    simpa using h
  have b24 := below_step k3 b4
  have b04 := below_step K2.out.1 b24
  have r4 : W4.heap[w.heap.size]? = _ := (b04.block _ hs0).trans H.out.2.1
  have K := Lib.hid (And.intro b04 (And.intro (own_below o3 b4) (And.intro (own_below K2.out.2 b24) (And.intro ht7 (And.intro ht8 (And.intro r4 (H.out.2.2.2.step b04)))))))
  rw [← hW4]
  clear k3 o3 b4 b24 b04 ht7 ht8 r4 hW4 K2
  have hTl := belT_len F Y n
  have hrest : ∀ wr, W4.grownBy wr (some g2) → Below W0.heap.size W0 wr ∧ wr.ownsRow W0.heap.size 3 1 (.slice (some ⟨g1, 0, none⟩) n n) n (cellsI Y) ∧ wr.heap[w3.heap.size]? = some (.cells #[.slice A n ca, .slice (some ⟨g1, 0, none⟩) n n] 128 (0, 0)) ∧
      wr.heap[w3.heap.size + 1]? = some (.cells #[.slice A n ca, .slice (some ⟨g2, 0, none⟩) n n] 128 (0, 0)) ∧ wr.heap[w.heap.size]? = some (.cells #[.slice none 0 0, .slice none 0 0] 128 (0, 0)) ∧ Reads wr wr.heap.size 1 R n (cellsU (rowsN n F)) := fun wr hg => by
    obtain ⟨b04, o2, o1, ht7, ht8, r4, rR⟩ := K.out
    have bw := grown_below hg b04 (by omega)
    exact ⟨bw, own_grow o1 hg (fun e => by have e2 : g1 = g2 := by injection e
                                           omega), (hg.block _ (by omega) (by intro e; injection e with e; omega)).trans ht7, (hg.block _ hs4 (by intro e; injection e with e; omega)).trans ht8, (bw.block _ hs0).trans H.out.2.1, H.out.2.2.2.step bw⟩
  have HK := Lib.hid hrest
  clear hrest hT
  go_loopw [20] (fun c wr => ∃ i : Nat, i ≤ n ∧ c = .int .i64 i ∧ W4.grownBy wr (some g2) ∧ wr.ownsRow w2.heap.size 3 1 (.slice (some ⟨g2, 0, none⟩) n n) n (cellsI (fillI (belT F Y n) i))) (fun c _ => n - (intOf c).toNat)
  case atStart => exact ⟨0, Nat.zero_le _, rfl, World.grownBy.refl _ _, by unfold fillI; rw [hTl]; exact K.out.2.1⟩
  case round =>
    obtain ⟨i, hi, rfl, hgr, how⟩ := hrel
    obtain ⟨bw, oY, ht7, ht8, hrc, rR⟩ := HK.out wr hgr
    by_cases hlt : i < n
    · have hin : (i : Int) < (n : Int) := by omega
      obtain ⟨b, off, hA, hbb, hcc⟩ := rR.rows (by omega)
      subst hA
      obtain ⟨x, hx⟩ : ∃ x, x = bitN n (F i) := ⟨_, rfl⟩
      have hx16 : x < 65536 := by rw [hx]; exact bitN_16 _ (by omega)
      have c1 := hcc i x (by rw [rowsN_at _ hlt, hx])
      have z1 := cell_of_row _ _ 1 _ _ _ ht7
      have HX := Lib.hid (And.intro hgr (And.intro (by rw [show belO F Y i 0 = 0 from rfl, fillI_here (by omega)]; exact how : wr.ownsRow w2.heap.size 3 1 (.slice (some ⟨g2, 0, none⟩) n n) n (cellsI ((fillI (belT F Y n) i).set i (belO F Y i 0)))) hx))
      clear hgr how bw oY ht7 ht8 hrc rR hcc hx
      go_wp2_with fail
      go_loopw [28] (fun c wq => ∃ j : Nat, j ≤ n ∧ c = .int .i64 j ∧ W4.grownBy wq (some g2) ∧ wq.ownsRow w2.heap.size 3 1 (.slice (some ⟨g2, 0, none⟩) n n) n (cellsI ((fillI (belT F Y n) i).set i (belO F Y i j)))) (fun c _ => n - (intOf c).toNat)
      case atStart => exact ⟨0, Nat.zero_le _, rfl, HX.out.1, HX.out.2.1⟩
      case round =>
        obtain ⟨j, hj, rfl, hgq, hoq⟩ := hrel
        obtain ⟨bq, oY, ht7, ht8, hrc, rR⟩ := HK.out _ hgq
        by_cases hjn : j < n
        · have hji : (j : Int) < (n : Int) := by omega
          obtain ⟨y, hy⟩ : ∃ y, Y[j]? = some y := ⟨_, List.getElem?_eq_getElem (by omega)⟩
          have d1 := (own_cellI oY hy).1
          have hyd : Y.getD j 0 = y := by simp [hy]
          obtain ⟨m, hm⟩ : ∃ m, m = belO F Y i j := ⟨_, rfl⟩
          obtain ⟨e1, e2⟩ := own_cellI (k := i) (x := m) hoq (by rw [List.getElem?_set_self (by rw [fillI_len (by omega)]; omega), hm])
          have u1 := cell_of_row _ _ 1 _ _ _ ht8
          obtain ⟨t, ht⟩ : ∃ t, t = F i j := ⟨_, rfl⟩
          have hhas := fun (W : World) => has_is x j t hx16 (by omega) (by rw [HX.out.2.2, bitN_test, decide_eq_true hjn, ht]; rfl) W
          have hnx : belO F Y i (j + 1) = if t = true then max m y else m := by rw [hm, ht, ← hyd]; rfl
          obtain ⟨z, hzm⟩ : ∃ z, z = max m y := ⟨_, rfl⟩
          have m0 : (if m < y then y else m) = z := by rw [hzm]; omega
          rw [← hzm] at hnx
          have HQ := Lib.hid (And.intro hgq (And.intro hoq (And.intro hhas hnx)))
          have HMm := Lib.hid hm
          clear hgq hoq bq oY ht7 ht8 hrc rR hy hyd hm hhas hnx hzm ht
          cases t
          · go_wp2_with (go_at_call 94; go_must (refine (HQ.out.2.2.1 _).mono ?_); rintro e w9 ⟨rfl, rfl⟩)
            go_roundw
            case rel => exact ⟨j + 1, by omega, by go_num, HQ.out.1, by rw [HQ.out.2.2.2, if_neg (by simp), HMm.out]; exact HQ.out.2.1⟩
            case measure => simp [intOf]; omega
          · go_wp2_with (go_at_call 94; go_must (refine (HQ.out.2.2.1 _).mono ?_); rintro e w9 ⟨rfl, rfl⟩)
            go_region
            go_wp2_with fail
            go_roundw
            case rel =>
              have ho := own_storeI HQ.out.2.1 i z
              rw [List.set_set] at ho
              exact ⟨j + 1, by omega, by go_num, (grown_store HQ.out.1).trans (grown_of_below ((Below.refl _ _).drew) (some g2)), by rw [HQ.out.2.2.2, if_pos (by trivial)]; exact own_below ho ((Below.refl _ _).drew)⟩
            case measure => simp [intOf]; omega
        · have hjl : j = n := by omega
          have hset := fillI_set (l := belT F Y n) (k := i) (belT_at hlt)
          have HQ := Lib.hid (And.intro hgq (And.intro hoq (And.intro hjl hset)))
          clear hgq hoq bq oY ht7 ht8 hrc rR hjl hset
          have hjd : decide ((j : Int) < (n : Int)) = false := decide_eq_false (by omega)
          go_wp2_with fail
          go_roundw
          case rel =>
            obtain ⟨h1, h2, h3, h4⟩ := HQ.out
            rw [h3, h4] at h2
            exact ⟨i + 1, by omega, by go_num, h1, h2⟩
          case measure => simp [intOf]; omega
    · have hil : i = n := by omega
      have hall := fillI_all (belT F Y n)
      rw [hTl] at hall
      rw [hil, hall] at how
      have z0 := cell_of_row _ _ 0 _ _ _ ht8
      have z1 := cell_of_row _ _ 1 _ _ _ ht8
      have v0 := cell_of_row _ _ 0 _ _ _ hrc
      have v1 := cell_of_row _ _ 1 _ _ _ hrc
      have x0 := frozen_of_row _ _ 0 _ _ hrc
      have x1 := frozen_of_row _ _ 1 _ _ hrc
      have HX := Lib.hid (And.intro bw (And.intro how hrc))
      have hjd : decide ((i : Int) < (n : Int)) = false := decide_eq_false (by omega)
      clear hgr how bw oY ht7 ht8 hrc rR hil hall
      go_wp2_with fail
      (try simp only [Exit.inBlock, Exit.then]); refine bodyPost_ret (tabI6_ret (two_cells _ _ HX.out.2.2) rfl) rfl ?_
      have hne : (Value.slice (some ⟨g2, 0, none⟩) n n).ownBlock ≠ some w.heap.size := fun e => by
        have : g2 = w.heap.size := by injection e
        omega
      exact ⟨g2, rfl, ((H.out.2.2.1.trans (HX.out.1.mono (Nat.le_of_lt hs0))).setCell (Nat.le_refl _) _).setCell (Nat.le_refl _) _,
        ownsRow_setCell_other (ownsRow_setCell_other (own_less HX.out.2.1 (by omega)) (a := ⟨w.heap.size, 0, none⟩) hne _) (a := ⟨w.heap.size, 1, none⟩) hne _⟩
end Go.Proofs.Ytopdmcnbchpihaa
