/- What the rows' listed table says of the cells that the library reads. -/
import Derived.Test.YtmcnjmflmpfjlaaDoorV6
import Derived.Test.YtmcnjmflmpfjlaaDoorCd
import Derived.Shelf.Vars
import Derived.OpenShut
import Derived.LaidMore
namespace Go.Proofs.YtmcnjmflmpfjlaaDoor
open Go.RowKit Go.ChangeShapes Go.WideShapes

theorem tab_len : Lib.deBruijn32tab.length = 32 := by decide
theorem laid_tab {H : Type} : (Rows.laid_math_bits_deBruijn32tab : DataW H) = .agg (Lib.deBruijn32tab.map fun (n : Nat) => .lit (.int .u8 (n : Int))) := rfl
theorem glob_of {W : World} (hL0 : laidMetH Tryd.prog Rows.fnCycleNoneRow.laid W) (_ : W.ShapedOpen Tryd.prog) : Glob W := by
  have h : laidMet Tryd.prog [("math/bits.deBruijn32tab", Rows.laid_math_bits_deBruijn32tab)] W := by
    have h := hL0
    rw [MakeChecks.laidMetH_plain _ _ _ (by kernel_rfl)] at h
    exact h
  obtain ⟨ps, ⟨g, t, cs, fuel, p, q, hg, ht, hv, hd, _, _⟩, _, _⟩ := h
  obtain rfl := Option.some.inj ((show Tryd.prog.globalNamed "math/bits.deBruijn32tab" = some 0 by kernel_rfl).symm.trans hg)
  obtain rfl := Option.some.inj ((show (Tryd.prog.globals[0]?).map (·.type) = some 83 by kernel_rfl).symm.trans ht)
  have c5 : Tryd.prog.cellsOf 5 = 1 := by kernel_rfl
  have cT : Tryd.prog.cellsOf 83 = 32 := by kernel_rfl
  obtain ⟨xs, m, _, ex, hlen, hl, hel⟩ := DataW.trod_array Tryd.underlying83 hd
  rw [cT] at hlen
  have e3 := DataW.agg.inj ((Prod.mk.inj ex).1)
  have hcell := fun j => World.var?_cell (show Tryd.prog.globalNamed "math/bits.deBruijn32tab" = some 0 by kernel_rfl) hv j
  have key : ∀ j, j < 32 → W.cell? ⟨0, j, none⟩ = some (.int .u8 ((Lib.deBruijn32tab.getD j 0 : Nat) : Int)) := by
    intro j hj
    have k := hel j hj
    rw [c5] at k
    obtain ⟨x, hx⟩ : ∃ x, xs[j]? = some x := ⟨_, List.getElem?_eq_getElem (by omega)⟩
    rw [hx] at k
    obtain ⟨z, a, b, _⟩ := DataW.trod_int Tryd.underlying5 k
    have hcs : cs[j]? = some (.int .u8 z) := by
      have h1 : ((cs.toList.drop (j * 1)).take 1)[0]? = some (.int .u8 z) := by rw [a]; rfl
      rw [List.getElem?_take, if_pos (by omega), List.getElem?_drop] at h1
      simpa using h1
    have hz : (Lib.deBruijn32tab.map fun (n : Nat) => (DataW.lit (.int .u8 (n : Int)) : DataW Unit))[j]? = some (.lit (.int .u8 z)) := by
      have h2 : (xs.map (·.1))[j]? = some (.lit (.int .u8 z)) := by rw [List.getElem?_map, hx, b]; rfl
      rw [← e3] at h2
      exact h2
    have hj2 : j < Lib.deBruijn32tab.length := by rw [tab_len]; exact hj
    rw [List.getElem?_map, List.getElem?_eq_getElem hj2, Option.map_some] at hz
    injection hz with hz
    injection hz with hz
    injection hz with _ hz
    rw [hcell j, hcs, ← hz, List.getD_eq_getElem?_getD, List.getElem?_eq_getElem hj2]
    rfl
  exact ⟨key, World.block_lt_of_cell? _ _ (key 0 (by omega))⟩
end Go.Proofs.YtmcnjmflmpfjlaaDoor
