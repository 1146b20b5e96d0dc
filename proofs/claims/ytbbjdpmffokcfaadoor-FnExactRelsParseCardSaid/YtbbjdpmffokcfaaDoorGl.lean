/- What the rows' listed variables and the first world's shape say of the cells that the library reads. -/
import Derived.Test.YtbbjdpmffokcfaaDoorLb
import Derived.Test.YtbbjdpmffokcfaaDoorCd
import Derived.Shelf.Vars
namespace Go.Proofs.YtbbjdpmffokcfaaDoor
open Go.RowKit Go.ChangeShapes Go.WideShapes

theorem errStar : "*" ++ "errors.errorString" = "*errors.errorString" := by decide
theorem errRow (u : TypeId) (h : Tryd.prog.typeName? 3 u = some "*errors.errorString") : u = 128 :=
  typeName_ptr_named (nm := "errors.errorString") (by rw [errStar]; kernel_rfl) (by kernel_rfl) (by decide) u (by rw [errStar]; exact h)
theorem glob_of {W : World} (hL0 : laidMetH Tryd.prog Rows.fnRelsTextRow.laid W) (hsh : W.ShapedOpen Tryd.prog) : Glob W := by
  have hL : laidMet Tryd.prog Rows.fnRelsTextRow.laid W := by
    have h := hL0
    rw [MakeChecks.laidMetH_plain _ _ _ (by kernel_rfl)] at h
    exact h
  obtain ⟨a1, s1, hv1, _⟩ := laid_sentinel (n := "strconv.ErrRange") hL.tail.tail.tail.tail (by kernel_rfl : Tryd.prog.globalNamed "strconv.ErrRange" = some (Tryd.laysC172_ren.g 16)) (by kernel_rfl : (Tryd.prog.globals[Tryd.laysC172_ren.g 16]?).map (·.type) = some 68) Tryd.underlying68 errRow Tryd.underlying128 Tryd.underlying130 rfl rfl Tryd.underlying9 (by kernel_rfl) (by kernel_rfl)
  obtain ⟨a2, s2, hv2, _⟩ := laid_sentinel (n := "strconv.ErrSyntax") hL.tail.tail.tail.tail.tail (by kernel_rfl : Tryd.prog.globalNamed "strconv.ErrSyntax" = some (Tryd.laysC172_ren.g 15)) (by kernel_rfl : (Tryd.prog.globals[Tryd.laysC172_ren.g 15]?).map (·.type) = some 68) Tryd.underlying68 errRow Tryd.underlying128 Tryd.underlying130 rfl rfl Tryd.underlying9 (by kernel_rfl) (by kernel_rfl)
  have c1 : W.cell? ⟨Tryd.laysC172_ren.g 16, 0, none⟩ = some (.iface 128 (.pointer (some a1))) := by simpa using World.var?_cell (by kernel_rfl : Tryd.prog.globalNamed "strconv.ErrRange" = some (Tryd.laysC172_ren.g 16)) hv1 0
  have c2 : W.cell? ⟨Tryd.laysC172_ren.g 15, 0, none⟩ = some (.iface 128 (.pointer (some a2))) := by simpa using World.var?_cell (by kernel_rfl : Tryd.prog.globalNamed "strconv.ErrSyntax" = some (Tryd.laysC172_ren.g 15)) hv2 0
  have c0 := cell_of_shapedOpen_int (P := Tryd.prog) (g := Tryd.lays146_ren.g 1) (t := 3) (zero := #[.int .i64 0]) hsh (of_decide_eq_true (by kernel_rfl)) (by kernel_rfl) rfl (by kernel_rfl) (by kernel_rfl) Tryd.underlying3
  exact ⟨World.block_lt_of_cell? _ _ c1, c0, ⟨_, _, c1⟩, ⟨_, _, c2⟩⟩
end Go.Proofs.YtbbjdpmffokcfaaDoor
