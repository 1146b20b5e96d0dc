/-
  No cell of these rows narrows 'for every input' (looked for: loops, veiled, ifaces, maps, wideKeys, modest, calm, conditions, laid).
  DERIVED. THE GIVEN ROWS OF THIS SEAT. 16 by the template 'for every input the law returns true; each argument reads behind the call as it read before'; 0 by the template 'total and deterministic' (their statements: YtfkfjkhikgnnaaaTotals.lean).
  GIVEN WITH THE SEED: the statements are not yours to turn. If you find one false, say at which input.
  Laid BY PROGRAM, IN A SANDBOX (cutbox-rows.mjs): the forced cells as the released guide's own fill.sh prints them over the translation 6ed265c6ff9304c8… (all of the seat's roots in one cut). By AI agents, Wed Nov 11 2026. No macro, syntax, notation, axiom, sorry.
-/
import Derived.Test.YtfkfjkhikgnnaaaChecked
import GoSem.Claim
import GoSem.ClaimJoined
import GoSem.ClaimMapViews
import Derived.JoinedTies
import Derived.KernelRfl
namespace Go.Proofs.Ytfkfjkhikgnnaaa
/- THE CELL 'sum', in the pinned program and in every row, IS THE sha256 OF THE DUMP (.gsa) THAT YtfkfjkhikgnnaaaProg.lean LOADS. Nothing in Lean hashes anything: it is a label: what it is worth is what the hold of that sum in a sandbox is worth. -/
noncomputable def Try.pinned : Pinned := { name := "ytfkfjkhikgnnaaa", sum := "6ed265c6ff9304c8fd6b44ff13369a05b661f40d54e56a2a770559892b685305", checked := Try.checked }
namespace Rows
def none {H : Type} : Left H := { results := [], args := [] }

/-- 'laws.FnShapeArea': WHATEVER THE INPUT: true; the input reads as it did. -/
def fnShapeAreaSpec : ChangeSpec := { name := "fnShapeArea", fn := fun _ => fun
  | [d] => { results := [.lit (.bool true)], args := [d] }
  | _ => none }
def fnShapeAreaRow : OpenClaim := { program := "ytfkfjkhikgnnaaa", sum := "6ed265c6ff9304c8fd6b44ff13369a05b661f40d54e56a2a770559892b685305", func := "loop.example/excavation/laws.FnShapeArea", spec := "fnShapeArea", apart := false }
def FnShapeAreaSaid : Prop := fnShapeAreaRow.holds Try.pinned (OpenSpec.ofChange fnShapeAreaSpec)

/-- ITS FALSE NEIGHBOUR: 'it returns false'. Refute it at one input. -/
def fnShapeAreaWrong : ChangeSpec := { name := "fnShapeArea", fn := fun _ => fun
  | [d] => { results := [.lit (.bool false)], args := [d] }
  | _ => none }
def FnShapeAreaWrongFalsely : Prop := fnShapeAreaRow.holds Try.pinned (OpenSpec.ofChange fnShapeAreaWrong)

/-- 'laws.FnShapeBox': WHATEVER THE INPUT: true; the input reads as it did. -/
def fnShapeBoxSpec : ChangeSpec := { name := "fnShapeBox", fn := fun _ => fun
  | [d] => { results := [.lit (.bool true)], args := [d] }
  | _ => none }
def fnShapeBoxRow : OpenClaim := { program := "ytfkfjkhikgnnaaa", sum := "6ed265c6ff9304c8fd6b44ff13369a05b661f40d54e56a2a770559892b685305", func := "loop.example/excavation/laws.FnShapeBox", spec := "fnShapeBox", apart := false }
def FnShapeBoxSaid : Prop := fnShapeBoxRow.holds Try.pinned (OpenSpec.ofChange fnShapeBoxSpec)

/-- ITS FALSE NEIGHBOUR: 'it returns false'. Refute it at one input. -/
def fnShapeBoxWrong : ChangeSpec := { name := "fnShapeBox", fn := fun _ => fun
  | [d] => { results := [.lit (.bool false)], args := [d] }
  | _ => none }
def FnShapeBoxWrongFalsely : Prop := fnShapeBoxRow.holds Try.pinned (OpenSpec.ofChange fnShapeBoxWrong)

/-- 'laws.FnShapeCorners': WHATEVER THE INPUT: true; the input reads as it did. -/
def fnShapeCornersSpec : ChangeSpec := { name := "fnShapeCorners", fn := fun _ => fun
  | [d] => { results := [.lit (.bool true)], args := [d] }
  | _ => none }
def fnShapeCornersRow : OpenClaim := { program := "ytfkfjkhikgnnaaa", sum := "6ed265c6ff9304c8fd6b44ff13369a05b661f40d54e56a2a770559892b685305", func := "loop.example/excavation/laws.FnShapeCorners", spec := "fnShapeCorners", apart := false }
def FnShapeCornersSaid : Prop := fnShapeCornersRow.holds Try.pinned (OpenSpec.ofChange fnShapeCornersSpec)

/-- ITS FALSE NEIGHBOUR: 'it returns false'. Refute it at one input. -/
def fnShapeCornersWrong : ChangeSpec := { name := "fnShapeCorners", fn := fun _ => fun
  | [d] => { results := [.lit (.bool false)], args := [d] }
  | _ => none }
def FnShapeCornersWrongFalsely : Prop := fnShapeCornersRow.holds Try.pinned (OpenSpec.ofChange fnShapeCornersWrong)

/-- 'laws.FnShapeMiddle': WHATEVER THE INPUT: true; the input reads as it did. -/
def fnShapeMiddleSpec : ChangeSpec := { name := "fnShapeMiddle", fn := fun _ => fun
  | [d1, d2] => { results := [.lit (.bool true)], args := [d1, d2] }
  | _ => none }
def fnShapeMiddleRow : OpenClaim := { program := "ytfkfjkhikgnnaaa", sum := "6ed265c6ff9304c8fd6b44ff13369a05b661f40d54e56a2a770559892b685305", func := "loop.example/excavation/laws.FnShapeMiddle", spec := "fnShapeMiddle", apart := false }
def FnShapeMiddleSaid : Prop := fnShapeMiddleRow.holds Try.pinned (OpenSpec.ofChange fnShapeMiddleSpec)

/-- ITS FALSE NEIGHBOUR: 'it returns false'. Refute it at one input. -/
def fnShapeMiddleWrong : ChangeSpec := { name := "fnShapeMiddle", fn := fun _ => fun
  | [d1, d2] => { results := [.lit (.bool false)], args := [d1, d2] }
  | _ => none }
def FnShapeMiddleWrongFalsely : Prop := fnShapeMiddleRow.holds Try.pinned (OpenSpec.ofChange fnShapeMiddleWrong)

/-- 'laws.FnShapeOut': WHATEVER THE INPUT: true; the input reads as it did. -/
def fnShapeOutSpec : ChangeSpec := { name := "fnShapeOut", fn := fun _ => fun
  | [d] => { results := [.lit (.bool true)], args := [d] }
  | _ => none }
def fnShapeOutRow : OpenClaim := { program := "ytfkfjkhikgnnaaa", sum := "6ed265c6ff9304c8fd6b44ff13369a05b661f40d54e56a2a770559892b685305", func := "loop.example/excavation/laws.FnShapeOut", spec := "fnShapeOut", apart := false }
def FnShapeOutSaid : Prop := fnShapeOutRow.holds Try.pinned (OpenSpec.ofChange fnShapeOutSpec)

/-- ITS FALSE NEIGHBOUR: 'it returns false'. Refute it at one input. -/
def fnShapeOutWrong : ChangeSpec := { name := "fnShapeOut", fn := fun _ => fun
  | [d] => { results := [.lit (.bool false)], args := [d] }
  | _ => none }
def FnShapeOutWrongFalsely : Prop := fnShapeOutRow.holds Try.pinned (OpenSpec.ofChange fnShapeOutWrong)

/-- 'laws.FnShapeHasArea': WHATEVER THE INPUT: true; the input reads as it did. -/
def fnShapeHasAreaSpec : ChangeSpec := { name := "fnShapeHasArea", fn := fun _ => fun
  | [d] => { results := [.lit (.bool true)], args := [d] }
  | _ => none }
def fnShapeHasAreaRow : OpenClaim := { program := "ytfkfjkhikgnnaaa", sum := "6ed265c6ff9304c8fd6b44ff13369a05b661f40d54e56a2a770559892b685305", func := "loop.example/excavation/laws.FnShapeHasArea", spec := "fnShapeHasArea", apart := false }
def FnShapeHasAreaSaid : Prop := fnShapeHasAreaRow.holds Try.pinned (OpenSpec.ofChange fnShapeHasAreaSpec)

/-- ITS FALSE NEIGHBOUR: 'it returns false'. Refute it at one input. -/
def fnShapeHasAreaWrong : ChangeSpec := { name := "fnShapeHasArea", fn := fun _ => fun
  | [d] => { results := [.lit (.bool false)], args := [d] }
  | _ => none }
def FnShapeHasAreaWrongFalsely : Prop := fnShapeHasAreaRow.holds Try.pinned (OpenSpec.ofChange fnShapeHasAreaWrong)

/-- 'laws.FnShapeMove': WHATEVER THE INPUT: true; the input reads as it did. -/
def fnShapeMoveSpec : ChangeSpec := { name := "fnShapeMove", fn := fun _ => fun
  | [d] => { results := [.lit (.bool true)], args := [d] }
  | _ => none }
def fnShapeMoveRow : OpenClaim := { program := "ytfkfjkhikgnnaaa", sum := "6ed265c6ff9304c8fd6b44ff13369a05b661f40d54e56a2a770559892b685305", func := "loop.example/excavation/laws.FnShapeMove", spec := "fnShapeMove", apart := false }
def FnShapeMoveSaid : Prop := fnShapeMoveRow.holds Try.pinned (OpenSpec.ofChange fnShapeMoveSpec)

/-- ITS FALSE NEIGHBOUR: 'it returns false'. Refute it at one input. -/
def fnShapeMoveWrong : ChangeSpec := { name := "fnShapeMove", fn := fun _ => fun
  | [d] => { results := [.lit (.bool false)], args := [d] }
  | _ => none }
def FnShapeMoveWrongFalsely : Prop := fnShapeMoveRow.holds Try.pinned (OpenSpec.ofChange fnShapeMoveWrong)

/-- 'laws.FnShapeMoveHas': WHATEVER THE INPUT: true; the input reads as it did. -/
def fnShapeMoveHasSpec : ChangeSpec := { name := "fnShapeMoveHas", fn := fun _ => fun
  | [d] => { results := [.lit (.bool true)], args := [d] }
  | _ => none }
def fnShapeMoveHasRow : OpenClaim := { program := "ytfkfjkhikgnnaaa", sum := "6ed265c6ff9304c8fd6b44ff13369a05b661f40d54e56a2a770559892b685305", func := "loop.example/excavation/laws.FnShapeMoveHas", spec := "fnShapeMoveHas", apart := false }
def FnShapeMoveHasSaid : Prop := fnShapeMoveHasRow.holds Try.pinned (OpenSpec.ofChange fnShapeMoveHasSpec)

/-- ITS FALSE NEIGHBOUR: 'it returns false'. Refute it at one input. -/
def fnShapeMoveHasWrong : ChangeSpec := { name := "fnShapeMoveHas", fn := fun _ => fun
  | [d] => { results := [.lit (.bool false)], args := [d] }
  | _ => none }
def FnShapeMoveHasWrongFalsely : Prop := fnShapeMoveHasRow.holds Try.pinned (OpenSpec.ofChange fnShapeMoveHasWrong)

/-- 'laws.FnShapeCount': WHATEVER THE INPUT: true; the input reads as it did. -/
def fnShapeCountSpec : ChangeSpec := { name := "fnShapeCount", fn := fun _ => fun
  | [d] => { results := [.lit (.bool true)], args := [d] }
  | _ => none }
def fnShapeCountRow : OpenClaim := { program := "ytfkfjkhikgnnaaa", sum := "6ed265c6ff9304c8fd6b44ff13369a05b661f40d54e56a2a770559892b685305", func := "loop.example/excavation/laws.FnShapeCount", spec := "fnShapeCount", apart := false }
def FnShapeCountSaid : Prop := fnShapeCountRow.holds Try.pinned (OpenSpec.ofChange fnShapeCountSpec)

/-- ITS FALSE NEIGHBOUR: 'it returns false'. Refute it at one input. -/
def fnShapeCountWrong : ChangeSpec := { name := "fnShapeCount", fn := fun _ => fun
  | [d] => { results := [.lit (.bool false)], args := [d] }
  | _ => none }
def FnShapeCountWrongFalsely : Prop := fnShapeCountRow.holds Try.pinned (OpenSpec.ofChange fnShapeCountWrong)

/-- 'laws.FnShapePart': WHATEVER THE INPUT: true; the input reads as it did. -/
def fnShapePartSpec : ChangeSpec := { name := "fnShapePart", fn := fun _ => fun
  | [d1, d2] => { results := [.lit (.bool true)], args := [d1, d2] }
  | _ => none }
def fnShapePartRow : OpenClaim := { program := "ytfkfjkhikgnnaaa", sum := "6ed265c6ff9304c8fd6b44ff13369a05b661f40d54e56a2a770559892b685305", func := "loop.example/excavation/laws.FnShapePart", spec := "fnShapePart", apart := false }
def FnShapePartSaid : Prop := fnShapePartRow.holds Try.pinned (OpenSpec.ofChange fnShapePartSpec)

/-- ITS FALSE NEIGHBOUR: 'it returns false'. Refute it at one input. -/
def fnShapePartWrong : ChangeSpec := { name := "fnShapePart", fn := fun _ => fun
  | [d1, d2] => { results := [.lit (.bool false)], args := [d1, d2] }
  | _ => none }
def FnShapePartWrongFalsely : Prop := fnShapePartRow.holds Try.pinned (OpenSpec.ofChange fnShapePartWrong)

/-- 'laws.FnExactShapeValid': WHATEVER THE INPUT: true; the input reads as it did. -/
def fnExactShapeValidSpec : ChangeSpec := { name := "fnExactShapeValid", fn := fun _ => fun
  | [d] => { results := [.lit (.bool true)], args := [d] }
  | _ => none }
def fnExactShapeValidRow : OpenClaim := { program := "ytfkfjkhikgnnaaa", sum := "6ed265c6ff9304c8fd6b44ff13369a05b661f40d54e56a2a770559892b685305", func := "loop.example/excavation/laws.FnExactShapeValid", spec := "fnExactShapeValid", apart := false }
def FnExactShapeValidSaid : Prop := fnExactShapeValidRow.holds Try.pinned (OpenSpec.ofChange fnExactShapeValidSpec)

/-- ITS FALSE NEIGHBOUR: 'it returns false'. Refute it at one input. -/
def fnExactShapeValidWrong : ChangeSpec := { name := "fnExactShapeValid", fn := fun _ => fun
  | [d] => { results := [.lit (.bool false)], args := [d] }
  | _ => none }
def FnExactShapeValidWrongFalsely : Prop := fnExactShapeValidRow.holds Try.pinned (OpenSpec.ofChange fnExactShapeValidWrong)

/-- 'laws.FnExactShapeArea': WHATEVER THE INPUT: true; the input reads as it did. -/
def fnExactShapeAreaSpec : ChangeSpec := { name := "fnExactShapeArea", fn := fun _ => fun
  | [d] => { results := [.lit (.bool true)], args := [d] }
  | _ => none }
def fnExactShapeAreaRow : OpenClaim := { program := "ytfkfjkhikgnnaaa", sum := "6ed265c6ff9304c8fd6b44ff13369a05b661f40d54e56a2a770559892b685305", func := "loop.example/excavation/laws.FnExactShapeArea", spec := "fnExactShapeArea", apart := false }
def FnExactShapeAreaSaid : Prop := fnExactShapeAreaRow.holds Try.pinned (OpenSpec.ofChange fnExactShapeAreaSpec)

/-- ITS FALSE NEIGHBOUR: 'it returns false'. Refute it at one input. -/
def fnExactShapeAreaWrong : ChangeSpec := { name := "fnExactShapeArea", fn := fun _ => fun
  | [d] => { results := [.lit (.bool false)], args := [d] }
  | _ => none }
def FnExactShapeAreaWrongFalsely : Prop := fnExactShapeAreaRow.holds Try.pinned (OpenSpec.ofChange fnExactShapeAreaWrong)

/-- 'laws.FnExactShapeHas': WHATEVER THE INPUT: true; the input reads as it did. -/
def fnExactShapeHasSpec : ChangeSpec := { name := "fnExactShapeHas", fn := fun _ => fun
  | [d1, d2] => { results := [.lit (.bool true)], args := [d1, d2] }
  | _ => none }
def fnExactShapeHasRow : OpenClaim := { program := "ytfkfjkhikgnnaaa", sum := "6ed265c6ff9304c8fd6b44ff13369a05b661f40d54e56a2a770559892b685305", func := "loop.example/excavation/laws.FnExactShapeHas", spec := "fnExactShapeHas", apart := false }
def FnExactShapeHasSaid : Prop := fnExactShapeHasRow.holds Try.pinned (OpenSpec.ofChange fnExactShapeHasSpec)

/-- ITS FALSE NEIGHBOUR: 'it returns false'. Refute it at one input. -/
def fnExactShapeHasWrong : ChangeSpec := { name := "fnExactShapeHas", fn := fun _ => fun
  | [d1, d2] => { results := [.lit (.bool false)], args := [d1, d2] }
  | _ => none }
def FnExactShapeHasWrongFalsely : Prop := fnExactShapeHasRow.holds Try.pinned (OpenSpec.ofChange fnExactShapeHasWrong)

/-- 'laws.FnExactShapeMove': WHATEVER THE INPUT: true; the input reads as it did. -/
def fnExactShapeMoveSpec : ChangeSpec := { name := "fnExactShapeMove", fn := fun _ => fun
  | [d1, d2, d3] => { results := [.lit (.bool true)], args := [d1, d2, d3] }
  | _ => none }
def fnExactShapeMoveRow : OpenClaim := { program := "ytfkfjkhikgnnaaa", sum := "6ed265c6ff9304c8fd6b44ff13369a05b661f40d54e56a2a770559892b685305", func := "loop.example/excavation/laws.FnExactShapeMove", spec := "fnExactShapeMove", apart := false }
def FnExactShapeMoveSaid : Prop := fnExactShapeMoveRow.holds Try.pinned (OpenSpec.ofChange fnExactShapeMoveSpec)

/-- ITS FALSE NEIGHBOUR: 'it returns false'. Refute it at one input. -/
def fnExactShapeMoveWrong : ChangeSpec := { name := "fnExactShapeMove", fn := fun _ => fun
  | [d1, d2, d3] => { results := [.lit (.bool false)], args := [d1, d2, d3] }
  | _ => none }
def FnExactShapeMoveWrongFalsely : Prop := fnExactShapeMoveRow.holds Try.pinned (OpenSpec.ofChange fnExactShapeMoveWrong)

/-- 'laws.FnExactShapeBox': WHATEVER THE INPUT: true; the input reads as it did. -/
def fnExactShapeBoxSpec : ChangeSpec := { name := "fnExactShapeBox", fn := fun _ => fun
  | [d] => { results := [.lit (.bool true)], args := [d] }
  | _ => none }
def fnExactShapeBoxRow : OpenClaim := { program := "ytfkfjkhikgnnaaa", sum := "6ed265c6ff9304c8fd6b44ff13369a05b661f40d54e56a2a770559892b685305", func := "loop.example/excavation/laws.FnExactShapeBox", spec := "fnExactShapeBox", apart := false }
def FnExactShapeBoxSaid : Prop := fnExactShapeBoxRow.holds Try.pinned (OpenSpec.ofChange fnExactShapeBoxSpec)

/-- ITS FALSE NEIGHBOUR: 'it returns false'. Refute it at one input. -/
def fnExactShapeBoxWrong : ChangeSpec := { name := "fnExactShapeBox", fn := fun _ => fun
  | [d] => { results := [.lit (.bool false)], args := [d] }
  | _ => none }
def FnExactShapeBoxWrongFalsely : Prop := fnExactShapeBoxRow.holds Try.pinned (OpenSpec.ofChange fnExactShapeBoxWrong)

/-- 'laws.FnExactShapeCount': WHATEVER THE INPUT: true; the input reads as it did. -/
def fnExactShapeCountSpec : ChangeSpec := { name := "fnExactShapeCount", fn := fun _ => fun
  | [d] => { results := [.lit (.bool true)], args := [d] }
  | _ => none }
def fnExactShapeCountRow : OpenClaim := { program := "ytfkfjkhikgnnaaa", sum := "6ed265c6ff9304c8fd6b44ff13369a05b661f40d54e56a2a770559892b685305", func := "loop.example/excavation/laws.FnExactShapeCount", spec := "fnExactShapeCount", apart := false }
def FnExactShapeCountSaid : Prop := fnExactShapeCountRow.holds Try.pinned (OpenSpec.ofChange fnExactShapeCountSpec)

/-- ITS FALSE NEIGHBOUR: 'it returns false'. Refute it at one input. -/
def fnExactShapeCountWrong : ChangeSpec := { name := "fnExactShapeCount", fn := fun _ => fun
  | [d] => { results := [.lit (.bool false)], args := [d] }
  | _ => none }
def FnExactShapeCountWrongFalsely : Prop := fnExactShapeCountRow.holds Try.pinned (OpenSpec.ofChange fnExactShapeCountWrong)

/- THE SECOND FORM. 'bulk': how many values and letters a reading holds, each counted each time it is reached (what is shared counts as often as it is met; a slice's spare places count too). A statement '..UptoSaid' is the law's where the arguments, and the package variables that the reading takes, are together of bulk at most 1048576: NARROWER than '..Said'. Prove '..Said' where nothing that the law and all that it calls make is longer than what came in: it says more and counts as full. Else prove '..UptoSaid'. A law counts once. -/
mutual
def uptoBulk {H : Type} : DataW H → Nat
  | .lit (.string bytes) => bytes.length + 1
  | .lit _ => 1
  | .nil => 1
  | .ptr d => uptoBulk d + 1
  | .slice elems spare => uptoBulkAll elems + uptoBulkAll spare + 1
  | .agg parts => uptoBulkAll parts + 1
  | .iface _ d => uptoBulk d + 1
  | .map entries => uptoBulkEntries entries + 1
  | .held _ => 1
def uptoBulkAll {H : Type} : List (DataW H) → Nat
  | [] => 0
  | d :: r => uptoBulk d + uptoBulkAll r
def uptoBulkEntries {H : Type} : List (Lit × DataW H) → Nat
  | [] => 0
  | x :: r => uptoBulkEntry x + uptoBulkEntries r
def uptoBulkEntry {H : Type} : Lit × DataW H → Nat
  | (.string bytes, d) => bytes.length + uptoBulk d + 1
  | (_, d) => uptoBulk d + 1
 end
def uptoSmall : (H : Type) → List (DataW H) → Bool := fun _ ds => decide (uptoBulkAll ds ≤ 1048576)
def OpenSpec.upto (s : _root_.Go.ChangeSpec) : _root_.Go.OpenSpec := { _root_.Go.OpenSpec.ofChange s with cond := some uptoSmall }

/-- 'laws.FnShapeArea', WHERE WHAT IT READS IS OF BULK AT MOST 1048576: true; the input reads as it did. -/
def fnShapeAreaUptoRow : OpenClaim := { program := "ytfkfjkhikgnnaaa", sum := "6ed265c6ff9304c8fd6b44ff13369a05b661f40d54e56a2a770559892b685305", func := "loop.example/excavation/laws.FnShapeArea", spec := "fnShapeArea", apart := false, narrowed := true }
def FnShapeAreaUptoSaid : Prop := fnShapeAreaUptoRow.holds Try.pinned (OpenSpec.upto fnShapeAreaSpec)

/-- 'laws.FnShapeBox', WHERE WHAT IT READS IS OF BULK AT MOST 1048576: true; the input reads as it did. -/
def fnShapeBoxUptoRow : OpenClaim := { program := "ytfkfjkhikgnnaaa", sum := "6ed265c6ff9304c8fd6b44ff13369a05b661f40d54e56a2a770559892b685305", func := "loop.example/excavation/laws.FnShapeBox", spec := "fnShapeBox", apart := false, narrowed := true }
def FnShapeBoxUptoSaid : Prop := fnShapeBoxUptoRow.holds Try.pinned (OpenSpec.upto fnShapeBoxSpec)

/-- 'laws.FnShapeCorners', WHERE WHAT IT READS IS OF BULK AT MOST 1048576: true; the input reads as it did. -/
def fnShapeCornersUptoRow : OpenClaim := { program := "ytfkfjkhikgnnaaa", sum := "6ed265c6ff9304c8fd6b44ff13369a05b661f40d54e56a2a770559892b685305", func := "loop.example/excavation/laws.FnShapeCorners", spec := "fnShapeCorners", apart := false, narrowed := true }
def FnShapeCornersUptoSaid : Prop := fnShapeCornersUptoRow.holds Try.pinned (OpenSpec.upto fnShapeCornersSpec)

/-- 'laws.FnShapeMiddle', WHERE WHAT IT READS IS OF BULK AT MOST 1048576: true; the input reads as it did. -/
def fnShapeMiddleUptoRow : OpenClaim := { program := "ytfkfjkhikgnnaaa", sum := "6ed265c6ff9304c8fd6b44ff13369a05b661f40d54e56a2a770559892b685305", func := "loop.example/excavation/laws.FnShapeMiddle", spec := "fnShapeMiddle", apart := false, narrowed := true }
def FnShapeMiddleUptoSaid : Prop := fnShapeMiddleUptoRow.holds Try.pinned (OpenSpec.upto fnShapeMiddleSpec)

/-- 'laws.FnShapeOut', WHERE WHAT IT READS IS OF BULK AT MOST 1048576: true; the input reads as it did. -/
def fnShapeOutUptoRow : OpenClaim := { program := "ytfkfjkhikgnnaaa", sum := "6ed265c6ff9304c8fd6b44ff13369a05b661f40d54e56a2a770559892b685305", func := "loop.example/excavation/laws.FnShapeOut", spec := "fnShapeOut", apart := false, narrowed := true }
def FnShapeOutUptoSaid : Prop := fnShapeOutUptoRow.holds Try.pinned (OpenSpec.upto fnShapeOutSpec)

/-- 'laws.FnShapeHasArea', WHERE WHAT IT READS IS OF BULK AT MOST 1048576: true; the input reads as it did. -/
def fnShapeHasAreaUptoRow : OpenClaim := { program := "ytfkfjkhikgnnaaa", sum := "6ed265c6ff9304c8fd6b44ff13369a05b661f40d54e56a2a770559892b685305", func := "loop.example/excavation/laws.FnShapeHasArea", spec := "fnShapeHasArea", apart := false, narrowed := true }
def FnShapeHasAreaUptoSaid : Prop := fnShapeHasAreaUptoRow.holds Try.pinned (OpenSpec.upto fnShapeHasAreaSpec)

/-- 'laws.FnShapeMove', WHERE WHAT IT READS IS OF BULK AT MOST 1048576: true; the input reads as it did. -/
def fnShapeMoveUptoRow : OpenClaim := { program := "ytfkfjkhikgnnaaa", sum := "6ed265c6ff9304c8fd6b44ff13369a05b661f40d54e56a2a770559892b685305", func := "loop.example/excavation/laws.FnShapeMove", spec := "fnShapeMove", apart := false, narrowed := true }
def FnShapeMoveUptoSaid : Prop := fnShapeMoveUptoRow.holds Try.pinned (OpenSpec.upto fnShapeMoveSpec)

/-- 'laws.FnShapeMoveHas', WHERE WHAT IT READS IS OF BULK AT MOST 1048576: true; the input reads as it did. -/
def fnShapeMoveHasUptoRow : OpenClaim := { program := "ytfkfjkhikgnnaaa", sum := "6ed265c6ff9304c8fd6b44ff13369a05b661f40d54e56a2a770559892b685305", func := "loop.example/excavation/laws.FnShapeMoveHas", spec := "fnShapeMoveHas", apart := false, narrowed := true }
def FnShapeMoveHasUptoSaid : Prop := fnShapeMoveHasUptoRow.holds Try.pinned (OpenSpec.upto fnShapeMoveHasSpec)

/-- 'laws.FnShapeCount', WHERE WHAT IT READS IS OF BULK AT MOST 1048576: true; the input reads as it did. -/
def fnShapeCountUptoRow : OpenClaim := { program := "ytfkfjkhikgnnaaa", sum := "6ed265c6ff9304c8fd6b44ff13369a05b661f40d54e56a2a770559892b685305", func := "loop.example/excavation/laws.FnShapeCount", spec := "fnShapeCount", apart := false, narrowed := true }
def FnShapeCountUptoSaid : Prop := fnShapeCountUptoRow.holds Try.pinned (OpenSpec.upto fnShapeCountSpec)

/-- 'laws.FnShapePart', WHERE WHAT IT READS IS OF BULK AT MOST 1048576: true; the input reads as it did. -/
def fnShapePartUptoRow : OpenClaim := { program := "ytfkfjkhikgnnaaa", sum := "6ed265c6ff9304c8fd6b44ff13369a05b661f40d54e56a2a770559892b685305", func := "loop.example/excavation/laws.FnShapePart", spec := "fnShapePart", apart := false, narrowed := true }
def FnShapePartUptoSaid : Prop := fnShapePartUptoRow.holds Try.pinned (OpenSpec.upto fnShapePartSpec)

/-- 'laws.FnExactShapeValid', WHERE WHAT IT READS IS OF BULK AT MOST 1048576: true; the input reads as it did. -/
def fnExactShapeValidUptoRow : OpenClaim := { program := "ytfkfjkhikgnnaaa", sum := "6ed265c6ff9304c8fd6b44ff13369a05b661f40d54e56a2a770559892b685305", func := "loop.example/excavation/laws.FnExactShapeValid", spec := "fnExactShapeValid", apart := false, narrowed := true }
def FnExactShapeValidUptoSaid : Prop := fnExactShapeValidUptoRow.holds Try.pinned (OpenSpec.upto fnExactShapeValidSpec)

/-- 'laws.FnExactShapeArea', WHERE WHAT IT READS IS OF BULK AT MOST 1048576: true; the input reads as it did. -/
def fnExactShapeAreaUptoRow : OpenClaim := { program := "ytfkfjkhikgnnaaa", sum := "6ed265c6ff9304c8fd6b44ff13369a05b661f40d54e56a2a770559892b685305", func := "loop.example/excavation/laws.FnExactShapeArea", spec := "fnExactShapeArea", apart := false, narrowed := true }
def FnExactShapeAreaUptoSaid : Prop := fnExactShapeAreaUptoRow.holds Try.pinned (OpenSpec.upto fnExactShapeAreaSpec)

/-- 'laws.FnExactShapeHas', WHERE WHAT IT READS IS OF BULK AT MOST 1048576: true; the input reads as it did. -/
def fnExactShapeHasUptoRow : OpenClaim := { program := "ytfkfjkhikgnnaaa", sum := "6ed265c6ff9304c8fd6b44ff13369a05b661f40d54e56a2a770559892b685305", func := "loop.example/excavation/laws.FnExactShapeHas", spec := "fnExactShapeHas", apart := false, narrowed := true }
def FnExactShapeHasUptoSaid : Prop := fnExactShapeHasUptoRow.holds Try.pinned (OpenSpec.upto fnExactShapeHasSpec)

/-- 'laws.FnExactShapeMove', WHERE WHAT IT READS IS OF BULK AT MOST 1048576: true; the input reads as it did. -/
def fnExactShapeMoveUptoRow : OpenClaim := { program := "ytfkfjkhikgnnaaa", sum := "6ed265c6ff9304c8fd6b44ff13369a05b661f40d54e56a2a770559892b685305", func := "loop.example/excavation/laws.FnExactShapeMove", spec := "fnExactShapeMove", apart := false, narrowed := true }
def FnExactShapeMoveUptoSaid : Prop := fnExactShapeMoveUptoRow.holds Try.pinned (OpenSpec.upto fnExactShapeMoveSpec)

/-- 'laws.FnExactShapeBox', WHERE WHAT IT READS IS OF BULK AT MOST 1048576: true; the input reads as it did. -/
def fnExactShapeBoxUptoRow : OpenClaim := { program := "ytfkfjkhikgnnaaa", sum := "6ed265c6ff9304c8fd6b44ff13369a05b661f40d54e56a2a770559892b685305", func := "loop.example/excavation/laws.FnExactShapeBox", spec := "fnExactShapeBox", apart := false, narrowed := true }
def FnExactShapeBoxUptoSaid : Prop := fnExactShapeBoxUptoRow.holds Try.pinned (OpenSpec.upto fnExactShapeBoxSpec)

/-- 'laws.FnExactShapeCount', WHERE WHAT IT READS IS OF BULK AT MOST 1048576: true; the input reads as it did. -/
def fnExactShapeCountUptoRow : OpenClaim := { program := "ytfkfjkhikgnnaaa", sum := "6ed265c6ff9304c8fd6b44ff13369a05b661f40d54e56a2a770559892b685305", func := "loop.example/excavation/laws.FnExactShapeCount", spec := "fnExactShapeCount", apart := false, narrowed := true }
def FnExactShapeCountUptoSaid : Prop := fnExactShapeCountUptoRow.holds Try.pinned (OpenSpec.upto fnExactShapeCountSpec)

end Rows
end Go.Proofs.Ytfkfjkhikgnnaaa
