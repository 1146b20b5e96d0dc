/-
  No cell of these rows narrows 'for every input' (looked for: loops, veiled, ifaces, maps, wideKeys, modest, calm, conditions, laid).
  DERIVED. THE GIVEN ROWS OF THIS SEAT. 9 by the template 'for every input the law returns true; each argument reads behind the call as it read before'; 0 by the template 'total and deterministic' (their statements: YtpkmnigkcefnpaaTotals.lean).
  GIVEN WITH THE SEED: the statements are not yours to turn. If you find one false, say at which input.
  Laid BY PROGRAM, IN A SANDBOX (cutbox-rows.mjs): the forced cells as the released guide's own fill.sh prints them over the translation 8b1eff7af8a477c7… (all of the seat's roots in one cut). By AI agents, Wed Nov 11 2026. No macro, syntax, notation, axiom, sorry.
-/
import Derived.Test.YtpkmnigkcefnpaaChecked
import GoSem.Claim
import GoSem.ClaimJoined
import GoSem.ClaimMapViews
import Derived.JoinedTies
import Derived.KernelRfl
namespace Go.Proofs.Ytpkmnigkcefnpaa
/- THE CELL 'sum', in the pinned program and in every row, IS THE sha256 OF THE DUMP (.gsa) THAT YtpkmnigkcefnpaaProg.lean LOADS. Nothing in Lean hashes anything: it is a label: what it is worth is what the hold of that sum in a sandbox is worth. -/
noncomputable def Try.pinned : Pinned := { name := "ytpkmnigkcefnpaa", sum := "8b1eff7af8a477c700d8ad28698ee13f30cd080d779cda5f9413226d4203a968", checked := Try.checked }
namespace Rows
def none {H : Type} : Left H := { results := [], args := [] }

/-- 'laws.FnOrderDirect': WHATEVER THE INPUT: true; the input reads as it did. -/
def fnOrderDirectSpec : ChangeSpec := { name := "fnOrderDirect", fn := fun _ => fun
  | [d] => { results := [.lit (.bool true)], args := [d] }
  | _ => none }
def fnOrderDirectRow : OpenClaim := { program := "ytpkmnigkcefnpaa", sum := "8b1eff7af8a477c700d8ad28698ee13f30cd080d779cda5f9413226d4203a968", func := "loop.example/excavation/laws.FnOrderDirect", spec := "fnOrderDirect", recurses := true, apart := false }
def FnOrderDirectSaid : Prop := fnOrderDirectRow.holds Try.pinned (OpenSpec.ofChange fnOrderDirectSpec)

/-- ITS FALSE NEIGHBOUR: 'it returns false'. Refute it at one input. -/
def fnOrderDirectWrong : ChangeSpec := { name := "fnOrderDirect", fn := fun _ => fun
  | [d] => { results := [.lit (.bool false)], args := [d] }
  | _ => none }
def FnOrderDirectWrongFalsely : Prop := fnOrderDirectRow.holds Try.pinned (OpenSpec.ofChange fnOrderDirectWrong)

/-- 'laws.FnOrderClosed': WHATEVER THE INPUT: true; the input reads as it did. -/
def fnOrderClosedSpec : ChangeSpec := { name := "fnOrderClosed", fn := fun _ => fun
  | [d] => { results := [.lit (.bool true)], args := [d] }
  | _ => none }
def fnOrderClosedRow : OpenClaim := { program := "ytpkmnigkcefnpaa", sum := "8b1eff7af8a477c700d8ad28698ee13f30cd080d779cda5f9413226d4203a968", func := "loop.example/excavation/laws.FnOrderClosed", spec := "fnOrderClosed", recurses := true, apart := false }
def FnOrderClosedSaid : Prop := fnOrderClosedRow.holds Try.pinned (OpenSpec.ofChange fnOrderClosedSpec)

/-- ITS FALSE NEIGHBOUR: 'it returns false'. Refute it at one input. -/
def fnOrderClosedWrong : ChangeSpec := { name := "fnOrderClosed", fn := fun _ => fun
  | [d] => { results := [.lit (.bool false)], args := [d] }
  | _ => none }
def FnOrderClosedWrongFalsely : Prop := fnOrderClosedRow.holds Try.pinned (OpenSpec.ofChange fnOrderClosedWrong)

/-- 'laws.FnOrderLeast': WHATEVER THE INPUT: true; the input reads as it did. -/
def fnOrderLeastSpec : ChangeSpec := { name := "fnOrderLeast", fn := fun _ => fun
  | [d] => { results := [.lit (.bool true)], args := [d] }
  | _ => none }
def fnOrderLeastRow : OpenClaim := { program := "ytpkmnigkcefnpaa", sum := "8b1eff7af8a477c700d8ad28698ee13f30cd080d779cda5f9413226d4203a968", func := "loop.example/excavation/laws.FnOrderLeast", spec := "fnOrderLeast", recurses := true, apart := false }
def FnOrderLeastSaid : Prop := fnOrderLeastRow.holds Try.pinned (OpenSpec.ofChange fnOrderLeastSpec)

/-- ITS FALSE NEIGHBOUR: 'it returns false'. Refute it at one input. -/
def fnOrderLeastWrong : ChangeSpec := { name := "fnOrderLeast", fn := fun _ => fun
  | [d] => { results := [.lit (.bool false)], args := [d] }
  | _ => none }
def FnOrderLeastWrongFalsely : Prop := fnOrderLeastRow.holds Try.pinned (OpenSpec.ofChange fnOrderLeastWrong)

/-- 'laws.FnOrderAbove': WHATEVER THE INPUT: true; the input reads as it did. -/
def fnOrderAboveSpec : ChangeSpec := { name := "fnOrderAbove", fn := fun _ => fun
  | [d] => { results := [.lit (.bool true)], args := [d] }
  | _ => none }
def fnOrderAboveRow : OpenClaim := { program := "ytpkmnigkcefnpaa", sum := "8b1eff7af8a477c700d8ad28698ee13f30cd080d779cda5f9413226d4203a968", func := "loop.example/excavation/laws.FnOrderAbove", spec := "fnOrderAbove", recurses := true, apart := false }
def FnOrderAboveSaid : Prop := fnOrderAboveRow.holds Try.pinned (OpenSpec.ofChange fnOrderAboveSpec)

/-- ITS FALSE NEIGHBOUR: 'it returns false'. Refute it at one input. -/
def fnOrderAboveWrong : ChangeSpec := { name := "fnOrderAbove", fn := fun _ => fun
  | [d] => { results := [.lit (.bool false)], args := [d] }
  | _ => none }
def FnOrderAboveWrongFalsely : Prop := fnOrderAboveRow.holds Try.pinned (OpenSpec.ofChange fnOrderAboveWrong)

/-- 'laws.FnOrderValid': WHATEVER THE INPUT: true; the input reads as it did. -/
def fnOrderValidSpec : ChangeSpec := { name := "fnOrderValid", fn := fun _ => fun
  | [d] => { results := [.lit (.bool true)], args := [d] }
  | _ => none }
def fnOrderValidRow : OpenClaim := { program := "ytpkmnigkcefnpaa", sum := "8b1eff7af8a477c700d8ad28698ee13f30cd080d779cda5f9413226d4203a968", func := "loop.example/excavation/laws.FnOrderValid", spec := "fnOrderValid", recurses := true, apart := false }
def FnOrderValidSaid : Prop := fnOrderValidRow.holds Try.pinned (OpenSpec.ofChange fnOrderValidSpec)

/-- ITS FALSE NEIGHBOUR: 'it returns false'. Refute it at one input. -/
def fnOrderValidWrong : ChangeSpec := { name := "fnOrderValid", fn := fun _ => fun
  | [d] => { results := [.lit (.bool false)], args := [d] }
  | _ => none }
def FnOrderValidWrongFalsely : Prop := fnOrderValidRow.holds Try.pinned (OpenSpec.ofChange fnOrderValidWrong)

/-- 'laws.FnOrderDrop': WHATEVER THE INPUT: true; the input reads as it did. -/
def fnOrderDropSpec : ChangeSpec := { name := "fnOrderDrop", fn := fun _ => fun
  | [d1, d2] => { results := [.lit (.bool true)], args := [d1, d2] }
  | _ => none }
def fnOrderDropRow : OpenClaim := { program := "ytpkmnigkcefnpaa", sum := "8b1eff7af8a477c700d8ad28698ee13f30cd080d779cda5f9413226d4203a968", func := "loop.example/excavation/laws.FnOrderDrop", spec := "fnOrderDrop", recurses := true, apart := false }
def FnOrderDropSaid : Prop := fnOrderDropRow.holds Try.pinned (OpenSpec.ofChange fnOrderDropSpec)

/-- ITS FALSE NEIGHBOUR: 'it returns false'. Refute it at one input. -/
def fnOrderDropWrong : ChangeSpec := { name := "fnOrderDrop", fn := fun _ => fun
  | [d1, d2] => { results := [.lit (.bool false)], args := [d1, d2] }
  | _ => none }
def FnOrderDropWrongFalsely : Prop := fnOrderDropRow.holds Try.pinned (OpenSpec.ofChange fnOrderDropWrong)

/-- 'laws.FnExactOrderOf': WHATEVER THE INPUT: true; the input reads as it did. -/
def fnExactOrderOfSpec : ChangeSpec := { name := "fnExactOrderOf", fn := fun _ => fun
  | [d1, d2] => { results := [.lit (.bool true)], args := [d1, d2] }
  | _ => none }
def fnExactOrderOfRow : OpenClaim := { program := "ytpkmnigkcefnpaa", sum := "8b1eff7af8a477c700d8ad28698ee13f30cd080d779cda5f9413226d4203a968", func := "loop.example/excavation/laws.FnExactOrderOf", spec := "fnExactOrderOf", recurses := true, apart := false }
def FnExactOrderOfSaid : Prop := fnExactOrderOfRow.holds Try.pinned (OpenSpec.ofChange fnExactOrderOfSpec)

/-- ITS FALSE NEIGHBOUR: 'it returns false'. Refute it at one input. -/
def fnExactOrderOfWrong : ChangeSpec := { name := "fnExactOrderOf", fn := fun _ => fun
  | [d1, d2] => { results := [.lit (.bool false)], args := [d1, d2] }
  | _ => none }
def FnExactOrderOfWrongFalsely : Prop := fnExactOrderOfRow.holds Try.pinned (OpenSpec.ofChange fnExactOrderOfWrong)

/-- 'laws.FnExactOrderAbove': WHATEVER THE INPUT: true; the input reads as it did. -/
def fnExactOrderAboveSpec : ChangeSpec := { name := "fnExactOrderAbove", fn := fun _ => fun
  | [d1, d2, d3, d4] => { results := [.lit (.bool true)], args := [d1, d2, d3, d4] }
  | _ => none }
def fnExactOrderAboveRow : OpenClaim := { program := "ytpkmnigkcefnpaa", sum := "8b1eff7af8a477c700d8ad28698ee13f30cd080d779cda5f9413226d4203a968", func := "loop.example/excavation/laws.FnExactOrderAbove", spec := "fnExactOrderAbove", recurses := true, apart := false }
def FnExactOrderAboveSaid : Prop := fnExactOrderAboveRow.holds Try.pinned (OpenSpec.ofChange fnExactOrderAboveSpec)

/-- ITS FALSE NEIGHBOUR: 'it returns false'. Refute it at one input. -/
def fnExactOrderAboveWrong : ChangeSpec := { name := "fnExactOrderAbove", fn := fun _ => fun
  | [d1, d2, d3, d4] => { results := [.lit (.bool false)], args := [d1, d2, d3, d4] }
  | _ => none }
def FnExactOrderAboveWrongFalsely : Prop := fnExactOrderAboveRow.holds Try.pinned (OpenSpec.ofChange fnExactOrderAboveWrong)

/-- 'laws.FnExactOrderValid': WHATEVER THE INPUT: true; the input reads as it did. -/
def fnExactOrderValidSpec : ChangeSpec := { name := "fnExactOrderValid", fn := fun _ => fun
  | [d1, d2] => { results := [.lit (.bool true)], args := [d1, d2] }
  | _ => none }
def fnExactOrderValidRow : OpenClaim := { program := "ytpkmnigkcefnpaa", sum := "8b1eff7af8a477c700d8ad28698ee13f30cd080d779cda5f9413226d4203a968", func := "loop.example/excavation/laws.FnExactOrderValid", spec := "fnExactOrderValid", recurses := true, apart := false }
def FnExactOrderValidSaid : Prop := fnExactOrderValidRow.holds Try.pinned (OpenSpec.ofChange fnExactOrderValidSpec)

/-- ITS FALSE NEIGHBOUR: 'it returns false'. Refute it at one input. -/
def fnExactOrderValidWrong : ChangeSpec := { name := "fnExactOrderValid", fn := fun _ => fun
  | [d1, d2] => { results := [.lit (.bool false)], args := [d1, d2] }
  | _ => none }
def FnExactOrderValidWrongFalsely : Prop := fnExactOrderValidRow.holds Try.pinned (OpenSpec.ofChange fnExactOrderValidWrong)

/- THE SECOND FORM. 'bulk': how many values and letters a reading holds, each counted each time it is reached (what is shared counts as often as it is met; a slice's spare places count too). A statement '..UptoSaid' is the law's where the arguments, and the package variables that the reading takes, are together of bulk at most 1048576: NARROWER than '..Said'. Prove '..Said' where nothing that the law and all that it calls make is longer than what came in: it says more and counts as full. Else prove '..UptoSaid'. A law counts once. -/
mutual
def uptoBulk {H : Type} : DataW H → Nat
  | .lit (.string bytes) => bytes.length + 1
  | .lit _ => 1
  | .nil => 1
  | .ptr d => uptoBulk d + 1
  | .slice elems spare => uptoBulkAll elems + uptoBulkAll spare + 1
  | .agg parts => uptoBulkAll parts + 1
  | .iface _ d => uptoBulk d + 1
  | .map entries => uptoBulkEntries entries + 1
  | .held _ => 1
def uptoBulkAll {H : Type} : List (DataW H) → Nat
  | [] => 0
  | d :: r => uptoBulk d + uptoBulkAll r
def uptoBulkEntries {H : Type} : List (Lit × DataW H) → Nat
  | [] => 0
  | x :: r => uptoBulkEntry x + uptoBulkEntries r
def uptoBulkEntry {H : Type} : Lit × DataW H → Nat
  | (.string bytes, d) => bytes.length + uptoBulk d + 1
  | (_, d) => uptoBulk d + 1
 end
def uptoSmall : (H : Type) → List (DataW H) → Bool := fun _ ds => decide (uptoBulkAll ds ≤ 1048576)
def OpenSpec.upto (s : _root_.Go.ChangeSpec) : _root_.Go.OpenSpec := { _root_.Go.OpenSpec.ofChange s with cond := some uptoSmall }

/-- 'laws.FnOrderDirect', WHERE WHAT IT READS IS OF BULK AT MOST 1048576: true; the input reads as it did. -/
def fnOrderDirectUptoRow : OpenClaim := { program := "ytpkmnigkcefnpaa", sum := "8b1eff7af8a477c700d8ad28698ee13f30cd080d779cda5f9413226d4203a968", func := "loop.example/excavation/laws.FnOrderDirect", spec := "fnOrderDirect", recurses := true, apart := false, narrowed := true }
def FnOrderDirectUptoSaid : Prop := fnOrderDirectUptoRow.holds Try.pinned (OpenSpec.upto fnOrderDirectSpec)

/-- 'laws.FnOrderClosed', WHERE WHAT IT READS IS OF BULK AT MOST 1048576: true; the input reads as it did. -/
def fnOrderClosedUptoRow : OpenClaim := { program := "ytpkmnigkcefnpaa", sum := "8b1eff7af8a477c700d8ad28698ee13f30cd080d779cda5f9413226d4203a968", func := "loop.example/excavation/laws.FnOrderClosed", spec := "fnOrderClosed", recurses := true, apart := false, narrowed := true }
def FnOrderClosedUptoSaid : Prop := fnOrderClosedUptoRow.holds Try.pinned (OpenSpec.upto fnOrderClosedSpec)

/-- 'laws.FnOrderLeast', WHERE WHAT IT READS IS OF BULK AT MOST 1048576: true; the input reads as it did. -/
def fnOrderLeastUptoRow : OpenClaim := { program := "ytpkmnigkcefnpaa", sum := "8b1eff7af8a477c700d8ad28698ee13f30cd080d779cda5f9413226d4203a968", func := "loop.example/excavation/laws.FnOrderLeast", spec := "fnOrderLeast", recurses := true, apart := false, narrowed := true }
def FnOrderLeastUptoSaid : Prop := fnOrderLeastUptoRow.holds Try.pinned (OpenSpec.upto fnOrderLeastSpec)

/-- 'laws.FnOrderAbove', WHERE WHAT IT READS IS OF BULK AT MOST 1048576: true; the input reads as it did. -/
def fnOrderAboveUptoRow : OpenClaim := { program := "ytpkmnigkcefnpaa", sum := "8b1eff7af8a477c700d8ad28698ee13f30cd080d779cda5f9413226d4203a968", func := "loop.example/excavation/laws.FnOrderAbove", spec := "fnOrderAbove", recurses := true, apart := false, narrowed := true }
def FnOrderAboveUptoSaid : Prop := fnOrderAboveUptoRow.holds Try.pinned (OpenSpec.upto fnOrderAboveSpec)

/-- 'laws.FnOrderValid', WHERE WHAT IT READS IS OF BULK AT MOST 1048576: true; the input reads as it did. -/
def fnOrderValidUptoRow : OpenClaim := { program := "ytpkmnigkcefnpaa", sum := "8b1eff7af8a477c700d8ad28698ee13f30cd080d779cda5f9413226d4203a968", func := "loop.example/excavation/laws.FnOrderValid", spec := "fnOrderValid", recurses := true, apart := false, narrowed := true }
def FnOrderValidUptoSaid : Prop := fnOrderValidUptoRow.holds Try.pinned (OpenSpec.upto fnOrderValidSpec)

/-- 'laws.FnOrderDrop', WHERE WHAT IT READS IS OF BULK AT MOST 1048576: true; the input reads as it did. -/
def fnOrderDropUptoRow : OpenClaim := { program := "ytpkmnigkcefnpaa", sum := "8b1eff7af8a477c700d8ad28698ee13f30cd080d779cda5f9413226d4203a968", func := "loop.example/excavation/laws.FnOrderDrop", spec := "fnOrderDrop", recurses := true, apart := false, narrowed := true }
def FnOrderDropUptoSaid : Prop := fnOrderDropUptoRow.holds Try.pinned (OpenSpec.upto fnOrderDropSpec)

/-- 'laws.FnExactOrderOf', WHERE WHAT IT READS IS OF BULK AT MOST 1048576: true; the input reads as it did. -/
def fnExactOrderOfUptoRow : OpenClaim := { program := "ytpkmnigkcefnpaa", sum := "8b1eff7af8a477c700d8ad28698ee13f30cd080d779cda5f9413226d4203a968", func := "loop.example/excavation/laws.FnExactOrderOf", spec := "fnExactOrderOf", recurses := true, apart := false, narrowed := true }
def FnExactOrderOfUptoSaid : Prop := fnExactOrderOfUptoRow.holds Try.pinned (OpenSpec.upto fnExactOrderOfSpec)

/-- 'laws.FnExactOrderAbove', WHERE WHAT IT READS IS OF BULK AT MOST 1048576: true; the input reads as it did. -/
def fnExactOrderAboveUptoRow : OpenClaim := { program := "ytpkmnigkcefnpaa", sum := "8b1eff7af8a477c700d8ad28698ee13f30cd080d779cda5f9413226d4203a968", func := "loop.example/excavation/laws.FnExactOrderAbove", spec := "fnExactOrderAbove", recurses := true, apart := false, narrowed := true }
def FnExactOrderAboveUptoSaid : Prop := fnExactOrderAboveUptoRow.holds Try.pinned (OpenSpec.upto fnExactOrderAboveSpec)

/-- 'laws.FnExactOrderValid', WHERE WHAT IT READS IS OF BULK AT MOST 1048576: true; the input reads as it did. -/
def fnExactOrderValidUptoRow : OpenClaim := { program := "ytpkmnigkcefnpaa", sum := "8b1eff7af8a477c700d8ad28698ee13f30cd080d779cda5f9413226d4203a968", func := "loop.example/excavation/laws.FnExactOrderValid", spec := "fnExactOrderValid", recurses := true, apart := false, narrowed := true }
def FnExactOrderValidUptoSaid : Prop := fnExactOrderValidUptoRow.holds Try.pinned (OpenSpec.upto fnExactOrderValidSpec)

end Rows
end Go.Proofs.Ytpkmnigkcefnpaa
