/-
  No cell of these rows narrows 'for every input' (looked for: loops, veiled, ifaces, maps, wideKeys, modest, calm, conditions, laid).
  DERIVED. THE GIVEN ROWS OF THIS SEAT. 9 by the template 'for every input the law returns true; each argument reads behind the call as it read before'; 0 by the template 'total and deterministic' (their statements: YtbbjdpmffokcfaaTotals.lean).
  GIVEN WITH THE SEED: the statements are not yours to turn. If you find one false, say at which input.
  Laid BY PROGRAM, IN A SANDBOX (cutbox-rows.mjs): the forced cells as the released guide's own fill.sh prints them over the translation c9ff818c76813cff… (all of the seat's roots in one cut). By AI agents, Wed Nov 11 2026. No macro, syntax, notation, axiom, sorry.
-/
import Derived.Test.YtbbjdpmffokcfaaChecked
import GoSem.Claim
import GoSem.ClaimJoined
import GoSem.ClaimMapViews
import Derived.JoinedTies
import Derived.KernelRfl
namespace Go.Proofs.Ytbbjdpmffokcfaa
/- THE CELL 'sum', in the pinned program and in every row, IS THE sha256 OF THE DUMP (.gsa) THAT YtbbjdpmffokcfaaProg.lean LOADS. Nothing in Lean hashes anything: it is a label: what it is worth is what the hold of that sum in a sandbox is worth. -/
noncomputable def Try.pinned : Pinned := { name := "ytbbjdpmffokcfaa", sum := "c9ff818c76813cff80451ce9f614a9f2b88f47c39cddfe9167a2d50e1f0651e4", checked := Try.checked }
namespace Rows
def none {H : Type} : Left H := { results := [], args := [] }

/-- 'laws.FnRelsAdd': WHATEVER THE INPUT: true; the input reads as it did. -/
def fnRelsAddSpec : ChangeSpec := { name := "fnRelsAdd", fn := fun _ => fun
  | [d] => { results := [.lit (.bool true)], args := [d] }
  | _ => none }
def fnRelsAddRow : OpenClaim := { program := "ytbbjdpmffokcfaa", sum := "c9ff818c76813cff80451ce9f614a9f2b88f47c39cddfe9167a2d50e1f0651e4", func := "loop.example/excavation/laws.FnRelsAdd", spec := "fnRelsAdd", unfollowed := true, recurses := true, apart := false }
def FnRelsAddSaid : Prop := fnRelsAddRow.holds Try.pinned (OpenSpec.ofChange fnRelsAddSpec)

/-- ITS FALSE NEIGHBOUR: 'it returns false'. Refute it at one input. -/
def fnRelsAddWrong : ChangeSpec := { name := "fnRelsAdd", fn := fun _ => fun
  | [d] => { results := [.lit (.bool false)], args := [d] }
  | _ => none }
def FnRelsAddWrongFalsely : Prop := fnRelsAddRow.holds Try.pinned (OpenSpec.ofChange fnRelsAddWrong)

/-- 'laws.FnRelsAddTwice': WHATEVER THE INPUT: true; the input reads as it did. -/
def fnRelsAddTwiceSpec : ChangeSpec := { name := "fnRelsAddTwice", fn := fun _ => fun
  | [d] => { results := [.lit (.bool true)], args := [d] }
  | _ => none }
def fnRelsAddTwiceRow : OpenClaim := { program := "ytbbjdpmffokcfaa", sum := "c9ff818c76813cff80451ce9f614a9f2b88f47c39cddfe9167a2d50e1f0651e4", func := "loop.example/excavation/laws.FnRelsAddTwice", spec := "fnRelsAddTwice", unfollowed := true, recurses := true, apart := false }
def FnRelsAddTwiceSaid : Prop := fnRelsAddTwiceRow.holds Try.pinned (OpenSpec.ofChange fnRelsAddTwiceSpec)

/-- ITS FALSE NEIGHBOUR: 'it returns false'. Refute it at one input. -/
def fnRelsAddTwiceWrong : ChangeSpec := { name := "fnRelsAddTwice", fn := fun _ => fun
  | [d] => { results := [.lit (.bool false)], args := [d] }
  | _ => none }
def FnRelsAddTwiceWrongFalsely : Prop := fnRelsAddTwiceRow.holds Try.pinned (OpenSpec.ofChange fnRelsAddTwiceWrong)

/-- 'laws.FnRelsDrop': WHATEVER THE INPUT: true; the input reads as it did. -/
def fnRelsDropSpec : ChangeSpec := { name := "fnRelsDrop", fn := fun _ => fun
  | [d] => { results := [.lit (.bool true)], args := [d] }
  | _ => none }
def fnRelsDropRow : OpenClaim := { program := "ytbbjdpmffokcfaa", sum := "c9ff818c76813cff80451ce9f614a9f2b88f47c39cddfe9167a2d50e1f0651e4", func := "loop.example/excavation/laws.FnRelsDrop", spec := "fnRelsDrop", unfollowed := true, recurses := true, apart := false }
def FnRelsDropSaid : Prop := fnRelsDropRow.holds Try.pinned (OpenSpec.ofChange fnRelsDropSpec)

/-- ITS FALSE NEIGHBOUR: 'it returns false'. Refute it at one input. -/
def fnRelsDropWrong : ChangeSpec := { name := "fnRelsDrop", fn := fun _ => fun
  | [d] => { results := [.lit (.bool false)], args := [d] }
  | _ => none }
def FnRelsDropWrongFalsely : Prop := fnRelsDropRow.holds Try.pinned (OpenSpec.ofChange fnRelsDropWrong)

/-- 'laws.FnRelsOrder': WHATEVER THE INPUT: true; the input reads as it did. -/
def fnRelsOrderSpec : ChangeSpec := { name := "fnRelsOrder", fn := fun _ => fun
  | [d] => { results := [.lit (.bool true)], args := [d] }
  | _ => none }
def fnRelsOrderRow : OpenClaim := { program := "ytbbjdpmffokcfaa", sum := "c9ff818c76813cff80451ce9f614a9f2b88f47c39cddfe9167a2d50e1f0651e4", func := "loop.example/excavation/laws.FnRelsOrder", spec := "fnRelsOrder", unfollowed := true, recurses := true, apart := false }
def FnRelsOrderSaid : Prop := fnRelsOrderRow.holds Try.pinned (OpenSpec.ofChange fnRelsOrderSpec)

/-- ITS FALSE NEIGHBOUR: 'it returns false'. Refute it at one input. -/
def fnRelsOrderWrong : ChangeSpec := { name := "fnRelsOrder", fn := fun _ => fun
  | [d] => { results := [.lit (.bool false)], args := [d] }
  | _ => none }
def FnRelsOrderWrongFalsely : Prop := fnRelsOrderRow.holds Try.pinned (OpenSpec.ofChange fnRelsOrderWrong)

/-- 'laws.FnRelsPart': WHATEVER THE INPUT: true; the input reads as it did. -/
def fnRelsPartSpec : ChangeSpec := { name := "fnRelsPart", fn := fun _ => fun
  | [d1, d2] => { results := [.lit (.bool true)], args := [d1, d2] }
  | _ => none }
def fnRelsPartRow : OpenClaim := { program := "ytbbjdpmffokcfaa", sum := "c9ff818c76813cff80451ce9f614a9f2b88f47c39cddfe9167a2d50e1f0651e4", func := "loop.example/excavation/laws.FnRelsPart", spec := "fnRelsPart", apart := false }
def FnRelsPartSaid : Prop := fnRelsPartRow.holds Try.pinned (OpenSpec.ofChange fnRelsPartSpec)

/-- ITS FALSE NEIGHBOUR: 'it returns false'. Refute it at one input. -/
def fnRelsPartWrong : ChangeSpec := { name := "fnRelsPart", fn := fun _ => fun
  | [d1, d2] => { results := [.lit (.bool false)], args := [d1, d2] }
  | _ => none }
def FnRelsPartWrongFalsely : Prop := fnRelsPartRow.holds Try.pinned (OpenSpec.ofChange fnRelsPartWrong)

/-- 'laws.FnRelsTurned': WHATEVER THE INPUT: true; the input reads as it did. -/
def fnRelsTurnedSpec : ChangeSpec := { name := "fnRelsTurned", fn := fun _ => fun
  | [d] => { results := [.lit (.bool true)], args := [d] }
  | _ => none }
def fnRelsTurnedRow : OpenClaim := { program := "ytbbjdpmffokcfaa", sum := "c9ff818c76813cff80451ce9f614a9f2b88f47c39cddfe9167a2d50e1f0651e4", func := "loop.example/excavation/laws.FnRelsTurned", spec := "fnRelsTurned", unfollowed := true, recurses := true, apart := false }
def FnRelsTurnedSaid : Prop := fnRelsTurnedRow.holds Try.pinned (OpenSpec.ofChange fnRelsTurnedSpec)

/-- ITS FALSE NEIGHBOUR: 'it returns false'. Refute it at one input. -/
def fnRelsTurnedWrong : ChangeSpec := { name := "fnRelsTurned", fn := fun _ => fun
  | [d] => { results := [.lit (.bool false)], args := [d] }
  | _ => none }
def FnRelsTurnedWrongFalsely : Prop := fnRelsTurnedRow.holds Try.pinned (OpenSpec.ofChange fnRelsTurnedWrong)

/-- 'laws.FnExactRelsValid': WHATEVER THE INPUT: true; the input reads as it did. -/
def fnExactRelsValidSpec : ChangeSpec := { name := "fnExactRelsValid", fn := fun _ => fun
  | [d] => { results := [.lit (.bool true)], args := [d] }
  | _ => none }
def fnExactRelsValidRow : OpenClaim := { program := "ytbbjdpmffokcfaa", sum := "c9ff818c76813cff80451ce9f614a9f2b88f47c39cddfe9167a2d50e1f0651e4", func := "loop.example/excavation/laws.FnExactRelsValid", spec := "fnExactRelsValid", apart := false }
def FnExactRelsValidSaid : Prop := fnExactRelsValidRow.holds Try.pinned (OpenSpec.ofChange fnExactRelsValidSpec)

/-- ITS FALSE NEIGHBOUR: 'it returns false'. Refute it at one input. -/
def fnExactRelsValidWrong : ChangeSpec := { name := "fnExactRelsValid", fn := fun _ => fun
  | [d] => { results := [.lit (.bool false)], args := [d] }
  | _ => none }
def FnExactRelsValidWrongFalsely : Prop := fnExactRelsValidRow.holds Try.pinned (OpenSpec.ofChange fnExactRelsValidWrong)

/-- 'laws.FnExactRelsAdd': WHATEVER THE INPUT: true; the input reads as it did. -/
def fnExactRelsAddSpec : ChangeSpec := { name := "fnExactRelsAdd", fn := fun _ => fun
  | [d1, d2] => { results := [.lit (.bool true)], args := [d1, d2] }
  | _ => none }
def fnExactRelsAddRow : OpenClaim := { program := "ytbbjdpmffokcfaa", sum := "c9ff818c76813cff80451ce9f614a9f2b88f47c39cddfe9167a2d50e1f0651e4", func := "loop.example/excavation/laws.FnExactRelsAdd", spec := "fnExactRelsAdd", unfollowed := true, recurses := true, apart := false }
def FnExactRelsAddSaid : Prop := fnExactRelsAddRow.holds Try.pinned (OpenSpec.ofChange fnExactRelsAddSpec)

/-- ITS FALSE NEIGHBOUR: 'it returns false'. Refute it at one input. -/
def fnExactRelsAddWrong : ChangeSpec := { name := "fnExactRelsAdd", fn := fun _ => fun
  | [d1, d2] => { results := [.lit (.bool false)], args := [d1, d2] }
  | _ => none }
def FnExactRelsAddWrongFalsely : Prop := fnExactRelsAddRow.holds Try.pinned (OpenSpec.ofChange fnExactRelsAddWrong)

/-- 'laws.FnExactRelsDrop': WHATEVER THE INPUT: true; the input reads as it did. -/
def fnExactRelsDropSpec : ChangeSpec := { name := "fnExactRelsDrop", fn := fun _ => fun
  | [d1, d2] => { results := [.lit (.bool true)], args := [d1, d2] }
  | _ => none }
def fnExactRelsDropRow : OpenClaim := { program := "ytbbjdpmffokcfaa", sum := "c9ff818c76813cff80451ce9f614a9f2b88f47c39cddfe9167a2d50e1f0651e4", func := "loop.example/excavation/laws.FnExactRelsDrop", spec := "fnExactRelsDrop", unfollowed := true, recurses := true, apart := false }
def FnExactRelsDropSaid : Prop := fnExactRelsDropRow.holds Try.pinned (OpenSpec.ofChange fnExactRelsDropSpec)

/-- ITS FALSE NEIGHBOUR: 'it returns false'. Refute it at one input. -/
def fnExactRelsDropWrong : ChangeSpec := { name := "fnExactRelsDrop", fn := fun _ => fun
  | [d1, d2] => { results := [.lit (.bool false)], args := [d1, d2] }
  | _ => none }
def FnExactRelsDropWrongFalsely : Prop := fnExactRelsDropRow.holds Try.pinned (OpenSpec.ofChange fnExactRelsDropWrong)

/- THE SECOND FORM. 'bulk': how many values and letters a reading holds, each counted each time it is reached (what is shared counts as often as it is met; a slice's spare places count too). A statement '..UptoSaid' is the law's where the arguments, and the package variables that the reading takes, are together of bulk at most 1048576: NARROWER than '..Said'. Prove '..Said' where nothing that the law and all that it calls make is longer than what came in: it says more and counts as full. Else prove '..UptoSaid'. A law counts once. -/
mutual
def uptoBulk {H : Type} : DataW H → Nat
  | .lit (.string bytes) => bytes.length + 1
  | .lit _ => 1
  | .nil => 1
  | .ptr d => uptoBulk d + 1
  | .slice elems spare => uptoBulkAll elems + uptoBulkAll spare + 1
  | .agg parts => uptoBulkAll parts + 1
  | .iface _ d => uptoBulk d + 1
  | .map entries => uptoBulkEntries entries + 1
  | .held _ => 1
def uptoBulkAll {H : Type} : List (DataW H) → Nat
  | [] => 0
  | d :: r => uptoBulk d + uptoBulkAll r
def uptoBulkEntries {H : Type} : List (Lit × DataW H) → Nat
  | [] => 0
  | x :: r => uptoBulkEntry x + uptoBulkEntries r
def uptoBulkEntry {H : Type} : Lit × DataW H → Nat
  | (.string bytes, d) => bytes.length + uptoBulk d + 1
  | (_, d) => uptoBulk d + 1
 end
def uptoSmall : (H : Type) → List (DataW H) → Bool := fun _ ds => decide (uptoBulkAll ds ≤ 1048576)
def OpenSpec.upto (s : _root_.Go.ChangeSpec) : _root_.Go.OpenSpec := { _root_.Go.OpenSpec.ofChange s with cond := some uptoSmall }

/-- 'laws.FnRelsAdd', WHERE WHAT IT READS IS OF BULK AT MOST 1048576: true; the input reads as it did. -/
def fnRelsAddUptoRow : OpenClaim := { program := "ytbbjdpmffokcfaa", sum := "c9ff818c76813cff80451ce9f614a9f2b88f47c39cddfe9167a2d50e1f0651e4", func := "loop.example/excavation/laws.FnRelsAdd", spec := "fnRelsAdd", unfollowed := true, recurses := true, apart := false, narrowed := true }
def FnRelsAddUptoSaid : Prop := fnRelsAddUptoRow.holds Try.pinned (OpenSpec.upto fnRelsAddSpec)

/-- 'laws.FnRelsAddTwice', WHERE WHAT IT READS IS OF BULK AT MOST 1048576: true; the input reads as it did. -/
def fnRelsAddTwiceUptoRow : OpenClaim := { program := "ytbbjdpmffokcfaa", sum := "c9ff818c76813cff80451ce9f614a9f2b88f47c39cddfe9167a2d50e1f0651e4", func := "loop.example/excavation/laws.FnRelsAddTwice", spec := "fnRelsAddTwice", unfollowed := true, recurses := true, apart := false, narrowed := true }
def FnRelsAddTwiceUptoSaid : Prop := fnRelsAddTwiceUptoRow.holds Try.pinned (OpenSpec.upto fnRelsAddTwiceSpec)

/-- 'laws.FnRelsDrop', WHERE WHAT IT READS IS OF BULK AT MOST 1048576: true; the input reads as it did. -/
def fnRelsDropUptoRow : OpenClaim := { program := "ytbbjdpmffokcfaa", sum := "c9ff818c76813cff80451ce9f614a9f2b88f47c39cddfe9167a2d50e1f0651e4", func := "loop.example/excavation/laws.FnRelsDrop", spec := "fnRelsDrop", unfollowed := true, recurses := true, apart := false, narrowed := true }
def FnRelsDropUptoSaid : Prop := fnRelsDropUptoRow.holds Try.pinned (OpenSpec.upto fnRelsDropSpec)

/-- 'laws.FnRelsOrder', WHERE WHAT IT READS IS OF BULK AT MOST 1048576: true; the input reads as it did. -/
def fnRelsOrderUptoRow : OpenClaim := { program := "ytbbjdpmffokcfaa", sum := "c9ff818c76813cff80451ce9f614a9f2b88f47c39cddfe9167a2d50e1f0651e4", func := "loop.example/excavation/laws.FnRelsOrder", spec := "fnRelsOrder", unfollowed := true, recurses := true, apart := false, narrowed := true }
def FnRelsOrderUptoSaid : Prop := fnRelsOrderUptoRow.holds Try.pinned (OpenSpec.upto fnRelsOrderSpec)

/-- 'laws.FnRelsPart', WHERE WHAT IT READS IS OF BULK AT MOST 1048576: true; the input reads as it did. -/
def fnRelsPartUptoRow : OpenClaim := { program := "ytbbjdpmffokcfaa", sum := "c9ff818c76813cff80451ce9f614a9f2b88f47c39cddfe9167a2d50e1f0651e4", func := "loop.example/excavation/laws.FnRelsPart", spec := "fnRelsPart", apart := false, narrowed := true }
def FnRelsPartUptoSaid : Prop := fnRelsPartUptoRow.holds Try.pinned (OpenSpec.upto fnRelsPartSpec)

/-- 'laws.FnRelsTurned', WHERE WHAT IT READS IS OF BULK AT MOST 1048576: true; the input reads as it did. -/
def fnRelsTurnedUptoRow : OpenClaim := { program := "ytbbjdpmffokcfaa", sum := "c9ff818c76813cff80451ce9f614a9f2b88f47c39cddfe9167a2d50e1f0651e4", func := "loop.example/excavation/laws.FnRelsTurned", spec := "fnRelsTurned", unfollowed := true, recurses := true, apart := false, narrowed := true }
def FnRelsTurnedUptoSaid : Prop := fnRelsTurnedUptoRow.holds Try.pinned (OpenSpec.upto fnRelsTurnedSpec)

/-- 'laws.FnExactRelsValid', WHERE WHAT IT READS IS OF BULK AT MOST 1048576: true; the input reads as it did. -/
def fnExactRelsValidUptoRow : OpenClaim := { program := "ytbbjdpmffokcfaa", sum := "c9ff818c76813cff80451ce9f614a9f2b88f47c39cddfe9167a2d50e1f0651e4", func := "loop.example/excavation/laws.FnExactRelsValid", spec := "fnExactRelsValid", apart := false, narrowed := true }
def FnExactRelsValidUptoSaid : Prop := fnExactRelsValidUptoRow.holds Try.pinned (OpenSpec.upto fnExactRelsValidSpec)

/-- 'laws.FnExactRelsAdd', WHERE WHAT IT READS IS OF BULK AT MOST 1048576: true; the input reads as it did. -/
def fnExactRelsAddUptoRow : OpenClaim := { program := "ytbbjdpmffokcfaa", sum := "c9ff818c76813cff80451ce9f614a9f2b88f47c39cddfe9167a2d50e1f0651e4", func := "loop.example/excavation/laws.FnExactRelsAdd", spec := "fnExactRelsAdd", unfollowed := true, recurses := true, apart := false, narrowed := true }
def FnExactRelsAddUptoSaid : Prop := fnExactRelsAddUptoRow.holds Try.pinned (OpenSpec.upto fnExactRelsAddSpec)

/-- 'laws.FnExactRelsDrop', WHERE WHAT IT READS IS OF BULK AT MOST 1048576: true; the input reads as it did. -/
def fnExactRelsDropUptoRow : OpenClaim := { program := "ytbbjdpmffokcfaa", sum := "c9ff818c76813cff80451ce9f614a9f2b88f47c39cddfe9167a2d50e1f0651e4", func := "loop.example/excavation/laws.FnExactRelsDrop", spec := "fnExactRelsDrop", unfollowed := true, recurses := true, apart := false, narrowed := true }
def FnExactRelsDropUptoSaid : Prop := fnExactRelsDropUptoRow.holds Try.pinned (OpenSpec.upto fnExactRelsDropSpec)

end Rows
end Go.Proofs.Ytbbjdpmffokcfaa
