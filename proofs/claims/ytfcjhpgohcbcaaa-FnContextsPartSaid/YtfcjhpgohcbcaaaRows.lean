/-
  No cell of these rows narrows 'for every input' (looked for: loops, veiled, ifaces, maps, wideKeys, modest, calm, conditions, laid).
  DERIVED. THE GIVEN ROWS OF THIS SEAT. 11 by the template 'for every input the law returns true; each argument reads behind the call as it read before'; 0 by the template 'total and deterministic' (their statements: YtfcjhpgohcbcaaaTotals.lean).
  GIVEN WITH THE SEED: the statements are not yours to turn. If you find one false, say at which input.
  Laid BY PROGRAM, IN A SANDBOX (cutbox-rows.mjs): the forced cells as the released guide's own fill.sh prints them over the translation 732db8029fe4a5ce… (all of the seat's roots in one cut). By AI agents, Wed Nov 11 2026. No macro, syntax, notation, axiom, sorry.
-/
import Derived.Test.YtfcjhpgohcbcaaaChecked
import GoSem.Claim
import GoSem.ClaimJoined
import GoSem.ClaimMapViews
import Derived.JoinedTies
import Derived.KernelRfl
namespace Go.Proofs.Ytfcjhpgohcbcaaa
/- THE CELL 'sum', in the pinned program and in every row, IS THE sha256 OF THE DUMP (.gsa) THAT YtfcjhpgohcbcaaaProg.lean LOADS. Nothing in Lean hashes anything: it is a label: what it is worth is what the hold of that sum in a sandbox is worth. -/
noncomputable def Try.pinned : Pinned := { name := "ytfcjhpgohcbcaaa", sum := "732db8029fe4a5ce3087eaca39530eb592827fae3196d5685a556f83b7aa47ab", checked := Try.checked }
namespace Rows
def none {H : Type} : Left H := { results := [], args := [] }

/-- 'laws.FnContextsAdd': WHATEVER THE INPUT: true; the input reads as it did. -/
def fnContextsAddSpec : ChangeSpec := { name := "fnContextsAdd", fn := fun _ => fun
  | [d] => { results := [.lit (.bool true)], args := [d] }
  | _ => none }
def fnContextsAddRow : OpenClaim := { program := "ytfcjhpgohcbcaaa", sum := "732db8029fe4a5ce3087eaca39530eb592827fae3196d5685a556f83b7aa47ab", func := "loop.example/excavation/laws.FnContextsAdd", spec := "fnContextsAdd", recurses := true, apart := false }
def FnContextsAddSaid : Prop := fnContextsAddRow.holds Try.pinned (OpenSpec.ofChange fnContextsAddSpec)

/-- ITS FALSE NEIGHBOUR: 'it returns false'. Refute it at one input. -/
def fnContextsAddWrong : ChangeSpec := { name := "fnContextsAdd", fn := fun _ => fun
  | [d] => { results := [.lit (.bool false)], args := [d] }
  | _ => none }
def FnContextsAddWrongFalsely : Prop := fnContextsAddRow.holds Try.pinned (OpenSpec.ofChange fnContextsAddWrong)

/-- 'laws.FnContextsKept': WHATEVER THE INPUT: true; the input reads as it did. -/
def fnContextsKeptSpec : ChangeSpec := { name := "fnContextsKept", fn := fun _ => fun
  | [d] => { results := [.lit (.bool true)], args := [d] }
  | _ => none }
def fnContextsKeptRow : OpenClaim := { program := "ytfcjhpgohcbcaaa", sum := "732db8029fe4a5ce3087eaca39530eb592827fae3196d5685a556f83b7aa47ab", func := "loop.example/excavation/laws.FnContextsKept", spec := "fnContextsKept", recurses := true, apart := false }
def FnContextsKeptSaid : Prop := fnContextsKeptRow.holds Try.pinned (OpenSpec.ofChange fnContextsKeptSpec)

/-- ITS FALSE NEIGHBOUR: 'it returns false'. Refute it at one input. -/
def fnContextsKeptWrong : ChangeSpec := { name := "fnContextsKept", fn := fun _ => fun
  | [d] => { results := [.lit (.bool false)], args := [d] }
  | _ => none }
def FnContextsKeptWrongFalsely : Prop := fnContextsKeptRow.holds Try.pinned (OpenSpec.ofChange fnContextsKeptWrong)

/-- 'laws.FnContextsRefused': WHATEVER THE INPUT: true; the input reads as it did. -/
def fnContextsRefusedSpec : ChangeSpec := { name := "fnContextsRefused", fn := fun _ => fun
  | [d] => { results := [.lit (.bool true)], args := [d] }
  | _ => none }
def fnContextsRefusedRow : OpenClaim := { program := "ytfcjhpgohcbcaaa", sum := "732db8029fe4a5ce3087eaca39530eb592827fae3196d5685a556f83b7aa47ab", func := "loop.example/excavation/laws.FnContextsRefused", spec := "fnContextsRefused", recurses := true, apart := false }
def FnContextsRefusedSaid : Prop := fnContextsRefusedRow.holds Try.pinned (OpenSpec.ofChange fnContextsRefusedSpec)

/-- ITS FALSE NEIGHBOUR: 'it returns false'. Refute it at one input. -/
def fnContextsRefusedWrong : ChangeSpec := { name := "fnContextsRefused", fn := fun _ => fun
  | [d] => { results := [.lit (.bool false)], args := [d] }
  | _ => none }
def FnContextsRefusedWrongFalsely : Prop := fnContextsRefusedRow.holds Try.pinned (OpenSpec.ofChange fnContextsRefusedWrong)

/-- 'laws.FnContextsFind': WHATEVER THE INPUT: true; the input reads as it did. -/
def fnContextsFindSpec : ChangeSpec := { name := "fnContextsFind", fn := fun _ => fun
  | [d] => { results := [.lit (.bool true)], args := [d] }
  | _ => none }
def fnContextsFindRow : OpenClaim := { program := "ytfcjhpgohcbcaaa", sum := "732db8029fe4a5ce3087eaca39530eb592827fae3196d5685a556f83b7aa47ab", func := "loop.example/excavation/laws.FnContextsFind", spec := "fnContextsFind", apart := false }
def FnContextsFindSaid : Prop := fnContextsFindRow.holds Try.pinned (OpenSpec.ofChange fnContextsFindSpec)

/-- ITS FALSE NEIGHBOUR: 'it returns false'. Refute it at one input. -/
def fnContextsFindWrong : ChangeSpec := { name := "fnContextsFind", fn := fun _ => fun
  | [d] => { results := [.lit (.bool false)], args := [d] }
  | _ => none }
def FnContextsFindWrongFalsely : Prop := fnContextsFindRow.holds Try.pinned (OpenSpec.ofChange fnContextsFindWrong)

/-- 'laws.FnContextsArea': WHATEVER THE INPUT: true; the input reads as it did. -/
def fnContextsAreaSpec : ChangeSpec := { name := "fnContextsArea", fn := fun _ => fun
  | [d] => { results := [.lit (.bool true)], args := [d] }
  | _ => none }
def fnContextsAreaRow : OpenClaim := { program := "ytfcjhpgohcbcaaa", sum := "732db8029fe4a5ce3087eaca39530eb592827fae3196d5685a556f83b7aa47ab", func := "loop.example/excavation/laws.FnContextsArea", spec := "fnContextsArea", apart := false }
def FnContextsAreaSaid : Prop := fnContextsAreaRow.holds Try.pinned (OpenSpec.ofChange fnContextsAreaSpec)

/-- ITS FALSE NEIGHBOUR: 'it returns false'. Refute it at one input. -/
def fnContextsAreaWrong : ChangeSpec := { name := "fnContextsArea", fn := fun _ => fun
  | [d] => { results := [.lit (.bool false)], args := [d] }
  | _ => none }
def FnContextsAreaWrongFalsely : Prop := fnContextsAreaRow.holds Try.pinned (OpenSpec.ofChange fnContextsAreaWrong)

/-- 'laws.FnContextsAreas': WHATEVER THE INPUT: true; the input reads as it did. -/
def fnContextsAreasSpec : ChangeSpec := { name := "fnContextsAreas", fn := fun _ => fun
  | [d] => { results := [.lit (.bool true)], args := [d] }
  | _ => none }
def fnContextsAreasRow : OpenClaim := { program := "ytfcjhpgohcbcaaa", sum := "732db8029fe4a5ce3087eaca39530eb592827fae3196d5685a556f83b7aa47ab", func := "loop.example/excavation/laws.FnContextsAreas", spec := "fnContextsAreas", apart := false }
def FnContextsAreasSaid : Prop := fnContextsAreasRow.holds Try.pinned (OpenSpec.ofChange fnContextsAreasSpec)

/-- ITS FALSE NEIGHBOUR: 'it returns false'. Refute it at one input. -/
def fnContextsAreasWrong : ChangeSpec := { name := "fnContextsAreas", fn := fun _ => fun
  | [d] => { results := [.lit (.bool false)], args := [d] }
  | _ => none }
def FnContextsAreasWrongFalsely : Prop := fnContextsAreasRow.holds Try.pinned (OpenSpec.ofChange fnContextsAreasWrong)

/-- 'laws.FnContextsPart': WHATEVER THE INPUT: true; the input reads as it did. -/
def fnContextsPartSpec : ChangeSpec := { name := "fnContextsPart", fn := fun _ => fun
  | [d1, d2] => { results := [.lit (.bool true)], args := [d1, d2] }
  | _ => none }
def fnContextsPartRow : OpenClaim := { program := "ytfcjhpgohcbcaaa", sum := "732db8029fe4a5ce3087eaca39530eb592827fae3196d5685a556f83b7aa47ab", func := "loop.example/excavation/laws.FnContextsPart", spec := "fnContextsPart", apart := false }
def FnContextsPartSaid : Prop := fnContextsPartRow.holds Try.pinned (OpenSpec.ofChange fnContextsPartSpec)

/-- ITS FALSE NEIGHBOUR: 'it returns false'. Refute it at one input. -/
def fnContextsPartWrong : ChangeSpec := { name := "fnContextsPart", fn := fun _ => fun
  | [d1, d2] => { results := [.lit (.bool false)], args := [d1, d2] }
  | _ => none }
def FnContextsPartWrongFalsely : Prop := fnContextsPartRow.holds Try.pinned (OpenSpec.ofChange fnContextsPartWrong)

/-- 'laws.FnExactContextsValid': WHATEVER THE INPUT: true; the input reads as it did. -/
def fnExactContextsValidSpec : ChangeSpec := { name := "fnExactContextsValid", fn := fun _ => fun
  | [d] => { results := [.lit (.bool true)], args := [d] }
  | _ => none }
def fnExactContextsValidRow : OpenClaim := { program := "ytfcjhpgohcbcaaa", sum := "732db8029fe4a5ce3087eaca39530eb592827fae3196d5685a556f83b7aa47ab", func := "loop.example/excavation/laws.FnExactContextsValid", spec := "fnExactContextsValid", apart := false }
def FnExactContextsValidSaid : Prop := fnExactContextsValidRow.holds Try.pinned (OpenSpec.ofChange fnExactContextsValidSpec)

/-- ITS FALSE NEIGHBOUR: 'it returns false'. Refute it at one input. -/
def fnExactContextsValidWrong : ChangeSpec := { name := "fnExactContextsValid", fn := fun _ => fun
  | [d] => { results := [.lit (.bool false)], args := [d] }
  | _ => none }
def FnExactContextsValidWrongFalsely : Prop := fnExactContextsValidRow.holds Try.pinned (OpenSpec.ofChange fnExactContextsValidWrong)

/-- 'laws.FnExactContextsAdd': WHATEVER THE INPUT: true; the input reads as it did. -/
def fnExactContextsAddSpec : ChangeSpec := { name := "fnExactContextsAdd", fn := fun _ => fun
  | [d1, d2] => { results := [.lit (.bool true)], args := [d1, d2] }
  | _ => none }
def fnExactContextsAddRow : OpenClaim := { program := "ytfcjhpgohcbcaaa", sum := "732db8029fe4a5ce3087eaca39530eb592827fae3196d5685a556f83b7aa47ab", func := "loop.example/excavation/laws.FnExactContextsAdd", spec := "fnExactContextsAdd", recurses := true, apart := false }
def FnExactContextsAddSaid : Prop := fnExactContextsAddRow.holds Try.pinned (OpenSpec.ofChange fnExactContextsAddSpec)

/-- ITS FALSE NEIGHBOUR: 'it returns false'. Refute it at one input. -/
def fnExactContextsAddWrong : ChangeSpec := { name := "fnExactContextsAdd", fn := fun _ => fun
  | [d1, d2] => { results := [.lit (.bool false)], args := [d1, d2] }
  | _ => none }
def FnExactContextsAddWrongFalsely : Prop := fnExactContextsAddRow.holds Try.pinned (OpenSpec.ofChange fnExactContextsAddWrong)

/-- 'laws.FnExactContextsFind': WHATEVER THE INPUT: true; the input reads as it did. -/
def fnExactContextsFindSpec : ChangeSpec := { name := "fnExactContextsFind", fn := fun _ => fun
  | [d1, d2] => { results := [.lit (.bool true)], args := [d1, d2] }
  | _ => none }
def fnExactContextsFindRow : OpenClaim := { program := "ytfcjhpgohcbcaaa", sum := "732db8029fe4a5ce3087eaca39530eb592827fae3196d5685a556f83b7aa47ab", func := "loop.example/excavation/laws.FnExactContextsFind", spec := "fnExactContextsFind", apart := false }
def FnExactContextsFindSaid : Prop := fnExactContextsFindRow.holds Try.pinned (OpenSpec.ofChange fnExactContextsFindSpec)

/-- ITS FALSE NEIGHBOUR: 'it returns false'. Refute it at one input. -/
def fnExactContextsFindWrong : ChangeSpec := { name := "fnExactContextsFind", fn := fun _ => fun
  | [d1, d2] => { results := [.lit (.bool false)], args := [d1, d2] }
  | _ => none }
def FnExactContextsFindWrongFalsely : Prop := fnExactContextsFindRow.holds Try.pinned (OpenSpec.ofChange fnExactContextsFindWrong)

/-- 'laws.FnExactContextsArea': WHATEVER THE INPUT: true; the input reads as it did. -/
def fnExactContextsAreaSpec : ChangeSpec := { name := "fnExactContextsArea", fn := fun _ => fun
  | [d1, d2] => { results := [.lit (.bool true)], args := [d1, d2] }
  | _ => none }
def fnExactContextsAreaRow : OpenClaim := { program := "ytfcjhpgohcbcaaa", sum := "732db8029fe4a5ce3087eaca39530eb592827fae3196d5685a556f83b7aa47ab", func := "loop.example/excavation/laws.FnExactContextsArea", spec := "fnExactContextsArea", apart := false }
def FnExactContextsAreaSaid : Prop := fnExactContextsAreaRow.holds Try.pinned (OpenSpec.ofChange fnExactContextsAreaSpec)

/-- ITS FALSE NEIGHBOUR: 'it returns false'. Refute it at one input. -/
def fnExactContextsAreaWrong : ChangeSpec := { name := "fnExactContextsArea", fn := fun _ => fun
  | [d1, d2] => { results := [.lit (.bool false)], args := [d1, d2] }
  | _ => none }
def FnExactContextsAreaWrongFalsely : Prop := fnExactContextsAreaRow.holds Try.pinned (OpenSpec.ofChange fnExactContextsAreaWrong)

/- THE SECOND FORM. 'bulk': how many values and letters a reading holds, each counted each time it is reached (what is shared counts as often as it is met; a slice's spare places count too). A statement '..UptoSaid' is the law's where the arguments, and the package variables that the reading takes, are together of bulk at most 1048576: NARROWER than '..Said'. Prove '..Said' where nothing that the law and all that it calls make is longer than what came in: it says more and counts as full. Else prove '..UptoSaid'. A law counts once. -/
mutual
def uptoBulk {H : Type} : DataW H → Nat
  | .lit (.string bytes) => bytes.length + 1
  | .lit _ => 1
  | .nil => 1
  | .ptr d => uptoBulk d + 1
  | .slice elems spare => uptoBulkAll elems + uptoBulkAll spare + 1
  | .agg parts => uptoBulkAll parts + 1
  | .iface _ d => uptoBulk d + 1
  | .map entries => uptoBulkEntries entries + 1
  | .held _ => 1
def uptoBulkAll {H : Type} : List (DataW H) → Nat
  | [] => 0
  | d :: r => uptoBulk d + uptoBulkAll r
def uptoBulkEntries {H : Type} : List (Lit × DataW H) → Nat
  | [] => 0
  | x :: r => uptoBulkEntry x + uptoBulkEntries r
def uptoBulkEntry {H : Type} : Lit × DataW H → Nat
  | (.string bytes, d) => bytes.length + uptoBulk d + 1
  | (_, d) => uptoBulk d + 1
 end
def uptoSmall : (H : Type) → List (DataW H) → Bool := fun _ ds => decide (uptoBulkAll ds ≤ 1048576)
def OpenSpec.upto (s : _root_.Go.ChangeSpec) : _root_.Go.OpenSpec := { _root_.Go.OpenSpec.ofChange s with cond := some uptoSmall }

/-- 'laws.FnContextsAdd', WHERE WHAT IT READS IS OF BULK AT MOST 1048576: true; the input reads as it did. -/
def fnContextsAddUptoRow : OpenClaim := { program := "ytfcjhpgohcbcaaa", sum := "732db8029fe4a5ce3087eaca39530eb592827fae3196d5685a556f83b7aa47ab", func := "loop.example/excavation/laws.FnContextsAdd", spec := "fnContextsAdd", recurses := true, apart := false, narrowed := true }
def FnContextsAddUptoSaid : Prop := fnContextsAddUptoRow.holds Try.pinned (OpenSpec.upto fnContextsAddSpec)

/-- 'laws.FnContextsKept', WHERE WHAT IT READS IS OF BULK AT MOST 1048576: true; the input reads as it did. -/
def fnContextsKeptUptoRow : OpenClaim := { program := "ytfcjhpgohcbcaaa", sum := "732db8029fe4a5ce3087eaca39530eb592827fae3196d5685a556f83b7aa47ab", func := "loop.example/excavation/laws.FnContextsKept", spec := "fnContextsKept", recurses := true, apart := false, narrowed := true }
def FnContextsKeptUptoSaid : Prop := fnContextsKeptUptoRow.holds Try.pinned (OpenSpec.upto fnContextsKeptSpec)

/-- 'laws.FnContextsRefused', WHERE WHAT IT READS IS OF BULK AT MOST 1048576: true; the input reads as it did. -/
def fnContextsRefusedUptoRow : OpenClaim := { program := "ytfcjhpgohcbcaaa", sum := "732db8029fe4a5ce3087eaca39530eb592827fae3196d5685a556f83b7aa47ab", func := "loop.example/excavation/laws.FnContextsRefused", spec := "fnContextsRefused", recurses := true, apart := false, narrowed := true }
def FnContextsRefusedUptoSaid : Prop := fnContextsRefusedUptoRow.holds Try.pinned (OpenSpec.upto fnContextsRefusedSpec)

/-- 'laws.FnContextsFind', WHERE WHAT IT READS IS OF BULK AT MOST 1048576: true; the input reads as it did. -/
def fnContextsFindUptoRow : OpenClaim := { program := "ytfcjhpgohcbcaaa", sum := "732db8029fe4a5ce3087eaca39530eb592827fae3196d5685a556f83b7aa47ab", func := "loop.example/excavation/laws.FnContextsFind", spec := "fnContextsFind", apart := false, narrowed := true }
def FnContextsFindUptoSaid : Prop := fnContextsFindUptoRow.holds Try.pinned (OpenSpec.upto fnContextsFindSpec)

/-- 'laws.FnContextsArea', WHERE WHAT IT READS IS OF BULK AT MOST 1048576: true; the input reads as it did. -/
def fnContextsAreaUptoRow : OpenClaim := { program := "ytfcjhpgohcbcaaa", sum := "732db8029fe4a5ce3087eaca39530eb592827fae3196d5685a556f83b7aa47ab", func := "loop.example/excavation/laws.FnContextsArea", spec := "fnContextsArea", apart := false, narrowed := true }
def FnContextsAreaUptoSaid : Prop := fnContextsAreaUptoRow.holds Try.pinned (OpenSpec.upto fnContextsAreaSpec)

/-- 'laws.FnContextsAreas', WHERE WHAT IT READS IS OF BULK AT MOST 1048576: true; the input reads as it did. -/
def fnContextsAreasUptoRow : OpenClaim := { program := "ytfcjhpgohcbcaaa", sum := "732db8029fe4a5ce3087eaca39530eb592827fae3196d5685a556f83b7aa47ab", func := "loop.example/excavation/laws.FnContextsAreas", spec := "fnContextsAreas", apart := false, narrowed := true }
def FnContextsAreasUptoSaid : Prop := fnContextsAreasUptoRow.holds Try.pinned (OpenSpec.upto fnContextsAreasSpec)

/-- 'laws.FnContextsPart', WHERE WHAT IT READS IS OF BULK AT MOST 1048576: true; the input reads as it did. -/
def fnContextsPartUptoRow : OpenClaim := { program := "ytfcjhpgohcbcaaa", sum := "732db8029fe4a5ce3087eaca39530eb592827fae3196d5685a556f83b7aa47ab", func := "loop.example/excavation/laws.FnContextsPart", spec := "fnContextsPart", apart := false, narrowed := true }
def FnContextsPartUptoSaid : Prop := fnContextsPartUptoRow.holds Try.pinned (OpenSpec.upto fnContextsPartSpec)

/-- 'laws.FnExactContextsValid', WHERE WHAT IT READS IS OF BULK AT MOST 1048576: true; the input reads as it did. -/
def fnExactContextsValidUptoRow : OpenClaim := { program := "ytfcjhpgohcbcaaa", sum := "732db8029fe4a5ce3087eaca39530eb592827fae3196d5685a556f83b7aa47ab", func := "loop.example/excavation/laws.FnExactContextsValid", spec := "fnExactContextsValid", apart := false, narrowed := true }
def FnExactContextsValidUptoSaid : Prop := fnExactContextsValidUptoRow.holds Try.pinned (OpenSpec.upto fnExactContextsValidSpec)

/-- 'laws.FnExactContextsAdd', WHERE WHAT IT READS IS OF BULK AT MOST 1048576: true; the input reads as it did. -/
def fnExactContextsAddUptoRow : OpenClaim := { program := "ytfcjhpgohcbcaaa", sum := "732db8029fe4a5ce3087eaca39530eb592827fae3196d5685a556f83b7aa47ab", func := "loop.example/excavation/laws.FnExactContextsAdd", spec := "fnExactContextsAdd", recurses := true, apart := false, narrowed := true }
def FnExactContextsAddUptoSaid : Prop := fnExactContextsAddUptoRow.holds Try.pinned (OpenSpec.upto fnExactContextsAddSpec)

/-- 'laws.FnExactContextsFind', WHERE WHAT IT READS IS OF BULK AT MOST 1048576: true; the input reads as it did. -/
def fnExactContextsFindUptoRow : OpenClaim := { program := "ytfcjhpgohcbcaaa", sum := "732db8029fe4a5ce3087eaca39530eb592827fae3196d5685a556f83b7aa47ab", func := "loop.example/excavation/laws.FnExactContextsFind", spec := "fnExactContextsFind", apart := false, narrowed := true }
def FnExactContextsFindUptoSaid : Prop := fnExactContextsFindUptoRow.holds Try.pinned (OpenSpec.upto fnExactContextsFindSpec)

/-- 'laws.FnExactContextsArea', WHERE WHAT IT READS IS OF BULK AT MOST 1048576: true; the input reads as it did. -/
def fnExactContextsAreaUptoRow : OpenClaim := { program := "ytfcjhpgohcbcaaa", sum := "732db8029fe4a5ce3087eaca39530eb592827fae3196d5685a556f83b7aa47ab", func := "loop.example/excavation/laws.FnExactContextsArea", spec := "fnExactContextsArea", apart := false, narrowed := true }
def FnExactContextsAreaUptoSaid : Prop := fnExactContextsAreaUptoRow.holds Try.pinned (OpenSpec.upto fnExactContextsAreaSpec)

end Rows
end Go.Proofs.Ytfcjhpgohcbcaaa
