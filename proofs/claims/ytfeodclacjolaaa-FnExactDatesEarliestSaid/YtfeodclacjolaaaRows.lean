/-
  No cell of these rows narrows 'for every input' (looked for: loops, veiled, ifaces, maps, wideKeys, modest, calm, conditions, laid).
  DERIVED. THE GIVEN ROWS OF THIS SEAT. 15 by the template 'for every input the law returns true; each argument reads behind the call as it read before'; 0 by the template 'total and deterministic' (their statements: YtfeodclacjolaaaTotals.lean).
  GIVEN WITH THE SEED: the statements are not yours to turn. If you find one false, say at which input.
  Laid BY PROGRAM, IN A SANDBOX (cutbox-rows.mjs): the forced cells as the released guide's own fill.sh prints them over the translation 971bd7471dc6b770… (all of the seat's roots in one cut). By AI agents, Wed Nov 11 2026. No macro, syntax, notation, axiom, sorry.
-/
import Derived.Test.YtfeodclacjolaaaChecked
import GoSem.Claim
import GoSem.ClaimJoined
import GoSem.ClaimMapViews
import Derived.JoinedTies
import Derived.KernelRfl
namespace Go.Proofs.Ytfeodclacjolaaa
/- THE CELL 'sum', in the pinned program and in every row, IS THE sha256 OF THE DUMP (.gsa) THAT YtfeodclacjolaaaProg.lean LOADS. Nothing in Lean hashes anything: it is a label: what it is worth is what the hold of that sum in a sandbox is worth. -/
noncomputable def Try.pinned : Pinned := { name := "ytfeodclacjolaaa", sum := "971bd7471dc6b77089ff53db8a724048b192ffac5ac9ebdb570db7b02d575d8d", checked := Try.checked }
namespace Rows
def none {H : Type} : Left H := { results := [], args := [] }

/-- 'laws.FnDates': WHATEVER THE INPUT: true; the input reads as it did. -/
def fnDatesSpec : ChangeSpec := { name := "fnDates", fn := fun _ => fun
  | [d] => { results := [.lit (.bool true)], args := [d] }
  | _ => none }
def fnDatesRow : OpenClaim := { program := "ytfeodclacjolaaa", sum := "971bd7471dc6b77089ff53db8a724048b192ffac5ac9ebdb570db7b02d575d8d", func := "loop.example/excavation/laws.FnDates", spec := "fnDates", unfollowed := true, recurses := true, apart := false }
def FnDatesSaid : Prop := fnDatesRow.holds Try.pinned (OpenSpec.ofChange fnDatesSpec)

/-- ITS FALSE NEIGHBOUR: 'it returns false'. Refute it at one input. -/
def fnDatesWrong : ChangeSpec := { name := "fnDates", fn := fun _ => fun
  | [d] => { results := [.lit (.bool false)], args := [d] }
  | _ => none }
def FnDatesWrongFalsely : Prop := fnDatesRow.holds Try.pinned (OpenSpec.ofChange fnDatesWrong)

/-- 'laws.FnDatesTight': WHATEVER THE INPUT: true; the input reads as it did. -/
def fnDatesTightSpec : ChangeSpec := { name := "fnDatesTight", fn := fun _ => fun
  | [d] => { results := [.lit (.bool true)], args := [d] }
  | _ => none }
def fnDatesTightRow : OpenClaim := { program := "ytfeodclacjolaaa", sum := "971bd7471dc6b77089ff53db8a724048b192ffac5ac9ebdb570db7b02d575d8d", func := "loop.example/excavation/laws.FnDatesTight", spec := "fnDatesTight", unfollowed := true, recurses := true, apart := false }
def FnDatesTightSaid : Prop := fnDatesTightRow.holds Try.pinned (OpenSpec.ofChange fnDatesTightSpec)

/-- ITS FALSE NEIGHBOUR: 'it returns false'. Refute it at one input. -/
def fnDatesTightWrong : ChangeSpec := { name := "fnDatesTight", fn := fun _ => fun
  | [d] => { results := [.lit (.bool false)], args := [d] }
  | _ => none }
def FnDatesTightWrongFalsely : Prop := fnDatesTightRow.holds Try.pinned (OpenSpec.ofChange fnDatesTightWrong)

/-- 'laws.FnDatesOrder': WHATEVER THE INPUT: true; the input reads as it did. -/
def fnDatesOrderSpec : ChangeSpec := { name := "fnDatesOrder", fn := fun _ => fun
  | [d] => { results := [.lit (.bool true)], args := [d] }
  | _ => none }
def fnDatesOrderRow : OpenClaim := { program := "ytfeodclacjolaaa", sum := "971bd7471dc6b77089ff53db8a724048b192ffac5ac9ebdb570db7b02d575d8d", func := "loop.example/excavation/laws.FnDatesOrder", spec := "fnDatesOrder", unfollowed := true, recurses := true, apart := false }
def FnDatesOrderSaid : Prop := fnDatesOrderRow.holds Try.pinned (OpenSpec.ofChange fnDatesOrderSpec)

/-- ITS FALSE NEIGHBOUR: 'it returns false'. Refute it at one input. -/
def fnDatesOrderWrong : ChangeSpec := { name := "fnDatesOrder", fn := fun _ => fun
  | [d] => { results := [.lit (.bool false)], args := [d] }
  | _ => none }
def FnDatesOrderWrongFalsely : Prop := fnDatesOrderRow.holds Try.pinned (OpenSpec.ofChange fnDatesOrderWrong)

/-- 'laws.FnDatesBounds': WHATEVER THE INPUT: true; the input reads as it did. -/
def fnDatesBoundsSpec : ChangeSpec := { name := "fnDatesBounds", fn := fun _ => fun
  | [d] => { results := [.lit (.bool true)], args := [d] }
  | _ => none }
def fnDatesBoundsRow : OpenClaim := { program := "ytfeodclacjolaaa", sum := "971bd7471dc6b77089ff53db8a724048b192ffac5ac9ebdb570db7b02d575d8d", func := "loop.example/excavation/laws.FnDatesBounds", spec := "fnDatesBounds", unfollowed := true, recurses := true, apart := false }
def FnDatesBoundsSaid : Prop := fnDatesBoundsRow.holds Try.pinned (OpenSpec.ofChange fnDatesBoundsSpec)

/-- ITS FALSE NEIGHBOUR: 'it returns false'. Refute it at one input. -/
def fnDatesBoundsWrong : ChangeSpec := { name := "fnDatesBounds", fn := fun _ => fun
  | [d] => { results := [.lit (.bool false)], args := [d] }
  | _ => none }
def FnDatesBoundsWrongFalsely : Prop := fnDatesBoundsRow.holds Try.pinned (OpenSpec.ofChange fnDatesBoundsWrong)

/-- 'laws.FnDatesLess': WHATEVER THE INPUT: true; the input reads as it did. -/
def fnDatesLessSpec : ChangeSpec := { name := "fnDatesLess", fn := fun _ => fun
  | [d1, d2] => { results := [.lit (.bool true)], args := [d1, d2] }
  | _ => none }
def fnDatesLessRow : OpenClaim := { program := "ytfeodclacjolaaa", sum := "971bd7471dc6b77089ff53db8a724048b192ffac5ac9ebdb570db7b02d575d8d", func := "loop.example/excavation/laws.FnDatesLess", spec := "fnDatesLess", unfollowed := true, recurses := true, apart := false }
def FnDatesLessSaid : Prop := fnDatesLessRow.holds Try.pinned (OpenSpec.ofChange fnDatesLessSpec)

/-- ITS FALSE NEIGHBOUR: 'it returns false'. Refute it at one input. -/
def fnDatesLessWrong : ChangeSpec := { name := "fnDatesLess", fn := fun _ => fun
  | [d1, d2] => { results := [.lit (.bool false)], args := [d1, d2] }
  | _ => none }
def FnDatesLessWrongFalsely : Prop := fnDatesLessRow.holds Try.pinned (OpenSpec.ofChange fnDatesLessWrong)

/-- 'laws.FnDatesMatrix': WHATEVER THE INPUT: true; the input reads as it did. -/
def fnDatesMatrixSpec : ChangeSpec := { name := "fnDatesMatrix", fn := fun _ => fun
  | [d] => { results := [.lit (.bool true)], args := [d] }
  | _ => none }
def fnDatesMatrixRow : OpenClaim := { program := "ytfeodclacjolaaa", sum := "971bd7471dc6b77089ff53db8a724048b192ffac5ac9ebdb570db7b02d575d8d", func := "loop.example/excavation/laws.FnDatesMatrix", spec := "fnDatesMatrix", unfollowed := true, recurses := true, apart := false }
def FnDatesMatrixSaid : Prop := fnDatesMatrixRow.holds Try.pinned (OpenSpec.ofChange fnDatesMatrixSpec)

/-- ITS FALSE NEIGHBOUR: 'it returns false'. Refute it at one input. -/
def fnDatesMatrixWrong : ChangeSpec := { name := "fnDatesMatrix", fn := fun _ => fun
  | [d] => { results := [.lit (.bool false)], args := [d] }
  | _ => none }
def FnDatesMatrixWrongFalsely : Prop := fnDatesMatrixRow.holds Try.pinned (OpenSpec.ofChange fnDatesMatrixWrong)

/-- 'laws.FnDatesFit': WHATEVER THE INPUT: true; the input reads as it did. -/
def fnDatesFitSpec : ChangeSpec := { name := "fnDatesFit", fn := fun _ => fun
  | [d] => { results := [.lit (.bool true)], args := [d] }
  | _ => none }
def fnDatesFitRow : OpenClaim := { program := "ytfeodclacjolaaa", sum := "971bd7471dc6b77089ff53db8a724048b192ffac5ac9ebdb570db7b02d575d8d", func := "loop.example/excavation/laws.FnDatesFit", spec := "fnDatesFit", unfollowed := true, recurses := true, apart := false }
def FnDatesFitSaid : Prop := fnDatesFitRow.holds Try.pinned (OpenSpec.ofChange fnDatesFitSpec)

/-- ITS FALSE NEIGHBOUR: 'it returns false'. Refute it at one input. -/
def fnDatesFitWrong : ChangeSpec := { name := "fnDatesFit", fn := fun _ => fun
  | [d] => { results := [.lit (.bool false)], args := [d] }
  | _ => none }
def FnDatesFitWrongFalsely : Prop := fnDatesFitRow.holds Try.pinned (OpenSpec.ofChange fnDatesFitWrong)

/-- 'laws.FnEarliest': WHATEVER THE INPUT: true; the input reads as it did. -/
def fnEarliestSpec : ChangeSpec := { name := "fnEarliest", fn := fun _ => fun
  | [d] => { results := [.lit (.bool true)], args := [d] }
  | _ => none }
def fnEarliestRow : OpenClaim := { program := "ytfeodclacjolaaa", sum := "971bd7471dc6b77089ff53db8a724048b192ffac5ac9ebdb570db7b02d575d8d", func := "loop.example/excavation/laws.FnEarliest", spec := "fnEarliest", unfollowed := true, recurses := true, apart := false }
def FnEarliestSaid : Prop := fnEarliestRow.holds Try.pinned (OpenSpec.ofChange fnEarliestSpec)

/-- ITS FALSE NEIGHBOUR: 'it returns false'. Refute it at one input. -/
def fnEarliestWrong : ChangeSpec := { name := "fnEarliest", fn := fun _ => fun
  | [d] => { results := [.lit (.bool false)], args := [d] }
  | _ => none }
def FnEarliestWrongFalsely : Prop := fnEarliestRow.holds Try.pinned (OpenSpec.ofChange fnEarliestWrong)

/-- 'laws.FnBlame': WHATEVER THE INPUT: true; the input reads as it did. -/
def fnBlameSpec : ChangeSpec := { name := "fnBlame", fn := fun _ => fun
  | [d] => { results := [.lit (.bool true)], args := [d] }
  | _ => none }
def fnBlameRow : OpenClaim := { program := "ytfeodclacjolaaa", sum := "971bd7471dc6b77089ff53db8a724048b192ffac5ac9ebdb570db7b02d575d8d", func := "loop.example/excavation/laws.FnBlame", spec := "fnBlame", unfollowed := true, recurses := true, apart := false }
def FnBlameSaid : Prop := fnBlameRow.holds Try.pinned (OpenSpec.ofChange fnBlameSpec)

/-- ITS FALSE NEIGHBOUR: 'it returns false'. Refute it at one input. -/
def fnBlameWrong : ChangeSpec := { name := "fnBlame", fn := fun _ => fun
  | [d] => { results := [.lit (.bool false)], args := [d] }
  | _ => none }
def FnBlameWrongFalsely : Prop := fnBlameRow.holds Try.pinned (OpenSpec.ofChange fnBlameWrong)

/-- 'laws.FnBlameNone': WHATEVER THE INPUT: true; the input reads as it did. -/
def fnBlameNoneSpec : ChangeSpec := { name := "fnBlameNone", fn := fun _ => fun
  | [d] => { results := [.lit (.bool true)], args := [d] }
  | _ => none }
def fnBlameNoneRow : OpenClaim := { program := "ytfeodclacjolaaa", sum := "971bd7471dc6b77089ff53db8a724048b192ffac5ac9ebdb570db7b02d575d8d", func := "loop.example/excavation/laws.FnBlameNone", spec := "fnBlameNone", unfollowed := true, recurses := true, apart := false }
def FnBlameNoneSaid : Prop := fnBlameNoneRow.holds Try.pinned (OpenSpec.ofChange fnBlameNoneSpec)

/-- ITS FALSE NEIGHBOUR: 'it returns false'. Refute it at one input. -/
def fnBlameNoneWrong : ChangeSpec := { name := "fnBlameNone", fn := fun _ => fun
  | [d] => { results := [.lit (.bool false)], args := [d] }
  | _ => none }
def FnBlameNoneWrongFalsely : Prop := fnBlameNoneRow.holds Try.pinned (OpenSpec.ofChange fnBlameNoneWrong)

/-- 'laws.FnBlameFirst': WHATEVER THE INPUT: true; the input reads as it did. -/
def fnBlameFirstSpec : ChangeSpec := { name := "fnBlameFirst", fn := fun _ => fun
  | [d] => { results := [.lit (.bool true)], args := [d] }
  | _ => none }
def fnBlameFirstRow : OpenClaim := { program := "ytfeodclacjolaaa", sum := "971bd7471dc6b77089ff53db8a724048b192ffac5ac9ebdb570db7b02d575d8d", func := "loop.example/excavation/laws.FnBlameFirst", spec := "fnBlameFirst", unfollowed := true, recurses := true, apart := false }
def FnBlameFirstSaid : Prop := fnBlameFirstRow.holds Try.pinned (OpenSpec.ofChange fnBlameFirstSpec)

/-- ITS FALSE NEIGHBOUR: 'it returns false'. Refute it at one input. -/
def fnBlameFirstWrong : ChangeSpec := { name := "fnBlameFirst", fn := fun _ => fun
  | [d] => { results := [.lit (.bool false)], args := [d] }
  | _ => none }
def FnBlameFirstWrongFalsely : Prop := fnBlameFirstRow.holds Try.pinned (OpenSpec.ofChange fnBlameFirstWrong)

/-- 'laws.FnExactDatesOf': WHATEVER THE INPUT: true; the input reads as it did. -/
def fnExactDatesOfSpec : ChangeSpec := { name := "fnExactDatesOf", fn := fun _ => fun
  | [d1, d2, d3] => { results := [.lit (.bool true)], args := [d1, d2, d3] }
  | _ => none }
def fnExactDatesOfRow : OpenClaim := { program := "ytfeodclacjolaaa", sum := "971bd7471dc6b77089ff53db8a724048b192ffac5ac9ebdb570db7b02d575d8d", func := "loop.example/excavation/laws.FnExactDatesOf", spec := "fnExactDatesOf", unfollowed := true, recurses := true, apart := false }
def FnExactDatesOfSaid : Prop := fnExactDatesOfRow.holds Try.pinned (OpenSpec.ofChange fnExactDatesOfSpec)

/-- ITS FALSE NEIGHBOUR: 'it returns false'. Refute it at one input. -/
def fnExactDatesOfWrong : ChangeSpec := { name := "fnExactDatesOf", fn := fun _ => fun
  | [d1, d2, d3] => { results := [.lit (.bool false)], args := [d1, d2, d3] }
  | _ => none }
def FnExactDatesOfWrongFalsely : Prop := fnExactDatesOfRow.holds Try.pinned (OpenSpec.ofChange fnExactDatesOfWrong)

/-- 'laws.FnExactDatesFit': WHATEVER THE INPUT: true; the input reads as it did. -/
def fnExactDatesFitSpec : ChangeSpec := { name := "fnExactDatesFit", fn := fun _ => fun
  | [d1, d2, d3, d4] => { results := [.lit (.bool true)], args := [d1, d2, d3, d4] }
  | _ => none }
def fnExactDatesFitRow : OpenClaim := { program := "ytfeodclacjolaaa", sum := "971bd7471dc6b77089ff53db8a724048b192ffac5ac9ebdb570db7b02d575d8d", func := "loop.example/excavation/laws.FnExactDatesFit", spec := "fnExactDatesFit", unfollowed := true, recurses := true, apart := false }
def FnExactDatesFitSaid : Prop := fnExactDatesFitRow.holds Try.pinned (OpenSpec.ofChange fnExactDatesFitSpec)

/-- ITS FALSE NEIGHBOUR: 'it returns false'. Refute it at one input. -/
def fnExactDatesFitWrong : ChangeSpec := { name := "fnExactDatesFit", fn := fun _ => fun
  | [d1, d2, d3, d4] => { results := [.lit (.bool false)], args := [d1, d2, d3, d4] }
  | _ => none }
def FnExactDatesFitWrongFalsely : Prop := fnExactDatesFitRow.holds Try.pinned (OpenSpec.ofChange fnExactDatesFitWrong)

/-- 'laws.FnExactDatesEarliest': WHATEVER THE INPUT: true; the input reads as it did. -/
def fnExactDatesEarliestSpec : ChangeSpec := { name := "fnExactDatesEarliest", fn := fun _ => fun
  | [d1, d2, d3] => { results := [.lit (.bool true)], args := [d1, d2, d3] }
  | _ => none }
def fnExactDatesEarliestRow : OpenClaim := { program := "ytfeodclacjolaaa", sum := "971bd7471dc6b77089ff53db8a724048b192ffac5ac9ebdb570db7b02d575d8d", func := "loop.example/excavation/laws.FnExactDatesEarliest", spec := "fnExactDatesEarliest", unfollowed := true, recurses := true, apart := false }
def FnExactDatesEarliestSaid : Prop := fnExactDatesEarliestRow.holds Try.pinned (OpenSpec.ofChange fnExactDatesEarliestSpec)

/-- ITS FALSE NEIGHBOUR: 'it returns false'. Refute it at one input. -/
def fnExactDatesEarliestWrong : ChangeSpec := { name := "fnExactDatesEarliest", fn := fun _ => fun
  | [d1, d2, d3] => { results := [.lit (.bool false)], args := [d1, d2, d3] }
  | _ => none }
def FnExactDatesEarliestWrongFalsely : Prop := fnExactDatesEarliestRow.holds Try.pinned (OpenSpec.ofChange fnExactDatesEarliestWrong)

/-- 'laws.FnExactDatesBlame': WHATEVER THE INPUT: true; the input reads as it did. -/
def fnExactDatesBlameSpec : ChangeSpec := { name := "fnExactDatesBlame", fn := fun _ => fun
  | [d1, d2, d3] => { results := [.lit (.bool true)], args := [d1, d2, d3] }
  | _ => none }
def fnExactDatesBlameRow : OpenClaim := { program := "ytfeodclacjolaaa", sum := "971bd7471dc6b77089ff53db8a724048b192ffac5ac9ebdb570db7b02d575d8d", func := "loop.example/excavation/laws.FnExactDatesBlame", spec := "fnExactDatesBlame", unfollowed := true, recurses := true, apart := false }
def FnExactDatesBlameSaid : Prop := fnExactDatesBlameRow.holds Try.pinned (OpenSpec.ofChange fnExactDatesBlameSpec)

/-- ITS FALSE NEIGHBOUR: 'it returns false'. Refute it at one input. -/
def fnExactDatesBlameWrong : ChangeSpec := { name := "fnExactDatesBlame", fn := fun _ => fun
  | [d1, d2, d3] => { results := [.lit (.bool false)], args := [d1, d2, d3] }
  | _ => none }
def FnExactDatesBlameWrongFalsely : Prop := fnExactDatesBlameRow.holds Try.pinned (OpenSpec.ofChange fnExactDatesBlameWrong)

/- THE SECOND FORM. 'bulk': how many values and letters a reading holds, each counted each time it is reached (what is shared counts as often as it is met; a slice's spare places count too). A statement '..UptoSaid' is the law's where the arguments, and the package variables that the reading takes, are together of bulk at most 1048576: NARROWER than '..Said'. Prove '..Said' where nothing that the law and all that it calls make is longer than what came in: it says more and counts as full. Else prove '..UptoSaid'. A law counts once. -/
mutual
def uptoBulk {H : Type} : DataW H → Nat
  | .lit (.string bytes) => bytes.length + 1
  | .lit _ => 1
  | .nil => 1
  | .ptr d => uptoBulk d + 1
  | .slice elems spare => uptoBulkAll elems + uptoBulkAll spare + 1
  | .agg parts => uptoBulkAll parts + 1
  | .iface _ d => uptoBulk d + 1
  | .map entries => uptoBulkEntries entries + 1
  | .held _ => 1
def uptoBulkAll {H : Type} : List (DataW H) → Nat
  | [] => 0
  | d :: r => uptoBulk d + uptoBulkAll r
def uptoBulkEntries {H : Type} : List (Lit × DataW H) → Nat
  | [] => 0
  | x :: r => uptoBulkEntry x + uptoBulkEntries r
def uptoBulkEntry {H : Type} : Lit × DataW H → Nat
  | (.string bytes, d) => bytes.length + uptoBulk d + 1
  | (_, d) => uptoBulk d + 1
 end
def uptoSmall : (H : Type) → List (DataW H) → Bool := fun _ ds => decide (uptoBulkAll ds ≤ 1048576)
def OpenSpec.upto (s : _root_.Go.ChangeSpec) : _root_.Go.OpenSpec := { _root_.Go.OpenSpec.ofChange s with cond := some uptoSmall }

/-- 'laws.FnDates', WHERE WHAT IT READS IS OF BULK AT MOST 1048576: true; the input reads as it did. -/
def fnDatesUptoRow : OpenClaim := { program := "ytfeodclacjolaaa", sum := "971bd7471dc6b77089ff53db8a724048b192ffac5ac9ebdb570db7b02d575d8d", func := "loop.example/excavation/laws.FnDates", spec := "fnDates", unfollowed := true, recurses := true, apart := false, narrowed := true }
def FnDatesUptoSaid : Prop := fnDatesUptoRow.holds Try.pinned (OpenSpec.upto fnDatesSpec)

/-- 'laws.FnDatesTight', WHERE WHAT IT READS IS OF BULK AT MOST 1048576: true; the input reads as it did. -/
def fnDatesTightUptoRow : OpenClaim := { program := "ytfeodclacjolaaa", sum := "971bd7471dc6b77089ff53db8a724048b192ffac5ac9ebdb570db7b02d575d8d", func := "loop.example/excavation/laws.FnDatesTight", spec := "fnDatesTight", unfollowed := true, recurses := true, apart := false, narrowed := true }
def FnDatesTightUptoSaid : Prop := fnDatesTightUptoRow.holds Try.pinned (OpenSpec.upto fnDatesTightSpec)

/-- 'laws.FnDatesOrder', WHERE WHAT IT READS IS OF BULK AT MOST 1048576: true; the input reads as it did. -/
def fnDatesOrderUptoRow : OpenClaim := { program := "ytfeodclacjolaaa", sum := "971bd7471dc6b77089ff53db8a724048b192ffac5ac9ebdb570db7b02d575d8d", func := "loop.example/excavation/laws.FnDatesOrder", spec := "fnDatesOrder", unfollowed := true, recurses := true, apart := false, narrowed := true }
def FnDatesOrderUptoSaid : Prop := fnDatesOrderUptoRow.holds Try.pinned (OpenSpec.upto fnDatesOrderSpec)

/-- 'laws.FnDatesBounds', WHERE WHAT IT READS IS OF BULK AT MOST 1048576: true; the input reads as it did. -/
def fnDatesBoundsUptoRow : OpenClaim := { program := "ytfeodclacjolaaa", sum := "971bd7471dc6b77089ff53db8a724048b192ffac5ac9ebdb570db7b02d575d8d", func := "loop.example/excavation/laws.FnDatesBounds", spec := "fnDatesBounds", unfollowed := true, recurses := true, apart := false, narrowed := true }
def FnDatesBoundsUptoSaid : Prop := fnDatesBoundsUptoRow.holds Try.pinned (OpenSpec.upto fnDatesBoundsSpec)

/-- 'laws.FnDatesLess', WHERE WHAT IT READS IS OF BULK AT MOST 1048576: true; the input reads as it did. -/
def fnDatesLessUptoRow : OpenClaim := { program := "ytfeodclacjolaaa", sum := "971bd7471dc6b77089ff53db8a724048b192ffac5ac9ebdb570db7b02d575d8d", func := "loop.example/excavation/laws.FnDatesLess", spec := "fnDatesLess", unfollowed := true, recurses := true, apart := false, narrowed := true }
def FnDatesLessUptoSaid : Prop := fnDatesLessUptoRow.holds Try.pinned (OpenSpec.upto fnDatesLessSpec)

/-- 'laws.FnDatesMatrix', WHERE WHAT IT READS IS OF BULK AT MOST 1048576: true; the input reads as it did. -/
def fnDatesMatrixUptoRow : OpenClaim := { program := "ytfeodclacjolaaa", sum := "971bd7471dc6b77089ff53db8a724048b192ffac5ac9ebdb570db7b02d575d8d", func := "loop.example/excavation/laws.FnDatesMatrix", spec := "fnDatesMatrix", unfollowed := true, recurses := true, apart := false, narrowed := true }
def FnDatesMatrixUptoSaid : Prop := fnDatesMatrixUptoRow.holds Try.pinned (OpenSpec.upto fnDatesMatrixSpec)

/-- 'laws.FnDatesFit', WHERE WHAT IT READS IS OF BULK AT MOST 1048576: true; the input reads as it did. -/
def fnDatesFitUptoRow : OpenClaim := { program := "ytfeodclacjolaaa", sum := "971bd7471dc6b77089ff53db8a724048b192ffac5ac9ebdb570db7b02d575d8d", func := "loop.example/excavation/laws.FnDatesFit", spec := "fnDatesFit", unfollowed := true, recurses := true, apart := false, narrowed := true }
def FnDatesFitUptoSaid : Prop := fnDatesFitUptoRow.holds Try.pinned (OpenSpec.upto fnDatesFitSpec)

/-- 'laws.FnEarliest', WHERE WHAT IT READS IS OF BULK AT MOST 1048576: true; the input reads as it did. -/
def fnEarliestUptoRow : OpenClaim := { program := "ytfeodclacjolaaa", sum := "971bd7471dc6b77089ff53db8a724048b192ffac5ac9ebdb570db7b02d575d8d", func := "loop.example/excavation/laws.FnEarliest", spec := "fnEarliest", unfollowed := true, recurses := true, apart := false, narrowed := true }
def FnEarliestUptoSaid : Prop := fnEarliestUptoRow.holds Try.pinned (OpenSpec.upto fnEarliestSpec)

/-- 'laws.FnBlame', WHERE WHAT IT READS IS OF BULK AT MOST 1048576: true; the input reads as it did. -/
def fnBlameUptoRow : OpenClaim := { program := "ytfeodclacjolaaa", sum := "971bd7471dc6b77089ff53db8a724048b192ffac5ac9ebdb570db7b02d575d8d", func := "loop.example/excavation/laws.FnBlame", spec := "fnBlame", unfollowed := true, recurses := true, apart := false, narrowed := true }
def FnBlameUptoSaid : Prop := fnBlameUptoRow.holds Try.pinned (OpenSpec.upto fnBlameSpec)

/-- 'laws.FnBlameNone', WHERE WHAT IT READS IS OF BULK AT MOST 1048576: true; the input reads as it did. -/
def fnBlameNoneUptoRow : OpenClaim := { program := "ytfeodclacjolaaa", sum := "971bd7471dc6b77089ff53db8a724048b192ffac5ac9ebdb570db7b02d575d8d", func := "loop.example/excavation/laws.FnBlameNone", spec := "fnBlameNone", unfollowed := true, recurses := true, apart := false, narrowed := true }
def FnBlameNoneUptoSaid : Prop := fnBlameNoneUptoRow.holds Try.pinned (OpenSpec.upto fnBlameNoneSpec)

/-- 'laws.FnBlameFirst', WHERE WHAT IT READS IS OF BULK AT MOST 1048576: true; the input reads as it did. -/
def fnBlameFirstUptoRow : OpenClaim := { program := "ytfeodclacjolaaa", sum := "971bd7471dc6b77089ff53db8a724048b192ffac5ac9ebdb570db7b02d575d8d", func := "loop.example/excavation/laws.FnBlameFirst", spec := "fnBlameFirst", unfollowed := true, recurses := true, apart := false, narrowed := true }
def FnBlameFirstUptoSaid : Prop := fnBlameFirstUptoRow.holds Try.pinned (OpenSpec.upto fnBlameFirstSpec)

/-- 'laws.FnExactDatesOf', WHERE WHAT IT READS IS OF BULK AT MOST 1048576: true; the input reads as it did. -/
def fnExactDatesOfUptoRow : OpenClaim := { program := "ytfeodclacjolaaa", sum := "971bd7471dc6b77089ff53db8a724048b192ffac5ac9ebdb570db7b02d575d8d", func := "loop.example/excavation/laws.FnExactDatesOf", spec := "fnExactDatesOf", unfollowed := true, recurses := true, apart := false, narrowed := true }
def FnExactDatesOfUptoSaid : Prop := fnExactDatesOfUptoRow.holds Try.pinned (OpenSpec.upto fnExactDatesOfSpec)

/-- 'laws.FnExactDatesFit', WHERE WHAT IT READS IS OF BULK AT MOST 1048576: true; the input reads as it did. -/
def fnExactDatesFitUptoRow : OpenClaim := { program := "ytfeodclacjolaaa", sum := "971bd7471dc6b77089ff53db8a724048b192ffac5ac9ebdb570db7b02d575d8d", func := "loop.example/excavation/laws.FnExactDatesFit", spec := "fnExactDatesFit", unfollowed := true, recurses := true, apart := false, narrowed := true }
def FnExactDatesFitUptoSaid : Prop := fnExactDatesFitUptoRow.holds Try.pinned (OpenSpec.upto fnExactDatesFitSpec)

/-- 'laws.FnExactDatesEarliest', WHERE WHAT IT READS IS OF BULK AT MOST 1048576: true; the input reads as it did. -/
def fnExactDatesEarliestUptoRow : OpenClaim := { program := "ytfeodclacjolaaa", sum := "971bd7471dc6b77089ff53db8a724048b192ffac5ac9ebdb570db7b02d575d8d", func := "loop.example/excavation/laws.FnExactDatesEarliest", spec := "fnExactDatesEarliest", unfollowed := true, recurses := true, apart := false, narrowed := true }
def FnExactDatesEarliestUptoSaid : Prop := fnExactDatesEarliestUptoRow.holds Try.pinned (OpenSpec.upto fnExactDatesEarliestSpec)

/-- 'laws.FnExactDatesBlame', WHERE WHAT IT READS IS OF BULK AT MOST 1048576: true; the input reads as it did. -/
def fnExactDatesBlameUptoRow : OpenClaim := { program := "ytfeodclacjolaaa", sum := "971bd7471dc6b77089ff53db8a724048b192ffac5ac9ebdb570db7b02d575d8d", func := "loop.example/excavation/laws.FnExactDatesBlame", spec := "fnExactDatesBlame", unfollowed := true, recurses := true, apart := false, narrowed := true }
def FnExactDatesBlameUptoSaid : Prop := fnExactDatesBlameUptoRow.holds Try.pinned (OpenSpec.upto fnExactDatesBlameSpec)

end Rows
end Go.Proofs.Ytfeodclacjolaaa
