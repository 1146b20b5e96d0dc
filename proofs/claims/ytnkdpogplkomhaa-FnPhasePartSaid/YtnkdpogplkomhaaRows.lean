/-
  No cell of these rows narrows 'for every input' (looked for: loops, veiled, ifaces, maps, wideKeys, modest, calm, conditions, laid).
  DERIVED. THE GIVEN ROWS OF THIS SEAT. 7 by the template 'for every input the law returns true; each argument reads behind the call as it read before'; 0 by the template 'total and deterministic' (their statements: YtnkdpogplkomhaaTotals.lean).
  GIVEN WITH THE SEED: the statements are not yours to turn. If you find one false, say at which input.
  Laid BY PROGRAM, IN A SANDBOX (cutbox-rows.mjs): the forced cells as the released guide's own fill.sh prints them over the translation 063e228a7eab726c… (all of the seat's roots in one cut). By AI agents, Wed Nov 11 2026. No macro, syntax, notation, axiom, sorry.
-/
import Derived.Test.YtnkdpogplkomhaaChecked
import GoSem.Claim
import GoSem.ClaimJoined
import GoSem.ClaimMapViews
import Derived.JoinedTies
import Derived.KernelRfl
namespace Go.Proofs.Ytnkdpogplkomhaa
/- THE CELL 'sum', in the pinned program and in every row, IS THE sha256 OF THE DUMP (.gsa) THAT YtnkdpogplkomhaaProg.lean LOADS. Nothing in Lean hashes anything: it is a label: what it is worth is what the hold of that sum in a sandbox is worth. -/
noncomputable def Try.pinned : Pinned := { name := "ytnkdpogplkomhaa", sum := "063e228a7eab726cf47f0ec3bf3c6c08d5fbcc95232eea24cdc474780526efce", checked := Try.checked }
namespace Rows
def none {H : Type} : Left H := { results := [], args := [] }

/-- 'laws.FnDates': WHATEVER THE INPUT: true; the input reads as it did. -/
def fnDatesSpec : ChangeSpec := { name := "fnDates", fn := fun _ => fun
  | [d] => { results := [.lit (.bool true)], args := [d] }
  | _ => none }
def fnDatesRow : OpenClaim := { program := "ytnkdpogplkomhaa", sum := "063e228a7eab726cf47f0ec3bf3c6c08d5fbcc95232eea24cdc474780526efce", func := "loop.example/excavation/laws.FnDates", spec := "fnDates", unfollowed := true, recurses := true, apart := false }
def FnDatesSaid : Prop := fnDatesRow.holds Try.pinned (OpenSpec.ofChange fnDatesSpec)

/-- ITS FALSE NEIGHBOUR: 'it returns false'. Refute it at one input. -/
def fnDatesWrong : ChangeSpec := { name := "fnDates", fn := fun _ => fun
  | [d] => { results := [.lit (.bool false)], args := [d] }
  | _ => none }
def FnDatesWrongFalsely : Prop := fnDatesRow.holds Try.pinned (OpenSpec.ofChange fnDatesWrong)

/-- 'laws.FnDatesTight': WHATEVER THE INPUT: true; the input reads as it did. -/
def fnDatesTightSpec : ChangeSpec := { name := "fnDatesTight", fn := fun _ => fun
  | [d] => { results := [.lit (.bool true)], args := [d] }
  | _ => none }
def fnDatesTightRow : OpenClaim := { program := "ytnkdpogplkomhaa", sum := "063e228a7eab726cf47f0ec3bf3c6c08d5fbcc95232eea24cdc474780526efce", func := "loop.example/excavation/laws.FnDatesTight", spec := "fnDatesTight", unfollowed := true, recurses := true, apart := false }
def FnDatesTightSaid : Prop := fnDatesTightRow.holds Try.pinned (OpenSpec.ofChange fnDatesTightSpec)

/-- ITS FALSE NEIGHBOUR: 'it returns false'. Refute it at one input. -/
def fnDatesTightWrong : ChangeSpec := { name := "fnDatesTight", fn := fun _ => fun
  | [d] => { results := [.lit (.bool false)], args := [d] }
  | _ => none }
def FnDatesTightWrongFalsely : Prop := fnDatesTightRow.holds Try.pinned (OpenSpec.ofChange fnDatesTightWrong)

/-- 'laws.FnDatesFit': WHATEVER THE INPUT: true; the input reads as it did. -/
def fnDatesFitSpec : ChangeSpec := { name := "fnDatesFit", fn := fun _ => fun
  | [d] => { results := [.lit (.bool true)], args := [d] }
  | _ => none }
def fnDatesFitRow : OpenClaim := { program := "ytnkdpogplkomhaa", sum := "063e228a7eab726cf47f0ec3bf3c6c08d5fbcc95232eea24cdc474780526efce", func := "loop.example/excavation/laws.FnDatesFit", spec := "fnDatesFit", unfollowed := true, recurses := true, apart := false }
def FnDatesFitSaid : Prop := fnDatesFitRow.holds Try.pinned (OpenSpec.ofChange fnDatesFitSpec)

/-- ITS FALSE NEIGHBOUR: 'it returns false'. Refute it at one input. -/
def fnDatesFitWrong : ChangeSpec := { name := "fnDatesFit", fn := fun _ => fun
  | [d] => { results := [.lit (.bool false)], args := [d] }
  | _ => none }
def FnDatesFitWrongFalsely : Prop := fnDatesFitRow.holds Try.pinned (OpenSpec.ofChange fnDatesFitWrong)

/-- 'laws.FnEarliest': WHATEVER THE INPUT: true; the input reads as it did. -/
def fnEarliestSpec : ChangeSpec := { name := "fnEarliest", fn := fun _ => fun
  | [d] => { results := [.lit (.bool true)], args := [d] }
  | _ => none }
def fnEarliestRow : OpenClaim := { program := "ytnkdpogplkomhaa", sum := "063e228a7eab726cf47f0ec3bf3c6c08d5fbcc95232eea24cdc474780526efce", func := "loop.example/excavation/laws.FnEarliest", spec := "fnEarliest", unfollowed := true, recurses := true, apart := false }
def FnEarliestSaid : Prop := fnEarliestRow.holds Try.pinned (OpenSpec.ofChange fnEarliestSpec)

/-- ITS FALSE NEIGHBOUR: 'it returns false'. Refute it at one input. -/
def fnEarliestWrong : ChangeSpec := { name := "fnEarliest", fn := fun _ => fun
  | [d] => { results := [.lit (.bool false)], args := [d] }
  | _ => none }
def FnEarliestWrongFalsely : Prop := fnEarliestRow.holds Try.pinned (OpenSpec.ofChange fnEarliestWrong)

/-- 'laws.FnPhasePart': WHATEVER THE INPUT: true; the input reads as it did. -/
def fnPhasePartSpec : ChangeSpec := { name := "fnPhasePart", fn := fun _ => fun
  | [d1, d2] => { results := [.lit (.bool true)], args := [d1, d2] }
  | _ => none }
def fnPhasePartRow : OpenClaim := { program := "ytnkdpogplkomhaa", sum := "063e228a7eab726cf47f0ec3bf3c6c08d5fbcc95232eea24cdc474780526efce", func := "loop.example/excavation/laws.FnPhasePart", spec := "fnPhasePart", unfollowed := true, recurses := true, apart := false }
def FnPhasePartSaid : Prop := fnPhasePartRow.holds Try.pinned (OpenSpec.ofChange fnPhasePartSpec)

/-- ITS FALSE NEIGHBOUR: 'it returns false'. Refute it at one input. -/
def fnPhasePartWrong : ChangeSpec := { name := "fnPhasePart", fn := fun _ => fun
  | [d1, d2] => { results := [.lit (.bool false)], args := [d1, d2] }
  | _ => none }
def FnPhasePartWrongFalsely : Prop := fnPhasePartRow.holds Try.pinned (OpenSpec.ofChange fnPhasePartWrong)

/-- 'laws.FnExactDatesFit': WHATEVER THE INPUT: true; the input reads as it did. -/
def fnExactDatesFitSpec : ChangeSpec := { name := "fnExactDatesFit", fn := fun _ => fun
  | [d1, d2, d3, d4] => { results := [.lit (.bool true)], args := [d1, d2, d3, d4] }
  | _ => none }
def fnExactDatesFitRow : OpenClaim := { program := "ytnkdpogplkomhaa", sum := "063e228a7eab726cf47f0ec3bf3c6c08d5fbcc95232eea24cdc474780526efce", func := "loop.example/excavation/laws.FnExactDatesFit", spec := "fnExactDatesFit", unfollowed := true, recurses := true, apart := false }
def FnExactDatesFitSaid : Prop := fnExactDatesFitRow.holds Try.pinned (OpenSpec.ofChange fnExactDatesFitSpec)

/-- ITS FALSE NEIGHBOUR: 'it returns false'. Refute it at one input. -/
def fnExactDatesFitWrong : ChangeSpec := { name := "fnExactDatesFit", fn := fun _ => fun
  | [d1, d2, d3, d4] => { results := [.lit (.bool false)], args := [d1, d2, d3, d4] }
  | _ => none }
def FnExactDatesFitWrongFalsely : Prop := fnExactDatesFitRow.holds Try.pinned (OpenSpec.ofChange fnExactDatesFitWrong)

/-- 'laws.FnExactPhaseValid': WHATEVER THE INPUT: true; the input reads as it did. -/
def fnExactPhaseValidSpec : ChangeSpec := { name := "fnExactPhaseValid", fn := fun _ => fun
  | [d1, d2, d3] => { results := [.lit (.bool true)], args := [d1, d2, d3] }
  | _ => none }
def fnExactPhaseValidRow : OpenClaim := { program := "ytnkdpogplkomhaa", sum := "063e228a7eab726cf47f0ec3bf3c6c08d5fbcc95232eea24cdc474780526efce", func := "loop.example/excavation/laws.FnExactPhaseValid", spec := "fnExactPhaseValid", unfollowed := true, recurses := true, apart := false }
def FnExactPhaseValidSaid : Prop := fnExactPhaseValidRow.holds Try.pinned (OpenSpec.ofChange fnExactPhaseValidSpec)

/-- ITS FALSE NEIGHBOUR: 'it returns false'. Refute it at one input. -/
def fnExactPhaseValidWrong : ChangeSpec := { name := "fnExactPhaseValid", fn := fun _ => fun
  | [d1, d2, d3] => { results := [.lit (.bool false)], args := [d1, d2, d3] }
  | _ => none }
def FnExactPhaseValidWrongFalsely : Prop := fnExactPhaseValidRow.holds Try.pinned (OpenSpec.ofChange fnExactPhaseValidWrong)

/- THE SECOND FORM. 'bulk': how many values and letters a reading holds, each counted each time it is reached (what is shared counts as often as it is met; a slice's spare places count too). A statement '..UptoSaid' is the law's where the arguments, and the package variables that the reading takes, are together of bulk at most 1048576: NARROWER than '..Said'. Prove '..Said' where nothing that the law and all that it calls make is longer than what came in: it says more and counts as full. Else prove '..UptoSaid'. A law counts once. -/
mutual
def uptoBulk {H : Type} : DataW H → Nat
  | .lit (.string bytes) => bytes.length + 1
  | .lit _ => 1
  | .nil => 1
  | .ptr d => uptoBulk d + 1
  | .slice elems spare => uptoBulkAll elems + uptoBulkAll spare + 1
  | .agg parts => uptoBulkAll parts + 1
  | .iface _ d => uptoBulk d + 1
  | .map entries => uptoBulkEntries entries + 1
  | .held _ => 1
def uptoBulkAll {H : Type} : List (DataW H) → Nat
  | [] => 0
  | d :: r => uptoBulk d + uptoBulkAll r
def uptoBulkEntries {H : Type} : List (Lit × DataW H) → Nat
  | [] => 0
  | x :: r => uptoBulkEntry x + uptoBulkEntries r
def uptoBulkEntry {H : Type} : Lit × DataW H → Nat
  | (.string bytes, d) => bytes.length + uptoBulk d + 1
  | (_, d) => uptoBulk d + 1
 end
def uptoSmall : (H : Type) → List (DataW H) → Bool := fun _ ds => decide (uptoBulkAll ds ≤ 1048576)
def OpenSpec.upto (s : _root_.Go.ChangeSpec) : _root_.Go.OpenSpec := { _root_.Go.OpenSpec.ofChange s with cond := some uptoSmall }

/-- 'laws.FnDates', WHERE WHAT IT READS IS OF BULK AT MOST 1048576: true; the input reads as it did. -/
def fnDatesUptoRow : OpenClaim := { program := "ytnkdpogplkomhaa", sum := "063e228a7eab726cf47f0ec3bf3c6c08d5fbcc95232eea24cdc474780526efce", func := "loop.example/excavation/laws.FnDates", spec := "fnDates", unfollowed := true, recurses := true, apart := false, narrowed := true }
def FnDatesUptoSaid : Prop := fnDatesUptoRow.holds Try.pinned (OpenSpec.upto fnDatesSpec)

/-- 'laws.FnDatesTight', WHERE WHAT IT READS IS OF BULK AT MOST 1048576: true; the input reads as it did. -/
def fnDatesTightUptoRow : OpenClaim := { program := "ytnkdpogplkomhaa", sum := "063e228a7eab726cf47f0ec3bf3c6c08d5fbcc95232eea24cdc474780526efce", func := "loop.example/excavation/laws.FnDatesTight", spec := "fnDatesTight", unfollowed := true, recurses := true, apart := false, narrowed := true }
def FnDatesTightUptoSaid : Prop := fnDatesTightUptoRow.holds Try.pinned (OpenSpec.upto fnDatesTightSpec)

/-- 'laws.FnDatesFit', WHERE WHAT IT READS IS OF BULK AT MOST 1048576: true; the input reads as it did. -/
def fnDatesFitUptoRow : OpenClaim := { program := "ytnkdpogplkomhaa", sum := "063e228a7eab726cf47f0ec3bf3c6c08d5fbcc95232eea24cdc474780526efce", func := "loop.example/excavation/laws.FnDatesFit", spec := "fnDatesFit", unfollowed := true, recurses := true, apart := false, narrowed := true }
def FnDatesFitUptoSaid : Prop := fnDatesFitUptoRow.holds Try.pinned (OpenSpec.upto fnDatesFitSpec)

/-- 'laws.FnEarliest', WHERE WHAT IT READS IS OF BULK AT MOST 1048576: true; the input reads as it did. -/
def fnEarliestUptoRow : OpenClaim := { program := "ytnkdpogplkomhaa", sum := "063e228a7eab726cf47f0ec3bf3c6c08d5fbcc95232eea24cdc474780526efce", func := "loop.example/excavation/laws.FnEarliest", spec := "fnEarliest", unfollowed := true, recurses := true, apart := false, narrowed := true }
def FnEarliestUptoSaid : Prop := fnEarliestUptoRow.holds Try.pinned (OpenSpec.upto fnEarliestSpec)

/-- 'laws.FnPhasePart', WHERE WHAT IT READS IS OF BULK AT MOST 1048576: true; the input reads as it did. -/
def fnPhasePartUptoRow : OpenClaim := { program := "ytnkdpogplkomhaa", sum := "063e228a7eab726cf47f0ec3bf3c6c08d5fbcc95232eea24cdc474780526efce", func := "loop.example/excavation/laws.FnPhasePart", spec := "fnPhasePart", unfollowed := true, recurses := true, apart := false, narrowed := true }
def FnPhasePartUptoSaid : Prop := fnPhasePartUptoRow.holds Try.pinned (OpenSpec.upto fnPhasePartSpec)

/-- 'laws.FnExactDatesFit', WHERE WHAT IT READS IS OF BULK AT MOST 1048576: true; the input reads as it did. -/
def fnExactDatesFitUptoRow : OpenClaim := { program := "ytnkdpogplkomhaa", sum := "063e228a7eab726cf47f0ec3bf3c6c08d5fbcc95232eea24cdc474780526efce", func := "loop.example/excavation/laws.FnExactDatesFit", spec := "fnExactDatesFit", unfollowed := true, recurses := true, apart := false, narrowed := true }
def FnExactDatesFitUptoSaid : Prop := fnExactDatesFitUptoRow.holds Try.pinned (OpenSpec.upto fnExactDatesFitSpec)

/-- 'laws.FnExactPhaseValid', WHERE WHAT IT READS IS OF BULK AT MOST 1048576: true; the input reads as it did. -/
def fnExactPhaseValidUptoRow : OpenClaim := { program := "ytnkdpogplkomhaa", sum := "063e228a7eab726cf47f0ec3bf3c6c08d5fbcc95232eea24cdc474780526efce", func := "loop.example/excavation/laws.FnExactPhaseValid", spec := "fnExactPhaseValid", unfollowed := true, recurses := true, apart := false, narrowed := true }
def FnExactPhaseValidUptoSaid : Prop := fnExactPhaseValidUptoRow.holds Try.pinned (OpenSpec.upto fnExactPhaseValidSpec)

end Rows
end Go.Proofs.Ytnkdpogplkomhaa
