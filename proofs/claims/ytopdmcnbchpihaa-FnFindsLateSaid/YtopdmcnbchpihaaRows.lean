/-
  No cell of these rows narrows 'for every input' (looked for: loops, veiled, ifaces, maps, wideKeys, modest, calm, conditions, laid).
  DERIVED. THE GIVEN ROWS OF THIS SEAT. 13 by the template 'for every input the law returns true; each argument reads behind the call as it read before'; 0 by the template 'total and deterministic' (their statements: YtopdmcnbchpihaaTotals.lean).
  GIVEN WITH THE SEED: the statements are not yours to turn. If you find one false, say at which input.
  Laid BY PROGRAM, IN A SANDBOX (cutbox-rows.mjs): the forced cells as the released guide's own fill.sh prints them over the translation 54c44a31ea21f44c… (all of the seat's roots in one cut). By AI agents, Wed Nov 11 2026. No macro, syntax, notation, axiom, sorry.
-/
import Derived.Test.YtopdmcnbchpihaaChecked
import GoSem.Claim
import GoSem.ClaimJoined
import GoSem.ClaimMapViews
import Derived.JoinedTies
import Derived.KernelRfl
namespace Go.Proofs.Ytopdmcnbchpihaa
/- THE CELL 'sum', in the pinned program and in every row, IS THE sha256 OF THE DUMP (.gsa) THAT YtopdmcnbchpihaaProg.lean LOADS. Nothing in Lean hashes anything: it is a label: what it is worth is what the hold of that sum in a sandbox is worth. -/
noncomputable def Try.pinned : Pinned := { name := "ytopdmcnbchpihaa", sum := "54c44a31ea21f44c4f4359039356f99f669e587e643a651f16cb713e6f85eacf", checked := Try.checked }
namespace Rows
def none {H : Type} : Left H := { results := [], args := [] }

/-- 'laws.FnFindsBounds': WHATEVER THE INPUT: true; the input reads as it did. -/
def fnFindsBoundsSpec : ChangeSpec := { name := "fnFindsBounds", fn := fun _ => fun
  | [d] => { results := [.lit (.bool true)], args := [d] }
  | _ => none }
def fnFindsBoundsRow : OpenClaim := { program := "ytopdmcnbchpihaa", sum := "54c44a31ea21f44c4f4359039356f99f669e587e643a651f16cb713e6f85eacf", func := "loop.example/excavation/laws.FnFindsBounds", spec := "fnFindsBounds", unfollowed := true, recurses := true, apart := false }
def FnFindsBoundsSaid : Prop := fnFindsBoundsRow.holds Try.pinned (OpenSpec.ofChange fnFindsBoundsSpec)

/-- ITS FALSE NEIGHBOUR: 'it returns false'. Refute it at one input. -/
def fnFindsBoundsWrong : ChangeSpec := { name := "fnFindsBounds", fn := fun _ => fun
  | [d] => { results := [.lit (.bool false)], args := [d] }
  | _ => none }
def FnFindsBoundsWrongFalsely : Prop := fnFindsBoundsRow.holds Try.pinned (OpenSpec.ofChange fnFindsBoundsWrong)

/-- 'laws.FnFindsBoundsAll': WHATEVER THE INPUT: true; the input reads as it did. -/
def fnFindsBoundsAllSpec : ChangeSpec := { name := "fnFindsBoundsAll", fn := fun _ => fun
  | [d] => { results := [.lit (.bool true)], args := [d] }
  | _ => none }
def fnFindsBoundsAllRow : OpenClaim := { program := "ytopdmcnbchpihaa", sum := "54c44a31ea21f44c4f4359039356f99f669e587e643a651f16cb713e6f85eacf", func := "loop.example/excavation/laws.FnFindsBoundsAll", spec := "fnFindsBoundsAll", unfollowed := true, recurses := true, apart := false }
def FnFindsBoundsAllSaid : Prop := fnFindsBoundsAllRow.holds Try.pinned (OpenSpec.ofChange fnFindsBoundsAllSpec)

/-- ITS FALSE NEIGHBOUR: 'it returns false'. Refute it at one input. -/
def fnFindsBoundsAllWrong : ChangeSpec := { name := "fnFindsBoundsAll", fn := fun _ => fun
  | [d] => { results := [.lit (.bool false)], args := [d] }
  | _ => none }
def FnFindsBoundsAllWrongFalsely : Prop := fnFindsBoundsAllRow.holds Try.pinned (OpenSpec.ofChange fnFindsBoundsAllWrong)

/-- 'laws.FnFindsTable': WHATEVER THE INPUT: true; the input reads as it did. -/
def fnFindsTableSpec : ChangeSpec := { name := "fnFindsTable", fn := fun _ => fun
  | [d] => { results := [.lit (.bool true)], args := [d] }
  | _ => none }
def fnFindsTableRow : OpenClaim := { program := "ytopdmcnbchpihaa", sum := "54c44a31ea21f44c4f4359039356f99f669e587e643a651f16cb713e6f85eacf", func := "loop.example/excavation/laws.FnFindsTable", spec := "fnFindsTable", apart := false }
def FnFindsTableSaid : Prop := fnFindsTableRow.holds Try.pinned (OpenSpec.ofChange fnFindsTableSpec)

/-- ITS FALSE NEIGHBOUR: 'it returns false'. Refute it at one input. -/
def fnFindsTableWrong : ChangeSpec := { name := "fnFindsTable", fn := fun _ => fun
  | [d] => { results := [.lit (.bool false)], args := [d] }
  | _ => none }
def FnFindsTableWrongFalsely : Prop := fnFindsTableRow.holds Try.pinned (OpenSpec.ofChange fnFindsTableWrong)

/-- 'laws.FnFindsTableTurned': WHATEVER THE INPUT: true; the input reads as it did. -/
def fnFindsTableTurnedSpec : ChangeSpec := { name := "fnFindsTableTurned", fn := fun _ => fun
  | [d] => { results := [.lit (.bool true)], args := [d] }
  | _ => none }
def fnFindsTableTurnedRow : OpenClaim := { program := "ytopdmcnbchpihaa", sum := "54c44a31ea21f44c4f4359039356f99f669e587e643a651f16cb713e6f85eacf", func := "loop.example/excavation/laws.FnFindsTableTurned", spec := "fnFindsTableTurned", apart := false }
def FnFindsTableTurnedSaid : Prop := fnFindsTableTurnedRow.holds Try.pinned (OpenSpec.ofChange fnFindsTableTurnedSpec)

/-- ITS FALSE NEIGHBOUR: 'it returns false'. Refute it at one input. -/
def fnFindsTableTurnedWrong : ChangeSpec := { name := "fnFindsTableTurned", fn := fun _ => fun
  | [d] => { results := [.lit (.bool false)], args := [d] }
  | _ => none }
def FnFindsTableTurnedWrongFalsely : Prop := fnFindsTableTurnedRow.holds Try.pinned (OpenSpec.ofChange fnFindsTableTurnedWrong)

/-- 'laws.FnFindsLate': WHATEVER THE INPUT: true; the input reads as it did. -/
def fnFindsLateSpec : ChangeSpec := { name := "fnFindsLate", fn := fun _ => fun
  | [d] => { results := [.lit (.bool true)], args := [d] }
  | _ => none }
def fnFindsLateRow : OpenClaim := { program := "ytopdmcnbchpihaa", sum := "54c44a31ea21f44c4f4359039356f99f669e587e643a651f16cb713e6f85eacf", func := "loop.example/excavation/laws.FnFindsLate", spec := "fnFindsLate", unfollowed := true, recurses := true, apart := false }
def FnFindsLateSaid : Prop := fnFindsLateRow.holds Try.pinned (OpenSpec.ofChange fnFindsLateSpec)

/-- ITS FALSE NEIGHBOUR: 'it returns false'. Refute it at one input. -/
def fnFindsLateWrong : ChangeSpec := { name := "fnFindsLate", fn := fun _ => fun
  | [d] => { results := [.lit (.bool false)], args := [d] }
  | _ => none }
def FnFindsLateWrongFalsely : Prop := fnFindsLateRow.holds Try.pinned (OpenSpec.ofChange fnFindsLateWrong)

/-- 'laws.FnFindsLateBound': WHATEVER THE INPUT: true; the input reads as it did. -/
def fnFindsLateBoundSpec : ChangeSpec := { name := "fnFindsLateBound", fn := fun _ => fun
  | [d1, d2] => { results := [.lit (.bool true)], args := [d1, d2] }
  | _ => none }
def fnFindsLateBoundRow : OpenClaim := { program := "ytopdmcnbchpihaa", sum := "54c44a31ea21f44c4f4359039356f99f669e587e643a651f16cb713e6f85eacf", func := "loop.example/excavation/laws.FnFindsLateBound", spec := "fnFindsLateBound", unfollowed := true, recurses := true, apart := false }
def FnFindsLateBoundSaid : Prop := fnFindsLateBoundRow.holds Try.pinned (OpenSpec.ofChange fnFindsLateBoundSpec)

/-- ITS FALSE NEIGHBOUR: 'it returns false'. Refute it at one input. -/
def fnFindsLateBoundWrong : ChangeSpec := { name := "fnFindsLateBound", fn := fun _ => fun
  | [d1, d2] => { results := [.lit (.bool false)], args := [d1, d2] }
  | _ => none }
def FnFindsLateBoundWrongFalsely : Prop := fnFindsLateBoundRow.holds Try.pinned (OpenSpec.ofChange fnFindsLateBoundWrong)

/-- 'laws.FnFindsOld': WHATEVER THE INPUT: true; the input reads as it did. -/
def fnFindsOldSpec : ChangeSpec := { name := "fnFindsOld", fn := fun _ => fun
  | [d] => { results := [.lit (.bool true)], args := [d] }
  | _ => none }
def fnFindsOldRow : OpenClaim := { program := "ytopdmcnbchpihaa", sum := "54c44a31ea21f44c4f4359039356f99f669e587e643a651f16cb713e6f85eacf", func := "loop.example/excavation/laws.FnFindsOld", spec := "fnFindsOld", recurses := true, apart := false }
def FnFindsOldSaid : Prop := fnFindsOldRow.holds Try.pinned (OpenSpec.ofChange fnFindsOldSpec)

/-- ITS FALSE NEIGHBOUR: 'it returns false'. Refute it at one input. -/
def fnFindsOldWrong : ChangeSpec := { name := "fnFindsOld", fn := fun _ => fun
  | [d] => { results := [.lit (.bool false)], args := [d] }
  | _ => none }
def FnFindsOldWrongFalsely : Prop := fnFindsOldRow.holds Try.pinned (OpenSpec.ofChange fnFindsOldWrong)

/-- 'laws.FnFindsPart': WHATEVER THE INPUT: true; the input reads as it did. -/
def fnFindsPartSpec : ChangeSpec := { name := "fnFindsPart", fn := fun _ => fun
  | [d1, d2] => { results := [.lit (.bool true)], args := [d1, d2] }
  | _ => none }
def fnFindsPartRow : OpenClaim := { program := "ytopdmcnbchpihaa", sum := "54c44a31ea21f44c4f4359039356f99f669e587e643a651f16cb713e6f85eacf", func := "loop.example/excavation/laws.FnFindsPart", spec := "fnFindsPart", apart := false }
def FnFindsPartSaid : Prop := fnFindsPartRow.holds Try.pinned (OpenSpec.ofChange fnFindsPartSpec)

/-- ITS FALSE NEIGHBOUR: 'it returns false'. Refute it at one input. -/
def fnFindsPartWrong : ChangeSpec := { name := "fnFindsPart", fn := fun _ => fun
  | [d1, d2] => { results := [.lit (.bool false)], args := [d1, d2] }
  | _ => none }
def FnFindsPartWrongFalsely : Prop := fnFindsPartRow.holds Try.pinned (OpenSpec.ofChange fnFindsPartWrong)

/-- 'laws.FnExactFindsValid': WHATEVER THE INPUT: true; the input reads as it did. -/
def fnExactFindsValidSpec : ChangeSpec := { name := "fnExactFindsValid", fn := fun _ => fun
  | [d] => { results := [.lit (.bool true)], args := [d] }
  | _ => none }
def fnExactFindsValidRow : OpenClaim := { program := "ytopdmcnbchpihaa", sum := "54c44a31ea21f44c4f4359039356f99f669e587e643a651f16cb713e6f85eacf", func := "loop.example/excavation/laws.FnExactFindsValid", spec := "fnExactFindsValid", apart := false }
def FnExactFindsValidSaid : Prop := fnExactFindsValidRow.holds Try.pinned (OpenSpec.ofChange fnExactFindsValidSpec)

/-- ITS FALSE NEIGHBOUR: 'it returns false'. Refute it at one input. -/
def fnExactFindsValidWrong : ChangeSpec := { name := "fnExactFindsValid", fn := fun _ => fun
  | [d] => { results := [.lit (.bool false)], args := [d] }
  | _ => none }
def FnExactFindsValidWrongFalsely : Prop := fnExactFindsValidRow.holds Try.pinned (OpenSpec.ofChange fnExactFindsValidWrong)

/-- 'laws.FnExactFindsBounds': WHATEVER THE INPUT: true; the input reads as it did. -/
def fnExactFindsBoundsSpec : ChangeSpec := { name := "fnExactFindsBounds", fn := fun _ => fun
  | [d] => { results := [.lit (.bool true)], args := [d] }
  | _ => none }
def fnExactFindsBoundsRow : OpenClaim := { program := "ytopdmcnbchpihaa", sum := "54c44a31ea21f44c4f4359039356f99f669e587e643a651f16cb713e6f85eacf", func := "loop.example/excavation/laws.FnExactFindsBounds", spec := "fnExactFindsBounds", unfollowed := true, recurses := true, apart := false }
def FnExactFindsBoundsSaid : Prop := fnExactFindsBoundsRow.holds Try.pinned (OpenSpec.ofChange fnExactFindsBoundsSpec)

/-- ITS FALSE NEIGHBOUR: 'it returns false'. Refute it at one input. -/
def fnExactFindsBoundsWrong : ChangeSpec := { name := "fnExactFindsBounds", fn := fun _ => fun
  | [d] => { results := [.lit (.bool false)], args := [d] }
  | _ => none }
def FnExactFindsBoundsWrongFalsely : Prop := fnExactFindsBoundsRow.holds Try.pinned (OpenSpec.ofChange fnExactFindsBoundsWrong)

/-- 'laws.FnExactFindsTable': WHATEVER THE INPUT: true; the input reads as it did. -/
def fnExactFindsTableSpec : ChangeSpec := { name := "fnExactFindsTable", fn := fun _ => fun
  | [d1, d2] => { results := [.lit (.bool true)], args := [d1, d2] }
  | _ => none }
def fnExactFindsTableRow : OpenClaim := { program := "ytopdmcnbchpihaa", sum := "54c44a31ea21f44c4f4359039356f99f669e587e643a651f16cb713e6f85eacf", func := "loop.example/excavation/laws.FnExactFindsTable", spec := "fnExactFindsTable", apart := false }
def FnExactFindsTableSaid : Prop := fnExactFindsTableRow.holds Try.pinned (OpenSpec.ofChange fnExactFindsTableSpec)

/-- ITS FALSE NEIGHBOUR: 'it returns false'. Refute it at one input. -/
def fnExactFindsTableWrong : ChangeSpec := { name := "fnExactFindsTable", fn := fun _ => fun
  | [d1, d2] => { results := [.lit (.bool false)], args := [d1, d2] }
  | _ => none }
def FnExactFindsTableWrongFalsely : Prop := fnExactFindsTableRow.holds Try.pinned (OpenSpec.ofChange fnExactFindsTableWrong)

/-- 'laws.FnExactFindsLate': WHATEVER THE INPUT: true; the input reads as it did. -/
def fnExactFindsLateSpec : ChangeSpec := { name := "fnExactFindsLate", fn := fun _ => fun
  | [d1, d2, d3, d4] => { results := [.lit (.bool true)], args := [d1, d2, d3, d4] }
  | _ => none }
def fnExactFindsLateRow : OpenClaim := { program := "ytopdmcnbchpihaa", sum := "54c44a31ea21f44c4f4359039356f99f669e587e643a651f16cb713e6f85eacf", func := "loop.example/excavation/laws.FnExactFindsLate", spec := "fnExactFindsLate", unfollowed := true, recurses := true, apart := false }
def FnExactFindsLateSaid : Prop := fnExactFindsLateRow.holds Try.pinned (OpenSpec.ofChange fnExactFindsLateSpec)

/-- ITS FALSE NEIGHBOUR: 'it returns false'. Refute it at one input. -/
def fnExactFindsLateWrong : ChangeSpec := { name := "fnExactFindsLate", fn := fun _ => fun
  | [d1, d2, d3, d4] => { results := [.lit (.bool false)], args := [d1, d2, d3, d4] }
  | _ => none }
def FnExactFindsLateWrongFalsely : Prop := fnExactFindsLateRow.holds Try.pinned (OpenSpec.ofChange fnExactFindsLateWrong)

/-- 'laws.FnExactFindsOld': WHATEVER THE INPUT: true; the input reads as it did. -/
def fnExactFindsOldSpec : ChangeSpec := { name := "fnExactFindsOld", fn := fun _ => fun
  | [d1, d2, d3] => { results := [.lit (.bool true)], args := [d1, d2, d3] }
  | _ => none }
def fnExactFindsOldRow : OpenClaim := { program := "ytopdmcnbchpihaa", sum := "54c44a31ea21f44c4f4359039356f99f669e587e643a651f16cb713e6f85eacf", func := "loop.example/excavation/laws.FnExactFindsOld", spec := "fnExactFindsOld", recurses := true, apart := false }
def FnExactFindsOldSaid : Prop := fnExactFindsOldRow.holds Try.pinned (OpenSpec.ofChange fnExactFindsOldSpec)

/-- ITS FALSE NEIGHBOUR: 'it returns false'. Refute it at one input. -/
def fnExactFindsOldWrong : ChangeSpec := { name := "fnExactFindsOld", fn := fun _ => fun
  | [d1, d2, d3] => { results := [.lit (.bool false)], args := [d1, d2, d3] }
  | _ => none }
def FnExactFindsOldWrongFalsely : Prop := fnExactFindsOldRow.holds Try.pinned (OpenSpec.ofChange fnExactFindsOldWrong)

/- THE SECOND FORM. 'bulk': how many values and letters a reading holds, each counted each time it is reached (what is shared counts as often as it is met; a slice's spare places count too). A statement '..UptoSaid' is the law's where the arguments, and the package variables that the reading takes, are together of bulk at most 1048576: NARROWER than '..Said'. Prove '..Said' where nothing that the law and all that it calls make is longer than what came in: it says more and counts as full. Else prove '..UptoSaid'. A law counts once. -/
mutual
def uptoBulk {H : Type} : DataW H → Nat
  | .lit (.string bytes) => bytes.length + 1
  | .lit _ => 1
  | .nil => 1
  | .ptr d => uptoBulk d + 1
  | .slice elems spare => uptoBulkAll elems + uptoBulkAll spare + 1
  | .agg parts => uptoBulkAll parts + 1
  | .iface _ d => uptoBulk d + 1
  | .map entries => uptoBulkEntries entries + 1
  | .held _ => 1
def uptoBulkAll {H : Type} : List (DataW H) → Nat
  | [] => 0
  | d :: r => uptoBulk d + uptoBulkAll r
def uptoBulkEntries {H : Type} : List (Lit × DataW H) → Nat
  | [] => 0
  | x :: r => uptoBulkEntry x + uptoBulkEntries r
def uptoBulkEntry {H : Type} : Lit × DataW H → Nat
  | (.string bytes, d) => bytes.length + uptoBulk d + 1
  | (_, d) => uptoBulk d + 1
 end
def uptoSmall : (H : Type) → List (DataW H) → Bool := fun _ ds => decide (uptoBulkAll ds ≤ 1048576)
def OpenSpec.upto (s : _root_.Go.ChangeSpec) : _root_.Go.OpenSpec := { _root_.Go.OpenSpec.ofChange s with cond := some uptoSmall }

/-- 'laws.FnFindsBounds', WHERE WHAT IT READS IS OF BULK AT MOST 1048576: true; the input reads as it did. -/
def fnFindsBoundsUptoRow : OpenClaim := { program := "ytopdmcnbchpihaa", sum := "54c44a31ea21f44c4f4359039356f99f669e587e643a651f16cb713e6f85eacf", func := "loop.example/excavation/laws.FnFindsBounds", spec := "fnFindsBounds", unfollowed := true, recurses := true, apart := false, narrowed := true }
def FnFindsBoundsUptoSaid : Prop := fnFindsBoundsUptoRow.holds Try.pinned (OpenSpec.upto fnFindsBoundsSpec)

/-- 'laws.FnFindsBoundsAll', WHERE WHAT IT READS IS OF BULK AT MOST 1048576: true; the input reads as it did. -/
def fnFindsBoundsAllUptoRow : OpenClaim := { program := "ytopdmcnbchpihaa", sum := "54c44a31ea21f44c4f4359039356f99f669e587e643a651f16cb713e6f85eacf", func := "loop.example/excavation/laws.FnFindsBoundsAll", spec := "fnFindsBoundsAll", unfollowed := true, recurses := true, apart := false, narrowed := true }
def FnFindsBoundsAllUptoSaid : Prop := fnFindsBoundsAllUptoRow.holds Try.pinned (OpenSpec.upto fnFindsBoundsAllSpec)

/-- 'laws.FnFindsTable', WHERE WHAT IT READS IS OF BULK AT MOST 1048576: true; the input reads as it did. -/
def fnFindsTableUptoRow : OpenClaim := { program := "ytopdmcnbchpihaa", sum := "54c44a31ea21f44c4f4359039356f99f669e587e643a651f16cb713e6f85eacf", func := "loop.example/excavation/laws.FnFindsTable", spec := "fnFindsTable", apart := false, narrowed := true }
def FnFindsTableUptoSaid : Prop := fnFindsTableUptoRow.holds Try.pinned (OpenSpec.upto fnFindsTableSpec)

/-- 'laws.FnFindsTableTurned', WHERE WHAT IT READS IS OF BULK AT MOST 1048576: true; the input reads as it did. -/
def fnFindsTableTurnedUptoRow : OpenClaim := { program := "ytopdmcnbchpihaa", sum := "54c44a31ea21f44c4f4359039356f99f669e587e643a651f16cb713e6f85eacf", func := "loop.example/excavation/laws.FnFindsTableTurned", spec := "fnFindsTableTurned", apart := false, narrowed := true }
def FnFindsTableTurnedUptoSaid : Prop := fnFindsTableTurnedUptoRow.holds Try.pinned (OpenSpec.upto fnFindsTableTurnedSpec)

/-- 'laws.FnFindsLate', WHERE WHAT IT READS IS OF BULK AT MOST 1048576: true; the input reads as it did. -/
def fnFindsLateUptoRow : OpenClaim := { program := "ytopdmcnbchpihaa", sum := "54c44a31ea21f44c4f4359039356f99f669e587e643a651f16cb713e6f85eacf", func := "loop.example/excavation/laws.FnFindsLate", spec := "fnFindsLate", unfollowed := true, recurses := true, apart := false, narrowed := true }
def FnFindsLateUptoSaid : Prop := fnFindsLateUptoRow.holds Try.pinned (OpenSpec.upto fnFindsLateSpec)

/-- 'laws.FnFindsLateBound', WHERE WHAT IT READS IS OF BULK AT MOST 1048576: true; the input reads as it did. -/
def fnFindsLateBoundUptoRow : OpenClaim := { program := "ytopdmcnbchpihaa", sum := "54c44a31ea21f44c4f4359039356f99f669e587e643a651f16cb713e6f85eacf", func := "loop.example/excavation/laws.FnFindsLateBound", spec := "fnFindsLateBound", unfollowed := true, recurses := true, apart := false, narrowed := true }
def FnFindsLateBoundUptoSaid : Prop := fnFindsLateBoundUptoRow.holds Try.pinned (OpenSpec.upto fnFindsLateBoundSpec)

/-- 'laws.FnFindsOld', WHERE WHAT IT READS IS OF BULK AT MOST 1048576: true; the input reads as it did. -/
def fnFindsOldUptoRow : OpenClaim := { program := "ytopdmcnbchpihaa", sum := "54c44a31ea21f44c4f4359039356f99f669e587e643a651f16cb713e6f85eacf", func := "loop.example/excavation/laws.FnFindsOld", spec := "fnFindsOld", recurses := true, apart := false, narrowed := true }
def FnFindsOldUptoSaid : Prop := fnFindsOldUptoRow.holds Try.pinned (OpenSpec.upto fnFindsOldSpec)

/-- 'laws.FnFindsPart', WHERE WHAT IT READS IS OF BULK AT MOST 1048576: true; the input reads as it did. -/
def fnFindsPartUptoRow : OpenClaim := { program := "ytopdmcnbchpihaa", sum := "54c44a31ea21f44c4f4359039356f99f669e587e643a651f16cb713e6f85eacf", func := "loop.example/excavation/laws.FnFindsPart", spec := "fnFindsPart", apart := false, narrowed := true }
def FnFindsPartUptoSaid : Prop := fnFindsPartUptoRow.holds Try.pinned (OpenSpec.upto fnFindsPartSpec)

/-- 'laws.FnExactFindsValid', WHERE WHAT IT READS IS OF BULK AT MOST 1048576: true; the input reads as it did. -/
def fnExactFindsValidUptoRow : OpenClaim := { program := "ytopdmcnbchpihaa", sum := "54c44a31ea21f44c4f4359039356f99f669e587e643a651f16cb713e6f85eacf", func := "loop.example/excavation/laws.FnExactFindsValid", spec := "fnExactFindsValid", apart := false, narrowed := true }
def FnExactFindsValidUptoSaid : Prop := fnExactFindsValidUptoRow.holds Try.pinned (OpenSpec.upto fnExactFindsValidSpec)

/-- 'laws.FnExactFindsBounds', WHERE WHAT IT READS IS OF BULK AT MOST 1048576: true; the input reads as it did. -/
def fnExactFindsBoundsUptoRow : OpenClaim := { program := "ytopdmcnbchpihaa", sum := "54c44a31ea21f44c4f4359039356f99f669e587e643a651f16cb713e6f85eacf", func := "loop.example/excavation/laws.FnExactFindsBounds", spec := "fnExactFindsBounds", unfollowed := true, recurses := true, apart := false, narrowed := true }
def FnExactFindsBoundsUptoSaid : Prop := fnExactFindsBoundsUptoRow.holds Try.pinned (OpenSpec.upto fnExactFindsBoundsSpec)

/-- 'laws.FnExactFindsTable', WHERE WHAT IT READS IS OF BULK AT MOST 1048576: true; the input reads as it did. -/
def fnExactFindsTableUptoRow : OpenClaim := { program := "ytopdmcnbchpihaa", sum := "54c44a31ea21f44c4f4359039356f99f669e587e643a651f16cb713e6f85eacf", func := "loop.example/excavation/laws.FnExactFindsTable", spec := "fnExactFindsTable", apart := false, narrowed := true }
def FnExactFindsTableUptoSaid : Prop := fnExactFindsTableUptoRow.holds Try.pinned (OpenSpec.upto fnExactFindsTableSpec)

/-- 'laws.FnExactFindsLate', WHERE WHAT IT READS IS OF BULK AT MOST 1048576: true; the input reads as it did. -/
def fnExactFindsLateUptoRow : OpenClaim := { program := "ytopdmcnbchpihaa", sum := "54c44a31ea21f44c4f4359039356f99f669e587e643a651f16cb713e6f85eacf", func := "loop.example/excavation/laws.FnExactFindsLate", spec := "fnExactFindsLate", unfollowed := true, recurses := true, apart := false, narrowed := true }
def FnExactFindsLateUptoSaid : Prop := fnExactFindsLateUptoRow.holds Try.pinned (OpenSpec.upto fnExactFindsLateSpec)

/-- 'laws.FnExactFindsOld', WHERE WHAT IT READS IS OF BULK AT MOST 1048576: true; the input reads as it did. -/
def fnExactFindsOldUptoRow : OpenClaim := { program := "ytopdmcnbchpihaa", sum := "54c44a31ea21f44c4f4359039356f99f669e587e643a651f16cb713e6f85eacf", func := "loop.example/excavation/laws.FnExactFindsOld", spec := "fnExactFindsOld", recurses := true, apart := false, narrowed := true }
def FnExactFindsOldUptoSaid : Prop := fnExactFindsOldUptoRow.holds Try.pinned (OpenSpec.upto fnExactFindsOldSpec)

end Rows
end Go.Proofs.Ytopdmcnbchpihaa
