/-
  No cell of these rows narrows 'for every input' (looked for: loops, veiled, ifaces, maps, wideKeys, modest, calm, conditions, laid).
  DERIVED. THE GIVEN ROWS OF THIS SEAT. 10 by the template 'for every input the law returns true; each argument reads behind the call as it read before'; 0 by the template 'total and deterministic' (their statements: YtjmbbepklofodaaTotals.lean).
  GIVEN WITH THE SEED: the statements are not yours to turn. If you find one false, say at which input.
  Laid BY PROGRAM, IN A SANDBOX (cutbox-rows.mjs): the forced cells as the released guide's own fill.sh prints them over the translation 9a2ae20c59bf32b0… (all of the seat's roots in one cut). By AI agents, Wed Nov 11 2026. No macro, syntax, notation, axiom, sorry.
-/
import Derived.Test.YtjmbbepklofodaaChecked
import GoSem.Claim
import GoSem.ClaimJoined
import GoSem.ClaimMapViews
import Derived.JoinedTies
import Derived.KernelRfl
namespace Go.Proofs.Ytjmbbepklofodaa
/- THE CELL 'sum', in the pinned program and in every row, IS THE sha256 OF THE DUMP (.gsa) THAT YtjmbbepklofodaaProg.lean LOADS. Nothing in Lean hashes anything: it is a label: what it is worth is what the hold of that sum in a sandbox is worth. -/
noncomputable def Try.pinned : Pinned := { name := "ytjmbbepklofodaa", sum := "9a2ae20c59bf32b025b780c2e029f53ae8f4ec14b6f8d838d3c6b348495b85b4", checked := Try.checked }
namespace Rows
def none {H : Type} : Left H := { results := [], args := [] }

/-- 'laws.FnBoundsOf': WHATEVER THE INPUT: true; the input reads as it did. -/
def fnBoundsOfSpec : ChangeSpec := { name := "fnBoundsOf", fn := fun _ => fun
  | [d] => { results := [.lit (.bool true)], args := [d] }
  | _ => none }
def fnBoundsOfRow : OpenClaim := { program := "ytjmbbepklofodaa", sum := "9a2ae20c59bf32b025b780c2e029f53ae8f4ec14b6f8d838d3c6b348495b85b4", func := "loop.example/excavation/laws.FnBoundsOf", spec := "fnBoundsOf", unfollowed := true, recurses := true, apart := false }
def FnBoundsOfSaid : Prop := fnBoundsOfRow.holds Try.pinned (OpenSpec.ofChange fnBoundsOfSpec)

/-- ITS FALSE NEIGHBOUR: 'it returns false'. Refute it at one input. -/
def fnBoundsOfWrong : ChangeSpec := { name := "fnBoundsOf", fn := fun _ => fun
  | [d] => { results := [.lit (.bool false)], args := [d] }
  | _ => none }
def FnBoundsOfWrongFalsely : Prop := fnBoundsOfRow.holds Try.pinned (OpenSpec.ofChange fnBoundsOfWrong)

/-- 'laws.FnBoundsNone': WHATEVER THE INPUT: true; the input reads as it did. -/
def fnBoundsNoneSpec : ChangeSpec := { name := "fnBoundsNone", fn := fun _ => fun
  | [d] => { results := [.lit (.bool true)], args := [d] }
  | _ => none }
def fnBoundsNoneRow : OpenClaim := { program := "ytjmbbepklofodaa", sum := "9a2ae20c59bf32b025b780c2e029f53ae8f4ec14b6f8d838d3c6b348495b85b4", func := "loop.example/excavation/laws.FnBoundsNone", spec := "fnBoundsNone", unfollowed := true, recurses := true, apart := false }
def FnBoundsNoneSaid : Prop := fnBoundsNoneRow.holds Try.pinned (OpenSpec.ofChange fnBoundsNoneSpec)

/-- ITS FALSE NEIGHBOUR: 'it returns false'. Refute it at one input. -/
def fnBoundsNoneWrong : ChangeSpec := { name := "fnBoundsNone", fn := fun _ => fun
  | [d] => { results := [.lit (.bool false)], args := [d] }
  | _ => none }
def FnBoundsNoneWrongFalsely : Prop := fnBoundsNoneRow.holds Try.pinned (OpenSpec.ofChange fnBoundsNoneWrong)

/-- 'laws.FnBoundsAdd': WHATEVER THE INPUT: true; the input reads as it did. -/
def fnBoundsAddSpec : ChangeSpec := { name := "fnBoundsAdd", fn := fun _ => fun
  | [d] => { results := [.lit (.bool true)], args := [d] }
  | _ => none }
def fnBoundsAddRow : OpenClaim := { program := "ytjmbbepklofodaa", sum := "9a2ae20c59bf32b025b780c2e029f53ae8f4ec14b6f8d838d3c6b348495b85b4", func := "loop.example/excavation/laws.FnBoundsAdd", spec := "fnBoundsAdd", unfollowed := true, recurses := true, apart := false }
def FnBoundsAddSaid : Prop := fnBoundsAddRow.holds Try.pinned (OpenSpec.ofChange fnBoundsAddSpec)

/-- ITS FALSE NEIGHBOUR: 'it returns false'. Refute it at one input. -/
def fnBoundsAddWrong : ChangeSpec := { name := "fnBoundsAdd", fn := fun _ => fun
  | [d] => { results := [.lit (.bool false)], args := [d] }
  | _ => none }
def FnBoundsAddWrongFalsely : Prop := fnBoundsAddRow.holds Try.pinned (OpenSpec.ofChange fnBoundsAddWrong)

/-- 'laws.FnBoundsFull': WHATEVER THE INPUT: true; the input reads as it did. -/
def fnBoundsFullSpec : ChangeSpec := { name := "fnBoundsFull", fn := fun _ => fun
  | [d] => { results := [.lit (.bool true)], args := [d] }
  | _ => none }
def fnBoundsFullRow : OpenClaim := { program := "ytjmbbepklofodaa", sum := "9a2ae20c59bf32b025b780c2e029f53ae8f4ec14b6f8d838d3c6b348495b85b4", func := "loop.example/excavation/laws.FnBoundsFull", spec := "fnBoundsFull", unfollowed := true, recurses := true, apart := false }
def FnBoundsFullSaid : Prop := fnBoundsFullRow.holds Try.pinned (OpenSpec.ofChange fnBoundsFullSpec)

/-- ITS FALSE NEIGHBOUR: 'it returns false'. Refute it at one input. -/
def fnBoundsFullWrong : ChangeSpec := { name := "fnBoundsFull", fn := fun _ => fun
  | [d] => { results := [.lit (.bool false)], args := [d] }
  | _ => none }
def FnBoundsFullWrongFalsely : Prop := fnBoundsFullRow.holds Try.pinned (OpenSpec.ofChange fnBoundsFullWrong)

/-- 'laws.FnBoundsPart': WHATEVER THE INPUT: true; the input reads as it did. -/
def fnBoundsPartSpec : ChangeSpec := { name := "fnBoundsPart", fn := fun _ => fun
  | [d1, d2] => { results := [.lit (.bool true)], args := [d1, d2] }
  | _ => none }
def fnBoundsPartRow : OpenClaim := { program := "ytjmbbepklofodaa", sum := "9a2ae20c59bf32b025b780c2e029f53ae8f4ec14b6f8d838d3c6b348495b85b4", func := "loop.example/excavation/laws.FnBoundsPart", spec := "fnBoundsPart", unfollowed := true, recurses := true, apart := false }
def FnBoundsPartSaid : Prop := fnBoundsPartRow.holds Try.pinned (OpenSpec.ofChange fnBoundsPartSpec)

/-- ITS FALSE NEIGHBOUR: 'it returns false'. Refute it at one input. -/
def fnBoundsPartWrong : ChangeSpec := { name := "fnBoundsPart", fn := fun _ => fun
  | [d1, d2] => { results := [.lit (.bool false)], args := [d1, d2] }
  | _ => none }
def FnBoundsPartWrongFalsely : Prop := fnBoundsPartRow.holds Try.pinned (OpenSpec.ofChange fnBoundsPartWrong)

/-- 'laws.FnFindBound': WHATEVER THE INPUT: true; the input reads as it did. -/
def fnFindBoundSpec : ChangeSpec := { name := "fnFindBound", fn := fun _ => fun
  | [d] => { results := [.lit (.bool true)], args := [d] }
  | _ => none }
def fnFindBoundRow : OpenClaim := { program := "ytjmbbepklofodaa", sum := "9a2ae20c59bf32b025b780c2e029f53ae8f4ec14b6f8d838d3c6b348495b85b4", func := "loop.example/excavation/laws.FnFindBound", spec := "fnFindBound", unfollowed := true, recurses := true, apart := false }
def FnFindBoundSaid : Prop := fnFindBoundRow.holds Try.pinned (OpenSpec.ofChange fnFindBoundSpec)

/-- ITS FALSE NEIGHBOUR: 'it returns false'. Refute it at one input. -/
def fnFindBoundWrong : ChangeSpec := { name := "fnFindBound", fn := fun _ => fun
  | [d] => { results := [.lit (.bool false)], args := [d] }
  | _ => none }
def FnFindBoundWrongFalsely : Prop := fnFindBoundRow.holds Try.pinned (OpenSpec.ofChange fnFindBoundWrong)

/-- 'laws.FnExactBoundsValid': WHATEVER THE INPUT: true; the input reads as it did. -/
def fnExactBoundsValidSpec : ChangeSpec := { name := "fnExactBoundsValid", fn := fun _ => fun
  | [d] => { results := [.lit (.bool true)], args := [d] }
  | _ => none }
def fnExactBoundsValidRow : OpenClaim := { program := "ytjmbbepklofodaa", sum := "9a2ae20c59bf32b025b780c2e029f53ae8f4ec14b6f8d838d3c6b348495b85b4", func := "loop.example/excavation/laws.FnExactBoundsValid", spec := "fnExactBoundsValid", unfollowed := true, recurses := true, apart := false }
def FnExactBoundsValidSaid : Prop := fnExactBoundsValidRow.holds Try.pinned (OpenSpec.ofChange fnExactBoundsValidSpec)

/-- ITS FALSE NEIGHBOUR: 'it returns false'. Refute it at one input. -/
def fnExactBoundsValidWrong : ChangeSpec := { name := "fnExactBoundsValid", fn := fun _ => fun
  | [d] => { results := [.lit (.bool false)], args := [d] }
  | _ => none }
def FnExactBoundsValidWrongFalsely : Prop := fnExactBoundsValidRow.holds Try.pinned (OpenSpec.ofChange fnExactBoundsValidWrong)

/-- 'laws.FnExactBoundsOf': WHATEVER THE INPUT: true; the input reads as it did. -/
def fnExactBoundsOfSpec : ChangeSpec := { name := "fnExactBoundsOf", fn := fun _ => fun
  | [d1, d2] => { results := [.lit (.bool true)], args := [d1, d2] }
  | _ => none }
def fnExactBoundsOfRow : OpenClaim := { program := "ytjmbbepklofodaa", sum := "9a2ae20c59bf32b025b780c2e029f53ae8f4ec14b6f8d838d3c6b348495b85b4", func := "loop.example/excavation/laws.FnExactBoundsOf", spec := "fnExactBoundsOf", unfollowed := true, recurses := true, apart := false }
def FnExactBoundsOfSaid : Prop := fnExactBoundsOfRow.holds Try.pinned (OpenSpec.ofChange fnExactBoundsOfSpec)

/-- ITS FALSE NEIGHBOUR: 'it returns false'. Refute it at one input. -/
def fnExactBoundsOfWrong : ChangeSpec := { name := "fnExactBoundsOf", fn := fun _ => fun
  | [d1, d2] => { results := [.lit (.bool false)], args := [d1, d2] }
  | _ => none }
def FnExactBoundsOfWrongFalsely : Prop := fnExactBoundsOfRow.holds Try.pinned (OpenSpec.ofChange fnExactBoundsOfWrong)

/-- 'laws.FnExactBoundsAdd': WHATEVER THE INPUT: true; the input reads as it did. -/
def fnExactBoundsAddSpec : ChangeSpec := { name := "fnExactBoundsAdd", fn := fun _ => fun
  | [d1, d2] => { results := [.lit (.bool true)], args := [d1, d2] }
  | _ => none }
def fnExactBoundsAddRow : OpenClaim := { program := "ytjmbbepklofodaa", sum := "9a2ae20c59bf32b025b780c2e029f53ae8f4ec14b6f8d838d3c6b348495b85b4", func := "loop.example/excavation/laws.FnExactBoundsAdd", spec := "fnExactBoundsAdd", unfollowed := true, recurses := true, apart := false }
def FnExactBoundsAddSaid : Prop := fnExactBoundsAddRow.holds Try.pinned (OpenSpec.ofChange fnExactBoundsAddSpec)

/-- ITS FALSE NEIGHBOUR: 'it returns false'. Refute it at one input. -/
def fnExactBoundsAddWrong : ChangeSpec := { name := "fnExactBoundsAdd", fn := fun _ => fun
  | [d1, d2] => { results := [.lit (.bool false)], args := [d1, d2] }
  | _ => none }
def FnExactBoundsAddWrongFalsely : Prop := fnExactBoundsAddRow.holds Try.pinned (OpenSpec.ofChange fnExactBoundsAddWrong)

/-- 'laws.FnExactFindBound': WHATEVER THE INPUT: true; the input reads as it did. -/
def fnExactFindBoundSpec : ChangeSpec := { name := "fnExactFindBound", fn := fun _ => fun
  | [d1, d2] => { results := [.lit (.bool true)], args := [d1, d2] }
  | _ => none }
def fnExactFindBoundRow : OpenClaim := { program := "ytjmbbepklofodaa", sum := "9a2ae20c59bf32b025b780c2e029f53ae8f4ec14b6f8d838d3c6b348495b85b4", func := "loop.example/excavation/laws.FnExactFindBound", spec := "fnExactFindBound", unfollowed := true, recurses := true, apart := false }
def FnExactFindBoundSaid : Prop := fnExactFindBoundRow.holds Try.pinned (OpenSpec.ofChange fnExactFindBoundSpec)

/-- ITS FALSE NEIGHBOUR: 'it returns false'. Refute it at one input. -/
def fnExactFindBoundWrong : ChangeSpec := { name := "fnExactFindBound", fn := fun _ => fun
  | [d1, d2] => { results := [.lit (.bool false)], args := [d1, d2] }
  | _ => none }
def FnExactFindBoundWrongFalsely : Prop := fnExactFindBoundRow.holds Try.pinned (OpenSpec.ofChange fnExactFindBoundWrong)

/- THE SECOND FORM. 'bulk': how many values and letters a reading holds, each counted each time it is reached (what is shared counts as often as it is met; a slice's spare places count too). A statement '..UptoSaid' is the law's where the arguments, and the package variables that the reading takes, are together of bulk at most 1048576: NARROWER than '..Said'. Prove '..Said' where nothing that the law and all that it calls make is longer than what came in: it says more and counts as full. Else prove '..UptoSaid'. A law counts once. -/
mutual
def uptoBulk {H : Type} : DataW H → Nat
  | .lit (.string bytes) => bytes.length + 1
  | .lit _ => 1
  | .nil => 1
  | .ptr d => uptoBulk d + 1
  | .slice elems spare => uptoBulkAll elems + uptoBulkAll spare + 1
  | .agg parts => uptoBulkAll parts + 1
  | .iface _ d => uptoBulk d + 1
  | .map entries => uptoBulkEntries entries + 1
  | .held _ => 1
def uptoBulkAll {H : Type} : List (DataW H) → Nat
  | [] => 0
  | d :: r => uptoBulk d + uptoBulkAll r
def uptoBulkEntries {H : Type} : List (Lit × DataW H) → Nat
  | [] => 0
  | x :: r => uptoBulkEntry x + uptoBulkEntries r
def uptoBulkEntry {H : Type} : Lit × DataW H → Nat
  | (.string bytes, d) => bytes.length + uptoBulk d + 1
  | (_, d) => uptoBulk d + 1
 end
def uptoSmall : (H : Type) → List (DataW H) → Bool := fun _ ds => decide (uptoBulkAll ds ≤ 1048576)
def OpenSpec.upto (s : _root_.Go.ChangeSpec) : _root_.Go.OpenSpec := { _root_.Go.OpenSpec.ofChange s with cond := some uptoSmall }

/-- 'laws.FnBoundsOf', WHERE WHAT IT READS IS OF BULK AT MOST 1048576: true; the input reads as it did. -/
def fnBoundsOfUptoRow : OpenClaim := { program := "ytjmbbepklofodaa", sum := "9a2ae20c59bf32b025b780c2e029f53ae8f4ec14b6f8d838d3c6b348495b85b4", func := "loop.example/excavation/laws.FnBoundsOf", spec := "fnBoundsOf", unfollowed := true, recurses := true, apart := false, narrowed := true }
def FnBoundsOfUptoSaid : Prop := fnBoundsOfUptoRow.holds Try.pinned (OpenSpec.upto fnBoundsOfSpec)

/-- 'laws.FnBoundsNone', WHERE WHAT IT READS IS OF BULK AT MOST 1048576: true; the input reads as it did. -/
def fnBoundsNoneUptoRow : OpenClaim := { program := "ytjmbbepklofodaa", sum := "9a2ae20c59bf32b025b780c2e029f53ae8f4ec14b6f8d838d3c6b348495b85b4", func := "loop.example/excavation/laws.FnBoundsNone", spec := "fnBoundsNone", unfollowed := true, recurses := true, apart := false, narrowed := true }
def FnBoundsNoneUptoSaid : Prop := fnBoundsNoneUptoRow.holds Try.pinned (OpenSpec.upto fnBoundsNoneSpec)

/-- 'laws.FnBoundsAdd', WHERE WHAT IT READS IS OF BULK AT MOST 1048576: true; the input reads as it did. -/
def fnBoundsAddUptoRow : OpenClaim := { program := "ytjmbbepklofodaa", sum := "9a2ae20c59bf32b025b780c2e029f53ae8f4ec14b6f8d838d3c6b348495b85b4", func := "loop.example/excavation/laws.FnBoundsAdd", spec := "fnBoundsAdd", unfollowed := true, recurses := true, apart := false, narrowed := true }
def FnBoundsAddUptoSaid : Prop := fnBoundsAddUptoRow.holds Try.pinned (OpenSpec.upto fnBoundsAddSpec)

/-- 'laws.FnBoundsFull', WHERE WHAT IT READS IS OF BULK AT MOST 1048576: true; the input reads as it did. -/
def fnBoundsFullUptoRow : OpenClaim := { program := "ytjmbbepklofodaa", sum := "9a2ae20c59bf32b025b780c2e029f53ae8f4ec14b6f8d838d3c6b348495b85b4", func := "loop.example/excavation/laws.FnBoundsFull", spec := "fnBoundsFull", unfollowed := true, recurses := true, apart := false, narrowed := true }
def FnBoundsFullUptoSaid : Prop := fnBoundsFullUptoRow.holds Try.pinned (OpenSpec.upto fnBoundsFullSpec)

/-- 'laws.FnBoundsPart', WHERE WHAT IT READS IS OF BULK AT MOST 1048576: true; the input reads as it did. -/
def fnBoundsPartUptoRow : OpenClaim := { program := "ytjmbbepklofodaa", sum := "9a2ae20c59bf32b025b780c2e029f53ae8f4ec14b6f8d838d3c6b348495b85b4", func := "loop.example/excavation/laws.FnBoundsPart", spec := "fnBoundsPart", unfollowed := true, recurses := true, apart := false, narrowed := true }
def FnBoundsPartUptoSaid : Prop := fnBoundsPartUptoRow.holds Try.pinned (OpenSpec.upto fnBoundsPartSpec)

/-- 'laws.FnFindBound', WHERE WHAT IT READS IS OF BULK AT MOST 1048576: true; the input reads as it did. -/
def fnFindBoundUptoRow : OpenClaim := { program := "ytjmbbepklofodaa", sum := "9a2ae20c59bf32b025b780c2e029f53ae8f4ec14b6f8d838d3c6b348495b85b4", func := "loop.example/excavation/laws.FnFindBound", spec := "fnFindBound", unfollowed := true, recurses := true, apart := false, narrowed := true }
def FnFindBoundUptoSaid : Prop := fnFindBoundUptoRow.holds Try.pinned (OpenSpec.upto fnFindBoundSpec)

/-- 'laws.FnExactBoundsValid', WHERE WHAT IT READS IS OF BULK AT MOST 1048576: true; the input reads as it did. -/
def fnExactBoundsValidUptoRow : OpenClaim := { program := "ytjmbbepklofodaa", sum := "9a2ae20c59bf32b025b780c2e029f53ae8f4ec14b6f8d838d3c6b348495b85b4", func := "loop.example/excavation/laws.FnExactBoundsValid", spec := "fnExactBoundsValid", unfollowed := true, recurses := true, apart := false, narrowed := true }
def FnExactBoundsValidUptoSaid : Prop := fnExactBoundsValidUptoRow.holds Try.pinned (OpenSpec.upto fnExactBoundsValidSpec)

/-- 'laws.FnExactBoundsOf', WHERE WHAT IT READS IS OF BULK AT MOST 1048576: true; the input reads as it did. -/
def fnExactBoundsOfUptoRow : OpenClaim := { program := "ytjmbbepklofodaa", sum := "9a2ae20c59bf32b025b780c2e029f53ae8f4ec14b6f8d838d3c6b348495b85b4", func := "loop.example/excavation/laws.FnExactBoundsOf", spec := "fnExactBoundsOf", unfollowed := true, recurses := true, apart := false, narrowed := true }
def FnExactBoundsOfUptoSaid : Prop := fnExactBoundsOfUptoRow.holds Try.pinned (OpenSpec.upto fnExactBoundsOfSpec)

/-- 'laws.FnExactBoundsAdd', WHERE WHAT IT READS IS OF BULK AT MOST 1048576: true; the input reads as it did. -/
def fnExactBoundsAddUptoRow : OpenClaim := { program := "ytjmbbepklofodaa", sum := "9a2ae20c59bf32b025b780c2e029f53ae8f4ec14b6f8d838d3c6b348495b85b4", func := "loop.example/excavation/laws.FnExactBoundsAdd", spec := "fnExactBoundsAdd", unfollowed := true, recurses := true, apart := false, narrowed := true }
def FnExactBoundsAddUptoSaid : Prop := fnExactBoundsAddUptoRow.holds Try.pinned (OpenSpec.upto fnExactBoundsAddSpec)

/-- 'laws.FnExactFindBound', WHERE WHAT IT READS IS OF BULK AT MOST 1048576: true; the input reads as it did. -/
def fnExactFindBoundUptoRow : OpenClaim := { program := "ytjmbbepklofodaa", sum := "9a2ae20c59bf32b025b780c2e029f53ae8f4ec14b6f8d838d3c6b348495b85b4", func := "loop.example/excavation/laws.FnExactFindBound", spec := "fnExactFindBound", unfollowed := true, recurses := true, apart := false, narrowed := true }
def FnExactFindBoundUptoSaid : Prop := fnExactFindBoundUptoRow.holds Try.pinned (OpenSpec.upto fnExactFindBoundSpec)

end Rows
end Go.Proofs.Ytjmbbepklofodaa
