/-
  No cell of these rows narrows 'for every input' (looked for: loops, veiled, ifaces, maps, wideKeys, modest, calm, conditions, laid).
  DERIVED. THE GIVEN ROWS OF THIS SEAT. 17 by the template 'for every input the law returns true; each argument reads behind the call as it read before'; 0 by the template 'total and deterministic' (their statements: YtmcnjmflmpfjlaaTotals.lean).
  GIVEN WITH THE SEED: the statements are not yours to turn. If you find one false, say at which input.
  Laid BY PROGRAM, IN A SANDBOX (cutbox-rows.mjs): the forced cells as the released guide's own fill.sh prints them over the translation 57594a80ad8fba18… (all of the seat's roots in one cut). By AI agents, Wed Nov 11 2026. No macro, syntax, notation, axiom, sorry.
-/
import Derived.Test.YtmcnjmflmpfjlaaChecked
import GoSem.Claim
import GoSem.ClaimJoined
import GoSem.ClaimMapViews
import Derived.JoinedTies
import Derived.KernelRfl
namespace Go.Proofs.Ytmcnjmflmpfjlaa
/- THE CELL 'sum', in the pinned program and in every row, IS THE sha256 OF THE DUMP (.gsa) THAT YtmcnjmflmpfjlaaProg.lean LOADS. Nothing in Lean hashes anything: it is a label: what it is worth is what the hold of that sum in a sandbox is worth. -/
noncomputable def Try.pinned : Pinned := { name := "ytmcnjmflmpfjlaa", sum := "57594a80ad8fba18d30080f5f49b5b9b19298176e0e75097d8964548950bc87f", checked := Try.checked }
namespace Rows
def none {H : Type} : Left H := { results := [], args := [] }

/-- 'laws.FnAboveAll': WHATEVER THE INPUT: true; the input reads as it did. -/
def fnAboveAllSpec : ChangeSpec := { name := "fnAboveAll", fn := fun _ => fun
  | [d] => { results := [.lit (.bool true)], args := [d] }
  | _ => none }
def fnAboveAllRow : OpenClaim := { program := "ytmcnjmflmpfjlaa", sum := "57594a80ad8fba18d30080f5f49b5b9b19298176e0e75097d8964548950bc87f", func := "loop.example/excavation/laws.FnAboveAll", spec := "fnAboveAll", recurses := true, apart := false }
def FnAboveAllSaid : Prop := fnAboveAllRow.holds Try.pinned (OpenSpec.ofChange fnAboveAllSpec)

/-- ITS FALSE NEIGHBOUR: 'it returns false'. Refute it at one input. -/
def fnAboveAllWrong : ChangeSpec := { name := "fnAboveAll", fn := fun _ => fun
  | [d] => { results := [.lit (.bool false)], args := [d] }
  | _ => none }
def FnAboveAllWrongFalsely : Prop := fnAboveAllRow.holds Try.pinned (OpenSpec.ofChange fnAboveAllWrong)

/-- 'laws.FnAboveClosed': WHATEVER THE INPUT: true; the input reads as it did. -/
def fnAboveClosedSpec : ChangeSpec := { name := "fnAboveClosed", fn := fun _ => fun
  | [d] => { results := [.lit (.bool true)], args := [d] }
  | _ => none }
def fnAboveClosedRow : OpenClaim := { program := "ytmcnjmflmpfjlaa", sum := "57594a80ad8fba18d30080f5f49b5b9b19298176e0e75097d8964548950bc87f", func := "loop.example/excavation/laws.FnAboveClosed", spec := "fnAboveClosed", recurses := true, apart := false }
def FnAboveClosedSaid : Prop := fnAboveClosedRow.holds Try.pinned (OpenSpec.ofChange fnAboveClosedSpec)

/-- ITS FALSE NEIGHBOUR: 'it returns false'. Refute it at one input. -/
def fnAboveClosedWrong : ChangeSpec := { name := "fnAboveClosed", fn := fun _ => fun
  | [d] => { results := [.lit (.bool false)], args := [d] }
  | _ => none }
def FnAboveClosedWrongFalsely : Prop := fnAboveClosedRow.holds Try.pinned (OpenSpec.ofChange fnAboveClosedWrong)

/-- 'laws.FnBelowAll': WHATEVER THE INPUT: true; the input reads as it did. -/
def fnBelowAllSpec : ChangeSpec := { name := "fnBelowAll", fn := fun _ => fun
  | [d] => { results := [.lit (.bool true)], args := [d] }
  | _ => none }
def fnBelowAllRow : OpenClaim := { program := "ytmcnjmflmpfjlaa", sum := "57594a80ad8fba18d30080f5f49b5b9b19298176e0e75097d8964548950bc87f", func := "loop.example/excavation/laws.FnBelowAll", spec := "fnBelowAll", recurses := true, apart := false }
def FnBelowAllSaid : Prop := fnBelowAllRow.holds Try.pinned (OpenSpec.ofChange fnBelowAllSpec)

/-- ITS FALSE NEIGHBOUR: 'it returns false'. Refute it at one input. -/
def fnBelowAllWrong : ChangeSpec := { name := "fnBelowAll", fn := fun _ => fun
  | [d] => { results := [.lit (.bool false)], args := [d] }
  | _ => none }
def FnBelowAllWrongFalsely : Prop := fnBelowAllRow.holds Try.pinned (OpenSpec.ofChange fnBelowAllWrong)

/-- 'laws.FnBelowMore': WHATEVER THE INPUT: true; the input reads as it did. -/
def fnBelowMoreSpec : ChangeSpec := { name := "fnBelowMore", fn := fun _ => fun
  | [d1, d2] => { results := [.lit (.bool true)], args := [d1, d2] }
  | _ => none }
def fnBelowMoreRow : OpenClaim := { program := "ytmcnjmflmpfjlaa", sum := "57594a80ad8fba18d30080f5f49b5b9b19298176e0e75097d8964548950bc87f", func := "loop.example/excavation/laws.FnBelowMore", spec := "fnBelowMore", recurses := true, apart := false }
def FnBelowMoreSaid : Prop := fnBelowMoreRow.holds Try.pinned (OpenSpec.ofChange fnBelowMoreSpec)

/-- ITS FALSE NEIGHBOUR: 'it returns false'. Refute it at one input. -/
def fnBelowMoreWrong : ChangeSpec := { name := "fnBelowMore", fn := fun _ => fun
  | [d1, d2] => { results := [.lit (.bool false)], args := [d1, d2] }
  | _ => none }
def FnBelowMoreWrongFalsely : Prop := fnBelowMoreRow.holds Try.pinned (OpenSpec.ofChange fnBelowMoreWrong)

/-- 'laws.FnDig': WHATEVER THE INPUT: true; the input reads as it did. -/
def fnDigSpec : ChangeSpec := { name := "fnDig", fn := fun _ => fun
  | [d] => { results := [.lit (.bool true)], args := [d] }
  | _ => none }
def fnDigRow : OpenClaim := { program := "ytmcnjmflmpfjlaa", sum := "57594a80ad8fba18d30080f5f49b5b9b19298176e0e75097d8964548950bc87f", func := "loop.example/excavation/laws.FnDig", spec := "fnDig", unfollowed := true, recurses := true, apart := false }
def FnDigSaid : Prop := fnDigRow.holds Try.pinned (OpenSpec.ofChange fnDigSpec)

/-- ITS FALSE NEIGHBOUR: 'it returns false'. Refute it at one input. -/
def fnDigWrong : ChangeSpec := { name := "fnDig", fn := fun _ => fun
  | [d] => { results := [.lit (.bool false)], args := [d] }
  | _ => none }
def FnDigWrongFalsely : Prop := fnDigRow.holds Try.pinned (OpenSpec.ofChange fnDigWrong)

/-- 'laws.FnDigFirst': WHATEVER THE INPUT: true; the input reads as it did. -/
def fnDigFirstSpec : ChangeSpec := { name := "fnDigFirst", fn := fun _ => fun
  | [d1, d2] => { results := [.lit (.bool true)], args := [d1, d2] }
  | _ => none }
def fnDigFirstRow : OpenClaim := { program := "ytmcnjmflmpfjlaa", sum := "57594a80ad8fba18d30080f5f49b5b9b19298176e0e75097d8964548950bc87f", func := "loop.example/excavation/laws.FnDigFirst", spec := "fnDigFirst", unfollowed := true, recurses := true, apart := false }
def FnDigFirstSaid : Prop := fnDigFirstRow.holds Try.pinned (OpenSpec.ofChange fnDigFirstSpec)

/-- ITS FALSE NEIGHBOUR: 'it returns false'. Refute it at one input. -/
def fnDigFirstWrong : ChangeSpec := { name := "fnDigFirst", fn := fun _ => fun
  | [d1, d2] => { results := [.lit (.bool false)], args := [d1, d2] }
  | _ => none }
def FnDigFirstWrongFalsely : Prop := fnDigFirstRow.holds Try.pinned (OpenSpec.ofChange fnDigFirstWrong)

/-- 'laws.FnDigValid': WHATEVER THE INPUT: true; the input reads as it did. -/
def fnDigValidSpec : ChangeSpec := { name := "fnDigValid", fn := fun _ => fun
  | [d] => { results := [.lit (.bool true)], args := [d] }
  | _ => none }
def fnDigValidRow : OpenClaim := { program := "ytmcnjmflmpfjlaa", sum := "57594a80ad8fba18d30080f5f49b5b9b19298176e0e75097d8964548950bc87f", func := "loop.example/excavation/laws.FnDigValid", spec := "fnDigValid", recurses := true, apart := false }
def FnDigValidSaid : Prop := fnDigValidRow.holds Try.pinned (OpenSpec.ofChange fnDigValidSpec)

/-- ITS FALSE NEIGHBOUR: 'it returns false'. Refute it at one input. -/
def fnDigValidWrong : ChangeSpec := { name := "fnDigValid", fn := fun _ => fun
  | [d] => { results := [.lit (.bool false)], args := [d] }
  | _ => none }
def FnDigValidWrongFalsely : Prop := fnDigValidRow.holds Try.pinned (OpenSpec.ofChange fnDigValidWrong)

/-- 'laws.FnDigCount': WHATEVER THE INPUT: true; the input reads as it did. -/
def fnDigCountSpec : ChangeSpec := { name := "fnDigCount", fn := fun _ => fun
  | [d] => { results := [.lit (.bool true)], args := [d] }
  | _ => none }
def fnDigCountRow : OpenClaim := { program := "ytmcnjmflmpfjlaa", sum := "57594a80ad8fba18d30080f5f49b5b9b19298176e0e75097d8964548950bc87f", func := "loop.example/excavation/laws.FnDigCount", spec := "fnDigCount", recurses := true, apart := false }
def FnDigCountSaid : Prop := fnDigCountRow.holds Try.pinned (OpenSpec.ofChange fnDigCountSpec)

/-- ITS FALSE NEIGHBOUR: 'it returns false'. Refute it at one input. -/
def fnDigCountWrong : ChangeSpec := { name := "fnDigCount", fn := fun _ => fun
  | [d] => { results := [.lit (.bool false)], args := [d] }
  | _ => none }
def FnDigCountWrongFalsely : Prop := fnDigCountRow.holds Try.pinned (OpenSpec.ofChange fnDigCountWrong)

/-- 'laws.FnDigCountPair': WHATEVER THE INPUT: true; the input reads as it did. -/
def fnDigCountPairSpec : ChangeSpec := { name := "fnDigCountPair", fn := fun _ => fun
  | [d1, d2] => { results := [.lit (.bool true)], args := [d1, d2] }
  | _ => none }
def fnDigCountPairRow : OpenClaim := { program := "ytmcnjmflmpfjlaa", sum := "57594a80ad8fba18d30080f5f49b5b9b19298176e0e75097d8964548950bc87f", func := "loop.example/excavation/laws.FnDigCountPair", spec := "fnDigCountPair", unfollowed := true, recurses := true, apart := false }
def FnDigCountPairSaid : Prop := fnDigCountPairRow.holds Try.pinned (OpenSpec.ofChange fnDigCountPairSpec)

/-- ITS FALSE NEIGHBOUR: 'it returns false'. Refute it at one input. -/
def fnDigCountPairWrong : ChangeSpec := { name := "fnDigCountPair", fn := fun _ => fun
  | [d1, d2] => { results := [.lit (.bool false)], args := [d1, d2] }
  | _ => none }
def FnDigCountPairWrongFalsely : Prop := fnDigCountPairRow.holds Try.pinned (OpenSpec.ofChange fnDigCountPairWrong)

/-- 'laws.FnExactAboveAll': WHATEVER THE INPUT: true; the input reads as it did. -/
def fnExactAboveAllSpec : ChangeSpec := { name := "fnExactAboveAll", fn := fun _ => fun
  | [d1, d2, d3] => { results := [.lit (.bool true)], args := [d1, d2, d3] }
  | _ => none }
def fnExactAboveAllRow : OpenClaim := { program := "ytmcnjmflmpfjlaa", sum := "57594a80ad8fba18d30080f5f49b5b9b19298176e0e75097d8964548950bc87f", func := "loop.example/excavation/laws.FnExactAboveAll", spec := "fnExactAboveAll", recurses := true, apart := false }
def FnExactAboveAllSaid : Prop := fnExactAboveAllRow.holds Try.pinned (OpenSpec.ofChange fnExactAboveAllSpec)

/-- ITS FALSE NEIGHBOUR: 'it returns false'. Refute it at one input. -/
def fnExactAboveAllWrong : ChangeSpec := { name := "fnExactAboveAll", fn := fun _ => fun
  | [d1, d2, d3] => { results := [.lit (.bool false)], args := [d1, d2, d3] }
  | _ => none }
def FnExactAboveAllWrongFalsely : Prop := fnExactAboveAllRow.holds Try.pinned (OpenSpec.ofChange fnExactAboveAllWrong)

/-- 'laws.FnExactBelowAll': WHATEVER THE INPUT: true; the input reads as it did. -/
def fnExactBelowAllSpec : ChangeSpec := { name := "fnExactBelowAll", fn := fun _ => fun
  | [d1, d2, d3] => { results := [.lit (.bool true)], args := [d1, d2, d3] }
  | _ => none }
def fnExactBelowAllRow : OpenClaim := { program := "ytmcnjmflmpfjlaa", sum := "57594a80ad8fba18d30080f5f49b5b9b19298176e0e75097d8964548950bc87f", func := "loop.example/excavation/laws.FnExactBelowAll", spec := "fnExactBelowAll", recurses := true, apart := false }
def FnExactBelowAllSaid : Prop := fnExactBelowAllRow.holds Try.pinned (OpenSpec.ofChange fnExactBelowAllSpec)

/-- ITS FALSE NEIGHBOUR: 'it returns false'. Refute it at one input. -/
def fnExactBelowAllWrong : ChangeSpec := { name := "fnExactBelowAll", fn := fun _ => fun
  | [d1, d2, d3] => { results := [.lit (.bool false)], args := [d1, d2, d3] }
  | _ => none }
def FnExactBelowAllWrongFalsely : Prop := fnExactBelowAllRow.holds Try.pinned (OpenSpec.ofChange fnExactBelowAllWrong)

/-- 'laws.FnExactDigOrder': WHATEVER THE INPUT: true; the input reads as it did. -/
def fnExactDigOrderSpec : ChangeSpec := { name := "fnExactDigOrder", fn := fun _ => fun
  | [d1, d2] => { results := [.lit (.bool true)], args := [d1, d2] }
  | _ => none }
def fnExactDigOrderRow : OpenClaim := { program := "ytmcnjmflmpfjlaa", sum := "57594a80ad8fba18d30080f5f49b5b9b19298176e0e75097d8964548950bc87f", func := "loop.example/excavation/laws.FnExactDigOrder", spec := "fnExactDigOrder", unfollowed := true, recurses := true, apart := false }
def FnExactDigOrderSaid : Prop := fnExactDigOrderRow.holds Try.pinned (OpenSpec.ofChange fnExactDigOrderSpec)

/-- ITS FALSE NEIGHBOUR: 'it returns false'. Refute it at one input. -/
def fnExactDigOrderWrong : ChangeSpec := { name := "fnExactDigOrder", fn := fun _ => fun
  | [d1, d2] => { results := [.lit (.bool false)], args := [d1, d2] }
  | _ => none }
def FnExactDigOrderWrongFalsely : Prop := fnExactDigOrderRow.holds Try.pinned (OpenSpec.ofChange fnExactDigOrderWrong)

/-- 'laws.FnExactDigValid': WHATEVER THE INPUT: true; the input reads as it did. -/
def fnExactDigValidSpec : ChangeSpec := { name := "fnExactDigValid", fn := fun _ => fun
  | [d1, d2, d3] => { results := [.lit (.bool true)], args := [d1, d2, d3] }
  | _ => none }
def fnExactDigValidRow : OpenClaim := { program := "ytmcnjmflmpfjlaa", sum := "57594a80ad8fba18d30080f5f49b5b9b19298176e0e75097d8964548950bc87f", func := "loop.example/excavation/laws.FnExactDigValid", spec := "fnExactDigValid", recurses := true, apart := false }
def FnExactDigValidSaid : Prop := fnExactDigValidRow.holds Try.pinned (OpenSpec.ofChange fnExactDigValidSpec)

/-- ITS FALSE NEIGHBOUR: 'it returns false'. Refute it at one input. -/
def fnExactDigValidWrong : ChangeSpec := { name := "fnExactDigValid", fn := fun _ => fun
  | [d1, d2, d3] => { results := [.lit (.bool false)], args := [d1, d2, d3] }
  | _ => none }
def FnExactDigValidWrongFalsely : Prop := fnExactDigValidRow.holds Try.pinned (OpenSpec.ofChange fnExactDigValidWrong)

/-- 'laws.FnExactDigCount': WHATEVER THE INPUT: true; the input reads as it did. -/
def fnExactDigCountSpec : ChangeSpec := { name := "fnExactDigCount", fn := fun _ => fun
  | [d1, d2] => { results := [.lit (.bool true)], args := [d1, d2] }
  | _ => none }
def fnExactDigCountRow : OpenClaim := { program := "ytmcnjmflmpfjlaa", sum := "57594a80ad8fba18d30080f5f49b5b9b19298176e0e75097d8964548950bc87f", func := "loop.example/excavation/laws.FnExactDigCount", spec := "fnExactDigCount", recurses := true, apart := false }
def FnExactDigCountSaid : Prop := fnExactDigCountRow.holds Try.pinned (OpenSpec.ofChange fnExactDigCountSpec)

/-- ITS FALSE NEIGHBOUR: 'it returns false'. Refute it at one input. -/
def fnExactDigCountWrong : ChangeSpec := { name := "fnExactDigCount", fn := fun _ => fun
  | [d1, d2] => { results := [.lit (.bool false)], args := [d1, d2] }
  | _ => none }
def FnExactDigCountWrongFalsely : Prop := fnExactDigCountRow.holds Try.pinned (OpenSpec.ofChange fnExactDigCountWrong)

/-- 'laws.FnOrderValid': WHATEVER THE INPUT: true; the input reads as it did. -/
def fnOrderValidSpec : ChangeSpec := { name := "fnOrderValid", fn := fun _ => fun
  | [d] => { results := [.lit (.bool true)], args := [d] }
  | _ => none }
def fnOrderValidRow : OpenClaim := { program := "ytmcnjmflmpfjlaa", sum := "57594a80ad8fba18d30080f5f49b5b9b19298176e0e75097d8964548950bc87f", func := "loop.example/excavation/laws.FnOrderValid", spec := "fnOrderValid", recurses := true, apart := false }
def FnOrderValidSaid : Prop := fnOrderValidRow.holds Try.pinned (OpenSpec.ofChange fnOrderValidSpec)

/-- ITS FALSE NEIGHBOUR: 'it returns false'. Refute it at one input. -/
def fnOrderValidWrong : ChangeSpec := { name := "fnOrderValid", fn := fun _ => fun
  | [d] => { results := [.lit (.bool false)], args := [d] }
  | _ => none }
def FnOrderValidWrongFalsely : Prop := fnOrderValidRow.holds Try.pinned (OpenSpec.ofChange fnOrderValidWrong)

/-- 'laws.FnOrderDrop': WHATEVER THE INPUT: true; the input reads as it did. -/
def fnOrderDropSpec : ChangeSpec := { name := "fnOrderDrop", fn := fun _ => fun
  | [d1, d2] => { results := [.lit (.bool true)], args := [d1, d2] }
  | _ => none }
def fnOrderDropRow : OpenClaim := { program := "ytmcnjmflmpfjlaa", sum := "57594a80ad8fba18d30080f5f49b5b9b19298176e0e75097d8964548950bc87f", func := "loop.example/excavation/laws.FnOrderDrop", spec := "fnOrderDrop", recurses := true, apart := false }
def FnOrderDropSaid : Prop := fnOrderDropRow.holds Try.pinned (OpenSpec.ofChange fnOrderDropSpec)

/-- ITS FALSE NEIGHBOUR: 'it returns false'. Refute it at one input. -/
def fnOrderDropWrong : ChangeSpec := { name := "fnOrderDrop", fn := fun _ => fun
  | [d1, d2] => { results := [.lit (.bool false)], args := [d1, d2] }
  | _ => none }
def FnOrderDropWrongFalsely : Prop := fnOrderDropRow.holds Try.pinned (OpenSpec.ofChange fnOrderDropWrong)

/-- 'laws.FnExactOrderValid': WHATEVER THE INPUT: true; the input reads as it did. -/
def fnExactOrderValidSpec : ChangeSpec := { name := "fnExactOrderValid", fn := fun _ => fun
  | [d1, d2] => { results := [.lit (.bool true)], args := [d1, d2] }
  | _ => none }
def fnExactOrderValidRow : OpenClaim := { program := "ytmcnjmflmpfjlaa", sum := "57594a80ad8fba18d30080f5f49b5b9b19298176e0e75097d8964548950bc87f", func := "loop.example/excavation/laws.FnExactOrderValid", spec := "fnExactOrderValid", recurses := true, apart := false }
def FnExactOrderValidSaid : Prop := fnExactOrderValidRow.holds Try.pinned (OpenSpec.ofChange fnExactOrderValidSpec)

/-- ITS FALSE NEIGHBOUR: 'it returns false'. Refute it at one input. -/
def fnExactOrderValidWrong : ChangeSpec := { name := "fnExactOrderValid", fn := fun _ => fun
  | [d1, d2] => { results := [.lit (.bool false)], args := [d1, d2] }
  | _ => none }
def FnExactOrderValidWrongFalsely : Prop := fnExactOrderValidRow.holds Try.pinned (OpenSpec.ofChange fnExactOrderValidWrong)

/- THE SECOND FORM. 'bulk': how many values and letters a reading holds, each counted each time it is reached (what is shared counts as often as it is met; a slice's spare places count too). A statement '..UptoSaid' is the law's where the arguments, and the package variables that the reading takes, are together of bulk at most 1048576: NARROWER than '..Said'. Prove '..Said' where nothing that the law and all that it calls make is longer than what came in: it says more and counts as full. Else prove '..UptoSaid'. A law counts once. -/
mutual
def uptoBulk {H : Type} : DataW H → Nat
  | .lit (.string bytes) => bytes.length + 1
  | .lit _ => 1
  | .nil => 1
  | .ptr d => uptoBulk d + 1
  | .slice elems spare => uptoBulkAll elems + uptoBulkAll spare + 1
  | .agg parts => uptoBulkAll parts + 1
  | .iface _ d => uptoBulk d + 1
  | .map entries => uptoBulkEntries entries + 1
  | .held _ => 1
def uptoBulkAll {H : Type} : List (DataW H) → Nat
  | [] => 0
  | d :: r => uptoBulk d + uptoBulkAll r
def uptoBulkEntries {H : Type} : List (Lit × DataW H) → Nat
  | [] => 0
  | x :: r => uptoBulkEntry x + uptoBulkEntries r
def uptoBulkEntry {H : Type} : Lit × DataW H → Nat
  | (.string bytes, d) => bytes.length + uptoBulk d + 1
  | (_, d) => uptoBulk d + 1
 end
def uptoSmall : (H : Type) → List (DataW H) → Bool := fun _ ds => decide (uptoBulkAll ds ≤ 1048576)
def OpenSpec.upto (s : _root_.Go.ChangeSpec) : _root_.Go.OpenSpec := { _root_.Go.OpenSpec.ofChange s with cond := some uptoSmall }

/-- 'laws.FnAboveAll', WHERE WHAT IT READS IS OF BULK AT MOST 1048576: true; the input reads as it did. -/
def fnAboveAllUptoRow : OpenClaim := { program := "ytmcnjmflmpfjlaa", sum := "57594a80ad8fba18d30080f5f49b5b9b19298176e0e75097d8964548950bc87f", func := "loop.example/excavation/laws.FnAboveAll", spec := "fnAboveAll", recurses := true, apart := false, narrowed := true }
def FnAboveAllUptoSaid : Prop := fnAboveAllUptoRow.holds Try.pinned (OpenSpec.upto fnAboveAllSpec)

/-- 'laws.FnAboveClosed', WHERE WHAT IT READS IS OF BULK AT MOST 1048576: true; the input reads as it did. -/
def fnAboveClosedUptoRow : OpenClaim := { program := "ytmcnjmflmpfjlaa", sum := "57594a80ad8fba18d30080f5f49b5b9b19298176e0e75097d8964548950bc87f", func := "loop.example/excavation/laws.FnAboveClosed", spec := "fnAboveClosed", recurses := true, apart := false, narrowed := true }
def FnAboveClosedUptoSaid : Prop := fnAboveClosedUptoRow.holds Try.pinned (OpenSpec.upto fnAboveClosedSpec)

/-- 'laws.FnBelowAll', WHERE WHAT IT READS IS OF BULK AT MOST 1048576: true; the input reads as it did. -/
def fnBelowAllUptoRow : OpenClaim := { program := "ytmcnjmflmpfjlaa", sum := "57594a80ad8fba18d30080f5f49b5b9b19298176e0e75097d8964548950bc87f", func := "loop.example/excavation/laws.FnBelowAll", spec := "fnBelowAll", recurses := true, apart := false, narrowed := true }
def FnBelowAllUptoSaid : Prop := fnBelowAllUptoRow.holds Try.pinned (OpenSpec.upto fnBelowAllSpec)

/-- 'laws.FnBelowMore', WHERE WHAT IT READS IS OF BULK AT MOST 1048576: true; the input reads as it did. -/
def fnBelowMoreUptoRow : OpenClaim := { program := "ytmcnjmflmpfjlaa", sum := "57594a80ad8fba18d30080f5f49b5b9b19298176e0e75097d8964548950bc87f", func := "loop.example/excavation/laws.FnBelowMore", spec := "fnBelowMore", recurses := true, apart := false, narrowed := true }
def FnBelowMoreUptoSaid : Prop := fnBelowMoreUptoRow.holds Try.pinned (OpenSpec.upto fnBelowMoreSpec)

/-- 'laws.FnDig', WHERE WHAT IT READS IS OF BULK AT MOST 1048576: true; the input reads as it did. -/
def fnDigUptoRow : OpenClaim := { program := "ytmcnjmflmpfjlaa", sum := "57594a80ad8fba18d30080f5f49b5b9b19298176e0e75097d8964548950bc87f", func := "loop.example/excavation/laws.FnDig", spec := "fnDig", unfollowed := true, recurses := true, apart := false, narrowed := true }
def FnDigUptoSaid : Prop := fnDigUptoRow.holds Try.pinned (OpenSpec.upto fnDigSpec)

/-- 'laws.FnDigFirst', WHERE WHAT IT READS IS OF BULK AT MOST 1048576: true; the input reads as it did. -/
def fnDigFirstUptoRow : OpenClaim := { program := "ytmcnjmflmpfjlaa", sum := "57594a80ad8fba18d30080f5f49b5b9b19298176e0e75097d8964548950bc87f", func := "loop.example/excavation/laws.FnDigFirst", spec := "fnDigFirst", unfollowed := true, recurses := true, apart := false, narrowed := true }
def FnDigFirstUptoSaid : Prop := fnDigFirstUptoRow.holds Try.pinned (OpenSpec.upto fnDigFirstSpec)

/-- 'laws.FnDigValid', WHERE WHAT IT READS IS OF BULK AT MOST 1048576: true; the input reads as it did. -/
def fnDigValidUptoRow : OpenClaim := { program := "ytmcnjmflmpfjlaa", sum := "57594a80ad8fba18d30080f5f49b5b9b19298176e0e75097d8964548950bc87f", func := "loop.example/excavation/laws.FnDigValid", spec := "fnDigValid", recurses := true, apart := false, narrowed := true }
def FnDigValidUptoSaid : Prop := fnDigValidUptoRow.holds Try.pinned (OpenSpec.upto fnDigValidSpec)

/-- 'laws.FnDigCount', WHERE WHAT IT READS IS OF BULK AT MOST 1048576: true; the input reads as it did. -/
def fnDigCountUptoRow : OpenClaim := { program := "ytmcnjmflmpfjlaa", sum := "57594a80ad8fba18d30080f5f49b5b9b19298176e0e75097d8964548950bc87f", func := "loop.example/excavation/laws.FnDigCount", spec := "fnDigCount", recurses := true, apart := false, narrowed := true }
def FnDigCountUptoSaid : Prop := fnDigCountUptoRow.holds Try.pinned (OpenSpec.upto fnDigCountSpec)

/-- 'laws.FnDigCountPair', WHERE WHAT IT READS IS OF BULK AT MOST 1048576: true; the input reads as it did. -/
def fnDigCountPairUptoRow : OpenClaim := { program := "ytmcnjmflmpfjlaa", sum := "57594a80ad8fba18d30080f5f49b5b9b19298176e0e75097d8964548950bc87f", func := "loop.example/excavation/laws.FnDigCountPair", spec := "fnDigCountPair", unfollowed := true, recurses := true, apart := false, narrowed := true }
def FnDigCountPairUptoSaid : Prop := fnDigCountPairUptoRow.holds Try.pinned (OpenSpec.upto fnDigCountPairSpec)

/-- 'laws.FnExactAboveAll', WHERE WHAT IT READS IS OF BULK AT MOST 1048576: true; the input reads as it did. -/
def fnExactAboveAllUptoRow : OpenClaim := { program := "ytmcnjmflmpfjlaa", sum := "57594a80ad8fba18d30080f5f49b5b9b19298176e0e75097d8964548950bc87f", func := "loop.example/excavation/laws.FnExactAboveAll", spec := "fnExactAboveAll", recurses := true, apart := false, narrowed := true }
def FnExactAboveAllUptoSaid : Prop := fnExactAboveAllUptoRow.holds Try.pinned (OpenSpec.upto fnExactAboveAllSpec)

/-- 'laws.FnExactBelowAll', WHERE WHAT IT READS IS OF BULK AT MOST 1048576: true; the input reads as it did. -/
def fnExactBelowAllUptoRow : OpenClaim := { program := "ytmcnjmflmpfjlaa", sum := "57594a80ad8fba18d30080f5f49b5b9b19298176e0e75097d8964548950bc87f", func := "loop.example/excavation/laws.FnExactBelowAll", spec := "fnExactBelowAll", recurses := true, apart := false, narrowed := true }
def FnExactBelowAllUptoSaid : Prop := fnExactBelowAllUptoRow.holds Try.pinned (OpenSpec.upto fnExactBelowAllSpec)

/-- 'laws.FnExactDigOrder', WHERE WHAT IT READS IS OF BULK AT MOST 1048576: true; the input reads as it did. -/
def fnExactDigOrderUptoRow : OpenClaim := { program := "ytmcnjmflmpfjlaa", sum := "57594a80ad8fba18d30080f5f49b5b9b19298176e0e75097d8964548950bc87f", func := "loop.example/excavation/laws.FnExactDigOrder", spec := "fnExactDigOrder", unfollowed := true, recurses := true, apart := false, narrowed := true }
def FnExactDigOrderUptoSaid : Prop := fnExactDigOrderUptoRow.holds Try.pinned (OpenSpec.upto fnExactDigOrderSpec)

/-- 'laws.FnExactDigValid', WHERE WHAT IT READS IS OF BULK AT MOST 1048576: true; the input reads as it did. -/
def fnExactDigValidUptoRow : OpenClaim := { program := "ytmcnjmflmpfjlaa", sum := "57594a80ad8fba18d30080f5f49b5b9b19298176e0e75097d8964548950bc87f", func := "loop.example/excavation/laws.FnExactDigValid", spec := "fnExactDigValid", recurses := true, apart := false, narrowed := true }
def FnExactDigValidUptoSaid : Prop := fnExactDigValidUptoRow.holds Try.pinned (OpenSpec.upto fnExactDigValidSpec)

/-- 'laws.FnExactDigCount', WHERE WHAT IT READS IS OF BULK AT MOST 1048576: true; the input reads as it did. -/
def fnExactDigCountUptoRow : OpenClaim := { program := "ytmcnjmflmpfjlaa", sum := "57594a80ad8fba18d30080f5f49b5b9b19298176e0e75097d8964548950bc87f", func := "loop.example/excavation/laws.FnExactDigCount", spec := "fnExactDigCount", recurses := true, apart := false, narrowed := true }
def FnExactDigCountUptoSaid : Prop := fnExactDigCountUptoRow.holds Try.pinned (OpenSpec.upto fnExactDigCountSpec)

/-- 'laws.FnOrderValid', WHERE WHAT IT READS IS OF BULK AT MOST 1048576: true; the input reads as it did. -/
def fnOrderValidUptoRow : OpenClaim := { program := "ytmcnjmflmpfjlaa", sum := "57594a80ad8fba18d30080f5f49b5b9b19298176e0e75097d8964548950bc87f", func := "loop.example/excavation/laws.FnOrderValid", spec := "fnOrderValid", recurses := true, apart := false, narrowed := true }
def FnOrderValidUptoSaid : Prop := fnOrderValidUptoRow.holds Try.pinned (OpenSpec.upto fnOrderValidSpec)

/-- 'laws.FnOrderDrop', WHERE WHAT IT READS IS OF BULK AT MOST 1048576: true; the input reads as it did. -/
def fnOrderDropUptoRow : OpenClaim := { program := "ytmcnjmflmpfjlaa", sum := "57594a80ad8fba18d30080f5f49b5b9b19298176e0e75097d8964548950bc87f", func := "loop.example/excavation/laws.FnOrderDrop", spec := "fnOrderDrop", recurses := true, apart := false, narrowed := true }
def FnOrderDropUptoSaid : Prop := fnOrderDropUptoRow.holds Try.pinned (OpenSpec.upto fnOrderDropSpec)

/-- 'laws.FnExactOrderValid', WHERE WHAT IT READS IS OF BULK AT MOST 1048576: true; the input reads as it did. -/
def fnExactOrderValidUptoRow : OpenClaim := { program := "ytmcnjmflmpfjlaa", sum := "57594a80ad8fba18d30080f5f49b5b9b19298176e0e75097d8964548950bc87f", func := "loop.example/excavation/laws.FnExactOrderValid", spec := "fnExactOrderValid", recurses := true, apart := false, narrowed := true }
def FnExactOrderValidUptoSaid : Prop := fnExactOrderValidUptoRow.holds Try.pinned (OpenSpec.upto fnExactOrderValidSpec)

end Rows
end Go.Proofs.Ytmcnjmflmpfjlaa
