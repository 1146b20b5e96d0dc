/-
  No cell of these rows narrows 'for every input' (looked for: loops, veiled, ifaces, maps, wideKeys, modest, calm, conditions, laid).
  DERIVED. THE GIVEN ROWS OF THIS SEAT. 14 by the template 'for every input the law returns true; each argument reads behind the call as it read before'; 0 by the template 'total and deterministic' (their statements: YtjkjnicgbfpjiaaTotals.lean).
  GIVEN WITH THE SEED: the statements are not yours to turn. If you find one false, say at which input.
  Laid BY PROGRAM, IN A SANDBOX (cutbox-rows.mjs): the forced cells as the released guide's own fill.sh prints them over the translation b1b62f8656992e44… (all of the seat's roots in one cut). By AI agents, Wed Nov 11 2026. No macro, syntax, notation, axiom, sorry.
-/
import Derived.Test.YtjkjnicgbfpjiaaChecked
import GoSem.Claim
import GoSem.ClaimJoined
import GoSem.ClaimMapViews
import Derived.JoinedTies
import Derived.KernelRfl
namespace Go.Proofs.Ytjkjnicgbfpjiaa
/- THE CELL 'sum', in the pinned program and in every row, IS THE sha256 OF THE DUMP (.gsa) THAT YtjkjnicgbfpjiaaProg.lean LOADS. Nothing in Lean hashes anything: it is a label: what it is worth is what the hold of that sum in a sandbox is worth. -/
noncomputable def Try.pinned : Pinned := { name := "ytjkjnicgbfpjiaa", sum := "b1b62f8656992e4410e156b83767fbd6f070f9c19e3210b394cd354a771af245", checked := Try.checked }
namespace Rows
def none {H : Type} : Left H := { results := [], args := [] }

/-- 'laws.FnMatrix': WHATEVER THE INPUT: true; the input reads as it did. -/
def fnMatrixSpec : ChangeSpec := { name := "fnMatrix", fn := fun _ => fun
  | [d] => { results := [.lit (.bool true)], args := [d] }
  | _ => none }
def fnMatrixRow : OpenClaim := { program := "ytjkjnicgbfpjiaa", sum := "b1b62f8656992e4410e156b83767fbd6f070f9c19e3210b394cd354a771af245", func := "loop.example/excavation/laws.FnMatrix", spec := "fnMatrix", unfollowed := true, recurses := true, apart := false }
def FnMatrixSaid : Prop := fnMatrixRow.holds Try.pinned (OpenSpec.ofChange fnMatrixSpec)

/-- ITS FALSE NEIGHBOUR: 'it returns false'. Refute it at one input. -/
def fnMatrixWrong : ChangeSpec := { name := "fnMatrix", fn := fun _ => fun
  | [d] => { results := [.lit (.bool false)], args := [d] }
  | _ => none }
def FnMatrixWrongFalsely : Prop := fnMatrixRow.holds Try.pinned (OpenSpec.ofChange fnMatrixWrong)

/-- 'laws.FnMatrixLeast': WHATEVER THE INPUT: true; the input reads as it did. -/
def fnMatrixLeastSpec : ChangeSpec := { name := "fnMatrixLeast", fn := fun _ => fun
  | [d1, d2] => { results := [.lit (.bool true)], args := [d1, d2] }
  | _ => none }
def fnMatrixLeastRow : OpenClaim := { program := "ytjkjnicgbfpjiaa", sum := "b1b62f8656992e4410e156b83767fbd6f070f9c19e3210b394cd354a771af245", func := "loop.example/excavation/laws.FnMatrixLeast", spec := "fnMatrixLeast", unfollowed := true, recurses := true, apart := false }
def FnMatrixLeastSaid : Prop := fnMatrixLeastRow.holds Try.pinned (OpenSpec.ofChange fnMatrixLeastSpec)

/-- ITS FALSE NEIGHBOUR: 'it returns false'. Refute it at one input. -/
def fnMatrixLeastWrong : ChangeSpec := { name := "fnMatrixLeast", fn := fun _ => fun
  | [d1, d2] => { results := [.lit (.bool false)], args := [d1, d2] }
  | _ => none }
def FnMatrixLeastWrongFalsely : Prop := fnMatrixLeastRow.holds Try.pinned (OpenSpec.ofChange fnMatrixLeastWrong)

/-- 'laws.FnMatrixTwice': WHATEVER THE INPUT: true; the input reads as it did. -/
def fnMatrixTwiceSpec : ChangeSpec := { name := "fnMatrixTwice", fn := fun _ => fun
  | [d] => { results := [.lit (.bool true)], args := [d] }
  | _ => none }
def fnMatrixTwiceRow : OpenClaim := { program := "ytjkjnicgbfpjiaa", sum := "b1b62f8656992e4410e156b83767fbd6f070f9c19e3210b394cd354a771af245", func := "loop.example/excavation/laws.FnMatrixTwice", spec := "fnMatrixTwice", unfollowed := true, recurses := true, apart := false }
def FnMatrixTwiceSaid : Prop := fnMatrixTwiceRow.holds Try.pinned (OpenSpec.ofChange fnMatrixTwiceSpec)

/-- ITS FALSE NEIGHBOUR: 'it returns false'. Refute it at one input. -/
def fnMatrixTwiceWrong : ChangeSpec := { name := "fnMatrixTwice", fn := fun _ => fun
  | [d] => { results := [.lit (.bool false)], args := [d] }
  | _ => none }
def FnMatrixTwiceWrongFalsely : Prop := fnMatrixTwiceRow.holds Try.pinned (OpenSpec.ofChange fnMatrixTwiceWrong)

/-- 'laws.FnMatrixOnly': WHATEVER THE INPUT: true; the input reads as it did. -/
def fnMatrixOnlySpec : ChangeSpec := { name := "fnMatrixOnly", fn := fun _ => fun
  | [d] => { results := [.lit (.bool true)], args := [d] }
  | _ => none }
def fnMatrixOnlyRow : OpenClaim := { program := "ytjkjnicgbfpjiaa", sum := "b1b62f8656992e4410e156b83767fbd6f070f9c19e3210b394cd354a771af245", func := "loop.example/excavation/laws.FnMatrixOnly", spec := "fnMatrixOnly", unfollowed := true, recurses := true, apart := false }
def FnMatrixOnlySaid : Prop := fnMatrixOnlyRow.holds Try.pinned (OpenSpec.ofChange fnMatrixOnlySpec)

/-- ITS FALSE NEIGHBOUR: 'it returns false'. Refute it at one input. -/
def fnMatrixOnlyWrong : ChangeSpec := { name := "fnMatrixOnly", fn := fun _ => fun
  | [d] => { results := [.lit (.bool false)], args := [d] }
  | _ => none }
def FnMatrixOnlyWrongFalsely : Prop := fnMatrixOnlyRow.holds Try.pinned (OpenSpec.ofChange fnMatrixOnlyWrong)

/-- 'laws.FnMatrixSame': WHATEVER THE INPUT: true; the input reads as it did. -/
def fnMatrixSameSpec : ChangeSpec := { name := "fnMatrixSame", fn := fun _ => fun
  | [d] => { results := [.lit (.bool true)], args := [d] }
  | _ => none }
def fnMatrixSameRow : OpenClaim := { program := "ytjkjnicgbfpjiaa", sum := "b1b62f8656992e4410e156b83767fbd6f070f9c19e3210b394cd354a771af245", func := "loop.example/excavation/laws.FnMatrixSame", spec := "fnMatrixSame", recurses := true, apart := false }
def FnMatrixSameSaid : Prop := fnMatrixSameRow.holds Try.pinned (OpenSpec.ofChange fnMatrixSameSpec)

/-- ITS FALSE NEIGHBOUR: 'it returns false'. Refute it at one input. -/
def fnMatrixSameWrong : ChangeSpec := { name := "fnMatrixSame", fn := fun _ => fun
  | [d] => { results := [.lit (.bool false)], args := [d] }
  | _ => none }
def FnMatrixSameWrongFalsely : Prop := fnMatrixSameRow.holds Try.pinned (OpenSpec.ofChange fnMatrixSameWrong)

/-- 'laws.FnMatrixOther': WHATEVER THE INPUT: true; the input reads as it did. -/
def fnMatrixOtherSpec : ChangeSpec := { name := "fnMatrixOther", fn := fun _ => fun
  | [d] => { results := [.lit (.bool true)], args := [d] }
  | _ => none }
def fnMatrixOtherRow : OpenClaim := { program := "ytjkjnicgbfpjiaa", sum := "b1b62f8656992e4410e156b83767fbd6f070f9c19e3210b394cd354a771af245", func := "loop.example/excavation/laws.FnMatrixOther", spec := "fnMatrixOther", recurses := true, apart := false }
def FnMatrixOtherSaid : Prop := fnMatrixOtherRow.holds Try.pinned (OpenSpec.ofChange fnMatrixOtherSpec)

/-- ITS FALSE NEIGHBOUR: 'it returns false'. Refute it at one input. -/
def fnMatrixOtherWrong : ChangeSpec := { name := "fnMatrixOther", fn := fun _ => fun
  | [d] => { results := [.lit (.bool false)], args := [d] }
  | _ => none }
def FnMatrixOtherWrongFalsely : Prop := fnMatrixOtherRow.holds Try.pinned (OpenSpec.ofChange fnMatrixOtherWrong)

/-- 'laws.FnLevels': WHATEVER THE INPUT: true; the input reads as it did. -/
def fnLevelsSpec : ChangeSpec := { name := "fnLevels", fn := fun _ => fun
  | [d] => { results := [.lit (.bool true)], args := [d] }
  | _ => none }
def fnLevelsRow : OpenClaim := { program := "ytjkjnicgbfpjiaa", sum := "b1b62f8656992e4410e156b83767fbd6f070f9c19e3210b394cd354a771af245", func := "loop.example/excavation/laws.FnLevels", spec := "fnLevels", unfollowed := true, recurses := true, apart := false }
def FnLevelsSaid : Prop := fnLevelsRow.holds Try.pinned (OpenSpec.ofChange fnLevelsSpec)

/-- ITS FALSE NEIGHBOUR: 'it returns false'. Refute it at one input. -/
def fnLevelsWrong : ChangeSpec := { name := "fnLevels", fn := fun _ => fun
  | [d] => { results := [.lit (.bool false)], args := [d] }
  | _ => none }
def FnLevelsWrongFalsely : Prop := fnLevelsRow.holds Try.pinned (OpenSpec.ofChange fnLevelsWrong)

/-- 'laws.FnLevelsStep': WHATEVER THE INPUT: true; the input reads as it did. -/
def fnLevelsStepSpec : ChangeSpec := { name := "fnLevelsStep", fn := fun _ => fun
  | [d] => { results := [.lit (.bool true)], args := [d] }
  | _ => none }
def fnLevelsStepRow : OpenClaim := { program := "ytjkjnicgbfpjiaa", sum := "b1b62f8656992e4410e156b83767fbd6f070f9c19e3210b394cd354a771af245", func := "loop.example/excavation/laws.FnLevelsStep", spec := "fnLevelsStep", unfollowed := true, recurses := true, apart := false }
def FnLevelsStepSaid : Prop := fnLevelsStepRow.holds Try.pinned (OpenSpec.ofChange fnLevelsStepSpec)

/-- ITS FALSE NEIGHBOUR: 'it returns false'. Refute it at one input. -/
def fnLevelsStepWrong : ChangeSpec := { name := "fnLevelsStep", fn := fun _ => fun
  | [d] => { results := [.lit (.bool false)], args := [d] }
  | _ => none }
def FnLevelsStepWrongFalsely : Prop := fnLevelsStepRow.holds Try.pinned (OpenSpec.ofChange fnLevelsStepWrong)

/-- 'laws.FnBelow': WHATEVER THE INPUT: true; the input reads as it did. -/
def fnBelowSpec : ChangeSpec := { name := "fnBelow", fn := fun _ => fun
  | [d] => { results := [.lit (.bool true)], args := [d] }
  | _ => none }
def fnBelowRow : OpenClaim := { program := "ytjkjnicgbfpjiaa", sum := "b1b62f8656992e4410e156b83767fbd6f070f9c19e3210b394cd354a771af245", func := "loop.example/excavation/laws.FnBelow", spec := "fnBelow", unfollowed := true, recurses := true, apart := false }
def FnBelowSaid : Prop := fnBelowRow.holds Try.pinned (OpenSpec.ofChange fnBelowSpec)

/-- ITS FALSE NEIGHBOUR: 'it returns false'. Refute it at one input. -/
def fnBelowWrong : ChangeSpec := { name := "fnBelow", fn := fun _ => fun
  | [d] => { results := [.lit (.bool false)], args := [d] }
  | _ => none }
def FnBelowWrongFalsely : Prop := fnBelowRow.holds Try.pinned (OpenSpec.ofChange fnBelowWrong)

/-- 'laws.FnBelowNone': WHATEVER THE INPUT: true; the input reads as it did. -/
def fnBelowNoneSpec : ChangeSpec := { name := "fnBelowNone", fn := fun _ => fun
  | [d] => { results := [.lit (.bool true)], args := [d] }
  | _ => none }
def fnBelowNoneRow : OpenClaim := { program := "ytjkjnicgbfpjiaa", sum := "b1b62f8656992e4410e156b83767fbd6f070f9c19e3210b394cd354a771af245", func := "loop.example/excavation/laws.FnBelowNone", spec := "fnBelowNone", unfollowed := true, recurses := true, apart := false }
def FnBelowNoneSaid : Prop := fnBelowNoneRow.holds Try.pinned (OpenSpec.ofChange fnBelowNoneSpec)

/-- ITS FALSE NEIGHBOUR: 'it returns false'. Refute it at one input. -/
def fnBelowNoneWrong : ChangeSpec := { name := "fnBelowNone", fn := fun _ => fun
  | [d] => { results := [.lit (.bool false)], args := [d] }
  | _ => none }
def FnBelowNoneWrongFalsely : Prop := fnBelowNoneRow.holds Try.pinned (OpenSpec.ofChange fnBelowNoneWrong)

/-- 'laws.FnExactMatrixOf': WHATEVER THE INPUT: true; the input reads as it did. -/
def fnExactMatrixOfSpec : ChangeSpec := { name := "fnExactMatrixOf", fn := fun _ => fun
  | [d1, d2] => { results := [.lit (.bool true)], args := [d1, d2] }
  | _ => none }
def fnExactMatrixOfRow : OpenClaim := { program := "ytjkjnicgbfpjiaa", sum := "b1b62f8656992e4410e156b83767fbd6f070f9c19e3210b394cd354a771af245", func := "loop.example/excavation/laws.FnExactMatrixOf", spec := "fnExactMatrixOf", unfollowed := true, recurses := true, apart := false }
def FnExactMatrixOfSaid : Prop := fnExactMatrixOfRow.holds Try.pinned (OpenSpec.ofChange fnExactMatrixOfSpec)

/-- ITS FALSE NEIGHBOUR: 'it returns false'. Refute it at one input. -/
def fnExactMatrixOfWrong : ChangeSpec := { name := "fnExactMatrixOf", fn := fun _ => fun
  | [d1, d2] => { results := [.lit (.bool false)], args := [d1, d2] }
  | _ => none }
def FnExactMatrixOfWrongFalsely : Prop := fnExactMatrixOfRow.holds Try.pinned (OpenSpec.ofChange fnExactMatrixOfWrong)

/-- 'laws.FnExactMatrixLevels': WHATEVER THE INPUT: true; the input reads as it did. -/
def fnExactMatrixLevelsSpec : ChangeSpec := { name := "fnExactMatrixLevels", fn := fun _ => fun
  | [d1, d2] => { results := [.lit (.bool true)], args := [d1, d2] }
  | _ => none }
def fnExactMatrixLevelsRow : OpenClaim := { program := "ytjkjnicgbfpjiaa", sum := "b1b62f8656992e4410e156b83767fbd6f070f9c19e3210b394cd354a771af245", func := "loop.example/excavation/laws.FnExactMatrixLevels", spec := "fnExactMatrixLevels", unfollowed := true, recurses := true, apart := false }
def FnExactMatrixLevelsSaid : Prop := fnExactMatrixLevelsRow.holds Try.pinned (OpenSpec.ofChange fnExactMatrixLevelsSpec)

/-- ITS FALSE NEIGHBOUR: 'it returns false'. Refute it at one input. -/
def fnExactMatrixLevelsWrong : ChangeSpec := { name := "fnExactMatrixLevels", fn := fun _ => fun
  | [d1, d2] => { results := [.lit (.bool false)], args := [d1, d2] }
  | _ => none }
def FnExactMatrixLevelsWrongFalsely : Prop := fnExactMatrixLevelsRow.holds Try.pinned (OpenSpec.ofChange fnExactMatrixLevelsWrong)

/-- 'laws.FnExactMatrixSame': WHATEVER THE INPUT: true; the input reads as it did. -/
def fnExactMatrixSameSpec : ChangeSpec := { name := "fnExactMatrixSame", fn := fun _ => fun
  | [d1, d2, d3] => { results := [.lit (.bool true)], args := [d1, d2, d3] }
  | _ => none }
def fnExactMatrixSameRow : OpenClaim := { program := "ytjkjnicgbfpjiaa", sum := "b1b62f8656992e4410e156b83767fbd6f070f9c19e3210b394cd354a771af245", func := "loop.example/excavation/laws.FnExactMatrixSame", spec := "fnExactMatrixSame", recurses := true, apart := false }
def FnExactMatrixSameSaid : Prop := fnExactMatrixSameRow.holds Try.pinned (OpenSpec.ofChange fnExactMatrixSameSpec)

/-- ITS FALSE NEIGHBOUR: 'it returns false'. Refute it at one input. -/
def fnExactMatrixSameWrong : ChangeSpec := { name := "fnExactMatrixSame", fn := fun _ => fun
  | [d1, d2, d3] => { results := [.lit (.bool false)], args := [d1, d2, d3] }
  | _ => none }
def FnExactMatrixSameWrongFalsely : Prop := fnExactMatrixSameRow.holds Try.pinned (OpenSpec.ofChange fnExactMatrixSameWrong)

/-- 'laws.FnExactMatrixBelow': WHATEVER THE INPUT: true; the input reads as it did. -/
def fnExactMatrixBelowSpec : ChangeSpec := { name := "fnExactMatrixBelow", fn := fun _ => fun
  | [d1, d2, d3] => { results := [.lit (.bool true)], args := [d1, d2, d3] }
  | _ => none }
def fnExactMatrixBelowRow : OpenClaim := { program := "ytjkjnicgbfpjiaa", sum := "b1b62f8656992e4410e156b83767fbd6f070f9c19e3210b394cd354a771af245", func := "loop.example/excavation/laws.FnExactMatrixBelow", spec := "fnExactMatrixBelow", unfollowed := true, recurses := true, apart := false }
def FnExactMatrixBelowSaid : Prop := fnExactMatrixBelowRow.holds Try.pinned (OpenSpec.ofChange fnExactMatrixBelowSpec)

/-- ITS FALSE NEIGHBOUR: 'it returns false'. Refute it at one input. -/
def fnExactMatrixBelowWrong : ChangeSpec := { name := "fnExactMatrixBelow", fn := fun _ => fun
  | [d1, d2, d3] => { results := [.lit (.bool false)], args := [d1, d2, d3] }
  | _ => none }
def FnExactMatrixBelowWrongFalsely : Prop := fnExactMatrixBelowRow.holds Try.pinned (OpenSpec.ofChange fnExactMatrixBelowWrong)

/- THE SECOND FORM. 'bulk': how many values and letters a reading holds, each counted each time it is reached (what is shared counts as often as it is met; a slice's spare places count too). A statement '..UptoSaid' is the law's where the arguments, and the package variables that the reading takes, are together of bulk at most 1048576: NARROWER than '..Said'. Prove '..Said' where nothing that the law and all that it calls make is longer than what came in: it says more and counts as full. Else prove '..UptoSaid'. A law counts once. -/
mutual
def uptoBulk {H : Type} : DataW H → Nat
  | .lit (.string bytes) => bytes.length + 1
  | .lit _ => 1
  | .nil => 1
  | .ptr d => uptoBulk d + 1
  | .slice elems spare => uptoBulkAll elems + uptoBulkAll spare + 1
  | .agg parts => uptoBulkAll parts + 1
  | .iface _ d => uptoBulk d + 1
  | .map entries => uptoBulkEntries entries + 1
  | .held _ => 1
def uptoBulkAll {H : Type} : List (DataW H) → Nat
  | [] => 0
  | d :: r => uptoBulk d + uptoBulkAll r
def uptoBulkEntries {H : Type} : List (Lit × DataW H) → Nat
  | [] => 0
  | x :: r => uptoBulkEntry x + uptoBulkEntries r
def uptoBulkEntry {H : Type} : Lit × DataW H → Nat
  | (.string bytes, d) => bytes.length + uptoBulk d + 1
  | (_, d) => uptoBulk d + 1
 end
def uptoSmall : (H : Type) → List (DataW H) → Bool := fun _ ds => decide (uptoBulkAll ds ≤ 1048576)
def OpenSpec.upto (s : _root_.Go.ChangeSpec) : _root_.Go.OpenSpec := { _root_.Go.OpenSpec.ofChange s with cond := some uptoSmall }

/-- 'laws.FnMatrix', WHERE WHAT IT READS IS OF BULK AT MOST 1048576: true; the input reads as it did. -/
def fnMatrixUptoRow : OpenClaim := { program := "ytjkjnicgbfpjiaa", sum := "b1b62f8656992e4410e156b83767fbd6f070f9c19e3210b394cd354a771af245", func := "loop.example/excavation/laws.FnMatrix", spec := "fnMatrix", unfollowed := true, recurses := true, apart := false, narrowed := true }
def FnMatrixUptoSaid : Prop := fnMatrixUptoRow.holds Try.pinned (OpenSpec.upto fnMatrixSpec)

/-- 'laws.FnMatrixLeast', WHERE WHAT IT READS IS OF BULK AT MOST 1048576: true; the input reads as it did. -/
def fnMatrixLeastUptoRow : OpenClaim := { program := "ytjkjnicgbfpjiaa", sum := "b1b62f8656992e4410e156b83767fbd6f070f9c19e3210b394cd354a771af245", func := "loop.example/excavation/laws.FnMatrixLeast", spec := "fnMatrixLeast", unfollowed := true, recurses := true, apart := false, narrowed := true }
def FnMatrixLeastUptoSaid : Prop := fnMatrixLeastUptoRow.holds Try.pinned (OpenSpec.upto fnMatrixLeastSpec)

/-- 'laws.FnMatrixTwice', WHERE WHAT IT READS IS OF BULK AT MOST 1048576: true; the input reads as it did. -/
def fnMatrixTwiceUptoRow : OpenClaim := { program := "ytjkjnicgbfpjiaa", sum := "b1b62f8656992e4410e156b83767fbd6f070f9c19e3210b394cd354a771af245", func := "loop.example/excavation/laws.FnMatrixTwice", spec := "fnMatrixTwice", unfollowed := true, recurses := true, apart := false, narrowed := true }
def FnMatrixTwiceUptoSaid : Prop := fnMatrixTwiceUptoRow.holds Try.pinned (OpenSpec.upto fnMatrixTwiceSpec)

/-- 'laws.FnMatrixOnly', WHERE WHAT IT READS IS OF BULK AT MOST 1048576: true; the input reads as it did. -/
def fnMatrixOnlyUptoRow : OpenClaim := { program := "ytjkjnicgbfpjiaa", sum := "b1b62f8656992e4410e156b83767fbd6f070f9c19e3210b394cd354a771af245", func := "loop.example/excavation/laws.FnMatrixOnly", spec := "fnMatrixOnly", unfollowed := true, recurses := true, apart := false, narrowed := true }
def FnMatrixOnlyUptoSaid : Prop := fnMatrixOnlyUptoRow.holds Try.pinned (OpenSpec.upto fnMatrixOnlySpec)

/-- 'laws.FnMatrixSame', WHERE WHAT IT READS IS OF BULK AT MOST 1048576: true; the input reads as it did. -/
def fnMatrixSameUptoRow : OpenClaim := { program := "ytjkjnicgbfpjiaa", sum := "b1b62f8656992e4410e156b83767fbd6f070f9c19e3210b394cd354a771af245", func := "loop.example/excavation/laws.FnMatrixSame", spec := "fnMatrixSame", recurses := true, apart := false, narrowed := true }
def FnMatrixSameUptoSaid : Prop := fnMatrixSameUptoRow.holds Try.pinned (OpenSpec.upto fnMatrixSameSpec)

/-- 'laws.FnMatrixOther', WHERE WHAT IT READS IS OF BULK AT MOST 1048576: true; the input reads as it did. -/
def fnMatrixOtherUptoRow : OpenClaim := { program := "ytjkjnicgbfpjiaa", sum := "b1b62f8656992e4410e156b83767fbd6f070f9c19e3210b394cd354a771af245", func := "loop.example/excavation/laws.FnMatrixOther", spec := "fnMatrixOther", recurses := true, apart := false, narrowed := true }
def FnMatrixOtherUptoSaid : Prop := fnMatrixOtherUptoRow.holds Try.pinned (OpenSpec.upto fnMatrixOtherSpec)

/-- 'laws.FnLevels', WHERE WHAT IT READS IS OF BULK AT MOST 1048576: true; the input reads as it did. -/
def fnLevelsUptoRow : OpenClaim := { program := "ytjkjnicgbfpjiaa", sum := "b1b62f8656992e4410e156b83767fbd6f070f9c19e3210b394cd354a771af245", func := "loop.example/excavation/laws.FnLevels", spec := "fnLevels", unfollowed := true, recurses := true, apart := false, narrowed := true }
def FnLevelsUptoSaid : Prop := fnLevelsUptoRow.holds Try.pinned (OpenSpec.upto fnLevelsSpec)

/-- 'laws.FnLevelsStep', WHERE WHAT IT READS IS OF BULK AT MOST 1048576: true; the input reads as it did. -/
def fnLevelsStepUptoRow : OpenClaim := { program := "ytjkjnicgbfpjiaa", sum := "b1b62f8656992e4410e156b83767fbd6f070f9c19e3210b394cd354a771af245", func := "loop.example/excavation/laws.FnLevelsStep", spec := "fnLevelsStep", unfollowed := true, recurses := true, apart := false, narrowed := true }
def FnLevelsStepUptoSaid : Prop := fnLevelsStepUptoRow.holds Try.pinned (OpenSpec.upto fnLevelsStepSpec)

/-- 'laws.FnBelow', WHERE WHAT IT READS IS OF BULK AT MOST 1048576: true; the input reads as it did. -/
def fnBelowUptoRow : OpenClaim := { program := "ytjkjnicgbfpjiaa", sum := "b1b62f8656992e4410e156b83767fbd6f070f9c19e3210b394cd354a771af245", func := "loop.example/excavation/laws.FnBelow", spec := "fnBelow", unfollowed := true, recurses := true, apart := false, narrowed := true }
def FnBelowUptoSaid : Prop := fnBelowUptoRow.holds Try.pinned (OpenSpec.upto fnBelowSpec)

/-- 'laws.FnBelowNone', WHERE WHAT IT READS IS OF BULK AT MOST 1048576: true; the input reads as it did. -/
def fnBelowNoneUptoRow : OpenClaim := { program := "ytjkjnicgbfpjiaa", sum := "b1b62f8656992e4410e156b83767fbd6f070f9c19e3210b394cd354a771af245", func := "loop.example/excavation/laws.FnBelowNone", spec := "fnBelowNone", unfollowed := true, recurses := true, apart := false, narrowed := true }
def FnBelowNoneUptoSaid : Prop := fnBelowNoneUptoRow.holds Try.pinned (OpenSpec.upto fnBelowNoneSpec)

/-- 'laws.FnExactMatrixOf', WHERE WHAT IT READS IS OF BULK AT MOST 1048576: true; the input reads as it did. -/
def fnExactMatrixOfUptoRow : OpenClaim := { program := "ytjkjnicgbfpjiaa", sum := "b1b62f8656992e4410e156b83767fbd6f070f9c19e3210b394cd354a771af245", func := "loop.example/excavation/laws.FnExactMatrixOf", spec := "fnExactMatrixOf", unfollowed := true, recurses := true, apart := false, narrowed := true }
def FnExactMatrixOfUptoSaid : Prop := fnExactMatrixOfUptoRow.holds Try.pinned (OpenSpec.upto fnExactMatrixOfSpec)

/-- 'laws.FnExactMatrixLevels', WHERE WHAT IT READS IS OF BULK AT MOST 1048576: true; the input reads as it did. -/
def fnExactMatrixLevelsUptoRow : OpenClaim := { program := "ytjkjnicgbfpjiaa", sum := "b1b62f8656992e4410e156b83767fbd6f070f9c19e3210b394cd354a771af245", func := "loop.example/excavation/laws.FnExactMatrixLevels", spec := "fnExactMatrixLevels", unfollowed := true, recurses := true, apart := false, narrowed := true }
def FnExactMatrixLevelsUptoSaid : Prop := fnExactMatrixLevelsUptoRow.holds Try.pinned (OpenSpec.upto fnExactMatrixLevelsSpec)

/-- 'laws.FnExactMatrixSame', WHERE WHAT IT READS IS OF BULK AT MOST 1048576: true; the input reads as it did. -/
def fnExactMatrixSameUptoRow : OpenClaim := { program := "ytjkjnicgbfpjiaa", sum := "b1b62f8656992e4410e156b83767fbd6f070f9c19e3210b394cd354a771af245", func := "loop.example/excavation/laws.FnExactMatrixSame", spec := "fnExactMatrixSame", recurses := true, apart := false, narrowed := true }
def FnExactMatrixSameUptoSaid : Prop := fnExactMatrixSameUptoRow.holds Try.pinned (OpenSpec.upto fnExactMatrixSameSpec)

/-- 'laws.FnExactMatrixBelow', WHERE WHAT IT READS IS OF BULK AT MOST 1048576: true; the input reads as it did. -/
def fnExactMatrixBelowUptoRow : OpenClaim := { program := "ytjkjnicgbfpjiaa", sum := "b1b62f8656992e4410e156b83767fbd6f070f9c19e3210b394cd354a771af245", func := "loop.example/excavation/laws.FnExactMatrixBelow", spec := "fnExactMatrixBelow", unfollowed := true, recurses := true, apart := false, narrowed := true }
def FnExactMatrixBelowUptoSaid : Prop := fnExactMatrixBelowUptoRow.holds Try.pinned (OpenSpec.upto fnExactMatrixBelowSpec)

end Rows
end Go.Proofs.Ytjkjnicgbfpjiaa
