/-
  No cell of these rows narrows 'for every input' (looked for: loops, veiled, ifaces, maps, wideKeys, modest, calm, conditions, laid).
  DERIVED. THE GIVEN ROWS OF THIS SEAT. 13 by the template 'for every input the law returns true; each argument reads behind the call as it read before'; 0 by the template 'total and deterministic' (their statements: YtapmeooffmonmaaTotals.lean).
  GIVEN WITH THE SEED: the statements are not yours to turn. If you find one false, say at which input.
  Laid BY PROGRAM, IN A SANDBOX (cutbox-rows.mjs): the forced cells as the released guide's own fill.sh prints them over the translation 41b203e9fb6710fe… (all of the seat's roots in one cut). By AI agents, Wed Nov 11 2026. No macro, syntax, notation, axiom, sorry.
-/
import Derived.Test.YtapmeooffmonmaaChecked
import GoSem.Claim
import GoSem.ClaimJoined
import GoSem.ClaimMapViews
import Derived.JoinedTies
import Derived.KernelRfl
namespace Go.Proofs.Ytapmeooffmonmaa
/- THE CELL 'sum', in the pinned program and in every row, IS THE sha256 OF THE DUMP (.gsa) THAT YtapmeooffmonmaaProg.lean LOADS. Nothing in Lean hashes anything: it is a label: what it is worth is what the hold of that sum in a sandbox is worth. -/
noncomputable def Try.pinned : Pinned := { name := "ytapmeooffmonmaa", sum := "41b203e9fb6710fe56724f0d38a8b9546a974b7fc0ecb72df6641e183723fea3", checked := Try.checked }
namespace Rows
def none {H : Type} : Left H := { results := [], args := [] }

/-- 'laws.FnSerial': WHATEVER THE INPUT: true; the input reads as it did. -/
def fnSerialSpec : ChangeSpec := { name := "fnSerial", fn := fun _ => fun
  | [d] => { results := [.lit (.bool true)], args := [d] }
  | _ => none }
def fnSerialRow : OpenClaim := { program := "ytapmeooffmonmaa", sum := "41b203e9fb6710fe56724f0d38a8b9546a974b7fc0ecb72df6641e183723fea3", func := "loop.example/excavation/laws.FnSerial", spec := "fnSerial", recurses := true, apart := false }
def FnSerialSaid : Prop := fnSerialRow.holds Try.pinned (OpenSpec.ofChange fnSerialSpec)

/-- ITS FALSE NEIGHBOUR: 'it returns false'. Refute it at one input. -/
def fnSerialWrong : ChangeSpec := { name := "fnSerial", fn := fun _ => fun
  | [d] => { results := [.lit (.bool false)], args := [d] }
  | _ => none }
def FnSerialWrongFalsely : Prop := fnSerialRow.holds Try.pinned (OpenSpec.ofChange fnSerialWrong)

/-- 'laws.FnSerialBack': WHATEVER THE INPUT: true; the input reads as it did. -/
def fnSerialBackSpec : ChangeSpec := { name := "fnSerialBack", fn := fun _ => fun
  | [d] => { results := [.lit (.bool true)], args := [d] }
  | _ => none }
def fnSerialBackRow : OpenClaim := { program := "ytapmeooffmonmaa", sum := "41b203e9fb6710fe56724f0d38a8b9546a974b7fc0ecb72df6641e183723fea3", func := "loop.example/excavation/laws.FnSerialBack", spec := "fnSerialBack", recurses := true, apart := false }
def FnSerialBackSaid : Prop := fnSerialBackRow.holds Try.pinned (OpenSpec.ofChange fnSerialBackSpec)

/-- ITS FALSE NEIGHBOUR: 'it returns false'. Refute it at one input. -/
def fnSerialBackWrong : ChangeSpec := { name := "fnSerialBack", fn := fun _ => fun
  | [d] => { results := [.lit (.bool false)], args := [d] }
  | _ => none }
def FnSerialBackWrongFalsely : Prop := fnSerialBackRow.holds Try.pinned (OpenSpec.ofChange fnSerialBackWrong)

/-- 'laws.FnRowsOrder': WHATEVER THE INPUT: true; the input reads as it did. -/
def fnRowsOrderSpec : ChangeSpec := { name := "fnRowsOrder", fn := fun _ => fun
  | [d] => { results := [.lit (.bool true)], args := [d] }
  | _ => none }
def fnRowsOrderRow : OpenClaim := { program := "ytapmeooffmonmaa", sum := "41b203e9fb6710fe56724f0d38a8b9546a974b7fc0ecb72df6641e183723fea3", func := "loop.example/excavation/laws.FnRowsOrder", spec := "fnRowsOrder", unfollowed := true, recurses := true, apart := false }
def FnRowsOrderSaid : Prop := fnRowsOrderRow.holds Try.pinned (OpenSpec.ofChange fnRowsOrderSpec)

/-- ITS FALSE NEIGHBOUR: 'it returns false'. Refute it at one input. -/
def fnRowsOrderWrong : ChangeSpec := { name := "fnRowsOrder", fn := fun _ => fun
  | [d] => { results := [.lit (.bool false)], args := [d] }
  | _ => none }
def FnRowsOrderWrongFalsely : Prop := fnRowsOrderRow.holds Try.pinned (OpenSpec.ofChange fnRowsOrderWrong)

/-- 'laws.FnRowsOrderFound': WHATEVER THE INPUT: true; the input reads as it did. -/
def fnRowsOrderFoundSpec : ChangeSpec := { name := "fnRowsOrderFound", fn := fun _ => fun
  | [d] => { results := [.lit (.bool true)], args := [d] }
  | _ => none }
def fnRowsOrderFoundRow : OpenClaim := { program := "ytapmeooffmonmaa", sum := "41b203e9fb6710fe56724f0d38a8b9546a974b7fc0ecb72df6641e183723fea3", func := "loop.example/excavation/laws.FnRowsOrderFound", spec := "fnRowsOrderFound", unfollowed := true, recurses := true, apart := false }
def FnRowsOrderFoundSaid : Prop := fnRowsOrderFoundRow.holds Try.pinned (OpenSpec.ofChange fnRowsOrderFoundSpec)

/-- ITS FALSE NEIGHBOUR: 'it returns false'. Refute it at one input. -/
def fnRowsOrderFoundWrong : ChangeSpec := { name := "fnRowsOrderFound", fn := fun _ => fun
  | [d] => { results := [.lit (.bool false)], args := [d] }
  | _ => none }
def FnRowsOrderFoundWrongFalsely : Prop := fnRowsOrderFoundRow.holds Try.pinned (OpenSpec.ofChange fnRowsOrderFoundWrong)

/-- 'laws.FnRowsTake': WHATEVER THE INPUT: true; the input reads as it did. -/
def fnRowsTakeSpec : ChangeSpec := { name := "fnRowsTake", fn := fun _ => fun
  | [d] => { results := [.lit (.bool true)], args := [d] }
  | _ => none }
def fnRowsTakeRow : OpenClaim := { program := "ytapmeooffmonmaa", sum := "41b203e9fb6710fe56724f0d38a8b9546a974b7fc0ecb72df6641e183723fea3", func := "loop.example/excavation/laws.FnRowsTake", spec := "fnRowsTake", apart := false }
def FnRowsTakeSaid : Prop := fnRowsTakeRow.holds Try.pinned (OpenSpec.ofChange fnRowsTakeSpec)

/-- ITS FALSE NEIGHBOUR: 'it returns false'. Refute it at one input. -/
def fnRowsTakeWrong : ChangeSpec := { name := "fnRowsTake", fn := fun _ => fun
  | [d] => { results := [.lit (.bool false)], args := [d] }
  | _ => none }
def FnRowsTakeWrongFalsely : Prop := fnRowsTakeRow.holds Try.pinned (OpenSpec.ofChange fnRowsTakeWrong)

/-- 'laws.FnRowsAlike': WHATEVER THE INPUT: true; the input reads as it did. -/
def fnRowsAlikeSpec : ChangeSpec := { name := "fnRowsAlike", fn := fun _ => fun
  | [d] => { results := [.lit (.bool true)], args := [d] }
  | _ => none }
def fnRowsAlikeRow : OpenClaim := { program := "ytapmeooffmonmaa", sum := "41b203e9fb6710fe56724f0d38a8b9546a974b7fc0ecb72df6641e183723fea3", func := "loop.example/excavation/laws.FnRowsAlike", spec := "fnRowsAlike", apart := false }
def FnRowsAlikeSaid : Prop := fnRowsAlikeRow.holds Try.pinned (OpenSpec.ofChange fnRowsAlikeSpec)

/-- ITS FALSE NEIGHBOUR: 'it returns false'. Refute it at one input. -/
def fnRowsAlikeWrong : ChangeSpec := { name := "fnRowsAlike", fn := fun _ => fun
  | [d] => { results := [.lit (.bool false)], args := [d] }
  | _ => none }
def FnRowsAlikeWrongFalsely : Prop := fnRowsAlikeRow.holds Try.pinned (OpenSpec.ofChange fnRowsAlikeWrong)

/-- 'laws.FnRowsAlikeSame': WHATEVER THE INPUT: true; the input reads as it did. -/
def fnRowsAlikeSameSpec : ChangeSpec := { name := "fnRowsAlikeSame", fn := fun _ => fun
  | [d] => { results := [.lit (.bool true)], args := [d] }
  | _ => none }
def fnRowsAlikeSameRow : OpenClaim := { program := "ytapmeooffmonmaa", sum := "41b203e9fb6710fe56724f0d38a8b9546a974b7fc0ecb72df6641e183723fea3", func := "loop.example/excavation/laws.FnRowsAlikeSame", spec := "fnRowsAlikeSame", apart := false }
def FnRowsAlikeSameSaid : Prop := fnRowsAlikeSameRow.holds Try.pinned (OpenSpec.ofChange fnRowsAlikeSameSpec)

/-- ITS FALSE NEIGHBOUR: 'it returns false'. Refute it at one input. -/
def fnRowsAlikeSameWrong : ChangeSpec := { name := "fnRowsAlikeSame", fn := fun _ => fun
  | [d] => { results := [.lit (.bool false)], args := [d] }
  | _ => none }
def FnRowsAlikeSameWrongFalsely : Prop := fnRowsAlikeSameRow.holds Try.pinned (OpenSpec.ofChange fnRowsAlikeSameWrong)

/-- 'laws.FnRowsPart': WHATEVER THE INPUT: true; the input reads as it did. -/
def fnRowsPartSpec : ChangeSpec := { name := "fnRowsPart", fn := fun _ => fun
  | [d1, d2] => { results := [.lit (.bool true)], args := [d1, d2] }
  | _ => none }
def fnRowsPartRow : OpenClaim := { program := "ytapmeooffmonmaa", sum := "41b203e9fb6710fe56724f0d38a8b9546a974b7fc0ecb72df6641e183723fea3", func := "loop.example/excavation/laws.FnRowsPart", spec := "fnRowsPart", apart := false }
def FnRowsPartSaid : Prop := fnRowsPartRow.holds Try.pinned (OpenSpec.ofChange fnRowsPartSpec)

/-- ITS FALSE NEIGHBOUR: 'it returns false'. Refute it at one input. -/
def fnRowsPartWrong : ChangeSpec := { name := "fnRowsPart", fn := fun _ => fun
  | [d1, d2] => { results := [.lit (.bool false)], args := [d1, d2] }
  | _ => none }
def FnRowsPartWrongFalsely : Prop := fnRowsPartRow.holds Try.pinned (OpenSpec.ofChange fnRowsPartWrong)

/-- 'laws.FnExactRowsValid': WHATEVER THE INPUT: true; the input reads as it did. -/
def fnExactRowsValidSpec : ChangeSpec := { name := "fnExactRowsValid", fn := fun _ => fun
  | [d] => { results := [.lit (.bool true)], args := [d] }
  | _ => none }
def fnExactRowsValidRow : OpenClaim := { program := "ytapmeooffmonmaa", sum := "41b203e9fb6710fe56724f0d38a8b9546a974b7fc0ecb72df6641e183723fea3", func := "loop.example/excavation/laws.FnExactRowsValid", spec := "fnExactRowsValid", apart := false }
def FnExactRowsValidSaid : Prop := fnExactRowsValidRow.holds Try.pinned (OpenSpec.ofChange fnExactRowsValidSpec)

/-- ITS FALSE NEIGHBOUR: 'it returns false'. Refute it at one input. -/
def fnExactRowsValidWrong : ChangeSpec := { name := "fnExactRowsValid", fn := fun _ => fun
  | [d] => { results := [.lit (.bool false)], args := [d] }
  | _ => none }
def FnExactRowsValidWrongFalsely : Prop := fnExactRowsValidRow.holds Try.pinned (OpenSpec.ofChange fnExactRowsValidWrong)

/-- 'laws.FnExactRowsSerial': WHATEVER THE INPUT: true; the input reads as it did. -/
def fnExactRowsSerialSpec : ChangeSpec := { name := "fnExactRowsSerial", fn := fun _ => fun
  | [d] => { results := [.lit (.bool true)], args := [d] }
  | _ => none }
def fnExactRowsSerialRow : OpenClaim := { program := "ytapmeooffmonmaa", sum := "41b203e9fb6710fe56724f0d38a8b9546a974b7fc0ecb72df6641e183723fea3", func := "loop.example/excavation/laws.FnExactRowsSerial", spec := "fnExactRowsSerial", apart := false }
def FnExactRowsSerialSaid : Prop := fnExactRowsSerialRow.holds Try.pinned (OpenSpec.ofChange fnExactRowsSerialSpec)

/-- ITS FALSE NEIGHBOUR: 'it returns false'. Refute it at one input. -/
def fnExactRowsSerialWrong : ChangeSpec := { name := "fnExactRowsSerial", fn := fun _ => fun
  | [d] => { results := [.lit (.bool false)], args := [d] }
  | _ => none }
def FnExactRowsSerialWrongFalsely : Prop := fnExactRowsSerialRow.holds Try.pinned (OpenSpec.ofChange fnExactRowsSerialWrong)

/-- 'laws.FnExactRowsOrder': WHATEVER THE INPUT: true; the input reads as it did. -/
def fnExactRowsOrderSpec : ChangeSpec := { name := "fnExactRowsOrder", fn := fun _ => fun
  | [d] => { results := [.lit (.bool true)], args := [d] }
  | _ => none }
def fnExactRowsOrderRow : OpenClaim := { program := "ytapmeooffmonmaa", sum := "41b203e9fb6710fe56724f0d38a8b9546a974b7fc0ecb72df6641e183723fea3", func := "loop.example/excavation/laws.FnExactRowsOrder", spec := "fnExactRowsOrder", unfollowed := true, recurses := true, apart := false }
def FnExactRowsOrderSaid : Prop := fnExactRowsOrderRow.holds Try.pinned (OpenSpec.ofChange fnExactRowsOrderSpec)

/-- ITS FALSE NEIGHBOUR: 'it returns false'. Refute it at one input. -/
def fnExactRowsOrderWrong : ChangeSpec := { name := "fnExactRowsOrder", fn := fun _ => fun
  | [d] => { results := [.lit (.bool false)], args := [d] }
  | _ => none }
def FnExactRowsOrderWrongFalsely : Prop := fnExactRowsOrderRow.holds Try.pinned (OpenSpec.ofChange fnExactRowsOrderWrong)

/-- 'laws.FnExactRowsAlike': WHATEVER THE INPUT: true; the input reads as it did. -/
def fnExactRowsAlikeSpec : ChangeSpec := { name := "fnExactRowsAlike", fn := fun _ => fun
  | [d1, d2] => { results := [.lit (.bool true)], args := [d1, d2] }
  | _ => none }
def fnExactRowsAlikeRow : OpenClaim := { program := "ytapmeooffmonmaa", sum := "41b203e9fb6710fe56724f0d38a8b9546a974b7fc0ecb72df6641e183723fea3", func := "loop.example/excavation/laws.FnExactRowsAlike", spec := "fnExactRowsAlike", apart := false }
def FnExactRowsAlikeSaid : Prop := fnExactRowsAlikeRow.holds Try.pinned (OpenSpec.ofChange fnExactRowsAlikeSpec)

/-- ITS FALSE NEIGHBOUR: 'it returns false'. Refute it at one input. -/
def fnExactRowsAlikeWrong : ChangeSpec := { name := "fnExactRowsAlike", fn := fun _ => fun
  | [d1, d2] => { results := [.lit (.bool false)], args := [d1, d2] }
  | _ => none }
def FnExactRowsAlikeWrongFalsely : Prop := fnExactRowsAlikeRow.holds Try.pinned (OpenSpec.ofChange fnExactRowsAlikeWrong)

/-- 'laws.FnExactRowsTake': WHATEVER THE INPUT: true; the input reads as it did. -/
def fnExactRowsTakeSpec : ChangeSpec := { name := "fnExactRowsTake", fn := fun _ => fun
  | [d1, d2] => { results := [.lit (.bool true)], args := [d1, d2] }
  | _ => none }
def fnExactRowsTakeRow : OpenClaim := { program := "ytapmeooffmonmaa", sum := "41b203e9fb6710fe56724f0d38a8b9546a974b7fc0ecb72df6641e183723fea3", func := "loop.example/excavation/laws.FnExactRowsTake", spec := "fnExactRowsTake", apart := false }
def FnExactRowsTakeSaid : Prop := fnExactRowsTakeRow.holds Try.pinned (OpenSpec.ofChange fnExactRowsTakeSpec)

/-- ITS FALSE NEIGHBOUR: 'it returns false'. Refute it at one input. -/
def fnExactRowsTakeWrong : ChangeSpec := { name := "fnExactRowsTake", fn := fun _ => fun
  | [d1, d2] => { results := [.lit (.bool false)], args := [d1, d2] }
  | _ => none }
def FnExactRowsTakeWrongFalsely : Prop := fnExactRowsTakeRow.holds Try.pinned (OpenSpec.ofChange fnExactRowsTakeWrong)

/- THE SECOND FORM. 'bulk': how many values and letters a reading holds, each counted each time it is reached (what is shared counts as often as it is met; a slice's spare places count too). A statement '..UptoSaid' is the law's where the arguments, and the package variables that the reading takes, are together of bulk at most 1048576: NARROWER than '..Said'. Prove '..Said' where nothing that the law and all that it calls make is longer than what came in: it says more and counts as full. Else prove '..UptoSaid'. A law counts once. -/
mutual
def uptoBulk {H : Type} : DataW H → Nat
  | .lit (.string bytes) => bytes.length + 1
  | .lit _ => 1
  | .nil => 1
  | .ptr d => uptoBulk d + 1
  | .slice elems spare => uptoBulkAll elems + uptoBulkAll spare + 1
  | .agg parts => uptoBulkAll parts + 1
  | .iface _ d => uptoBulk d + 1
  | .map entries => uptoBulkEntries entries + 1
  | .held _ => 1
def uptoBulkAll {H : Type} : List (DataW H) → Nat
  | [] => 0
  | d :: r => uptoBulk d + uptoBulkAll r
def uptoBulkEntries {H : Type} : List (Lit × DataW H) → Nat
  | [] => 0
  | x :: r => uptoBulkEntry x + uptoBulkEntries r
def uptoBulkEntry {H : Type} : Lit × DataW H → Nat
  | (.string bytes, d) => bytes.length + uptoBulk d + 1
  | (_, d) => uptoBulk d + 1
 end
def uptoSmall : (H : Type) → List (DataW H) → Bool := fun _ ds => decide (uptoBulkAll ds ≤ 1048576)
def OpenSpec.upto (s : _root_.Go.ChangeSpec) : _root_.Go.OpenSpec := { _root_.Go.OpenSpec.ofChange s with cond := some uptoSmall }

/-- 'laws.FnSerial', WHERE WHAT IT READS IS OF BULK AT MOST 1048576: true; the input reads as it did. -/
def fnSerialUptoRow : OpenClaim := { program := "ytapmeooffmonmaa", sum := "41b203e9fb6710fe56724f0d38a8b9546a974b7fc0ecb72df6641e183723fea3", func := "loop.example/excavation/laws.FnSerial", spec := "fnSerial", recurses := true, apart := false, narrowed := true }
def FnSerialUptoSaid : Prop := fnSerialUptoRow.holds Try.pinned (OpenSpec.upto fnSerialSpec)

/-- 'laws.FnSerialBack', WHERE WHAT IT READS IS OF BULK AT MOST 1048576: true; the input reads as it did. -/
def fnSerialBackUptoRow : OpenClaim := { program := "ytapmeooffmonmaa", sum := "41b203e9fb6710fe56724f0d38a8b9546a974b7fc0ecb72df6641e183723fea3", func := "loop.example/excavation/laws.FnSerialBack", spec := "fnSerialBack", recurses := true, apart := false, narrowed := true }
def FnSerialBackUptoSaid : Prop := fnSerialBackUptoRow.holds Try.pinned (OpenSpec.upto fnSerialBackSpec)

/-- 'laws.FnRowsOrder', WHERE WHAT IT READS IS OF BULK AT MOST 1048576: true; the input reads as it did. -/
def fnRowsOrderUptoRow : OpenClaim := { program := "ytapmeooffmonmaa", sum := "41b203e9fb6710fe56724f0d38a8b9546a974b7fc0ecb72df6641e183723fea3", func := "loop.example/excavation/laws.FnRowsOrder", spec := "fnRowsOrder", unfollowed := true, recurses := true, apart := false, narrowed := true }
def FnRowsOrderUptoSaid : Prop := fnRowsOrderUptoRow.holds Try.pinned (OpenSpec.upto fnRowsOrderSpec)

/-- 'laws.FnRowsOrderFound', WHERE WHAT IT READS IS OF BULK AT MOST 1048576: true; the input reads as it did. -/
def fnRowsOrderFoundUptoRow : OpenClaim := { program := "ytapmeooffmonmaa", sum := "41b203e9fb6710fe56724f0d38a8b9546a974b7fc0ecb72df6641e183723fea3", func := "loop.example/excavation/laws.FnRowsOrderFound", spec := "fnRowsOrderFound", unfollowed := true, recurses := true, apart := false, narrowed := true }
def FnRowsOrderFoundUptoSaid : Prop := fnRowsOrderFoundUptoRow.holds Try.pinned (OpenSpec.upto fnRowsOrderFoundSpec)

/-- 'laws.FnRowsTake', WHERE WHAT IT READS IS OF BULK AT MOST 1048576: true; the input reads as it did. -/
def fnRowsTakeUptoRow : OpenClaim := { program := "ytapmeooffmonmaa", sum := "41b203e9fb6710fe56724f0d38a8b9546a974b7fc0ecb72df6641e183723fea3", func := "loop.example/excavation/laws.FnRowsTake", spec := "fnRowsTake", apart := false, narrowed := true }
def FnRowsTakeUptoSaid : Prop := fnRowsTakeUptoRow.holds Try.pinned (OpenSpec.upto fnRowsTakeSpec)

/-- 'laws.FnRowsAlike', WHERE WHAT IT READS IS OF BULK AT MOST 1048576: true; the input reads as it did. -/
def fnRowsAlikeUptoRow : OpenClaim := { program := "ytapmeooffmonmaa", sum := "41b203e9fb6710fe56724f0d38a8b9546a974b7fc0ecb72df6641e183723fea3", func := "loop.example/excavation/laws.FnRowsAlike", spec := "fnRowsAlike", apart := false, narrowed := true }
def FnRowsAlikeUptoSaid : Prop := fnRowsAlikeUptoRow.holds Try.pinned (OpenSpec.upto fnRowsAlikeSpec)

/-- 'laws.FnRowsAlikeSame', WHERE WHAT IT READS IS OF BULK AT MOST 1048576: true; the input reads as it did. -/
def fnRowsAlikeSameUptoRow : OpenClaim := { program := "ytapmeooffmonmaa", sum := "41b203e9fb6710fe56724f0d38a8b9546a974b7fc0ecb72df6641e183723fea3", func := "loop.example/excavation/laws.FnRowsAlikeSame", spec := "fnRowsAlikeSame", apart := false, narrowed := true }
def FnRowsAlikeSameUptoSaid : Prop := fnRowsAlikeSameUptoRow.holds Try.pinned (OpenSpec.upto fnRowsAlikeSameSpec)

/-- 'laws.FnRowsPart', WHERE WHAT IT READS IS OF BULK AT MOST 1048576: true; the input reads as it did. -/
def fnRowsPartUptoRow : OpenClaim := { program := "ytapmeooffmonmaa", sum := "41b203e9fb6710fe56724f0d38a8b9546a974b7fc0ecb72df6641e183723fea3", func := "loop.example/excavation/laws.FnRowsPart", spec := "fnRowsPart", apart := false, narrowed := true }
def FnRowsPartUptoSaid : Prop := fnRowsPartUptoRow.holds Try.pinned (OpenSpec.upto fnRowsPartSpec)

/-- 'laws.FnExactRowsValid', WHERE WHAT IT READS IS OF BULK AT MOST 1048576: true; the input reads as it did. -/
def fnExactRowsValidUptoRow : OpenClaim := { program := "ytapmeooffmonmaa", sum := "41b203e9fb6710fe56724f0d38a8b9546a974b7fc0ecb72df6641e183723fea3", func := "loop.example/excavation/laws.FnExactRowsValid", spec := "fnExactRowsValid", apart := false, narrowed := true }
def FnExactRowsValidUptoSaid : Prop := fnExactRowsValidUptoRow.holds Try.pinned (OpenSpec.upto fnExactRowsValidSpec)

/-- 'laws.FnExactRowsSerial', WHERE WHAT IT READS IS OF BULK AT MOST 1048576: true; the input reads as it did. -/
def fnExactRowsSerialUptoRow : OpenClaim := { program := "ytapmeooffmonmaa", sum := "41b203e9fb6710fe56724f0d38a8b9546a974b7fc0ecb72df6641e183723fea3", func := "loop.example/excavation/laws.FnExactRowsSerial", spec := "fnExactRowsSerial", apart := false, narrowed := true }
def FnExactRowsSerialUptoSaid : Prop := fnExactRowsSerialUptoRow.holds Try.pinned (OpenSpec.upto fnExactRowsSerialSpec)

/-- 'laws.FnExactRowsOrder', WHERE WHAT IT READS IS OF BULK AT MOST 1048576: true; the input reads as it did. -/
def fnExactRowsOrderUptoRow : OpenClaim := { program := "ytapmeooffmonmaa", sum := "41b203e9fb6710fe56724f0d38a8b9546a974b7fc0ecb72df6641e183723fea3", func := "loop.example/excavation/laws.FnExactRowsOrder", spec := "fnExactRowsOrder", unfollowed := true, recurses := true, apart := false, narrowed := true }
def FnExactRowsOrderUptoSaid : Prop := fnExactRowsOrderUptoRow.holds Try.pinned (OpenSpec.upto fnExactRowsOrderSpec)

/-- 'laws.FnExactRowsAlike', WHERE WHAT IT READS IS OF BULK AT MOST 1048576: true; the input reads as it did. -/
def fnExactRowsAlikeUptoRow : OpenClaim := { program := "ytapmeooffmonmaa", sum := "41b203e9fb6710fe56724f0d38a8b9546a974b7fc0ecb72df6641e183723fea3", func := "loop.example/excavation/laws.FnExactRowsAlike", spec := "fnExactRowsAlike", apart := false, narrowed := true }
def FnExactRowsAlikeUptoSaid : Prop := fnExactRowsAlikeUptoRow.holds Try.pinned (OpenSpec.upto fnExactRowsAlikeSpec)

/-- 'laws.FnExactRowsTake', WHERE WHAT IT READS IS OF BULK AT MOST 1048576: true; the input reads as it did. -/
def fnExactRowsTakeUptoRow : OpenClaim := { program := "ytapmeooffmonmaa", sum := "41b203e9fb6710fe56724f0d38a8b9546a974b7fc0ecb72df6641e183723fea3", func := "loop.example/excavation/laws.FnExactRowsTake", spec := "fnExactRowsTake", apart := false, narrowed := true }
def FnExactRowsTakeUptoSaid : Prop := fnExactRowsTakeUptoRow.holds Try.pinned (OpenSpec.upto fnExactRowsTakeSpec)

end Rows
end Go.Proofs.Ytapmeooffmonmaa
