/-
  No cell of these rows narrows 'for every input' (looked for: loops, veiled, ifaces, maps, wideKeys, modest, calm, conditions, laid).
  DERIVED. THE GIVEN ROWS OF THIS SEAT. 11 by the template 'for every input the law returns true; each argument reads behind the call as it read before'; 0 by the template 'total and deterministic' (their statements: YtgnhdclhligngaaTotals.lean).
  GIVEN WITH THE SEED: the statements are not yours to turn. If you find one false, say at which input.
  Laid BY PROGRAM, IN A SANDBOX (cutbox-rows.mjs): the forced cells as the released guide's own fill.sh prints them over the translation e2487f60a0c8fdd1… (all of the seat's roots in one cut). By AI agents, Wed Nov 11 2026. No macro, syntax, notation, axiom, sorry.
-/
import Derived.Test.YtgnhdclhligngaaChecked
import GoSem.Claim
import GoSem.ClaimJoined
import GoSem.ClaimMapViews
import Derived.JoinedTies
import Derived.KernelRfl
namespace Go.Proofs.Ytgnhdclhligngaa
/- THE CELL 'sum', in the pinned program and in every row, IS THE sha256 OF THE DUMP (.gsa) THAT YtgnhdclhligngaaProg.lean LOADS. Nothing in Lean hashes anything: it is a label: what it is worth is what the hold of that sum in a sandbox is worth. -/
noncomputable def Try.pinned : Pinned := { name := "ytgnhdclhligngaa", sum := "e2487f60a0c8fdd10e887055854de8f49e9c089805f02960747b4b43b19513c3", checked := Try.checked }
namespace Rows
def none {H : Type} : Left H := { results := [], args := [] }

/-- 'laws.FnIdsPart': WHATEVER THE INPUT: true; the input reads as it did. -/
def fnIdsPartSpec : ChangeSpec := { name := "fnIdsPart", fn := fun _ => fun
  | [d1, d2] => { results := [.lit (.bool true)], args := [d1, d2] }
  | _ => none }
def fnIdsPartRow : OpenClaim := { program := "ytgnhdclhligngaa", sum := "e2487f60a0c8fdd10e887055854de8f49e9c089805f02960747b4b43b19513c3", func := "loop.example/excavation/laws.FnIdsPart", spec := "fnIdsPart", apart := false }
def FnIdsPartSaid : Prop := fnIdsPartRow.holds Try.pinned (OpenSpec.ofChange fnIdsPartSpec)

/-- ITS FALSE NEIGHBOUR: 'it returns false'. Refute it at one input. -/
def fnIdsPartWrong : ChangeSpec := { name := "fnIdsPart", fn := fun _ => fun
  | [d1, d2] => { results := [.lit (.bool false)], args := [d1, d2] }
  | _ => none }
def FnIdsPartWrongFalsely : Prop := fnIdsPartRow.holds Try.pinned (OpenSpec.ofChange fnIdsPartWrong)

/-- 'laws.FnGroups': WHATEVER THE INPUT: true; the input reads as it did. -/
def fnGroupsSpec : ChangeSpec := { name := "fnGroups", fn := fun _ => fun
  | [d] => { results := [.lit (.bool true)], args := [d] }
  | _ => none }
def fnGroupsRow : OpenClaim := { program := "ytgnhdclhligngaa", sum := "e2487f60a0c8fdd10e887055854de8f49e9c089805f02960747b4b43b19513c3", func := "loop.example/excavation/laws.FnGroups", spec := "fnGroups", recurses := true, apart := false }
def FnGroupsSaid : Prop := fnGroupsRow.holds Try.pinned (OpenSpec.ofChange fnGroupsSpec)

/-- ITS FALSE NEIGHBOUR: 'it returns false'. Refute it at one input. -/
def fnGroupsWrong : ChangeSpec := { name := "fnGroups", fn := fun _ => fun
  | [d] => { results := [.lit (.bool false)], args := [d] }
  | _ => none }
def FnGroupsWrongFalsely : Prop := fnGroupsRow.holds Try.pinned (OpenSpec.ofChange fnGroupsWrong)

/-- 'laws.FnGroupsNone': WHATEVER THE INPUT: true; the input reads as it did. -/
def fnGroupsNoneSpec : ChangeSpec := { name := "fnGroupsNone", fn := fun _ => fun
  | [d] => { results := [.lit (.bool true)], args := [d] }
  | _ => none }
def fnGroupsNoneRow : OpenClaim := { program := "ytgnhdclhligngaa", sum := "e2487f60a0c8fdd10e887055854de8f49e9c089805f02960747b4b43b19513c3", func := "loop.example/excavation/laws.FnGroupsNone", spec := "fnGroupsNone", recurses := true, apart := false }
def FnGroupsNoneSaid : Prop := fnGroupsNoneRow.holds Try.pinned (OpenSpec.ofChange fnGroupsNoneSpec)

/-- ITS FALSE NEIGHBOUR: 'it returns false'. Refute it at one input. -/
def fnGroupsNoneWrong : ChangeSpec := { name := "fnGroupsNone", fn := fun _ => fun
  | [d] => { results := [.lit (.bool false)], args := [d] }
  | _ => none }
def FnGroupsNoneWrongFalsely : Prop := fnGroupsNoneRow.holds Try.pinned (OpenSpec.ofChange fnGroupsNoneWrong)

/-- 'laws.FnGroupsDrop': WHATEVER THE INPUT: true; the input reads as it did. -/
def fnGroupsDropSpec : ChangeSpec := { name := "fnGroupsDrop", fn := fun _ => fun
  | [d1, d2] => { results := [.lit (.bool true)], args := [d1, d2] }
  | _ => none }
def fnGroupsDropRow : OpenClaim := { program := "ytgnhdclhligngaa", sum := "e2487f60a0c8fdd10e887055854de8f49e9c089805f02960747b4b43b19513c3", func := "loop.example/excavation/laws.FnGroupsDrop", spec := "fnGroupsDrop", recurses := true, apart := false }
def FnGroupsDropSaid : Prop := fnGroupsDropRow.holds Try.pinned (OpenSpec.ofChange fnGroupsDropSpec)

/-- ITS FALSE NEIGHBOUR: 'it returns false'. Refute it at one input. -/
def fnGroupsDropWrong : ChangeSpec := { name := "fnGroupsDrop", fn := fun _ => fun
  | [d1, d2] => { results := [.lit (.bool false)], args := [d1, d2] }
  | _ => none }
def FnGroupsDropWrongFalsely : Prop := fnGroupsDropRow.holds Try.pinned (OpenSpec.ofChange fnGroupsDropWrong)

/-- 'laws.FnGroupsChain': WHATEVER THE INPUT: true; the input reads as it did. -/
def fnGroupsChainSpec : ChangeSpec := { name := "fnGroupsChain", fn := fun _ => fun
  | [d] => { results := [.lit (.bool true)], args := [d] }
  | _ => none }
def fnGroupsChainRow : OpenClaim := { program := "ytgnhdclhligngaa", sum := "e2487f60a0c8fdd10e887055854de8f49e9c089805f02960747b4b43b19513c3", func := "loop.example/excavation/laws.FnGroupsChain", spec := "fnGroupsChain", recurses := true, apart := false }
def FnGroupsChainSaid : Prop := fnGroupsChainRow.holds Try.pinned (OpenSpec.ofChange fnGroupsChainSpec)

/-- ITS FALSE NEIGHBOUR: 'it returns false'. Refute it at one input. -/
def fnGroupsChainWrong : ChangeSpec := { name := "fnGroupsChain", fn := fun _ => fun
  | [d] => { results := [.lit (.bool false)], args := [d] }
  | _ => none }
def FnGroupsChainWrongFalsely : Prop := fnGroupsChainRow.holds Try.pinned (OpenSpec.ofChange fnGroupsChainWrong)

/-- 'laws.FnGroupHeads': WHATEVER THE INPUT: true; the input reads as it did. -/
def fnGroupHeadsSpec : ChangeSpec := { name := "fnGroupHeads", fn := fun _ => fun
  | [d] => { results := [.lit (.bool true)], args := [d] }
  | _ => none }
def fnGroupHeadsRow : OpenClaim := { program := "ytgnhdclhligngaa", sum := "e2487f60a0c8fdd10e887055854de8f49e9c089805f02960747b4b43b19513c3", func := "loop.example/excavation/laws.FnGroupHeads", spec := "fnGroupHeads", recurses := true, apart := false }
def FnGroupHeadsSaid : Prop := fnGroupHeadsRow.holds Try.pinned (OpenSpec.ofChange fnGroupHeadsSpec)

/-- ITS FALSE NEIGHBOUR: 'it returns false'. Refute it at one input. -/
def fnGroupHeadsWrong : ChangeSpec := { name := "fnGroupHeads", fn := fun _ => fun
  | [d] => { results := [.lit (.bool false)], args := [d] }
  | _ => none }
def FnGroupHeadsWrongFalsely : Prop := fnGroupHeadsRow.holds Try.pinned (OpenSpec.ofChange fnGroupHeadsWrong)

/-- 'laws.FnGroupMembers': WHATEVER THE INPUT: true; the input reads as it did. -/
def fnGroupMembersSpec : ChangeSpec := { name := "fnGroupMembers", fn := fun _ => fun
  | [d] => { results := [.lit (.bool true)], args := [d] }
  | _ => none }
def fnGroupMembersRow : OpenClaim := { program := "ytgnhdclhligngaa", sum := "e2487f60a0c8fdd10e887055854de8f49e9c089805f02960747b4b43b19513c3", func := "loop.example/excavation/laws.FnGroupMembers", spec := "fnGroupMembers", recurses := true, apart := false }
def FnGroupMembersSaid : Prop := fnGroupMembersRow.holds Try.pinned (OpenSpec.ofChange fnGroupMembersSpec)

/-- ITS FALSE NEIGHBOUR: 'it returns false'. Refute it at one input. -/
def fnGroupMembersWrong : ChangeSpec := { name := "fnGroupMembers", fn := fun _ => fun
  | [d] => { results := [.lit (.bool false)], args := [d] }
  | _ => none }
def FnGroupMembersWrongFalsely : Prop := fnGroupMembersRow.holds Try.pinned (OpenSpec.ofChange fnGroupMembersWrong)

/-- 'laws.FnExactIdsValid': WHATEVER THE INPUT: true; the input reads as it did. -/
def fnExactIdsValidSpec : ChangeSpec := { name := "fnExactIdsValid", fn := fun _ => fun
  | [d] => { results := [.lit (.bool true)], args := [d] }
  | _ => none }
def fnExactIdsValidRow : OpenClaim := { program := "ytgnhdclhligngaa", sum := "e2487f60a0c8fdd10e887055854de8f49e9c089805f02960747b4b43b19513c3", func := "loop.example/excavation/laws.FnExactIdsValid", spec := "fnExactIdsValid", apart := false }
def FnExactIdsValidSaid : Prop := fnExactIdsValidRow.holds Try.pinned (OpenSpec.ofChange fnExactIdsValidSpec)

/-- ITS FALSE NEIGHBOUR: 'it returns false'. Refute it at one input. -/
def fnExactIdsValidWrong : ChangeSpec := { name := "fnExactIdsValid", fn := fun _ => fun
  | [d] => { results := [.lit (.bool false)], args := [d] }
  | _ => none }
def FnExactIdsValidWrongFalsely : Prop := fnExactIdsValidRow.holds Try.pinned (OpenSpec.ofChange fnExactIdsValidWrong)

/-- 'laws.FnExactGroupsOf': WHATEVER THE INPUT: true; the input reads as it did. -/
def fnExactGroupsOfSpec : ChangeSpec := { name := "fnExactGroupsOf", fn := fun _ => fun
  | [d1, d2] => { results := [.lit (.bool true)], args := [d1, d2] }
  | _ => none }
def fnExactGroupsOfRow : OpenClaim := { program := "ytgnhdclhligngaa", sum := "e2487f60a0c8fdd10e887055854de8f49e9c089805f02960747b4b43b19513c3", func := "loop.example/excavation/laws.FnExactGroupsOf", spec := "fnExactGroupsOf", recurses := true, apart := false }
def FnExactGroupsOfSaid : Prop := fnExactGroupsOfRow.holds Try.pinned (OpenSpec.ofChange fnExactGroupsOfSpec)

/-- ITS FALSE NEIGHBOUR: 'it returns false'. Refute it at one input. -/
def fnExactGroupsOfWrong : ChangeSpec := { name := "fnExactGroupsOf", fn := fun _ => fun
  | [d1, d2] => { results := [.lit (.bool false)], args := [d1, d2] }
  | _ => none }
def FnExactGroupsOfWrongFalsely : Prop := fnExactGroupsOfRow.holds Try.pinned (OpenSpec.ofChange fnExactGroupsOfWrong)

/-- 'laws.FnExactGroupHeads': WHATEVER THE INPUT: true; the input reads as it did. -/
def fnExactGroupHeadsSpec : ChangeSpec := { name := "fnExactGroupHeads", fn := fun _ => fun
  | [d1, d2] => { results := [.lit (.bool true)], args := [d1, d2] }
  | _ => none }
def fnExactGroupHeadsRow : OpenClaim := { program := "ytgnhdclhligngaa", sum := "e2487f60a0c8fdd10e887055854de8f49e9c089805f02960747b4b43b19513c3", func := "loop.example/excavation/laws.FnExactGroupHeads", spec := "fnExactGroupHeads", recurses := true, apart := false }
def FnExactGroupHeadsSaid : Prop := fnExactGroupHeadsRow.holds Try.pinned (OpenSpec.ofChange fnExactGroupHeadsSpec)

/-- ITS FALSE NEIGHBOUR: 'it returns false'. Refute it at one input. -/
def fnExactGroupHeadsWrong : ChangeSpec := { name := "fnExactGroupHeads", fn := fun _ => fun
  | [d1, d2] => { results := [.lit (.bool false)], args := [d1, d2] }
  | _ => none }
def FnExactGroupHeadsWrongFalsely : Prop := fnExactGroupHeadsRow.holds Try.pinned (OpenSpec.ofChange fnExactGroupHeadsWrong)

/-- 'laws.FnExactGroupMembers': WHATEVER THE INPUT: true; the input reads as it did. -/
def fnExactGroupMembersSpec : ChangeSpec := { name := "fnExactGroupMembers", fn := fun _ => fun
  | [d1, d2, d3] => { results := [.lit (.bool true)], args := [d1, d2, d3] }
  | _ => none }
def fnExactGroupMembersRow : OpenClaim := { program := "ytgnhdclhligngaa", sum := "e2487f60a0c8fdd10e887055854de8f49e9c089805f02960747b4b43b19513c3", func := "loop.example/excavation/laws.FnExactGroupMembers", spec := "fnExactGroupMembers", recurses := true, apart := false }
def FnExactGroupMembersSaid : Prop := fnExactGroupMembersRow.holds Try.pinned (OpenSpec.ofChange fnExactGroupMembersSpec)

/-- ITS FALSE NEIGHBOUR: 'it returns false'. Refute it at one input. -/
def fnExactGroupMembersWrong : ChangeSpec := { name := "fnExactGroupMembers", fn := fun _ => fun
  | [d1, d2, d3] => { results := [.lit (.bool false)], args := [d1, d2, d3] }
  | _ => none }
def FnExactGroupMembersWrongFalsely : Prop := fnExactGroupMembersRow.holds Try.pinned (OpenSpec.ofChange fnExactGroupMembersWrong)

/- THE SECOND FORM. 'bulk': how many values and letters a reading holds, each counted each time it is reached (what is shared counts as often as it is met; a slice's spare places count too). A statement '..UptoSaid' is the law's where the arguments, and the package variables that the reading takes, are together of bulk at most 1048576: NARROWER than '..Said'. Prove '..Said' where nothing that the law and all that it calls make is longer than what came in: it says more and counts as full. Else prove '..UptoSaid'. A law counts once. -/
mutual
def uptoBulk {H : Type} : DataW H → Nat
  | .lit (.string bytes) => bytes.length + 1
  | .lit _ => 1
  | .nil => 1
  | .ptr d => uptoBulk d + 1
  | .slice elems spare => uptoBulkAll elems + uptoBulkAll spare + 1
  | .agg parts => uptoBulkAll parts + 1
  | .iface _ d => uptoBulk d + 1
  | .map entries => uptoBulkEntries entries + 1
  | .held _ => 1
def uptoBulkAll {H : Type} : List (DataW H) → Nat
  | [] => 0
  | d :: r => uptoBulk d + uptoBulkAll r
def uptoBulkEntries {H : Type} : List (Lit × DataW H) → Nat
  | [] => 0
  | x :: r => uptoBulkEntry x + uptoBulkEntries r
def uptoBulkEntry {H : Type} : Lit × DataW H → Nat
  | (.string bytes, d) => bytes.length + uptoBulk d + 1
  | (_, d) => uptoBulk d + 1
 end
def uptoSmall : (H : Type) → List (DataW H) → Bool := fun _ ds => decide (uptoBulkAll ds ≤ 1048576)
def OpenSpec.upto (s : _root_.Go.ChangeSpec) : _root_.Go.OpenSpec := { _root_.Go.OpenSpec.ofChange s with cond := some uptoSmall }

/-- 'laws.FnIdsPart', WHERE WHAT IT READS IS OF BULK AT MOST 1048576: true; the input reads as it did. -/
def fnIdsPartUptoRow : OpenClaim := { program := "ytgnhdclhligngaa", sum := "e2487f60a0c8fdd10e887055854de8f49e9c089805f02960747b4b43b19513c3", func := "loop.example/excavation/laws.FnIdsPart", spec := "fnIdsPart", apart := false, narrowed := true }
def FnIdsPartUptoSaid : Prop := fnIdsPartUptoRow.holds Try.pinned (OpenSpec.upto fnIdsPartSpec)

/-- 'laws.FnGroups', WHERE WHAT IT READS IS OF BULK AT MOST 1048576: true; the input reads as it did. -/
def fnGroupsUptoRow : OpenClaim := { program := "ytgnhdclhligngaa", sum := "e2487f60a0c8fdd10e887055854de8f49e9c089805f02960747b4b43b19513c3", func := "loop.example/excavation/laws.FnGroups", spec := "fnGroups", recurses := true, apart := false, narrowed := true }
def FnGroupsUptoSaid : Prop := fnGroupsUptoRow.holds Try.pinned (OpenSpec.upto fnGroupsSpec)

/-- 'laws.FnGroupsNone', WHERE WHAT IT READS IS OF BULK AT MOST 1048576: true; the input reads as it did. -/
def fnGroupsNoneUptoRow : OpenClaim := { program := "ytgnhdclhligngaa", sum := "e2487f60a0c8fdd10e887055854de8f49e9c089805f02960747b4b43b19513c3", func := "loop.example/excavation/laws.FnGroupsNone", spec := "fnGroupsNone", recurses := true, apart := false, narrowed := true }
def FnGroupsNoneUptoSaid : Prop := fnGroupsNoneUptoRow.holds Try.pinned (OpenSpec.upto fnGroupsNoneSpec)

/-- 'laws.FnGroupsDrop', WHERE WHAT IT READS IS OF BULK AT MOST 1048576: true; the input reads as it did. -/
def fnGroupsDropUptoRow : OpenClaim := { program := "ytgnhdclhligngaa", sum := "e2487f60a0c8fdd10e887055854de8f49e9c089805f02960747b4b43b19513c3", func := "loop.example/excavation/laws.FnGroupsDrop", spec := "fnGroupsDrop", recurses := true, apart := false, narrowed := true }
def FnGroupsDropUptoSaid : Prop := fnGroupsDropUptoRow.holds Try.pinned (OpenSpec.upto fnGroupsDropSpec)

/-- 'laws.FnGroupsChain', WHERE WHAT IT READS IS OF BULK AT MOST 1048576: true; the input reads as it did. -/
def fnGroupsChainUptoRow : OpenClaim := { program := "ytgnhdclhligngaa", sum := "e2487f60a0c8fdd10e887055854de8f49e9c089805f02960747b4b43b19513c3", func := "loop.example/excavation/laws.FnGroupsChain", spec := "fnGroupsChain", recurses := true, apart := false, narrowed := true }
def FnGroupsChainUptoSaid : Prop := fnGroupsChainUptoRow.holds Try.pinned (OpenSpec.upto fnGroupsChainSpec)

/-- 'laws.FnGroupHeads', WHERE WHAT IT READS IS OF BULK AT MOST 1048576: true; the input reads as it did. -/
def fnGroupHeadsUptoRow : OpenClaim := { program := "ytgnhdclhligngaa", sum := "e2487f60a0c8fdd10e887055854de8f49e9c089805f02960747b4b43b19513c3", func := "loop.example/excavation/laws.FnGroupHeads", spec := "fnGroupHeads", recurses := true, apart := false, narrowed := true }
def FnGroupHeadsUptoSaid : Prop := fnGroupHeadsUptoRow.holds Try.pinned (OpenSpec.upto fnGroupHeadsSpec)

/-- 'laws.FnGroupMembers', WHERE WHAT IT READS IS OF BULK AT MOST 1048576: true; the input reads as it did. -/
def fnGroupMembersUptoRow : OpenClaim := { program := "ytgnhdclhligngaa", sum := "e2487f60a0c8fdd10e887055854de8f49e9c089805f02960747b4b43b19513c3", func := "loop.example/excavation/laws.FnGroupMembers", spec := "fnGroupMembers", recurses := true, apart := false, narrowed := true }
def FnGroupMembersUptoSaid : Prop := fnGroupMembersUptoRow.holds Try.pinned (OpenSpec.upto fnGroupMembersSpec)

/-- 'laws.FnExactIdsValid', WHERE WHAT IT READS IS OF BULK AT MOST 1048576: true; the input reads as it did. -/
def fnExactIdsValidUptoRow : OpenClaim := { program := "ytgnhdclhligngaa", sum := "e2487f60a0c8fdd10e887055854de8f49e9c089805f02960747b4b43b19513c3", func := "loop.example/excavation/laws.FnExactIdsValid", spec := "fnExactIdsValid", apart := false, narrowed := true }
def FnExactIdsValidUptoSaid : Prop := fnExactIdsValidUptoRow.holds Try.pinned (OpenSpec.upto fnExactIdsValidSpec)

/-- 'laws.FnExactGroupsOf', WHERE WHAT IT READS IS OF BULK AT MOST 1048576: true; the input reads as it did. -/
def fnExactGroupsOfUptoRow : OpenClaim := { program := "ytgnhdclhligngaa", sum := "e2487f60a0c8fdd10e887055854de8f49e9c089805f02960747b4b43b19513c3", func := "loop.example/excavation/laws.FnExactGroupsOf", spec := "fnExactGroupsOf", recurses := true, apart := false, narrowed := true }
def FnExactGroupsOfUptoSaid : Prop := fnExactGroupsOfUptoRow.holds Try.pinned (OpenSpec.upto fnExactGroupsOfSpec)

/-- 'laws.FnExactGroupHeads', WHERE WHAT IT READS IS OF BULK AT MOST 1048576: true; the input reads as it did. -/
def fnExactGroupHeadsUptoRow : OpenClaim := { program := "ytgnhdclhligngaa", sum := "e2487f60a0c8fdd10e887055854de8f49e9c089805f02960747b4b43b19513c3", func := "loop.example/excavation/laws.FnExactGroupHeads", spec := "fnExactGroupHeads", recurses := true, apart := false, narrowed := true }
def FnExactGroupHeadsUptoSaid : Prop := fnExactGroupHeadsUptoRow.holds Try.pinned (OpenSpec.upto fnExactGroupHeadsSpec)

/-- 'laws.FnExactGroupMembers', WHERE WHAT IT READS IS OF BULK AT MOST 1048576: true; the input reads as it did. -/
def fnExactGroupMembersUptoRow : OpenClaim := { program := "ytgnhdclhligngaa", sum := "e2487f60a0c8fdd10e887055854de8f49e9c089805f02960747b4b43b19513c3", func := "loop.example/excavation/laws.FnExactGroupMembers", spec := "fnExactGroupMembers", recurses := true, apart := false, narrowed := true }
def FnExactGroupMembersUptoSaid : Prop := fnExactGroupMembersUptoRow.holds Try.pinned (OpenSpec.upto fnExactGroupMembersSpec)

end Rows
end Go.Proofs.Ytgnhdclhligngaa
