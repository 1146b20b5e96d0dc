/-
  DERIVED. GIVEN WITH THE SEED: THE CARDS: each row of YtpkmnigkcefnpaaDoorRows.lean that lists a variable, with what it lists TIED to the program's text (the seventh form; the later family's looks); each row that meets fmt, with fmt's text TOLD by the authors' own Lean function (tested against real Go, not proved from fmt's source: count such statements apart). THE CARD IS WHAT COUNTS. Prove the row's statement (the work); the ties are given (YtpkmnigkcefnpaaDoorTie.lean); close each card by the builder's one call (the guide's Derived/Test/ToyasCard.lean, 'card_holds'). Laid BY PROGRAM, IN A SANDBOX (cutbox-door.mjs). By AI agents, Wed Nov 11 2026. No macro, syntax, notation, axiom, sorry.
-/
import Derived.Test.YtpkmnigkcefnpaaDoorRows
import GoSem.ClaimSeven
namespace Go.Proofs.YtpkmnigkcefnpaaDoor
namespace Rows

/-- THE TIED CARD OF 'laws.FnCycle'. -/
def fnCycleCard : Claim7 := { stood := { row := fnCycleRow, standIns := [], harness := (true, "c480af179db24834c5411751ceb87e45ea7951b8dcef4a03ac609f05d56629bd"), looks := false }, kinds := [], alts := [], laidByText := true, laidKinds := [.data], laidTests := true, laidLooks := .later }
def FnCycleCardSaid : Prop := Claim7.holds Tryd.pinned (.plain (OpenSpec.ofChange fnCycleSpec)) fnCycleCard

/-- THE TIED CARD OF 'laws.FnCycleNone'. -/
def fnCycleNoneCard : Claim7 := { stood := { row := fnCycleNoneRow, standIns := [], harness := (true, "c480af179db24834c5411751ceb87e45ea7951b8dcef4a03ac609f05d56629bd"), looks := false }, kinds := [], alts := [], laidByText := true, laidKinds := [.data], laidTests := true, laidLooks := .later }
def FnCycleNoneCardSaid : Prop := Claim7.holds Tryd.pinned (.plain (OpenSpec.ofChange fnCycleNoneSpec)) fnCycleNoneCard

/-- THE TIED CARD OF 'laws.FnCycleFirst'. -/
def fnCycleFirstCard : Claim7 := { stood := { row := fnCycleFirstRow, standIns := [], harness := (true, "c480af179db24834c5411751ceb87e45ea7951b8dcef4a03ac609f05d56629bd"), looks := false }, kinds := [], alts := [], laidByText := true, laidKinds := [.data], laidTests := true, laidLooks := .later }
def FnCycleFirstCardSaid : Prop := Claim7.holds Tryd.pinned (.plain (OpenSpec.ofChange fnCycleFirstSpec)) fnCycleFirstCard

/-- THE TIED CARD OF 'laws.FnCycleShort'. -/
def fnCycleShortCard : Claim7 := { stood := { row := fnCycleShortRow, standIns := [], harness := (true, "c480af179db24834c5411751ceb87e45ea7951b8dcef4a03ac609f05d56629bd"), looks := false }, kinds := [], alts := [], laidByText := true, laidKinds := [.data], laidTests := true, laidLooks := .later }
def FnCycleShortCardSaid : Prop := Claim7.holds Tryd.pinned (.plain (OpenSpec.ofChange fnCycleShortSpec)) fnCycleShortCard

/-- THE TIED CARD OF 'laws.FnExactOrderCycle'. -/
def fnExactOrderCycleCard : Claim7 := { stood := { row := fnExactOrderCycleRow, standIns := [], harness := (true, "c480af179db24834c5411751ceb87e45ea7951b8dcef4a03ac609f05d56629bd"), looks := false }, kinds := [], alts := [], laidByText := true, laidKinds := [.data], laidTests := true, laidLooks := .later }
def FnExactOrderCycleCardSaid : Prop := Claim7.holds Tryd.pinned (.plain (OpenSpec.ofChange fnExactOrderCycleSpec)) fnExactOrderCycleCard

/-- THE SECOND FORM's CARD OF 'laws.FnCycle'. -/
def fnCycleUptoCard : Claim7 := { stood := { row := fnCycleUptoRow, standIns := [], harness := (true, "c480af179db24834c5411751ceb87e45ea7951b8dcef4a03ac609f05d56629bd"), looks := false }, kinds := [], alts := [], laidByText := true, laidKinds := [.data], laidTests := true, laidLooks := .later }
def FnCycleUptoCardSaid : Prop := Claim7.holds Tryd.pinned (.plain (OpenSpec.upto fnCycleSpec)) fnCycleUptoCard

/-- THE SECOND FORM's CARD OF 'laws.FnCycleNone'. -/
def fnCycleNoneUptoCard : Claim7 := { stood := { row := fnCycleNoneUptoRow, standIns := [], harness := (true, "c480af179db24834c5411751ceb87e45ea7951b8dcef4a03ac609f05d56629bd"), looks := false }, kinds := [], alts := [], laidByText := true, laidKinds := [.data], laidTests := true, laidLooks := .later }
def FnCycleNoneUptoCardSaid : Prop := Claim7.holds Tryd.pinned (.plain (OpenSpec.upto fnCycleNoneSpec)) fnCycleNoneUptoCard

/-- THE SECOND FORM's CARD OF 'laws.FnCycleFirst'. -/
def fnCycleFirstUptoCard : Claim7 := { stood := { row := fnCycleFirstUptoRow, standIns := [], harness := (true, "c480af179db24834c5411751ceb87e45ea7951b8dcef4a03ac609f05d56629bd"), looks := false }, kinds := [], alts := [], laidByText := true, laidKinds := [.data], laidTests := true, laidLooks := .later }
def FnCycleFirstUptoCardSaid : Prop := Claim7.holds Tryd.pinned (.plain (OpenSpec.upto fnCycleFirstSpec)) fnCycleFirstUptoCard

/-- THE SECOND FORM's CARD OF 'laws.FnCycleShort'. -/
def fnCycleShortUptoCard : Claim7 := { stood := { row := fnCycleShortUptoRow, standIns := [], harness := (true, "c480af179db24834c5411751ceb87e45ea7951b8dcef4a03ac609f05d56629bd"), looks := false }, kinds := [], alts := [], laidByText := true, laidKinds := [.data], laidTests := true, laidLooks := .later }
def FnCycleShortUptoCardSaid : Prop := Claim7.holds Tryd.pinned (.plain (OpenSpec.upto fnCycleShortSpec)) fnCycleShortUptoCard

/-- THE SECOND FORM's CARD OF 'laws.FnExactOrderCycle'. -/
def fnExactOrderCycleUptoCard : Claim7 := { stood := { row := fnExactOrderCycleUptoRow, standIns := [], harness := (true, "c480af179db24834c5411751ceb87e45ea7951b8dcef4a03ac609f05d56629bd"), looks := false }, kinds := [], alts := [], laidByText := true, laidKinds := [.data], laidTests := true, laidLooks := .later }
def FnExactOrderCycleUptoCardSaid : Prop := Claim7.holds Tryd.pinned (.plain (OpenSpec.upto fnExactOrderCycleSpec)) fnExactOrderCycleUptoCard
end Rows
end Go.Proofs.YtpkmnigkcefnpaaDoor
