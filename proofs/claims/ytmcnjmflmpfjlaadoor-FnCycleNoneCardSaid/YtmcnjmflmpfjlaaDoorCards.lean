/-
  DERIVED. GIVEN WITH THE SEED: THE CARDS: each row of YtmcnjmflmpfjlaaDoorRows.lean that lists a variable, with what it lists TIED to the program's text (the seventh form; the later family's looks); each row that meets fmt, with fmt's text TOLD by the authors' own Lean function (tested against real Go, not proved from fmt's source: count such statements apart). THE CARD IS WHAT COUNTS. Prove the row's statement (the work); the ties are given (YtmcnjmflmpfjlaaDoorTie.lean); close each card by the builder's one call (the guide's Derived/Test/ToyasCard.lean, 'card_holds'). Laid BY PROGRAM, IN A SANDBOX (cutbox-door.mjs). By AI agents, Wed Nov 11 2026. No macro, syntax, notation, axiom, sorry.
-/
import Derived.Test.YtmcnjmflmpfjlaaDoorRows
import GoSem.ClaimSeven
namespace Go.Proofs.YtmcnjmflmpfjlaaDoor
namespace Rows

/-- THE TIED CARD OF 'laws.FnCycleNone'. -/
def fnCycleNoneCard : Claim7 := { stood := { row := fnCycleNoneRow, standIns := [], harness := (true, "884c8f30e24b38bfee3cc4cb07b2cd8094a349a90e2a2d65dcdf658ac0e1419f"), looks := false }, kinds := [], alts := [], laidByText := true, laidKinds := [.data], laidTests := true, laidLooks := .later }
def FnCycleNoneCardSaid : Prop := Claim7.holds Tryd.pinned (.plain (OpenSpec.ofChange fnCycleNoneSpec)) fnCycleNoneCard

/-- THE SECOND FORM's CARD OF 'laws.FnCycleNone'. -/
def fnCycleNoneUptoCard : Claim7 := { stood := { row := fnCycleNoneUptoRow, standIns := [], harness := (true, "884c8f30e24b38bfee3cc4cb07b2cd8094a349a90e2a2d65dcdf658ac0e1419f"), looks := false }, kinds := [], alts := [], laidByText := true, laidKinds := [.data], laidTests := true, laidLooks := .later }
def FnCycleNoneUptoCardSaid : Prop := Claim7.holds Tryd.pinned (.plain (OpenSpec.upto fnCycleNoneSpec)) fnCycleNoneUptoCard
end Rows
end Go.Proofs.YtmcnjmflmpfjlaaDoor
