/-
  DERIVED. GIVEN WITH THE SEED: THE CARDS: each row of YtbbjdpmffokcfaaDoorRows.lean that lists a variable, with what it lists TIED to the program's text (the seventh form; the later family's looks); each row that meets fmt, with fmt's text TOLD by the authors' own Lean function (tested against real Go, not proved from fmt's source: count such statements apart). THE CARD IS WHAT COUNTS. Prove the row's statement (the work); the ties are given (YtbbjdpmffokcfaaDoorTie.lean); close each card by the builder's one call (the guide's Derived/Test/ToyasCard.lean, 'card_holds'). Laid BY PROGRAM, IN A SANDBOX (cutbox-door.mjs). By AI agents, Wed Nov 11 2026. No macro, syntax, notation, axiom, sorry.
-/
import Derived.Test.YtbbjdpmffokcfaaDoorRows
import GoSem.ClaimSeven
namespace Go.Proofs.YtbbjdpmffokcfaaDoor
namespace Rows

/-- THE TIED CARD OF 'laws.FnRelsText'. -/
def fnRelsTextCard : Claim7 := { stood := { row := fnRelsTextRow, standIns := [], harness := (true, "a552459b5cb4b909e779ce3d9a0a4adc998094f57585e2670a29168c97bb0632"), looks := true }, kinds := [], alts := [], laidByText := true, laidKinds := [.data, .data, .data, .data, .sentinel, .sentinel, .pinned], laidTests := true, laidLooks := .later }
def FnRelsTextCardSaid : Prop := Claim7.holds Tryd.pinned (.plain (OpenSpec.ofChange fnRelsTextSpec)) fnRelsTextCard

/-- THE TIED CARD OF 'laws.FnRelsParse'. -/
def fnRelsParseCard : Claim7 := { stood := { row := fnRelsParseRow, standIns := [], harness := (true, "a552459b5cb4b909e779ce3d9a0a4adc998094f57585e2670a29168c97bb0632"), looks := true }, kinds := [], alts := [], laidByText := true, laidKinds := [.data, .data, .data, .data, .sentinel, .sentinel, .pinned], laidTests := true, laidLooks := .later }
def FnRelsParseCardSaid : Prop := Claim7.holds Tryd.pinned (.plain (OpenSpec.ofChange fnRelsParseSpec)) fnRelsParseCard

/-- THE TIED CARD OF 'laws.FnRelsParseBad'. -/
def fnRelsParseBadCard : Claim7 := { stood := { row := fnRelsParseBadRow, standIns := [], harness := (true, "a552459b5cb4b909e779ce3d9a0a4adc998094f57585e2670a29168c97bb0632"), looks := true }, kinds := [], alts := [], laidByText := true, laidKinds := [.data, .data, .data, .data, .sentinel, .sentinel, .pinned], laidTests := true, laidLooks := .later }
def FnRelsParseBadCardSaid : Prop := Claim7.holds Tryd.pinned (.plain (OpenSpec.ofChange fnRelsParseBadSpec)) fnRelsParseBadCard

/-- THE TIED CARD OF 'laws.FnExactRelsText'. -/
def fnExactRelsTextCard : Claim7 := { stood := { row := fnExactRelsTextRow, standIns := [], harness := (true, "a552459b5cb4b909e779ce3d9a0a4adc998094f57585e2670a29168c97bb0632"), looks := true }, kinds := [], alts := [], laidByText := true, laidKinds := [.data, .data, .data], laidTests := true, laidLooks := .later }
def FnExactRelsTextCardSaid : Prop := Claim7.holds Tryd.pinned (.plain (OpenSpec.ofChange fnExactRelsTextSpec)) fnExactRelsTextCard

/-- THE TIED CARD OF 'laws.FnExactRelsParse'. -/
def fnExactRelsParseCard : Claim7 := { stood := { row := fnExactRelsParseRow, standIns := [], harness := (true, "a552459b5cb4b909e779ce3d9a0a4adc998094f57585e2670a29168c97bb0632"), looks := true }, kinds := [], alts := [], laidByText := true, laidKinds := [.data, .data, .data, .data, .sentinel, .sentinel, .pinned], laidTests := true, laidLooks := .later }
def FnExactRelsParseCardSaid : Prop := Claim7.holds Tryd.pinned (.plain (OpenSpec.ofChange fnExactRelsParseSpec)) fnExactRelsParseCard

/-- THE SECOND FORM's CARD OF 'laws.FnRelsText'. -/
def fnRelsTextUptoCard : Claim7 := { stood := { row := fnRelsTextUptoRow, standIns := [], harness := (true, "a552459b5cb4b909e779ce3d9a0a4adc998094f57585e2670a29168c97bb0632"), looks := true }, kinds := [], alts := [], laidByText := true, laidKinds := [.data, .data, .data, .data, .sentinel, .sentinel, .pinned], laidTests := true, laidLooks := .later }
def FnRelsTextUptoCardSaid : Prop := Claim7.holds Tryd.pinned (.plain (OpenSpec.upto fnRelsTextSpec)) fnRelsTextUptoCard

/-- THE SECOND FORM's CARD OF 'laws.FnRelsParse'. -/
def fnRelsParseUptoCard : Claim7 := { stood := { row := fnRelsParseUptoRow, standIns := [], harness := (true, "a552459b5cb4b909e779ce3d9a0a4adc998094f57585e2670a29168c97bb0632"), looks := true }, kinds := [], alts := [], laidByText := true, laidKinds := [.data, .data, .data, .data, .sentinel, .sentinel, .pinned], laidTests := true, laidLooks := .later }
def FnRelsParseUptoCardSaid : Prop := Claim7.holds Tryd.pinned (.plain (OpenSpec.upto fnRelsParseSpec)) fnRelsParseUptoCard

/-- THE SECOND FORM's CARD OF 'laws.FnRelsParseBad'. -/
def fnRelsParseBadUptoCard : Claim7 := { stood := { row := fnRelsParseBadUptoRow, standIns := [], harness := (true, "a552459b5cb4b909e779ce3d9a0a4adc998094f57585e2670a29168c97bb0632"), looks := true }, kinds := [], alts := [], laidByText := true, laidKinds := [.data, .data, .data, .data, .sentinel, .sentinel, .pinned], laidTests := true, laidLooks := .later }
def FnRelsParseBadUptoCardSaid : Prop := Claim7.holds Tryd.pinned (.plain (OpenSpec.upto fnRelsParseBadSpec)) fnRelsParseBadUptoCard

/-- THE SECOND FORM's CARD OF 'laws.FnExactRelsText'. -/
def fnExactRelsTextUptoCard : Claim7 := { stood := { row := fnExactRelsTextUptoRow, standIns := [], harness := (true, "a552459b5cb4b909e779ce3d9a0a4adc998094f57585e2670a29168c97bb0632"), looks := true }, kinds := [], alts := [], laidByText := true, laidKinds := [.data, .data, .data], laidTests := true, laidLooks := .later }
def FnExactRelsTextUptoCardSaid : Prop := Claim7.holds Tryd.pinned (.plain (OpenSpec.upto fnExactRelsTextSpec)) fnExactRelsTextUptoCard

/-- THE SECOND FORM's CARD OF 'laws.FnExactRelsParse'. -/
def fnExactRelsParseUptoCard : Claim7 := { stood := { row := fnExactRelsParseUptoRow, standIns := [], harness := (true, "a552459b5cb4b909e779ce3d9a0a4adc998094f57585e2670a29168c97bb0632"), looks := true }, kinds := [], alts := [], laidByText := true, laidKinds := [.data, .data, .data, .data, .sentinel, .sentinel, .pinned], laidTests := true, laidLooks := .later }
def FnExactRelsParseUptoCardSaid : Prop := Claim7.holds Tryd.pinned (.plain (OpenSpec.upto fnExactRelsParseSpec)) fnExactRelsParseUptoCard
end Rows
end Go.Proofs.YtbbjdpmffokcfaaDoor
