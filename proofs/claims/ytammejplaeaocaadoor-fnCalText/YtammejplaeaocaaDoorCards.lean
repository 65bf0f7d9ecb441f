/-
  DERIVED. GIVEN WITH THE SEED: THE CARDS: each row of YtammejplaeaocaaDoorRows.lean that lists a variable, with what it lists TIED to the program's text (the seventh form; the later family's looks); each row that meets fmt, with fmt's text TOLD by the authors' own Lean function (tested against real Go, not proved from fmt's source: count such statements apart). THE CARD IS WHAT COUNTS. Prove the row's statement (the work); the ties are given (YtammejplaeaocaaDoorTie.lean); close each card by the builder's one call (the guide's Derived/Test/ToyasCard.lean, 'card_holds'). Laid BY PROGRAM, IN A SANDBOX (cutbox-door.mjs). By AI agents, Wed Nov 11 2026. No macro, syntax, notation, axiom, sorry.
-/
import Derived.Test.YtammejplaeaocaaDoorRows
import GoSem.ClaimSeven
namespace Go.Proofs.YtammejplaeaocaaDoor
namespace Rows

/-- THE TIED CARD OF 'laws.FnCalNext'. -/
def fnCalNextCard : Claim7 := { stood := { row := fnCalNextRow, standIns := [], harness := (true, "bce1f208171111e50eefa1d267c0c3a85b714af6100d641020be7b9eeba387d4"), looks := true }, kinds := [], alts := [], laidByText := true, laidKinds := [.handle, .sentinel, .sentinel, .sentinel, .sentinel], laidTests := true, laidLooks := .later }
def FnCalNextCardSaid : Prop := Claim7.holds Tryd.pinned (.plain (OpenSpec.ofChange fnCalNextSpec)) fnCalNextCard

/-- THE TIED CARD OF 'laws.FnCalText'. -/
def fnCalTextCard : Claim7 := { stood := { row := fnCalTextRow, standIns := [], harness := (true, "bce1f208171111e50eefa1d267c0c3a85b714af6100d641020be7b9eeba387d4"), looks := true }, kinds := [], alts := [], laidByText := true, laidKinds := [.data, .data, .data, .data, .handle, .sentinel, .sentinel, .sentinel, .sentinel, .sentinel, .sentinel, .sentinel, .sentinel, .pinned], laidTests := true, laidLooks := .later }
def FnCalTextCardSaid : Prop := Claim7.holds Tryd.pinned (.plain (OpenSpec.ofChange fnCalTextSpec)) fnCalTextCard

/-- THE TIED CARD OF 'laws.FnExactCalOk'. -/
def fnExactCalOkCard : Claim7 := { stood := { row := fnExactCalOkRow, standIns := [], harness := (true, "bce1f208171111e50eefa1d267c0c3a85b714af6100d641020be7b9eeba387d4"), looks := true }, kinds := [], alts := [], laidByText := true, laidKinds := [.handle, .sentinel, .sentinel, .sentinel, .sentinel], laidTests := true, laidLooks := .later }
def FnExactCalOkCardSaid : Prop := Claim7.holds Tryd.pinned (.plain (OpenSpec.ofChange fnExactCalOkSpec)) fnExactCalOkCard

/-- THE TIED CARD OF 'laws.FnExactCalDue'. -/
def fnExactCalDueCard : Claim7 := { stood := { row := fnExactCalDueRow, standIns := [], harness := (true, "bce1f208171111e50eefa1d267c0c3a85b714af6100d641020be7b9eeba387d4"), looks := true }, kinds := [], alts := [], laidByText := true, laidKinds := [.handle, .sentinel, .sentinel, .sentinel, .sentinel], laidTests := true, laidLooks := .later }
def FnExactCalDueCardSaid : Prop := Claim7.holds Tryd.pinned (.plain (OpenSpec.ofChange fnExactCalDueSpec)) fnExactCalDueCard

/-- THE TIED CARD OF 'laws.FnExactCalNext'. -/
def fnExactCalNextCard : Claim7 := { stood := { row := fnExactCalNextRow, standIns := [], harness := (true, "bce1f208171111e50eefa1d267c0c3a85b714af6100d641020be7b9eeba387d4"), looks := true }, kinds := [], alts := [], laidByText := true, laidKinds := [.handle, .sentinel, .sentinel, .sentinel, .sentinel], laidTests := true, laidLooks := .later }
def FnExactCalNextCardSaid : Prop := Claim7.holds Tryd.pinned (.plain (OpenSpec.ofChange fnExactCalNextSpec)) fnExactCalNextCard

/-- THE TIED CARD OF 'laws.FnExactCalCount'. -/
def fnExactCalCountCard : Claim7 := { stood := { row := fnExactCalCountRow, standIns := [], harness := (true, "bce1f208171111e50eefa1d267c0c3a85b714af6100d641020be7b9eeba387d4"), looks := true }, kinds := [], alts := [], laidByText := true, laidKinds := [.handle, .sentinel, .sentinel, .sentinel, .sentinel], laidTests := true, laidLooks := .later }
def FnExactCalCountCardSaid : Prop := Claim7.holds Tryd.pinned (.plain (OpenSpec.ofChange fnExactCalCountSpec)) fnExactCalCountCard

/-- THE TIED CARD OF 'laws.FnExactCalWrite'. -/
def fnExactCalWriteCard : Claim7 := { stood := { row := fnExactCalWriteRow, standIns := [], harness := (true, "bce1f208171111e50eefa1d267c0c3a85b714af6100d641020be7b9eeba387d4"), looks := true }, kinds := [], alts := [], laidByText := true, laidKinds := [.data, .data, .data, .handle, .sentinel, .sentinel, .sentinel, .sentinel], laidTests := true, laidLooks := .later }
def FnExactCalWriteCardSaid : Prop := Claim7.holds Tryd.pinned (.plain (OpenSpec.ofChange fnExactCalWriteSpec)) fnExactCalWriteCard

/-- THE TIED CARD OF 'laws.FnExactCalRead'. -/
def fnExactCalReadCard : Claim7 := { stood := { row := fnExactCalReadRow, standIns := [], harness := (true, "bce1f208171111e50eefa1d267c0c3a85b714af6100d641020be7b9eeba387d4"), looks := true }, kinds := [], alts := [], laidByText := true, laidKinds := [.data, .handle, .sentinel, .sentinel, .sentinel, .sentinel, .sentinel, .sentinel, .sentinel, .sentinel, .pinned], laidTests := true, laidLooks := .later }
def FnExactCalReadCardSaid : Prop := Claim7.holds Tryd.pinned (.plain (OpenSpec.ofChange fnExactCalReadSpec)) fnExactCalReadCard

/-- THE SECOND FORM's CARD OF 'laws.FnCalNext'. -/
def fnCalNextUptoCard : Claim7 := { stood := { row := fnCalNextUptoRow, standIns := [], harness := (true, "bce1f208171111e50eefa1d267c0c3a85b714af6100d641020be7b9eeba387d4"), looks := true }, kinds := [], alts := [], laidByText := true, laidKinds := [.handle, .sentinel, .sentinel, .sentinel, .sentinel], laidTests := true, laidLooks := .later }
def FnCalNextUptoCardSaid : Prop := Claim7.holds Tryd.pinned (.plain (OpenSpec.upto fnCalNextSpec)) fnCalNextUptoCard

/-- THE SECOND FORM's CARD OF 'laws.FnCalText'. -/
def fnCalTextUptoCard : Claim7 := { stood := { row := fnCalTextUptoRow, standIns := [], harness := (true, "bce1f208171111e50eefa1d267c0c3a85b714af6100d641020be7b9eeba387d4"), looks := true }, kinds := [], alts := [], laidByText := true, laidKinds := [.data, .data, .data, .data, .handle, .sentinel, .sentinel, .sentinel, .sentinel, .sentinel, .sentinel, .sentinel, .sentinel, .pinned], laidTests := true, laidLooks := .later }
def FnCalTextUptoCardSaid : Prop := Claim7.holds Tryd.pinned (.plain (OpenSpec.upto fnCalTextSpec)) fnCalTextUptoCard

/-- THE SECOND FORM's CARD OF 'laws.FnExactCalOk'. -/
def fnExactCalOkUptoCard : Claim7 := { stood := { row := fnExactCalOkUptoRow, standIns := [], harness := (true, "bce1f208171111e50eefa1d267c0c3a85b714af6100d641020be7b9eeba387d4"), looks := true }, kinds := [], alts := [], laidByText := true, laidKinds := [.handle, .sentinel, .sentinel, .sentinel, .sentinel], laidTests := true, laidLooks := .later }
def FnExactCalOkUptoCardSaid : Prop := Claim7.holds Tryd.pinned (.plain (OpenSpec.upto fnExactCalOkSpec)) fnExactCalOkUptoCard

/-- THE SECOND FORM's CARD OF 'laws.FnExactCalDue'. -/
def fnExactCalDueUptoCard : Claim7 := { stood := { row := fnExactCalDueUptoRow, standIns := [], harness := (true, "bce1f208171111e50eefa1d267c0c3a85b714af6100d641020be7b9eeba387d4"), looks := true }, kinds := [], alts := [], laidByText := true, laidKinds := [.handle, .sentinel, .sentinel, .sentinel, .sentinel], laidTests := true, laidLooks := .later }
def FnExactCalDueUptoCardSaid : Prop := Claim7.holds Tryd.pinned (.plain (OpenSpec.upto fnExactCalDueSpec)) fnExactCalDueUptoCard

/-- THE SECOND FORM's CARD OF 'laws.FnExactCalNext'. -/
def fnExactCalNextUptoCard : Claim7 := { stood := { row := fnExactCalNextUptoRow, standIns := [], harness := (true, "bce1f208171111e50eefa1d267c0c3a85b714af6100d641020be7b9eeba387d4"), looks := true }, kinds := [], alts := [], laidByText := true, laidKinds := [.handle, .sentinel, .sentinel, .sentinel, .sentinel], laidTests := true, laidLooks := .later }
def FnExactCalNextUptoCardSaid : Prop := Claim7.holds Tryd.pinned (.plain (OpenSpec.upto fnExactCalNextSpec)) fnExactCalNextUptoCard

/-- THE SECOND FORM's CARD OF 'laws.FnExactCalCount'. -/
def fnExactCalCountUptoCard : Claim7 := { stood := { row := fnExactCalCountUptoRow, standIns := [], harness := (true, "bce1f208171111e50eefa1d267c0c3a85b714af6100d641020be7b9eeba387d4"), looks := true }, kinds := [], alts := [], laidByText := true, laidKinds := [.handle, .sentinel, .sentinel, .sentinel, .sentinel], laidTests := true, laidLooks := .later }
def FnExactCalCountUptoCardSaid : Prop := Claim7.holds Tryd.pinned (.plain (OpenSpec.upto fnExactCalCountSpec)) fnExactCalCountUptoCard

/-- THE SECOND FORM's CARD OF 'laws.FnExactCalWrite'. -/
def fnExactCalWriteUptoCard : Claim7 := { stood := { row := fnExactCalWriteUptoRow, standIns := [], harness := (true, "bce1f208171111e50eefa1d267c0c3a85b714af6100d641020be7b9eeba387d4"), looks := true }, kinds := [], alts := [], laidByText := true, laidKinds := [.data, .data, .data, .handle, .sentinel, .sentinel, .sentinel, .sentinel], laidTests := true, laidLooks := .later }
def FnExactCalWriteUptoCardSaid : Prop := Claim7.holds Tryd.pinned (.plain (OpenSpec.upto fnExactCalWriteSpec)) fnExactCalWriteUptoCard

/-- THE SECOND FORM's CARD OF 'laws.FnExactCalRead'. -/
def fnExactCalReadUptoCard : Claim7 := { stood := { row := fnExactCalReadUptoRow, standIns := [], harness := (true, "bce1f208171111e50eefa1d267c0c3a85b714af6100d641020be7b9eeba387d4"), looks := true }, kinds := [], alts := [], laidByText := true, laidKinds := [.data, .handle, .sentinel, .sentinel, .sentinel, .sentinel, .sentinel, .sentinel, .sentinel, .sentinel, .pinned], laidTests := true, laidLooks := .later }
def FnExactCalReadUptoCardSaid : Prop := Claim7.holds Tryd.pinned (.plain (OpenSpec.upto fnExactCalReadSpec)) fnExactCalReadUptoCard
end Rows
end Go.Proofs.YtammejplaeaocaaDoor
