/-
  DERIVED. GIVEN WITH THE SEED: THE CARDS: each row of YtfokdblojlmnlamGreatDoorRows.lean that lists a variable, with what it lists TIED to the program's text (the seventh form; the later family's looks); each row that meets fmt, with fmt's text TOLD by the authors' own Lean function (tested against real Go, not proved from fmt's source: count such statements apart). THE CARD IS WHAT COUNTS. Prove the row's statement (the work); the ties are given (YtfokdblojlmnlamGreatDoorTie.lean); close each card by the builder's one call (the guide's Derived/Test/ToyasCard.lean, 'card_holds'). Laid BY PROGRAM, IN A SANDBOX (cutbox-door.mjs). By AI agents, Wed Nov 11 2026. No macro, syntax, notation, axiom, sorry.
-/
import Derived.Test.YtfokdblojlmnlamGreatDoorRows
import GoSem.ClaimSeven
namespace Go.Proofs.YtfokdblojlmnlamGreatDoor
namespace Rows

/-- THE TIED CARD OF 'laws.FnExactReadSum'. -/
def fnExactReadSumCard : Claim7 := { stood := { row := fnExactReadSumRow, standIns := [], harness := (true, "1432758e2ceddb1ae852fdb372b239ce3fbd03d683ead7739157d7276d874b57"), looks := true }, kinds := [], alts := [], laidByText := true, laidKinds := [.data, .data, .data, .sentinel, .sentinel, .data], laidTests := true, laidLooks := .later }
def FnExactReadSumCardSaid : Prop := Claim7.holds Tryz.pinned (.plain (OpenSpec.ofChange fnExactReadSumSpec)) fnExactReadSumCard

/-- THE TIED CARD OF 'laws.FnExactNamesOf'. -/
def fnExactNamesOfCard : Claim7 := { stood := { row := fnExactNamesOfRow, standIns := [], harness := (true, "1432758e2ceddb1ae852fdb372b239ce3fbd03d683ead7739157d7276d874b57"), looks := true }, kinds := [], alts := [], laidByText := true, laidKinds := [.data, .data, .data, .sentinel, .sentinel], laidTests := true, laidLooks := .later }
def FnExactNamesOfCardSaid : Prop := Claim7.holds Tryz.pinned (.plain (OpenSpec.ofChange fnExactNamesOfSpec)) fnExactNamesOfCard

/-- THE SECOND FORM's CARD OF 'laws.FnExactReadSum'. -/
def fnExactReadSumUptoCard : Claim7 := { stood := { row := fnExactReadSumUptoRow, standIns := [], harness := (true, "1432758e2ceddb1ae852fdb372b239ce3fbd03d683ead7739157d7276d874b57"), looks := true }, kinds := [], alts := [], laidByText := true, laidKinds := [.data, .data, .data, .sentinel, .sentinel, .data], laidTests := true, laidLooks := .later }
def FnExactReadSumUptoCardSaid : Prop := Claim7.holds Tryz.pinned (.plain (OpenSpec.upto fnExactReadSumSpec)) fnExactReadSumUptoCard

/-- THE SECOND FORM's CARD OF 'laws.FnExactNamesOf'. -/
def fnExactNamesOfUptoCard : Claim7 := { stood := { row := fnExactNamesOfUptoRow, standIns := [], harness := (true, "1432758e2ceddb1ae852fdb372b239ce3fbd03d683ead7739157d7276d874b57"), looks := true }, kinds := [], alts := [], laidByText := true, laidKinds := [.data, .data, .data, .sentinel, .sentinel], laidTests := true, laidLooks := .later }
def FnExactNamesOfUptoCardSaid : Prop := Claim7.holds Tryz.pinned (.plain (OpenSpec.upto fnExactNamesOfSpec)) fnExactNamesOfUptoCard
end Rows
end Go.Proofs.YtfokdblojlmnlamGreatDoor
