/-
  DERIVED. GIVEN WITH THE SEED: THE CARDS: each row of YtmmandkellhbeaaGreatDoorRows.lean that lists a variable, with what it lists TIED to the program's text (the seventh form; the later family's looks); each row that meets fmt, with fmt's text TOLD by the authors' own Lean function (tested against real Go, not proved from fmt's source: count such statements apart). THE CARD IS WHAT COUNTS. Prove the row's statement (the work); the ties are given (YtmmandkellhbeaaGreatDoorTie.lean); close each card by the builder's one call (the guide's Derived/Test/ToyasCard.lean, 'card_holds'). Laid BY PROGRAM, IN A SANDBOX (cutbox-door.mjs). By AI agents, Wed Nov 11 2026. No macro, syntax, notation, axiom, sorry.
-/
import Derived.Test.YtmmandkellhbeaaGreatDoorRows
import GoSem.ClaimSeven
namespace Go.Proofs.YtmmandkellhbeaaGreatDoor
namespace Rows

/-- THE TIED CARD OF 'laws.FnExactSieveOk'. -/
def fnExactSieveOkCard : Claim7 := { stood := { row := fnExactSieveOkRow, standIns := [], harness := (true, "6fc558e0cf9701dc7a1c7d6ae1b1fb54290af469a5bd5a4795fd7d40b67aab1e"), looks := true }, kinds := [], alts := [], laidByText := true, laidKinds := [.data, .data, .data, .sentinel, .sentinel], laidTests := true, laidLooks := .later }
def FnExactSieveOkCardSaid : Prop := Claim7.holds Tryz.pinned (.plain (OpenSpec.ofChange fnExactSieveOkSpec)) fnExactSieveOkCard

/-- THE TIED CARD OF 'laws.FnExactAskOk'. -/
def fnExactAskOkCard : Claim7 := { stood := { row := fnExactAskOkRow, standIns := [], harness := (true, "6fc558e0cf9701dc7a1c7d6ae1b1fb54290af469a5bd5a4795fd7d40b67aab1e"), looks := true }, kinds := [], alts := [], laidByText := true, laidKinds := [.data, .data, .data, .sentinel, .sentinel], laidTests := true, laidLooks := .later }
def FnExactAskOkCardSaid : Prop := Claim7.holds Tryz.pinned (.plain (OpenSpec.ofChange fnExactAskOkSpec)) fnExactAskOkCard

/-- THE TIED CARD OF 'laws.FnExactShowAsk'. -/
def fnExactShowAskCard : Claim7 := { stood := { row := fnExactShowAskRow, standIns := [], harness := (true, "6fc558e0cf9701dc7a1c7d6ae1b1fb54290af469a5bd5a4795fd7d40b67aab1e"), looks := true }, kinds := [], alts := [], laidByText := true, laidKinds := [.data, .data, .data, .sentinel, .sentinel, .data], laidTests := true, laidLooks := .later }
def FnExactShowAskCardSaid : Prop := Claim7.holds Tryz.pinned (.plain (OpenSpec.ofChange fnExactShowAskSpec)) fnExactShowAskCard

/-- THE TIED CARD OF 'laws.FnExactReadAsk'. -/
def fnExactReadAskCard : Claim7 := { stood := { row := fnExactReadAskRow, standIns := [], harness := (true, "6fc558e0cf9701dc7a1c7d6ae1b1fb54290af469a5bd5a4795fd7d40b67aab1e"), looks := true }, kinds := [], alts := [], laidByText := true, laidKinds := [.data, .data, .data, .data, .sentinel, .sentinel, .data, .pinned], laidTests := true, laidLooks := .later }
def FnExactReadAskCardSaid : Prop := Claim7.holds Tryz.pinned (.plain (OpenSpec.ofChange fnExactReadAskSpec)) fnExactReadAskCard

/-- THE SECOND FORM's CARD OF 'laws.FnExactSieveOk'. -/
def fnExactSieveOkUptoCard : Claim7 := { stood := { row := fnExactSieveOkUptoRow, standIns := [], harness := (true, "6fc558e0cf9701dc7a1c7d6ae1b1fb54290af469a5bd5a4795fd7d40b67aab1e"), looks := true }, kinds := [], alts := [], laidByText := true, laidKinds := [.data, .data, .data, .sentinel, .sentinel], laidTests := true, laidLooks := .later }
def FnExactSieveOkUptoCardSaid : Prop := Claim7.holds Tryz.pinned (.plain (OpenSpec.upto fnExactSieveOkSpec)) fnExactSieveOkUptoCard

/-- THE SECOND FORM's CARD OF 'laws.FnExactAskOk'. -/
def fnExactAskOkUptoCard : Claim7 := { stood := { row := fnExactAskOkUptoRow, standIns := [], harness := (true, "6fc558e0cf9701dc7a1c7d6ae1b1fb54290af469a5bd5a4795fd7d40b67aab1e"), looks := true }, kinds := [], alts := [], laidByText := true, laidKinds := [.data, .data, .data, .sentinel, .sentinel], laidTests := true, laidLooks := .later }
def FnExactAskOkUptoCardSaid : Prop := Claim7.holds Tryz.pinned (.plain (OpenSpec.upto fnExactAskOkSpec)) fnExactAskOkUptoCard

/-- THE SECOND FORM's CARD OF 'laws.FnExactShowAsk'. -/
def fnExactShowAskUptoCard : Claim7 := { stood := { row := fnExactShowAskUptoRow, standIns := [], harness := (true, "6fc558e0cf9701dc7a1c7d6ae1b1fb54290af469a5bd5a4795fd7d40b67aab1e"), looks := true }, kinds := [], alts := [], laidByText := true, laidKinds := [.data, .data, .data, .sentinel, .sentinel, .data], laidTests := true, laidLooks := .later }
def FnExactShowAskUptoCardSaid : Prop := Claim7.holds Tryz.pinned (.plain (OpenSpec.upto fnExactShowAskSpec)) fnExactShowAskUptoCard

/-- THE SECOND FORM's CARD OF 'laws.FnExactReadAsk'. -/
def fnExactReadAskUptoCard : Claim7 := { stood := { row := fnExactReadAskUptoRow, standIns := [], harness := (true, "6fc558e0cf9701dc7a1c7d6ae1b1fb54290af469a5bd5a4795fd7d40b67aab1e"), looks := true }, kinds := [], alts := [], laidByText := true, laidKinds := [.data, .data, .data, .data, .sentinel, .sentinel, .data, .pinned], laidTests := true, laidLooks := .later }
def FnExactReadAskUptoCardSaid : Prop := Claim7.holds Tryz.pinned (.plain (OpenSpec.upto fnExactReadAskSpec)) fnExactReadAskUptoCard
end Rows
end Go.Proofs.YtmmandkellhbeaaGreatDoor
