/-
  DERIVED. GIVEN WITH THE SEED: THE CARDS: each row of YtpggjgilklpncaaGreatDoorRows.lean that lists a variable, with what it lists TIED to the program's text (the seventh form; the later family's looks); each row that meets fmt, with fmt's text TOLD by the authors' own Lean function (tested against real Go, not proved from fmt's source: count such statements apart). THE CARD IS WHAT COUNTS. Prove the row's statement (the work); the ties are given (YtpggjgilklpncaaGreatDoorTie.lean); close each card by the builder's one call (the guide's Derived/Test/ToyasCard.lean, 'card_holds'). Laid BY PROGRAM, IN A SANDBOX (cutbox-door.mjs). By AI agents, Wed Nov 11 2026. No macro, syntax, notation, axiom, sorry.
-/
import Derived.Test.YtpggjgilklpncaaGreatDoorRows
import GoSem.ClaimSeven
namespace Go.Proofs.YtpggjgilklpncaaGreatDoor
namespace Rows

/-- THE TIED CARD OF 'laws.FnExactFlows'. -/
def fnExactFlowsCard : Claim7 := { stood := { row := fnExactFlowsRow, standIns := [], harness := (true, "896a23bd6d7f4d7c6e9a62b7433befa2035da6fd95cb5f8fd232057cb5919e72"), looks := true }, kinds := [], alts := [], laidByText := true, laidKinds := [.data, .data, .data, .sentinel, .sentinel], laidTests := true, laidLooks := .later }
def FnExactFlowsCardSaid : Prop := Claim7.holds Tryz.pinned (.plain (OpenSpec.ofChange fnExactFlowsSpec)) fnExactFlowsCard

/-- THE SECOND FORM's CARD OF 'laws.FnExactFlows'. -/
def fnExactFlowsUptoCard : Claim7 := { stood := { row := fnExactFlowsUptoRow, standIns := [], harness := (true, "896a23bd6d7f4d7c6e9a62b7433befa2035da6fd95cb5f8fd232057cb5919e72"), looks := true }, kinds := [], alts := [], laidByText := true, laidKinds := [.data, .data, .data, .sentinel, .sentinel], laidTests := true, laidLooks := .later }
def FnExactFlowsUptoCardSaid : Prop := Claim7.holds Tryz.pinned (.plain (OpenSpec.upto fnExactFlowsSpec)) fnExactFlowsUptoCard
end Rows
end Go.Proofs.YtpggjgilklpncaaGreatDoor
