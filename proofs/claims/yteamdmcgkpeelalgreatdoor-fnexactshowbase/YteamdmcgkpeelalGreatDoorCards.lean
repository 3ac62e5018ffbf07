/-
  DERIVED. GIVEN WITH THE SEED: THE CARDS: each row of YteamdmcgkpeelalGreatDoorRows.lean that lists a variable, with what it lists TIED to the program's text (the seventh form; the later family's looks); each row that meets fmt, with fmt's text TOLD by the authors' own Lean function (tested against real Go, not proved from fmt's source: count such statements apart). THE CARD IS WHAT COUNTS. Prove the row's statement (the work); the ties are given (YteamdmcgkpeelalGreatDoorTie.lean); close each card by the builder's one call (the guide's Derived/Test/ToyasCard.lean, 'card_holds'). Laid BY PROGRAM, IN A SANDBOX (cutbox-door.mjs). By AI agents, Wed Nov 11 2026. No macro, syntax, notation, axiom, sorry.
-/
import Derived.Test.YteamdmcgkpeelalGreatDoorRows
import GoSem.ClaimSeven
namespace Go.Proofs.YteamdmcgkpeelalGreatDoor
namespace Rows

/-- THE TIED CARD OF 'laws.FnExactShowBase'. -/
def fnExactShowBaseCard : Claim7 := { stood := { row := fnExactShowBaseRow, standIns := [], harness := (true, "1a6119516ddf932513f20b5cdff64c667f63d29f114cdd4accb2468c1e003538"), looks := true }, kinds := [], alts := [], laidByText := true, laidKinds := [.data, .data, .data], laidTests := true, laidLooks := .later }
def FnExactShowBaseCardSaid : Prop := Claim7.holds Tryz.pinned (.plain (OpenSpec.ofChange fnExactShowBaseSpec)) fnExactShowBaseCard

/-- THE SECOND FORM's CARD OF 'laws.FnExactShowBase'. -/
def fnExactShowBaseUptoCard : Claim7 := { stood := { row := fnExactShowBaseUptoRow, standIns := [], harness := (true, "1a6119516ddf932513f20b5cdff64c667f63d29f114cdd4accb2468c1e003538"), looks := true }, kinds := [], alts := [], laidByText := true, laidKinds := [.data, .data, .data], laidTests := true, laidLooks := .later }
def FnExactShowBaseUptoCardSaid : Prop := Claim7.holds Tryz.pinned (.plain (OpenSpec.upto fnExactShowBaseSpec)) fnExactShowBaseUptoCard
end Rows
end Go.Proofs.YteamdmcgkpeelalGreatDoor
