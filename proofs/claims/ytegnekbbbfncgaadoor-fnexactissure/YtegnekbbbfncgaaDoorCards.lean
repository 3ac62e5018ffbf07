/-
  DERIVED. GIVEN WITH THE SEED: THE CARDS: each row of YtegnekbbbfncgaaDoorRows.lean that lists a variable, with what it lists TIED to the program's text (the seventh form; the later family's looks); each row that meets fmt, with fmt's text TOLD by the authors' own Lean function (tested against real Go, not proved from fmt's source: count such statements apart). THE CARD IS WHAT COUNTS. Prove the row's statement (the work); the ties are given (YtegnekbbbfncgaaDoorTie.lean); close each card by the builder's one call (the guide's Derived/Test/ToyasCard.lean, 'card_holds'). Laid BY PROGRAM, IN A SANDBOX (cutbox-door.mjs). By AI agents, Wed Nov 11 2026. No macro, syntax, notation, axiom, sorry.
-/
import Derived.Test.YtegnekbbbfncgaaDoorRows
import GoSem.ClaimSeven
namespace Go.Proofs.YtegnekbbbfncgaaDoor
namespace Rows

/-- THE TIED CARD OF 'laws.FnExactIsSure'. -/
def fnExactIsSureCard : Claim7 := { stood := { row := fnExactIsSureRow, standIns := [], harness := (true, "7210d883d4d7c7ec93553122e0fd596c3afd7cdbf0cb060ec44b012f5225b7f0"), looks := true }, kinds := [], alts := [], laidByText := true, laidKinds := [.data, .data, .data, .sentinel, .sentinel], laidTests := true, laidLooks := .later }
def FnExactIsSureCardSaid : Prop := Claim7.holds Tryd.pinned (.plain (OpenSpec.ofChange fnExactIsSureSpec)) fnExactIsSureCard

/-- THE SECOND FORM's CARD OF 'laws.FnExactIsSure'. -/
def fnExactIsSureUptoCard : Claim7 := { stood := { row := fnExactIsSureUptoRow, standIns := [], harness := (true, "7210d883d4d7c7ec93553122e0fd596c3afd7cdbf0cb060ec44b012f5225b7f0"), looks := true }, kinds := [], alts := [], laidByText := true, laidKinds := [.data, .data, .data, .sentinel, .sentinel], laidTests := true, laidLooks := .later }
def FnExactIsSureUptoCardSaid : Prop := Claim7.holds Tryd.pinned (.plain (OpenSpec.upto fnExactIsSureSpec)) fnExactIsSureUptoCard
end Rows
end Go.Proofs.YtegnekbbbfncgaaDoor
