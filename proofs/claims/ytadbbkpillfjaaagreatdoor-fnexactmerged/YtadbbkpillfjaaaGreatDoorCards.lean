/-
  DERIVED. GIVEN WITH THE SEED: THE CARDS: each row of YtadbbkpillfjaaaGreatDoorRows.lean that lists a variable, with what it lists TIED to the program's text (the seventh form; the later family's looks); each row that meets fmt, with fmt's text TOLD by the authors' own Lean function (tested against real Go, not proved from fmt's source: count such statements apart). THE CARD IS WHAT COUNTS. Prove the row's statement (the work); the ties are given (YtadbbkpillfjaaaGreatDoorTie.lean); close each card by the builder's one call (the guide's Derived/Test/ToyasCard.lean, 'card_holds'). Laid BY PROGRAM, IN A SANDBOX (cutbox-door.mjs). By AI agents, Wed Nov 11 2026. No macro, syntax, notation, axiom, sorry.
-/
import Derived.Test.YtadbbkpillfjaaaGreatDoorRows
import GoSem.ClaimSeven
namespace Go.Proofs.YtadbbkpillfjaaaGreatDoor
namespace Rows

/-- THE TIED CARD OF 'laws.FnExactMerged'. -/
def fnExactMergedCard : Claim7 := { stood := { row := fnExactMergedRow, standIns := [], harness := (true, "5e13ddef902ddd7a704405f851538cc9e2a8cbd8e754bf1a9fb3955c6b74242c"), looks := true }, kinds := [], alts := [], laidByText := true, laidKinds := [.data, .data, .data, .sentinel, .sentinel], laidTests := true, laidLooks := .later }
def FnExactMergedCardSaid : Prop := Claim7.holds Tryz.pinned (.plain (OpenSpec.ofChange fnExactMergedSpec)) fnExactMergedCard

/-- THE SECOND FORM's CARD OF 'laws.FnExactMerged'. -/
def fnExactMergedUptoCard : Claim7 := { stood := { row := fnExactMergedUptoRow, standIns := [], harness := (true, "5e13ddef902ddd7a704405f851538cc9e2a8cbd8e754bf1a9fb3955c6b74242c"), looks := true }, kinds := [], alts := [], laidByText := true, laidKinds := [.data, .data, .data, .sentinel, .sentinel], laidTests := true, laidLooks := .later }
def FnExactMergedUptoCardSaid : Prop := Claim7.holds Tryz.pinned (.plain (OpenSpec.upto fnExactMergedSpec)) fnExactMergedUptoCard
end Rows
end Go.Proofs.YtadbbkpillfjaaaGreatDoor
