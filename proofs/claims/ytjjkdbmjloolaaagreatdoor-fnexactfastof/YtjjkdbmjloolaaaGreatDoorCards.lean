/-
  DERIVED. GIVEN WITH THE SEED: THE CARDS: each row of YtjjkdbmjloolaaaGreatDoorRows.lean that lists a variable, with what it lists TIED to the program's text (the seventh form; the later family's looks); each row that meets fmt, with fmt's text TOLD by the authors' own Lean function (tested against real Go, not proved from fmt's source: count such statements apart). THE CARD IS WHAT COUNTS. Prove the row's statement (the work); the ties are given (YtjjkdbmjloolaaaGreatDoorTie.lean); close each card by the builder's one call (the guide's Derived/Test/ToyasCard.lean, 'card_holds'). Laid BY PROGRAM, IN A SANDBOX (cutbox-door.mjs). By AI agents, Wed Nov 11 2026. No macro, syntax, notation, axiom, sorry.
-/
import Derived.Test.YtjjkdbmjloolaaaGreatDoorRows
import GoSem.ClaimSeven
namespace Go.Proofs.YtjjkdbmjloolaaaGreatDoor
namespace Rows

/-- THE TIED CARD OF 'laws.FnExactFastOf'. -/
def fnExactFastOfCard : Claim7 := { stood := { row := fnExactFastOfRow, standIns := [], harness := (true, "1e4c462b5e8d48a37c10059449dcd31973917dfbfc7cfcd76793decb31958f01"), looks := true }, kinds := [], alts := [], laidByText := true, laidKinds := [.data, .data, .data, .handle, .sentinel, .sentinel, .sentinel, .sentinel, .sentinel, .sentinel, .sentinel], laidTests := true, laidLooks := .later }
def FnExactFastOfCardSaid : Prop := Claim7.holds Tryz.pinned (.plain (OpenSpec.ofChange fnExactFastOfSpec)) fnExactFastOfCard

/-- THE SECOND FORM's CARD OF 'laws.FnExactFastOf'. -/
def fnExactFastOfUptoCard : Claim7 := { stood := { row := fnExactFastOfUptoRow, standIns := [], harness := (true, "1e4c462b5e8d48a37c10059449dcd31973917dfbfc7cfcd76793decb31958f01"), looks := true }, kinds := [], alts := [], laidByText := true, laidKinds := [.data, .data, .data, .handle, .sentinel, .sentinel, .sentinel, .sentinel, .sentinel, .sentinel, .sentinel], laidTests := true, laidLooks := .later }
def FnExactFastOfUptoCardSaid : Prop := Claim7.holds Tryz.pinned (.plain (OpenSpec.upto fnExactFastOfSpec)) fnExactFastOfUptoCard
end Rows
end Go.Proofs.YtjjkdbmjloolaaaGreatDoor
