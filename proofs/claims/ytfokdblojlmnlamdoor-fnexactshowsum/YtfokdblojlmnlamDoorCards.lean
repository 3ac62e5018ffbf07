/-
  DERIVED. GIVEN WITH THE SEED: THE CARDS: each row of YtfokdblojlmnlamDoorRows.lean that lists a variable, with what it lists TIED to the program's text (the seventh form; the later family's looks); each row that meets fmt, with fmt's text TOLD by the authors' own Lean function (tested against real Go, not proved from fmt's source: count such statements apart). THE CARD IS WHAT COUNTS. Prove the row's statement (the work); the ties are given (YtfokdblojlmnlamDoorTie.lean); close each card by the builder's one call (the guide's Derived/Test/ToyasCard.lean, 'card_holds'). Laid BY PROGRAM, IN A SANDBOX (cutbox-door.mjs). By AI agents, Wed Nov 11 2026. No macro, syntax, notation, axiom, sorry.
-/
import Derived.Test.YtfokdblojlmnlamDoorRows
import GoSem.ClaimSeven
namespace Go.Proofs.YtfokdblojlmnlamDoor
namespace Rows

/-- THE TIED CARD OF 'laws.FnExactShowSum'. -/
def fnExactShowSumCard : Claim7 := { stood := { row := fnExactShowSumRow, standIns := [], harness := (true, "9f0b73b62ea59d341c741b3b27a489f77ceb40a943bc32090bca1bd6328d668e"), looks := true }, kinds := [], alts := [], laidByText := true, laidKinds := [.data, .data, .data, .sentinel, .sentinel, .data], laidTests := true, laidLooks := .later }
def FnExactShowSumCardSaid : Prop := Claim7.holds Tryd.pinned (.plain (OpenSpec.ofChange fnExactShowSumSpec)) fnExactShowSumCard

/-- THE TIED CARD OF 'laws.FnExactMayFail'. -/
def fnExactMayFailCard : Claim7 := { stood := { row := fnExactMayFailRow, standIns := [], harness := (true, "9f0b73b62ea59d341c741b3b27a489f77ceb40a943bc32090bca1bd6328d668e"), looks := true }, kinds := [], alts := [], laidByText := true, laidKinds := [.data, .data, .data, .sentinel, .sentinel], laidTests := true, laidLooks := .later }
def FnExactMayFailCardSaid : Prop := Claim7.holds Tryd.pinned (.plain (OpenSpec.ofChange fnExactMayFailSpec)) fnExactMayFailCard

/-- THE SECOND FORM's CARD OF 'laws.FnExactShowSum'. -/
def fnExactShowSumUptoCard : Claim7 := { stood := { row := fnExactShowSumUptoRow, standIns := [], harness := (true, "9f0b73b62ea59d341c741b3b27a489f77ceb40a943bc32090bca1bd6328d668e"), looks := true }, kinds := [], alts := [], laidByText := true, laidKinds := [.data, .data, .data, .sentinel, .sentinel, .data], laidTests := true, laidLooks := .later }
def FnExactShowSumUptoCardSaid : Prop := Claim7.holds Tryd.pinned (.plain (OpenSpec.upto fnExactShowSumSpec)) fnExactShowSumUptoCard

/-- THE SECOND FORM's CARD OF 'laws.FnExactMayFail'. -/
def fnExactMayFailUptoCard : Claim7 := { stood := { row := fnExactMayFailUptoRow, standIns := [], harness := (true, "9f0b73b62ea59d341c741b3b27a489f77ceb40a943bc32090bca1bd6328d668e"), looks := true }, kinds := [], alts := [], laidByText := true, laidKinds := [.data, .data, .data, .sentinel, .sentinel], laidTests := true, laidLooks := .later }
def FnExactMayFailUptoCardSaid : Prop := Claim7.holds Tryd.pinned (.plain (OpenSpec.upto fnExactMayFailSpec)) fnExactMayFailUptoCard
end Rows
end Go.Proofs.YtfokdblojlmnlamDoor
