/-
  DERIVED. GIVEN WITH THE SEED: THE CARDS: each row of YthgbjnchhaoceaaGreatDoorRows.lean that lists a variable, with what it lists TIED to the program's text (the seventh form; the later family's looks); each row that meets fmt, with fmt's text TOLD by the authors' own Lean function (tested against real Go, not proved from fmt's source: count such statements apart). THE CARD IS WHAT COUNTS. Prove the row's statement (the work); the ties are given (YthgbjnchhaoceaaGreatDoorTie.lean); close each card by the builder's one call (the guide's Derived/Test/ToyasCard.lean, 'card_holds'). Laid BY PROGRAM, IN A SANDBOX (cutbox-door.mjs). By AI agents, Wed Nov 11 2026. No macro, syntax, notation, axiom, sorry.
-/
import Derived.Test.YthgbjnchhaoceaaGreatDoorRows
import GoSem.ClaimSeven
namespace Go.Proofs.YthgbjnchhaoceaaGreatDoor
namespace Rows

/-- THE TIED CARD OF 'laws.FnReckon'. -/
def fnReckonCard : Claim7 := { stood := { row := fnReckonRow, standIns := [], harness := (true, "67b038bc17bdff58a5c6430bbf673d9e34097b69de7d5fe0f93fe5de3baff10a"), looks := true }, kinds := [], alts := [], laidByText := true, laidKinds := [.data, .data, .data, .sentinel, .sentinel], laidTests := true, laidLooks := .later }
def FnReckonCardSaid : Prop := Claim7.holds Tryz.pinned (.plain (OpenSpec.ofChange fnReckonSpec)) fnReckonCard

/-- THE TIED CARD OF 'laws.FnExactReckon'. -/
def fnExactReckonCard : Claim7 := { stood := { row := fnExactReckonRow, standIns := [], harness := (true, "67b038bc17bdff58a5c6430bbf673d9e34097b69de7d5fe0f93fe5de3baff10a"), looks := true }, kinds := [], alts := [], laidByText := true, laidKinds := [.data, .data, .data, .sentinel, .sentinel], laidTests := true, laidLooks := .later }
def FnExactReckonCardSaid : Prop := Claim7.holds Tryz.pinned (.plain (OpenSpec.ofChange fnExactReckonSpec)) fnExactReckonCard

/-- THE TIED CARD OF 'laws.FnExactPasses'. -/
def fnExactPassesCard : Claim7 := { stood := { row := fnExactPassesRow, standIns := [], harness := (true, "67b038bc17bdff58a5c6430bbf673d9e34097b69de7d5fe0f93fe5de3baff10a"), looks := true }, kinds := [], alts := [], laidByText := true, laidKinds := [.data, .data, .data, .sentinel, .sentinel], laidTests := true, laidLooks := .later }
def FnExactPassesCardSaid : Prop := Claim7.holds Tryz.pinned (.plain (OpenSpec.ofChange fnExactPassesSpec)) fnExactPassesCard

/-- THE SECOND FORM's CARD OF 'laws.FnReckon'. -/
def fnReckonUptoCard : Claim7 := { stood := { row := fnReckonUptoRow, standIns := [], harness := (true, "67b038bc17bdff58a5c6430bbf673d9e34097b69de7d5fe0f93fe5de3baff10a"), looks := true }, kinds := [], alts := [], laidByText := true, laidKinds := [.data, .data, .data, .sentinel, .sentinel], laidTests := true, laidLooks := .later }
def FnReckonUptoCardSaid : Prop := Claim7.holds Tryz.pinned (.plain (OpenSpec.upto fnReckonSpec)) fnReckonUptoCard

/-- THE SECOND FORM's CARD OF 'laws.FnExactReckon'. -/
def fnExactReckonUptoCard : Claim7 := { stood := { row := fnExactReckonUptoRow, standIns := [], harness := (true, "67b038bc17bdff58a5c6430bbf673d9e34097b69de7d5fe0f93fe5de3baff10a"), looks := true }, kinds := [], alts := [], laidByText := true, laidKinds := [.data, .data, .data, .sentinel, .sentinel], laidTests := true, laidLooks := .later }
def FnExactReckonUptoCardSaid : Prop := Claim7.holds Tryz.pinned (.plain (OpenSpec.upto fnExactReckonSpec)) fnExactReckonUptoCard

/-- THE SECOND FORM's CARD OF 'laws.FnExactPasses'. -/
def fnExactPassesUptoCard : Claim7 := { stood := { row := fnExactPassesUptoRow, standIns := [], harness := (true, "67b038bc17bdff58a5c6430bbf673d9e34097b69de7d5fe0f93fe5de3baff10a"), looks := true }, kinds := [], alts := [], laidByText := true, laidKinds := [.data, .data, .data, .sentinel, .sentinel], laidTests := true, laidLooks := .later }
def FnExactPassesUptoCardSaid : Prop := Claim7.holds Tryz.pinned (.plain (OpenSpec.upto fnExactPassesSpec)) fnExactPassesUptoCard
end Rows
end Go.Proofs.YthgbjnchhaoceaaGreatDoor
