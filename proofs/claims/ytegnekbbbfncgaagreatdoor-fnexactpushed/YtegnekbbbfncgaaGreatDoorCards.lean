/-
  DERIVED. GIVEN WITH THE SEED: THE CARDS: each row of YtegnekbbbfncgaaGreatDoorRows.lean that lists a variable, with what it lists TIED to the program's text (the seventh form; the later family's looks); each row that meets fmt, with fmt's text TOLD by the authors' own Lean function (tested against real Go, not proved from fmt's source: count such statements apart). THE CARD IS WHAT COUNTS. Prove the row's statement (the work); the ties are given (YtegnekbbbfncgaaGreatDoorTie.lean); close each card by the builder's one call (the guide's Derived/Test/ToyasCard.lean, 'card_holds'). Laid BY PROGRAM, IN A SANDBOX (cutbox-door.mjs). By AI agents, Wed Nov 11 2026. No macro, syntax, notation, axiom, sorry.
-/
import Derived.Test.YtegnekbbbfncgaaGreatDoorRows
import GoSem.ClaimSeven
namespace Go.Proofs.YtegnekbbbfncgaaGreatDoor
namespace Rows

/-- THE TIED CARD OF 'laws.FnExactThrough'. -/
def fnExactThroughCard : Claim7 := { stood := { row := fnExactThroughRow, standIns := [], harness := (true, "1c373f3358f059b40ec16981c3308d984409640284542f85b36c84fc26006f7a"), looks := true }, kinds := [], alts := [], laidByText := true, laidKinds := [.data, .data, .data, .handle, .sentinel, .sentinel, .sentinel, .sentinel, .sentinel, .sentinel, .sentinel], laidTests := true, laidLooks := .later }
def FnExactThroughCardSaid : Prop := Claim7.holds Tryz.pinned (.plain (OpenSpec.ofChange fnExactThroughSpec)) fnExactThroughCard

/-- THE TIED CARD OF 'laws.FnExactMeant'. -/
def fnExactMeantCard : Claim7 := { stood := { row := fnExactMeantRow, standIns := [], harness := (true, "1c373f3358f059b40ec16981c3308d984409640284542f85b36c84fc26006f7a"), looks := true }, kinds := [], alts := [], laidByText := true, laidKinds := [.data, .data, .data, .handle, .sentinel, .sentinel, .sentinel, .sentinel, .sentinel, .sentinel, .sentinel], laidTests := true, laidLooks := .later }
def FnExactMeantCardSaid : Prop := Claim7.holds Tryz.pinned (.plain (OpenSpec.ofChange fnExactMeantSpec)) fnExactMeantCard

/-- THE TIED CARD OF 'laws.FnExactMaySwap'. -/
def fnExactMaySwapCard : Claim7 := { stood := { row := fnExactMaySwapRow, standIns := [], harness := (true, "1c373f3358f059b40ec16981c3308d984409640284542f85b36c84fc26006f7a"), looks := true }, kinds := [], alts := [], laidByText := true, laidKinds := [.data, .data, .data, .sentinel, .sentinel, .sentinel], laidTests := true, laidLooks := .later }
def FnExactMaySwapCardSaid : Prop := Claim7.holds Tryz.pinned (.plain (OpenSpec.ofChange fnExactMaySwapSpec)) fnExactMaySwapCard

/-- THE TIED CARD OF 'laws.FnExactPushed'. -/
def fnExactPushedCard : Claim7 := { stood := { row := fnExactPushedRow, standIns := [], harness := (true, "1c373f3358f059b40ec16981c3308d984409640284542f85b36c84fc26006f7a"), looks := true }, kinds := [], alts := [], laidByText := true, laidKinds := [.data, .data, .data, .sentinel, .sentinel, .sentinel], laidTests := true, laidLooks := .later }
def FnExactPushedCardSaid : Prop := Claim7.holds Tryz.pinned (.plain (OpenSpec.ofChange fnExactPushedSpec)) fnExactPushedCard

/-- THE TIED CARD OF 'laws.FnExactMerged'. -/
def fnExactMergedCard : Claim7 := { stood := { row := fnExactMergedRow, standIns := [], harness := (true, "1c373f3358f059b40ec16981c3308d984409640284542f85b36c84fc26006f7a"), looks := true }, kinds := [], alts := [], laidByText := true, laidKinds := [.data, .data, .data, .sentinel, .sentinel], laidTests := true, laidLooks := .later }
def FnExactMergedCardSaid : Prop := Claim7.holds Tryz.pinned (.plain (OpenSpec.ofChange fnExactMergedSpec)) fnExactMergedCard

/-- THE SECOND FORM's CARD OF 'laws.FnExactThrough'. -/
def fnExactThroughUptoCard : Claim7 := { stood := { row := fnExactThroughUptoRow, standIns := [], harness := (true, "1c373f3358f059b40ec16981c3308d984409640284542f85b36c84fc26006f7a"), looks := true }, kinds := [], alts := [], laidByText := true, laidKinds := [.data, .data, .data, .handle, .sentinel, .sentinel, .sentinel, .sentinel, .sentinel, .sentinel, .sentinel], laidTests := true, laidLooks := .later }
def FnExactThroughUptoCardSaid : Prop := Claim7.holds Tryz.pinned (.plain (OpenSpec.upto fnExactThroughSpec)) fnExactThroughUptoCard

/-- THE SECOND FORM's CARD OF 'laws.FnExactMeant'. -/
def fnExactMeantUptoCard : Claim7 := { stood := { row := fnExactMeantUptoRow, standIns := [], harness := (true, "1c373f3358f059b40ec16981c3308d984409640284542f85b36c84fc26006f7a"), looks := true }, kinds := [], alts := [], laidByText := true, laidKinds := [.data, .data, .data, .handle, .sentinel, .sentinel, .sentinel, .sentinel, .sentinel, .sentinel, .sentinel], laidTests := true, laidLooks := .later }
def FnExactMeantUptoCardSaid : Prop := Claim7.holds Tryz.pinned (.plain (OpenSpec.upto fnExactMeantSpec)) fnExactMeantUptoCard

/-- THE SECOND FORM's CARD OF 'laws.FnExactMaySwap'. -/
def fnExactMaySwapUptoCard : Claim7 := { stood := { row := fnExactMaySwapUptoRow, standIns := [], harness := (true, "1c373f3358f059b40ec16981c3308d984409640284542f85b36c84fc26006f7a"), looks := true }, kinds := [], alts := [], laidByText := true, laidKinds := [.data, .data, .data, .sentinel, .sentinel, .sentinel], laidTests := true, laidLooks := .later }
def FnExactMaySwapUptoCardSaid : Prop := Claim7.holds Tryz.pinned (.plain (OpenSpec.upto fnExactMaySwapSpec)) fnExactMaySwapUptoCard

/-- THE SECOND FORM's CARD OF 'laws.FnExactPushed'. -/
def fnExactPushedUptoCard : Claim7 := { stood := { row := fnExactPushedUptoRow, standIns := [], harness := (true, "1c373f3358f059b40ec16981c3308d984409640284542f85b36c84fc26006f7a"), looks := true }, kinds := [], alts := [], laidByText := true, laidKinds := [.data, .data, .data, .sentinel, .sentinel, .sentinel], laidTests := true, laidLooks := .later }
def FnExactPushedUptoCardSaid : Prop := Claim7.holds Tryz.pinned (.plain (OpenSpec.upto fnExactPushedSpec)) fnExactPushedUptoCard

/-- THE SECOND FORM's CARD OF 'laws.FnExactMerged'. -/
def fnExactMergedUptoCard : Claim7 := { stood := { row := fnExactMergedUptoRow, standIns := [], harness := (true, "1c373f3358f059b40ec16981c3308d984409640284542f85b36c84fc26006f7a"), looks := true }, kinds := [], alts := [], laidByText := true, laidKinds := [.data, .data, .data, .sentinel, .sentinel], laidTests := true, laidLooks := .later }
def FnExactMergedUptoCardSaid : Prop := Claim7.holds Tryz.pinned (.plain (OpenSpec.upto fnExactMergedSpec)) fnExactMergedUptoCard
end Rows
end Go.Proofs.YtegnekbbbfncgaaGreatDoor
