/-
  DERIVED. GIVEN WITH THE SEED: THE CARDS: each row of YtfokdblojlmnlalDoorRows.lean that lists a variable, with what it lists TIED to the program's text (the seventh form; the later family's looks); each row that meets fmt, with fmt's text TOLD by the authors' own Lean function (tested against real Go, not proved from fmt's source: count such statements apart). THE CARD IS WHAT COUNTS. Prove the row's statement (the work); the ties are given (YtfokdblojlmnlalDoorTie.lean); close each card by the builder's one call (the guide's Derived/Test/ToyasCard.lean, 'card_holds'). Laid BY PROGRAM, IN A SANDBOX (cutbox-door.mjs). By AI agents, Wed Nov 11 2026. No macro, syntax, notation, axiom, sorry.
-/
import Derived.Test.YtfokdblojlmnlalDoorRows
import GoSem.ClaimSeven
namespace Go.Proofs.YtfokdblojlmnlalDoor
namespace Rows

/-- THE TIED CARD OF 'laws.FnExactTokenOk'. -/
def fnExactTokenOkCard : Claim7 := { stood := { row := fnExactTokenOkRow, standIns := [], harness := (true, "7c55a1d3d97cb3be38808809afb4b2cec355a6c430efb18658f2dbf1be102c42"), looks := true }, kinds := [], alts := [], laidByText := true, laidKinds := [.data, .data, .data, .sentinel, .sentinel], laidTests := true, laidLooks := .later }
def FnExactTokenOkCardSaid : Prop := Claim7.holds Tryd.pinned (.plain (OpenSpec.ofChange fnExactTokenOkSpec)) fnExactTokenOkCard

/-- THE TIED CARD OF 'laws.FnExactTokensOf'. -/
def fnExactTokensOfCard : Claim7 := { stood := { row := fnExactTokensOfRow, standIns := [], harness := (true, "7c55a1d3d97cb3be38808809afb4b2cec355a6c430efb18658f2dbf1be102c42"), looks := true }, kinds := [], alts := [], laidByText := true, laidKinds := [.data, .data, .data, .sentinel, .sentinel], laidTests := true, laidLooks := .later }
def FnExactTokensOfCardSaid : Prop := Claim7.holds Tryd.pinned (.plain (OpenSpec.ofChange fnExactTokensOfSpec)) fnExactTokensOfCard

/-- THE TIED CARD OF 'laws.FnExactTextOf'. -/
def fnExactTextOfCard : Claim7 := { stood := { row := fnExactTextOfRow, standIns := [], harness := (true, "7c55a1d3d97cb3be38808809afb4b2cec355a6c430efb18658f2dbf1be102c42"), looks := true }, kinds := [], alts := [], laidByText := true, laidKinds := [.data, .data, .data, .sentinel, .sentinel], laidTests := true, laidLooks := .later }
def FnExactTextOfCardSaid : Prop := Claim7.holds Tryd.pinned (.plain (OpenSpec.ofChange fnExactTextOfSpec)) fnExactTextOfCard

/-- THE TIED CARD OF 'laws.FnExactSumOk'. -/
def fnExactSumOkCard : Claim7 := { stood := { row := fnExactSumOkRow, standIns := [], harness := (true, "7c55a1d3d97cb3be38808809afb4b2cec355a6c430efb18658f2dbf1be102c42"), looks := true }, kinds := [], alts := [], laidByText := true, laidKinds := [.data, .data, .data, .sentinel, .sentinel], laidTests := true, laidLooks := .later }
def FnExactSumOkCardSaid : Prop := Claim7.holds Tryd.pinned (.plain (OpenSpec.ofChange fnExactSumOkSpec)) fnExactSumOkCard

/-- THE SECOND FORM's CARD OF 'laws.FnExactTokenOk'. -/
def fnExactTokenOkUptoCard : Claim7 := { stood := { row := fnExactTokenOkUptoRow, standIns := [], harness := (true, "7c55a1d3d97cb3be38808809afb4b2cec355a6c430efb18658f2dbf1be102c42"), looks := true }, kinds := [], alts := [], laidByText := true, laidKinds := [.data, .data, .data, .sentinel, .sentinel], laidTests := true, laidLooks := .later }
def FnExactTokenOkUptoCardSaid : Prop := Claim7.holds Tryd.pinned (.plain (OpenSpec.upto fnExactTokenOkSpec)) fnExactTokenOkUptoCard

/-- THE SECOND FORM's CARD OF 'laws.FnExactTokensOf'. -/
def fnExactTokensOfUptoCard : Claim7 := { stood := { row := fnExactTokensOfUptoRow, standIns := [], harness := (true, "7c55a1d3d97cb3be38808809afb4b2cec355a6c430efb18658f2dbf1be102c42"), looks := true }, kinds := [], alts := [], laidByText := true, laidKinds := [.data, .data, .data, .sentinel, .sentinel], laidTests := true, laidLooks := .later }
def FnExactTokensOfUptoCardSaid : Prop := Claim7.holds Tryd.pinned (.plain (OpenSpec.upto fnExactTokensOfSpec)) fnExactTokensOfUptoCard

/-- THE SECOND FORM's CARD OF 'laws.FnExactTextOf'. -/
def fnExactTextOfUptoCard : Claim7 := { stood := { row := fnExactTextOfUptoRow, standIns := [], harness := (true, "7c55a1d3d97cb3be38808809afb4b2cec355a6c430efb18658f2dbf1be102c42"), looks := true }, kinds := [], alts := [], laidByText := true, laidKinds := [.data, .data, .data, .sentinel, .sentinel], laidTests := true, laidLooks := .later }
def FnExactTextOfUptoCardSaid : Prop := Claim7.holds Tryd.pinned (.plain (OpenSpec.upto fnExactTextOfSpec)) fnExactTextOfUptoCard

/-- THE SECOND FORM's CARD OF 'laws.FnExactSumOk'. -/
def fnExactSumOkUptoCard : Claim7 := { stood := { row := fnExactSumOkUptoRow, standIns := [], harness := (true, "7c55a1d3d97cb3be38808809afb4b2cec355a6c430efb18658f2dbf1be102c42"), looks := true }, kinds := [], alts := [], laidByText := true, laidKinds := [.data, .data, .data, .sentinel, .sentinel], laidTests := true, laidLooks := .later }
def FnExactSumOkUptoCardSaid : Prop := Claim7.holds Tryd.pinned (.plain (OpenSpec.upto fnExactSumOkSpec)) fnExactSumOkUptoCard
end Rows
end Go.Proofs.YtfokdblojlmnlalDoor
