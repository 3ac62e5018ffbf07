/-
  DERIVED. GIVEN WITH THE SEED: THE CARDS: each row of YtmhamgcjmehnnaaDoorRows.lean that lists a variable, with what it lists TIED to the program's text (the seventh form; the later family's looks); each row that meets fmt, with fmt's text TOLD by the authors' own Lean function (tested against real Go, not proved from fmt's source: count such statements apart). THE CARD IS WHAT COUNTS. Prove the row's statement (the work); the ties are given (YtmhamgcjmehnnaaDoorTie.lean); close each card by the builder's one call (the guide's Derived/Test/ToyasCard.lean, 'card_holds'). Laid BY PROGRAM, IN A SANDBOX (cutbox-door.mjs). By AI agents, Wed Nov 11 2026. No macro, syntax, notation, axiom, sorry.
-/
import Derived.Test.YtmhamgcjmehnnaaDoorRows
import GoSem.ClaimSeven
namespace Go.Proofs.YtmhamgcjmehnnaaDoor
namespace Rows

/-- THE TIED CARD OF 'laws.FnExactFastOk'. -/
def fnExactFastOkCard : Claim7 := { stood := { row := fnExactFastOkRow, standIns := [], harness := (true, "c7453d25731cfa44d7959bde96f15be585a4e085abc696576fef176c01f1e324"), looks := false }, kinds := [], alts := [], laidByText := true, laidKinds := [.data], laidTests := true, laidLooks := .later }
def FnExactFastOkCardSaid : Prop := Claim7.holds Tryd.pinned (.plain (OpenSpec.ofChange fnExactFastOkSpec)) fnExactFastOkCard

/-- THE SECOND FORM's CARD OF 'laws.FnExactFastOk'. -/
def fnExactFastOkUptoCard : Claim7 := { stood := { row := fnExactFastOkUptoRow, standIns := [], harness := (true, "c7453d25731cfa44d7959bde96f15be585a4e085abc696576fef176c01f1e324"), looks := false }, kinds := [], alts := [], laidByText := true, laidKinds := [.data], laidTests := true, laidLooks := .later }
def FnExactFastOkUptoCardSaid : Prop := Claim7.holds Tryd.pinned (.plain (OpenSpec.upto fnExactFastOkSpec)) fnExactFastOkUptoCard
end Rows
end Go.Proofs.YtmhamgcjmehnnaaDoor
