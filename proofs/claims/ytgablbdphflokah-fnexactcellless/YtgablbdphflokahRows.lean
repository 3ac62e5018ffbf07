/-
  No cell of these rows narrows 'for every input' (looked for: loops, veiled, ifaces, maps, wideKeys, modest, calm, conditions, laid).
  DERIVED. THE GIVEN ROWS OF THIS SEAT. 6 by the template 'for every input the law returns true; each argument reads behind the call as it read before'; 0 by the template 'total and deterministic' (their statements: YtgablbdphflokahTotals.lean).
  GIVEN WITH THE SEED: the statements are not yours to turn. If you find one false, say at which input.
  Laid BY PROGRAM, IN A SANDBOX (cutbox-rows.mjs): the forced cells as the released guide's own fill.sh prints them over the translation 9452e60eebfab2b7… (all of the seat's roots in one cut). By AI agents, Wed Nov 11 2026. No macro, syntax, notation, axiom, sorry.
-/
import Derived.Test.YtgablbdphflokahChecked
import GoSem.Claim
import GoSem.ClaimJoined
import GoSem.ClaimMapViews
import Derived.JoinedTies
import Derived.KernelRfl
namespace Go.Proofs.Ytgablbdphflokah
/- THE CELL 'sum', in the pinned program and in every row, IS THE sha256 OF THE DUMP (.gsa) THAT YtgablbdphflokahProg.lean LOADS. Nothing in Lean hashes anything: it is a label: what it is worth is what the hold of that sum in a sandbox is worth. -/
noncomputable def Try.pinned : Pinned := { name := "ytgablbdphflokah", sum := "9452e60eebfab2b7ea3fd9c3c9624ee1fad00061c5e79e5ddccacb0b73f5d35a", checked := Try.checked }
namespace Rows
def none {H : Type} : Left H := { results := [], args := [] }

/-- 'laws.FnExactBoth': WHATEVER THE INPUT: true; the input reads as it did. -/
def fnExactBothSpec : ChangeSpec := { name := "fnExactBoth", fn := fun _ => fun
  | [d1, d2] => { results := [.lit (.bool true)], args := [d1, d2] }
  | _ => none }
def fnExactBothRow : OpenClaim := { program := "ytgablbdphflokah", sum := "9452e60eebfab2b7ea3fd9c3c9624ee1fad00061c5e79e5ddccacb0b73f5d35a", func := "loop.example/g00536/laws.FnExactBoth", spec := "fnExactBoth", unfollowed := true, recurses := true, apart := false }
def FnExactBothSaid : Prop := fnExactBothRow.holds Try.pinned (OpenSpec.ofChange fnExactBothSpec)

/-- ITS FALSE NEIGHBOUR: 'it returns false'. Refute it at one input. -/
def fnExactBothWrong : ChangeSpec := { name := "fnExactBoth", fn := fun _ => fun
  | [d1, d2] => { results := [.lit (.bool false)], args := [d1, d2] }
  | _ => none }
def FnExactBothWrongFalsely : Prop := fnExactBothRow.holds Try.pinned (OpenSpec.ofChange fnExactBothWrong)

/-- 'laws.FnExactEither': WHATEVER THE INPUT: true; the input reads as it did. -/
def fnExactEitherSpec : ChangeSpec := { name := "fnExactEither", fn := fun _ => fun
  | [d1, d2] => { results := [.lit (.bool true)], args := [d1, d2] }
  | _ => none }
def fnExactEitherRow : OpenClaim := { program := "ytgablbdphflokah", sum := "9452e60eebfab2b7ea3fd9c3c9624ee1fad00061c5e79e5ddccacb0b73f5d35a", func := "loop.example/g00536/laws.FnExactEither", spec := "fnExactEither", unfollowed := true, recurses := true, apart := false }
def FnExactEitherSaid : Prop := fnExactEitherRow.holds Try.pinned (OpenSpec.ofChange fnExactEitherSpec)

/-- ITS FALSE NEIGHBOUR: 'it returns false'. Refute it at one input. -/
def fnExactEitherWrong : ChangeSpec := { name := "fnExactEither", fn := fun _ => fun
  | [d1, d2] => { results := [.lit (.bool false)], args := [d1, d2] }
  | _ => none }
def FnExactEitherWrongFalsely : Prop := fnExactEitherRow.holds Try.pinned (OpenSpec.ofChange fnExactEitherWrong)

/-- 'laws.FnExactNot': WHATEVER THE INPUT: true; the input reads as it did. -/
def fnExactNotSpec : ChangeSpec := { name := "fnExactNot", fn := fun _ => fun
  | [d] => { results := [.lit (.bool true)], args := [d] }
  | _ => none }
def fnExactNotRow : OpenClaim := { program := "ytgablbdphflokah", sum := "9452e60eebfab2b7ea3fd9c3c9624ee1fad00061c5e79e5ddccacb0b73f5d35a", func := "loop.example/g00536/laws.FnExactNot", spec := "fnExactNot", unfollowed := true, recurses := true, apart := false }
def FnExactNotSaid : Prop := fnExactNotRow.holds Try.pinned (OpenSpec.ofChange fnExactNotSpec)

/-- ITS FALSE NEIGHBOUR: 'it returns false'. Refute it at one input. -/
def fnExactNotWrong : ChangeSpec := { name := "fnExactNot", fn := fun _ => fun
  | [d] => { results := [.lit (.bool false)], args := [d] }
  | _ => none }
def FnExactNotWrongFalsely : Prop := fnExactNotRow.holds Try.pinned (OpenSpec.ofChange fnExactNotWrong)

/-- 'laws.FnExactIsNone': WHATEVER THE INPUT: true; the input reads as it did. -/
def fnExactIsNoneSpec : ChangeSpec := { name := "fnExactIsNone", fn := fun _ => fun
  | [d] => { results := [.lit (.bool true)], args := [d] }
  | _ => none }
def fnExactIsNoneRow : OpenClaim := { program := "ytgablbdphflokah", sum := "9452e60eebfab2b7ea3fd9c3c9624ee1fad00061c5e79e5ddccacb0b73f5d35a", func := "loop.example/g00536/laws.FnExactIsNone", spec := "fnExactIsNone", unfollowed := true, recurses := true, apart := false }
def FnExactIsNoneSaid : Prop := fnExactIsNoneRow.holds Try.pinned (OpenSpec.ofChange fnExactIsNoneSpec)

/-- ITS FALSE NEIGHBOUR: 'it returns false'. Refute it at one input. -/
def fnExactIsNoneWrong : ChangeSpec := { name := "fnExactIsNone", fn := fun _ => fun
  | [d] => { results := [.lit (.bool false)], args := [d] }
  | _ => none }
def FnExactIsNoneWrongFalsely : Prop := fnExactIsNoneRow.holds Try.pinned (OpenSpec.ofChange fnExactIsNoneWrong)

/-- 'laws.FnExactHolds': WHATEVER THE INPUT: true; the input reads as it did. -/
def fnExactHoldsSpec : ChangeSpec := { name := "fnExactHolds", fn := fun _ => fun
  | [d] => { results := [.lit (.bool true)], args := [d] }
  | _ => none }
def fnExactHoldsRow : OpenClaim := { program := "ytgablbdphflokah", sum := "9452e60eebfab2b7ea3fd9c3c9624ee1fad00061c5e79e5ddccacb0b73f5d35a", func := "loop.example/g00536/laws.FnExactHolds", spec := "fnExactHolds", apart := false }
def FnExactHoldsSaid : Prop := fnExactHoldsRow.holds Try.pinned (OpenSpec.ofChange fnExactHoldsSpec)

/-- ITS FALSE NEIGHBOUR: 'it returns false'. Refute it at one input. -/
def fnExactHoldsWrong : ChangeSpec := { name := "fnExactHolds", fn := fun _ => fun
  | [d] => { results := [.lit (.bool false)], args := [d] }
  | _ => none }
def FnExactHoldsWrongFalsely : Prop := fnExactHoldsRow.holds Try.pinned (OpenSpec.ofChange fnExactHoldsWrong)

/-- 'laws.FnExactCellLess': WHATEVER THE INPUT: true; the input reads as it did. -/
def fnExactCellLessSpec : ChangeSpec := { name := "fnExactCellLess", fn := fun _ => fun
  | [d1, d2] => { results := [.lit (.bool true)], args := [d1, d2] }
  | _ => none }
def fnExactCellLessRow : OpenClaim := { program := "ytgablbdphflokah", sum := "9452e60eebfab2b7ea3fd9c3c9624ee1fad00061c5e79e5ddccacb0b73f5d35a", func := "loop.example/g00536/laws.FnExactCellLess", spec := "fnExactCellLess", apart := false }
def FnExactCellLessSaid : Prop := fnExactCellLessRow.holds Try.pinned (OpenSpec.ofChange fnExactCellLessSpec)

/-- ITS FALSE NEIGHBOUR: 'it returns false'. Refute it at one input. -/
def fnExactCellLessWrong : ChangeSpec := { name := "fnExactCellLess", fn := fun _ => fun
  | [d1, d2] => { results := [.lit (.bool false)], args := [d1, d2] }
  | _ => none }
def FnExactCellLessWrongFalsely : Prop := fnExactCellLessRow.holds Try.pinned (OpenSpec.ofChange fnExactCellLessWrong)

/- THE SECOND FORM. 'bulk': how many values and letters a reading holds, each counted each time it is reached (what is shared counts as often as it is met; a slice's spare places count too). A statement '..UptoSaid' is the law's where the arguments, and the package variables that the reading takes, are together of bulk at most 1048576: NARROWER than '..Said'. Prove '..Said' where nothing that the law and all that it calls make is longer than what came in: it says more and counts as full. Else prove '..UptoSaid'. A law counts once. -/
mutual
def uptoBulk {H : Type} : DataW H → Nat
  | .lit (.string bytes) => bytes.length + 1
  | .lit _ => 1
  | .nil => 1
  | .ptr d => uptoBulk d + 1
  | .slice elems spare => uptoBulkAll elems + uptoBulkAll spare + 1
  | .agg parts => uptoBulkAll parts + 1
  | .iface _ d => uptoBulk d + 1
  | .map entries => uptoBulkEntries entries + 1
  | .held _ => 1
def uptoBulkAll {H : Type} : List (DataW H) → Nat
  | [] => 0
  | d :: r => uptoBulk d + uptoBulkAll r
def uptoBulkEntries {H : Type} : List (Lit × DataW H) → Nat
  | [] => 0
  | x :: r => uptoBulkEntry x + uptoBulkEntries r
def uptoBulkEntry {H : Type} : Lit × DataW H → Nat
  | (.string bytes, d) => bytes.length + uptoBulk d + 1
  | (_, d) => uptoBulk d + 1
 end
def uptoSmall : (H : Type) → List (DataW H) → Bool := fun _ ds => decide (uptoBulkAll ds ≤ 1048576)
def OpenSpec.upto (s : _root_.Go.ChangeSpec) : _root_.Go.OpenSpec := { _root_.Go.OpenSpec.ofChange s with cond := some uptoSmall }

/-- 'laws.FnExactBoth', WHERE WHAT IT READS IS OF BULK AT MOST 1048576: true; the input reads as it did. -/
def fnExactBothUptoRow : OpenClaim := { program := "ytgablbdphflokah", sum := "9452e60eebfab2b7ea3fd9c3c9624ee1fad00061c5e79e5ddccacb0b73f5d35a", func := "loop.example/g00536/laws.FnExactBoth", spec := "fnExactBoth", unfollowed := true, recurses := true, apart := false, narrowed := true }
def FnExactBothUptoSaid : Prop := fnExactBothUptoRow.holds Try.pinned (OpenSpec.upto fnExactBothSpec)

/-- 'laws.FnExactEither', WHERE WHAT IT READS IS OF BULK AT MOST 1048576: true; the input reads as it did. -/
def fnExactEitherUptoRow : OpenClaim := { program := "ytgablbdphflokah", sum := "9452e60eebfab2b7ea3fd9c3c9624ee1fad00061c5e79e5ddccacb0b73f5d35a", func := "loop.example/g00536/laws.FnExactEither", spec := "fnExactEither", unfollowed := true, recurses := true, apart := false, narrowed := true }
def FnExactEitherUptoSaid : Prop := fnExactEitherUptoRow.holds Try.pinned (OpenSpec.upto fnExactEitherSpec)

/-- 'laws.FnExactNot', WHERE WHAT IT READS IS OF BULK AT MOST 1048576: true; the input reads as it did. -/
def fnExactNotUptoRow : OpenClaim := { program := "ytgablbdphflokah", sum := "9452e60eebfab2b7ea3fd9c3c9624ee1fad00061c5e79e5ddccacb0b73f5d35a", func := "loop.example/g00536/laws.FnExactNot", spec := "fnExactNot", unfollowed := true, recurses := true, apart := false, narrowed := true }
def FnExactNotUptoSaid : Prop := fnExactNotUptoRow.holds Try.pinned (OpenSpec.upto fnExactNotSpec)

/-- 'laws.FnExactIsNone', WHERE WHAT IT READS IS OF BULK AT MOST 1048576: true; the input reads as it did. -/
def fnExactIsNoneUptoRow : OpenClaim := { program := "ytgablbdphflokah", sum := "9452e60eebfab2b7ea3fd9c3c9624ee1fad00061c5e79e5ddccacb0b73f5d35a", func := "loop.example/g00536/laws.FnExactIsNone", spec := "fnExactIsNone", unfollowed := true, recurses := true, apart := false, narrowed := true }
def FnExactIsNoneUptoSaid : Prop := fnExactIsNoneUptoRow.holds Try.pinned (OpenSpec.upto fnExactIsNoneSpec)

/-- 'laws.FnExactHolds', WHERE WHAT IT READS IS OF BULK AT MOST 1048576: true; the input reads as it did. -/
def fnExactHoldsUptoRow : OpenClaim := { program := "ytgablbdphflokah", sum := "9452e60eebfab2b7ea3fd9c3c9624ee1fad00061c5e79e5ddccacb0b73f5d35a", func := "loop.example/g00536/laws.FnExactHolds", spec := "fnExactHolds", apart := false, narrowed := true }
def FnExactHoldsUptoSaid : Prop := fnExactHoldsUptoRow.holds Try.pinned (OpenSpec.upto fnExactHoldsSpec)

/-- 'laws.FnExactCellLess', WHERE WHAT IT READS IS OF BULK AT MOST 1048576: true; the input reads as it did. -/
def fnExactCellLessUptoRow : OpenClaim := { program := "ytgablbdphflokah", sum := "9452e60eebfab2b7ea3fd9c3c9624ee1fad00061c5e79e5ddccacb0b73f5d35a", func := "loop.example/g00536/laws.FnExactCellLess", spec := "fnExactCellLess", apart := false, narrowed := true }
def FnExactCellLessUptoSaid : Prop := fnExactCellLessUptoRow.holds Try.pinned (OpenSpec.upto fnExactCellLessSpec)

end Rows
end Go.Proofs.Ytgablbdphflokah
