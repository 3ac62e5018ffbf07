/-
  The contracts of the laws' own helpers (a cell taken over, its size, two cells held against each other) and of both functions that ask whether a cell is right.
-/
import Derived.Test.YtdmiiklegnokjaaWalk1
namespace Go.Proofs.Ytdmiiklegnokjaa
open Go.ChangeShapes Go.WideShapes Go.ChangeAt Go.RowKit

theorem sz_laws (k n : Int) (t : ByteArray) (l : Int) (w : World) (ht : t.size ≤ maxLen) (h0 : 0 ≤ l) (h1 : l ≤ 1048576) :
    Calls Try.prog 19 #[.agg #[.int .i64 k, .int .i64 n, .string t], .int .i64 l] w fun e w' => e = .returned (.int .i64 (if l < (t.size : Int) then -1 else l - t.size)) ∧ Below w.heap.size w w' := by
  unfold maxLen at ht
  by_cases hl : l < (t.size : Int)
  · have hl' : l - (t.size : Int) < 0 := by omega
    go_enter Try.func19, Try.ntmps19
    go_wp2
    go_ret
    exact ⟨rfl, by go_grown⟩
  · have hl' : ¬ l - (t.size : Int) < 0 := by omega
    go_enter Try.func19, Try.ntmps19
    go_wp2
    go_ret
    exact ⟨rfl, by go_grown⟩

theorem to_laws (k n : Int) (t : ByteArray) (w : World) :
    Calls Try.prog 20 #[.agg #[.int .i64 k, .int .i64 n, .string t]] w fun e w' => e = .returned (.agg #[.int .i64 k, .int .i64 n, .string t]) ∧ Below w.heap.size w w' := by
  go_enter Try.func20, Try.ntmps20
  go_wp2
  go_returns
  exact ⟨rfl, by go_grown⟩

end Go.Proofs.Ytdmiiklegnokjaa
