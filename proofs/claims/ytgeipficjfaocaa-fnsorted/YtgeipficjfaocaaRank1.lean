/-
  The contracts of the model's order on cells.
-/
import Derived.Test.YtgeipficjfaocaaBase
namespace Go.Proofs.Ytgeipficjfaocaa
open Go.ChangeShapes Go.WideShapes Go.ChangeAt Go.RowKit
attribute [local go_sem ↓] Go.wp_at_zero Go.wp_at_succ

/-- Is the one cell less than the other? By kind, then by number, then by text. -/
def lessB (k1 n1 : Int) (t1 : ByteArray) (k2 n2 : Int) (t2 : ByteArray) : Bool :=
  if (k1 != k2) = true then decide (k1 < k2) else if (n1 != n2) = true then decide (n1 < n2) else Op.bytesLess t1.toList t2.toList

theorem cless_spec (k1 n1 : Int) (t1 : ByteArray) (k2 n2 : Int) (t2 : ByteArray) (w : World) :
    Calls Try.prog 38 #[.agg #[.int .i64 k1, .int .i64 n1, .string t1], .agg #[.int .i64 k2, .int .i64 n2, .string t2]] w fun e w' => e = .returned (.bool (lessB k1 n1 t1 k2 n2 t2)) ∧ Below w.heap.size w w' := by
  cases h1 : (k1 != k2)
  · cases h2 : (n1 != n2)
    · rw [show lessB k1 n1 t1 k2 n2 t2 = Op.bytesLess t1.toList t2.toList from by simp only [lessB, h1, h2]; rfl]
      go_enter Try.func38, Try.ntmps38
      go_wp2
      go_ret
      exact ⟨rfl, by go_grown⟩
    · rw [show lessB k1 n1 t1 k2 n2 t2 = decide (n1 < n2) from by simp only [lessB, h1, h2]; rfl]
      go_enter Try.func38, Try.ntmps38
      go_wp2
      go_ret
      exact ⟨rfl, by go_grown⟩
  · rw [show lessB k1 n1 t1 k2 n2 t2 = decide (k1 < k2) from by simp only [lessB, h1]; rfl]
    go_enter Try.func38, Try.ntmps38
    go_wp2
    go_ret
    exact ⟨rfl, by go_grown⟩

theorem cless_specb (k1 n1 : Int) (t1 : ByteArray) (k2 n2 : Int) (t2 : ByteArray) (b : Bool) (hb : lessB k1 n1 t1 k2 n2 t2 = b) (w : World) :
    Calls Try.prog 38 #[.agg #[.int .i64 k1, .int .i64 n1, .string t1], .agg #[.int .i64 k2, .int .i64 n2, .string t2]] w fun e w' => e = .returned (.bool b) ∧ Below w.heap.size w w' := by
  subst hb; exact cless_spec k1 n1 t1 k2 n2 t2 w

end Go.Proofs.Ytgeipficjfaocaa
