/-
  The text that the law's helper writes to mark a cell: what it is hangs on its number alone.
-/
import Derived.Test.YtmhamgcjmehnnaaDoorLists4
import Derived.Laws.IdiomStrings
import Derived.Laws.Concat
namespace Go.Proofs.YtmhamgcjmehnnaaDoor
open Go.ChangeShapes Go.WideShapes Go.ChangeAt Go.RowKit
attribute [local go_sem ↓] Go.wp_at_zero Go.wp_at_succ

/-- The last digit of k, as a byte. -/
def dig (k : Nat) : UInt8 := UInt8.ofNat (48 + k % 10)
theorem dig_nat (k : Nat) : (dig k).toNat = 48 + k % 10 := by unfold dig; rw [UInt8.toNat_ofNat']; omega
/-- The digits of k ahead of what is there. -/
def digs : Nat → Nat → ByteArray → ByteArray
  | 0, _, out => out
  | f + 1, k, out => if k = 0 then out else digs f (k / 10) (⟨#[dig k]⟩ ++ out)
/-- The text that marks k. -/
def mt (k : Nat) : ByteArray := ⟨#[109]⟩ ++ digs k k ⟨#[]⟩

theorem digs_step (m : Nat) (out : ByteArray) (h : 0 < m) : digs m m out = digs (m / 10) (m / 10) (⟨#[dig m]⟩ ++ out) := by
  have fuel : ∀ (k f g : Nat) (out : ByteArray), k ≤ f → k ≤ g → digs f k out = digs g k out := by
    intro k
    induction k using Nat.strongRecOn with
    | _ k ih =>
      intro f g out hf hg
      cases f with
      | zero =>
        have : k = 0 := by omega
        subst this
        cases g <;> simp [digs]
      | succ f =>
        cases g with
        | zero =>
          have : k = 0 := by omega
          subst this
          simp [digs]
        | succ g =>
          by_cases hk : k = 0
          · simp [digs, hk]
          · rw [digs, digs, if_neg hk, if_neg hk]
            exact ih (k / 10) (by omega) f g _ (by omega) (by omega)
  cases m with
  | zero => omega
  | succ m =>
    rw [digs, if_neg (by omega)]
    exact fuel _ _ _ _ (by omega) (by omega)

end Go.Proofs.YtmhamgcjmehnnaaDoor
