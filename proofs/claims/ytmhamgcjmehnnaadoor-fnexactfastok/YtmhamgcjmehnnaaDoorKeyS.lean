/-
  The contracts of the model's texts of cells.
-/
import Derived.Test.YtmhamgcjmehnnaaDoorHd
import Derived.Test.YtmhamgcjmehnnaaDoorBase
import Derived.Test.YtmhamgcjmehnnaaDoorRowMath
import Derived.Laws.IdiomStrings
namespace Go.Proofs.YtmhamgcjmehnnaaDoor
open Go.ChangeShapes Go.WideShapes Go.ChangeAt Go.RowKit
attribute [local go_sem ↓] Go.wp_at_zero Go.wp_at_succ

def strOf : Value → ByteArray
  | .string b => b
  | _ => ⟨#[]⟩
def emptyN : Value → Nat
  | .string b => if b.data.toList = [] then 1 else 0
  | _ => 0
theorem emptyN_no {b : ByteArray} (h : b.data.toList ≠ []) : emptyN (.string b) = 0 := if_neg h
theorem emptyN_nil : emptyN (.string ⟨#[]⟩) = 1 := rfl
/-- The digits of a number; none of 0. -/
def digsN (u : Nat) : List UInt8 := if u = 0 then [] else Lib.decDigits u
theorem decDigits_step (u : Nat) : Lib.decDigits u = digsN (u / 10) ++ [UInt8.ofNat (48 + u % 10)] := by
  by_cases h : u < 10
  · rw [Lib.decDigits_one h, show u / 10 = 0 by omega, show u % 10 = u by omega]; rfl
  · rw [Lib.decDigits, dif_neg h]
    unfold digsN
    rw [if_neg (by omega)]
/-- What the loop keeps: what is left of the number, and the digits behind. -/
def IntInv (n0 m : Int) (l : List UInt8) : Prop :=
  (l = [] ∧ m = n0) ∨ (l ≠ [] ∧ digsN m.natAbs ++ l = Lib.decDigits n0.natAbs ∧ (n0 < 0 → m ≤ 0) ∧ (0 ≤ n0 → 0 ≤ m) ∧ m.natAbs ≤ n0.natAbs)
theorem tdiv_sign (m : Int) : (0 ≤ m → 0 ≤ m.tdiv 10) ∧ (m ≤ 0 → m.tdiv 10 ≤ 0) := ⟨fun h => Int.tdiv_nonneg h (by decide), fun h => by
  have := Int.tdiv_nonneg (a := -m) (b := 10) (by omega) (by decide)
  rw [Int.neg_tdiv] at this; omega⟩
theorem IntInv.step {n0 m : Int} {l : List UInt8} (h : IntInv n0 m l) (hgo : l = [] ∨ m ≠ 0) : IntInv n0 (m.tdiv 10) (UInt8.ofNat (48 + m.natAbs % 10) :: l) := by
  have e : (m.tdiv 10).natAbs = m.natAbs / 10 := by rw [Int.natAbs_tdiv]; rfl
  obtain ⟨s1, s2⟩ := tdiv_sign m
  rcases h with ⟨rfl, rfl⟩ | ⟨hl, he, h1, h2, h3⟩
  · refine .inr ⟨by simp, ?_, ?_, ?_, ?_⟩
    · rw [e, decDigits_step]
    · intro h; exact s2 (by omega)
    · intro h; exact s1 h
    · rw [e]; omega
  · have hm : m ≠ 0 := by rcases hgo with h | h; exact absurd h hl; exact h
    refine .inr ⟨by simp, ?_, ?_, ?_, ?_⟩
    · rw [← he, e]
      unfold digsN
      rw [if_neg (show ¬ m.natAbs = 0 by omega), decDigits_step m.natAbs]
      unfold digsN
      simp
    · intro h; exact s2 (h1 h)
    · intro h; exact s1 (h2 h)
    · rw [e]; omega
theorem IntInv.out {n0 : Int} {l : List UInt8} (h : IntInv n0 0 l) (hl : l ≠ []) : l = Lib.decDigits n0.natAbs := by
  rcases h with ⟨rfl, _⟩ | ⟨_, he, _⟩
  · exact absurd rfl hl
  · simpa [digsN] using he

theorem tmod_digit (m : Int) : (0 ≤ m.tmod 10 ∧ m.tmod 10 = ((m.natAbs % 10 : Nat) : Int)) ∨ (m.tmod 10 < 0 ∧ m.tmod 10 = -((m.natAbs % 10 : Nat) : Int) ∧ 0 < m.natAbs % 10) := by
  have e : (m.tmod 10).natAbs = m.natAbs % 10 := by rw [Int.natAbs_tmod]; rfl
  by_cases h : 0 ≤ m.tmod 10
  · exact .inl ⟨h, by omega⟩
  · exact .inr ⟨by omega, by omega, by omega⟩

end Go.Proofs.YtmhamgcjmehnnaaDoor
