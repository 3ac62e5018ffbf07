/-
  Plain facts on bytes, lists and integers that the walks of this seat use: what a right cell is, and what is reckoned of two; no Go in sight.
-/
import Derived.WalkKit
namespace Go.Proofs.YtmhamgcjmehnnaaDoor
open Go.RowKit

/-- All bytes are of a to z. -/
def lets (l : List UInt8) : Bool := l.all fun c => decide (97 ≤ c.toNat) && decide (c.toNat ≤ 122)

theorem take_snoc (s : ByteArray) (k : Nat) (h : k < s.size) : s.data.toList.take (k + 1) = s.data.toList.take k ++ [s[k]] := by
  rw [List.take_succ_eq_append_getElem (by simpa using h)]; rfl

theorem lets_nil : lets [] = true := rfl

theorem lets_snoc (l : List UInt8) (c : UInt8) : lets (l ++ [c]) = (lets l && (decide (97 ≤ c.toNat) && decide (c.toNat ≤ 122))) := by
  unfold lets; rw [List.all_append]; simp [List.all_cons]

theorem lets_more (s : ByteArray) (k : Nat) (h : k < s.size) (hl : lets (s.data.toList.take k) = true) (h1 : 97 ≤ s[k].toNat) (h2 : s[k].toNat ≤ 122) :
    lets (s.data.toList.take (k + 1)) = true := by
  rw [take_snoc s k h, lets_snoc, hl]; simp [h1, h2]

theorem lets_not (s : ByteArray) (k : Nat) (h : k < s.size) (hc : s[k].toNat < 97 ∨ 122 < s[k].toNat) : lets s.data.toList = false := by
  have hm : s[k] ∈ s.data.toList := by
    have : s.data.toList[k]'(by simpa using h) = s[k] := rfl
    rw [← this]; exact List.getElem_mem _
  unfold lets
  rw [Bool.eq_false_iff]
  intro ha
  rw [List.all_eq_true] at ha
  have := ha _ hm
  simp only [Bool.and_eq_true, decide_eq_true_eq] at this
  omega

theorem lets_all (s : ByteArray) (k : Nat) (h : s.size ≤ k) (hl : lets (s.data.toList.take k) = true) : lets s.data.toList = true := by
  rwa [List.take_of_length_le (by simpa using h)] at hl

/-- A number that a cell may hold. -/
def numB (n : Int) : Bool := decide (-1000000000 ≤ n) && decide (n ≤ 1000000000)

/-- A right cell. -/
def okB (k n : Int) (t : ByteArray) : Bool :=
  if k = 0 then n == 0 && t.toList.isEmpty
  else if k = 1 then numB n && t.toList.isEmpty
  else if k = 2 then (lets t.data.toList && decide ((t.size : Int) ≤ 12)) && n == 0
  else if k = 3 then (decide (0 ≤ n) && decide (n ≤ 1)) && t.toList.isEmpty
  else false

theorem and_no {a b : Bool} (c : Bool) (h : ¬(a = true ∧ b = true)) : false = ((a && b) && c) := by
  cases a <;> cases b <;> simp_all

end Go.Proofs.YtmhamgcjmehnnaaDoor
