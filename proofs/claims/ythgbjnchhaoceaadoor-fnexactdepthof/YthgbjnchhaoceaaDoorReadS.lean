/-
  The contracts of the model's reading of cells.
-/
import Derived.Test.YthgbjnchhaoceaaDoorKeyS
namespace Go.Proofs.YthgbjnchhaoceaaDoor
open Go.ChangeShapes Go.WideShapes Go.ChangeAt Go.RowKit
attribute [local go_sem ↓] Go.wp_at_zero Go.wp_at_succ

/-- What is read behind the sign. -/
def bodyR (neg : Bool) (len : Nat) (r : List UInt8) : Int × Bool :=
  if r.length < 1 ∨ 10 < r.length then (0, false)
  else if r.all isDig = true then
    if r.head? = some 48 ∧ (neg = true ∨ 1 < len) then (0, false)
    else (if neg = true then -(valFrom 0 r : Int) else valFrom 0 r, true)
  else (0, false)
/-- What is read, as the model answers it. -/
def mostR (l : List UInt8) : Int × Bool := match readMost l with
  | some n => (n, true)
  | none => (0, false)
theorem mostR_body (l : List UInt8) : mostR l = bodyR (decide (l.head? = some 45)) l.length (if decide (l.head? = some 45) = true then l.drop 1 else l) := by
  unfold mostR readMost bodyR
  generalize decide (l.head? = some 45) = neg
  simp only []
  generalize (if neg = true then l.drop 1 else l) = r
  split
  · rename_i n h
    split at h
    · cases h
    · rename_i h1
      rw [if_neg h1]
      split at h
      · rename_i h2
        rw [if_pos h2]
        split at h
        · cases h
        · rename_i h3
          rw [if_neg h3]
          injection h with h
          rw [h]
      · cases h
  · rename_i h
    split at h
    · rename_i h1
      rw [if_pos h1]
    · rename_i h1
      rw [if_neg h1]
      split at h
      · rename_i h2
        rw [if_pos h2]
        split at h
        · rename_i h3
          rw [if_pos h3]
        · cases h
      · rename_i h2
        rw [if_neg h2]
theorem bodyR_len {neg : Bool} {len : Nat} {r : List UInt8} (h : r.length < 1 ∨ 10 < r.length) : bodyR neg len r = (0, false) := if_pos h
theorem bodyR_dig {neg : Bool} {len : Nat} {r : List UInt8} (c : UInt8) (hc : c ∈ r) (h : isDig c = false) : bodyR neg len r = (0, false) := by
  unfold bodyR
  split
  · rfl
  · rw [if_neg]
    intro e
    rw [List.all_eq_true.1 e c hc] at h
    cases h
theorem bodyR_nought {neg : Bool} {len : Nat} {r : List UInt8} (h : r.head? = some 48) (h2 : neg = true ∨ 1 < len) : bodyR neg len r = (0, false) := by
  unfold bodyR
  split
  · rfl
  · split
    · rw [if_pos ⟨h, h2⟩]
    · rfl
theorem bodyR_yes {neg : Bool} {len : Nat} {r : List UInt8} (h : ¬ (r.length < 1 ∨ 10 < r.length)) (hd : r.all isDig = true) (h2 : ¬ (r.head? = some 48 ∧ (neg = true ∨ 1 < len))) : bodyR neg len r = (if neg = true then -(valFrom 0 r : Int) else valFrom 0 r, true) := by
  unfold bodyR
  rw [if_neg h, if_pos hd, if_neg h2]

theorem take_dig (s : ByteArray) (i k : Nat) (hik : i ≤ k) (h : k < s.size) : ((s.data.toList.take (k + 1)).drop i) = (s.data.toList.take k).drop i ++ [s[k]] := by
  rw [take_snoc s k h, List.drop_append_of_le_length (by rw [List.length_take, ← Lib.size_eq]; omega)]
theorem mem_drop (s : ByteArray) (i k : Nat) (hik : i ≤ k) (h : k < s.size) : s[k] ∈ s.data.toList.drop i := by
  have e : (s.data.toList.drop i)[k - i]'(by rw [List.length_drop, ← Lib.size_eq]; omega) = s[k] := by
    rw [List.getElem_drop]
    show s.data.toList[i + (k - i)]'_ = _
    have : i + (k - i) = k := by omega
    simp only [this]
    rfl
  rw [← e]; exact List.getElem_mem _
theorem head_drop (s : ByteArray) (i : Nat) (h : i < s.size) : (s.data.toList.drop i).head? = some s[i] := by
  rw [List.head?_drop, List.getElem?_eq_getElem (by rw [← Lib.size_eq]; exact h)]; rfl
theorem byte_eq {c : UInt8} {n : Nat} (h : n < 256) : c = UInt8.ofNat n ↔ c.toNat = n := by
  constructor
  · intro e; rw [e, UInt8.toNat_ofNat_of_lt' h]
  · intro e; exact UInt8.toNat_inj.1 (by rw [e, UInt8.toNat_ofNat_of_lt' h])
theorem isDig_iff (c : UInt8) : isDig c = true ↔ 48 ≤ c.toNat ∧ c.toNat ≤ 57 := by unfold isDig; rw [Bool.and_eq_true, decide_eq_true_eq, decide_eq_true_eq]
theorem isDig_no {c : UInt8} (h : c.toNat < 48 ∨ 57 < c.toNat) : isDig c = false := by
  cases hd : isDig c with
  | false => rfl
  | true => have := (isDig_iff c).1 hd; omega

end Go.Proofs.YthgbjnchhaoceaaDoor
