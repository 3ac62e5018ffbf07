/-
  Rows and their texts without any program.
-/
import Derived.Test.YtmhamgcjmehnnaaDoorReadMath
import Derived.Test.YtmhamgcjmehnnaaDoorSplitMath
namespace Go.Proofs.YtmhamgcjmehnnaaDoor

/-- A cell: kind, number, text. -/
abbrev CK := Int × Int × ByteArray
def okC (c : CK) : Bool := okB c.1 c.2.1 c.2.2
def textC (c : CK) : List UInt8 := l4T c.1 c.2.1 c.2.2.data.toList
/-- The text of a row; empty where a cell is not right. -/
def rowT (l : List CK) : ByteArray := if l.all okC = true then ⟨(Lib.join (l.map textC) [32]).toArray⟩ else ⟨#[]⟩
/-- What pieces are read as, if all are. -/
def readAll : List (List UInt8) → Option (List CK)
  | [] => some []
  | p :: ps => match readB ⟨p.toArray⟩ with
    | none => none
    | some c => match readAll ps with
      | none => none
      | some cs => some (c :: cs)
def readRowB (s : ByteArray) : Option (List CK) := if s.data.toList = [] then some [] else readAll (pieces s.data.toList)

theorem readAll_snoc (ps : List (List UInt8)) (p : List UInt8) (out : List CK) (c : CK) (h : readAll ps = some out) (hp : readB ⟨p.toArray⟩ = some c) : readAll (ps ++ [p]) = some (out ++ [c]) := by
  induction ps generalizing out with
  | nil =>
    simp only [readAll] at h
    injection h with h
    subst h
    simp only [List.nil_append, readAll, hp]
  | cons q ps ih =>
    simp only [readAll] at h
    cases hq : readB ⟨q.toArray⟩ with
    | none => rw [hq] at h; cases h
    | some d =>
      rw [hq] at h
      cases hr : readAll ps with
      | none => rw [hr] at h; cases h
      | some cs =>
        rw [hr] at h
        simp only [] at h
        injection h with h
        subst h
        rw [List.cons_append, readAll, hq, ih cs hr]
        rfl
theorem readAll_none (ps : List (List UInt8)) (i : Nat) (hi : i < ps.length) (h : readB ⟨(ps[i]).toArray⟩ = none) : readAll ps = none := by
  induction ps generalizing i with
  | nil => simp at hi
  | cons q ps ih =>
    rw [readAll]
    cases i with
    | zero =>
      rw [List.getElem_cons_zero] at h
      rw [h]
    | succ i =>
      have := ih i (by simpa using hi) (by simpa using h)
      cases readB ⟨q.toArray⟩ with
      | none => rfl
      | some d => simp only [this]
theorem readAll_length (ps : List (List UInt8)) (out : List CK) (h : readAll ps = some out) : out.length = ps.length := by
  induction ps generalizing out with
  | nil =>
    simp only [readAll] at h
    injection h with h
    subst h; rfl
  | cons q ps ih =>
    simp only [readAll] at h
    cases hq : readB ⟨q.toArray⟩ with
    | none => rw [hq] at h; cases h
    | some d =>
      rw [hq] at h
      cases hr : readAll ps with
      | none => rw [hr] at h; cases h
      | some cs =>
        rw [hr] at h
        simp only [] at h
        injection h with h
        subst h
        simp [ih cs hr]
theorem readAll_texts (l : List CK) (h : l.all okC = true) : readAll (l.map textC) = some l := by
  induction l with
  | nil => rfl
  | cons c l ih =>
    rw [List.all_cons, Bool.and_eq_true] at h
    have e : (⟨(textC c).toArray⟩ : ByteArray) = cellT c.1 c.2.1 c.2.2 := bytes_ext (by rw [cellT_ok h.1]; rfl)
    rw [List.map_cons, readAll, e, readB_text h.1, ih h.2]
theorem readAll_some (ps : List (List UInt8)) (l : List CK) (h : readAll ps = some l) : l.all okC = true ∧ l.map textC = ps := by
  induction ps generalizing l with
  | nil =>
    simp only [readAll] at h
    injection h with h
    subst h; exact ⟨rfl, rfl⟩
  | cons q ps ih =>
    simp only [readAll] at h
    cases hq : readB ⟨q.toArray⟩ with
    | none => rw [hq] at h; cases h
    | some d =>
      rw [hq] at h
      cases hr : readAll ps with
      | none => rw [hr] at h; cases h
      | some cs =>
        rw [hr] at h
        simp only [] at h
        injection h with h
        subst h
        obtain ⟨h1, h2⟩ := ih cs hr
        obtain ⟨k, n, t⟩ := d
        obtain ⟨ho, e⟩ := readB_some hq
        refine ⟨by rw [List.all_cons, h1, Bool.and_true]; exact ho, ?_⟩
        rw [List.map_cons, h2]
        congr 1
        have := cellT_ok ho
        rw [e] at this
        exact this.symm
/-- A row is read from its text. -/
theorem readRow_text (l : List CK) (h : l.all okC = true) : readRowB (rowT l) = some l := by
  unfold rowT
  rw [if_pos h]
  unfold readRowB
  rw [bytes_mk]
  cases l with
  | nil => rw [if_pos (show Lib.join (List.map textC []) [32] = [] from rfl)]
  | cons c l =>
    have hc : okC c = true := by rw [List.all_cons, Bool.and_eq_true] at h; exact h.1
    have hne : Lib.join ((c :: l).map textC) [32] ≠ [] := by
      rw [List.map_cons, Lib.join_cons]
      intro e
      have := (l4T_some hc).1
      exact this (List.append_eq_nil_iff.1 e).1
    rw [if_neg hne, pieces_join _ (by simp) ?_, readAll_texts _ h]
    intro x hx
    obtain ⟨d, hd, rfl⟩ := List.mem_map.1 hx
    exact (l4T_some (List.all_eq_true.1 h d hd)).2
/-- What is read is right, and its text is what was read. -/
theorem readRow_some {s : ByteArray} {l : List CK} (h : readRowB s = some l) : l.all okC = true ∧ rowT l = s := by
  unfold readRowB at h
  split at h
  · rename_i e
    injection h with h
    subst h
    refine ⟨rfl, bytes_ext ?_⟩
    rw [e]; rfl
  · obtain ⟨h1, h2⟩ := readAll_some _ _ h
    refine ⟨h1, bytes_ext ?_⟩
    unfold rowT
    rw [if_pos h1, bytes_mk, h2, join_pieces]
theorem pieces_length (l : List UInt8) : (pieces l).length ≤ l.length + 1 := cutAt_length _ _ _
theorem pieces_each (l : List UInt8) (p : List UInt8) (h : p ∈ pieces l) : p.length ≤ l.length := by
  have := cutAt_each 32 l [] p h
  simpa using this

end Go.Proofs.YtmhamgcjmehnnaaDoor
