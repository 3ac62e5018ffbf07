/-
  A part of the proof: ReadMath, SplitMath, RowMath, KeyS, RowS, Names1, TokMath, PieceMath, ItmMath, Lists3, Tok1.
-/
import Derived.Test.YtegnekbbbfncgaaDoorPart1
import Derived.Test.YtegnekbbbfncgaaDoorPart2
import Derived.Lib.Strings
import Derived.Lib.SplitLaws
import Derived.Lib.Join
import Derived.Laws.IdiomStrings

/-
  Cells and their texts without any program: what a text is read as, what the program guesses, and that a cell is read from its own text alone.
-/
namespace Go.Proofs.YtegnekbbbfncgaaDoor

theorem bytes_ext {s u : ByteArray} (h : s.data.toList = u.data.toList) : s = u := by
  obtain ⟨⟨a⟩⟩ := s
  obtain ⟨⟨b⟩⟩ := u
  simp at h
  rw [h]
theorem bytes_mk (l : List UInt8) : (⟨l.toArray⟩ : ByteArray).data.toList = l := rfl
theorem empty_bytes {t : ByteArray} (h : t.toList.isEmpty = true) : t = ⟨#[]⟩ := by
  rw [Lib.toList_data, List.isEmpty_iff] at h
  exact bytes_ext h
theorem bytes_empty : (⟨#[]⟩ : ByteArray).toList.isEmpty = true := by rw [Lib.toList_data]; rfl

def wNone : List UInt8 := [110, 111, 110, 101]
def wYes : List UInt8 := [121, 101, 115]
def wNo : List UInt8 := [110, 111]
/-- The text of a right cell. -/
def l4T (k n : Int) (t : List UInt8) : List UInt8 :=
  if k = 1 then Lib.itoa n else if k = 2 then 39 :: (t ++ [39]) else if k = 3 then (if n = 1 then wYes else wNo) else wNone
/-- The text of a cell; empty where it is not right. -/
def cellT (k n : Int) (t : ByteArray) : ByteArray := if okB k n t = true then ⟨(l4T k n t.data.toList).toArray⟩ else ⟨#[]⟩
def inner (s : ByteArray) : ByteArray := s.extract 1 (s.size - 1)
def textB (t : ByteArray) : Bool := lets t.data.toList && decide ((t.size : Int) ≤ 12)
/-- What a text is read as. -/
def readB (s : ByteArray) : Option (Int × Int × ByteArray) :=
  if s.data.toList = wNone then some (0, 0, ⟨#[]⟩)
  else if s.data.toList = wYes then some (3, 1, ⟨#[]⟩)
  else if s.data.toList = wNo then some (3, 0, ⟨#[]⟩)
  else match readMost s.data.toList with
    | some n => if numB n = true then some (1, n, ⟨#[]⟩) else none
    | none => if 1 < s.size ∧ s.data.toList.head? = some 39 ∧ s.data.toList.getLast? = some 39 then (if textB (inner s) = true then some (2, 0, inner s) else none) else none

theorem okB_0 {n : Int} {t : ByteArray} (h : okB 0 n t = true) : n = 0 ∧ t = ⟨#[]⟩ := by
  unfold okB at h
  rw [if_pos rfl, Bool.and_eq_true, beq_iff_eq] at h
  exact ⟨h.1, empty_bytes h.2⟩
theorem okB_1 {n : Int} {t : ByteArray} (h : okB 1 n t = true) : numB n = true ∧ t = ⟨#[]⟩ := by
  unfold okB at h
  rw [if_neg (by decide), if_pos rfl, Bool.and_eq_true] at h
  exact ⟨h.1, empty_bytes h.2⟩
theorem okB_2 {n : Int} {t : ByteArray} (h : okB 2 n t = true) : n = 0 ∧ textB t = true := by
  unfold okB at h
  rw [if_neg (by decide), if_neg (by decide), if_pos rfl, Bool.and_eq_true, beq_iff_eq] at h
  exact ⟨h.2, h.1⟩
theorem okB_3 {n : Int} {t : ByteArray} (h : okB 3 n t = true) : (n = 0 ∨ n = 1) ∧ t = ⟨#[]⟩ := by
  unfold okB at h
  rw [if_neg (by decide), if_neg (by decide), if_neg (by decide), if_pos rfl, Bool.and_eq_true, Bool.and_eq_true, decide_eq_true_eq, decide_eq_true_eq] at h
  exact ⟨by omega, empty_bytes h.2⟩
theorem okB_kind {k n : Int} {t : ByteArray} (h : okB k n t = true) : k = 0 ∨ k = 1 ∨ k = 2 ∨ k = 3 := by
  by_cases h0 : k = 0
  · exact .inl h0
  by_cases h1 : k = 1
  · exact .inr (.inl h1)
  by_cases h2 : k = 2
  · exact .inr (.inr (.inl h2))
  by_cases h3 : k = 3
  · exact .inr (.inr (.inr h3))
  unfold okB at h
  rw [if_neg h0, if_neg h1, if_neg h2, if_neg h3] at h
  cases h
theorem okB_0' : okB 0 0 ⟨#[]⟩ = true := by unfold okB; rw [if_pos rfl, bytes_empty]; rfl
theorem okB_1' {n : Int} : okB 1 n ⟨#[]⟩ = numB n := by unfold okB; rw [if_neg (by decide), if_pos rfl, bytes_empty, Bool.and_true]
theorem okB_2' {t : ByteArray} : okB 2 0 t = textB t := by unfold okB; rw [if_neg (by decide), if_neg (by decide), if_pos rfl]; simp [textB]
theorem okB_31 : okB 3 1 ⟨#[]⟩ = true := by unfold okB; rw [if_neg (by decide), if_neg (by decide), if_neg (by decide), if_pos rfl, bytes_empty]; rfl
theorem okB_30 : okB 3 0 ⟨#[]⟩ = true := by unfold okB; rw [if_neg (by decide), if_neg (by decide), if_neg (by decide), if_pos rfl, bytes_empty]; rfl

theorem l4T_0 (n : Int) (t : List UInt8) : l4T 0 n t = wNone := rfl
theorem l4T_1 (n : Int) (t : List UInt8) : l4T 1 n t = Lib.itoa n := rfl
theorem l4T_2 (n : Int) (t : List UInt8) : l4T 2 n t = 39 :: (t ++ [39]) := rfl
theorem l4T_31 (t : List UInt8) : l4T 3 1 t = wYes := rfl
theorem l4T_30 (t : List UInt8) : l4T 3 0 t = wNo := rfl
theorem cellT_ok {k n : Int} {t : ByteArray} (h : okB k n t = true) : (cellT k n t).data.toList = l4T k n t.data.toList := by unfold cellT; rw [if_pos h]
theorem cellT_no {k n : Int} {t : ByteArray} (h : okB k n t = false) : cellT k n t = ⟨#[]⟩ := by unfold cellT; rw [if_neg (by rw [h]; decide)]

theorem numB_iff {n : Int} : numB n = true ↔ -1000000000 ≤ n ∧ n ≤ 1000000000 := by unfold numB; rw [Bool.and_eq_true, decide_eq_true_eq, decide_eq_true_eq]
/-- A numeral begins with a digit or the sign -. -/
theorem itoa_head (n : Int) : ∃ c r, Lib.itoa n = c :: r ∧ (isDig c = true ∨ c = 45) := by
  by_cases hn : n < 0
  · exact ⟨45, _, itoa_neg n hn, .inr rfl⟩
  · obtain ⟨_, p, _⟩ := decDigits_plain n.toNat
    cases hD : Lib.decDigits n.toNat with
    | nil => exact absurd hD p.1
    | cons c r => rw [hD] at p; exact ⟨c, r, by rw [itoa_nonneg n (by omega), hD], .inl (p.2.1 c (by simp))⟩
theorem itoa_no (n : Int) (l : List UInt8) (c : UInt8) (h : l.head? = some c) (hc : isDig c = false) (h45 : c ≠ 45) : l ≠ Lib.itoa n := by
  intro e
  obtain ⟨d, r, hd, hx⟩ := itoa_head n
  rw [e, hd] at h
  have : d = c := by simpa using h
  subst this
  rcases hx with hx | hx
  · rw [hc] at hx; cases hx
  · exact h45 hx
theorem readMost_no {l : List UInt8} (c : UInt8) (h : l.head? = some c) (hc : isDig c = false) (h45 : c ≠ 45) : readMost l = none := by
  cases hr : readMost l with
  | none => rfl
  | some n => exact absurd (readMost_some hr) (itoa_no n l c h hc h45)

theorem inner_list {s : ByteArray} {l : List UInt8} (h : s.data.toList = 39 :: (l ++ [39])) : (inner s).data.toList = l := by
  unfold inner
  rw [Lib.extract_data, h, Lib.size_eq, h]
  simp
/-- A right cell is read from its text. -/
theorem readB_text {k n : Int} {t : ByteArray} (h : okB k n t = true) : readB (cellT k n t) = some (k, n, t) := by
  rcases okB_kind h with rfl | rfl | rfl | rfl
  · obtain ⟨rfl, rfl⟩ := okB_0 h
    unfold readB
    rw [cellT_ok h, l4T_0, if_pos rfl]
  · obtain ⟨hn, rfl⟩ := okB_1 h
    obtain ⟨c, r, he, hx⟩ := itoa_head n
    have hne : ∀ l : List UInt8, l.head? = some 110 ∨ l.head? = some 121 → Lib.itoa n ≠ l := by
      intro l hl e
      rw [← e, he] at hl
      have : c = 110 ∨ c = 121 := by simpa using hl
      rcases this with rfl | rfl <;> rcases hx with hx | hx <;> exact absurd hx (by decide)
    have hb := numB_iff.1 hn
    unfold readB
    rw [cellT_ok h, l4T_1, if_neg (hne _ (.inl rfl)), if_neg (hne _ (.inr rfl)), if_neg (hne _ (.inl rfl)), readMost_itoa n (by omega) (by omega)]
    simp only []
    rw [if_pos hn]
  · obtain ⟨rfl, ht⟩ := okB_2 h
    have e := cellT_ok h
    rw [l4T_2] at e
    have hi := inner_list e
    have hi' : inner (cellT 2 0 t) = t := bytes_ext hi
    have hs : 1 < (cellT 2 0 t).size := by rw [Lib.size_eq, e]; simp
    unfold readB
    rw [if_neg (by rw [e]; intro x; exact absurd x (by simp [wNone])), if_neg (by rw [e]; intro x; exact absurd x (by simp [wYes])), if_neg (by rw [e]; intro x; exact absurd x (by simp [wNo])),
      readMost_no 39 (by rw [e]; rfl) (by decide) (by decide)]
    simp only []
    rw [if_pos ⟨hs, by rw [e]; rfl, by rw [e, ← List.cons_append, List.getLast?_concat]⟩, hi', if_pos ht]
  · obtain ⟨hn, rfl⟩ := okB_3 h
    rcases hn with rfl | rfl
    · unfold readB
      rw [cellT_ok h, l4T_30, if_neg (by decide), if_neg (by decide), if_pos rfl]
    · unfold readB
      rw [cellT_ok h, l4T_31, if_neg (by decide), if_pos rfl]
/-- What is read is right, and its text is what was read. -/
theorem readB_some {s : ByteArray} {k n : Int} {t : ByteArray} (h : readB s = some (k, n, t)) : okB k n t = true ∧ cellT k n t = s := by
  have fin : ∀ {k n : Int} {t : ByteArray}, okB k n t = true → l4T k n t.data.toList = s.data.toList → okB k n t = true ∧ cellT k n t = s := fun ho hl => ⟨ho, bytes_ext (by rw [cellT_ok ho, hl])⟩
  unfold readB at h
  split at h
  · rename_i e
    injection h with h
    injection h with h1 h2
    injection h2 with h2 h3
    subst h1 h2 h3
    exact fin okB_0' e.symm
  · split at h
    · rename_i e
      injection h with h
      injection h with h1 h2
      injection h2 with h2 h3
      subst h1 h2 h3
      exact fin okB_31 e.symm
    · split at h
      · rename_i e
        injection h with h
        injection h with h1 h2
        injection h2 with h2 h3
        subst h1 h2 h3
        exact fin okB_30 e.symm
      · split at h
        · rename_i m hm
          split at h
          · rename_i hn
            injection h with h
            injection h with h1 h2
            injection h2 with h2 h3
            subst h1 h2 h3
            exact fin (okB_1'.trans hn) (readMost_some hm).symm
          · cases h
        · split at h
          · rename_i hq
            split at h
            · rename_i ht
              injection h with h
              injection h with h1 h2
              injection h2 with h2 h3
              subst h1 h2
              obtain ⟨hs, hh, hl⟩ := hq
              rw [← h3]
              refine fin (okB_2'.trans ht) ?_
              obtain ⟨m, he⟩ : ∃ m, s.data.toList = 39 :: (m ++ [39]) := by
                cases hd : s.data.toList with
                | nil => rw [hd] at hh; cases hh
                | cons c r =>
                  rw [hd] at hh hl
                  have : c = 39 := by simpa using hh
                  subst this
                  rcases List.eq_nil_or_concat r with rfl | ⟨r', d, hr⟩
                  · rw [Lib.size_eq, hd] at hs; simp at hs
                  · have hr : r = r' ++ [d] := by rw [hr, List.concat_eq_append]
                    subst hr
                    have : d = 39 := by
                      rw [← List.cons_append, List.getLast?_concat] at hl
                      simpa using hl
                    subst this
                    exact ⟨r', rfl⟩
              rw [inner_list he, he]; rfl
            · cases h
          · cases h

/-- What the program guesses of a text. -/
def innerL (l : List UInt8) : List UInt8 := Lib.trimSuffix (Lib.trimPrefix l [39]) [39]
/-- The guess is the cell that is read. -/
theorem guess_text {s : ByteArray} {k n : Int} {t : ByteArray} (h : readB s = some (k, n, t)) :
    (k = 0 ∧ n = 0 ∧ t = ⟨#[]⟩ ∧ s.data.toList = wNone) ∨ (k = 3 ∧ n = 1 ∧ t = ⟨#[]⟩ ∧ s.data.toList = wYes) ∨ (k = 3 ∧ n = 0 ∧ t = ⟨#[]⟩ ∧ s.data.toList = wNo) ∨
    (k = 2 ∧ n = 0 ∧ t.data.toList = innerL s.data.toList ∧ s.data.toList.head? = some 39) ∨ (k = 1 ∧ t = ⟨#[]⟩ ∧ Lib.parseIntB 64 s.data.toList = .ok n ∧ s.data.toList.head? ≠ some 39) := by
  obtain ⟨ho, rfl⟩ := readB_some h
  have e := cellT_ok ho
  rcases okB_kind ho with rfl | rfl | rfl | rfl
  · obtain ⟨rfl, rfl⟩ := okB_0 ho
    exact .inl ⟨rfl, rfl, rfl, e⟩
  · obtain ⟨hn, rfl⟩ := okB_1 ho
    have hb := numB_iff.1 hn
    refine .inr (.inr (.inr (.inr ⟨rfl, rfl, ?_, ?_⟩)))
    · rw [e, l4T_1]; exact parse_itoa n hb.1 hb.2
    · rw [e, l4T_1]
      intro x
      exact itoa_no n _ 39 x (by decide) (by decide) rfl
  · obtain ⟨rfl, ht⟩ := okB_2 ho
    refine .inr (.inr (.inr (.inl ⟨rfl, rfl, ?_, ?_⟩)))
    · rw [e, l4T_2]
      unfold innerL Lib.trimPrefix Lib.hasPrefix
      rw [if_pos (by simp)]
      simp only [List.length_cons, List.length_nil, Nat.zero_add, List.drop_succ_cons, List.drop_zero]
      unfold Lib.trimSuffix Lib.hasSuffix
      rw [if_pos (by rw [List.isSuffixOf_iff_suffix]; exact List.suffix_append _ _)]
      simp
    · rw [e, l4T_2]; rfl
  · obtain ⟨hn, rfl⟩ := okB_3 ho
    rcases hn with rfl | rfl
    · exact .inr (.inr (.inl ⟨rfl, rfl, rfl, e⟩))
    · exact .inr (.inl ⟨rfl, rfl, rfl, e⟩)
/-- What is no cell's text is no text of the guess. -/
theorem guess_no {s : ByteArray} (h : readB s = none) (hs : s ≠ ⟨#[]⟩) (k n : Int) (t : ByteArray) : cellT k n t ≠ s := by
  intro e
  cases ho : okB k n t with
  | true => rw [← e, readB_text ho] at h; cases h
  | false => rw [cellT_no ho] at e; exact hs e.symm
/-- It is short. -/
theorem l4T_len {k n : Int} {t : ByteArray} (h : okB k n t = true) : (l4T k n t.data.toList).length ≤ 14 := by
  rcases okB_kind h with rfl | rfl | rfl | rfl
  · rw [l4T_0]; decide
  · rw [l4T_1]
    have hb := numB_iff.1 (okB_1 h).1
    by_cases hn : n < 0
    · rw [itoa_neg n hn]
      have := decDigits_len n.natAbs (by omega)
      simp; omega
    · rw [itoa_nonneg n (by omega)]
      have := decDigits_len n.toNat (by omega)
      omega
  · obtain ⟨_, ht⟩ := okB_2 h
    unfold textB at ht
    rw [Bool.and_eq_true, decide_eq_true_eq, Lib.size_eq] at ht
    rw [l4T_2, List.length_cons, List.length_append, List.length_singleton]
    omega
  · obtain ⟨hn, _⟩ := okB_3 h
    rcases hn with rfl | rfl
    · rw [l4T_30]; decide
    · rw [l4T_31]; decide

end Go.Proofs.YtegnekbbbfncgaaDoor

/-
  Pieces of a text between the blanks, without any program: byte by byte, and as the library's own word has it.
-/
namespace Go.Proofs.YtegnekbbbfncgaaDoor

end Go.Proofs.YtegnekbbbfncgaaDoor

/-
  Rows and their texts without any program.
-/
namespace Go.Proofs.YtegnekbbbfncgaaDoor

/-- A cell: kind, number, text. -/
abbrev CK := Int × Int × ByteArray
def okC (c : CK) : Bool := okB c.1 c.2.1 c.2.2
end Go.Proofs.YtegnekbbbfncgaaDoor

/-
  The contracts of the model's texts of cells.
-/
namespace Go.Proofs.YtegnekbbbfncgaaDoor
open Go.ChangeShapes Go.WideShapes Go.ChangeAt Go.RowKit
attribute [local go_sem ↓] Go.wp_at_zero Go.wp_at_succ

/-- The digits of a number; none of 0. -/
def digsN (u : Nat) : List UInt8 := if u = 0 then [] else Lib.decDigits u
/-- What the loop keeps: what is left of the number, and the digits behind. -/
def IntInv (n0 m : Int) (l : List UInt8) : Prop :=
  (l = [] ∧ m = n0) ∨ (l ≠ [] ∧ digsN m.natAbs ++ l = Lib.decDigits n0.natAbs ∧ (n0 < 0 → m ≤ 0) ∧ (0 ≤ n0 → 0 ≤ m) ∧ m.natAbs ≤ n0.natAbs)
theorem IntInv.out {n0 : Int} {l : List UInt8} (h : IntInv n0 0 l) (hl : l ≠ []) : l = Lib.decDigits n0.natAbs := by
  rcases h with ⟨rfl, _⟩ | ⟨_, he, _⟩
  · exact absurd rfl hl
  · simpa [digsN] using he

end Go.Proofs.YtegnekbbbfncgaaDoor

/-
  The contracts of the model's text of a row.
-/
namespace Go.Proofs.YtegnekbbbfncgaaDoor
open Go.ChangeShapes Go.WideShapes Go.ChangeAt Go.RowKit
attribute [local go_sem ↓] Go.wp_at_zero Go.wp_at_succ

end Go.Proofs.YtegnekbbbfncgaaDoor

/-
  Names: what a right list of names is, without any program; the contracts of the model's functions on them, and of the one that looks a text up.
-/
namespace Go.Proofs.YtegnekbbbfncgaaDoor
open Go.ChangeShapes Go.WideShapes Go.ChangeAt Go.RowKit
attribute [local go_sem ↓] Go.wp_at_zero Go.wp_at_succ
attribute [local simp] World.cell?_alloc_past World.cell?_alloc_at World.frozen?_alloc_at cell_far cell_off cell_here World.frozen?_alloc_past

theorem txt_same {y s : ByteArray} (h : y = s) : (y.toList == s.toList) = true := by rw [h]; simp
theorem txt_other {y s : ByteArray} (h : y ≠ s) : (y.toList == s.toList) = false := by
  rw [beq_eq_false_iff_ne]
  intro e
  rw [Lib.toList_data, Lib.toList_data] at e
  exact h (ByteArray.ext (Array.toList_inj.1 e))

/-- Is the text among them? -/
def inB (l : List ByteArray) (s : ByteArray) : Bool := l.any fun x => decide (x = s)
theorem inB_iff {l : List ByteArray} {s : ByteArray} : inB l s = true ↔ s ∈ l := by
  unfold inB
  rw [List.any_eq_true]
  constructor
  · rintro ⟨x, hx, e⟩
    rw [decide_eq_true_eq] at e
    rw [← e]; exact hx
  · intro h; exact ⟨s, h, by simp⟩
theorem inB_no {l : List ByteArray} {s : ByteArray} : inB l s = false ↔ s ∉ l := by
  rw [Bool.eq_false_iff]
  exact not_congr inB_iff
/-- Is it a name? -/
def nameB (s : ByteArray) : Bool := decide (s ≠ ⟨#[]⟩) && (lets s.data.toList && decide ((s.size : Int) ≤ 6))
/-- Where a text stands first; -1: nowhere. -/
def AtIs (l : List ByteArray) (s : ByteArray) (r : Int) : Prop := (r = -1 ∧ s ∉ l) ∨ ∃ (k : Nat) (h : k < l.length), r = (k : Int) ∧ l[k] = s ∧ ∀ j (hj : j < l.length), j < k → l[j] ≠ s
theorem AtIs.one {l : List ByteArray} {s : ByteArray} {r r' : Int} (h : AtIs l s r) (h' : AtIs l s r') : r = r' := by
  rcases h with ⟨rfl, hn⟩ | ⟨k, hk, rfl, he, hf⟩ <;> rcases h' with ⟨rfl, hn'⟩ | ⟨k', hk', rfl, he', hf'⟩
  · rfl
  · exact absurd (he' ▸ List.getElem_mem hk') hn
  · exact absurd (he ▸ List.getElem_mem hk) hn'
  · rcases Nat.lt_trichotomy k k' with h | h | h
    · exact absurd he (hf' k hk h)
    · rw [h]
    · exact absurd he' (hf k' hk' h)
theorem AtIs.neg {l : List ByteArray} {s : ByteArray} {r : Int} (h : AtIs l s r) : (0 ≤ r ↔ s ∈ l) := by
  rcases h with ⟨rfl, hn⟩ | ⟨k, hk, rfl, he, _⟩
  · constructor
    · intro h; omega
    · intro h; exact absurd h hn
  · exact ⟨fun _ => he ▸ List.getElem_mem hk, fun _ => by omega⟩
theorem AtIs.lt {l : List ByteArray} {s : ByteArray} {r : Int} (h : AtIs l s r) : -1 ≤ r ∧ r < (l.length : Int) := by
  rcases h with ⟨rfl, _⟩ | ⟨k, hk, rfl, _, _⟩ <;> omega

theorem name_spec (s : ByteArray) (w : World) (hs : s.size ≤ maxLen) (b : Bool) (hb : nameB s = b) :
    Calls Tryd.prog 38 #[.string s] w fun e w' => e = .returned (.bool b) ∧ w' = w := by
  by_cases h0 : s = ⟨#[]⟩
  · have e : b = false := by rw [← hb, h0]; rfl
    subst e h0
    clear hb
    go_enter Tryd.func38, Tryd.ntmps38
    go_wp2
    go_ret
    exact ⟨rfl, rfl⟩
  · have h1 : (s.toList == []) = false := by
      have := txt_other h0
      rw [show (⟨#[]⟩ : ByteArray).toList = [] from by rw [Lib.toList_data]] at this
      exact this
    have h2 : ¬ s.toList = [] := by intro e; rw [e] at h1; cases h1
    have e : (lets s.data.toList && decide ((s.size : Int) ≤ 6)) = b := by rw [← hb]; unfold nameB; rw [decide_eq_true h0, Bool.true_and]
    have HB : Hid ((lets s.data.toList && decide ((s.size : Int) ≤ 6)) = b) := e
    clear hb h0 e
    go_enter Tryd.func38, Tryd.ntmps38
    go_wp2_with fail
    refine (letters_spec s 6 _ hs).mono ?_
    rintro e w' ⟨rfl, rfl⟩
    rw [HB.out]
    go_wp2
    go_ret
    exact ⟨rfl, rfl⟩

set_option maxHeartbeats 1000000 in
theorem at_spec (a : Option Addr) (cap : Nat) (l : List ByteArray) (s : ByteArray) (w : World) (hrow : StrsAt w a l) (hm : l.length ≤ maxLen) :
    Calls Tryd.prog 39 #[.slice a l.length cap, .string s] w fun e w' => ∃ r, e = .returned (.int .i64 r) ∧ AtIs l s r ∧ Below w.heap.size w w' := by
  have HR : Hid (StrsAt w a l) := hrow
  clear hrow
  unfold maxLen at hm
  go_enter Tryd.func39, Tryd.ntmps39
  go_wp2
  go_loopw [5] (fun kk wr => ∃ k : Nat, k ≤ l.length ∧ kk = .int .i64 k ∧ Hid (∀ j (hj : j < l.length), j < k → l[j] ≠ s) ∧ Below w.heap.size w wr) (fun kk _ => l.length - (intOf kk).toNat)
  case atStart => exact ⟨0, Nat.zero_le _, rfl, fun j _ h => by omega, Below.refl _ _⟩
  case round =>
    obtain ⟨k, hk, rfl, hall, hbw⟩ := hrel
    by_cases hlt : k < l.length
    · obtain ⟨g, o, rfl, hgw, c0⟩ := HR.out.below hbw k hlt
      have hi0 : (0 : Int) ≤ (k : Int) := by omega
      have hi1 : (k : Int) < (l.length : Int) := by omega
      have HX : Hid (l[k] = l[k]) := rfl
      by_cases e : l[k] = s
      · have fin : Hid (AtIs l s (k : Int)) := Or.inr ⟨k, hlt, rfl, e, hall.out⟩
        have hq := txt_same e
        clear HX e
        generalize l[k] = x at c0 hq
        go_wp2
        go_ret
        exact ⟨_, rfl, fin.out, hbw⟩
      · have hall2 : Hid (∀ j (hj : j < l.length), j < k + 1 → l[j] ≠ s) := by
          have : ∀ j (hj : j < l.length), j < k + 1 → l[j] ≠ s := by
            intro j hj hjk
            by_cases ej : j = k
            · subst ej; exact e
            · exact hall.out j hj (by omega)
          exact this
        have hq := txt_other e
        clear HX e
        generalize l[k] = x at c0 hq
        go_wp2
        go_roundw
        case rel => exact ⟨k + 1, by omega, by go_num, hall2, hbw⟩
        case measure => simp [intOf]; omega
    · have fin : Hid (AtIs l s (-1)) := Or.inl ⟨rfl, fun hmem => by
        obtain ⟨j, hj, e⟩ := List.getElem_of_mem hmem
        exact hall.out j hj (by omega) e⟩
      go_wp2
      go_ret
      exact ⟨_, rfl, fin.out, hbw⟩

end Go.Proofs.YtegnekbbbfncgaaDoor

/-
  Tokens without any program: what a right one is, the text of a list of them, what a text is read as, and that tokens are read from their text.
-/
namespace Go.Proofs.YtegnekbbbfncgaaDoor

def letB (c : UInt8) : Bool := decide (97 ≤ c.toNat) && decide (c.toNat ≤ 122)
/-- A token: kind, text, cell. -/
abbrev TT := Int × ByteArray × CK
def zeroC : CK := (0, 0, ⟨#[]⟩)
/-- The words that are signs: and, or, not, lacks. -/
def signW : List ByteArray := [⟨#[97, 110, 100]⟩, ⟨#[111, 114]⟩, ⟨#[110, 111, 116]⟩, ⟨#[108, 97, 99, 107, 115]⟩]
/-- The signs of one byte: + - * / = < ( ). -/
def signO : List ByteArray := [⟨#[43]⟩, ⟨#[45]⟩, ⟨#[42]⟩, ⟨#[47]⟩, ⟨#[61]⟩, ⟨#[60]⟩, ⟨#[40]⟩, ⟨#[41]⟩]
def signB (s : ByteArray) : Bool := inB signW s || inB signO s
/-- A name that is no other word. -/
def nameK (s : ByteArray) : Bool := nameB s && (!inB signW s && (decide (s.data.toList ≠ wNone) && (decide (s.data.toList ≠ wYes) && decide (s.data.toList ≠ wNo))))
/-- The head of what is read as a cell. -/
theorem readB_head {l : List UInt8} {c : CK} (h : readB ⟨l.toArray⟩ = some c) : l = wNone ∨ l = wYes ∨ l = wNo ∨ ∃ b r, l = b :: r ∧ (isDig b = true ∨ b = 45 ∨ b = 39) := by
  obtain ⟨k, n, t⟩ := c
  obtain ⟨ho, e⟩ := readB_some h
  have e' := cellT_ok ho
  rw [e] at e'
  change l = _ at e'
  rcases okB_kind ho with rfl | rfl | rfl | rfl
  · exact .inl e'
  · obtain ⟨b, r, hb, hx⟩ := itoa_head n
    refine .inr (.inr (.inr ⟨b, r, by rw [e', l4T_1, hb], ?_⟩))
    rcases hx with hx | hx
    · exact .inl hx
    · exact .inr (.inl hx)
  · exact .inr (.inr (.inr ⟨39, _, by rw [e', l4T_2], .inr (.inr rfl)⟩))
  · obtain ⟨hn, _⟩ := okB_3 ho
    rcases hn with rfl | rfl
    · exact .inr (.inr (.inl (by rw [e', l4T_30])))
    · exact .inr (.inl (by rw [e', l4T_31]))
theorem letB_dig {c : UInt8} (h : isDig c = true) : letB c = false := by
  unfold isDig at h
  unfold letB
  simp only [Bool.and_eq_true, decide_eq_true_eq] at h
  rw [decide_eq_false (by omega)]; rfl
end Go.Proofs.YtegnekbbbfncgaaDoor

/-
  The longest piece that begins at a place of a text, without any program: what the program cuts off is just what a token is read from.
-/
namespace Go.Proofs.YtegnekbbbfncgaaDoor

end Go.Proofs.YtegnekbbbfncgaaDoor

/-
  Sums without any program: right items, what a sum is, its tree, its text in tokens, what tokens are read as, and that a sum is read from its text.
-/
namespace Go.Proofs.YtegnekbbbfncgaaDoor

/-- An item: kind, cell, name. -/
abbrev TI := Int × CK × ByteArray
/-- The item of a sign. -/
def opI (k : Int) : TI := (k, zeroC, ⟨#[]⟩)
/-- Is the item right? -/
def itemB (x : TI) : Bool :=
  if x.1 = 1 then okC x.2.1 && decide (x.2.2 = ⟨#[]⟩) else if x.1 = 2 then nameK x.2.2 && decide (x.2.1 = zeroC) else (decide (3 ≤ x.1) && decide (x.1 ≤ 12)) && decide (x = opI x.1)
/-- How many it reckons with. -/
def needsI (k : Int) : Nat := if k ≤ 2 then 0 else if 11 ≤ k then 1 else 2
/-- How many lie there behind these items, from n on; none where there are too few, or one is not right. -/
def heapN : List TI → Nat → Option Nat
  | [], n => some n
  | x :: l, n => if itemB x = true ∧ needsI x.1 ≤ n then heapN l (n + 1 - needsI x.1) else none
/-- Is it a sum? -/
def sumB (l : List TI) : Bool := decide (heapN l 0 = some 1) && decide (l.length ≤ 40)

/-- The tree of a sum. -/
inductive Tr where
  | leaf (x : TI)
  | one (k : Int) (t : Tr)
  | two (k : Int) (a b : Tr)
def Tr.post : Tr → List TI
  | .leaf x => [x]
  | .one k t => t.post ++ [opI k]
  | .two k a b => a.post ++ (b.post ++ [opI k])
def Tr.ok : Tr → Prop
  | .leaf x => itemB x = true ∧ (x.1 = 1 ∨ x.1 = 2)
  | .one k t => (k = 11 ∨ k = 12) ∧ t.ok
  | .two k a b => (3 ≤ k ∧ k ≤ 10) ∧ a.ok ∧ b.ok
theorem item_op {x : TI} (h : itemB x = true) (h1 : x.1 ≠ 1) (h2 : x.1 ≠ 2) : 3 ≤ x.1 ∧ x.1 ≤ 12 ∧ x = opI x.1 := by
  unfold itemB at h
  rw [if_neg h1, if_neg h2] at h
  simp only [Bool.and_eq_true, decide_eq_true_eq] at h
  exact ⟨h.1.1, h.1.2, h.2⟩
theorem heapN_append (l m : List TI) (n : Nat) : heapN (l ++ m) n = (heapN l n).bind (heapN m) := by
  induction l generalizing n with
  | nil => rfl
  | cons x l ih =>
    rw [List.cons_append]
    unfold heapN
    split
    · exact ih _
    · rfl
/-- The signs of the kinds. -/
def sgn (k : Int) : ByteArray :=
  if k = 3 then ⟨#[43]⟩ else if k = 4 then ⟨#[45]⟩ else if k = 5 then ⟨#[42]⟩ else if k = 6 then ⟨#[47]⟩ else if k = 7 then ⟨#[61]⟩ else if k = 8 then ⟨#[60]⟩ else if k = 9 then ⟨#[97, 110, 100]⟩ else if k = 10 then ⟨#[111, 114]⟩ else if k = 11 then ⟨#[110, 111, 116]⟩ else ⟨#[108, 97, 99, 107, 115]⟩
def sgnT (k : Int) : TT := (3, sgn k, zeroC)
end Go.Proofs.YtegnekbbbfncgaaDoor

/-
  The contract of the law's helper that holds two lists of cells against each other: of two that are one it answers true.
-/
namespace Go.Proofs.YtegnekbbbfncgaaDoor
open Go.ChangeShapes Go.WideShapes Go.ChangeAt Go.RowKit
attribute [local go_sem ↓] Go.wp_at_zero Go.wp_at_succ

end Go.Proofs.YtegnekbbbfncgaaDoor

/-
  Lists of Tokens: how one lies in memory, and the contracts of the law's helpers that measure, take over and compare.
-/
namespace Go.Proofs.YtegnekbbbfncgaaDoor
open Go.ChangeShapes Go.WideShapes Go.ChangeAt Go.RowKit
attribute [local go_sem ↓] Go.wp_at_zero Go.wp_at_succ
attribute [local simp] World.cell?_alloc_past World.cell?_alloc_at World.frozen?_alloc_at cell_far cell_off cell_here World.frozen?_alloc_past

/-- The Tokens of a slice lie where it says. -/
def TokAt (w : World) (a : Option Addr) (l : List TT) : Prop :=
  ∀ j (h : j < l.length), ∃ b o, a = some ⟨b, o, none⟩ ∧ b < w.heap.size ∧ w.cell? ⟨b, o + j * 5, none⟩ = some (.int .i64 l[j].1) ∧ w.cell? ⟨b, o + j * 5 + 1, none⟩ = some (.string l[j].2.1) ∧ w.cell? ⟨b, o + j * 5 + 2, none⟩ = some (.int .i64 l[j].2.2.1) ∧ w.cell? ⟨b, o + j * 5 + 3, none⟩ = some (.int .i64 l[j].2.2.2.1) ∧ w.cell? ⟨b, o + j * 5 + 4, none⟩ = some (.string l[j].2.2.2.2)
theorem TokAt.below {w w' : World} {a : Option Addr} {l : List TT} (h : TokAt w a l) (hb : Below w.heap.size w w') : TokAt w' a l := by
  intro j hj
  obtain ⟨b, o, ha, hlt, c0, c1, c2, c3, c4⟩ := h j hj
  refine ⟨b, o, ha, Nat.lt_of_lt_of_le hlt hb.size, ?_, ?_, ?_, ?_, ?_⟩
  · rw [hb.cell (p := ⟨b, _, none⟩) hlt]; exact c0
  · rw [hb.cell (p := ⟨b, _, none⟩) hlt]; exact c1
  · rw [hb.cell (p := ⟨b, _, none⟩) hlt]; exact c2
  · rw [hb.cell (p := ⟨b, _, none⟩) hlt]; exact c3
  · rw [hb.cell (p := ⟨b, _, none⟩) hlt]; exact c4
/-- Five cells of a block are written. -/
theorem five {w : World} {b : Nat} {a0 a1 a2 a3 a4 : Value} (v0 v1 v2 v3 v4 : Value) (h0 : w.cell? ⟨b, 0, none⟩ = some a0) (h1 : w.cell? ⟨b, 1, none⟩ = some a1) (h2 : w.cell? ⟨b, 2, none⟩ = some a2) (h3 : w.cell? ⟨b, 3, none⟩ = some a3) (h4 : w.cell? ⟨b, 4, none⟩ = some a4) :
    (((((w.setCell ⟨b, 0, none⟩ v0).setCell ⟨b, 1, none⟩ v1).setCell ⟨b, 2, none⟩ v2).setCell ⟨b, 3, none⟩ v3).setCell ⟨b, 4, none⟩ v4).cell? ⟨b, 0, none⟩ = some v0 ∧ (((((w.setCell ⟨b, 0, none⟩ v0).setCell ⟨b, 1, none⟩ v1).setCell ⟨b, 2, none⟩ v2).setCell ⟨b, 3, none⟩ v3).setCell ⟨b, 4, none⟩ v4).cell? ⟨b, 1, none⟩ = some v1 ∧ (((((w.setCell ⟨b, 0, none⟩ v0).setCell ⟨b, 1, none⟩ v1).setCell ⟨b, 2, none⟩ v2).setCell ⟨b, 3, none⟩ v3).setCell ⟨b, 4, none⟩ v4).cell? ⟨b, 2, none⟩ = some v2 ∧ (((((w.setCell ⟨b, 0, none⟩ v0).setCell ⟨b, 1, none⟩ v1).setCell ⟨b, 2, none⟩ v2).setCell ⟨b, 3, none⟩ v3).setCell ⟨b, 4, none⟩ v4).cell? ⟨b, 3, none⟩ = some v3 ∧ (((((w.setCell ⟨b, 0, none⟩ v0).setCell ⟨b, 1, none⟩ v1).setCell ⟨b, 2, none⟩ v2).setCell ⟨b, 3, none⟩ v3).setCell ⟨b, 4, none⟩ v4).cell? ⟨b, 4, none⟩ = some v4 := by
  refine ⟨?_, ?_, ?_, ?_, ?_⟩
  · rw [cell_off _ _ _ _ _ (by omega), cell_off _ _ _ _ _ (by omega), cell_off _ _ _ _ _ (by omega), cell_off _ _ _ _ _ (by omega), cell_here _ _ _ _ (by rw [h0]; rfl)]
  · rw [cell_off _ _ _ _ _ (by omega), cell_off _ _ _ _ _ (by omega), cell_off _ _ _ _ _ (by omega), cell_here _ _ _ _ (by rw [cell_off _ _ _ _ _ (by omega), h1]; rfl)]
  · rw [cell_off _ _ _ _ _ (by omega), cell_off _ _ _ _ _ (by omega), cell_here _ _ _ _ (by rw [cell_off _ _ _ _ _ (by omega), cell_off _ _ _ _ _ (by omega), h2]; rfl)]
  · rw [cell_off _ _ _ _ _ (by omega), cell_here _ _ _ _ (by rw [cell_off _ _ _ _ _ (by omega), cell_off _ _ _ _ _ (by omega), cell_off _ _ _ _ _ (by omega), h3]; rfl)]
  · rw [cell_here _ _ _ _ (by rw [cell_off _ _ _ _ _ (by omega), cell_off _ _ _ _ _ (by omega), cell_off _ _ _ _ _ (by omega), cell_off _ _ _ _ _ (by omega), h4]; rfl)]
end Go.Proofs.YtegnekbbbfncgaaDoor
