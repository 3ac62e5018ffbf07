/-
  Cells and their texts without any program: what a text is read as, what the program guesses, and that a cell is read from its own text alone.
-/
import Derived.Test.YtmhamgcjmehnnaaDoorMath
import Derived.Test.YtmhamgcjmehnnaaDoorKeyMath
import Derived.Lib.Strings
namespace Go.Proofs.YtmhamgcjmehnnaaDoor

theorem bytes_ext {s u : ByteArray} (h : s.data.toList = u.data.toList) : s = u := by
  obtain ⟨⟨a⟩⟩ := s
  obtain ⟨⟨b⟩⟩ := u
  simp at h
  rw [h]
theorem bytes_mk (l : List UInt8) : (⟨l.toArray⟩ : ByteArray).data.toList = l := rfl
theorem empty_bytes {t : ByteArray} (h : t.toList.isEmpty = true) : t = ⟨#[]⟩ := by
  rw [Lib.toList_data, List.isEmpty_iff] at h
  exact bytes_ext h
theorem bytes_empty : (⟨#[]⟩ : ByteArray).toList.isEmpty = true := by rw [Lib.toList_data]; rfl

def wNone : List UInt8 := [110, 111, 110, 101]
def wYes : List UInt8 := [121, 101, 115]
def wNo : List UInt8 := [110, 111]
/-- The text of a right cell. -/
def l4T (k n : Int) (t : List UInt8) : List UInt8 :=
  if k = 1 then Lib.itoa n else if k = 2 then 39 :: (t ++ [39]) else if k = 3 then (if n = 1 then wYes else wNo) else wNone
/-- The text of a cell; empty where it is not right. -/
def cellT (k n : Int) (t : ByteArray) : ByteArray := if okB k n t = true then ⟨(l4T k n t.data.toList).toArray⟩ else ⟨#[]⟩
def inner (s : ByteArray) : ByteArray := s.extract 1 (s.size - 1)
def textB (t : ByteArray) : Bool := lets t.data.toList && decide ((t.size : Int) ≤ 12)
/-- What a text is read as. -/
def readB (s : ByteArray) : Option (Int × Int × ByteArray) :=
  if s.data.toList = wNone then some (0, 0, ⟨#[]⟩)
  else if s.data.toList = wYes then some (3, 1, ⟨#[]⟩)
  else if s.data.toList = wNo then some (3, 0, ⟨#[]⟩)
  else match readMost s.data.toList with
    | some n => if numB n = true then some (1, n, ⟨#[]⟩) else none
    | none => if 1 < s.size ∧ s.data.toList.head? = some 39 ∧ s.data.toList.getLast? = some 39 then (if textB (inner s) = true then some (2, 0, inner s) else none) else none

theorem okB_0 {n : Int} {t : ByteArray} (h : okB 0 n t = true) : n = 0 ∧ t = ⟨#[]⟩ := by
  unfold okB at h
  rw [if_pos rfl, Bool.and_eq_true, beq_iff_eq] at h
  exact ⟨h.1, empty_bytes h.2⟩
theorem okB_1 {n : Int} {t : ByteArray} (h : okB 1 n t = true) : numB n = true ∧ t = ⟨#[]⟩ := by
  unfold okB at h
  rw [if_neg (by decide), if_pos rfl, Bool.and_eq_true] at h
  exact ⟨h.1, empty_bytes h.2⟩
theorem okB_2 {n : Int} {t : ByteArray} (h : okB 2 n t = true) : n = 0 ∧ textB t = true := by
  unfold okB at h
  rw [if_neg (by decide), if_neg (by decide), if_pos rfl, Bool.and_eq_true, beq_iff_eq] at h
  exact ⟨h.2, h.1⟩
theorem okB_3 {n : Int} {t : ByteArray} (h : okB 3 n t = true) : (n = 0 ∨ n = 1) ∧ t = ⟨#[]⟩ := by
  unfold okB at h
  rw [if_neg (by decide), if_neg (by decide), if_neg (by decide), if_pos rfl, Bool.and_eq_true, Bool.and_eq_true, decide_eq_true_eq, decide_eq_true_eq] at h
  exact ⟨by omega, empty_bytes h.2⟩
theorem okB_kind {k n : Int} {t : ByteArray} (h : okB k n t = true) : k = 0 ∨ k = 1 ∨ k = 2 ∨ k = 3 := by
  by_cases h0 : k = 0
  · exact .inl h0
  by_cases h1 : k = 1
  · exact .inr (.inl h1)
  by_cases h2 : k = 2
  · exact .inr (.inr (.inl h2))
  by_cases h3 : k = 3
  · exact .inr (.inr (.inr h3))
  unfold okB at h
  rw [if_neg h0, if_neg h1, if_neg h2, if_neg h3] at h
  cases h
theorem okB_0' : okB 0 0 ⟨#[]⟩ = true := by unfold okB; rw [if_pos rfl, bytes_empty]; rfl
theorem okB_1' {n : Int} : okB 1 n ⟨#[]⟩ = numB n := by unfold okB; rw [if_neg (by decide), if_pos rfl, bytes_empty, Bool.and_true]
theorem okB_2' {t : ByteArray} : okB 2 0 t = textB t := by unfold okB; rw [if_neg (by decide), if_neg (by decide), if_pos rfl]; simp [textB]
theorem okB_31 : okB 3 1 ⟨#[]⟩ = true := by unfold okB; rw [if_neg (by decide), if_neg (by decide), if_neg (by decide), if_pos rfl, bytes_empty]; rfl
theorem okB_30 : okB 3 0 ⟨#[]⟩ = true := by unfold okB; rw [if_neg (by decide), if_neg (by decide), if_neg (by decide), if_pos rfl, bytes_empty]; rfl

theorem l4T_0 (n : Int) (t : List UInt8) : l4T 0 n t = wNone := rfl
theorem l4T_1 (n : Int) (t : List UInt8) : l4T 1 n t = Lib.itoa n := rfl
theorem l4T_2 (n : Int) (t : List UInt8) : l4T 2 n t = 39 :: (t ++ [39]) := rfl
theorem l4T_31 (t : List UInt8) : l4T 3 1 t = wYes := rfl
theorem l4T_30 (t : List UInt8) : l4T 3 0 t = wNo := rfl
theorem cellT_ok {k n : Int} {t : ByteArray} (h : okB k n t = true) : (cellT k n t).data.toList = l4T k n t.data.toList := by unfold cellT; rw [if_pos h]
theorem cellT_no {k n : Int} {t : ByteArray} (h : okB k n t = false) : cellT k n t = ⟨#[]⟩ := by unfold cellT; rw [if_neg (by rw [h]; decide)]

theorem numB_iff {n : Int} : numB n = true ↔ -1000000000 ≤ n ∧ n ≤ 1000000000 := by unfold numB; rw [Bool.and_eq_true, decide_eq_true_eq, decide_eq_true_eq]
/-- A numeral begins with a digit or the sign -. -/
theorem itoa_head (n : Int) : ∃ c r, Lib.itoa n = c :: r ∧ (isDig c = true ∨ c = 45) := by
  by_cases hn : n < 0
  · exact ⟨45, _, itoa_neg n hn, .inr rfl⟩
  · obtain ⟨_, p, _⟩ := decDigits_plain n.toNat
    cases hD : Lib.decDigits n.toNat with
    | nil => exact absurd hD p.1
    | cons c r => rw [hD] at p; exact ⟨c, r, by rw [itoa_nonneg n (by omega), hD], .inl (p.2.1 c (by simp))⟩
theorem itoa_no (n : Int) (l : List UInt8) (c : UInt8) (h : l.head? = some c) (hc : isDig c = false) (h45 : c ≠ 45) : l ≠ Lib.itoa n := by
  intro e
  obtain ⟨d, r, hd, hx⟩ := itoa_head n
  rw [e, hd] at h
  have : d = c := by simpa using h
  subst this
  rcases hx with hx | hx
  · rw [hc] at hx; cases hx
  · exact h45 hx
theorem readMost_no {l : List UInt8} (c : UInt8) (h : l.head? = some c) (hc : isDig c = false) (h45 : c ≠ 45) : readMost l = none := by
  cases hr : readMost l with
  | none => rfl
  | some n => exact absurd (readMost_some hr) (itoa_no n l c h hc h45)

theorem inner_list {s : ByteArray} {l : List UInt8} (h : s.data.toList = 39 :: (l ++ [39])) : (inner s).data.toList = l := by
  unfold inner
  rw [Lib.extract_data, h, Lib.size_eq, h]
  simp
/-- A right cell is read from its text. -/
theorem readB_text {k n : Int} {t : ByteArray} (h : okB k n t = true) : readB (cellT k n t) = some (k, n, t) := by
  rcases okB_kind h with rfl | rfl | rfl | rfl
  · obtain ⟨rfl, rfl⟩ := okB_0 h
    unfold readB
    rw [cellT_ok h, l4T_0, if_pos rfl]
  · obtain ⟨hn, rfl⟩ := okB_1 h
    obtain ⟨c, r, he, hx⟩ := itoa_head n
    have hne : ∀ l : List UInt8, l.head? = some 110 ∨ l.head? = some 121 → Lib.itoa n ≠ l := by
      intro l hl e
      rw [← e, he] at hl
      have : c = 110 ∨ c = 121 := by simpa using hl
      rcases this with rfl | rfl <;> rcases hx with hx | hx <;> exact absurd hx (by decide)
    have hb := numB_iff.1 hn
    unfold readB
    rw [cellT_ok h, l4T_1, if_neg (hne _ (.inl rfl)), if_neg (hne _ (.inr rfl)), if_neg (hne _ (.inl rfl)), readMost_itoa n (by omega) (by omega)]
    simp only []
    rw [if_pos hn]
  · obtain ⟨rfl, ht⟩ := okB_2 h
    have e := cellT_ok h
    rw [l4T_2] at e
    have hi := inner_list e
    have hi' : inner (cellT 2 0 t) = t := bytes_ext hi
    have hs : 1 < (cellT 2 0 t).size := by rw [Lib.size_eq, e]; simp
    unfold readB
    rw [if_neg (by rw [e]; intro x; exact absurd x (by simp [wNone])), if_neg (by rw [e]; intro x; exact absurd x (by simp [wYes])), if_neg (by rw [e]; intro x; exact absurd x (by simp [wNo])),
      readMost_no 39 (by rw [e]; rfl) (by decide) (by decide)]
    simp only []
    rw [if_pos ⟨hs, by rw [e]; rfl, by rw [e, ← List.cons_append, List.getLast?_concat]⟩, hi', if_pos ht]
  · obtain ⟨hn, rfl⟩ := okB_3 h
    rcases hn with rfl | rfl
    · unfold readB
      rw [cellT_ok h, l4T_30, if_neg (by decide), if_neg (by decide), if_pos rfl]
    · unfold readB
      rw [cellT_ok h, l4T_31, if_neg (by decide), if_pos rfl]
/-- What is read is right, and its text is what was read. -/
theorem readB_some {s : ByteArray} {k n : Int} {t : ByteArray} (h : readB s = some (k, n, t)) : okB k n t = true ∧ cellT k n t = s := by
  have fin : ∀ {k n : Int} {t : ByteArray}, okB k n t = true → l4T k n t.data.toList = s.data.toList → okB k n t = true ∧ cellT k n t = s := fun ho hl => ⟨ho, bytes_ext (by rw [cellT_ok ho, hl])⟩
  unfold readB at h
  split at h
  · rename_i e
    injection h with h
    injection h with h1 h2
    injection h2 with h2 h3
    subst h1 h2 h3
    exact fin okB_0' e.symm
  · split at h
    · rename_i e
      injection h with h
      injection h with h1 h2
      injection h2 with h2 h3
      subst h1 h2 h3
      exact fin okB_31 e.symm
    · split at h
      · rename_i e
        injection h with h
        injection h with h1 h2
        injection h2 with h2 h3
        subst h1 h2 h3
        exact fin okB_30 e.symm
      · split at h
        · rename_i m hm
          split at h
          · rename_i hn
            injection h with h
            injection h with h1 h2
            injection h2 with h2 h3
            subst h1 h2 h3
            exact fin (okB_1'.trans hn) (readMost_some hm).symm
          · cases h
        · split at h
          · rename_i hq
            split at h
            · rename_i ht
              injection h with h
              injection h with h1 h2
              injection h2 with h2 h3
              subst h1 h2
              obtain ⟨hs, hh, hl⟩ := hq
              rw [← h3]
              refine fin (okB_2'.trans ht) ?_
              obtain ⟨m, he⟩ : ∃ m, s.data.toList = 39 :: (m ++ [39]) := by
                cases hd : s.data.toList with
                | nil => rw [hd] at hh; cases hh
                | cons c r =>
                  rw [hd] at hh hl
                  have : c = 39 := by simpa using hh
                  subst this
                  rcases List.eq_nil_or_concat r with rfl | ⟨r', d, hr⟩
                  · rw [Lib.size_eq, hd] at hs; simp at hs
                  · have hr : r = r' ++ [d] := by rw [hr, List.concat_eq_append]
                    subst hr
                    have : d = 39 := by
                      rw [← List.cons_append, List.getLast?_concat] at hl
                      simpa using hl
                    subst this
                    exact ⟨r', rfl⟩
              rw [inner_list he, he]; rfl
            · cases h
          · cases h

/-- What the program guesses of a text. -/
def innerL (l : List UInt8) : List UInt8 := Lib.trimSuffix (Lib.trimPrefix l [39]) [39]
/-- The guess is the cell that is read. -/
theorem guess_text {s : ByteArray} {k n : Int} {t : ByteArray} (h : readB s = some (k, n, t)) :
    (k = 0 ∧ n = 0 ∧ t = ⟨#[]⟩ ∧ s.data.toList = wNone) ∨ (k = 3 ∧ n = 1 ∧ t = ⟨#[]⟩ ∧ s.data.toList = wYes) ∨ (k = 3 ∧ n = 0 ∧ t = ⟨#[]⟩ ∧ s.data.toList = wNo) ∨
    (k = 2 ∧ n = 0 ∧ t.data.toList = innerL s.data.toList ∧ s.data.toList.head? = some 39) ∨ (k = 1 ∧ t = ⟨#[]⟩ ∧ Lib.parseIntB 64 s.data.toList = .ok n ∧ s.data.toList.head? ≠ some 39) := by
  obtain ⟨ho, rfl⟩ := readB_some h
  have e := cellT_ok ho
  rcases okB_kind ho with rfl | rfl | rfl | rfl
  · obtain ⟨rfl, rfl⟩ := okB_0 ho
    exact .inl ⟨rfl, rfl, rfl, e⟩
  · obtain ⟨hn, rfl⟩ := okB_1 ho
    have hb := numB_iff.1 hn
    refine .inr (.inr (.inr (.inr ⟨rfl, rfl, ?_, ?_⟩)))
    · rw [e, l4T_1]; exact parse_itoa n hb.1 hb.2
    · rw [e, l4T_1]
      intro x
      exact itoa_no n _ 39 x (by decide) (by decide) rfl
  · obtain ⟨rfl, ht⟩ := okB_2 ho
    refine .inr (.inr (.inr (.inl ⟨rfl, rfl, ?_, ?_⟩)))
    · rw [e, l4T_2]
      unfold innerL Lib.trimPrefix Lib.hasPrefix
      rw [if_pos (by simp)]
      simp only [List.length_cons, List.length_nil, Nat.zero_add, List.drop_succ_cons, List.drop_zero]
      unfold Lib.trimSuffix Lib.hasSuffix
      rw [if_pos (by rw [List.isSuffixOf_iff_suffix]; exact List.suffix_append _ _)]
      simp
    · rw [e, l4T_2]; rfl
  · obtain ⟨hn, rfl⟩ := okB_3 ho
    rcases hn with rfl | rfl
    · exact .inr (.inr (.inl ⟨rfl, rfl, rfl, e⟩))
    · exact .inr (.inl ⟨rfl, rfl, rfl, e⟩)
/-- What is no cell's text is no text of the guess. -/
theorem guess_no {s : ByteArray} (h : readB s = none) (hs : s ≠ ⟨#[]⟩) (k n : Int) (t : ByteArray) : cellT k n t ≠ s := by
  intro e
  cases ho : okB k n t with
  | true => rw [← e, readB_text ho] at h; cases h
  | false => rw [cellT_no ho] at e; exact hs e.symm
theorem readB_nil : readB ⟨#[]⟩ = none := by
  cases h : readB ⟨#[]⟩ with
  | none => rfl
  | some c =>
    obtain ⟨k, n, t⟩ := c
    obtain ⟨ho, e⟩ := readB_some h
    have e' := cellT_ok ho
    rw [e] at e'
    exfalso
    have e2 : ([] : List UInt8) = l4T k n t.data.toList := e'
    rcases okB_kind ho with rfl | rfl | rfl | rfl
    · cases e2
    · obtain ⟨c, r, he, _⟩ := itoa_head n
      rw [l4T_1, he] at e2; cases e2
    · rw [l4T_2] at e2; cases e2
    · obtain ⟨hn, _⟩ := okB_3 ho
      rcases hn with rfl | rfl
      · rw [l4T_30] at e2; cases e2
      · rw [l4T_31] at e2; cases e2

/-- The text of a right cell is not empty, and has no blank. -/
theorem l4T_some {k n : Int} {t : ByteArray} (h : okB k n t = true) : l4T k n t.data.toList ≠ [] ∧ (32 : UInt8) ∉ l4T k n t.data.toList := by
  rcases okB_kind h with rfl | rfl | rfl | rfl
  · rw [l4T_0]; decide
  · rw [l4T_1]
    have key : ∀ u, (32 : UInt8) ∉ Lib.decDigits u := by
      intro u hm
      obtain ⟨_, p, _⟩ := decDigits_plain u
      exact absurd (p.2.1 32 hm) (by decide)
    obtain ⟨c, r, he, _⟩ := itoa_head n
    refine ⟨by rw [he]; simp, ?_⟩
    by_cases hn : n < 0
    · rw [itoa_neg n hn]
      intro hm
      rcases List.mem_cons.1 hm with h | h
      · exact absurd h (by decide)
      · exact key _ h
    · rw [itoa_nonneg n (by omega)]; exact key _
  · obtain ⟨_, ht⟩ := okB_2 h
    rw [l4T_2]
    refine ⟨by simp, ?_⟩
    intro hm
    rcases List.mem_cons.1 hm with h | h
    · exact absurd h (by decide)
    · rcases List.mem_append.1 h with h | h
      · unfold textB lets at ht
        rw [Bool.and_eq_true] at ht
        have := List.all_eq_true.1 ht.1 32 h
        exact absurd this (by decide)
      · exact absurd h (by decide)
  · obtain ⟨hn, _⟩ := okB_3 h
    rcases hn with rfl | rfl
    · rw [l4T_30]; decide
    · rw [l4T_31]; decide
/-- It is short. -/
theorem l4T_len {k n : Int} {t : ByteArray} (h : okB k n t = true) : (l4T k n t.data.toList).length ≤ 14 := by
  rcases okB_kind h with rfl | rfl | rfl | rfl
  · rw [l4T_0]; decide
  · rw [l4T_1]
    have hb := numB_iff.1 (okB_1 h).1
    by_cases hn : n < 0
    · rw [itoa_neg n hn]
      have := decDigits_len n.natAbs (by omega)
      simp; omega
    · rw [itoa_nonneg n (by omega)]
      have := decDigits_len n.toNat (by omega)
      omega
  · obtain ⟨_, ht⟩ := okB_2 h
    unfold textB at ht
    rw [Bool.and_eq_true, decide_eq_true_eq, Lib.size_eq] at ht
    rw [l4T_2, List.length_cons, List.length_append, List.length_singleton]
    omega
  · obtain ⟨hn, _⟩ := okB_3 h
    rcases hn with rfl | rfl
    · rw [l4T_30]; decide
    · rw [l4T_31]; decide

end Go.Proofs.YtmhamgcjmehnnaaDoor
