/-
  A part of the proof: ReadMath, SplitMath, RowMath, KeyS, RowS, Names1.
-/
import Derived.Test.YtgiknjlifocioaaGreatDoorPart1
import Derived.Test.YtgiknjlifocioaaGreatDoorPart3
import Derived.Lib.Strings
import Derived.Lib.SplitLaws
import Derived.Lib.Join
import Derived.Laws.IdiomStrings
import Derived.Test.YtgiknjlifocioaaGreatDoorPart2

/-
  Cells and their texts without any program: what a text is read as, what the program guesses, and that a cell is read from its own text alone.
-/
namespace Go.Proofs.YtgiknjlifocioaaGreatDoor

theorem bytes_ext {s u : ByteArray} (h : s.data.toList = u.data.toList) : s = u := by
  obtain ⟨⟨a⟩⟩ := s
  obtain ⟨⟨b⟩⟩ := u
  simp at h
  rw [h]
theorem bytes_mk (l : List UInt8) : (⟨l.toArray⟩ : ByteArray).data.toList = l := rfl
theorem empty_bytes {t : ByteArray} (h : t.toList.isEmpty = true) : t = ⟨#[]⟩ := by
  rw [Lib.toList_data, List.isEmpty_iff] at h
  exact bytes_ext h
theorem bytes_empty : (⟨#[]⟩ : ByteArray).toList.isEmpty = true := by rw [Lib.toList_data]; rfl

def wNone : List UInt8 := [110, 111, 110, 101]
def wYes : List UInt8 := [121, 101, 115]
def wNo : List UInt8 := [110, 111]
/-- The text of a right cell. -/
def l4T (k n : Int) (t : List UInt8) : List UInt8 :=
  if k = 1 then Lib.itoa n else if k = 2 then 39 :: (t ++ [39]) else if k = 3 then (if n = 1 then wYes else wNo) else wNone
/-- The text of a cell; empty where it is not right. -/
def cellT (k n : Int) (t : ByteArray) : ByteArray := if okB k n t = true then ⟨(l4T k n t.data.toList).toArray⟩ else ⟨#[]⟩
def inner (s : ByteArray) : ByteArray := s.extract 1 (s.size - 1)
def textB (t : ByteArray) : Bool := lets t.data.toList && decide ((t.size : Int) ≤ 12)
/-- What a text is read as. -/
def readB (s : ByteArray) : Option (Int × Int × ByteArray) :=
  if s.data.toList = wNone then some (0, 0, ⟨#[]⟩)
  else if s.data.toList = wYes then some (3, 1, ⟨#[]⟩)
  else if s.data.toList = wNo then some (3, 0, ⟨#[]⟩)
  else match readMost s.data.toList with
    | some n => if numB n = true then some (1, n, ⟨#[]⟩) else none
    | none => if 1 < s.size ∧ s.data.toList.head? = some 39 ∧ s.data.toList.getLast? = some 39 then (if textB (inner s) = true then some (2, 0, inner s) else none) else none

theorem okB_0 {n : Int} {t : ByteArray} (h : okB 0 n t = true) : n = 0 ∧ t = ⟨#[]⟩ := by
  unfold okB at h
  rw [if_pos rfl, Bool.and_eq_true, beq_iff_eq] at h
  exact ⟨h.1, empty_bytes h.2⟩
theorem okB_1 {n : Int} {t : ByteArray} (h : okB 1 n t = true) : numB n = true ∧ t = ⟨#[]⟩ := by
  unfold okB at h
  rw [if_neg (by decide), if_pos rfl, Bool.and_eq_true] at h
  exact ⟨h.1, empty_bytes h.2⟩
theorem okB_2 {n : Int} {t : ByteArray} (h : okB 2 n t = true) : n = 0 ∧ textB t = true := by
  unfold okB at h
  rw [if_neg (by decide), if_neg (by decide), if_pos rfl, Bool.and_eq_true, beq_iff_eq] at h
  exact ⟨h.2, h.1⟩
theorem okB_3 {n : Int} {t : ByteArray} (h : okB 3 n t = true) : (n = 0 ∨ n = 1) ∧ t = ⟨#[]⟩ := by
  unfold okB at h
  rw [if_neg (by decide), if_neg (by decide), if_neg (by decide), if_pos rfl, Bool.and_eq_true, Bool.and_eq_true, decide_eq_true_eq, decide_eq_true_eq] at h
  exact ⟨by omega, empty_bytes h.2⟩
theorem okB_kind {k n : Int} {t : ByteArray} (h : okB k n t = true) : k = 0 ∨ k = 1 ∨ k = 2 ∨ k = 3 := by
  by_cases h0 : k = 0
  · exact .inl h0
  by_cases h1 : k = 1
  · exact .inr (.inl h1)
  by_cases h2 : k = 2
  · exact .inr (.inr (.inl h2))
  by_cases h3 : k = 3
  · exact .inr (.inr (.inr h3))
  unfold okB at h
  rw [if_neg h0, if_neg h1, if_neg h2, if_neg h3] at h
  cases h
theorem okB_0' : okB 0 0 ⟨#[]⟩ = true := by unfold okB; rw [if_pos rfl, bytes_empty]; rfl
theorem okB_1' {n : Int} : okB 1 n ⟨#[]⟩ = numB n := by unfold okB; rw [if_neg (by decide), if_pos rfl, bytes_empty, Bool.and_true]
theorem okB_2' {t : ByteArray} : okB 2 0 t = textB t := by unfold okB; rw [if_neg (by decide), if_neg (by decide), if_pos rfl]; simp [textB]
theorem okB_31 : okB 3 1 ⟨#[]⟩ = true := by unfold okB; rw [if_neg (by decide), if_neg (by decide), if_neg (by decide), if_pos rfl, bytes_empty]; rfl
theorem okB_30 : okB 3 0 ⟨#[]⟩ = true := by unfold okB; rw [if_neg (by decide), if_neg (by decide), if_neg (by decide), if_pos rfl, bytes_empty]; rfl

theorem l4T_0 (n : Int) (t : List UInt8) : l4T 0 n t = wNone := rfl
theorem l4T_1 (n : Int) (t : List UInt8) : l4T 1 n t = Lib.itoa n := rfl
theorem l4T_2 (n : Int) (t : List UInt8) : l4T 2 n t = 39 :: (t ++ [39]) := rfl
theorem l4T_31 (t : List UInt8) : l4T 3 1 t = wYes := rfl
theorem l4T_30 (t : List UInt8) : l4T 3 0 t = wNo := rfl
theorem cellT_ok {k n : Int} {t : ByteArray} (h : okB k n t = true) : (cellT k n t).data.toList = l4T k n t.data.toList := by unfold cellT; rw [if_pos h]
theorem cellT_no {k n : Int} {t : ByteArray} (h : okB k n t = false) : cellT k n t = ⟨#[]⟩ := by unfold cellT; rw [if_neg (by rw [h]; decide)]

theorem numB_iff {n : Int} : numB n = true ↔ -1000000000 ≤ n ∧ n ≤ 1000000000 := by unfold numB; rw [Bool.and_eq_true, decide_eq_true_eq, decide_eq_true_eq]
/-- A numeral begins with a digit or the sign -. -/
theorem itoa_head (n : Int) : ∃ c r, Lib.itoa n = c :: r ∧ (isDig c = true ∨ c = 45) := by
  by_cases hn : n < 0
  · exact ⟨45, _, itoa_neg n hn, .inr rfl⟩
  · obtain ⟨_, p, _⟩ := decDigits_plain n.toNat
    cases hD : Lib.decDigits n.toNat with
    | nil => exact absurd hD p.1
    | cons c r => rw [hD] at p; exact ⟨c, r, by rw [itoa_nonneg n (by omega), hD], .inl (p.2.1 c (by simp))⟩
theorem itoa_no (n : Int) (l : List UInt8) (c : UInt8) (h : l.head? = some c) (hc : isDig c = false) (h45 : c ≠ 45) : l ≠ Lib.itoa n := by
  intro e
  obtain ⟨d, r, hd, hx⟩ := itoa_head n
  rw [e, hd] at h
  have : d = c := by simpa using h
  subst this
  rcases hx with hx | hx
  · rw [hc] at hx; cases hx
  · exact h45 hx
theorem readMost_no {l : List UInt8} (c : UInt8) (h : l.head? = some c) (hc : isDig c = false) (h45 : c ≠ 45) : readMost l = none := by
  cases hr : readMost l with
  | none => rfl
  | some n => exact absurd (readMost_some hr) (itoa_no n l c h hc h45)

theorem inner_list {s : ByteArray} {l : List UInt8} (h : s.data.toList = 39 :: (l ++ [39])) : (inner s).data.toList = l := by
  unfold inner
  rw [Lib.extract_data, h, Lib.size_eq, h]
  simp
/-- A right cell is read from its text. -/
theorem readB_text {k n : Int} {t : ByteArray} (h : okB k n t = true) : readB (cellT k n t) = some (k, n, t) := by
  rcases okB_kind h with rfl | rfl | rfl | rfl
  · obtain ⟨rfl, rfl⟩ := okB_0 h
    unfold readB
    rw [cellT_ok h, l4T_0, if_pos rfl]
  · obtain ⟨hn, rfl⟩ := okB_1 h
    obtain ⟨c, r, he, hx⟩ := itoa_head n
    have hne : ∀ l : List UInt8, l.head? = some 110 ∨ l.head? = some 121 → Lib.itoa n ≠ l := by
      intro l hl e
      rw [← e, he] at hl
      have : c = 110 ∨ c = 121 := by simpa using hl
      rcases this with rfl | rfl <;> rcases hx with hx | hx <;> exact absurd hx (by decide)
    have hb := numB_iff.1 hn
    unfold readB
    rw [cellT_ok h, l4T_1, if_neg (hne _ (.inl rfl)), if_neg (hne _ (.inr rfl)), if_neg (hne _ (.inl rfl)), readMost_itoa n (by omega) (by omega)]
    simp only []
    rw [if_pos hn]
  · obtain ⟨rfl, ht⟩ := okB_2 h
    have e := cellT_ok h
    rw [l4T_2] at e
    have hi := inner_list e
    have hi' : inner (cellT 2 0 t) = t := bytes_ext hi
    have hs : 1 < (cellT 2 0 t).size := by rw [Lib.size_eq, e]; simp
    unfold readB
    rw [if_neg (by rw [e]; intro x; exact absurd x (by simp [wNone])), if_neg (by rw [e]; intro x; exact absurd x (by simp [wYes])), if_neg (by rw [e]; intro x; exact absurd x (by simp [wNo])),
      readMost_no 39 (by rw [e]; rfl) (by decide) (by decide)]
    simp only []
    rw [if_pos ⟨hs, by rw [e]; rfl, by rw [e, ← List.cons_append, List.getLast?_concat]⟩, hi', if_pos ht]
  · obtain ⟨hn, rfl⟩ := okB_3 h
    rcases hn with rfl | rfl
    · unfold readB
      rw [cellT_ok h, l4T_30, if_neg (by decide), if_neg (by decide), if_pos rfl]
    · unfold readB
      rw [cellT_ok h, l4T_31, if_neg (by decide), if_pos rfl]
/-- What is read is right, and its text is what was read. -/
theorem readB_some {s : ByteArray} {k n : Int} {t : ByteArray} (h : readB s = some (k, n, t)) : okB k n t = true ∧ cellT k n t = s := by
  have fin : ∀ {k n : Int} {t : ByteArray}, okB k n t = true → l4T k n t.data.toList = s.data.toList → okB k n t = true ∧ cellT k n t = s := fun ho hl => ⟨ho, bytes_ext (by rw [cellT_ok ho, hl])⟩
  unfold readB at h
  split at h
  · rename_i e
    injection h with h
    injection h with h1 h2
    injection h2 with h2 h3
    subst h1 h2 h3
    exact fin okB_0' e.symm
  · split at h
    · rename_i e
      injection h with h
      injection h with h1 h2
      injection h2 with h2 h3
      subst h1 h2 h3
      exact fin okB_31 e.symm
    · split at h
      · rename_i e
        injection h with h
        injection h with h1 h2
        injection h2 with h2 h3
        subst h1 h2 h3
        exact fin okB_30 e.symm
      · split at h
        · rename_i m hm
          split at h
          · rename_i hn
            injection h with h
            injection h with h1 h2
            injection h2 with h2 h3
            subst h1 h2 h3
            exact fin (okB_1'.trans hn) (readMost_some hm).symm
          · cases h
        · split at h
          · rename_i hq
            split at h
            · rename_i ht
              injection h with h
              injection h with h1 h2
              injection h2 with h2 h3
              subst h1 h2
              obtain ⟨hs, hh, hl⟩ := hq
              rw [← h3]
              refine fin (okB_2'.trans ht) ?_
              obtain ⟨m, he⟩ : ∃ m, s.data.toList = 39 :: (m ++ [39]) := by
                cases hd : s.data.toList with
                | nil => rw [hd] at hh; cases hh
                | cons c r =>
                  rw [hd] at hh hl
                  have : c = 39 := by simpa using hh
                  subst this
                  rcases List.eq_nil_or_concat r with rfl | ⟨r', d, hr⟩
                  · rw [Lib.size_eq, hd] at hs; simp at hs
                  · have hr : r = r' ++ [d] := by rw [hr, List.concat_eq_append]
                    subst hr
                    have : d = 39 := by
                      rw [← List.cons_append, List.getLast?_concat] at hl
                      simpa using hl
                    subst this
                    exact ⟨r', rfl⟩
              rw [inner_list he, he]; rfl
            · cases h
          · cases h

/-- What the program guesses of a text. -/
def innerL (l : List UInt8) : List UInt8 := Lib.trimSuffix (Lib.trimPrefix l [39]) [39]
/-- The guess is the cell that is read. -/
theorem guess_text {s : ByteArray} {k n : Int} {t : ByteArray} (h : readB s = some (k, n, t)) :
    (k = 0 ∧ n = 0 ∧ t = ⟨#[]⟩ ∧ s.data.toList = wNone) ∨ (k = 3 ∧ n = 1 ∧ t = ⟨#[]⟩ ∧ s.data.toList = wYes) ∨ (k = 3 ∧ n = 0 ∧ t = ⟨#[]⟩ ∧ s.data.toList = wNo) ∨
    (k = 2 ∧ n = 0 ∧ t.data.toList = innerL s.data.toList ∧ s.data.toList.head? = some 39) ∨ (k = 1 ∧ t = ⟨#[]⟩ ∧ Lib.parseIntB 64 s.data.toList = .ok n ∧ s.data.toList.head? ≠ some 39) := by
  obtain ⟨ho, rfl⟩ := readB_some h
  have e := cellT_ok ho
  rcases okB_kind ho with rfl | rfl | rfl | rfl
  · obtain ⟨rfl, rfl⟩ := okB_0 ho
    exact .inl ⟨rfl, rfl, rfl, e⟩
  · obtain ⟨hn, rfl⟩ := okB_1 ho
    have hb := numB_iff.1 hn
    refine .inr (.inr (.inr (.inr ⟨rfl, rfl, ?_, ?_⟩)))
    · rw [e, l4T_1]; exact parse_itoa n hb.1 hb.2
    · rw [e, l4T_1]
      intro x
      exact itoa_no n _ 39 x (by decide) (by decide) rfl
  · obtain ⟨rfl, ht⟩ := okB_2 ho
    refine .inr (.inr (.inr (.inl ⟨rfl, rfl, ?_, ?_⟩)))
    · rw [e, l4T_2]
      unfold innerL Lib.trimPrefix Lib.hasPrefix
      rw [if_pos (by simp)]
      simp only [List.length_cons, List.length_nil, Nat.zero_add, List.drop_succ_cons, List.drop_zero]
      unfold Lib.trimSuffix Lib.hasSuffix
      rw [if_pos (by rw [List.isSuffixOf_iff_suffix]; exact List.suffix_append _ _)]
      simp
    · rw [e, l4T_2]; rfl
  · obtain ⟨hn, rfl⟩ := okB_3 ho
    rcases hn with rfl | rfl
    · exact .inr (.inr (.inl ⟨rfl, rfl, rfl, e⟩))
    · exact .inr (.inl ⟨rfl, rfl, rfl, e⟩)
/-- What is no cell's text is no text of the guess. -/
theorem guess_no {s : ByteArray} (h : readB s = none) (hs : s ≠ ⟨#[]⟩) (k n : Int) (t : ByteArray) : cellT k n t ≠ s := by
  intro e
  cases ho : okB k n t with
  | true => rw [← e, readB_text ho] at h; cases h
  | false => rw [cellT_no ho] at e; exact hs e.symm
theorem readB_nil : readB ⟨#[]⟩ = none := by
  cases h : readB ⟨#[]⟩ with
  | none => rfl
  | some c =>
    obtain ⟨k, n, t⟩ := c
    obtain ⟨ho, e⟩ := readB_some h
    have e' := cellT_ok ho
    rw [e] at e'
    exfalso
    have e2 : ([] : List UInt8) = l4T k n t.data.toList := e'
    rcases okB_kind ho with rfl | rfl | rfl | rfl
    · cases e2
    · obtain ⟨c, r, he, _⟩ := itoa_head n
      rw [l4T_1, he] at e2; cases e2
    · rw [l4T_2] at e2; cases e2
    · obtain ⟨hn, _⟩ := okB_3 ho
      rcases hn with rfl | rfl
      · rw [l4T_30] at e2; cases e2
      · rw [l4T_31] at e2; cases e2

/-- The text of a right cell is not empty, and has no blank. -/
theorem l4T_some {k n : Int} {t : ByteArray} (h : okB k n t = true) : l4T k n t.data.toList ≠ [] ∧ (32 : UInt8) ∉ l4T k n t.data.toList := by
  rcases okB_kind h with rfl | rfl | rfl | rfl
  · rw [l4T_0]; decide
  · rw [l4T_1]
    have key : ∀ u, (32 : UInt8) ∉ Lib.decDigits u := by
      intro u hm
      obtain ⟨_, p, _⟩ := decDigits_plain u
      exact absurd (p.2.1 32 hm) (by decide)
    obtain ⟨c, r, he, _⟩ := itoa_head n
    refine ⟨by rw [he]; simp, ?_⟩
    by_cases hn : n < 0
    · rw [itoa_neg n hn]
      intro hm
      rcases List.mem_cons.1 hm with h | h
      · exact absurd h (by decide)
      · exact key _ h
    · rw [itoa_nonneg n (by omega)]; exact key _
  · obtain ⟨_, ht⟩ := okB_2 h
    rw [l4T_2]
    refine ⟨by simp, ?_⟩
    intro hm
    rcases List.mem_cons.1 hm with h | h
    · exact absurd h (by decide)
    · rcases List.mem_append.1 h with h | h
      · unfold textB lets at ht
        rw [Bool.and_eq_true] at ht
        have := List.all_eq_true.1 ht.1 32 h
        exact absurd this (by decide)
      · exact absurd h (by decide)
  · obtain ⟨hn, _⟩ := okB_3 h
    rcases hn with rfl | rfl
    · rw [l4T_30]; decide
    · rw [l4T_31]; decide
/-- It is short. -/
theorem l4T_len {k n : Int} {t : ByteArray} (h : okB k n t = true) : (l4T k n t.data.toList).length ≤ 14 := by
  rcases okB_kind h with rfl | rfl | rfl | rfl
  · rw [l4T_0]; decide
  · rw [l4T_1]
    have hb := numB_iff.1 (okB_1 h).1
    by_cases hn : n < 0
    · rw [itoa_neg n hn]
      have := decDigits_len n.natAbs (by omega)
      simp; omega
    · rw [itoa_nonneg n (by omega)]
      have := decDigits_len n.toNat (by omega)
      omega
  · obtain ⟨_, ht⟩ := okB_2 h
    unfold textB at ht
    rw [Bool.and_eq_true, decide_eq_true_eq, Lib.size_eq] at ht
    rw [l4T_2, List.length_cons, List.length_append, List.length_singleton]
    omega
  · obtain ⟨hn, _⟩ := okB_3 h
    rcases hn with rfl | rfl
    · rw [l4T_30]; decide
    · rw [l4T_31]; decide

end Go.Proofs.YtgiknjlifocioaaGreatDoor

/-
  Pieces of a text between the blanks, without any program: byte by byte, and as the library's own word has it.
-/
namespace Go.Proofs.YtgiknjlifocioaaGreatDoor

/-- The pieces between the signs c; cur: what stands of the first one. -/
def cutAt (c : UInt8) (cur : List UInt8) : List UInt8 → List (List UInt8)
  | [] => [cur]
  | b :: l => if b = c then cur :: cutAt c [] l else cutAt c (cur ++ [b]) l
def onHead (cur : List UInt8) : List (List UInt8) → List (List UInt8)
  | [] => [cur]
  | p :: ps => (cur ++ p) :: ps
theorem onHead_cons (cur p : List UInt8) (ps : List (List UInt8)) : onHead cur (p :: ps) = (cur ++ p) :: ps := rfl
theorem index_cons_ne (b c : UInt8) (l : List UInt8) (h : b ≠ c) : Lib.index (b :: l) [c] = if Lib.index l [c] == -1 then -1 else Lib.index l [c] + 1 := by
  rw [Lib.index, if_neg]
  intro e
  simp at e
  exact h e.symm
theorem index_cons_eq (c : UInt8) (l : List UInt8) : Lib.index (c :: l) [c] = 0 := by
  rw [Lib.index, if_pos (by simp)]
theorem splitK_ne (c : UInt8) : ∀ (k : Nat) (b : UInt8) (l : List UInt8), b ≠ c → Lib.splitK [c] 0 k (b :: l) = onHead [b] (Lib.splitK [c] 0 k l)
  | 0, b, l, h => rfl
  | k + 1, b, l, h => by
    rw [Lib.splitK, Lib.splitK, index_cons_ne b c l h]
    by_cases hi : (Lib.index l [c] == -1) = true
    · rw [if_pos hi, if_pos (by decide), if_pos hi]; rfl
    · rw [if_neg hi, if_neg hi]
      have hg := Lib.index_ge l [c]
      have hne : Lib.index l [c] ≠ -1 := fun e => hi (by rw [e]; decide)
      obtain ⟨i, e⟩ : ∃ i : Nat, Lib.index l [c] = i := ⟨(Lib.index l [c]).toNat, by omega⟩
      rw [e, if_neg (by simp; omega)]
      have e1 : ((i : Int) + 1).toNat = i + 1 := by omega
      have e2 : ((i : Int)).toNat = i := by omega
      rw [e1, e2]
      simp [onHead, List.take_succ_cons, List.drop_succ_cons]
theorem splitK_eq (c : UInt8) (k : Nat) (l : List UInt8) : Lib.splitK [c] 0 (k + 1) (c :: l) = [] :: Lib.splitK [c] 0 k l := by
  rw [Lib.splitK, index_cons_eq, if_neg (by decide)]
  simp
theorem splitK_ne_nil (c : UInt8) (k : Nat) (l : List UInt8) : Lib.splitK [c] 0 k l ≠ [] := by
  cases k with
  | zero => simp [Lib.splitK]
  | succ k => rw [Lib.splitK]; split <;> simp
theorem cutAt_split (c : UInt8) (l : List UInt8) : ∀ cur, cutAt c cur l = onHead cur (Lib.splitK [c] 0 (Lib.count l [c]) l) := by
  induction l with
  | nil => intro cur; simp [cutAt, Lib.count, Lib.countFrom, Lib.index, Lib.splitK, onHead]
  | cons b l ih =>
    intro cur
    by_cases h : b = c
    · subst h
      rw [Lib.count_cons_eq, Nat.add_comm, splitK_eq, cutAt, if_pos rfl, ih [], onHead_cons, List.append_nil]
      cases hS : Lib.splitK [b] 0 (Lib.count l [b]) l with
      | nil => exact absurd hS (splitK_ne_nil _ _ _)
      | cons p ps => rfl
    · rw [Lib.count_cons_ne b c l h, splitK_ne c _ b l h, cutAt, if_neg h, ih]
      cases hS : Lib.splitK [c] 0 (Lib.count l [c]) l with
      | nil => exact absurd hS (splitK_ne_nil _ _ _)
      | cons p ps => simp [onHead]
/-- All pieces of a text. -/
def pieces (l : List UInt8) : List (List UInt8) := cutAt 32 [] l
theorem pieces_split (s : ByteArray) : (Lib.splitB ⟨#[32]⟩ 0 (Lib.countB s ⟨#[32]⟩) s).map (·.data.toList) = pieces s.data.toList := by
  rw [Lib.splitB_data]
  unfold pieces
  rw [cutAt_split]
  show Lib.splitK [32] 0 (Lib.count s.data.toList [32]) s.data.toList = _
  cases hS : Lib.splitK [32] 0 (Lib.count s.data.toList [32]) s.data.toList with
  | nil => exact absurd hS (splitK_ne_nil _ _ _)
  | cons p ps => rfl
theorem cutAt_length (c : UInt8) (l : List UInt8) : ∀ cur, (cutAt c cur l).length ≤ l.length + 1 := by
  induction l with
  | nil => intro cur; simp [cutAt]
  | cons b l ih =>
    intro cur
    rw [cutAt]
    split
    · have := ih []; simp only [List.length_cons]; omega
    · have := ih (cur ++ [b]); simp only [List.length_cons]; omega
/-- No piece is longer than the text. -/
theorem cutAt_each (c : UInt8) (l : List UInt8) : ∀ cur, ∀ p ∈ cutAt c cur l, p.length ≤ cur.length + l.length := by
  induction l with
  | nil => intro cur p hp; simp [cutAt] at hp; subst hp; simp
  | cons b l ih =>
    intro cur p hp
    rw [cutAt] at hp
    split at hp
    · rcases List.mem_cons.1 hp with rfl | h
      · omega
      · have := ih [] p h; simp at this ⊢; omega
    · have := ih _ p hp; simp at this ⊢; omega
/-- What has no sign c within joined by c is cut there again. -/
theorem cutAt_free (c : UInt8) (x : List UInt8) (h : c ∉ x) : ∀ (cur l : List UInt8), cutAt c cur (x ++ l) = cutAt c (cur ++ x) l := by
  induction x with
  | nil => intro cur l; simp
  | cons b x ih =>
    intro cur l
    have hb : b ≠ c := fun e => h (by simp [e])
    rw [List.cons_append, cutAt, if_neg hb, ih (fun e => h (by simp [e]))]
    simp
theorem pieces_join (xs : List (List UInt8)) (hx : xs ≠ []) (h : ∀ x ∈ xs, (32 : UInt8) ∉ x) : pieces (Lib.join xs [32]) = xs := by
  have key : ∀ (xs : List (List UInt8)) (x : List UInt8), (32 : UInt8) ∉ x → (∀ y ∈ xs, (32 : UInt8) ∉ y) → cutAt 32 [] (x ++ Lib.joinTail [32] xs) = x :: xs := by
    intro xs
    induction xs with
    | nil => intro x hx _; rw [cutAt_free _ _ hx]; simp [Lib.joinTail, cutAt]
    | cons y ys ih =>
      intro x hx hys
      rw [cutAt_free _ _ hx]
      have e : Lib.joinTail [32] (y :: ys) = 32 :: (y ++ Lib.joinTail [32] ys) := by simp [Lib.joinTail]
      rw [e, cutAt, if_pos rfl, ih y (hys y (by simp)) (fun z hz => hys z (by simp [hz]))]
      simp
  cases xs with
  | nil => exact absurd rfl hx
  | cons x xs =>
    rw [Lib.join_cons]
    exact key xs x (h x (by simp)) (fun y hy => h y (by simp [hy]))
theorem cutAt_ne_nil (c : UInt8) (cur l : List UInt8) : cutAt c cur l ≠ [] := by
  induction l generalizing cur with
  | nil => simp [cutAt]
  | cons b l ih => rw [cutAt]; split; · simp
                   · exact ih _
theorem join_cutAt (l : List UInt8) : ∀ cur, Lib.join (cutAt 32 cur l) [32] = cur ++ l := by
  induction l with
  | nil => intro cur; rw [cutAt, Lib.join_one, List.append_nil]
  | cons b l ih =>
    intro cur
    rw [cutAt]
    split
    · rename_i h
      subst h
      have := ih []
      cases hD : cutAt 32 [] l with
      | nil => exact absurd hD (cutAt_ne_nil _ _ _)
      | cons p ps =>
        rw [hD, Lib.join_cons] at this
        rw [Lib.join_cons]
        have e : Lib.joinTail [32] (p :: ps) = 32 :: (p ++ Lib.joinTail [32] ps) := by simp [Lib.joinTail]
        rw [e, this]
        simp
    · rw [ih]; simp
/-- The pieces, joined again, are the text. -/
theorem join_pieces (l : List UInt8) : Lib.join (pieces l) [32] = l := by
  have := join_cutAt l []
  simpa [pieces] using this
theorem pieces_ne_nil (l : List UInt8) : pieces l ≠ [] := cutAt_ne_nil _ _ _
end Go.Proofs.YtgiknjlifocioaaGreatDoor

/-
  Rows and their texts without any program.
-/
namespace Go.Proofs.YtgiknjlifocioaaGreatDoor

/-- A cell: kind, number, text. -/
abbrev CK := Int × Int × ByteArray
def okC (c : CK) : Bool := okB c.1 c.2.1 c.2.2
def textC (c : CK) : List UInt8 := l4T c.1 c.2.1 c.2.2.data.toList
/-- The text of a row; empty where a cell is not right. -/
def rowT (l : List CK) : ByteArray := if l.all okC = true then ⟨(Lib.join (l.map textC) [32]).toArray⟩ else ⟨#[]⟩
/-- What pieces are read as, if all are. -/
def readAll : List (List UInt8) → Option (List CK)
  | [] => some []
  | p :: ps => match readB ⟨p.toArray⟩ with
    | none => none
    | some c => match readAll ps with
      | none => none
      | some cs => some (c :: cs)
def readRowB (s : ByteArray) : Option (List CK) := if s.data.toList = [] then some [] else readAll (pieces s.data.toList)

theorem readAll_snoc (ps : List (List UInt8)) (p : List UInt8) (out : List CK) (c : CK) (h : readAll ps = some out) (hp : readB ⟨p.toArray⟩ = some c) : readAll (ps ++ [p]) = some (out ++ [c]) := by
  induction ps generalizing out with
  | nil =>
    simp only [readAll] at h
    injection h with h
    subst h
    simp only [List.nil_append, readAll, hp]
  | cons q ps ih =>
    simp only [readAll] at h
    cases hq : readB ⟨q.toArray⟩ with
    | none => rw [hq] at h; cases h
    | some d =>
      rw [hq] at h
      cases hr : readAll ps with
      | none => rw [hr] at h; cases h
      | some cs =>
        rw [hr] at h
        simp only [] at h
        injection h with h
        subst h
        rw [List.cons_append, readAll, hq, ih cs hr]
        rfl
theorem readAll_none (ps : List (List UInt8)) (i : Nat) (hi : i < ps.length) (h : readB ⟨(ps[i]).toArray⟩ = none) : readAll ps = none := by
  induction ps generalizing i with
  | nil => simp at hi
  | cons q ps ih =>
    rw [readAll]
    cases i with
    | zero =>
      rw [List.getElem_cons_zero] at h
      rw [h]
    | succ i =>
      have := ih i (by simpa using hi) (by simpa using h)
      cases readB ⟨q.toArray⟩ with
      | none => rfl
      | some d => simp only [this]
theorem readAll_length (ps : List (List UInt8)) (out : List CK) (h : readAll ps = some out) : out.length = ps.length := by
  induction ps generalizing out with
  | nil =>
    simp only [readAll] at h
    injection h with h
    subst h; rfl
  | cons q ps ih =>
    simp only [readAll] at h
    cases hq : readB ⟨q.toArray⟩ with
    | none => rw [hq] at h; cases h
    | some d =>
      rw [hq] at h
      cases hr : readAll ps with
      | none => rw [hr] at h; cases h
      | some cs =>
        rw [hr] at h
        simp only [] at h
        injection h with h
        subst h
        simp [ih cs hr]
theorem readAll_texts (l : List CK) (h : l.all okC = true) : readAll (l.map textC) = some l := by
  induction l with
  | nil => rfl
  | cons c l ih =>
    rw [List.all_cons, Bool.and_eq_true] at h
    have e : (⟨(textC c).toArray⟩ : ByteArray) = cellT c.1 c.2.1 c.2.2 := bytes_ext (by rw [cellT_ok h.1]; rfl)
    rw [List.map_cons, readAll, e, readB_text h.1, ih h.2]
theorem readAll_some (ps : List (List UInt8)) (l : List CK) (h : readAll ps = some l) : l.all okC = true ∧ l.map textC = ps := by
  induction ps generalizing l with
  | nil =>
    simp only [readAll] at h
    injection h with h
    subst h; exact ⟨rfl, rfl⟩
  | cons q ps ih =>
    simp only [readAll] at h
    cases hq : readB ⟨q.toArray⟩ with
    | none => rw [hq] at h; cases h
    | some d =>
      rw [hq] at h
      cases hr : readAll ps with
      | none => rw [hr] at h; cases h
      | some cs =>
        rw [hr] at h
        simp only [] at h
        injection h with h
        subst h
        obtain ⟨h1, h2⟩ := ih cs hr
        obtain ⟨k, n, t⟩ := d
        obtain ⟨ho, e⟩ := readB_some hq
        refine ⟨by rw [List.all_cons, h1, Bool.and_true]; exact ho, ?_⟩
        rw [List.map_cons, h2]
        congr 1
        have := cellT_ok ho
        rw [e] at this
        exact this.symm
/-- A row is read from its text. -/
theorem readRow_text (l : List CK) (h : l.all okC = true) : readRowB (rowT l) = some l := by
  unfold rowT
  rw [if_pos h]
  unfold readRowB
  rw [bytes_mk]
  cases l with
  | nil => rw [if_pos (show Lib.join (List.map textC []) [32] = [] from rfl)]
  | cons c l =>
    have hc : okC c = true := by rw [List.all_cons, Bool.and_eq_true] at h; exact h.1
    have hne : Lib.join ((c :: l).map textC) [32] ≠ [] := by
      rw [List.map_cons, Lib.join_cons]
      intro e
      have := (l4T_some hc).1
      exact this (List.append_eq_nil_iff.1 e).1
    rw [if_neg hne, pieces_join _ (by simp) ?_, readAll_texts _ h]
    intro x hx
    obtain ⟨d, hd, rfl⟩ := List.mem_map.1 hx
    exact (l4T_some (List.all_eq_true.1 h d hd)).2
/-- What is read is right, and its text is what was read. -/
theorem readRow_some {s : ByteArray} {l : List CK} (h : readRowB s = some l) : l.all okC = true ∧ rowT l = s := by
  unfold readRowB at h
  split at h
  · rename_i e
    injection h with h
    subst h
    refine ⟨rfl, bytes_ext ?_⟩
    rw [e]; rfl
  · obtain ⟨h1, h2⟩ := readAll_some _ _ h
    refine ⟨h1, bytes_ext ?_⟩
    unfold rowT
    rw [if_pos h1, bytes_mk, h2, join_pieces]
theorem pieces_length (l : List UInt8) : (pieces l).length ≤ l.length + 1 := cutAt_length _ _ _
theorem pieces_each (l : List UInt8) (p : List UInt8) (h : p ∈ pieces l) : p.length ≤ l.length := by
  have := cutAt_each 32 l [] p h
  simpa using this

end Go.Proofs.YtgiknjlifocioaaGreatDoor

/-
  The contracts of the model's texts of cells.
-/
namespace Go.Proofs.YtgiknjlifocioaaGreatDoor
open Go.ChangeShapes Go.WideShapes Go.ChangeAt Go.RowKit
attribute [local go_sem ↓] Go.wp_at_zero Go.wp_at_succ

def strOf : Value → ByteArray
  | .string b => b
  | _ => ⟨#[]⟩
def emptyN : Value → Nat
  | .string b => if b.data.toList = [] then 1 else 0
  | _ => 0
theorem emptyN_no {b : ByteArray} (h : b.data.toList ≠ []) : emptyN (.string b) = 0 := if_neg h
theorem emptyN_nil : emptyN (.string ⟨#[]⟩) = 1 := rfl
/-- The digits of a number; none of 0. -/
def digsN (u : Nat) : List UInt8 := if u = 0 then [] else Lib.decDigits u
theorem decDigits_step (u : Nat) : Lib.decDigits u = digsN (u / 10) ++ [UInt8.ofNat (48 + u % 10)] := by
  by_cases h : u < 10
  · rw [Lib.decDigits_one h, show u / 10 = 0 by omega, show u % 10 = u by omega]; rfl
  · rw [Lib.decDigits, dif_neg h]
    unfold digsN
    rw [if_neg (by omega)]
/-- What the loop keeps: what is left of the number, and the digits behind. -/
def IntInv (n0 m : Int) (l : List UInt8) : Prop :=
  (l = [] ∧ m = n0) ∨ (l ≠ [] ∧ digsN m.natAbs ++ l = Lib.decDigits n0.natAbs ∧ (n0 < 0 → m ≤ 0) ∧ (0 ≤ n0 → 0 ≤ m) ∧ m.natAbs ≤ n0.natAbs)
theorem tdiv_sign (m : Int) : (0 ≤ m → 0 ≤ m.tdiv 10) ∧ (m ≤ 0 → m.tdiv 10 ≤ 0) := ⟨fun h => Int.tdiv_nonneg h (by decide), fun h => by
  have := Int.tdiv_nonneg (a := -m) (b := 10) (by omega) (by decide)
  rw [Int.neg_tdiv] at this; omega⟩
theorem IntInv.step {n0 m : Int} {l : List UInt8} (h : IntInv n0 m l) (hgo : l = [] ∨ m ≠ 0) : IntInv n0 (m.tdiv 10) (UInt8.ofNat (48 + m.natAbs % 10) :: l) := by
  have e : (m.tdiv 10).natAbs = m.natAbs / 10 := by rw [Int.natAbs_tdiv]; rfl
  obtain ⟨s1, s2⟩ := tdiv_sign m
  rcases h with ⟨rfl, rfl⟩ | ⟨hl, he, h1, h2, h3⟩
  · refine .inr ⟨by simp, ?_, ?_, ?_, ?_⟩
    · rw [e, decDigits_step]
    · intro h; exact s2 (by omega)
    · intro h; exact s1 h
    · rw [e]; omega
  · have hm : m ≠ 0 := by rcases hgo with h | h; exact absurd h hl; exact h
    refine .inr ⟨by simp, ?_, ?_, ?_, ?_⟩
    · rw [← he, e]
      unfold digsN
      rw [if_neg (show ¬ m.natAbs = 0 by omega), decDigits_step m.natAbs]
      unfold digsN
      simp
    · intro h; exact s2 (h1 h)
    · intro h; exact s1 (h2 h)
    · rw [e]; omega
theorem IntInv.out {n0 : Int} {l : List UInt8} (h : IntInv n0 0 l) (hl : l ≠ []) : l = Lib.decDigits n0.natAbs := by
  rcases h with ⟨rfl, _⟩ | ⟨_, he, _⟩
  · exact absurd rfl hl
  · simpa [digsN] using he

theorem conv_one (d : Nat) (hd : d < 10) (W : World) : (convert 22 9 (.slice (some ⟨W.heap.size, 0, none⟩) 1 1)).run Tryz.prog (W.alloc (.cells #[.int .u8 (48 + (d : Int))] 5)) = .ok (.string ⟨#[UInt8.ofNat (48 + d)]⟩) (W.alloc (.cells #[.int .u8 (48 + (d : Int))] 5)) := by
  refine run_convert_bytes_back _ 22 9 5 ⟨W.heap.size, 0, none⟩ 1 [UInt8.ofNat (48 + d)] Tryz.underlying22 Tryz.underlying5 Tryz.underlying9 ?_
  intro j hj
  match j, hj with
  | 0, _ =>
    rw [List.getElem_cons_zero, dig_toNat d hd]
    simp [Addr.add]
theorem tmod_digit (m : Int) : (0 ≤ m.tmod 10 ∧ m.tmod 10 = ((m.natAbs % 10 : Nat) : Int)) ∨ (m.tmod 10 < 0 ∧ m.tmod 10 = -((m.natAbs % 10 : Nat) : Int) ∧ 0 < m.natAbs % 10) := by
  have e : (m.tmod 10).natAbs = m.natAbs % 10 := by rw [Int.natAbs_tmod]; rfl
  by_cases h : 0 ≤ m.tmod 10
  · exact .inl ⟨h, by omega⟩
  · exact .inr ⟨by omega, by omega, by omega⟩

set_option maxRecDepth 100000 in
set_option maxHeartbeats 1000000 in
theorem int_spec (n0 : Int) (h0 : -1000000000 ≤ n0) (h1 : n0 ≤ 1000000000) (w : World) :
    Calls Tryz.prog 66 #[.int .i64 n0] w fun e w' => e = .returned (.string ⟨(Lib.itoa n0).toArray⟩) ∧ Below w.heap.size w w' := by
  obtain ⟨y, hy0⟩ : ∃ y : ByteArray, (⟨(Lib.itoa n0).toArray⟩ : ByteArray) = y := ⟨_, rfl⟩
  rw [hy0]
  have hy : Hid ((⟨(Lib.itoa n0).toArray⟩ : ByteArray) = y) := hy0
  clear hy0
  go_enter Tryz.func66, Tryz.ntmps66
  go_wp2
  go_loopw [0, 3] (fun n s wr => ∃ m b, n = .int .i64 m ∧ s = .string b ∧ Hid (IntInv n0 m b.data.toList) ∧ -1000000000 ≤ m ∧ m ≤ 1000000000 ∧ Below w.heap.size w wr)
    (fun n s _ => (intOf n).natAbs + emptyN s)
  case atStart => exact ⟨n0, _, rfl, rfl, .inl ⟨rfl, rfl⟩, h0, h1, Below.refl _ _⟩
  case round =>
    obtain ⟨m, b, rfl, rfl, hI, hm0, hm1, hb⟩ := hrel
    have hstep : Hid ((b.data.toList = [] ∨ m ≠ 0) → IntInv n0 (m.tdiv 10) (UInt8.ofNat (48 + m.natAbs % 10) :: b.data.toList)) := fun h => hI.out.step h
    have hd10 : m.natAbs % 10 < 10 := by omega
    have hdl : (m.tdiv 10).natAbs = m.natAbs / 10 := by rw [Int.natAbs_tdiv]; rfl
    have hcv := conv_one (m.natAbs % 10) hd10
    have hmod := tmod_digit m
    have hlen : b.data.toList.length ≤ 10 := by
      rcases hI.out with ⟨h, _⟩ | ⟨_, he, _⟩
      · rw [h]; simp
      · have h10 := decDigits_len n0.natAbs (by omega)
        rw [← he, List.length_append] at h10
        omega
    rw [← Lib.size_eq] at hlen
    have hz1 : ¬ (9223372036854775807 < 1 + b.size) := by omega
    generalize m.natAbs % 10 = d at hstep hd10 hcv hmod
    generalize UInt8.ofNat (48 + d) = c at hstep hcv
    have hap : (⟨#[c]⟩ ++ b : ByteArray).data.toList = c :: b.data.toList := by simp
    have hw1 : wrap64 (48 + (d : Int)) = 48 + (d : Int) := by unfold wrap64; omega
    have hw2 : (48 + (d : Int)) % 256 = 48 + (d : Int) := by omega
    have hw3 : wrap64 (d : Int) = (d : Int) := by unfold wrap64; omega
    by_cases hs : b.data.toList = []
    · have hb0 : b = ⟨#[]⟩ := bytes_ext hs
      have hst := hstep.out (.inl hs)
      rw [← hap] at hst
      subst hb0
      have hS : Hid (IntInv n0 (m.tdiv 10) (⟨#[c]⟩ ++ ⟨#[]⟩ : ByteArray).data.toList) := hst
      have hA0 : (⟨#[c]⟩ ++ ⟨#[]⟩ : ByteArray).data.toList ≠ [] := by rw [hap]; simp
      have hA : Hid ((⟨#[c]⟩ ++ ⟨#[]⟩ : ByteArray).data.toList ≠ []) := hA0
      clear hst hstep hap hA0
      rcases hmod with ⟨hp, hd⟩ | ⟨hp, hd, hd0⟩
      · have hd' : ¬ m.tmod 10 < 0 := by omega
        go_wp2
        go_roundw
        case rel => exact ⟨m.tdiv 10, _, rfl, rfl, hS.out, by omega, by omega, hb.alloc hb.size _⟩
        case measure =>
          rw [emptyN_no hA.out, emptyN_nil]
          simp only [intOf]
          rw [hdl]
          omega
      · have hd' : -(d : Int) < 0 := by omega
        go_wp2
        go_roundw
        case rel => exact ⟨m.tdiv 10, _, rfl, rfl, hS.out, by omega, by omega, hb.alloc hb.size _⟩
        case measure =>
          rw [emptyN_no hA.out, emptyN_nil]
          simp only [intOf]
          rw [hdl]
          omega
    · have hne : b.toList.isEmpty = false := by rw [Lib.toList_data]; simpa using hs
      by_cases hm : m = 0
      · subst hm
        have hout := hI.out.out hs
        clear hstep hmod hcv
        by_cases hn : n0 < 0
        · have e45 : (⟨#[45]⟩ : ByteArray) ++ b = y := by
            rw [← hy.out]
            refine bytes_ext ?_
            rw [itoa_neg n0 hn, bytes_mk]
            simp [hout]
          have hS : Hid ((⟨#[45]⟩ : ByteArray) ++ b = y) := e45
          clear hout hs hy hap e45
          go_wp2
          go_ret
          exact ⟨by rw [← hS.out]; rfl, hb⟩
        · have e0 : b = y := by
            rw [← hy.out]
            refine bytes_ext ?_
            rw [itoa_nonneg n0 (by omega), bytes_mk, hout]
            congr 1; omega
          subst e0
          clear hout hs hy hap
          go_wp2
          go_ret
          exact ⟨rfl, hb⟩
      · have hst := hstep.out (.inr hm)
        rw [← hap] at hst
        have hS : Hid (IntInv n0 (m.tdiv 10) (⟨#[c]⟩ ++ b : ByteArray).data.toList) := hst
        have hA0 : (⟨#[c]⟩ ++ b : ByteArray).data.toList ≠ [] := by rw [hap]; simp
        have hA : Hid ((⟨#[c]⟩ ++ b : ByteArray).data.toList ≠ []) := hA0
        have hs' : Hid (b.data.toList ≠ []) := hs
        clear hst hstep hap hs hA0
        rcases hmod with ⟨hp, hd⟩ | ⟨hp, hd, hd0⟩
        · have hd' : ¬ m.tmod 10 < 0 := by omega
          go_wp2
          go_roundw
          case rel => exact ⟨m.tdiv 10, _, rfl, rfl, hS.out, by omega, by omega, hb.alloc hb.size _⟩
          case measure =>
            rw [emptyN_no hA.out, emptyN_no hs'.out]
            simp only [intOf]
            rw [hdl]
            omega
        · have hd' : -(d : Int) < 0 := by omega
          go_wp2
          go_roundw
          case rel => exact ⟨m.tdiv 10, _, rfl, rfl, hS.out, by omega, by omega, hb.alloc hb.size _⟩
          case measure =>
            rw [emptyN_no hA.out, emptyN_no hs'.out]
            simp only [intOf]
            rw [hdl]
            omega

theorem int_specb (n : Int) (y : ByteArray) (hy : (⟨(Lib.itoa n).toArray⟩ : ByteArray) = y) (h0 : -1000000000 ≤ n) (h1 : n ≤ 1000000000) (w : World) :
    Calls Tryz.prog 66 #[.int .i64 n] w fun e w' => e = .returned (.string y) ∧ Below w.heap.size w w' := by
  subst hy; exact int_spec n h0 h1 w

set_option maxRecDepth 100000 in
theorem l4_spec (k n : Int) (t : ByteArray) (ho : okB k n t = true) (y : ByteArray) (hy : (⟨(l4T k n t.data.toList).toArray⟩ : ByteArray) = y) (w : World) :
    Calls Tryz.prog 42 #[.agg #[.int .i64 k, .int .i64 n, .string t]] w fun e w' => e = .returned (.string y) ∧ Below w.heap.size w w' := by
  rcases okB_kind ho with rfl | rfl | rfl | rfl
  · have hy' : y = ⟨wNone.toArray⟩ := by rw [← hy]; rfl
    subst hy'
    clear hy
    go_enter Tryz.func42, Tryz.ntmps42
    go_wp2
    go_ret
    exact ⟨rfl, by go_grown⟩
  · have hb := numB_iff.1 (okB_1 ho).1
    go_enter Tryz.func42, Tryz.ntmps42
    go_wp2_with fail
    refine (int_specb n y hy (by omega) (by omega) _).mono ?_
    rintro e w1 ⟨rfl, hb1⟩
    go_wp2
    go_ret
    exact ⟨rfl, chainA hb1⟩
  · have h12 : t.size ≤ 12 := by
      have := (okB_2 ho).2
      unfold textB at this
      rw [Bool.and_eq_true, decide_eq_true_eq] at this
      omega
    have e1 : Hid ((⟨#[39]⟩ ++ t ++ ⟨#[39]⟩ : ByteArray) = y) := by
      have : (⟨#[39]⟩ ++ t ++ ⟨#[39]⟩ : ByteArray) = y := by
        rw [← hy]
        refine bytes_ext ?_
        rw [bytes_mk, l4T_2]
        simp
      exact this
    clear hy
    have hz1 : ¬ (9223372036854775807 < 1 + t.size) := by omega
    have hz2 : ¬ (9223372036854775807 < 1 + t.size + 1) := by omega
    have hz3 : (⟨#[39]⟩ ++ t : ByteArray).size = 1 + t.size := by rw [ByteArray.size_append]; rfl
    go_enter Tryz.func42, Tryz.ntmps42
    go_wp2
    go_ret
    exact ⟨by rw [← e1.out]; rfl, by go_grown⟩
  · rcases (okB_3 ho).1 with rfl | rfl
    · have hy' : y = ⟨wNo.toArray⟩ := by rw [← hy]; rfl
      subst hy'
      clear hy
      go_enter Tryz.func42, Tryz.ntmps42
      go_wp2
      go_ret
      exact ⟨rfl, by go_grown⟩
    · have hy' : y = ⟨wYes.toArray⟩ := by rw [← hy]; rfl
      subst hy'
      clear hy
      go_enter Tryz.func42, Tryz.ntmps42
      go_wp2
      go_ret
      exact ⟨rfl, by go_grown⟩

end Go.Proofs.YtgiknjlifocioaaGreatDoor

/-
  The contracts of the model's text of a row.
-/
namespace Go.Proofs.YtgiknjlifocioaaGreatDoor
open Go.ChangeShapes Go.WideShapes Go.ChangeAt Go.RowKit
attribute [local go_sem ↓] Go.wp_at_zero Go.wp_at_succ

theorem joinTail_snoc (sep : List UInt8) (r : List (List UInt8)) (x : List UInt8) : Lib.joinTail sep (r ++ [x]) = Lib.joinTail sep r ++ sep ++ x := by simp [Lib.joinTail]
theorem join_snoc (xs : List (List UInt8)) (x sep : List UInt8) (h : xs ≠ []) : Lib.join (xs ++ [x]) sep = Lib.join xs sep ++ sep ++ x := by
  cases xs with
  | nil => exact absurd rfl h
  | cons y r => rw [List.cons_append, Lib.join_cons, Lib.join_cons, joinTail_snoc]; simp
theorem join_len (xs : List (List UInt8)) (h : ∀ x ∈ xs, x.length ≤ 14) : (Lib.join xs [32]).length ≤ 15 * xs.length := by
  have key : ∀ r : List (List UInt8), (∀ x ∈ r, x.length ≤ 14) → (Lib.joinTail [32] r).length ≤ 15 * r.length := by
    intro r
    induction r with
    | nil => intro _; simp [Lib.joinTail]
    | cons y r ih =>
      intro hr
      have h1 := hr y (by simp)
      have h2 := ih (fun x hx => hr x (by simp [hx]))
      have e : Lib.joinTail [32] (y :: r) = 32 :: (y ++ Lib.joinTail [32] r) := by simp [Lib.joinTail]
      rw [e, List.length_cons, List.length_append, List.length_cons]
      omega
  cases xs with
  | nil => simp [Lib.join_nil]
  | cons y r =>
    have h1 := h y (by simp)
    have h2 := key r (fun x hx => h x (by simp [hx]))
    rw [Lib.join_cons, List.length_append, List.length_cons]
    omega
/-- The bytes of texts. -/
def rawT (xs : List ByteArray) : List (List UInt8) := xs.map (·.data.toList)
theorem rawT_snoc (xs : List ByteArray) (x : ByteArray) : rawT (xs ++ [x]) = rawT xs ++ [x.data.toList] := by simp [rawT]
theorem bytes_append (a b : ByteArray) : (a ++ b).data.toList = a.data.toList ++ b.data.toList := by simp
/-- The texts of a slice lie where it says. -/
def TextsAt (w : World) (g : Nat) (xs : List ByteArray) : Prop := ∀ j (h : j < xs.length), w.cell? ⟨g, j, none⟩ = some (.string xs[j]) ∧ g < w.heap.size
theorem texts_own {w : World} {B g c : Nat} {e : TypeId} {xs : List ByteArray} (h : w.ownsRow B e 1 (.slice (some ⟨g, 0, none⟩) xs.length c) xs.length (xs.map Value.string)) : TextsAt w g xs := by
  intro j hj
  have := h.cellAt j (by omega)
  rw [List.getElem?_map, List.getElem?_eq_getElem hj] at this
  exact ⟨this, World.block_lt_of_cell? w _ this⟩

set_option maxRecDepth 100000 in
set_option maxHeartbeats 1000000 in
theorem words_spec (g cap : Nat) (xs : List ByteArray) (w : World) (hx : TextsAt w g xs) (hm : xs.length ≤ 1048576) (h14 : ∀ x ∈ xs, x.size ≤ 14) (y : ByteArray) (hy : (⟨(Lib.join (rawT xs) [32]).toArray⟩ : ByteArray) = y) :
    Calls Tryz.prog 25 #[.slice (some ⟨g, 0, none⟩) xs.length cap, .string ⟨#[32]⟩] w fun e w' => e = .returned (.string y) ∧ w' = w := by
  have HX : Hid (TextsAt w g xs) := hx
  have HY : Hid ((⟨(Lib.join (rawT xs) [32]).toArray⟩ : ByteArray) = y) := hy
  have H14 : Hid (∀ x ∈ xs, x.size ≤ 14) := h14
  clear hx hy h14
  go_enter Tryz.func25, Tryz.ntmps25
  go_wp2
  go_loopw [5, 6] (fun s kk wr => ∃ (k : Nat) (b : ByteArray), k ≤ xs.length ∧ kk = .int .i64 k ∧ s = .string b ∧ Hid (b.data.toList = Lib.join (rawT (xs.take k)) [32]) ∧ w = wr) (fun _ kk _ => xs.length - (intOf kk).toNat)
  case atStart => exact ⟨0, _, Nat.zero_le _, rfl, rfl, rfl, rfl⟩
  case round =>
    obtain ⟨k, b, hk, rfl, rfl, hb, rfl⟩ := hrel
    by_cases hlt : k < xs.length
    · obtain ⟨c0, hg⟩ := HX.out k hlt
      have hi0 : (0 : Int) ≤ (k : Int) := by omega
      have hi1 : (k : Int) < (xs.length : Int) := by omega
      have hsz : b.size ≤ 15 * k := by
        rw [Lib.size_eq, hb.out]
        have := join_len (rawT (xs.take k)) (by
          intro z hz
          unfold rawT at hz
          obtain ⟨u, hu, rfl⟩ := List.mem_map.1 hz
          have := H14.out u (List.mem_of_mem_take hu)
          rw [Lib.size_eq] at this
          exact this)
        have hl : (rawT (xs.take k)).length = k := by unfold rawT; rw [List.length_map, List.length_take]; omega
        rw [hl] at this
        exact this
      have hxk : (xs[k]).size ≤ 14 := H14.out _ (List.getElem_mem hlt)
      have htk : rawT (xs.take (k + 1)) = rawT (xs.take k) ++ [(xs[k]).data.toList] := by rw [List.take_succ_eq_append_getElem hlt, rawT_snoc]
      have HT : Hid (rawT (xs.take (k + 1)) = rawT (xs.take k) ++ [(xs[k]).data.toList]) := htk
      clear htk
      by_cases hk0 : k = 0
      · subst hk0
        have hb0 : b = ⟨#[]⟩ := bytes_ext hb.out
        have hst : Hid ((⟨#[]⟩ ++ xs[0] : ByteArray).data.toList = Lib.join (rawT (xs.take (0 + 1))) [32]) := by
          have : (⟨#[]⟩ ++ xs[0] : ByteArray).data.toList = Lib.join (rawT (xs.take (0 + 1))) [32] := by
            rw [HT.out, bytes_append]
            show xs[0].data.toList = Lib.join [xs[0].data.toList] [32]
            rw [Lib.join_one]
          exact this
        subst hb0
        generalize xs[0] = x at c0 hxk hst
        have hz1 : ¬ (9223372036854775807 < x.size) := by omega
        clear HT hb
        go_wp2
        go_roundw
        case rel => exact ⟨0 + 1, _, by omega, by go_num, rfl, hst.out, by trivial⟩
        case measure => simp [intOf]; omega
      · have hk1 : 0 < k := by omega
        have hst : Hid ((b ++ ⟨#[32]⟩ ++ xs[k] : ByteArray).data.toList = Lib.join (rawT (xs.take (k + 1))) [32]) := by
          have : (b ++ ⟨#[32]⟩ ++ xs[k] : ByteArray).data.toList = Lib.join (rawT (xs.take (k + 1))) [32] := by
            rw [HT.out, join_snoc _ _ _ (List.ne_nil_of_length_pos (by unfold rawT; rw [List.length_map, List.length_take]; omega)), bytes_append, bytes_append, hb.out]
          exact this
        generalize xs[k] = x at c0 hxk hst
        have hz1 : ¬ (9223372036854775807 < b.size + 1) := by omega
        have hz2 : ¬ (9223372036854775807 < b.size + 1 + x.size) := by omega
        have hz3 : (b ++ ⟨#[32]⟩ : ByteArray).size = b.size + 1 := by rw [ByteArray.size_append]; rfl
        clear HT hb hk0
        go_wp2
        go_roundw
        case rel => exact ⟨k + 1, _, by omega, by go_num, rfl, hst.out, by trivial⟩
        case measure => simp [intOf]; omega
    · have hkl : k = xs.length := by omega
      subst hkl
      have hi1 : ¬ (xs.length : Int) < (xs.length : Int) := by omega
      have e : b = y := by
        rw [← HY.out]
        refine bytes_ext ?_
        rw [hb.out, List.take_length]
      subst e
      go_wp2
      go_ret
      exact ⟨rfl, rfl⟩

theorem infoStr : (Tryz.prog.info? 9).map (fun i => (i.zero, i.size, i.bytes)) = some (some (.string ⟨#[]⟩), 1, 16) := by kernel_rfl
theorem all_snoc (l : List CT) (k : Nat) (h : k < l.length) : (l.take (k + 1)).all okC = ((l.take k).all okC && okC l[k]) := by
  rw [List.take_succ_eq_append_getElem h, List.all_append]; simp
/-- The texts of a row's cells. -/
def textsC (l : List CT) : List ByteArray := l.map fun c => ⟨(textC c).toArray⟩
theorem textsC_snoc (l : List CT) (k : Nat) (h : k < l.length) : textsC (l.take (k + 1)) = textsC (l.take k) ++ [⟨(textC l[k]).toArray⟩] := by
  unfold textsC; rw [List.take_succ_eq_append_getElem h, List.map_append]; rfl
theorem rawT_texts (l : List CT) : rawT (textsC l) = l.map textC := by
  unfold rawT textsC; rw [List.map_map]; rfl
theorem rowT_texts {l : List CT} (h : l.all okC = true) : rowT l = ⟨(Lib.join (rawT (textsC l)) [32]).toArray⟩ := by
  unfold rowT; rw [if_pos h, rawT_texts]
theorem texts_14 {l : List CT} (h : l.all okC = true) : ∀ x ∈ textsC l, x.size ≤ 14 := by
  intro x hx
  unfold textsC at hx
  obtain ⟨c, hc, rfl⟩ := List.mem_map.1 hx
  rw [Lib.size_eq, bytes_mk]
  exact l4T_len (List.all_eq_true.1 h c hc)
theorem textsC_length (l : List CT) : (textsC l).length = l.length := by unfold textsC; rw [List.length_map]

end Go.Proofs.YtgiknjlifocioaaGreatDoor

/-
  Names: what a right list of names is, without any program; the contracts of the model's functions on them, and of the one that looks a text up.
-/
namespace Go.Proofs.YtgiknjlifocioaaGreatDoor
open Go.ChangeShapes Go.WideShapes Go.ChangeAt Go.RowKit
attribute [local go_sem ↓] Go.wp_at_zero Go.wp_at_succ
attribute [local simp] World.cell?_alloc_past World.cell?_alloc_at World.frozen?_alloc_at cell_far cell_off cell_here World.frozen?_alloc_past

theorem txt_same {y s : ByteArray} (h : y = s) : (y.toList == s.toList) = true := by rw [h]; simp
theorem txt_other {y s : ByteArray} (h : y ≠ s) : (y.toList == s.toList) = false := by
  rw [beq_eq_false_iff_ne]
  intro e
  rw [Lib.toList_data, Lib.toList_data] at e
  exact h (ByteArray.ext (Array.toList_inj.1 e))

/-- Is the text among them? -/
def inB (l : List ByteArray) (s : ByteArray) : Bool := l.any fun x => decide (x = s)
theorem inB_iff {l : List ByteArray} {s : ByteArray} : inB l s = true ↔ s ∈ l := by
  unfold inB
  rw [List.any_eq_true]
  constructor
  · rintro ⟨x, hx, e⟩
    rw [decide_eq_true_eq] at e
    rw [← e]; exact hx
  · intro h; exact ⟨s, h, by simp⟩
theorem inB_no {l : List ByteArray} {s : ByteArray} : inB l s = false ↔ s ∉ l := by
  rw [Bool.eq_false_iff]
  exact not_congr inB_iff
/-- Is it a name? -/
def nameB (s : ByteArray) : Bool := decide (s ≠ ⟨#[]⟩) && (lets s.data.toList && decide ((s.size : Int) ≤ 6))
/-- Names, no two alike. -/
def namesD (l : List ByteArray) : Bool := l.all nameB && decide l.Nodup
def namesB (l : List ByteArray) (least most : Int) : Bool := namesD l && (decide (least ≤ (l.length : Int)) && decide ((l.length : Int) ≤ most))
theorem namesD_snoc (l : List ByteArray) (k : Nat) (h : k < l.length) : namesD (l.take (k + 1)) = (namesD (l.take k) && (nameB l[k] && !inB (l.take k) l[k])) := by
  unfold namesD
  rw [List.take_succ_eq_append_getElem h, List.all_append]
  rw [Bool.eq_iff_iff]
  simp only [Bool.and_eq_true, decide_eq_true_eq, List.nodup_append, List.all_cons, List.all_nil, Bool.and_true, Bool.not_eq_true', inB_no, List.mem_singleton]
  constructor
  · rintro ⟨⟨h1, h2⟩, h3, _, h4⟩
    exact ⟨⟨h1, h3⟩, h2, fun hm => h4 _ hm _ rfl rfl⟩
  · rintro ⟨⟨h1, h3⟩, h2, h4⟩
    exact ⟨⟨h1, h2⟩, h3, by simp, fun a ha b hb e => h4 (by rw [← hb, ← e]; exact ha)⟩
theorem namesD_no (l : List ByteArray) (k : Nat) (h : namesD (l.take k) = false) : namesD l = false := by
  rw [Bool.eq_false_iff] at h ⊢
  intro e
  apply h
  unfold namesD at e ⊢
  simp only [Bool.and_eq_true, decide_eq_true_eq, List.all_eq_true] at e ⊢
  exact ⟨fun x hx => e.1 x (List.mem_of_mem_take hx), e.2.sublist (List.take_sublist _ _)⟩

/-- Where a text stands first; -1: nowhere. -/
def AtIs (l : List ByteArray) (s : ByteArray) (r : Int) : Prop := (r = -1 ∧ s ∉ l) ∨ ∃ (k : Nat) (h : k < l.length), r = (k : Int) ∧ l[k] = s ∧ ∀ j (hj : j < l.length), j < k → l[j] ≠ s
theorem AtIs.one {l : List ByteArray} {s : ByteArray} {r r' : Int} (h : AtIs l s r) (h' : AtIs l s r') : r = r' := by
  rcases h with ⟨rfl, hn⟩ | ⟨k, hk, rfl, he, hf⟩ <;> rcases h' with ⟨rfl, hn'⟩ | ⟨k', hk', rfl, he', hf'⟩
  · rfl
  · exact absurd (he' ▸ List.getElem_mem hk') hn
  · exact absurd (he ▸ List.getElem_mem hk) hn'
  · rcases Nat.lt_trichotomy k k' with h | h | h
    · exact absurd he (hf' k hk h)
    · rw [h]
    · exact absurd he' (hf k' hk' h)
theorem AtIs.neg {l : List ByteArray} {s : ByteArray} {r : Int} (h : AtIs l s r) : (0 ≤ r ↔ s ∈ l) := by
  rcases h with ⟨rfl, hn⟩ | ⟨k, hk, rfl, he, _⟩
  · constructor
    · intro h; omega
    · intro h; exact absurd h hn
  · exact ⟨fun _ => he ▸ List.getElem_mem hk, fun _ => by omega⟩
theorem AtIs.lt {l : List ByteArray} {s : ByteArray} {r : Int} (h : AtIs l s r) : -1 ≤ r ∧ r < (l.length : Int) := by
  rcases h with ⟨rfl, _⟩ | ⟨k, hk, rfl, _, _⟩ <;> omega

theorem name_spec (s : ByteArray) (w : World) (hs : s.size ≤ maxLen) (b : Bool) (hb : nameB s = b) :
    Calls Tryz.prog 47 #[.string s] w fun e w' => e = .returned (.bool b) ∧ w' = w := by
  by_cases h0 : s = ⟨#[]⟩
  · have e : b = false := by rw [← hb, h0]; rfl
    subst e h0
    clear hb
    go_enter Tryz.func47, Tryz.ntmps47
    go_wp2
    go_ret
    exact ⟨rfl, rfl⟩
  · have h1 : (s.toList == []) = false := by
      have := txt_other h0
      rw [show (⟨#[]⟩ : ByteArray).toList = [] from by rw [Lib.toList_data]] at this
      exact this
    have h2 : ¬ s.toList = [] := by intro e; rw [e] at h1; cases h1
    have e : (lets s.data.toList && decide ((s.size : Int) ≤ 6)) = b := by rw [← hb]; unfold nameB; rw [decide_eq_true h0, Bool.true_and]
    have HB : Hid ((lets s.data.toList && decide ((s.size : Int) ≤ 6)) = b) := e
    clear hb h0 e
    go_enter Tryz.func47, Tryz.ntmps47
    go_wp2_with fail
    refine (letters_spec s 6 _ hs).mono ?_
    rintro e w' ⟨rfl, rfl⟩
    rw [HB.out]
    go_wp2
    go_ret
    exact ⟨rfl, rfl⟩

set_option maxHeartbeats 1000000 in
theorem at_spec (a : Option Addr) (cap : Nat) (l : List ByteArray) (s : ByteArray) (w : World) (hrow : StrsAt w a l) (hm : l.length ≤ maxLen) :
    Calls Tryz.prog 48 #[.slice a l.length cap, .string s] w fun e w' => ∃ r, e = .returned (.int .i64 r) ∧ AtIs l s r ∧ Below w.heap.size w w' := by
  have HR : Hid (StrsAt w a l) := hrow
  clear hrow
  unfold maxLen at hm
  go_enter Tryz.func48, Tryz.ntmps48
  go_wp2
  go_loopw [5] (fun kk wr => ∃ k : Nat, k ≤ l.length ∧ kk = .int .i64 k ∧ Hid (∀ j (hj : j < l.length), j < k → l[j] ≠ s) ∧ Below w.heap.size w wr) (fun kk _ => l.length - (intOf kk).toNat)
  case atStart => exact ⟨0, Nat.zero_le _, rfl, fun j _ h => by omega, Below.refl _ _⟩
  case round =>
    obtain ⟨k, hk, rfl, hall, hbw⟩ := hrel
    by_cases hlt : k < l.length
    · obtain ⟨g, o, rfl, hgw, c0⟩ := HR.out.below hbw k hlt
      have hi0 : (0 : Int) ≤ (k : Int) := by omega
      have hi1 : (k : Int) < (l.length : Int) := by omega
      have HX : Hid (l[k] = l[k]) := rfl
      by_cases e : l[k] = s
      · have fin : Hid (AtIs l s (k : Int)) := Or.inr ⟨k, hlt, rfl, e, hall.out⟩
        have hq := txt_same e
        clear HX e
        generalize l[k] = x at c0 hq
        go_wp2
        go_ret
        exact ⟨_, rfl, fin.out, hbw⟩
      · have hall2 : Hid (∀ j (hj : j < l.length), j < k + 1 → l[j] ≠ s) := by
          have : ∀ j (hj : j < l.length), j < k + 1 → l[j] ≠ s := by
            intro j hj hjk
            by_cases ej : j = k
            · subst ej; exact e
            · exact hall.out j hj (by omega)
          exact this
        have hq := txt_other e
        clear HX e
        generalize l[k] = x at c0 hq
        go_wp2
        go_roundw
        case rel => exact ⟨k + 1, by omega, by go_num, hall2, hbw⟩
        case measure => simp [intOf]; omega
    · have fin : Hid (AtIs l s (-1)) := Or.inl ⟨rfl, fun hmem => by
        obtain ⟨j, hj, e⟩ := List.getElem_of_mem hmem
        exact hall.out j hj (by omega) e⟩
      go_wp2
      go_ret
      exact ⟨_, rfl, fin.out, hbw⟩

end Go.Proofs.YtgiknjlifocioaaGreatDoor
