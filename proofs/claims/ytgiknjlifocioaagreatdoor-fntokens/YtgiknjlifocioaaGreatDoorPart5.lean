/-
  A part of the proof: TokMath, PieceMath, Box5, Lists3.
-/
import Derived.Test.YtgiknjlifocioaaGreatDoorPart4
import Derived.Test.YtgiknjlifocioaaGreatDoorPart1
import Derived.Test.YtgiknjlifocioaaGreatDoorPart2

/-
  Tokens without any program: what a right one is, the text of a list of them, what a text is read as, and that tokens are read from their text.
-/
namespace Go.Proofs.YtgiknjlifocioaaGreatDoor

def letB (c : UInt8) : Bool := decide (97 ≤ c.toNat) && decide (c.toNat ≤ 122)
/-- A token: kind, text, cell. -/
abbrev TT := Int × ByteArray × CK
def zeroC : CK := (0, 0, ⟨#[]⟩)
/-- The words that are signs: and, or, not, lacks. -/
def signW : List ByteArray := [⟨#[97, 110, 100]⟩, ⟨#[111, 114]⟩, ⟨#[110, 111, 116]⟩, ⟨#[108, 97, 99, 107, 115]⟩]
/-- The signs of one byte: + - * / = < ( ). -/
def signO : List ByteArray := [⟨#[43]⟩, ⟨#[45]⟩, ⟨#[42]⟩, ⟨#[47]⟩, ⟨#[61]⟩, ⟨#[60]⟩, ⟨#[40]⟩, ⟨#[41]⟩]
def signB (s : ByteArray) : Bool := inB signW s || inB signO s
/-- A name that is no other word. -/
def nameK (s : ByteArray) : Bool := nameB s && (!inB signW s && (decide (s.data.toList ≠ wNone) && (decide (s.data.toList ≠ wYes) && decide (s.data.toList ≠ wNo))))
/-- Is the token right? -/
def tokB (t : TT) : Bool :=
  if t.1 = 1 then nameK t.2.1 && decide (t.2.2 = zeroC) else if t.1 = 2 then okC t.2.2 && decide (t.2.1 = ⟨#[]⟩) else if t.1 = 3 then signB t.2.1 && decide (t.2.2 = zeroC) else false
/-- What it stands for. -/
def tokT (t : TT) : List UInt8 := if t.1 = 2 then textC t.2.2 else t.2.1.data.toList
theorem tokB_1 (s : ByteArray) (c : CK) : tokB (1, s, c) = (nameK s && decide (c = zeroC)) := if_pos rfl
theorem tokB_2 (s : ByteArray) (c : CK) : tokB (2, s, c) = (okC c && decide (s = ⟨#[]⟩)) := (if_neg (fun h => absurd h (by decide : ¬ (2 : Int) = 1))).trans (if_pos rfl)
theorem tokB_3 (s : ByteArray) (c : CK) : tokB (3, s, c) = (signB s && decide (c = zeroC)) := (if_neg (fun h => absurd h (by decide : ¬ (3 : Int) = 1))).trans ((if_neg (fun h => absurd h (by decide : ¬ (3 : Int) = 2))).trans (if_pos rfl))
theorem tokT_1 (s : ByteArray) (c : CK) : tokT (1, s, c) = s.data.toList := if_neg (fun h => absurd h (by decide : ¬ (1 : Int) = 2))
theorem tokT_2 (s : ByteArray) (c : CK) : tokT (2, s, c) = textC c := if_pos rfl
theorem tokT_3 (s : ByteArray) (c : CK) : tokT (3, s, c) = s.data.toList := if_neg (fun h => absurd h (by decide : ¬ (3 : Int) = 2))
theorem tokB_kind {t : TT} (h : tokB t = true) : (∃ s, t = (1, s, zeroC) ∧ nameK s = true) ∨ (∃ c, t = (2, ⟨#[]⟩, c) ∧ okC c = true) ∨ (∃ s, t = (3, s, zeroC) ∧ signB s = true) := by
  obtain ⟨k, s, c⟩ := t
  by_cases h1 : k = 1
  · subst h1
    rw [tokB_1, Bool.and_eq_true, decide_eq_true_eq] at h
    obtain ⟨h, rfl⟩ := h
    exact .inl ⟨s, rfl, h⟩
  by_cases h2 : k = 2
  · subst h2
    rw [tokB_2, Bool.and_eq_true, decide_eq_true_eq] at h
    obtain ⟨h, rfl⟩ := h
    exact .inr (.inl ⟨c, rfl, h⟩)
  by_cases h3 : k = 3
  · subst h3
    rw [tokB_3, Bool.and_eq_true, decide_eq_true_eq] at h
    obtain ⟨h, rfl⟩ := h
    exact .inr (.inr ⟨s, rfl, h⟩)
  · unfold tokB at h
    dsimp only at h
    rw [if_neg h1, if_neg h2, if_neg h3] at h
    cases h
/-- The text of tokens; empty where one is not right. -/
def toksT (l : List TT) : ByteArray := if l.all tokB = true then ⟨(Lib.join (l.map tokT) [32]).toArray⟩ else ⟨#[]⟩

/-- How many letters stand ahead. -/
def runL (l : List UInt8) : Nat := (l.takeWhile letB).length
/-- The longest cell that begins there, of at most e bytes. -/
def longC (l : List UInt8) : Nat → Option (CK × Nat)
  | 0 => none
  | e + 1 => match readB ⟨(l.take (e + 1)).toArray⟩ with
    | some c => some (c, e + 1)
    | none => longC l e
/-- What a run of letters is. -/
def wordT (w : ByteArray) : Option TT :=
  match readB w with
  | some c => some (2, ⟨#[]⟩, c)
  | none => if signB w = true then some (3, w, zeroC) else if nameK w = true then some (1, w, zeroC) else none
/-- The token that begins there, and how long it is. -/
def nextT (l : List UInt8) : Option (TT × Nat) :=
  if 0 < runL l then (wordT ⟨(l.take (runL l)).toArray⟩).map (fun t => (t, runL l))
  else match longC l (min 14 l.length) with
    | some (c, e) => some ((2, ⟨#[]⟩, c), e)
    | none => if signB ⟨(l.take 1).toArray⟩ = true then some ((3, ⟨(l.take 1).toArray⟩, zeroC), 1) else none
/-- All tokens of a text, in at most that many steps. -/
def toksF : Nat → List UInt8 → Option (List TT)
  | _, [] => some []
  | 0, _ :: _ => none
  | n + 1, c :: l => if c = 32 then toksF n l else match nextT (c :: l) with
    | none => none
    | some (t, e) => (toksF n ((c :: l).drop e)).map (t :: ·)
def toksB (s : ByteArray) : Option (List TT) := if s.size ≤ 2000 then toksF s.size s.data.toList else none

theorem letB_lets (l : List UInt8) : lets l = l.all letB := rfl
theorem runL_le (l : List UInt8) : runL l ≤ l.length := by
  unfold runL
  exact (List.takeWhile_sublist _).length_le
theorem longC_some {l : List UInt8} {e : Nat} {c : CK} {k : Nat} (h : longC l e = some (c, k)) : 0 < k ∧ k ≤ e ∧ readB ⟨(l.take k).toArray⟩ = some c ∧ ∀ j, k < j → j ≤ e → readB ⟨(l.take j).toArray⟩ = none := by
  induction e with
  | zero => simp [longC] at h
  | succ e ih =>
    unfold longC at h
    cases hr : readB ⟨(l.take (e + 1)).toArray⟩ with
    | some d =>
      rw [hr] at h
      simp only [Option.some.injEq, Prod.mk.injEq] at h
      obtain ⟨rfl, rfl⟩ := h
      exact ⟨by omega, Nat.le_refl _, hr, fun j h1 h2 => by omega⟩
    | none =>
      rw [hr] at h
      obtain ⟨h1, h2, h3, h4⟩ := ih h
      refine ⟨h1, by omega, h3, fun j hj1 hj2 => ?_⟩
      by_cases ej : j = e + 1
      · subst ej; exact hr
      · exact h4 j hj1 (by omega)
theorem longC_none {l : List UInt8} {e : Nat} (h : longC l e = none) : ∀ j, 0 < j → j ≤ e → readB ⟨(l.take j).toArray⟩ = none := by
  induction e with
  | zero => intro j h1 h2; omega
  | succ e ih =>
    unfold longC at h
    cases hr : readB ⟨(l.take (e + 1)).toArray⟩ with
    | some d => rw [hr] at h; cases h
    | none =>
      rw [hr] at h
      intro j h1 h2
      by_cases ej : j = e + 1
      · subst ej; exact hr
      · exact ih h j h1 (by omega)
theorem longC_at {l : List UInt8} {e k : Nat} {c : CK} (h0 : 0 < k) (hk : k ≤ e) (hr : readB ⟨(l.take k).toArray⟩ = some c) (hn : ∀ j, k < j → j ≤ e → readB ⟨(l.take j).toArray⟩ = none) : longC l e = some (c, k) := by
  induction e with
  | zero => omega
  | succ e ih =>
    unfold longC
    by_cases ek : k = e + 1
    · subst ek; rw [hr]
    · rw [hn (e + 1) (by omega) (Nat.le_refl _)]
      exact ih (by omega) (fun j h1 h2 => hn j h1 (by omega))
theorem longC_no {l : List UInt8} {e : Nat} (hn : ∀ j, 0 < j → j ≤ e → readB ⟨(l.take j).toArray⟩ = none) : longC l e = none := by
  induction e with
  | zero => rfl
  | succ e ih =>
    unfold longC
    rw [hn (e + 1) (by omega) (Nat.le_refl _)]
    exact ih (fun j h1 h2 => hn j h1 (by omega))
/-- The bytes of a right cell's text. -/
def cellByte (c : UInt8) : Bool := isDig c || (decide (c = 45) || (decide (c = 39) || letB c))
theorem l4T_bytes {k n : Int} {t : ByteArray} (h : okB k n t = true) : (l4T k n t.data.toList).all cellByte = true := by
  rcases okB_kind h with rfl | rfl | rfl | rfl
  · rw [l4T_0]; decide
  · rw [l4T_1]
    have key : ∀ u, (Lib.decDigits u).all cellByte = true := by
      intro u
      obtain ⟨_, p, _⟩ := decDigits_plain u
      refine List.all_eq_true.2 (fun c hc => ?_)
      unfold cellByte
      rw [p.2.1 c hc, Bool.true_or]
    by_cases hn : n < 0
    · rw [itoa_neg n hn, List.all_cons, key]; decide
    · rw [itoa_nonneg n (by omega)]; exact key _
  · obtain ⟨_, ht⟩ := okB_2 h
    rw [l4T_2, List.all_cons, List.all_append]
    unfold textB at ht
    rw [Bool.and_eq_true] at ht
    have : t.data.toList.all cellByte = true := by
      refine List.all_eq_true.2 (fun c hc => ?_)
      have := List.all_eq_true.1 ht.1 c hc
      unfold cellByte
      rw [show letB c = true from this]
      simp
    rw [this]; decide
  · obtain ⟨hn, _⟩ := okB_3 h
    rcases hn with rfl | rfl
    · rw [l4T_30]; decide
    · rw [l4T_31]; decide
/-- Nothing that has another byte is read as a cell. -/
theorem readB_other {l : List UInt8} {b : UInt8} (hb : cellByte b = false) (h : b ∈ l) : readB ⟨l.toArray⟩ = none := by
  cases hr : readB ⟨l.toArray⟩ with
  | none => rfl
  | some c =>
    obtain ⟨k, n, t⟩ := c
    obtain ⟨ho, e⟩ := readB_some hr
    have e' := cellT_ok ho
    rw [e] at e'
    have h2 := l4T_bytes ho
    rw [← e'] at h2
    have := List.all_eq_true.1 h2 b h
    rw [hb] at this
    cases this
theorem readB_blank {l : List UInt8} (h : (32 : UInt8) ∈ l) : readB ⟨l.toArray⟩ = none := readB_other (by decide) h
theorem readB_cell {c : CK} (h : okC c = true) : readB ⟨(textC c).toArray⟩ = some c := by
  obtain ⟨k, n, t⟩ := c
  have := readB_text (k := k) (n := n) (t := t) h
  unfold cellT at this
  rw [if_pos (show okB k n t = true from h)] at this
  exact this
/-- The head of what is read as a cell. -/
theorem readB_head {l : List UInt8} {c : CK} (h : readB ⟨l.toArray⟩ = some c) : l = wNone ∨ l = wYes ∨ l = wNo ∨ ∃ b r, l = b :: r ∧ (isDig b = true ∨ b = 45 ∨ b = 39) := by
  obtain ⟨k, n, t⟩ := c
  obtain ⟨ho, e⟩ := readB_some h
  have e' := cellT_ok ho
  rw [e] at e'
  change l = _ at e'
  rcases okB_kind ho with rfl | rfl | rfl | rfl
  · exact .inl e'
  · obtain ⟨b, r, hb, hx⟩ := itoa_head n
    refine .inr (.inr (.inr ⟨b, r, by rw [e', l4T_1, hb], ?_⟩))
    rcases hx with hx | hx
    · exact .inl hx
    · exact .inr (.inl hx)
  · exact .inr (.inr (.inr ⟨39, _, by rw [e', l4T_2], .inr (.inr rfl)⟩))
  · obtain ⟨hn, _⟩ := okB_3 ho
    rcases hn with rfl | rfl
    · exact .inr (.inr (.inl (by rw [e', l4T_30])))
    · exact .inr (.inl (by rw [e', l4T_31]))
theorem wordT_ok {w : ByteArray} {t : TT} (h : wordT w = some t) : tokB t = true ∧ tokT t = w.data.toList := by
  unfold wordT at h
  cases hr : readB w with
  | some c =>
    rw [hr] at h
    simp only [Option.some.injEq] at h
    subst h
    obtain ⟨k, n, x⟩ := c
    obtain ⟨ho, e⟩ := readB_some hr
    refine ⟨?_, ?_⟩
    · rw [tokB_2]
      simp only [okC, ho, Bool.true_and, decide_true]
    · have := cellT_ok ho
      rw [e] at this
      rw [tokT_2]
      exact this.symm
  | none =>
    rw [hr] at h
    simp only [] at h
    split at h
    · rename_i hs
      simp only [Option.some.injEq] at h
      subst h
      refine ⟨?_, tokT_3 _ _⟩
      rw [tokB_3]
      simp only [hs, Bool.true_and, decide_true]
    · split at h
      · rename_i hs
        simp only [Option.some.injEq] at h
        subst h
        refine ⟨?_, tokT_1 _ _⟩
        rw [tokB_1]
        simp only [hs, Bool.true_and, decide_true]
      · cases h
/-- What begins there is right, and it is what stands there. -/
theorem nextT_ok {l : List UInt8} {t : TT} {e : Nat} (hl : l ≠ []) (h : nextT l = some (t, e)) : tokB t = true ∧ 0 < e ∧ e ≤ l.length ∧ tokT t = l.take e := by
  unfold nextT at h
  split at h
  · rename_i hr
    cases hw : wordT ⟨(l.take (runL l)).toArray⟩ with
    | none => rw [hw] at h; cases h
    | some u =>
      rw [hw] at h
      simp only [Option.map_some, Option.some.injEq, Prod.mk.injEq] at h
      obtain ⟨rfl, rfl⟩ := h
      obtain ⟨h1, h2⟩ := wordT_ok hw
      exact ⟨h1, hr, runL_le l, h2⟩
  · cases hc : longC l (min 14 l.length) with
    | some p =>
      obtain ⟨c, k⟩ := p
      rw [hc] at h
      simp only [Option.some.injEq, Prod.mk.injEq] at h
      obtain ⟨rfl, rfl⟩ := h
      obtain ⟨h1, h2, h3, _⟩ := longC_some hc
      obtain ⟨a, n, x⟩ := c
      obtain ⟨ho, e1⟩ := readB_some h3
      refine ⟨?_, h1, by omega, ?_⟩
      · rw [tokB_2]
        simp only [okC, ho, Bool.true_and, decide_true]
      · have := cellT_ok ho
        rw [e1] at this
        rw [tokT_2]
        exact this.symm
    | none =>
      rw [hc] at h
      simp only [] at h
      split at h
      · rename_i hs
        simp only [Option.some.injEq, Prod.mk.injEq] at h
        obtain ⟨rfl, rfl⟩ := h
        refine ⟨?_, by omega, ?_, tokT_3 _ _⟩
        · rw [tokB_3]
          simp only [hs, Bool.true_and, decide_true]
        · cases l with
          | nil => exact absurd rfl hl
          | cons c l => simp
      · cases h
/-- What is read is right. -/
theorem toksF_ok : ∀ {n : Nat} {l : List UInt8} {ts : List TT}, toksF n l = some ts → ts.all tokB = true
  | _, [], ts, h => by
    simp only [toksF, Option.some.injEq] at h
    subst h; rfl
  | 0, c :: l, ts, h => by simp [toksF] at h
  | n + 1, c :: l, ts, h => by
    unfold toksF at h
    split at h
    · exact toksF_ok h
    · cases hn : nextT (c :: l) with
      | none => rw [hn] at h; cases h
      | some p =>
        obtain ⟨t, e⟩ := p
        rw [hn] at h
        simp only [] at h
        cases hr : toksF n ((c :: l).drop e) with
        | none => rw [hr] at h; cases h
        | some us =>
          rw [hr] at h
          simp only [Option.map_some, Option.some.injEq] at h
          subst h
          rw [List.all_cons, (nextT_ok (by simp) hn).1, toksF_ok hr]; rfl
/-- More steps say the same. -/
theorem toksF_more : ∀ {n m : Nat} {l : List UInt8}, l.length ≤ n → l.length ≤ m → toksF n l = toksF m l
  | _, _, [], _, _ => by simp [toksF]
  | 0, _, c :: l, h, _ => by simp at h
  | _, 0, c :: l, _, h => by simp at h
  | n + 1, m + 1, c :: l, h1, h2 => by
    simp only [List.length_cons] at h1 h2
    unfold toksF
    split
    · exact toksF_more (by omega) (by omega)
    · cases hn : nextT (c :: l) with
      | none => rfl
      | some p =>
        obtain ⟨t, e⟩ := p
        obtain ⟨_, he, _, _⟩ := nextT_ok (by simp) hn
        simp only []
        rw [toksF_more (n := n) (m := m) (by simp; omega) (by simp; omega)]

/-- Ahead of nothing, of a blank or of a parenthesis that ends. -/
def Ends (r : List UInt8) : Prop := r = [] ∨ ∃ b x, r = b :: x ∧ (b = 32 ∨ b = 41)
theorem Ends.blank (x : List UInt8) : Ends (32 :: x) := .inr ⟨32, x, rfl, .inl rfl⟩
theorem Ends.paren (x : List UInt8) : Ends (41 :: x) := .inr ⟨41, x, rfl, .inr rfl⟩
theorem runL_word {w r : List UInt8} (hw : w.all letB = true) (hr : Ends r) : runL (w ++ r) = w.length := by
  unfold runL
  have h0 : r.takeWhile letB = [] := by
    rcases hr with rfl | ⟨b, x, rfl, rfl | rfl⟩
    · rfl
    · rw [List.takeWhile_cons_of_neg (by decide)]
    · rw [List.takeWhile_cons_of_neg (by decide)]
  rw [List.takeWhile_append_of_pos (fun a ha => List.all_eq_true.1 hw a ha), h0, List.append_nil]
theorem runL_no {c : UInt8} {r : List UInt8} (hc : letB c = false) : runL (c :: r) = 0 := by
  unfold runL
  rw [List.takeWhile_cons_of_neg (by rw [hc]; decide)]; rfl
theorem letB_dig {c : UInt8} (h : isDig c = true) : letB c = false := by
  unfold isDig at h
  unfold letB
  simp only [Bool.and_eq_true, decide_eq_true_eq] at h
  rw [decide_eq_false (by omega)]; rfl
theorem take_blank {w r : List UInt8} (hr : Ends r) {j : Nat} (h1 : w.length < j) (h2 : j ≤ (w ++ r).length) : ∃ b, cellByte b = false ∧ b ∈ (w ++ r).take j := by
  rcases hr with rfl | ⟨b, x, rfl, hb⟩
  · rw [List.append_nil] at h2; omega
  · refine ⟨b, by rcases hb with rfl | rfl <;> decide, ?_⟩
    rw [List.take_append]
    refine List.mem_append.2 (.inr ?_)
    obtain ⟨m, hm⟩ : ∃ m, j - w.length = m + 1 := ⟨j - w.length - 1, by omega⟩
    rw [hm, List.take_succ_cons]; simp
theorem take_word (w r : List UInt8) : (w ++ r).take w.length = w := by simp
/-- A cell that is no word is read from its text, ahead of a blank. -/
theorem next_cell {c : CK} {r : List UInt8} (hc : okC c = true) (hr : Ends r) (hh : ∃ b x, textC c = b :: x ∧ letB b = false) : nextT (textC c ++ r) = some ((2, ⟨#[]⟩, c), (textC c).length) := by
  obtain ⟨b, x, hb, hl⟩ := hh
  have hlen : (textC c).length ≤ 14 := by obtain ⟨k, n, t⟩ := c; exact l4T_len hc
  have hpos : 0 < (textC c).length := by rw [hb]; simp
  have h0 : runL (textC c ++ r) = 0 := by rw [hb, List.cons_append]; exact runL_no hl
  unfold nextT
  rw [if_neg (by omega)]
  have : longC (textC c ++ r) (min 14 (textC c ++ r).length) = some (c, (textC c).length) := by
    refine longC_at hpos (by rw [List.length_append]; omega) (by rw [take_word]; exact readB_cell hc) (fun j h1 h2 => by obtain ⟨b, h3, h4⟩ := take_blank hr h1 (by omega); exact readB_other h3 h4)
  rw [this]
theorem next_word {w : List UInt8} {t : TT} {r : List UInt8} (hw : w.all letB = true) (h0 : w ≠ []) (hr : Ends r) (ht : wordT ⟨w.toArray⟩ = some t) : nextT (w ++ r) = some (t, w.length) := by
  have hl := runL_word hw hr
  have hpos : 0 < w.length := List.length_pos_iff.2 h0
  unfold nextT
  rw [hl, if_pos hpos, take_word, ht]; rfl
theorem next_sign {b : UInt8} {r : List UInt8} (hb : inB signO ⟨#[b]⟩ = true) (hr : Ends r) : nextT (b :: r) = some ((3, ⟨#[b]⟩, zeroC), 1) := by
  have hm := inB_iff.1 hb
  have hx : b = 43 ∨ b = 45 ∨ b = 42 ∨ b = 47 ∨ b = 61 ∨ b = 60 ∨ b = 40 ∨ b = 41 := by
    simp only [signO, List.mem_cons, List.not_mem_nil, or_false, ByteArray.mk.injEq, Array.mk.injEq, List.cons.injEq, and_true] at hm
    exact hm
  have hl : letB b = false := by rcases hx with rfl | rfl | rfl | rfl | rfl | rfl | rfl | rfl <;> decide
  have h1 : readB ⟨#[b]⟩ = none := by rcases hx with rfl | rfl | rfl | rfl | rfl | rfl | rfl | rfl <;> decide +kernel
  unfold nextT
  rw [runL_no hl, if_neg (by omega)]
  have : longC (b :: r) (min 14 (b :: r).length) = none := by
    refine longC_no (fun j h2 h3 => ?_)
    by_cases ej : j = 1
    · subst ej; exact h1
    · obtain ⟨c, h4, h5⟩ := take_blank (w := [b]) (r := r) hr (j := j) (by simp; omega) (by simp at h3 ⊢; omega)
      exact readB_other h4 h5
  rw [this]
  simp only []
  rw [if_pos (show signB ⟨((b :: r).take 1).toArray⟩ = true from by unfold signB; rw [show ((b :: r).take 1).toArray = #[b] from rfl, hb, Bool.or_true])]
  rfl
/-- A parenthesis that begins is read whatever follows. -/
theorem next_paren (r : List UInt8) : nextT (40 :: r) = some ((3, ⟨#[40]⟩, zeroC), 1) := by
  unfold nextT
  rw [runL_no (by decide), if_neg (by omega)]
  have : longC (40 :: r) (min 14 (40 :: r).length) = none := by
    refine longC_no (fun j h2 h3 => ?_)
    refine readB_other (b := 40) (by decide) ?_
    obtain ⟨m, rfl⟩ : ∃ m, j = m + 1 := ⟨j - 1, by omega⟩
    rw [List.take_succ_cons]; simp
  rw [this]
  rfl
/-- A right token is read from its text, ahead of a blank. -/
theorem next_tok {t : TT} {r : List UInt8} (ht : tokB t = true) (hr : Ends r) : nextT (tokT t ++ r) = some (t, (tokT t).length) := by
  rcases tokB_kind ht with ⟨s, rfl, hn⟩ | ⟨c, rfl, hc⟩ | ⟨s, rfl, hs⟩
  · have hn0 := hn
    unfold nameK nameB at hn
    simp only [Bool.and_eq_true, Bool.not_eq_true', decide_eq_true_eq] at hn
    obtain ⟨⟨h1, h2, h3⟩, h4, h5, h6, h7⟩ := hn
    rw [tokT_1]
    have hne : s.data.toList ≠ [] := fun e0 => h1 (bytes_ext (by rw [e0]))
    refine next_word h2 hne hr ?_
    have hrd : readB ⟨s.data.toList.toArray⟩ = none := by
      cases hq : readB ⟨s.data.toList.toArray⟩ with
      | none => rfl
      | some d =>
        exfalso
        rcases readB_head hq with q | q | q | ⟨b, x, q, hb⟩
        · exact h5 q
        · exact h6 q
        · exact h7 q
        · have hl : letB b = true := List.all_eq_true.1 h2 b (by rw [q]; simp)
          rcases hb with hb | rfl | rfl
          · rw [letB_dig hb] at hl; cases hl
          · exact absurd hl (by decide)
          · exact absurd hl (by decide)
    have hs1 : signB s = false := by
      unfold signB
      rw [h4, Bool.false_or]
      cases hq : inB signO s with
      | false => rfl
      | true =>
        exfalso
        have hm := inB_iff.1 hq
        have hall := List.all_eq_true.1 h2
        simp only [signO, List.mem_cons, List.not_mem_nil, or_false] at hm
        rcases hm with rfl | rfl | rfl | rfl | rfl | rfl | rfl | rfl <;> exact absurd (hall _ (List.mem_cons_self ..)) (by decide)
    have es : (⟨s.data.toList.toArray⟩ : ByteArray) = s := rfl
    unfold wordT
    rw [hrd]
    simp only []
    rw [es, hs1, if_neg (by decide), if_pos hn0]
  · rw [tokT_2]
    rcases readB_head (readB_cell hc) with q | q | q | ⟨b, x, q, hb⟩
    · refine next_word (by rw [q]; decide) (by rw [q]; decide) hr ?_
      unfold wordT; rw [readB_cell hc]
    · refine next_word (by rw [q]; decide) (by rw [q]; decide) hr ?_
      unfold wordT; rw [readB_cell hc]
    · refine next_word (by rw [q]; decide) (by rw [q]; decide) hr ?_
      unfold wordT; rw [readB_cell hc]
    · refine next_cell hc hr ⟨b, x, q, ?_⟩
      rcases hb with hb | rfl | rfl
      · exact letB_dig hb
      · decide
      · decide
  · rw [tokT_3]
    unfold signB at hs
    rw [Bool.or_eq_true] at hs
    rcases hs with hs | hs
    · have hm := inB_iff.1 hs
      simp only [signW, List.mem_cons, List.not_mem_nil, or_false] at hm
      rcases hm with rfl | rfl | rfl | rfl
      all_goals exact next_word (by decide) (by decide) hr (by decide +kernel)
    · have hm := inB_iff.1 hs
      simp only [signO, List.mem_cons, List.not_mem_nil, or_false] at hm
      rcases hm with rfl | rfl | rfl | rfl | rfl | rfl | rfl | rfl
      all_goals exact next_sign hs hr
/-- The text of a right token is not empty, and has no blank. -/
theorem tokT_some {t : TT} (ht : tokB t = true) : tokT t ≠ [] ∧ (32 : UInt8) ∉ tokT t := by
  rcases tokB_kind ht with ⟨s, rfl, hn⟩ | ⟨c, rfl, hc⟩ | ⟨s, rfl, hs⟩
  · unfold nameK nameB at hn
    simp only [Bool.and_eq_true, Bool.not_eq_true', decide_eq_true_eq] at hn
    obtain ⟨⟨h1, h2, h3⟩, _⟩ := hn
    rw [tokT_1]
    refine ⟨fun e0 => h1 (bytes_ext (by rw [e0])), fun hm => ?_⟩
    exact absurd (List.all_eq_true.1 h2 32 hm) (by decide)
  · rw [tokT_2]
    obtain ⟨k, n, x⟩ := c
    exact l4T_some hc
  · rw [tokT_3]
    unfold signB at hs
    rw [Bool.or_eq_true] at hs
    rcases hs with hs | hs
    · have hm := inB_iff.1 hs
      simp only [signW, List.mem_cons, List.not_mem_nil, or_false] at hm
      rcases hm with rfl | rfl | rfl | rfl <;> decide
    · have hm := inB_iff.1 hs
      simp only [signO, List.mem_cons, List.not_mem_nil, or_false] at hm
      rcases hm with rfl | rfl | rfl | rfl | rfl | rfl | rfl | rfl <;> decide
theorem tokT_head {t : TT} (ht : tokB t = true) : ∃ b x, tokT t = b :: x ∧ b ≠ 32 := by
  obtain ⟨h1, h2⟩ := tokT_some ht
  cases hq : tokT t with
  | nil => exact absurd hq h1
  | cons b x => exact ⟨b, x, rfl, fun e => h2 (by rw [hq, e]; simp)⟩
/-- Tokens are read from their text. -/
theorem toksF_text : ∀ (ts : List TT) (n : Nat), ts.all tokB = true → (Lib.join (ts.map tokT) [32]).length ≤ n → toksF n (Lib.join (ts.map tokT) [32]) = some ts
  | [], n, _, _ => by rw [show Lib.join (List.map tokT []) [32] = [] from rfl]; simp [toksF]
  | [t], n, h, hn => by
    have ht : tokB t = true := by rw [List.all_cons, Bool.and_eq_true] at h; exact h.1
    obtain ⟨b, x, hb, h32⟩ := tokT_head ht
    have hj : Lib.join (List.map tokT [t]) [32] = tokT t := by simp [Lib.join]
    have hx := next_tok ht (r := []) (.inl rfl)
    rw [List.append_nil] at hx
    rw [hj] at hn ⊢
    rw [hb] at hn hx ⊢
    obtain ⟨m, rfl⟩ : ∃ m, n = m + 1 := ⟨n - 1, by simp at hn; omega⟩
    unfold toksF
    rw [if_neg h32, hx]
    simp [toksF]
  | t :: u :: ts, n, h, hn => by
    have ht : tokB t = true := by rw [List.all_cons, Bool.and_eq_true] at h; exact h.1
    have hrest : (u :: ts).all tokB = true := by rw [List.all_cons, Bool.and_eq_true] at h; exact h.2
    obtain ⟨b, x, hb, h32⟩ := tokT_head ht
    have hj : Lib.join (List.map tokT (t :: u :: ts)) [32] = tokT t ++ (32 :: Lib.join (List.map tokT (u :: ts)) [32]) := by simp [Lib.join]
    rw [hj] at hn ⊢
    have hx := next_tok ht (r := 32 :: Lib.join (List.map tokT (u :: ts)) [32]) (Ends.blank _)
    have ih := fun m hm => toksF_text (u :: ts) m hrest hm
    generalize Lib.join (List.map tokT (u :: ts)) [32] = R at hn hx ih ⊢
    rw [hb] at hn hx ⊢
    obtain ⟨m, rfl⟩ : ∃ m, n = m + 1 + 1 := ⟨n - 2, by simp at hn; omega⟩
    rw [List.cons_append] at hx ⊢
    unfold toksF
    rw [if_neg h32, hx]
    simp only []
    rw [show ((b :: (x ++ 32 :: R)).drop (b :: x).length) = 32 :: R by simp]
    unfold toksF
    rw [if_pos rfl, ih m (by simp at hn; omega)]
    rfl
theorem toksB_text (ts : List TT) (h : ts.all tokB = true) (hs : (toksT ts).size ≤ 2000) : toksB (toksT ts) = some ts := by
  unfold toksB
  rw [if_pos hs]
  unfold toksT at hs ⊢
  rw [if_pos h] at hs ⊢
  exact toksF_text ts _ h (by rw [Lib.size_eq]; exact Nat.le_refl _)
theorem toksB_ok {s : ByteArray} {ts : List TT} (h : toksB s = some ts) : ts.all tokB = true := by
  unfold toksB at h
  split at h
  · exact toksF_ok h
  · cases h
end Go.Proofs.YtgiknjlifocioaaGreatDoor

/-
  The longest piece that begins at a place of a text, without any program: what the program cuts off is just what a token is read from.
-/
namespace Go.Proofs.YtgiknjlifocioaaGreatDoor

/-- How many digits go on behind the number v. -/
def numL (v : Nat) : List UInt8 → Nat
  | [] => 0
  | c :: l => if isDig c = true ∧ v * 10 + (c.toNat - 48) ≤ 1000000000 then numL (v * 10 + (c.toNat - 48)) l + 1 else 0
def firstD (c : UInt8) : Bool := isDig c && decide (c.toNat ≠ 48)
def blankL (l : List UInt8) : Nat := (l.takeWhile (fun c => decide (c.toNat = 32))).length
/-- The same behind the sign -. -/
def minusL : List UInt8 → Nat
  | d :: r => if firstD d = true then numL (d.toNat - 48) r + 2 else 1
  | [] => 1
def pieceC (c : UInt8) (l : List UInt8) : Nat :=
  if c.toNat = 32 then blankL l + 1
  else if letB c = true then runL l + 1
  else if c.toNat = 39 then (if (l.drop (runL l)).head? = some 39 then runL l + 2 else runL l + 1)
  else if c.toNat = 45 then minusL l
  else if firstD c = true then numL (c.toNat - 48) l + 1
  else 1
/-- How long the piece is that begins there. -/
def pieceL : List UInt8 → Nat
  | [] => 0
  | c :: l => pieceC c l
theorem pieceL_cons (c : UInt8) (l : List UInt8) : pieceL (c :: l) = pieceC c l := rfl
theorem minusL_yes {d : UInt8} {r : List UInt8} (h : firstD d = true) : minusL (d :: r) = numL (d.toNat - 48) r + 2 := if_pos h
theorem minusL_no {l : List UInt8} (h : ¬ ∃ d r, l = d :: r ∧ firstD d = true) : minusL l = 1 := by
  cases l with
  | nil => rfl
  | cons d r => exact if_neg (fun h' => h ⟨d, r, rfl, h'⟩)
theorem minusL_pos (l : List UInt8) : 0 < minusL l := by
  unfold minusL
  split
  · split <;> omega
  · omega

theorem numL_le (v : Nat) (l : List UInt8) : numL v l ≤ l.length := by
  induction l generalizing v with
  | nil => exact Nat.le_refl _
  | cons c l ih =>
    unfold numL
    split
    · have := ih (v * 10 + (c.toNat - 48)); simp; omega
    · exact Nat.zero_le _
theorem numL_dig (v : Nat) (l : List UInt8) : ∀ c ∈ l.take (numL v l), isDig c = true := by
  induction l generalizing v with
  | nil => intro c hc; simp at hc
  | cons c l ih =>
    unfold numL
    split
    · rename_i h
      intro x hx
      rw [List.take_succ_cons] at hx
      rcases List.mem_cons.1 hx with rfl | hx
      · exact h.1
      · exact ih _ x hx
    · intro x hx; simp at hx
theorem numL_val (v : Nat) (l : List UInt8) (hv : v ≤ 1000000000) : valFrom v (l.take (numL v l)) ≤ 1000000000 := by
  induction l generalizing v with
  | nil => exact hv
  | cons c l ih =>
    unfold numL
    split
    · rename_i h
      rw [List.take_succ_cons]
      exact ih _ h.2
    · exact hv
theorem numL_stop (v : Nat) (l : List UInt8) (h : numL v l < l.length) : isDig (l[numL v l]) = false ∨ 1000000000 < valFrom v (l.take (numL v l + 1)) := by
  induction l generalizing v with
  | nil => simp at h
  | cons c l ih =>
    by_cases hc : isDig c = true ∧ v * 10 + (c.toNat - 48) ≤ 1000000000
    · have e : numL v (c :: l) = numL (v * 10 + (c.toNat - 48)) l + 1 := by rw [numL, if_pos hc]
      simp only [e, List.getElem_cons_succ, List.take_succ_cons]
      exact ih _ (by rw [e] at h; simp at h; omega)
    · have e : numL v (c :: l) = 0 := by rw [numL, if_neg hc]
      simp only [e, List.getElem_cons_zero]
      by_cases hd : isDig c = true
      · right
        show 1000000000 < valFrom v [c]
        rw [valFrom_one]
        exact Nat.lt_of_not_le fun h' => hc ⟨hd, h'⟩
      · left
        cases hx : isDig c with
        | true => exact absurd hx hd
        | false => rfl
theorem firstD_dig {c : UInt8} (h : firstD c = true) : isDig c = true ∧ c ≠ 48 ∧ 49 ≤ c.toNat ∧ c.toNat ≤ 57 := by
  unfold firstD at h
  rw [Bool.and_eq_true, decide_eq_true_eq] at h
  obtain ⟨h1, h2⟩ := h
  have h3 := h1
  unfold isDig at h3
  simp at h3
  exact ⟨h1, fun e => h2 (by rw [e]; rfl), by omega, h3.2⟩

/-- Digits that begin with none but a nought, as far as they go. -/
def numK (d : UInt8) (r : List UInt8) : Nat := numL (d.toNat - 48) r + 1
theorem numK_le (d : UInt8) (r : List UInt8) : numK d r ≤ (d :: r).length := by
  have := numL_le (d.toNat - 48) r
  unfold numK; simp; omega
theorem numK_take (d : UInt8) (r : List UInt8) : (d :: r).take (numK d r) = d :: r.take (numL (d.toNat - 48) r) := by
  unfold numK; rw [List.take_succ_cons]
theorem numK_plain {d : UInt8} {r : List UInt8} (h : firstD d = true) : Plain ((d :: r).take (numK d r)) := by
  obtain ⟨h1, h2, _⟩ := firstD_dig h
  rw [numK_take]
  refine ⟨by simp, ?_, ?_⟩
  · intro c hc
    rcases List.mem_cons.1 hc with rfl | hc
    · exact h1
    · exact numL_dig _ _ c hc
  · intro e
    simp at e
    exact absurd e h2
theorem numK_val {d : UInt8} {r : List UInt8} (h : firstD d = true) : 1 ≤ valFrom 0 ((d :: r).take (numK d r)) ∧ valFrom 0 ((d :: r).take (numK d r)) ≤ 1000000000 := by
  obtain ⟨_, _, h3, h4⟩ := firstD_dig h
  rw [numK_take]
  show 1 ≤ valFrom (0 * 10 + (d.toNat - 48)) _ ∧ valFrom (0 * 10 + (d.toNat - 48)) _ ≤ _
  rw [show 0 * 10 + (d.toNat - 48) = d.toNat - 48 by omega]
  exact ⟨Nat.le_trans (by omega) (valFrom_mono _ _), numL_val _ _ (by omega)⟩
/-- What goes further is no numeral that fits. -/
theorem numK_far {d : UInt8} {r : List UInt8} {j : Nat} (h1 : numK d r < j) (h2 : j ≤ (d :: r).length) (hd : ∀ c ∈ (d :: r).take j, isDig c = true) (hv : valFrom 0 ((d :: r).take j) ≤ 1000000000) : False := by
  unfold numK at h1
  obtain ⟨m, rfl⟩ : ∃ m, j = m + 1 := ⟨j - 1, by omega⟩
  simp only [List.length_cons] at h2
  have hlt : numL (d.toNat - 48) r < r.length := by omega
  rw [List.take_succ_cons] at hd hv
  rcases numL_stop _ _ hlt with hs | hs
  · have hm : r[numL (d.toNat - 48) r] ∈ r.take m := by
      rw [List.mem_iff_getElem]
      exact ⟨numL (d.toNat - 48) r, by rw [List.length_take]; omega, by rw [List.getElem_take]⟩
    rw [hd _ (List.mem_cons_of_mem _ hm)] at hs
    cases hs
  · have e : r.take m = r.take (numL (d.toNat - 48) r + 1) ++ (r.take m).drop (numL (d.toNat - 48) r + 1) := by
      have := (List.take_append_drop (numL (d.toNat - 48) r + 1) (r.take m)).symm
      rw [List.take_take, Nat.min_eq_left (by omega)] at this
      exact this
    have hv' : valFrom (0 * 10 + (d.toNat - 48)) (r.take m) ≤ 1000000000 := hv
    rw [show 0 * 10 + (d.toNat - 48) = d.toNat - 48 by omega, e, valFrom_append] at hv'
    have := valFrom_mono ((r.take m).drop (numL (d.toNat - 48) r + 1)) (valFrom (d.toNat - 48) (r.take (numL (d.toNat - 48) r + 1)))
    omega

theorem readB_itoa {n : Int} (h : numB n = true) : readB ⟨(Lib.itoa n).toArray⟩ = some (1, n, ⟨#[]⟩) :=
  readB_cell (c := (1, n, ⟨#[]⟩)) (okB_1'.trans h)
/-- What is read of a text that begins neither with a letter nor with the sign ' is a numeral. -/
theorem readB_num {b : UInt8} {r : List UInt8} {c : CK} (hl : letB b = false) (hq : b.toNat ≠ 39) (h : readB ⟨(b :: r).toArray⟩ = some c) : ∃ n, numB n = true ∧ c = (1, n, ⟨#[]⟩) ∧ b :: r = Lib.itoa n := by
  obtain ⟨k, n, t⟩ := c
  obtain ⟨ho, e⟩ := readB_some h
  have e' := cellT_ok ho
  rw [e] at e'
  change b :: r = _ at e'
  rcases okB_kind ho with rfl | rfl | rfl | rfl
  · rw [l4T_0] at e'
    injection e' with e1 _
    rw [e1] at hl; exact absurd hl (by decide)
  · obtain ⟨hn, rfl⟩ := okB_1 ho
    exact ⟨n, hn, rfl, e'⟩
  · rw [l4T_2] at e'
    injection e' with e1 _
    rw [e1] at hq; exact absurd rfl hq
  · obtain ⟨hn, _⟩ := okB_3 ho
    rcases hn with rfl | rfl
    · rw [l4T_30] at e'
      injection e' with e1 _
      rw [e1] at hl; exact absurd hl (by decide)
    · rw [l4T_31] at e'
      injection e' with e1 _
      rw [e1] at hl; exact absurd hl (by decide)
theorem itoa_dig {n : Int} {b : UInt8} {r : List UInt8} (hb : b.toNat ≠ 45) (h : b :: r = Lib.itoa n) : 0 ≤ n ∧ Plain (b :: r) ∧ valFrom 0 (b :: r) = n.toNat := by
  by_cases hn : n < 0
  · rw [itoa_neg n hn] at h
    injection h with e1 _
    rw [e1] at hb; exact absurd rfl hb
  · rw [itoa_nonneg n (by omega)] at h
    obtain ⟨h1, h2, _⟩ := decDigits_plain n.toNat
    rw [← h] at h1 h2
    exact ⟨by omega, h2, h1⟩
theorem itoa_minus {n : Int} {r : List UInt8} (h : 45 :: r = Lib.itoa n) : n < 0 ∧ Plain r ∧ valFrom 0 r = n.natAbs := by
  by_cases hn : n < 0
  · rw [itoa_neg n hn] at h
    injection h with _ e2
    obtain ⟨h1, h2, _⟩ := decDigits_plain n.natAbs
    rw [← e2] at h1 h2
    exact ⟨hn, h2, h1⟩
  · exfalso
    rw [itoa_nonneg n (by omega)] at h
    obtain ⟨_, h2, _⟩ := decDigits_plain n.toNat
    rw [← h] at h2
    exact absurd (h2.2.1 45 (by simp)) (by decide)
theorem plain_itoa {l : List UInt8} (h : Plain l) : Lib.itoa (valFrom 0 l : Int) = l := by
  rw [itoa_nonneg _ (by omega)]
  rw [show ((valFrom 0 l : Nat) : Int).toNat = valFrom 0 l by omega]
  exact decDigits_val _ l rfl h
theorem plain_minus {l : List UInt8} (h : Plain l) (h1 : 1 ≤ valFrom 0 l) : Lib.itoa (-(valFrom 0 l : Int)) = 45 :: l := by
  rw [itoa_neg _ (by omega)]
  rw [show (-((valFrom 0 l : Nat) : Int)).natAbs = valFrom 0 l by omega]
  rw [decDigits_val _ l rfl h]

theorem nameK_head {b : UInt8} {r : List UInt8} (hl : letB b = false) : nameK ⟨(b :: r).toArray⟩ = false := by
  cases h : nameK ⟨(b :: r).toArray⟩ with
  | false => rfl
  | true =>
    exfalso
    unfold nameK nameB at h
    simp only [Bool.and_eq_true, Bool.not_eq_true', decide_eq_true_eq] at h
    obtain ⟨⟨_, h2, _⟩, _⟩ := h
    have := List.all_eq_true.1 h2 b (by simp)
    rw [show letB b = true from this] at hl
    cases hl
theorem signB_two {b : UInt8} {r : List UInt8} (hl : letB b = false) (hr : r ≠ []) : signB ⟨(b :: r).toArray⟩ = false := by
  cases h : signB ⟨(b :: r).toArray⟩ with
  | false => rfl
  | true =>
    exfalso
    unfold signB at h
    rw [Bool.or_eq_true] at h
    rcases h with h | h
    · have hm := inB_iff.1 h
      simp only [signW, List.mem_cons, List.not_mem_nil, or_false, ByteArray.mk.injEq, Array.mk.injEq, List.cons.injEq] at hm
      rcases hm with ⟨rfl, _⟩ | ⟨rfl, _⟩ | ⟨rfl, _⟩ | ⟨rfl, _⟩ <;> exact absurd hl (by decide)
    · have hm := inB_iff.1 h
      simp only [signO, List.mem_cons, List.not_mem_nil, or_false, ByteArray.mk.injEq, Array.mk.injEq, List.cons.injEq] at hm
      rcases hm with ⟨_, e⟩ | ⟨_, e⟩ | ⟨_, e⟩ | ⟨_, e⟩ | ⟨_, e⟩ | ⟨_, e⟩ | ⟨_, e⟩ | ⟨_, e⟩ <;> exact hr e
theorem signB_quote (r : List UInt8) : signB ⟨(39 :: r).toArray⟩ = false := by
  cases r with
  | nil => decide +kernel
  | cons c r => exact signB_two (by decide) (by simp)

theorem wordT_cell {w : ByteArray} {c : CK} (h : readB w = some c) : wordT w = some (2, ⟨#[]⟩, c) := by unfold wordT; rw [h]
theorem wordT_sign {w : ByteArray} (h : readB w = none) (hs : signB w = true) : wordT w = some (3, w, zeroC) := by unfold wordT; rw [h]; simp only []; rw [if_pos hs]
theorem wordT_none {w : ByteArray} (h : readB w = none) (hs : signB w = false) (hn : nameK w = false) : wordT w = none := by
  unfold wordT; rw [h]; simp only []; rw [if_neg (by rw [hs]; decide), if_neg (by rw [hn]; decide)]
theorem nextT_cell {b : UInt8} {l : List UInt8} {c : CK} {k : Nat} (hl : letB b = false) (h : longC (b :: l) (min 14 (b :: l).length) = some (c, k)) : nextT (b :: l) = some ((2, ⟨#[]⟩, c), k) := by
  unfold nextT; rw [runL_no hl, if_neg (by omega), h]
theorem nextT_sign {b : UInt8} {l : List UInt8} (hl : letB b = false) (h : longC (b :: l) (min 14 (b :: l).length) = none) : nextT (b :: l) = if signB ⟨#[b]⟩ = true then some ((3, ⟨#[b]⟩, zeroC), 1) else none := by
  unfold nextT; rw [runL_no hl, if_neg (by omega), h]; rfl

/-- One byte alone, where nothing longer is a cell. -/
theorem next_one {b : UInt8} {l : List UInt8} (hl : letB b = false) (hn : ∀ j, 0 < j → j ≤ (b :: l).length → readB ⟨((b :: l).take j).toArray⟩ = none) : nextT (b :: l) = (wordT ⟨((b :: l).take 1).toArray⟩).map (fun t => (t, 1)) := by
  rw [nextT_sign hl (longC_no (fun j h1 h2 => hn j h1 (by omega)))]
  have h1 : readB ⟨#[b]⟩ = none := hn 1 (by omega) (by simp)
  show _ = (wordT ⟨#[b]⟩).map _
  cases hs : signB ⟨#[b]⟩ with
  | true => rw [wordT_sign h1 hs]; rfl
  | false => rw [wordT_none h1 hs (nameK_head (r := []) hl)]; rfl
/-- A cell, where that is the longest one. -/
theorem next_long {b : UInt8} {l : List UInt8} {c : CK} {k : Nat} (hl : letB b = false) (h0 : 0 < k) (hk : k ≤ (b :: l).length) (hr : readB ⟨((b :: l).take k).toArray⟩ = some c) (hn : ∀ j, k < j → j ≤ (b :: l).length → readB ⟨((b :: l).take j).toArray⟩ = none) :
    nextT (b :: l) = (wordT ⟨((b :: l).take k).toArray⟩).map (fun t => (t, k)) := by
  have h14 : k ≤ 14 := by
    obtain ⟨x, y, z⟩ := c
    obtain ⟨ho, e⟩ := readB_some hr
    have e' := cellT_ok ho
    rw [e] at e'
    have := l4T_len ho
    rw [← e', bytes_mk, List.length_take] at this
    omega
  rw [nextT_cell hl (longC_at h0 (by omega) hr (fun j h1 h2 => hn j h1 (by omega))), wordT_cell hr]
  rfl

theorem takeWhile_quote {t r : List UInt8} (ht : t.all letB = true) : (t ++ 39 :: r).takeWhile letB = t := by
  rw [List.takeWhile_append_of_pos (fun a ha => List.all_eq_true.1 ht a ha), List.takeWhile_cons_of_neg (by decide), List.append_nil]
theorem quote_read {l : List UInt8} {j : Nat} {c : CK} (h : readB ⟨((39 :: l).take j).toArray⟩ = some c) (hj : j ≤ (39 :: l).length) : j = runL l + 2 ∧ (l.drop (runL l)).head? = some 39 := by
  cases j with
  | zero => rw [List.take_zero] at h; rw [readB_nil] at h; cases h
  | succ j =>
    rw [List.take_succ_cons] at h
    obtain ⟨k, n, t⟩ := c
    obtain ⟨ho, e⟩ := readB_some h
    have e' := cellT_ok ho
    rw [e] at e'
    change 39 :: l.take j = _ at e'
    rcases okB_kind ho with rfl | rfl | rfl | rfl
    · rw [l4T_0] at e'; injection e' with e1 _; exact absurd e1 (by decide)
    · rw [l4T_1] at e'
      exact absurd e' (itoa_no n _ 39 rfl (by decide) (by decide))
    · obtain ⟨_, ht⟩ := okB_2 ho
      rw [l4T_2] at e'
      injection e' with _ e2
      unfold textB at ht
      rw [Bool.and_eq_true] at ht
      have hall : t.data.toList.all letB = true := ht.1
      have el : l = t.data.toList ++ 39 :: l.drop j := by
        have := (List.take_append_drop j l).symm
        rw [e2] at this
        simpa using this
      have hlen : j = t.data.toList.length + 1 := by
        have := congrArg List.length e2
        rw [List.length_take, List.length_append, List.length_singleton] at this
        simp at hj
        omega
      have hr : runL l = t.data.toList.length := by
        unfold runL
        rw [el, takeWhile_quote hall]
      refine ⟨by omega, ?_⟩
      rw [hr]
      conv => lhs; rw [el]
      rw [List.drop_left]
      rfl
    · obtain ⟨hn, _⟩ := okB_3 ho
      rcases hn with rfl | rfl
      · rw [l4T_30] at e'; injection e' with e1 _; exact absurd e1 (by decide)
      · rw [l4T_31] at e'; injection e' with e1 _; exact absurd e1 (by decide)

theorem pieceL_pos (c : UInt8) (l : List UInt8) : 0 < pieceL (c :: l) := by
  have := minusL_pos l
  rw [pieceL_cons]
  unfold pieceC
  split
  · omega
  split
  · omega
  split
  · split <;> omega
  split
  · omega
  split <;> omega
theorem runL_drop {l : List UInt8} {b : UInt8} (h : (l.drop (runL l)).head? = some b) : runL l < l.length := by
  have := runL_le l
  by_cases e : runL l = l.length
  · rw [e, List.drop_length] at h; cases h
  · omega
theorem blankL_le (l : List UInt8) : blankL l ≤ l.length := by
  unfold blankL
  exact (List.takeWhile_sublist _).length_le
theorem minusL_le (l : List UInt8) : minusL l ≤ l.length + 1 := by
  cases l with
  | nil => exact Nat.le_refl _
  | cons d r =>
    unfold minusL
    have := numL_le (d.toNat - 48) r
    simp only [List.length_cons]
    split <;> omega
theorem pieceL_le (c : UInt8) (l : List UInt8) : pieceL (c :: l) ≤ (c :: l).length := by
  have h1 := runL_le l
  have h2 := blankL_le l
  have h3 := minusL_le l
  have h4 := numL_le (c.toNat - 48) l
  rw [pieceL_cons]
  unfold pieceC
  simp only [List.length_cons]
  split
  · omega
  split
  · omega
  split
  · split
    · rename_i h
      have := runL_drop h
      omega
    · omega
  split
  · omega
  split <;> omega

theorem byteIs {c : UInt8} {n : Nat} (h : c.toNat = n) (hn : n < 256) : c = UInt8.ofNat n := by
  apply UInt8.toNat_inj.1
  rw [h, UInt8.toNat_ofNat_of_lt' (by exact hn)]
/-- The token that begins there is read from the piece that begins there. -/
theorem next_piece (c : UInt8) (l : List UInt8) (h32 : c.toNat ≠ 32) : nextT (c :: l) = (wordT ⟨((c :: l).take (pieceL (c :: l))).toArray⟩).map (fun t => (t, pieceL (c :: l))) := by
  by_cases hlet : letB c = true
  · have e : pieceL (c :: l) = runL (c :: l) := by
      rw [pieceL_cons]; unfold pieceC
      rw [if_neg h32, if_pos hlet]
      unfold runL
      rw [List.takeWhile_cons_of_pos hlet]
      rfl
    have hp := pieceL_pos c l
    rw [e] at hp ⊢
    unfold nextT
    rw [if_pos hp]
  have hl : letB c = false := by
    cases hx : letB c with
    | true => exact absurd hx hlet
    | false => rfl
  by_cases h39 : c.toNat = 39
  · obtain rfl : c = 39 := byteIs h39 (by decide)
    have e : pieceL (39 :: l) = if (l.drop (runL l)).head? = some 39 then runL l + 2 else runL l + 1 := by
      rw [pieceL_cons]; unfold pieceC
      rw [if_neg h32, if_neg hlet, if_pos h39]
    have hle := pieceL_le 39 l
    by_cases hyes : ∃ cc, readB ⟨((39 :: l).take (pieceL (39 :: l))).toArray⟩ = some cc
    · obtain ⟨cc, hcc⟩ := hyes
      refine next_long hl (pieceL_pos _ _) hle hcc (fun j h1 h2 => ?_)
      cases hr : readB ⟨((39 :: l).take j).toArray⟩ with
      | none => rfl
      | some c2 =>
        exfalso
        have := (quote_read hr h2).1
        have := (quote_read hcc hle).1
        omega
    · have hno : readB ⟨((39 :: l).take (pieceL (39 :: l))).toArray⟩ = none := by
        cases hr : readB ⟨((39 :: l).take (pieceL (39 :: l))).toArray⟩ with
        | none => rfl
        | some c2 => exact absurd ⟨c2, hr⟩ hyes
      have hall : ∀ j, 0 < j → j ≤ (39 :: l).length → readB ⟨((39 :: l).take j).toArray⟩ = none := by
        intro j h1 h2
        cases hr : readB ⟨((39 :: l).take j).toArray⟩ with
        | none => rfl
        | some c2 =>
          exfalso
          obtain ⟨hj, hh⟩ := quote_read hr h2
          rw [if_pos hh] at e
          rw [e, ← hj, hr] at hno
          cases hno
      rw [nextT_sign hl (longC_no (fun j h1 h2 => hall j h1 (by omega))), if_neg (by decide +kernel)]
      obtain ⟨m, hm⟩ : ∃ m, pieceL (39 :: l) = m + 1 := ⟨pieceL (39 :: l) - 1, by have := pieceL_pos 39 l; omega⟩
      rw [hm] at hno ⊢
      rw [List.take_succ_cons] at hno ⊢
      rw [wordT_none hno (signB_quote _) (nameK_head hl)]
      rfl
  by_cases h45 : c.toNat = 45
  · obtain rfl : c = 45 := byteIs h45 (by decide)
    by_cases hd : ∃ d r, l = d :: r ∧ firstD d = true
    · obtain ⟨d, r, rfl, hd⟩ := hd
      have e : pieceL (45 :: d :: r) = numK d r + 1 := by
        rw [pieceL_cons]; unfold pieceC
        rw [if_neg h32, if_neg hlet, if_neg h39, if_pos h45, minusL_yes hd]
        rfl
      have hpl := numK_plain (r := r) hd
      have hv := numK_val (r := r) hd
      have hk := numK_le d r
      rw [e]
      refine next_long (c := (1, -(valFrom 0 ((d :: r).take (numK d r)) : Int), ⟨#[]⟩)) hl (by omega) (by simp at hk ⊢; omega) ?_ ?_
      · rw [List.take_succ_cons, ← plain_minus hpl hv.1]
        exact readB_itoa (numB_iff.2 (by omega))
      · intro j h1 h2
        obtain ⟨m, rfl⟩ : ∃ m, j = m + 1 := ⟨j - 1, by omega⟩
        cases hr : readB ⟨((45 :: d :: r).take (m + 1)).toArray⟩ with
        | none => rfl
        | some c2 =>
          exfalso
          rw [List.take_succ_cons] at hr
          obtain ⟨n, hn, _, e2⟩ := readB_num hl h39 hr
          obtain ⟨h3, h4, h5⟩ := itoa_minus e2
          have hb := numB_iff.1 hn
          exact numK_far (d := d) (r := r) (j := m) (by omega) (by simp at h2 ⊢; omega) h4.2.1 (by omega)
    · have e : pieceL (45 :: l) = 1 := by
        rw [pieceL_cons]; unfold pieceC
        rw [if_neg h32, if_neg hlet, if_neg h39, if_pos h45, minusL_no hd]
      rw [e]
      refine next_one hl (fun j h1 h2 => ?_)
      obtain ⟨m, rfl⟩ : ∃ m, j = m + 1 := ⟨j - 1, by omega⟩
      cases hr : readB ⟨((45 :: l).take (m + 1)).toArray⟩ with
      | none => rfl
      | some c2 =>
        exfalso
        rw [List.take_succ_cons] at hr
        obtain ⟨n, hn, _, e2⟩ := readB_num hl h39 hr
        obtain ⟨h3, h4, h5⟩ := itoa_minus e2
        cases l with
        | nil => simp at h4; exact h4.1 rfl
        | cons d r =>
          cases m with
          | zero => rw [List.take_zero] at h4; exact h4.1 rfl
          | succ m =>
            rw [List.take_succ_cons] at h4 h5
            refine hd ⟨d, r, rfl, ?_⟩
            unfold firstD
            rw [h4.2.1 d (by simp), Bool.true_and, decide_eq_true_eq]
            intro e48
            have hd48 : d = 48 := byteIs e48 (by decide)
            subst hd48
            have := h4.2.2 (by simp)
            have e0 : r.take m = [] := by
              rw [List.length_cons] at this
              exact List.length_eq_zero_iff.1 (by omega)
            rw [e0] at h5
            have h6 : valFrom 0 [48] = 0 := rfl
            omega
  by_cases hf : firstD c = true
  · have e : pieceL (c :: l) = numK c l := by
      rw [pieceL_cons]; unfold pieceC
      rw [if_neg h32, if_neg hlet, if_neg h39, if_neg h45, if_pos hf]
      rfl
    have hpl := numK_plain (r := l) hf
    have hv := numK_val (r := l) hf
    have hk := numK_le c l
    have hkp : 0 < numK c l := by unfold numK; omega
    rw [e]
    refine next_long (c := (1, (valFrom 0 ((c :: l).take (numK c l)) : Int), ⟨#[]⟩)) hl hkp hk ?_ ?_
    · conv => lhs; rw [← plain_itoa hpl]
      exact readB_itoa (numB_iff.2 (by omega))
    · intro j h1 h2
      cases hr : readB ⟨((c :: l).take j).toArray⟩ with
      | none => rfl
      | some c2 =>
        exfalso
        obtain ⟨m, rfl⟩ : ∃ m, j = m + 1 := ⟨j - 1, by omega⟩
        rw [List.take_succ_cons] at hr
        obtain ⟨n, hn, _, e2⟩ := readB_num hl h39 hr
        obtain ⟨h3, h4, h5⟩ := itoa_dig h45 e2
        have hb := numB_iff.1 hn
        exact numK_far (d := c) (r := l) (j := m + 1) h1 h2 (by rw [List.take_succ_cons]; exact h4.2.1) (by rw [List.take_succ_cons, h5]; omega)
  · have e : pieceL (c :: l) = 1 := by
      rw [pieceL_cons]; unfold pieceC
      rw [if_neg h32, if_neg hlet, if_neg h39, if_neg h45, if_neg hf]
    rw [e]
    by_cases hdig : isDig c = true
    · have h48 : c.toNat = 48 := by
        unfold firstD at hf
        rw [hdig, Bool.true_and, decide_eq_true_eq] at hf
        exact Classical.byContradiction hf
      obtain rfl : c = 48 := byteIs h48 (by decide)
      refine next_long (c := (1, 0, ⟨#[]⟩)) hl (by omega) (by simp) (show readB ⟨#[48]⟩ = some (1, 0, ⟨#[]⟩) by decide +kernel) (fun j h1 h2 => ?_)
      obtain ⟨m, rfl⟩ : ∃ m, j = m + 1 := ⟨j - 1, by omega⟩
      cases hr : readB ⟨((48 :: l).take (m + 1)).toArray⟩ with
      | none => rfl
      | some c2 =>
        exfalso
        rw [List.take_succ_cons] at hr
        obtain ⟨n, hn, _, e2⟩ := readB_num hl h39 hr
        obtain ⟨h3, h4, h5⟩ := itoa_dig h45 e2
        have := h4.2.2 (by simp)
        simp at this
        rcases this with e0 | e0
        · omega
        · rw [e0] at h2; simp at h2; omega
    · refine next_one hl (fun j h1 h2 => ?_)
      obtain ⟨m, rfl⟩ : ∃ m, j = m + 1 := ⟨j - 1, by omega⟩
      cases hr : readB ⟨((c :: l).take (m + 1)).toArray⟩ with
      | none => rfl
      | some c2 =>
        exfalso
        rw [List.take_succ_cons] at hr
        obtain ⟨n, hn, _, e2⟩ := readB_num hl h39 hr
        obtain ⟨h3, h4, h5⟩ := itoa_dig h45 e2
        exact hdig (h4.2.1 c (by simp))

/-- What a text is read as, whatever the steps. -/
def toksL (l : List UInt8) : Option (List TT) := toksF l.length l
theorem toksL_nil : toksL [] = some [] := by simp [toksL, toksF]
theorem toksL_blank (l : List UInt8) : toksL (32 :: l) = toksL l := by
  unfold toksL
  rw [List.length_cons, toksF, if_pos rfl]
theorem toksL_next (c : UInt8) (l : List UInt8) (h : c ≠ 32) : toksL (c :: l) = match nextT (c :: l) with
    | none => none
    | some (t, e) => (toksL ((c :: l).drop e)).map (t :: ·) := by
  unfold toksL
  rw [List.length_cons, toksF, if_neg h]
  cases hn : nextT (c :: l) with
  | none => rfl
  | some p =>
    obtain ⟨t, e⟩ := p
    obtain ⟨_, he, _, _⟩ := nextT_ok (by simp) hn
    simp only []
    rw [toksF_more (n := l.length) (m := ((c :: l).drop e).length) (by simp; omega) (Nat.le_refl _)]
theorem toksL_blanks (l : List UInt8) : toksL (l.drop (blankL l)) = toksL l := by
  induction l with
  | nil => rfl
  | cons c l ih =>
    by_cases h : c.toNat = 32
    · have hc : c = 32 := byteIs h (by decide)
      have e : blankL (c :: l) = blankL l + 1 := by
        unfold blankL
        rw [List.takeWhile_cons_of_pos (by simpa using h)]
        rfl
      rw [e, List.drop_succ_cons, ih, hc, toksL_blank]
    · have e : blankL (c :: l) = 0 := by
        unfold blankL
        rw [List.takeWhile_cons_of_neg (by simpa using h)]
        rfl
      rw [e, List.drop_zero]
/-- Piece by piece. -/
theorem toksL_piece (c : UInt8) (l : List UInt8) : toksL (c :: l) = if c.toNat = 32 then toksL ((c :: l).drop (pieceL (c :: l))) else match wordT ⟨((c :: l).take (pieceL (c :: l))).toArray⟩ with
    | none => none
    | some t => (toksL ((c :: l).drop (pieceL (c :: l)))).map (t :: ·) := by
  by_cases h : c.toNat = 32
  · rw [if_pos h]
    have hc : c = 32 := byteIs h (by decide)
    have e : pieceL (c :: l) = blankL l + 1 := by rw [pieceL_cons]; unfold pieceC; rw [if_pos h]
    rw [e, List.drop_succ_cons, toksL_blanks, hc, toksL_blank]
  · rw [if_neg h, toksL_next c l (fun e => h (by rw [e]; rfl)), next_piece c l h]
    cases wordT ⟨((c :: l).take (pieceL (c :: l))).toArray⟩ with
    | none => rfl
    | some t => rfl
theorem toksB_L {s : ByteArray} (h : s.size ≤ 2000) : toksB s = toksL s.data.toList := by
  unfold toksB toksL
  rw [if_pos h, Lib.size_eq]
theorem toksB_long {s : ByteArray} (h : ¬ s.size ≤ 2000) : toksB s = none := by
  unfold toksB; rw [if_neg h]
end Go.Proofs.YtgiknjlifocioaaGreatDoor

/-
  A block of five cells that was laid, behind what came later.
-/
namespace Go.Proofs.YtgiknjlifocioaaGreatDoor
open Go.ChangeShapes Go.WideShapes Go.ChangeAt Go.RowKit

theorem box5 {w w1 : World} {a b c d e : Value} {T : TypeId} (h : Below (w.alloc (.cells #[a, b, c, d, e] T)).heap.size (w.alloc (.cells #[a, b, c, d, e] T)) w1) :
    w1.cell? ⟨w.heap.size, 0, none⟩ = some a ∧ w1.cell? ⟨w.heap.size, 1, none⟩ = some b ∧ w1.cell? ⟨w.heap.size, 2, none⟩ = some c ∧ w1.cell? ⟨w.heap.size, 3, none⟩ = some d ∧ w1.cell? ⟨w.heap.size, 4, none⟩ = some e ∧ w.heap.size < w1.heap.size := by
  have hs := h.size
  have key : ∀ o, w1.cell? ⟨w.heap.size, o, none⟩ = (w.alloc (.cells #[a, b, c, d, e] T)).cell? ⟨w.heap.size, o, none⟩ := fun o => h.cell (p := ⟨w.heap.size, o, none⟩) (by simp)
  simp only [key]
  refine ⟨?_, ?_, ?_, ?_, ?_, by simp at hs; omega⟩ <;> simp [World.cell?_alloc_at]

theorem later5 {w w' : World} {B : Nat} {a b c d e : Value} (hb : Below w.heap.size w w') (h : w.cell? ⟨B, 0, none⟩ = some a ∧ w.cell? ⟨B, 1, none⟩ = some b ∧ w.cell? ⟨B, 2, none⟩ = some c ∧ w.cell? ⟨B, 3, none⟩ = some d ∧ w.cell? ⟨B, 4, none⟩ = some e ∧ B < w.heap.size) :
    w'.cell? ⟨B, 0, none⟩ = some a ∧ w'.cell? ⟨B, 1, none⟩ = some b ∧ w'.cell? ⟨B, 2, none⟩ = some c ∧ w'.cell? ⟨B, 3, none⟩ = some d ∧ w'.cell? ⟨B, 4, none⟩ = some e ∧ B < w'.heap.size := by
  obtain ⟨h0, h1, h2, h3, h4, hB⟩ := h
  have key : ∀ o, w'.cell? ⟨B, o, none⟩ = w.cell? ⟨B, o, none⟩ := fun o => hb.cell (p := ⟨B, o, none⟩) hB
  have hs := hb.size
  exact ⟨(key _).trans h0, (key _).trans h1, (key _).trans h2, (key _).trans h3, (key _).trans h4, by omega⟩

end Go.Proofs.YtgiknjlifocioaaGreatDoor

/-
  The contract of the law's helper that holds two lists of cells against each other: of two that are one it answers true.
-/
namespace Go.Proofs.YtgiknjlifocioaaGreatDoor
open Go.ChangeShapes Go.WideShapes Go.ChangeAt Go.RowKit
attribute [local go_sem ↓] Go.wp_at_zero Go.wp_at_succ

end Go.Proofs.YtgiknjlifocioaaGreatDoor
