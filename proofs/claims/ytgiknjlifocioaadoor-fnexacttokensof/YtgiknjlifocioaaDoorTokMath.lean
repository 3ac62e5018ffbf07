/-
  Tokens without any program: what a right one is, the text of a list of them, what a text is read as, and that tokens are read from their text.
-/
import Derived.Test.YtgiknjlifocioaaDoorNames1
import Derived.Test.YtgiknjlifocioaaDoorRowMath
namespace Go.Proofs.YtgiknjlifocioaaDoor

def letB (c : UInt8) : Bool := decide (97 ≤ c.toNat) && decide (c.toNat ≤ 122)
/-- A token: kind, text, cell. -/
abbrev TT := Int × ByteArray × CK
def zeroC : CK := (0, 0, ⟨#[]⟩)
/-- The words that are signs: and, or, not, lacks. -/
def signW : List ByteArray := [⟨#[97, 110, 100]⟩, ⟨#[111, 114]⟩, ⟨#[110, 111, 116]⟩, ⟨#[108, 97, 99, 107, 115]⟩]
/-- The signs of one byte: + - * / = < ( ). -/
def signO : List ByteArray := [⟨#[43]⟩, ⟨#[45]⟩, ⟨#[42]⟩, ⟨#[47]⟩, ⟨#[61]⟩, ⟨#[60]⟩, ⟨#[40]⟩, ⟨#[41]⟩]
def signB (s : ByteArray) : Bool := inB signW s || inB signO s
/-- A name that is no other word. -/
def nameK (s : ByteArray) : Bool := nameB s && (!inB signW s && (decide (s.data.toList ≠ wNone) && (decide (s.data.toList ≠ wYes) && decide (s.data.toList ≠ wNo))))
/-- Is the token right? -/
def tokB (t : TT) : Bool :=
  if t.1 = 1 then nameK t.2.1 && decide (t.2.2 = zeroC) else if t.1 = 2 then okC t.2.2 && decide (t.2.1 = ⟨#[]⟩) else if t.1 = 3 then signB t.2.1 && decide (t.2.2 = zeroC) else false
/-- What it stands for. -/
def tokT (t : TT) : List UInt8 := if t.1 = 2 then textC t.2.2 else t.2.1.data.toList
theorem tokB_1 (s : ByteArray) (c : CK) : tokB (1, s, c) = (nameK s && decide (c = zeroC)) := if_pos rfl
theorem tokB_2 (s : ByteArray) (c : CK) : tokB (2, s, c) = (okC c && decide (s = ⟨#[]⟩)) := (if_neg (fun h => absurd h (by decide : ¬ (2 : Int) = 1))).trans (if_pos rfl)
theorem tokB_3 (s : ByteArray) (c : CK) : tokB (3, s, c) = (signB s && decide (c = zeroC)) := (if_neg (fun h => absurd h (by decide : ¬ (3 : Int) = 1))).trans ((if_neg (fun h => absurd h (by decide : ¬ (3 : Int) = 2))).trans (if_pos rfl))
theorem tokT_1 (s : ByteArray) (c : CK) : tokT (1, s, c) = s.data.toList := if_neg (fun h => absurd h (by decide : ¬ (1 : Int) = 2))
theorem tokT_2 (s : ByteArray) (c : CK) : tokT (2, s, c) = textC c := if_pos rfl
theorem tokT_3 (s : ByteArray) (c : CK) : tokT (3, s, c) = s.data.toList := if_neg (fun h => absurd h (by decide : ¬ (3 : Int) = 2))
theorem tokB_kind {t : TT} (h : tokB t = true) : (∃ s, t = (1, s, zeroC) ∧ nameK s = true) ∨ (∃ c, t = (2, ⟨#[]⟩, c) ∧ okC c = true) ∨ (∃ s, t = (3, s, zeroC) ∧ signB s = true) := by
  obtain ⟨k, s, c⟩ := t
  by_cases h1 : k = 1
  · subst h1
    rw [tokB_1, Bool.and_eq_true, decide_eq_true_eq] at h
    obtain ⟨h, rfl⟩ := h
    exact .inl ⟨s, rfl, h⟩
  by_cases h2 : k = 2
  · subst h2
    rw [tokB_2, Bool.and_eq_true, decide_eq_true_eq] at h
    obtain ⟨h, rfl⟩ := h
    exact .inr (.inl ⟨c, rfl, h⟩)
  by_cases h3 : k = 3
  · subst h3
    rw [tokB_3, Bool.and_eq_true, decide_eq_true_eq] at h
    obtain ⟨h, rfl⟩ := h
    exact .inr (.inr ⟨s, rfl, h⟩)
  · unfold tokB at h
    dsimp only at h
    rw [if_neg h1, if_neg h2, if_neg h3] at h
    cases h
/-- The text of tokens; empty where one is not right. -/
def toksT (l : List TT) : ByteArray := if l.all tokB = true then ⟨(Lib.join (l.map tokT) [32]).toArray⟩ else ⟨#[]⟩

/-- How many letters stand ahead. -/
def runL (l : List UInt8) : Nat := (l.takeWhile letB).length
/-- The longest cell that begins there, of at most e bytes. -/
def longC (l : List UInt8) : Nat → Option (CK × Nat)
  | 0 => none
  | e + 1 => match readB ⟨(l.take (e + 1)).toArray⟩ with
    | some c => some (c, e + 1)
    | none => longC l e
/-- What a run of letters is. -/
def wordT (w : ByteArray) : Option TT :=
  match readB w with
  | some c => some (2, ⟨#[]⟩, c)
  | none => if signB w = true then some (3, w, zeroC) else if nameK w = true then some (1, w, zeroC) else none
/-- The token that begins there, and how long it is. -/
def nextT (l : List UInt8) : Option (TT × Nat) :=
  if 0 < runL l then (wordT ⟨(l.take (runL l)).toArray⟩).map (fun t => (t, runL l))
  else match longC l (min 14 l.length) with
    | some (c, e) => some ((2, ⟨#[]⟩, c), e)
    | none => if signB ⟨(l.take 1).toArray⟩ = true then some ((3, ⟨(l.take 1).toArray⟩, zeroC), 1) else none
/-- All tokens of a text, in at most that many steps. -/
def toksF : Nat → List UInt8 → Option (List TT)
  | _, [] => some []
  | 0, _ :: _ => none
  | n + 1, c :: l => if c = 32 then toksF n l else match nextT (c :: l) with
    | none => none
    | some (t, e) => (toksF n ((c :: l).drop e)).map (t :: ·)
def toksB (s : ByteArray) : Option (List TT) := if s.size ≤ 2000 then toksF s.size s.data.toList else none

theorem letB_lets (l : List UInt8) : lets l = l.all letB := rfl
theorem runL_le (l : List UInt8) : runL l ≤ l.length := by
  unfold runL
  exact (List.takeWhile_sublist _).length_le
theorem longC_some {l : List UInt8} {e : Nat} {c : CK} {k : Nat} (h : longC l e = some (c, k)) : 0 < k ∧ k ≤ e ∧ readB ⟨(l.take k).toArray⟩ = some c ∧ ∀ j, k < j → j ≤ e → readB ⟨(l.take j).toArray⟩ = none := by
  induction e with
  | zero => simp [longC] at h
  | succ e ih =>
    unfold longC at h
    cases hr : readB ⟨(l.take (e + 1)).toArray⟩ with
    | some d =>
      rw [hr] at h
      simp only [Option.some.injEq, Prod.mk.injEq] at h
      obtain ⟨rfl, rfl⟩ := h
      exact ⟨by omega, Nat.le_refl _, hr, fun j h1 h2 => by omega⟩
    | none =>
      rw [hr] at h
      obtain ⟨h1, h2, h3, h4⟩ := ih h
      refine ⟨h1, by omega, h3, fun j hj1 hj2 => ?_⟩
      by_cases ej : j = e + 1
      · subst ej; exact hr
      · exact h4 j hj1 (by omega)
theorem longC_none {l : List UInt8} {e : Nat} (h : longC l e = none) : ∀ j, 0 < j → j ≤ e → readB ⟨(l.take j).toArray⟩ = none := by
  induction e with
  | zero => intro j h1 h2; omega
  | succ e ih =>
    unfold longC at h
    cases hr : readB ⟨(l.take (e + 1)).toArray⟩ with
    | some d => rw [hr] at h; cases h
    | none =>
      rw [hr] at h
      intro j h1 h2
      by_cases ej : j = e + 1
      · subst ej; exact hr
      · exact ih h j h1 (by omega)
theorem longC_at {l : List UInt8} {e k : Nat} {c : CK} (h0 : 0 < k) (hk : k ≤ e) (hr : readB ⟨(l.take k).toArray⟩ = some c) (hn : ∀ j, k < j → j ≤ e → readB ⟨(l.take j).toArray⟩ = none) : longC l e = some (c, k) := by
  induction e with
  | zero => omega
  | succ e ih =>
    unfold longC
    by_cases ek : k = e + 1
    · subst ek; rw [hr]
    · rw [hn (e + 1) (by omega) (Nat.le_refl _)]
      exact ih (by omega) (fun j h1 h2 => hn j h1 (by omega))
theorem longC_no {l : List UInt8} {e : Nat} (hn : ∀ j, 0 < j → j ≤ e → readB ⟨(l.take j).toArray⟩ = none) : longC l e = none := by
  induction e with
  | zero => rfl
  | succ e ih =>
    unfold longC
    rw [hn (e + 1) (by omega) (Nat.le_refl _)]
    exact ih (fun j h1 h2 => hn j h1 (by omega))
/-- The bytes of a right cell's text. -/
def cellByte (c : UInt8) : Bool := isDig c || (decide (c = 45) || (decide (c = 39) || letB c))
theorem l4T_bytes {k n : Int} {t : ByteArray} (h : okB k n t = true) : (l4T k n t.data.toList).all cellByte = true := by
  rcases okB_kind h with rfl | rfl | rfl | rfl
  · rw [l4T_0]; decide
  · rw [l4T_1]
    have key : ∀ u, (Lib.decDigits u).all cellByte = true := by
      intro u
      obtain ⟨_, p, _⟩ := decDigits_plain u
      refine List.all_eq_true.2 (fun c hc => ?_)
      unfold cellByte
      rw [p.2.1 c hc, Bool.true_or]
    by_cases hn : n < 0
    · rw [itoa_neg n hn, List.all_cons, key]; decide
    · rw [itoa_nonneg n (by omega)]; exact key _
  · obtain ⟨_, ht⟩ := okB_2 h
    rw [l4T_2, List.all_cons, List.all_append]
    unfold textB at ht
    rw [Bool.and_eq_true] at ht
    have : t.data.toList.all cellByte = true := by
      refine List.all_eq_true.2 (fun c hc => ?_)
      have := List.all_eq_true.1 ht.1 c hc
      unfold cellByte
      rw [show letB c = true from this]
      simp
    rw [this]; decide
  · obtain ⟨hn, _⟩ := okB_3 h
    rcases hn with rfl | rfl
    · rw [l4T_30]; decide
    · rw [l4T_31]; decide
/-- Nothing that has another byte is read as a cell. -/
theorem readB_other {l : List UInt8} {b : UInt8} (hb : cellByte b = false) (h : b ∈ l) : readB ⟨l.toArray⟩ = none := by
  cases hr : readB ⟨l.toArray⟩ with
  | none => rfl
  | some c =>
    obtain ⟨k, n, t⟩ := c
    obtain ⟨ho, e⟩ := readB_some hr
    have e' := cellT_ok ho
    rw [e] at e'
    have h2 := l4T_bytes ho
    rw [← e'] at h2
    have := List.all_eq_true.1 h2 b h
    rw [hb] at this
    cases this
theorem readB_blank {l : List UInt8} (h : (32 : UInt8) ∈ l) : readB ⟨l.toArray⟩ = none := readB_other (by decide) h
theorem readB_cell {c : CK} (h : okC c = true) : readB ⟨(textC c).toArray⟩ = some c := by
  obtain ⟨k, n, t⟩ := c
  have := readB_text (k := k) (n := n) (t := t) h
  unfold cellT at this
  rw [if_pos (show okB k n t = true from h)] at this
  exact this
/-- The head of what is read as a cell. -/
theorem readB_head {l : List UInt8} {c : CK} (h : readB ⟨l.toArray⟩ = some c) : l = wNone ∨ l = wYes ∨ l = wNo ∨ ∃ b r, l = b :: r ∧ (isDig b = true ∨ b = 45 ∨ b = 39) := by
  obtain ⟨k, n, t⟩ := c
  obtain ⟨ho, e⟩ := readB_some h
  have e' := cellT_ok ho
  rw [e] at e'
  change l = _ at e'
  rcases okB_kind ho with rfl | rfl | rfl | rfl
  · exact .inl e'
  · obtain ⟨b, r, hb, hx⟩ := itoa_head n
    refine .inr (.inr (.inr ⟨b, r, by rw [e', l4T_1, hb], ?_⟩))
    rcases hx with hx | hx
    · exact .inl hx
    · exact .inr (.inl hx)
  · exact .inr (.inr (.inr ⟨39, _, by rw [e', l4T_2], .inr (.inr rfl)⟩))
  · obtain ⟨hn, _⟩ := okB_3 ho
    rcases hn with rfl | rfl
    · exact .inr (.inr (.inl (by rw [e', l4T_30])))
    · exact .inr (.inl (by rw [e', l4T_31]))
theorem wordT_ok {w : ByteArray} {t : TT} (h : wordT w = some t) : tokB t = true ∧ tokT t = w.data.toList := by
  unfold wordT at h
  cases hr : readB w with
  | some c =>
    rw [hr] at h
    simp only [Option.some.injEq] at h
    subst h
    obtain ⟨k, n, x⟩ := c
    obtain ⟨ho, e⟩ := readB_some hr
    refine ⟨?_, ?_⟩
    · rw [tokB_2]
      simp only [okC, ho, Bool.true_and, decide_true]
    · have := cellT_ok ho
      rw [e] at this
      rw [tokT_2]
      exact this.symm
  | none =>
    rw [hr] at h
    simp only [] at h
    split at h
    · rename_i hs
      simp only [Option.some.injEq] at h
      subst h
      refine ⟨?_, tokT_3 _ _⟩
      rw [tokB_3]
      simp only [hs, Bool.true_and, decide_true]
    · split at h
      · rename_i hs
        simp only [Option.some.injEq] at h
        subst h
        refine ⟨?_, tokT_1 _ _⟩
        rw [tokB_1]
        simp only [hs, Bool.true_and, decide_true]
      · cases h
/-- What begins there is right, and it is what stands there. -/
theorem nextT_ok {l : List UInt8} {t : TT} {e : Nat} (hl : l ≠ []) (h : nextT l = some (t, e)) : tokB t = true ∧ 0 < e ∧ e ≤ l.length ∧ tokT t = l.take e := by
  unfold nextT at h
  split at h
  · rename_i hr
    cases hw : wordT ⟨(l.take (runL l)).toArray⟩ with
    | none => rw [hw] at h; cases h
    | some u =>
      rw [hw] at h
      simp only [Option.map_some, Option.some.injEq, Prod.mk.injEq] at h
      obtain ⟨rfl, rfl⟩ := h
      obtain ⟨h1, h2⟩ := wordT_ok hw
      exact ⟨h1, hr, runL_le l, h2⟩
  · cases hc : longC l (min 14 l.length) with
    | some p =>
      obtain ⟨c, k⟩ := p
      rw [hc] at h
      simp only [Option.some.injEq, Prod.mk.injEq] at h
      obtain ⟨rfl, rfl⟩ := h
      obtain ⟨h1, h2, h3, _⟩ := longC_some hc
      obtain ⟨a, n, x⟩ := c
      obtain ⟨ho, e1⟩ := readB_some h3
      refine ⟨?_, h1, by omega, ?_⟩
      · rw [tokB_2]
        simp only [okC, ho, Bool.true_and, decide_true]
      · have := cellT_ok ho
        rw [e1] at this
        rw [tokT_2]
        exact this.symm
    | none =>
      rw [hc] at h
      simp only [] at h
      split at h
      · rename_i hs
        simp only [Option.some.injEq, Prod.mk.injEq] at h
        obtain ⟨rfl, rfl⟩ := h
        refine ⟨?_, by omega, ?_, tokT_3 _ _⟩
        · rw [tokB_3]
          simp only [hs, Bool.true_and, decide_true]
        · cases l with
          | nil => exact absurd rfl hl
          | cons c l => simp
      · cases h
/-- What is read is right. -/
theorem toksF_ok : ∀ {n : Nat} {l : List UInt8} {ts : List TT}, toksF n l = some ts → ts.all tokB = true
  | _, [], ts, h => by
    simp only [toksF, Option.some.injEq] at h
    subst h; rfl
  | 0, c :: l, ts, h => by simp [toksF] at h
  | n + 1, c :: l, ts, h => by
    unfold toksF at h
    split at h
    · exact toksF_ok h
    · cases hn : nextT (c :: l) with
      | none => rw [hn] at h; cases h
      | some p =>
        obtain ⟨t, e⟩ := p
        rw [hn] at h
        simp only [] at h
        cases hr : toksF n ((c :: l).drop e) with
        | none => rw [hr] at h; cases h
        | some us =>
          rw [hr] at h
          simp only [Option.map_some, Option.some.injEq] at h
          subst h
          rw [List.all_cons, (nextT_ok (by simp) hn).1, toksF_ok hr]; rfl
/-- More steps say the same. -/
theorem toksF_more : ∀ {n m : Nat} {l : List UInt8}, l.length ≤ n → l.length ≤ m → toksF n l = toksF m l
  | _, _, [], _, _ => by simp [toksF]
  | 0, _, c :: l, h, _ => by simp at h
  | _, 0, c :: l, _, h => by simp at h
  | n + 1, m + 1, c :: l, h1, h2 => by
    simp only [List.length_cons] at h1 h2
    unfold toksF
    split
    · exact toksF_more (by omega) (by omega)
    · cases hn : nextT (c :: l) with
      | none => rfl
      | some p =>
        obtain ⟨t, e⟩ := p
        obtain ⟨_, he, _, _⟩ := nextT_ok (by simp) hn
        simp only []
        rw [toksF_more (n := n) (m := m) (by simp; omega) (by simp; omega)]

/-- Ahead of nothing, of a blank or of a parenthesis that ends. -/
def Ends (r : List UInt8) : Prop := r = [] ∨ ∃ b x, r = b :: x ∧ (b = 32 ∨ b = 41)
theorem Ends.blank (x : List UInt8) : Ends (32 :: x) := .inr ⟨32, x, rfl, .inl rfl⟩
theorem Ends.paren (x : List UInt8) : Ends (41 :: x) := .inr ⟨41, x, rfl, .inr rfl⟩
theorem runL_word {w r : List UInt8} (hw : w.all letB = true) (hr : Ends r) : runL (w ++ r) = w.length := by
  unfold runL
  have h0 : r.takeWhile letB = [] := by
    rcases hr with rfl | ⟨b, x, rfl, rfl | rfl⟩
    · rfl
    · rw [List.takeWhile_cons_of_neg (by decide)]
    · rw [List.takeWhile_cons_of_neg (by decide)]
  rw [List.takeWhile_append_of_pos (fun a ha => List.all_eq_true.1 hw a ha), h0, List.append_nil]
theorem runL_no {c : UInt8} {r : List UInt8} (hc : letB c = false) : runL (c :: r) = 0 := by
  unfold runL
  rw [List.takeWhile_cons_of_neg (by rw [hc]; decide)]; rfl
theorem letB_dig {c : UInt8} (h : isDig c = true) : letB c = false := by
  unfold isDig at h
  unfold letB
  simp only [Bool.and_eq_true, decide_eq_true_eq] at h
  rw [decide_eq_false (by omega)]; rfl
theorem take_blank {w r : List UInt8} (hr : Ends r) {j : Nat} (h1 : w.length < j) (h2 : j ≤ (w ++ r).length) : ∃ b, cellByte b = false ∧ b ∈ (w ++ r).take j := by
  rcases hr with rfl | ⟨b, x, rfl, hb⟩
  · rw [List.append_nil] at h2; omega
  · refine ⟨b, by rcases hb with rfl | rfl <;> decide, ?_⟩
    rw [List.take_append]
    refine List.mem_append.2 (.inr ?_)
    obtain ⟨m, hm⟩ : ∃ m, j - w.length = m + 1 := ⟨j - w.length - 1, by omega⟩
    rw [hm, List.take_succ_cons]; simp
theorem take_word (w r : List UInt8) : (w ++ r).take w.length = w := by simp
/-- A cell that is no word is read from its text, ahead of a blank. -/
theorem next_cell {c : CK} {r : List UInt8} (hc : okC c = true) (hr : Ends r) (hh : ∃ b x, textC c = b :: x ∧ letB b = false) : nextT (textC c ++ r) = some ((2, ⟨#[]⟩, c), (textC c).length) := by
  obtain ⟨b, x, hb, hl⟩ := hh
  have hlen : (textC c).length ≤ 14 := by obtain ⟨k, n, t⟩ := c; exact l4T_len hc
  have hpos : 0 < (textC c).length := by rw [hb]; simp
  have h0 : runL (textC c ++ r) = 0 := by rw [hb, List.cons_append]; exact runL_no hl
  unfold nextT
  rw [if_neg (by omega)]
  have : longC (textC c ++ r) (min 14 (textC c ++ r).length) = some (c, (textC c).length) := by
    refine longC_at hpos (by rw [List.length_append]; omega) (by rw [take_word]; exact readB_cell hc) (fun j h1 h2 => by obtain ⟨b, h3, h4⟩ := take_blank hr h1 (by omega); exact readB_other h3 h4)
  rw [this]
theorem next_word {w : List UInt8} {t : TT} {r : List UInt8} (hw : w.all letB = true) (h0 : w ≠ []) (hr : Ends r) (ht : wordT ⟨w.toArray⟩ = some t) : nextT (w ++ r) = some (t, w.length) := by
  have hl := runL_word hw hr
  have hpos : 0 < w.length := List.length_pos_iff.2 h0
  unfold nextT
  rw [hl, if_pos hpos, take_word, ht]; rfl
theorem next_sign {b : UInt8} {r : List UInt8} (hb : inB signO ⟨#[b]⟩ = true) (hr : Ends r) : nextT (b :: r) = some ((3, ⟨#[b]⟩, zeroC), 1) := by
  have hm := inB_iff.1 hb
  have hx : b = 43 ∨ b = 45 ∨ b = 42 ∨ b = 47 ∨ b = 61 ∨ b = 60 ∨ b = 40 ∨ b = 41 := by
    simp only [signO, List.mem_cons, List.not_mem_nil, or_false, ByteArray.mk.injEq, Array.mk.injEq, List.cons.injEq, and_true] at hm
    exact hm
  have hl : letB b = false := by rcases hx with rfl | rfl | rfl | rfl | rfl | rfl | rfl | rfl <;> decide
  have h1 : readB ⟨#[b]⟩ = none := by rcases hx with rfl | rfl | rfl | rfl | rfl | rfl | rfl | rfl <;> decide +kernel
  unfold nextT
  rw [runL_no hl, if_neg (by omega)]
  have : longC (b :: r) (min 14 (b :: r).length) = none := by
    refine longC_no (fun j h2 h3 => ?_)
    by_cases ej : j = 1
    · subst ej; exact h1
    · obtain ⟨c, h4, h5⟩ := take_blank (w := [b]) (r := r) hr (j := j) (by simp; omega) (by simp at h3 ⊢; omega)
      exact readB_other h4 h5
  rw [this]
  simp only []
  rw [if_pos (show signB ⟨((b :: r).take 1).toArray⟩ = true from by unfold signB; rw [show ((b :: r).take 1).toArray = #[b] from rfl, hb, Bool.or_true])]
  rfl
/-- A parenthesis that begins is read whatever follows. -/
theorem next_paren (r : List UInt8) : nextT (40 :: r) = some ((3, ⟨#[40]⟩, zeroC), 1) := by
  unfold nextT
  rw [runL_no (by decide), if_neg (by omega)]
  have : longC (40 :: r) (min 14 (40 :: r).length) = none := by
    refine longC_no (fun j h2 h3 => ?_)
    refine readB_other (b := 40) (by decide) ?_
    obtain ⟨m, rfl⟩ : ∃ m, j = m + 1 := ⟨j - 1, by omega⟩
    rw [List.take_succ_cons]; simp
  rw [this]
  rfl
/-- A right token is read from its text, ahead of a blank. -/
theorem next_tok {t : TT} {r : List UInt8} (ht : tokB t = true) (hr : Ends r) : nextT (tokT t ++ r) = some (t, (tokT t).length) := by
  rcases tokB_kind ht with ⟨s, rfl, hn⟩ | ⟨c, rfl, hc⟩ | ⟨s, rfl, hs⟩
  · have hn0 := hn
    unfold nameK nameB at hn
    simp only [Bool.and_eq_true, Bool.not_eq_true', decide_eq_true_eq] at hn
    obtain ⟨⟨h1, h2, h3⟩, h4, h5, h6, h7⟩ := hn
    rw [tokT_1]
    have hne : s.data.toList ≠ [] := fun e0 => h1 (bytes_ext (by rw [e0]))
    refine next_word h2 hne hr ?_
    have hrd : readB ⟨s.data.toList.toArray⟩ = none := by
      cases hq : readB ⟨s.data.toList.toArray⟩ with
      | none => rfl
      | some d =>
        exfalso
        rcases readB_head hq with q | q | q | ⟨b, x, q, hb⟩
        · exact h5 q
        · exact h6 q
        · exact h7 q
        · have hl : letB b = true := List.all_eq_true.1 h2 b (by rw [q]; simp)
          rcases hb with hb | rfl | rfl
          · rw [letB_dig hb] at hl; cases hl
          · exact absurd hl (by decide)
          · exact absurd hl (by decide)
    have hs1 : signB s = false := by
      unfold signB
      rw [h4, Bool.false_or]
      cases hq : inB signO s with
      | false => rfl
      | true =>
        exfalso
        have hm := inB_iff.1 hq
        have hall := List.all_eq_true.1 h2
        simp only [signO, List.mem_cons, List.not_mem_nil, or_false] at hm
        rcases hm with rfl | rfl | rfl | rfl | rfl | rfl | rfl | rfl <;> exact absurd (hall _ (List.mem_cons_self ..)) (by decide)
    have es : (⟨s.data.toList.toArray⟩ : ByteArray) = s := rfl
    unfold wordT
    rw [hrd]
    simp only []
    rw [es, hs1, if_neg (by decide), if_pos hn0]
  · rw [tokT_2]
    rcases readB_head (readB_cell hc) with q | q | q | ⟨b, x, q, hb⟩
    · refine next_word (by rw [q]; decide) (by rw [q]; decide) hr ?_
      unfold wordT; rw [readB_cell hc]
    · refine next_word (by rw [q]; decide) (by rw [q]; decide) hr ?_
      unfold wordT; rw [readB_cell hc]
    · refine next_word (by rw [q]; decide) (by rw [q]; decide) hr ?_
      unfold wordT; rw [readB_cell hc]
    · refine next_cell hc hr ⟨b, x, q, ?_⟩
      rcases hb with hb | rfl | rfl
      · exact letB_dig hb
      · decide
      · decide
  · rw [tokT_3]
    unfold signB at hs
    rw [Bool.or_eq_true] at hs
    rcases hs with hs | hs
    · have hm := inB_iff.1 hs
      simp only [signW, List.mem_cons, List.not_mem_nil, or_false] at hm
      rcases hm with rfl | rfl | rfl | rfl
      all_goals exact next_word (by decide) (by decide) hr (by decide +kernel)
    · have hm := inB_iff.1 hs
      simp only [signO, List.mem_cons, List.not_mem_nil, or_false] at hm
      rcases hm with rfl | rfl | rfl | rfl | rfl | rfl | rfl | rfl
      all_goals exact next_sign hs hr
/-- The text of a right token is not empty, and has no blank. -/
theorem tokT_some {t : TT} (ht : tokB t = true) : tokT t ≠ [] ∧ (32 : UInt8) ∉ tokT t := by
  rcases tokB_kind ht with ⟨s, rfl, hn⟩ | ⟨c, rfl, hc⟩ | ⟨s, rfl, hs⟩
  · unfold nameK nameB at hn
    simp only [Bool.and_eq_true, Bool.not_eq_true', decide_eq_true_eq] at hn
    obtain ⟨⟨h1, h2, h3⟩, _⟩ := hn
    rw [tokT_1]
    refine ⟨fun e0 => h1 (bytes_ext (by rw [e0])), fun hm => ?_⟩
    exact absurd (List.all_eq_true.1 h2 32 hm) (by decide)
  · rw [tokT_2]
    obtain ⟨k, n, x⟩ := c
    exact l4T_some hc
  · rw [tokT_3]
    unfold signB at hs
    rw [Bool.or_eq_true] at hs
    rcases hs with hs | hs
    · have hm := inB_iff.1 hs
      simp only [signW, List.mem_cons, List.not_mem_nil, or_false] at hm
      rcases hm with rfl | rfl | rfl | rfl <;> decide
    · have hm := inB_iff.1 hs
      simp only [signO, List.mem_cons, List.not_mem_nil, or_false] at hm
      rcases hm with rfl | rfl | rfl | rfl | rfl | rfl | rfl | rfl <;> decide
theorem tokT_head {t : TT} (ht : tokB t = true) : ∃ b x, tokT t = b :: x ∧ b ≠ 32 := by
  obtain ⟨h1, h2⟩ := tokT_some ht
  cases hq : tokT t with
  | nil => exact absurd hq h1
  | cons b x => exact ⟨b, x, rfl, fun e => h2 (by rw [hq, e]; simp)⟩
/-- Tokens are read from their text. -/
theorem toksF_text : ∀ (ts : List TT) (n : Nat), ts.all tokB = true → (Lib.join (ts.map tokT) [32]).length ≤ n → toksF n (Lib.join (ts.map tokT) [32]) = some ts
  | [], n, _, _ => by rw [show Lib.join (List.map tokT []) [32] = [] from rfl]; simp [toksF]
  | [t], n, h, hn => by
    have ht : tokB t = true := by rw [List.all_cons, Bool.and_eq_true] at h; exact h.1
    obtain ⟨b, x, hb, h32⟩ := tokT_head ht
    have hj : Lib.join (List.map tokT [t]) [32] = tokT t := by simp [Lib.join]
    have hx := next_tok ht (r := []) (.inl rfl)
    rw [List.append_nil] at hx
    rw [hj] at hn ⊢
    rw [hb] at hn hx ⊢
    obtain ⟨m, rfl⟩ : ∃ m, n = m + 1 := ⟨n - 1, by simp at hn; omega⟩
    unfold toksF
    rw [if_neg h32, hx]
    simp [toksF]
  | t :: u :: ts, n, h, hn => by
    have ht : tokB t = true := by rw [List.all_cons, Bool.and_eq_true] at h; exact h.1
    have hrest : (u :: ts).all tokB = true := by rw [List.all_cons, Bool.and_eq_true] at h; exact h.2
    obtain ⟨b, x, hb, h32⟩ := tokT_head ht
    have hj : Lib.join (List.map tokT (t :: u :: ts)) [32] = tokT t ++ (32 :: Lib.join (List.map tokT (u :: ts)) [32]) := by simp [Lib.join]
    rw [hj] at hn ⊢
    have hx := next_tok ht (r := 32 :: Lib.join (List.map tokT (u :: ts)) [32]) (Ends.blank _)
    have ih := fun m hm => toksF_text (u :: ts) m hrest hm
    generalize Lib.join (List.map tokT (u :: ts)) [32] = R at hn hx ih ⊢
    rw [hb] at hn hx ⊢
    obtain ⟨m, rfl⟩ : ∃ m, n = m + 1 + 1 := ⟨n - 2, by simp at hn; omega⟩
    rw [List.cons_append] at hx ⊢
    unfold toksF
    rw [if_neg h32, hx]
    simp only []
    rw [show ((b :: (x ++ 32 :: R)).drop (b :: x).length) = 32 :: R by simp]
    unfold toksF
    rw [if_pos rfl, ih m (by simp at hn; omega)]
    rfl
theorem toksB_text (ts : List TT) (h : ts.all tokB = true) (hs : (toksT ts).size ≤ 2000) : toksB (toksT ts) = some ts := by
  unfold toksB
  rw [if_pos hs]
  unfold toksT at hs ⊢
  rw [if_pos h] at hs ⊢
  exact toksF_text ts _ h (by rw [Lib.size_eq]; exact Nat.le_refl _)
theorem toksB_ok {s : ByteArray} {ts : List TT} (h : toksB s = some ts) : ts.all tokB = true := by
  unfold toksB at h
  split at h
  · exact toksF_ok h
  · cases h
end Go.Proofs.YtgiknjlifocioaaDoor
