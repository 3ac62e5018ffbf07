/-
  The longest piece that begins at a place of a text, without any program: what the program cuts off is just what a token is read from.
-/
import Derived.Test.YtgiknjlifocioaaDoorTokMath
namespace Go.Proofs.YtgiknjlifocioaaDoor

/-- How many digits go on behind the number v. -/
def numL (v : Nat) : List UInt8 → Nat
  | [] => 0
  | c :: l => if isDig c = true ∧ v * 10 + (c.toNat - 48) ≤ 1000000000 then numL (v * 10 + (c.toNat - 48)) l + 1 else 0
def firstD (c : UInt8) : Bool := isDig c && decide (c.toNat ≠ 48)
def blankL (l : List UInt8) : Nat := (l.takeWhile (fun c => decide (c.toNat = 32))).length
/-- The same behind the sign -. -/
def minusL : List UInt8 → Nat
  | d :: r => if firstD d = true then numL (d.toNat - 48) r + 2 else 1
  | [] => 1
def pieceC (c : UInt8) (l : List UInt8) : Nat :=
  if c.toNat = 32 then blankL l + 1
  else if letB c = true then runL l + 1
  else if c.toNat = 39 then (if (l.drop (runL l)).head? = some 39 then runL l + 2 else runL l + 1)
  else if c.toNat = 45 then minusL l
  else if firstD c = true then numL (c.toNat - 48) l + 1
  else 1
/-- How long the piece is that begins there. -/
def pieceL : List UInt8 → Nat
  | [] => 0
  | c :: l => pieceC c l
theorem pieceL_cons (c : UInt8) (l : List UInt8) : pieceL (c :: l) = pieceC c l := rfl
theorem minusL_yes {d : UInt8} {r : List UInt8} (h : firstD d = true) : minusL (d :: r) = numL (d.toNat - 48) r + 2 := if_pos h
theorem minusL_no {l : List UInt8} (h : ¬ ∃ d r, l = d :: r ∧ firstD d = true) : minusL l = 1 := by
  cases l with
  | nil => rfl
  | cons d r => exact if_neg (fun h' => h ⟨d, r, rfl, h'⟩)
theorem minusL_pos (l : List UInt8) : 0 < minusL l := by
  unfold minusL
  split
  · split <;> omega
  · omega

theorem numL_le (v : Nat) (l : List UInt8) : numL v l ≤ l.length := by
  induction l generalizing v with
  | nil => exact Nat.le_refl _
  | cons c l ih =>
    unfold numL
    split
    · have := ih (v * 10 + (c.toNat - 48)); simp; omega
    · exact Nat.zero_le _
theorem numL_dig (v : Nat) (l : List UInt8) : ∀ c ∈ l.take (numL v l), isDig c = true := by
  induction l generalizing v with
  | nil => intro c hc; simp at hc
  | cons c l ih =>
    unfold numL
    split
    · rename_i h
      intro x hx
      rw [List.take_succ_cons] at hx
      rcases List.mem_cons.1 hx with rfl | hx
      · exact h.1
      · exact ih _ x hx
    · intro x hx; simp at hx
theorem numL_val (v : Nat) (l : List UInt8) (hv : v ≤ 1000000000) : valFrom v (l.take (numL v l)) ≤ 1000000000 := by
  induction l generalizing v with
  | nil => exact hv
  | cons c l ih =>
    unfold numL
    split
    · rename_i h
      rw [List.take_succ_cons]
      exact ih _ h.2
    · exact hv
theorem numL_stop (v : Nat) (l : List UInt8) (h : numL v l < l.length) : isDig (l[numL v l]) = false ∨ 1000000000 < valFrom v (l.take (numL v l + 1)) := by
  induction l generalizing v with
  | nil => simp at h
  | cons c l ih =>
    by_cases hc : isDig c = true ∧ v * 10 + (c.toNat - 48) ≤ 1000000000
    · have e : numL v (c :: l) = numL (v * 10 + (c.toNat - 48)) l + 1 := by rw [numL, if_pos hc]
      simp only [e, List.getElem_cons_succ, List.take_succ_cons]
      exact ih _ (by rw [e] at h; simp at h; omega)
    · have e : numL v (c :: l) = 0 := by rw [numL, if_neg hc]
      simp only [e, List.getElem_cons_zero]
      by_cases hd : isDig c = true
      · right
        show 1000000000 < valFrom v [c]
        rw [valFrom_one]
        exact Nat.lt_of_not_le fun h' => hc ⟨hd, h'⟩
      · left
        cases hx : isDig c with
        | true => exact absurd hx hd
        | false => rfl
theorem firstD_dig {c : UInt8} (h : firstD c = true) : isDig c = true ∧ c ≠ 48 ∧ 49 ≤ c.toNat ∧ c.toNat ≤ 57 := by
  unfold firstD at h
  rw [Bool.and_eq_true, decide_eq_true_eq] at h
  obtain ⟨h1, h2⟩ := h
  have h3 := h1
  unfold isDig at h3
  simp at h3
  exact ⟨h1, fun e => h2 (by rw [e]; rfl), by omega, h3.2⟩

/-- Digits that begin with none but a nought, as far as they go. -/
def numK (d : UInt8) (r : List UInt8) : Nat := numL (d.toNat - 48) r + 1
theorem numK_le (d : UInt8) (r : List UInt8) : numK d r ≤ (d :: r).length := by
  have := numL_le (d.toNat - 48) r
  unfold numK; simp; omega
theorem numK_take (d : UInt8) (r : List UInt8) : (d :: r).take (numK d r) = d :: r.take (numL (d.toNat - 48) r) := by
  unfold numK; rw [List.take_succ_cons]
theorem numK_plain {d : UInt8} {r : List UInt8} (h : firstD d = true) : Plain ((d :: r).take (numK d r)) := by
  obtain ⟨h1, h2, _⟩ := firstD_dig h
  rw [numK_take]
  refine ⟨by simp, ?_, ?_⟩
  · intro c hc
    rcases List.mem_cons.1 hc with rfl | hc
    · exact h1
    · exact numL_dig _ _ c hc
  · intro e
    simp at e
    exact absurd e h2
theorem numK_val {d : UInt8} {r : List UInt8} (h : firstD d = true) : 1 ≤ valFrom 0 ((d :: r).take (numK d r)) ∧ valFrom 0 ((d :: r).take (numK d r)) ≤ 1000000000 := by
  obtain ⟨_, _, h3, h4⟩ := firstD_dig h
  rw [numK_take]
  show 1 ≤ valFrom (0 * 10 + (d.toNat - 48)) _ ∧ valFrom (0 * 10 + (d.toNat - 48)) _ ≤ _
  rw [show 0 * 10 + (d.toNat - 48) = d.toNat - 48 by omega]
  exact ⟨Nat.le_trans (by omega) (valFrom_mono _ _), numL_val _ _ (by omega)⟩
/-- What goes further is no numeral that fits. -/
theorem numK_far {d : UInt8} {r : List UInt8} {j : Nat} (h1 : numK d r < j) (h2 : j ≤ (d :: r).length) (hd : ∀ c ∈ (d :: r).take j, isDig c = true) (hv : valFrom 0 ((d :: r).take j) ≤ 1000000000) : False := by
  unfold numK at h1
  obtain ⟨m, rfl⟩ : ∃ m, j = m + 1 := ⟨j - 1, by omega⟩
  simp only [List.length_cons] at h2
  have hlt : numL (d.toNat - 48) r < r.length := by omega
  rw [List.take_succ_cons] at hd hv
  rcases numL_stop _ _ hlt with hs | hs
  · have hm : r[numL (d.toNat - 48) r] ∈ r.take m := by
      rw [List.mem_iff_getElem]
      exact ⟨numL (d.toNat - 48) r, by rw [List.length_take]; omega, by rw [List.getElem_take]⟩
    rw [hd _ (List.mem_cons_of_mem _ hm)] at hs
    cases hs
  · have e : r.take m = r.take (numL (d.toNat - 48) r + 1) ++ (r.take m).drop (numL (d.toNat - 48) r + 1) := by
      have := (List.take_append_drop (numL (d.toNat - 48) r + 1) (r.take m)).symm
      rw [List.take_take, Nat.min_eq_left (by omega)] at this
      exact this
    have hv' : valFrom (0 * 10 + (d.toNat - 48)) (r.take m) ≤ 1000000000 := hv
    rw [show 0 * 10 + (d.toNat - 48) = d.toNat - 48 by omega, e, valFrom_append] at hv'
    have := valFrom_mono ((r.take m).drop (numL (d.toNat - 48) r + 1)) (valFrom (d.toNat - 48) (r.take (numL (d.toNat - 48) r + 1)))
    omega

theorem readB_itoa {n : Int} (h : numB n = true) : readB ⟨(Lib.itoa n).toArray⟩ = some (1, n, ⟨#[]⟩) :=
  readB_cell (c := (1, n, ⟨#[]⟩)) (okB_1'.trans h)
/-- What is read of a text that begins neither with a letter nor with the sign ' is a numeral. -/
theorem readB_num {b : UInt8} {r : List UInt8} {c : CK} (hl : letB b = false) (hq : b.toNat ≠ 39) (h : readB ⟨(b :: r).toArray⟩ = some c) : ∃ n, numB n = true ∧ c = (1, n, ⟨#[]⟩) ∧ b :: r = Lib.itoa n := by
  obtain ⟨k, n, t⟩ := c
  obtain ⟨ho, e⟩ := readB_some h
  have e' := cellT_ok ho
  rw [e] at e'
  change b :: r = _ at e'
  rcases okB_kind ho with rfl | rfl | rfl | rfl
  · rw [l4T_0] at e'
    injection e' with e1 _
    rw [e1] at hl; exact absurd hl (by decide)
  · obtain ⟨hn, rfl⟩ := okB_1 ho
    exact ⟨n, hn, rfl, e'⟩
  · rw [l4T_2] at e'
    injection e' with e1 _
    rw [e1] at hq; exact absurd rfl hq
  · obtain ⟨hn, _⟩ := okB_3 ho
    rcases hn with rfl | rfl
    · rw [l4T_30] at e'
      injection e' with e1 _
      rw [e1] at hl; exact absurd hl (by decide)
    · rw [l4T_31] at e'
      injection e' with e1 _
      rw [e1] at hl; exact absurd hl (by decide)
theorem itoa_dig {n : Int} {b : UInt8} {r : List UInt8} (hb : b.toNat ≠ 45) (h : b :: r = Lib.itoa n) : 0 ≤ n ∧ Plain (b :: r) ∧ valFrom 0 (b :: r) = n.toNat := by
  by_cases hn : n < 0
  · rw [itoa_neg n hn] at h
    injection h with e1 _
    rw [e1] at hb; exact absurd rfl hb
  · rw [itoa_nonneg n (by omega)] at h
    obtain ⟨h1, h2, _⟩ := decDigits_plain n.toNat
    rw [← h] at h1 h2
    exact ⟨by omega, h2, h1⟩
theorem itoa_minus {n : Int} {r : List UInt8} (h : 45 :: r = Lib.itoa n) : n < 0 ∧ Plain r ∧ valFrom 0 r = n.natAbs := by
  by_cases hn : n < 0
  · rw [itoa_neg n hn] at h
    injection h with _ e2
    obtain ⟨h1, h2, _⟩ := decDigits_plain n.natAbs
    rw [← e2] at h1 h2
    exact ⟨hn, h2, h1⟩
  · exfalso
    rw [itoa_nonneg n (by omega)] at h
    obtain ⟨_, h2, _⟩ := decDigits_plain n.toNat
    rw [← h] at h2
    exact absurd (h2.2.1 45 (by simp)) (by decide)
theorem plain_itoa {l : List UInt8} (h : Plain l) : Lib.itoa (valFrom 0 l : Int) = l := by
  rw [itoa_nonneg _ (by omega)]
  rw [show ((valFrom 0 l : Nat) : Int).toNat = valFrom 0 l by omega]
  exact decDigits_val _ l rfl h
theorem plain_minus {l : List UInt8} (h : Plain l) (h1 : 1 ≤ valFrom 0 l) : Lib.itoa (-(valFrom 0 l : Int)) = 45 :: l := by
  rw [itoa_neg _ (by omega)]
  rw [show (-((valFrom 0 l : Nat) : Int)).natAbs = valFrom 0 l by omega]
  rw [decDigits_val _ l rfl h]

theorem nameK_head {b : UInt8} {r : List UInt8} (hl : letB b = false) : nameK ⟨(b :: r).toArray⟩ = false := by
  cases h : nameK ⟨(b :: r).toArray⟩ with
  | false => rfl
  | true =>
    exfalso
    unfold nameK nameB at h
    simp only [Bool.and_eq_true, Bool.not_eq_true', decide_eq_true_eq] at h
    obtain ⟨⟨_, h2, _⟩, _⟩ := h
    have := List.all_eq_true.1 h2 b (by simp)
    rw [show letB b = true from this] at hl
    cases hl
theorem signB_two {b : UInt8} {r : List UInt8} (hl : letB b = false) (hr : r ≠ []) : signB ⟨(b :: r).toArray⟩ = false := by
  cases h : signB ⟨(b :: r).toArray⟩ with
  | false => rfl
  | true =>
    exfalso
    unfold signB at h
    rw [Bool.or_eq_true] at h
    rcases h with h | h
    · have hm := inB_iff.1 h
      simp only [signW, List.mem_cons, List.not_mem_nil, or_false, ByteArray.mk.injEq, Array.mk.injEq, List.cons.injEq] at hm
      rcases hm with ⟨rfl, _⟩ | ⟨rfl, _⟩ | ⟨rfl, _⟩ | ⟨rfl, _⟩ <;> exact absurd hl (by decide)
    · have hm := inB_iff.1 h
      simp only [signO, List.mem_cons, List.not_mem_nil, or_false, ByteArray.mk.injEq, Array.mk.injEq, List.cons.injEq] at hm
      rcases hm with ⟨_, e⟩ | ⟨_, e⟩ | ⟨_, e⟩ | ⟨_, e⟩ | ⟨_, e⟩ | ⟨_, e⟩ | ⟨_, e⟩ | ⟨_, e⟩ <;> exact hr e
theorem signB_quote (r : List UInt8) : signB ⟨(39 :: r).toArray⟩ = false := by
  cases r with
  | nil => decide +kernel
  | cons c r => exact signB_two (by decide) (by simp)

theorem wordT_cell {w : ByteArray} {c : CK} (h : readB w = some c) : wordT w = some (2, ⟨#[]⟩, c) := by unfold wordT; rw [h]
theorem wordT_sign {w : ByteArray} (h : readB w = none) (hs : signB w = true) : wordT w = some (3, w, zeroC) := by unfold wordT; rw [h]; simp only []; rw [if_pos hs]
theorem wordT_none {w : ByteArray} (h : readB w = none) (hs : signB w = false) (hn : nameK w = false) : wordT w = none := by
  unfold wordT; rw [h]; simp only []; rw [if_neg (by rw [hs]; decide), if_neg (by rw [hn]; decide)]
theorem nextT_cell {b : UInt8} {l : List UInt8} {c : CK} {k : Nat} (hl : letB b = false) (h : longC (b :: l) (min 14 (b :: l).length) = some (c, k)) : nextT (b :: l) = some ((2, ⟨#[]⟩, c), k) := by
  unfold nextT; rw [runL_no hl, if_neg (by omega), h]
theorem nextT_sign {b : UInt8} {l : List UInt8} (hl : letB b = false) (h : longC (b :: l) (min 14 (b :: l).length) = none) : nextT (b :: l) = if signB ⟨#[b]⟩ = true then some ((3, ⟨#[b]⟩, zeroC), 1) else none := by
  unfold nextT; rw [runL_no hl, if_neg (by omega), h]; rfl

/-- One byte alone, where nothing longer is a cell. -/
theorem next_one {b : UInt8} {l : List UInt8} (hl : letB b = false) (hn : ∀ j, 0 < j → j ≤ (b :: l).length → readB ⟨((b :: l).take j).toArray⟩ = none) : nextT (b :: l) = (wordT ⟨((b :: l).take 1).toArray⟩).map (fun t => (t, 1)) := by
  rw [nextT_sign hl (longC_no (fun j h1 h2 => hn j h1 (by omega)))]
  have h1 : readB ⟨#[b]⟩ = none := hn 1 (by omega) (by simp)
  show _ = (wordT ⟨#[b]⟩).map _
  cases hs : signB ⟨#[b]⟩ with
  | true => rw [wordT_sign h1 hs]; rfl
  | false => rw [wordT_none h1 hs (nameK_head (r := []) hl)]; rfl
/-- A cell, where that is the longest one. -/
theorem next_long {b : UInt8} {l : List UInt8} {c : CK} {k : Nat} (hl : letB b = false) (h0 : 0 < k) (hk : k ≤ (b :: l).length) (hr : readB ⟨((b :: l).take k).toArray⟩ = some c) (hn : ∀ j, k < j → j ≤ (b :: l).length → readB ⟨((b :: l).take j).toArray⟩ = none) :
    nextT (b :: l) = (wordT ⟨((b :: l).take k).toArray⟩).map (fun t => (t, k)) := by
  have h14 : k ≤ 14 := by
    obtain ⟨x, y, z⟩ := c
    obtain ⟨ho, e⟩ := readB_some hr
    have e' := cellT_ok ho
    rw [e] at e'
    have := l4T_len ho
    rw [← e', bytes_mk, List.length_take] at this
    omega
  rw [nextT_cell hl (longC_at h0 (by omega) hr (fun j h1 h2 => hn j h1 (by omega))), wordT_cell hr]
  rfl

theorem takeWhile_quote {t r : List UInt8} (ht : t.all letB = true) : (t ++ 39 :: r).takeWhile letB = t := by
  rw [List.takeWhile_append_of_pos (fun a ha => List.all_eq_true.1 ht a ha), List.takeWhile_cons_of_neg (by decide), List.append_nil]
theorem quote_read {l : List UInt8} {j : Nat} {c : CK} (h : readB ⟨((39 :: l).take j).toArray⟩ = some c) (hj : j ≤ (39 :: l).length) : j = runL l + 2 ∧ (l.drop (runL l)).head? = some 39 := by
  cases j with
  | zero => rw [List.take_zero] at h; rw [readB_nil] at h; cases h
  | succ j =>
    rw [List.take_succ_cons] at h
    obtain ⟨k, n, t⟩ := c
    obtain ⟨ho, e⟩ := readB_some h
    have e' := cellT_ok ho
    rw [e] at e'
    change 39 :: l.take j = _ at e'
    rcases okB_kind ho with rfl | rfl | rfl | rfl
    · rw [l4T_0] at e'; injection e' with e1 _; exact absurd e1 (by decide)
    · rw [l4T_1] at e'
      exact absurd e' (itoa_no n _ 39 rfl (by decide) (by decide))
    · obtain ⟨_, ht⟩ := okB_2 ho
      rw [l4T_2] at e'
      injection e' with _ e2
      unfold textB at ht
      rw [Bool.and_eq_true] at ht
      have hall : t.data.toList.all letB = true := ht.1
      have el : l = t.data.toList ++ 39 :: l.drop j := by
        have := (List.take_append_drop j l).symm
        rw [e2] at this
        simpa using this
      have hlen : j = t.data.toList.length + 1 := by
        have := congrArg List.length e2
        rw [List.length_take, List.length_append, List.length_singleton] at this
        simp at hj
        omega
      have hr : runL l = t.data.toList.length := by
        unfold runL
        rw [el, takeWhile_quote hall]
      refine ⟨by omega, ?_⟩
      rw [hr]
      conv => lhs; rw [el]
      rw [List.drop_left]
      rfl
    · obtain ⟨hn, _⟩ := okB_3 ho
      rcases hn with rfl | rfl
      · rw [l4T_30] at e'; injection e' with e1 _; exact absurd e1 (by decide)
      · rw [l4T_31] at e'; injection e' with e1 _; exact absurd e1 (by decide)

theorem pieceL_pos (c : UInt8) (l : List UInt8) : 0 < pieceL (c :: l) := by
  have := minusL_pos l
  rw [pieceL_cons]
  unfold pieceC
  split
  · omega
  split
  · omega
  split
  · split <;> omega
  split
  · omega
  split <;> omega
theorem runL_drop {l : List UInt8} {b : UInt8} (h : (l.drop (runL l)).head? = some b) : runL l < l.length := by
  have := runL_le l
  by_cases e : runL l = l.length
  · rw [e, List.drop_length] at h; cases h
  · omega
theorem blankL_le (l : List UInt8) : blankL l ≤ l.length := by
  unfold blankL
  exact (List.takeWhile_sublist _).length_le
theorem minusL_le (l : List UInt8) : minusL l ≤ l.length + 1 := by
  cases l with
  | nil => exact Nat.le_refl _
  | cons d r =>
    unfold minusL
    have := numL_le (d.toNat - 48) r
    simp only [List.length_cons]
    split <;> omega
theorem pieceL_le (c : UInt8) (l : List UInt8) : pieceL (c :: l) ≤ (c :: l).length := by
  have h1 := runL_le l
  have h2 := blankL_le l
  have h3 := minusL_le l
  have h4 := numL_le (c.toNat - 48) l
  rw [pieceL_cons]
  unfold pieceC
  simp only [List.length_cons]
  split
  · omega
  split
  · omega
  split
  · split
    · rename_i h
      have := runL_drop h
      omega
    · omega
  split
  · omega
  split <;> omega

theorem byteIs {c : UInt8} {n : Nat} (h : c.toNat = n) (hn : n < 256) : c = UInt8.ofNat n := by
  apply UInt8.toNat_inj.1
  rw [h, UInt8.toNat_ofNat_of_lt' (by exact hn)]
/-- The token that begins there is read from the piece that begins there. -/
theorem next_piece (c : UInt8) (l : List UInt8) (h32 : c.toNat ≠ 32) : nextT (c :: l) = (wordT ⟨((c :: l).take (pieceL (c :: l))).toArray⟩).map (fun t => (t, pieceL (c :: l))) := by
  by_cases hlet : letB c = true
  · have e : pieceL (c :: l) = runL (c :: l) := by
      rw [pieceL_cons]; unfold pieceC
      rw [if_neg h32, if_pos hlet]
      unfold runL
      rw [List.takeWhile_cons_of_pos hlet]
      rfl
    have hp := pieceL_pos c l
    rw [e] at hp ⊢
    unfold nextT
    rw [if_pos hp]
  have hl : letB c = false := by
    cases hx : letB c with
    | true => exact absurd hx hlet
    | false => rfl
  by_cases h39 : c.toNat = 39
  · obtain rfl : c = 39 := byteIs h39 (by decide)
    have e : pieceL (39 :: l) = if (l.drop (runL l)).head? = some 39 then runL l + 2 else runL l + 1 := by
      rw [pieceL_cons]; unfold pieceC
      rw [if_neg h32, if_neg hlet, if_pos h39]
    have hle := pieceL_le 39 l
    by_cases hyes : ∃ cc, readB ⟨((39 :: l).take (pieceL (39 :: l))).toArray⟩ = some cc
    · obtain ⟨cc, hcc⟩ := hyes
      refine next_long hl (pieceL_pos _ _) hle hcc (fun j h1 h2 => ?_)
      cases hr : readB ⟨((39 :: l).take j).toArray⟩ with
      | none => rfl
      | some c2 =>
        exfalso
        have := (quote_read hr h2).1
        have := (quote_read hcc hle).1
        omega
    · have hno : readB ⟨((39 :: l).take (pieceL (39 :: l))).toArray⟩ = none := by
        cases hr : readB ⟨((39 :: l).take (pieceL (39 :: l))).toArray⟩ with
        | none => rfl
        | some c2 => exact absurd ⟨c2, hr⟩ hyes
      have hall : ∀ j, 0 < j → j ≤ (39 :: l).length → readB ⟨((39 :: l).take j).toArray⟩ = none := by
        intro j h1 h2
        cases hr : readB ⟨((39 :: l).take j).toArray⟩ with
        | none => rfl
        | some c2 =>
          exfalso
          obtain ⟨hj, hh⟩ := quote_read hr h2
          rw [if_pos hh] at e
          rw [e, ← hj, hr] at hno
          cases hno
      rw [nextT_sign hl (longC_no (fun j h1 h2 => hall j h1 (by omega))), if_neg (by decide +kernel)]
      obtain ⟨m, hm⟩ : ∃ m, pieceL (39 :: l) = m + 1 := ⟨pieceL (39 :: l) - 1, by have := pieceL_pos 39 l; omega⟩
      rw [hm] at hno ⊢
      rw [List.take_succ_cons] at hno ⊢
      rw [wordT_none hno (signB_quote _) (nameK_head hl)]
      rfl
  by_cases h45 : c.toNat = 45
  · obtain rfl : c = 45 := byteIs h45 (by decide)
    by_cases hd : ∃ d r, l = d :: r ∧ firstD d = true
    · obtain ⟨d, r, rfl, hd⟩ := hd
      have e : pieceL (45 :: d :: r) = numK d r + 1 := by
        rw [pieceL_cons]; unfold pieceC
        rw [if_neg h32, if_neg hlet, if_neg h39, if_pos h45, minusL_yes hd]
        rfl
      have hpl := numK_plain (r := r) hd
      have hv := numK_val (r := r) hd
      have hk := numK_le d r
      rw [e]
      refine next_long (c := (1, -(valFrom 0 ((d :: r).take (numK d r)) : Int), ⟨#[]⟩)) hl (by omega) (by simp at hk ⊢; omega) ?_ ?_
      · rw [List.take_succ_cons, ← plain_minus hpl hv.1]
        exact readB_itoa (numB_iff.2 (by omega))
      · intro j h1 h2
        obtain ⟨m, rfl⟩ : ∃ m, j = m + 1 := ⟨j - 1, by omega⟩
        cases hr : readB ⟨((45 :: d :: r).take (m + 1)).toArray⟩ with
        | none => rfl
        | some c2 =>
          exfalso
          rw [List.take_succ_cons] at hr
          obtain ⟨n, hn, _, e2⟩ := readB_num hl h39 hr
          obtain ⟨h3, h4, h5⟩ := itoa_minus e2
          have hb := numB_iff.1 hn
          exact numK_far (d := d) (r := r) (j := m) (by omega) (by simp at h2 ⊢; omega) h4.2.1 (by omega)
    · have e : pieceL (45 :: l) = 1 := by
        rw [pieceL_cons]; unfold pieceC
        rw [if_neg h32, if_neg hlet, if_neg h39, if_pos h45, minusL_no hd]
      rw [e]
      refine next_one hl (fun j h1 h2 => ?_)
      obtain ⟨m, rfl⟩ : ∃ m, j = m + 1 := ⟨j - 1, by omega⟩
      cases hr : readB ⟨((45 :: l).take (m + 1)).toArray⟩ with
      | none => rfl
      | some c2 =>
        exfalso
        rw [List.take_succ_cons] at hr
        obtain ⟨n, hn, _, e2⟩ := readB_num hl h39 hr
        obtain ⟨h3, h4, h5⟩ := itoa_minus e2
        cases l with
        | nil => simp at h4; exact h4.1 rfl
        | cons d r =>
          cases m with
          | zero => rw [List.take_zero] at h4; exact h4.1 rfl
          | succ m =>
            rw [List.take_succ_cons] at h4 h5
            refine hd ⟨d, r, rfl, ?_⟩
            unfold firstD
            rw [h4.2.1 d (by simp), Bool.true_and, decide_eq_true_eq]
            intro e48
            have hd48 : d = 48 := byteIs e48 (by decide)
            subst hd48
            have := h4.2.2 (by simp)
            have e0 : r.take m = [] := by
              rw [List.length_cons] at this
              exact List.length_eq_zero_iff.1 (by omega)
            rw [e0] at h5
            have h6 : valFrom 0 [48] = 0 := rfl
            omega
  by_cases hf : firstD c = true
  · have e : pieceL (c :: l) = numK c l := by
      rw [pieceL_cons]; unfold pieceC
      rw [if_neg h32, if_neg hlet, if_neg h39, if_neg h45, if_pos hf]
      rfl
    have hpl := numK_plain (r := l) hf
    have hv := numK_val (r := l) hf
    have hk := numK_le c l
    have hkp : 0 < numK c l := by unfold numK; omega
    rw [e]
    refine next_long (c := (1, (valFrom 0 ((c :: l).take (numK c l)) : Int), ⟨#[]⟩)) hl hkp hk ?_ ?_
    · conv => lhs; rw [← plain_itoa hpl]
      exact readB_itoa (numB_iff.2 (by omega))
    · intro j h1 h2
      cases hr : readB ⟨((c :: l).take j).toArray⟩ with
      | none => rfl
      | some c2 =>
        exfalso
        obtain ⟨m, rfl⟩ : ∃ m, j = m + 1 := ⟨j - 1, by omega⟩
        rw [List.take_succ_cons] at hr
        obtain ⟨n, hn, _, e2⟩ := readB_num hl h39 hr
        obtain ⟨h3, h4, h5⟩ := itoa_dig h45 e2
        have hb := numB_iff.1 hn
        exact numK_far (d := c) (r := l) (j := m + 1) h1 h2 (by rw [List.take_succ_cons]; exact h4.2.1) (by rw [List.take_succ_cons, h5]; omega)
  · have e : pieceL (c :: l) = 1 := by
      rw [pieceL_cons]; unfold pieceC
      rw [if_neg h32, if_neg hlet, if_neg h39, if_neg h45, if_neg hf]
    rw [e]
    by_cases hdig : isDig c = true
    · have h48 : c.toNat = 48 := by
        unfold firstD at hf
        rw [hdig, Bool.true_and, decide_eq_true_eq] at hf
        exact Classical.byContradiction hf
      obtain rfl : c = 48 := byteIs h48 (by decide)
      refine next_long (c := (1, 0, ⟨#[]⟩)) hl (by omega) (by simp) (show readB ⟨#[48]⟩ = some (1, 0, ⟨#[]⟩) by decide +kernel) (fun j h1 h2 => ?_)
      obtain ⟨m, rfl⟩ : ∃ m, j = m + 1 := ⟨j - 1, by omega⟩
      cases hr : readB ⟨((48 :: l).take (m + 1)).toArray⟩ with
      | none => rfl
      | some c2 =>
        exfalso
        rw [List.take_succ_cons] at hr
        obtain ⟨n, hn, _, e2⟩ := readB_num hl h39 hr
        obtain ⟨h3, h4, h5⟩ := itoa_dig h45 e2
        have := h4.2.2 (by simp)
        simp at this
        rcases this with e0 | e0
        · omega
        · rw [e0] at h2; simp at h2; omega
    · refine next_one hl (fun j h1 h2 => ?_)
      obtain ⟨m, rfl⟩ : ∃ m, j = m + 1 := ⟨j - 1, by omega⟩
      cases hr : readB ⟨((c :: l).take (m + 1)).toArray⟩ with
      | none => rfl
      | some c2 =>
        exfalso
        rw [List.take_succ_cons] at hr
        obtain ⟨n, hn, _, e2⟩ := readB_num hl h39 hr
        obtain ⟨h3, h4, h5⟩ := itoa_dig h45 e2
        exact hdig (h4.2.1 c (by simp))

/-- What a text is read as, whatever the steps. -/
def toksL (l : List UInt8) : Option (List TT) := toksF l.length l
theorem toksL_nil : toksL [] = some [] := by simp [toksL, toksF]
theorem toksL_blank (l : List UInt8) : toksL (32 :: l) = toksL l := by
  unfold toksL
  rw [List.length_cons, toksF, if_pos rfl]
theorem toksL_next (c : UInt8) (l : List UInt8) (h : c ≠ 32) : toksL (c :: l) = match nextT (c :: l) with
    | none => none
    | some (t, e) => (toksL ((c :: l).drop e)).map (t :: ·) := by
  unfold toksL
  rw [List.length_cons, toksF, if_neg h]
  cases hn : nextT (c :: l) with
  | none => rfl
  | some p =>
    obtain ⟨t, e⟩ := p
    obtain ⟨_, he, _, _⟩ := nextT_ok (by simp) hn
    simp only []
    rw [toksF_more (n := l.length) (m := ((c :: l).drop e).length) (by simp; omega) (Nat.le_refl _)]
theorem toksL_blanks (l : List UInt8) : toksL (l.drop (blankL l)) = toksL l := by
  induction l with
  | nil => rfl
  | cons c l ih =>
    by_cases h : c.toNat = 32
    · have hc : c = 32 := byteIs h (by decide)
      have e : blankL (c :: l) = blankL l + 1 := by
        unfold blankL
        rw [List.takeWhile_cons_of_pos (by simpa using h)]
        rfl
      rw [e, List.drop_succ_cons, ih, hc, toksL_blank]
    · have e : blankL (c :: l) = 0 := by
        unfold blankL
        rw [List.takeWhile_cons_of_neg (by simpa using h)]
        rfl
      rw [e, List.drop_zero]
/-- Piece by piece. -/
theorem toksL_piece (c : UInt8) (l : List UInt8) : toksL (c :: l) = if c.toNat = 32 then toksL ((c :: l).drop (pieceL (c :: l))) else match wordT ⟨((c :: l).take (pieceL (c :: l))).toArray⟩ with
    | none => none
    | some t => (toksL ((c :: l).drop (pieceL (c :: l)))).map (t :: ·) := by
  by_cases h : c.toNat = 32
  · rw [if_pos h]
    have hc : c = 32 := byteIs h (by decide)
    have e : pieceL (c :: l) = blankL l + 1 := by rw [pieceL_cons]; unfold pieceC; rw [if_pos h]
    rw [e, List.drop_succ_cons, toksL_blanks, hc, toksL_blank]
  · rw [if_neg h, toksL_next c l (fun e => h (by rw [e]; rfl)), next_piece c l h]
    cases wordT ⟨((c :: l).take (pieceL (c :: l))).toArray⟩ with
    | none => rfl
    | some t => rfl
theorem toksB_L {s : ByteArray} (h : s.size ≤ 2000) : toksB s = toksL s.data.toList := by
  unfold toksB toksL
  rw [if_pos h, Lib.size_eq]
theorem toksB_long {s : ByteArray} (h : ¬ s.size ≤ 2000) : toksB s = none := by
  unfold toksB; rw [if_neg h]
end Go.Proofs.YtgiknjlifocioaaDoor
