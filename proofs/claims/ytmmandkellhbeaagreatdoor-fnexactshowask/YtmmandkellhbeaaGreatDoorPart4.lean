/-
  A part of the proof: PieceMath, ItmMath, SumMath.
-/
import Derived.Test.YtmmandkellhbeaaGreatDoorPart3

/-
  The longest piece that begins at a place of a text, without any program: what the program cuts off is just what a token is read from.
-/
namespace Go.Proofs.YtmmandkellhbeaaGreatDoor

/-- How many digits go on behind the number v. -/
def numL (v : Nat) : List UInt8 → Nat
  | [] => 0
  | c :: l => if isDig c = true ∧ v * 10 + (c.toNat - 48) ≤ 1000000000 then numL (v * 10 + (c.toNat - 48)) l + 1 else 0
def firstD (c : UInt8) : Bool := isDig c && decide (c.toNat ≠ 48)
def blankL (l : List UInt8) : Nat := (l.takeWhile (fun c => decide (c.toNat = 32))).length
/-- The same behind the sign -. -/
def minusL : List UInt8 → Nat
  | d :: r => if firstD d = true then numL (d.toNat - 48) r + 2 else 1
  | [] => 1
def pieceC (c : UInt8) (l : List UInt8) : Nat :=
  if c.toNat = 32 then blankL l + 1
  else if letB c = true then runL l + 1
  else if c.toNat = 39 then (if (l.drop (runL l)).head? = some 39 then runL l + 2 else runL l + 1)
  else if c.toNat = 45 then minusL l
  else if firstD c = true then numL (c.toNat - 48) l + 1
  else 1
/-- How long the piece is that begins there. -/
def pieceL : List UInt8 → Nat
  | [] => 0
  | c :: l => pieceC c l
theorem pieceL_cons (c : UInt8) (l : List UInt8) : pieceL (c :: l) = pieceC c l := rfl
theorem minusL_yes {d : UInt8} {r : List UInt8} (h : firstD d = true) : minusL (d :: r) = numL (d.toNat - 48) r + 2 := if_pos h
theorem minusL_no {l : List UInt8} (h : ¬ ∃ d r, l = d :: r ∧ firstD d = true) : minusL l = 1 := by
  cases l with
  | nil => rfl
  | cons d r => exact if_neg (fun h' => h ⟨d, r, rfl, h'⟩)
theorem minusL_pos (l : List UInt8) : 0 < minusL l := by
  unfold minusL
  split
  · split <;> omega
  · omega

theorem numL_le (v : Nat) (l : List UInt8) : numL v l ≤ l.length := by
  induction l generalizing v with
  | nil => exact Nat.le_refl _
  | cons c l ih =>
    unfold numL
    split
    · have := ih (v * 10 + (c.toNat - 48)); simp; omega
    · exact Nat.zero_le _
theorem numL_dig (v : Nat) (l : List UInt8) : ∀ c ∈ l.take (numL v l), isDig c = true := by
  induction l generalizing v with
  | nil => intro c hc; simp at hc
  | cons c l ih =>
    unfold numL
    split
    · rename_i h
      intro x hx
      rw [List.take_succ_cons] at hx
      rcases List.mem_cons.1 hx with rfl | hx
      · exact h.1
      · exact ih _ x hx
    · intro x hx; simp at hx
theorem numL_val (v : Nat) (l : List UInt8) (hv : v ≤ 1000000000) : valFrom v (l.take (numL v l)) ≤ 1000000000 := by
  induction l generalizing v with
  | nil => exact hv
  | cons c l ih =>
    unfold numL
    split
    · rename_i h
      rw [List.take_succ_cons]
      exact ih _ h.2
    · exact hv
theorem numL_stop (v : Nat) (l : List UInt8) (h : numL v l < l.length) : isDig (l[numL v l]) = false ∨ 1000000000 < valFrom v (l.take (numL v l + 1)) := by
  induction l generalizing v with
  | nil => simp at h
  | cons c l ih =>
    by_cases hc : isDig c = true ∧ v * 10 + (c.toNat - 48) ≤ 1000000000
    · have e : numL v (c :: l) = numL (v * 10 + (c.toNat - 48)) l + 1 := by rw [numL, if_pos hc]
      simp only [e, List.getElem_cons_succ, List.take_succ_cons]
      exact ih _ (by rw [e] at h; simp at h; omega)
    · have e : numL v (c :: l) = 0 := by rw [numL, if_neg hc]
      simp only [e, List.getElem_cons_zero]
      by_cases hd : isDig c = true
      · right
        show 1000000000 < valFrom v [c]
        rw [valFrom_one]
        exact Nat.lt_of_not_le fun h' => hc ⟨hd, h'⟩
      · left
        cases hx : isDig c with
        | true => exact absurd hx hd
        | false => rfl
theorem firstD_dig {c : UInt8} (h : firstD c = true) : isDig c = true ∧ c ≠ 48 ∧ 49 ≤ c.toNat ∧ c.toNat ≤ 57 := by
  unfold firstD at h
  rw [Bool.and_eq_true, decide_eq_true_eq] at h
  obtain ⟨h1, h2⟩ := h
  have h3 := h1
  unfold isDig at h3
  simp at h3
  exact ⟨h1, fun e => h2 (by rw [e]; rfl), by omega, h3.2⟩

/-- Digits that begin with none but a nought, as far as they go. -/
def numK (d : UInt8) (r : List UInt8) : Nat := numL (d.toNat - 48) r + 1
theorem numK_le (d : UInt8) (r : List UInt8) : numK d r ≤ (d :: r).length := by
  have := numL_le (d.toNat - 48) r
  unfold numK; simp; omega
theorem numK_take (d : UInt8) (r : List UInt8) : (d :: r).take (numK d r) = d :: r.take (numL (d.toNat - 48) r) := by
  unfold numK; rw [List.take_succ_cons]
theorem numK_plain {d : UInt8} {r : List UInt8} (h : firstD d = true) : Plain ((d :: r).take (numK d r)) := by
  obtain ⟨h1, h2, _⟩ := firstD_dig h
  rw [numK_take]
  refine ⟨by simp, ?_, ?_⟩
  · intro c hc
    rcases List.mem_cons.1 hc with rfl | hc
    · exact h1
    · exact numL_dig _ _ c hc
  · intro e
    simp at e
    exact absurd e h2
theorem numK_val {d : UInt8} {r : List UInt8} (h : firstD d = true) : 1 ≤ valFrom 0 ((d :: r).take (numK d r)) ∧ valFrom 0 ((d :: r).take (numK d r)) ≤ 1000000000 := by
  obtain ⟨_, _, h3, h4⟩ := firstD_dig h
  rw [numK_take]
  show 1 ≤ valFrom (0 * 10 + (d.toNat - 48)) _ ∧ valFrom (0 * 10 + (d.toNat - 48)) _ ≤ _
  rw [show 0 * 10 + (d.toNat - 48) = d.toNat - 48 by omega]
  exact ⟨Nat.le_trans (by omega) (valFrom_mono _ _), numL_val _ _ (by omega)⟩
/-- What goes further is no numeral that fits. -/
theorem numK_far {d : UInt8} {r : List UInt8} {j : Nat} (h1 : numK d r < j) (h2 : j ≤ (d :: r).length) (hd : ∀ c ∈ (d :: r).take j, isDig c = true) (hv : valFrom 0 ((d :: r).take j) ≤ 1000000000) : False := by
  unfold numK at h1
  obtain ⟨m, rfl⟩ : ∃ m, j = m + 1 := ⟨j - 1, by omega⟩
  simp only [List.length_cons] at h2
  have hlt : numL (d.toNat - 48) r < r.length := by omega
  rw [List.take_succ_cons] at hd hv
  rcases numL_stop _ _ hlt with hs | hs
  · have hm : r[numL (d.toNat - 48) r] ∈ r.take m := by
      rw [List.mem_iff_getElem]
      exact ⟨numL (d.toNat - 48) r, by rw [List.length_take]; omega, by rw [List.getElem_take]⟩
    rw [hd _ (List.mem_cons_of_mem _ hm)] at hs
    cases hs
  · have e : r.take m = r.take (numL (d.toNat - 48) r + 1) ++ (r.take m).drop (numL (d.toNat - 48) r + 1) := by
      have := (List.take_append_drop (numL (d.toNat - 48) r + 1) (r.take m)).symm
      rw [List.take_take, Nat.min_eq_left (by omega)] at this
      exact this
    have hv' : valFrom (0 * 10 + (d.toNat - 48)) (r.take m) ≤ 1000000000 := hv
    rw [show 0 * 10 + (d.toNat - 48) = d.toNat - 48 by omega, e, valFrom_append] at hv'
    have := valFrom_mono ((r.take m).drop (numL (d.toNat - 48) r + 1)) (valFrom (d.toNat - 48) (r.take (numL (d.toNat - 48) r + 1)))
    omega

theorem readB_itoa {n : Int} (h : numB n = true) : readB ⟨(Lib.itoa n).toArray⟩ = some (1, n, ⟨#[]⟩) :=
  readB_cell (c := (1, n, ⟨#[]⟩)) (okB_1'.trans h)
/-- What is read of a text that begins neither with a letter nor with the sign ' is a numeral. -/
theorem readB_num {b : UInt8} {r : List UInt8} {c : CK} (hl : letB b = false) (hq : b.toNat ≠ 39) (h : readB ⟨(b :: r).toArray⟩ = some c) : ∃ n, numB n = true ∧ c = (1, n, ⟨#[]⟩) ∧ b :: r = Lib.itoa n := by
  obtain ⟨k, n, t⟩ := c
  obtain ⟨ho, e⟩ := readB_some h
  have e' := cellT_ok ho
  rw [e] at e'
  change b :: r = _ at e'
  rcases okB_kind ho with rfl | rfl | rfl | rfl
  · rw [l4T_0] at e'
    injection e' with e1 _
    rw [e1] at hl; exact absurd hl (by decide)
  · obtain ⟨hn, rfl⟩ := okB_1 ho
    exact ⟨n, hn, rfl, e'⟩
  · rw [l4T_2] at e'
    injection e' with e1 _
    rw [e1] at hq; exact absurd rfl hq
  · obtain ⟨hn, _⟩ := okB_3 ho
    rcases hn with rfl | rfl
    · rw [l4T_30] at e'
      injection e' with e1 _
      rw [e1] at hl; exact absurd hl (by decide)
    · rw [l4T_31] at e'
      injection e' with e1 _
      rw [e1] at hl; exact absurd hl (by decide)
theorem itoa_dig {n : Int} {b : UInt8} {r : List UInt8} (hb : b.toNat ≠ 45) (h : b :: r = Lib.itoa n) : 0 ≤ n ∧ Plain (b :: r) ∧ valFrom 0 (b :: r) = n.toNat := by
  by_cases hn : n < 0
  · rw [itoa_neg n hn] at h
    injection h with e1 _
    rw [e1] at hb; exact absurd rfl hb
  · rw [itoa_nonneg n (by omega)] at h
    obtain ⟨h1, h2, _⟩ := decDigits_plain n.toNat
    rw [← h] at h1 h2
    exact ⟨by omega, h2, h1⟩
theorem itoa_minus {n : Int} {r : List UInt8} (h : 45 :: r = Lib.itoa n) : n < 0 ∧ Plain r ∧ valFrom 0 r = n.natAbs := by
  by_cases hn : n < 0
  · rw [itoa_neg n hn] at h
    injection h with _ e2
    obtain ⟨h1, h2, _⟩ := decDigits_plain n.natAbs
    rw [← e2] at h1 h2
    exact ⟨hn, h2, h1⟩
  · exfalso
    rw [itoa_nonneg n (by omega)] at h
    obtain ⟨_, h2, _⟩ := decDigits_plain n.toNat
    rw [← h] at h2
    exact absurd (h2.2.1 45 (by simp)) (by decide)
theorem plain_itoa {l : List UInt8} (h : Plain l) : Lib.itoa (valFrom 0 l : Int) = l := by
  rw [itoa_nonneg _ (by omega)]
  rw [show ((valFrom 0 l : Nat) : Int).toNat = valFrom 0 l by omega]
  exact decDigits_val _ l rfl h
theorem plain_minus {l : List UInt8} (h : Plain l) (h1 : 1 ≤ valFrom 0 l) : Lib.itoa (-(valFrom 0 l : Int)) = 45 :: l := by
  rw [itoa_neg _ (by omega)]
  rw [show (-((valFrom 0 l : Nat) : Int)).natAbs = valFrom 0 l by omega]
  rw [decDigits_val _ l rfl h]

theorem nameK_head {b : UInt8} {r : List UInt8} (hl : letB b = false) : nameK ⟨(b :: r).toArray⟩ = false := by
  cases h : nameK ⟨(b :: r).toArray⟩ with
  | false => rfl
  | true =>
    exfalso
    unfold nameK nameB at h
    simp only [Bool.and_eq_true, Bool.not_eq_true', decide_eq_true_eq] at h
    obtain ⟨⟨_, h2, _⟩, _⟩ := h
    have := List.all_eq_true.1 h2 b (by simp)
    rw [show letB b = true from this] at hl
    cases hl
theorem signB_two {b : UInt8} {r : List UInt8} (hl : letB b = false) (hr : r ≠ []) : signB ⟨(b :: r).toArray⟩ = false := by
  cases h : signB ⟨(b :: r).toArray⟩ with
  | false => rfl
  | true =>
    exfalso
    unfold signB at h
    rw [Bool.or_eq_true] at h
    rcases h with h | h
    · have hm := inB_iff.1 h
      simp only [signW, List.mem_cons, List.not_mem_nil, or_false, ByteArray.mk.injEq, Array.mk.injEq, List.cons.injEq] at hm
      rcases hm with ⟨rfl, _⟩ | ⟨rfl, _⟩ | ⟨rfl, _⟩ | ⟨rfl, _⟩ <;> exact absurd hl (by decide)
    · have hm := inB_iff.1 h
      simp only [signO, List.mem_cons, List.not_mem_nil, or_false, ByteArray.mk.injEq, Array.mk.injEq, List.cons.injEq] at hm
      rcases hm with ⟨_, e⟩ | ⟨_, e⟩ | ⟨_, e⟩ | ⟨_, e⟩ | ⟨_, e⟩ | ⟨_, e⟩ | ⟨_, e⟩ | ⟨_, e⟩ <;> exact hr e
theorem signB_quote (r : List UInt8) : signB ⟨(39 :: r).toArray⟩ = false := by
  cases r with
  | nil => decide +kernel
  | cons c r => exact signB_two (by decide) (by simp)

theorem wordT_cell {w : ByteArray} {c : CK} (h : readB w = some c) : wordT w = some (2, ⟨#[]⟩, c) := by unfold wordT; rw [h]
theorem wordT_sign {w : ByteArray} (h : readB w = none) (hs : signB w = true) : wordT w = some (3, w, zeroC) := by unfold wordT; rw [h]; simp only []; rw [if_pos hs]
theorem wordT_none {w : ByteArray} (h : readB w = none) (hs : signB w = false) (hn : nameK w = false) : wordT w = none := by
  unfold wordT; rw [h]; simp only []; rw [if_neg (by rw [hs]; decide), if_neg (by rw [hn]; decide)]
theorem nextT_cell {b : UInt8} {l : List UInt8} {c : CK} {k : Nat} (hl : letB b = false) (h : longC (b :: l) (min 14 (b :: l).length) = some (c, k)) : nextT (b :: l) = some ((2, ⟨#[]⟩, c), k) := by
  unfold nextT; rw [runL_no hl, if_neg (by omega), h]
theorem nextT_sign {b : UInt8} {l : List UInt8} (hl : letB b = false) (h : longC (b :: l) (min 14 (b :: l).length) = none) : nextT (b :: l) = if signB ⟨#[b]⟩ = true then some ((3, ⟨#[b]⟩, zeroC), 1) else none := by
  unfold nextT; rw [runL_no hl, if_neg (by omega), h]; rfl

/-- One byte alone, where nothing longer is a cell. -/
theorem next_one {b : UInt8} {l : List UInt8} (hl : letB b = false) (hn : ∀ j, 0 < j → j ≤ (b :: l).length → readB ⟨((b :: l).take j).toArray⟩ = none) : nextT (b :: l) = (wordT ⟨((b :: l).take 1).toArray⟩).map (fun t => (t, 1)) := by
  rw [nextT_sign hl (longC_no (fun j h1 h2 => hn j h1 (by omega)))]
  have h1 : readB ⟨#[b]⟩ = none := hn 1 (by omega) (by simp)
  show _ = (wordT ⟨#[b]⟩).map _
  cases hs : signB ⟨#[b]⟩ with
  | true => rw [wordT_sign h1 hs]; rfl
  | false => rw [wordT_none h1 hs (nameK_head (r := []) hl)]; rfl
/-- A cell, where that is the longest one. -/
theorem next_long {b : UInt8} {l : List UInt8} {c : CK} {k : Nat} (hl : letB b = false) (h0 : 0 < k) (hk : k ≤ (b :: l).length) (hr : readB ⟨((b :: l).take k).toArray⟩ = some c) (hn : ∀ j, k < j → j ≤ (b :: l).length → readB ⟨((b :: l).take j).toArray⟩ = none) :
    nextT (b :: l) = (wordT ⟨((b :: l).take k).toArray⟩).map (fun t => (t, k)) := by
  have h14 : k ≤ 14 := by
    obtain ⟨x, y, z⟩ := c
    obtain ⟨ho, e⟩ := readB_some hr
    have e' := cellT_ok ho
    rw [e] at e'
    have := l4T_len ho
    rw [← e', bytes_mk, List.length_take] at this
    omega
  rw [nextT_cell hl (longC_at h0 (by omega) hr (fun j h1 h2 => hn j h1 (by omega))), wordT_cell hr]
  rfl

theorem takeWhile_quote {t r : List UInt8} (ht : t.all letB = true) : (t ++ 39 :: r).takeWhile letB = t := by
  rw [List.takeWhile_append_of_pos (fun a ha => List.all_eq_true.1 ht a ha), List.takeWhile_cons_of_neg (by decide), List.append_nil]
theorem quote_read {l : List UInt8} {j : Nat} {c : CK} (h : readB ⟨((39 :: l).take j).toArray⟩ = some c) (hj : j ≤ (39 :: l).length) : j = runL l + 2 ∧ (l.drop (runL l)).head? = some 39 := by
  cases j with
  | zero => rw [List.take_zero] at h; rw [readB_nil] at h; cases h
  | succ j =>
    rw [List.take_succ_cons] at h
    obtain ⟨k, n, t⟩ := c
    obtain ⟨ho, e⟩ := readB_some h
    have e' := cellT_ok ho
    rw [e] at e'
    change 39 :: l.take j = _ at e'
    rcases okB_kind ho with rfl | rfl | rfl | rfl
    · rw [l4T_0] at e'; injection e' with e1 _; exact absurd e1 (by decide)
    · rw [l4T_1] at e'
      exact absurd e' (itoa_no n _ 39 rfl (by decide) (by decide))
    · obtain ⟨_, ht⟩ := okB_2 ho
      rw [l4T_2] at e'
      injection e' with _ e2
      unfold textB at ht
      rw [Bool.and_eq_true] at ht
      have hall : t.data.toList.all letB = true := ht.1
      have el : l = t.data.toList ++ 39 :: l.drop j := by
        have := (List.take_append_drop j l).symm
        rw [e2] at this
        simpa using this
      have hlen : j = t.data.toList.length + 1 := by
        have := congrArg List.length e2
        rw [List.length_take, List.length_append, List.length_singleton] at this
        simp at hj
        omega
      have hr : runL l = t.data.toList.length := by
        unfold runL
        rw [el, takeWhile_quote hall]
      refine ⟨by omega, ?_⟩
      rw [hr]
      conv => lhs; rw [el]
      rw [List.drop_left]
      rfl
    · obtain ⟨hn, _⟩ := okB_3 ho
      rcases hn with rfl | rfl
      · rw [l4T_30] at e'; injection e' with e1 _; exact absurd e1 (by decide)
      · rw [l4T_31] at e'; injection e' with e1 _; exact absurd e1 (by decide)

theorem pieceL_pos (c : UInt8) (l : List UInt8) : 0 < pieceL (c :: l) := by
  have := minusL_pos l
  rw [pieceL_cons]
  unfold pieceC
  split
  · omega
  split
  · omega
  split
  · split <;> omega
  split
  · omega
  split <;> omega
theorem runL_drop {l : List UInt8} {b : UInt8} (h : (l.drop (runL l)).head? = some b) : runL l < l.length := by
  have := runL_le l
  by_cases e : runL l = l.length
  · rw [e, List.drop_length] at h; cases h
  · omega
theorem blankL_le (l : List UInt8) : blankL l ≤ l.length := by
  unfold blankL
  exact (List.takeWhile_sublist _).length_le
theorem minusL_le (l : List UInt8) : minusL l ≤ l.length + 1 := by
  cases l with
  | nil => exact Nat.le_refl _
  | cons d r =>
    unfold minusL
    have := numL_le (d.toNat - 48) r
    simp only [List.length_cons]
    split <;> omega
theorem pieceL_le (c : UInt8) (l : List UInt8) : pieceL (c :: l) ≤ (c :: l).length := by
  have h1 := runL_le l
  have h2 := blankL_le l
  have h3 := minusL_le l
  have h4 := numL_le (c.toNat - 48) l
  rw [pieceL_cons]
  unfold pieceC
  simp only [List.length_cons]
  split
  · omega
  split
  · omega
  split
  · split
    · rename_i h
      have := runL_drop h
      omega
    · omega
  split
  · omega
  split <;> omega

theorem byteIs {c : UInt8} {n : Nat} (h : c.toNat = n) (hn : n < 256) : c = UInt8.ofNat n := by
  apply UInt8.toNat_inj.1
  rw [h, UInt8.toNat_ofNat_of_lt' (by exact hn)]
/-- The token that begins there is read from the piece that begins there. -/
theorem next_piece (c : UInt8) (l : List UInt8) (h32 : c.toNat ≠ 32) : nextT (c :: l) = (wordT ⟨((c :: l).take (pieceL (c :: l))).toArray⟩).map (fun t => (t, pieceL (c :: l))) := by
  by_cases hlet : letB c = true
  · have e : pieceL (c :: l) = runL (c :: l) := by
      rw [pieceL_cons]; unfold pieceC
      rw [if_neg h32, if_pos hlet]
      unfold runL
      rw [List.takeWhile_cons_of_pos hlet]
      rfl
    have hp := pieceL_pos c l
    rw [e] at hp ⊢
    unfold nextT
    rw [if_pos hp]
  have hl : letB c = false := by
    cases hx : letB c with
    | true => exact absurd hx hlet
    | false => rfl
  by_cases h39 : c.toNat = 39
  · obtain rfl : c = 39 := byteIs h39 (by decide)
    have e : pieceL (39 :: l) = if (l.drop (runL l)).head? = some 39 then runL l + 2 else runL l + 1 := by
      rw [pieceL_cons]; unfold pieceC
      rw [if_neg h32, if_neg hlet, if_pos h39]
    have hle := pieceL_le 39 l
    by_cases hyes : ∃ cc, readB ⟨((39 :: l).take (pieceL (39 :: l))).toArray⟩ = some cc
    · obtain ⟨cc, hcc⟩ := hyes
      refine next_long hl (pieceL_pos _ _) hle hcc (fun j h1 h2 => ?_)
      cases hr : readB ⟨((39 :: l).take j).toArray⟩ with
      | none => rfl
      | some c2 =>
        exfalso
        have := (quote_read hr h2).1
        have := (quote_read hcc hle).1
        omega
    · have hno : readB ⟨((39 :: l).take (pieceL (39 :: l))).toArray⟩ = none := by
        cases hr : readB ⟨((39 :: l).take (pieceL (39 :: l))).toArray⟩ with
        | none => rfl
        | some c2 => exact absurd ⟨c2, hr⟩ hyes
      have hall : ∀ j, 0 < j → j ≤ (39 :: l).length → readB ⟨((39 :: l).take j).toArray⟩ = none := by
        intro j h1 h2
        cases hr : readB ⟨((39 :: l).take j).toArray⟩ with
        | none => rfl
        | some c2 =>
          exfalso
          obtain ⟨hj, hh⟩ := quote_read hr h2
          rw [if_pos hh] at e
          rw [e, ← hj, hr] at hno
          cases hno
      rw [nextT_sign hl (longC_no (fun j h1 h2 => hall j h1 (by omega))), if_neg (by decide +kernel)]
      obtain ⟨m, hm⟩ : ∃ m, pieceL (39 :: l) = m + 1 := ⟨pieceL (39 :: l) - 1, by have := pieceL_pos 39 l; omega⟩
      rw [hm] at hno ⊢
      rw [List.take_succ_cons] at hno ⊢
      rw [wordT_none hno (signB_quote _) (nameK_head hl)]
      rfl
  by_cases h45 : c.toNat = 45
  · obtain rfl : c = 45 := byteIs h45 (by decide)
    by_cases hd : ∃ d r, l = d :: r ∧ firstD d = true
    · obtain ⟨d, r, rfl, hd⟩ := hd
      have e : pieceL (45 :: d :: r) = numK d r + 1 := by
        rw [pieceL_cons]; unfold pieceC
        rw [if_neg h32, if_neg hlet, if_neg h39, if_pos h45, minusL_yes hd]
        rfl
      have hpl := numK_plain (r := r) hd
      have hv := numK_val (r := r) hd
      have hk := numK_le d r
      rw [e]
      refine next_long (c := (1, -(valFrom 0 ((d :: r).take (numK d r)) : Int), ⟨#[]⟩)) hl (by omega) (by simp at hk ⊢; omega) ?_ ?_
      · rw [List.take_succ_cons, ← plain_minus hpl hv.1]
        exact readB_itoa (numB_iff.2 (by omega))
      · intro j h1 h2
        obtain ⟨m, rfl⟩ : ∃ m, j = m + 1 := ⟨j - 1, by omega⟩
        cases hr : readB ⟨((45 :: d :: r).take (m + 1)).toArray⟩ with
        | none => rfl
        | some c2 =>
          exfalso
          rw [List.take_succ_cons] at hr
          obtain ⟨n, hn, _, e2⟩ := readB_num hl h39 hr
          obtain ⟨h3, h4, h5⟩ := itoa_minus e2
          have hb := numB_iff.1 hn
          exact numK_far (d := d) (r := r) (j := m) (by omega) (by simp at h2 ⊢; omega) h4.2.1 (by omega)
    · have e : pieceL (45 :: l) = 1 := by
        rw [pieceL_cons]; unfold pieceC
        rw [if_neg h32, if_neg hlet, if_neg h39, if_pos h45, minusL_no hd]
      rw [e]
      refine next_one hl (fun j h1 h2 => ?_)
      obtain ⟨m, rfl⟩ : ∃ m, j = m + 1 := ⟨j - 1, by omega⟩
      cases hr : readB ⟨((45 :: l).take (m + 1)).toArray⟩ with
      | none => rfl
      | some c2 =>
        exfalso
        rw [List.take_succ_cons] at hr
        obtain ⟨n, hn, _, e2⟩ := readB_num hl h39 hr
        obtain ⟨h3, h4, h5⟩ := itoa_minus e2
        cases l with
        | nil => simp at h4; exact h4.1 rfl
        | cons d r =>
          cases m with
          | zero => rw [List.take_zero] at h4; exact h4.1 rfl
          | succ m =>
            rw [List.take_succ_cons] at h4 h5
            refine hd ⟨d, r, rfl, ?_⟩
            unfold firstD
            rw [h4.2.1 d (by simp), Bool.true_and, decide_eq_true_eq]
            intro e48
            have hd48 : d = 48 := byteIs e48 (by decide)
            subst hd48
            have := h4.2.2 (by simp)
            have e0 : r.take m = [] := by
              rw [List.length_cons] at this
              exact List.length_eq_zero_iff.1 (by omega)
            rw [e0] at h5
            have h6 : valFrom 0 [48] = 0 := rfl
            omega
  by_cases hf : firstD c = true
  · have e : pieceL (c :: l) = numK c l := by
      rw [pieceL_cons]; unfold pieceC
      rw [if_neg h32, if_neg hlet, if_neg h39, if_neg h45, if_pos hf]
      rfl
    have hpl := numK_plain (r := l) hf
    have hv := numK_val (r := l) hf
    have hk := numK_le c l
    have hkp : 0 < numK c l := by unfold numK; omega
    rw [e]
    refine next_long (c := (1, (valFrom 0 ((c :: l).take (numK c l)) : Int), ⟨#[]⟩)) hl hkp hk ?_ ?_
    · conv => lhs; rw [← plain_itoa hpl]
      exact readB_itoa (numB_iff.2 (by omega))
    · intro j h1 h2
      cases hr : readB ⟨((c :: l).take j).toArray⟩ with
      | none => rfl
      | some c2 =>
        exfalso
        obtain ⟨m, rfl⟩ : ∃ m, j = m + 1 := ⟨j - 1, by omega⟩
        rw [List.take_succ_cons] at hr
        obtain ⟨n, hn, _, e2⟩ := readB_num hl h39 hr
        obtain ⟨h3, h4, h5⟩ := itoa_dig h45 e2
        have hb := numB_iff.1 hn
        exact numK_far (d := c) (r := l) (j := m + 1) h1 h2 (by rw [List.take_succ_cons]; exact h4.2.1) (by rw [List.take_succ_cons, h5]; omega)
  · have e : pieceL (c :: l) = 1 := by
      rw [pieceL_cons]; unfold pieceC
      rw [if_neg h32, if_neg hlet, if_neg h39, if_neg h45, if_neg hf]
    rw [e]
    by_cases hdig : isDig c = true
    · have h48 : c.toNat = 48 := by
        unfold firstD at hf
        rw [hdig, Bool.true_and, decide_eq_true_eq] at hf
        exact Classical.byContradiction hf
      obtain rfl : c = 48 := byteIs h48 (by decide)
      refine next_long (c := (1, 0, ⟨#[]⟩)) hl (by omega) (by simp) (show readB ⟨#[48]⟩ = some (1, 0, ⟨#[]⟩) by decide +kernel) (fun j h1 h2 => ?_)
      obtain ⟨m, rfl⟩ : ∃ m, j = m + 1 := ⟨j - 1, by omega⟩
      cases hr : readB ⟨((48 :: l).take (m + 1)).toArray⟩ with
      | none => rfl
      | some c2 =>
        exfalso
        rw [List.take_succ_cons] at hr
        obtain ⟨n, hn, _, e2⟩ := readB_num hl h39 hr
        obtain ⟨h3, h4, h5⟩ := itoa_dig h45 e2
        have := h4.2.2 (by simp)
        simp at this
        rcases this with e0 | e0
        · omega
        · rw [e0] at h2; simp at h2; omega
    · refine next_one hl (fun j h1 h2 => ?_)
      obtain ⟨m, rfl⟩ : ∃ m, j = m + 1 := ⟨j - 1, by omega⟩
      cases hr : readB ⟨((c :: l).take (m + 1)).toArray⟩ with
      | none => rfl
      | some c2 =>
        exfalso
        rw [List.take_succ_cons] at hr
        obtain ⟨n, hn, _, e2⟩ := readB_num hl h39 hr
        obtain ⟨h3, h4, h5⟩ := itoa_dig h45 e2
        exact hdig (h4.2.1 c (by simp))

/-- What a text is read as, whatever the steps. -/
def toksL (l : List UInt8) : Option (List TT) := toksF l.length l
theorem toksL_nil : toksL [] = some [] := by simp [toksL, toksF]
theorem toksL_blank (l : List UInt8) : toksL (32 :: l) = toksL l := by
  unfold toksL
  rw [List.length_cons, toksF, if_pos rfl]
theorem toksL_next (c : UInt8) (l : List UInt8) (h : c ≠ 32) : toksL (c :: l) = match nextT (c :: l) with
    | none => none
    | some (t, e) => (toksL ((c :: l).drop e)).map (t :: ·) := by
  unfold toksL
  rw [List.length_cons, toksF, if_neg h]
  cases hn : nextT (c :: l) with
  | none => rfl
  | some p =>
    obtain ⟨t, e⟩ := p
    obtain ⟨_, he, _, _⟩ := nextT_ok (by simp) hn
    simp only []
    rw [toksF_more (n := l.length) (m := ((c :: l).drop e).length) (by simp; omega) (Nat.le_refl _)]
theorem toksL_blanks (l : List UInt8) : toksL (l.drop (blankL l)) = toksL l := by
  induction l with
  | nil => rfl
  | cons c l ih =>
    by_cases h : c.toNat = 32
    · have hc : c = 32 := byteIs h (by decide)
      have e : blankL (c :: l) = blankL l + 1 := by
        unfold blankL
        rw [List.takeWhile_cons_of_pos (by simpa using h)]
        rfl
      rw [e, List.drop_succ_cons, ih, hc, toksL_blank]
    · have e : blankL (c :: l) = 0 := by
        unfold blankL
        rw [List.takeWhile_cons_of_neg (by simpa using h)]
        rfl
      rw [e, List.drop_zero]
/-- Piece by piece. -/
theorem toksL_piece (c : UInt8) (l : List UInt8) : toksL (c :: l) = if c.toNat = 32 then toksL ((c :: l).drop (pieceL (c :: l))) else match wordT ⟨((c :: l).take (pieceL (c :: l))).toArray⟩ with
    | none => none
    | some t => (toksL ((c :: l).drop (pieceL (c :: l)))).map (t :: ·) := by
  by_cases h : c.toNat = 32
  · rw [if_pos h]
    have hc : c = 32 := byteIs h (by decide)
    have e : pieceL (c :: l) = blankL l + 1 := by rw [pieceL_cons]; unfold pieceC; rw [if_pos h]
    rw [e, List.drop_succ_cons, toksL_blanks, hc, toksL_blank]
  · rw [if_neg h, toksL_next c l (fun e => h (by rw [e]; rfl)), next_piece c l h]
    cases wordT ⟨((c :: l).take (pieceL (c :: l))).toArray⟩ with
    | none => rfl
    | some t => rfl
theorem toksB_L {s : ByteArray} (h : s.size ≤ 2000) : toksB s = toksL s.data.toList := by
  unfold toksB toksL
  rw [if_pos h, Lib.size_eq]
theorem toksB_long {s : ByteArray} (h : ¬ s.size ≤ 2000) : toksB s = none := by
  unfold toksB; rw [if_neg h]
end Go.Proofs.YtmmandkellhbeaaGreatDoor

/-
  Sums without any program: right items, what a sum is, its tree, its text in tokens, what tokens are read as, and that a sum is read from its text.
-/
namespace Go.Proofs.YtmmandkellhbeaaGreatDoor

/-- An item: kind, cell, name. -/
abbrev TI := Int × CK × ByteArray
/-- The item of a sign. -/
def opI (k : Int) : TI := (k, zeroC, ⟨#[]⟩)
/-- Is the item right? -/
def itemB (x : TI) : Bool :=
  if x.1 = 1 then okC x.2.1 && decide (x.2.2 = ⟨#[]⟩) else if x.1 = 2 then nameK x.2.2 && decide (x.2.1 = zeroC) else (decide (3 ≤ x.1) && decide (x.1 ≤ 12)) && decide (x = opI x.1)
/-- How many it reckons with. -/
def needsI (k : Int) : Nat := if k ≤ 2 then 0 else if 11 ≤ k then 1 else 2
/-- How many lie there behind these items, from n on; none where there are too few, or one is not right. -/
def heapN : List TI → Nat → Option Nat
  | [], n => some n
  | x :: l, n => if itemB x = true ∧ needsI x.1 ≤ n then heapN l (n + 1 - needsI x.1) else none
/-- Is it a sum? -/
def sumB (l : List TI) : Bool := decide (heapN l 0 = some 1) && decide (l.length ≤ 40)

/-- The tree of a sum. -/
inductive Tr where
  | leaf (x : TI)
  | one (k : Int) (t : Tr)
  | two (k : Int) (a b : Tr)
def Tr.post : Tr → List TI
  | .leaf x => [x]
  | .one k t => t.post ++ [opI k]
  | .two k a b => a.post ++ (b.post ++ [opI k])
def Tr.ok : Tr → Prop
  | .leaf x => itemB x = true ∧ (x.1 = 1 ∨ x.1 = 2)
  | .one k t => (k = 11 ∨ k = 12) ∧ t.ok
  | .two k a b => (3 ≤ k ∧ k ≤ 10) ∧ a.ok ∧ b.ok
/-- Trees that lie one on the other, the last one first. -/
def pileP : List Tr → List TI
  | [] => []
  | t :: ts => pileP ts ++ t.post
theorem item_op {x : TI} (h : itemB x = true) (h1 : x.1 ≠ 1) (h2 : x.1 ≠ 2) : 3 ≤ x.1 ∧ x.1 ≤ 12 ∧ x = opI x.1 := by
  unfold itemB at h
  rw [if_neg h1, if_neg h2] at h
  simp only [Bool.and_eq_true, decide_eq_true_eq] at h
  exact ⟨h.1.1, h.1.2, h.2⟩
/-- What is reckoned through has its trees. -/
theorem heap_trees : ∀ (l : List TI) (ts : List Tr) (n : Nat), (∀ t ∈ ts, t.ok) → heapN l ts.length = some n → ∃ us : List Tr, us.length = n ∧ (∀ t ∈ us, t.ok) ∧ pileP us = pileP ts ++ l
  | [], ts, n, hok, h => by
    simp only [heapN, Option.some.injEq] at h
    exact ⟨ts, h, hok, by simp⟩
  | x :: l, ts, n, hok, h => by
    unfold heapN at h
    split at h
    · rename_i hc
      obtain ⟨hx, hn⟩ := hc
      by_cases h1 : x.1 = 1 ∨ x.1 = 2
      · have e : needsI x.1 = 0 := by unfold needsI; rw [if_pos (by omega)]
        rw [e] at h
        obtain ⟨us, e1, e2, e3⟩ := heap_trees l (.leaf x :: ts) n (fun t ht => by
          rcases List.mem_cons.1 ht with rfl | ht
          · exact ⟨hx, h1⟩
          · exact hok t ht) (by simpa using h)
        exact ⟨us, e1, e2, by rw [e3]; simp [pileP, Tr.post]⟩
      · obtain ⟨h3, h4, h5⟩ := item_op hx (fun e => h1 (.inl e)) (fun e => h1 (.inr e))
        by_cases h6 : 11 ≤ x.1
        · have e : needsI x.1 = 1 := by unfold needsI; rw [if_neg (by omega), if_pos h6]
          rw [e] at h hn
          match ts, hn with
          | t :: ts, _ =>
            obtain ⟨us, e1, e2, e3⟩ := heap_trees l (.one x.1 t :: ts) n (fun u hu => by
              rcases List.mem_cons.1 hu with rfl | hu
              · exact ⟨by omega, hok t (by simp)⟩
              · exact hok u (by simp [hu])) (by simpa using h)
            exact ⟨us, e1, e2, by rw [e3]; simp only [pileP, Tr.post]; rw [← h5]; simp⟩
        · have e : needsI x.1 = 2 := by unfold needsI; rw [if_neg (by omega), if_neg h6]
          rw [e] at h hn
          match ts, hn with
          | b :: a :: ts, _ =>
            obtain ⟨us, e1, e2, e3⟩ := heap_trees l (.two x.1 a b :: ts) n (fun u hu => by
              rcases List.mem_cons.1 hu with rfl | hu
              · exact ⟨by omega, hok a (by simp), hok b (by simp)⟩
              · exact hok u (by simp [hu])) (by simpa using h)
            exact ⟨us, e1, e2, by rw [e3]; simp only [pileP, Tr.post]; rw [← h5]; simp⟩
    · cases h
/-- A sum is a tree's. -/
theorem sum_tree {l : List TI} (h : sumB l = true) : ∃ t : Tr, t.ok ∧ t.post = l := by
  unfold sumB at h
  simp only [Bool.and_eq_true, decide_eq_true_eq] at h
  obtain ⟨us, e1, e2, e3⟩ := heap_trees l [] 1 (by simp) h.1
  match us, e1 with
  | [t], _ => exact ⟨t, e2 t (by simp), by simpa [pileP] using e3⟩
theorem itemB_op (k : Int) (h1 : 3 ≤ k) (h2 : k ≤ 12) : itemB (opI k) = true := by
  unfold itemB opI
  dsimp only
  rw [if_neg (by omega), if_neg (by omega)]
  simp [h1, h2]
theorem heapN_append (l m : List TI) (n : Nat) : heapN (l ++ m) n = (heapN l n).bind (heapN m) := by
  induction l generalizing n with
  | nil => rfl
  | cons x l ih =>
    rw [List.cons_append]
    unfold heapN
    split
    · exact ih _
    · rfl
/-- And a tree's items are a sum, but for their number. -/
theorem tree_sum {t : Tr} (h : t.ok) : ∀ n, heapN t.post n = some (n + 1) := by
  induction t with
  | leaf x =>
    intro n
    have e : needsI x.1 = 0 := by unfold needsI; rw [if_pos (by rcases h.2 with h | h <;> omega)]
    simp only [Tr.post, heapN]
    rw [if_pos ⟨h.1, by omega⟩, e]
    rfl
  | one k t ih =>
    intro n
    have hk : needsI k = 1 := by unfold needsI; rw [if_neg (by rcases h.1 with h | h <;> omega), if_pos (by rcases h.1 with h | h <;> omega)]
    simp only [Tr.post]
    rw [heapN_append, ih h.2]
    simp only [Option.bind_some, heapN]
    rw [if_pos ⟨itemB_op k (by rcases h.1 with h | h <;> omega) (by rcases h.1 with h | h <;> omega), by rw [show (opI k).1 = k from rfl, hk]; omega⟩, show (opI k).1 = k from rfl, hk]
    rfl
  | two k a b iha ihb =>
    intro n
    have hk : needsI k = 2 := by unfold needsI; rw [if_neg (by have := h.1; omega), if_neg (by have := h.1; omega)]
    simp only [Tr.post]
    rw [heapN_append, iha h.2.1]
    simp only [Option.bind_some]
    rw [heapN_append, ihb h.2.2]
    simp only [Option.bind_some, heapN]
    rw [if_pos ⟨itemB_op k (by have := h.1; omega) (by have := h.1; omega), by rw [show (opI k).1 = k from rfl, hk]; omega⟩, show (opI k).1 = k from rfl, hk]
    rfl
/-- The signs of the kinds. -/
def sgn (k : Int) : ByteArray :=
  if k = 3 then ⟨#[43]⟩ else if k = 4 then ⟨#[45]⟩ else if k = 5 then ⟨#[42]⟩ else if k = 6 then ⟨#[47]⟩ else if k = 7 then ⟨#[61]⟩ else if k = 8 then ⟨#[60]⟩ else if k = 9 then ⟨#[97, 110, 100]⟩ else if k = 10 then ⟨#[111, 114]⟩ else if k = 11 then ⟨#[110, 111, 116]⟩ else ⟨#[108, 97, 99, 107, 115]⟩
def sgnT (k : Int) : TT := (3, sgn k, zeroC)
def parO : TT := (3, ⟨#[40]⟩, zeroC)
def parC : TT := (3, ⟨#[41]⟩, zeroC)
/-- The token of an item that is one alone. -/
def tkOf (x : TI) : TT := if x.1 = 1 then (2, ⟨#[]⟩, x.2.1) else (1, x.2.2, zeroC)
def Tr.toks : Tr → List TT
  | .leaf x => [tkOf x]
  | .one k t => parO :: sgnT k :: (t.toks ++ [parC])
  | .two k a b => parO :: (a.toks ++ sgnT k :: (b.toks ++ [parC]))
def Tr.text : Tr → List UInt8
  | .leaf x => tokT (tkOf x)
  | .one k t => 40 :: ((sgn k).data.toList ++ 32 :: (t.text ++ [41]))
  | .two k a b => 40 :: (a.text ++ 32 :: ((sgn k).data.toList ++ 32 :: (b.text ++ [41])))
theorem sgn_ok (k : Int) (h1 : 3 ≤ k) (h2 : k ≤ 12) : tokB (sgnT k) = true := by
  have : k = 3 ∨ k = 4 ∨ k = 5 ∨ k = 6 ∨ k = 7 ∨ k = 8 ∨ k = 9 ∨ k = 10 ∨ k = 11 ∨ k = 12 := by omega
  rcases this with rfl | rfl | rfl | rfl | rfl | rfl | rfl | rfl | rfl | rfl <;> decide +kernel
theorem tkOf_ok {x : TI} (h : itemB x = true) (hx : x.1 = 1 ∨ x.1 = 2) : tokB (tkOf x) = true := by
  unfold tkOf
  unfold itemB at h
  rcases hx with e | e
  · rw [if_pos e] at h ⊢
    simp only [Bool.and_eq_true, decide_eq_true_eq] at h
    rw [tokB_2, h.1]; simp
  · rw [if_neg (by omega), if_pos e] at h
    rw [if_neg (by omega)]
    simp only [Bool.and_eq_true, decide_eq_true_eq] at h
    rw [tokB_1, h.1]; simp

theorem toksL_nextI {c : UInt8} {l : List UInt8} {t : TT} {e : Nat} (hc : c ≠ 32) (h : nextT (c :: l) = some (t, e)) : toksL (c :: l) = (toksL ((c :: l).drop e)).map (t :: ·) := by
  rw [toksL_next c l hc, h]
theorem toksL_tok {t : TT} {r : List UInt8} (ht : tokB t = true) (hr : Ends r) : toksL (tokT t ++ r) = (toksL r).map (t :: ·) := by
  obtain ⟨b, x, hb, h32⟩ := tokT_head ht
  have hn := next_tok ht hr
  rw [hb, List.cons_append] at hn ⊢
  rw [toksL_nextI h32 hn]
  congr 2
  simp
theorem toksL_par (r : List UInt8) : toksL (40 :: r) = (toksL r).map (parO :: ·) := by
  rw [toksL_nextI (by decide) (next_paren r)]
  rfl
/-- The tokens of a sum's text. -/
theorem toksL_text {t : Tr} (h : t.ok) : ∀ {r : List UInt8}, Ends r → toksL (t.text ++ r) = (toksL r).map (t.toks ++ ·) := by
  induction t with
  | leaf x =>
    intro r hr
    simp only [Tr.text, Tr.toks]
    rw [toksL_tok (tkOf_ok h.1 h.2) hr]
    rfl
  | one k t ih =>
    intro r hr
    have hk := sgn_ok k (by rcases h.1 with h | h <;> omega) (by rcases h.1 with h | h <;> omega)
    simp only [Tr.text, Tr.toks, List.cons_append, List.append_assoc]
    rw [toksL_par]
    have e1 := toksL_tok (r := 32 :: (t.text ++ (41 :: r))) hk (Ends.blank _)
    rw [show tokT (sgnT k) = (sgn k).data.toList from tokT_3 _ _] at e1
    rw [List.nil_append, e1, toksL_blank, ih h.2 (Ends.paren r)]
    have e2 := toksL_tok (t := parC) (r := r) (by decide +kernel) hr
    rw [show tokT parC = [41] from rfl, List.singleton_append] at e2
    rw [e2]
    cases toksL r <;> simp
  | two k a b iha ihb =>
    intro r hr
    have hk := sgn_ok k (by have := h.1; omega) (by have := h.1; omega)
    simp only [Tr.text, Tr.toks, List.cons_append, List.append_assoc]
    rw [toksL_par, iha h.2.1 (Ends.blank _), toksL_blank]
    have e1 := toksL_tok (r := 32 :: (b.text ++ (41 :: r))) hk (Ends.blank _)
    rw [show tokT (sgnT k) = (sgn k).data.toList from tokT_3 _ _] at e1
    rw [List.nil_append, e1, toksL_blank, ihb h.2.2 (Ends.paren r)]
    have e2 := toksL_tok (t := parC) (r := r) (by decide +kernel) hr
    rw [show tokT parC = [41] from rfl, List.singleton_append] at e2
    rw [e2]
    cases toksL r <;> simp
theorem toksB_sum {t : Tr} (h : t.ok) (s : ByteArray) (hs : s.data.toList = t.text) (hm : s.size ≤ 2000) : toksB s = some t.toks := by
  unfold toksB
  rw [if_pos hm, hs, Lib.size_eq, hs]
  have := toksL_text h (r := []) (.inl rfl)
  rw [List.append_nil, toksL_nil] at this
  simpa [toksL] using this
end Go.Proofs.YtmmandkellhbeaaGreatDoor

/-
  What tokens are read as, level by level, without any program; and that a sum is read from its tokens.
-/
namespace Go.Proofs.YtmmandkellhbeaaGreatDoor

/-- Is that sign next? What stands behind it. -/
def seesT (s : ByteArray) : List TT → Option (List TT)
  | [] => none
  | t :: r => if t.1 = 3 ∧ t.2.1 = s then some r else none
theorem seesT_cons (s : ByteArray) (t : TT) (r : List TT) : seesT s (t :: r) = if t.1 = 3 ∧ t.2.1 = s then some r else none := rfl
theorem sees_this (s : ByteArray) (c : CK) (r : List TT) : seesT s ((3, s, c) :: r) = some r := by rw [seesT_cons, if_pos ⟨rfl, rfl⟩]
/-- The kinds of a level: or, and, = and <, + and -, * and /. -/
def kindsL (lev : Nat) : List Int := if lev = 0 then [10] else if lev = 1 then [9] else if lev = 3 then [7, 8] else if lev = 4 then [3, 4] else if lev = 5 then [5, 6] else []
/-- Which sign of that level is next, and what stands behind it. -/
def twoK (r : List TT) : List Int → Option (Int × List TT)
  | [] => none
  | k :: ks => match seesT (sgn k) r with
    | some r1 => some (k, r1)
    | none => twoK r ks
def twoT (lev : Nat) (r : List TT) : Option (Int × List TT) := twoK r (kindsL lev)
/-- The item of a token that is one alone. -/
def itmOf (t : TT) : TI := if t.1 = 1 then (2, zeroC, t.2.1) else (1, t.2.2, ⟨#[]⟩)
mutual
/-- A level: 0 or, 1 and, 2 not, 3 = and <, 4 + and -, 5 * and /, 6 lacks, 7 one alone. -/
def levP : Nat → Nat → List TT → Option (List TI × List TT)
  | 0, _, _ => none
  | f + 1, lev, r =>
    if lev = 0 ∨ lev = 1 ∨ lev = 4 ∨ lev = 5 then (levP f (lev + 1) r).bind (fun p => tailP f lev p.1 p.2)
    else if lev = 3 then (levP f 4 r).bind (fun p => match twoT 3 p.2 with
      | none => some p
      | some (k, r2) => (levP f 4 r2).map (fun q => (p.1 ++ (q.1 ++ [opI k]), q.2)))
    else if lev = 2 ∨ lev = 6 then match seesT (sgn (if lev = 2 then 11 else 12)) r with
      | some r1 => (levP f lev r1).map (fun q => (q.1 ++ [opI (if lev = 2 then 11 else 12)], q.2))
      | none => levP f (lev + 1) r
    else match seesT ⟨#[40]⟩ r with
      | some r1 => (levP f 0 r1).bind (fun q => (seesT ⟨#[41]⟩ q.2).map (fun r2 => (q.1, r2)))
      | none => match r with
        | [] => none
        | t :: r1 => if t.1 = 3 then none else some ([itmOf t], r1)
def tailP : Nat → Nat → List TI → List TT → Option (List TI × List TT)
  | 0, _, _, _ => none
  | f + 1, lev, o, r => match twoT lev r with
    | none => some (o, r)
    | some (k, r1) => (levP f (lev + 1) r1).bind (fun p => tailP f lev (o ++ (p.1 ++ [opI k])) p.2)
end
theorem sees_len {s : ByteArray} {r r1 : List TT} (h : seesT s r = some r1) : r1.length < r.length := by
  cases r with
  | nil => cases h
  | cons t r =>
    rw [seesT_cons] at h
    split at h
    · cases h; simp
    · cases h
theorem twoK_len {r r1 : List TT} {k : Int} {ks : List Int} (h : twoK r ks = some (k, r1)) : r1.length < r.length := by
  induction ks with
  | nil => cases h
  | cons j ks ih =>
    unfold twoK at h
    cases hs : seesT (sgn j) r with
    | some r2 => rw [hs] at h; cases h; exact sees_len hs
    | none => rw [hs] at h; exact ih h
/-- What is read is passed over. -/
theorem levP_len : ∀ f, (∀ lev r o r', levP f lev r = some (o, r') → r'.length < r.length) ∧ (∀ lev o r o' r', tailP f lev o r = some (o', r') → r'.length ≤ r.length)
  | 0 => ⟨fun lev r o r' h => by simp [levP] at h, fun lev o r o' r' h => by simp [tailP] at h⟩
  | f + 1 => by
    obtain ⟨ih1, ih2⟩ := levP_len f
    refine ⟨fun lev r o r' h => ?_, fun lev o r o' r' h => ?_⟩
    · unfold levP at h
      split at h
      · obtain ⟨p, h1, h2⟩ := Option.bind_eq_some_iff.1 h
        have := ih1 _ _ _ _ (show levP f (lev + 1) r = some (p.1, p.2) from h1)
        have := ih2 _ _ _ _ _ h2
        omega
      · split at h
        · obtain ⟨p, h1, h2⟩ := Option.bind_eq_some_iff.1 h
          have l1 := ih1 _ _ _ _ (show levP f 4 r = some (p.1, p.2) from h1)
          cases ht : twoT 3 p.2 with
          | none =>
            rw [ht] at h2
            cases h2
            exact l1
          | some q =>
            obtain ⟨k, r2⟩ := q
            rw [ht] at h2
            obtain ⟨z, h3, h4⟩ := Option.map_eq_some_iff.1 h2
            cases h4
            have := ih1 _ _ _ _ (show levP f 4 r2 = some (z.1, z.2) from h3)
            have := twoK_len ht
            omega
        · split at h
          · cases hs : seesT (sgn (if lev = 2 then 11 else 12)) r with
            | some r1 =>
              rw [hs] at h
              obtain ⟨z, h3, h4⟩ := Option.map_eq_some_iff.1 h
              cases h4
              have := ih1 _ _ _ _ (show levP f lev r1 = some (z.1, z.2) from h3)
              have := sees_len hs
              omega
            | none => rw [hs] at h; exact ih1 _ _ _ _ h
          · cases hs : seesT ⟨#[40]⟩ r with
            | some r1 =>
              rw [hs] at h
              obtain ⟨q, h1, h2⟩ := Option.bind_eq_some_iff.1 h
              obtain ⟨z, h3, h4⟩ := Option.map_eq_some_iff.1 h2
              cases h4
              have := ih1 _ _ _ _ (show levP f 0 r1 = some (q.1, q.2) from h1)
              have := sees_len hs
              have := sees_len h3
              omega
            | none =>
              rw [hs] at h
              cases r with
              | nil => cases h
              | cons t r =>
                simp only [] at h
                split at h
                · cases h
                · cases h; simp
    · unfold tailP at h
      cases ht : twoT lev r with
      | none => rw [ht] at h; cases h; exact Nat.le_refl _
      | some q =>
        obtain ⟨k, r1⟩ := q
        rw [ht] at h
        obtain ⟨p, h1, h2⟩ := Option.bind_eq_some_iff.1 h
        have := ih1 _ _ _ _ (show levP f (lev + 1) r1 = some (p.1, p.2) from h1)
        have := ih2 _ _ _ _ _ h2
        have := twoK_len ht
        omega
/-- More steps than are wanted say the same. -/
theorem levP_more : ∀ f, (∀ lev r f', lev ≤ 7 → 10 * r.length + (7 - lev) < f → f ≤ f' → levP f' lev r = levP f lev r) ∧ (∀ lev o r f', lev ≤ 5 → 10 * r.length + 8 < f → f ≤ f' → tailP f' lev o r = tailP f lev o r)
  | 0 => ⟨fun _ _ _ _ h _ => by omega, fun _ _ _ _ _ h _ => by omega⟩
  | f + 1 => by
    obtain ⟨ih1, ih2⟩ := levP_more f
    refine ⟨fun lev r f' hl h hf => ?_, fun lev o r f' hl h hf => ?_⟩
    · obtain ⟨g, rfl⟩ : ∃ g, f' = g + 1 := ⟨f' - 1, by omega⟩
      unfold levP
      by_cases c1 : lev = 0 ∨ lev = 1 ∨ lev = 4 ∨ lev = 5
      · rw [if_pos c1, if_pos c1, ih1 (lev + 1) r g (by omega) (by omega) (by omega)]
        cases hq : levP f (lev + 1) r with
        | none => rfl
        | some p =>
          obtain ⟨o, r1⟩ := p
          have := (levP_len f).1 _ _ _ _ hq
          simp only [Option.bind_some]
          exact ih2 lev o r1 g (by omega) (by omega) (by omega)
      rw [if_neg c1, if_neg c1]
      by_cases c2 : lev = 3
      · rw [if_pos c2, if_pos c2, ih1 4 r g (by omega) (by omega) (by omega)]
        cases hq : levP f 4 r with
        | none => rfl
        | some p =>
          obtain ⟨o, r1⟩ := p
          have := (levP_len f).1 _ _ _ _ hq
          simp only [Option.bind_some]
          cases ht : twoT 3 r1 with
          | none => rfl
          | some q =>
            obtain ⟨k, r2⟩ := q
            have := twoK_len ht
            simp only []
            rw [ih1 4 r2 g (by omega) (by omega) (by omega)]
      rw [if_neg c2, if_neg c2]
      by_cases c3 : lev = 2 ∨ lev = 6
      · rw [if_pos c3, if_pos c3]
        cases hs : seesT (sgn (if lev = 2 then 11 else 12)) r with
        | some r1 =>
          have := sees_len hs
          simp only []
          rw [ih1 lev r1 g hl (by omega) (by omega)]
        | none => exact ih1 (lev + 1) r g (by omega) (by omega) (by omega)
      rw [if_neg c3, if_neg c3]
      cases hs : seesT ⟨#[40]⟩ r with
      | some r1 =>
        have := sees_len hs
        simp only []
        rw [ih1 0 r1 g (by omega) (by omega) (by omega)]
      | none => rfl
    · obtain ⟨g, rfl⟩ : ∃ g, f' = g + 1 := ⟨f' - 1, by omega⟩
      unfold tailP
      cases ht : twoT lev r with
      | none => rfl
      | some q =>
        obtain ⟨k, r1⟩ := q
        have := twoK_len ht
        simp only []
        rw [ih1 (lev + 1) r1 g (by omega) (by omega) (by omega)]
        cases hq : levP f (lev + 1) r1 with
        | none => rfl
        | some p =>
          obtain ⟨o2, r2⟩ := p
          have := (levP_len f).1 _ _ _ _ hq
          simp only [Option.bind_some]
          exact ih2 lev _ r2 g hl (by omega) (by omega)
/-- What a level reads. -/
def levR (lev : Nat) (r : List TT) : Option (List TI × List TT) := levP (10 * r.length + 8) lev r
theorem levR_of {lev : Nat} {r : List TT} (hl : lev ≤ 7) {f : Nat} (hf : 10 * r.length + 8 ≤ f) : levP f lev r = levR lev r :=
  (levP_more (10 * r.length + 8)).1 lev r f hl (by omega) hf
/-- Read at that level, with steps enough. -/
def Par (lev : Nat) (r0 : List TT) (o : List TI) (r : List TT) : Prop := ∃ f0, ∀ f, f0 ≤ f → levP f lev r0 = some (o, r)
theorem Par.up {lev : Nat} {r0 r : List TT} {o : List TI} (h : Par (lev + 1) r0 o r) (hl : lev = 0 ∨ lev = 1 ∨ lev = 4 ∨ lev = 5) (hn : twoT lev r = none) : Par lev r0 o r := by
  obtain ⟨f0, h⟩ := h
  refine ⟨f0 + 2, fun f hf => ?_⟩
  obtain ⟨g, rfl⟩ : ∃ g, f = g + 1 + 1 := ⟨f - 2, by omega⟩
  unfold levP
  rw [if_pos hl, h (g + 1) (by omega)]
  simp only [Option.bind_some]
  unfold tailP
  rw [hn]
theorem Par.up3 {r0 r : List TT} {o : List TI} (h : Par 4 r0 o r) (hn : twoT 3 r = none) : Par 3 r0 o r := by
  obtain ⟨f0, h⟩ := h
  refine ⟨f0 + 1, fun f hf => ?_⟩
  obtain ⟨g, rfl⟩ : ∃ g, f = g + 1 := ⟨f - 1, by omega⟩
  unfold levP
  rw [if_neg (by omega), if_pos rfl, h g (by omega)]
  simp only [Option.bind_some]
  rw [hn]
theorem Par.up2 {lev : Nat} {r0 r : List TT} {o : List TI} (h : Par (lev + 1) r0 o r) (hl : lev = 2 ∨ lev = 6) (hn : seesT (sgn (if lev = 2 then 11 else 12)) r0 = none) : Par lev r0 o r := by
  obtain ⟨f0, h⟩ := h
  refine ⟨f0 + 1, fun f hf => ?_⟩
  obtain ⟨g, rfl⟩ : ∃ g, f = g + 1 := ⟨f - 1, by omega⟩
  unfold levP
  rw [if_neg (by omega), if_neg (by omega), if_pos hl, hn]
  exact h g (by omega)
/-- Nothing of that level or a later one is next. -/
def StopT (lev : Nat) (r : List TT) : Prop := ∀ L, lev ≤ L → L ≤ 5 → twoT L r = none
/-- No sign stands ahead that is followed by one alone. -/
def NoPre (r : List TT) : Prop := seesT (sgn 11) r = none ∧ seesT (sgn 12) r = none
theorem StopT.mono {lev lev' : Nat} {r : List TT} (h : StopT lev r) (hl : lev ≤ lev') : StopT lev' r := fun L h1 h2 => h L (by omega) h2
/-- What is one alone is read at every level above. -/
theorem Par.down {r0 r : List TT} {o : List TI} (h : Par 7 r0 o r) (hp : NoPre r0) {lev : Nat} (hl : lev ≤ 7) (hs : StopT lev r) : Par lev r0 o r := by
  have h6 : lev ≤ 6 → Par 6 r0 o r := fun _ => h.up2 (.inr rfl) hp.2
  have h5 : lev ≤ 5 → Par 5 r0 o r := fun e => (h6 (by omega)).up (by omega) (hs 5 e (by omega))
  have h4 : lev ≤ 4 → Par 4 r0 o r := fun e => (h5 (by omega)).up (by omega) (hs 4 e (by omega))
  have h3 : lev ≤ 3 → Par 3 r0 o r := fun e => (h4 (by omega)).up3 (hs 3 e (by omega))
  have h2 : lev ≤ 2 → Par 2 r0 o r := fun e => (h3 (by omega)).up2 (.inl rfl) hp.1
  have h1 : lev ≤ 1 → Par 1 r0 o r := fun e => (h2 (by omega)).up (by omega) (hs 1 e (by omega))
  have h0 : lev ≤ 0 → Par 0 r0 o r := fun e => (h1 (by omega)).up (by omega) (hs 0 e (by omega))
  have : lev = 0 ∨ lev = 1 ∨ lev = 2 ∨ lev = 3 ∨ lev = 4 ∨ lev = 5 ∨ lev = 6 ∨ lev = 7 := by omega
  rcases this with rfl | rfl | rfl | rfl | rfl | rfl | rfl | rfl
  · exact h0 (by omega)
  · exact h1 (by omega)
  · exact h2 (by omega)
  · exact h3 (by omega)
  · exact h4 (by omega)
  · exact h5 (by omega)
  · exact h6 (by omega)
  · exact h
/-- From level 2, or 6, on to a level above, behind a sign that is followed by one alone. -/
theorem Par.down2 {r0 r : List TT} {o : List TI} (h : Par 2 r0 o r) (hs : StopT 0 r) : Par 0 r0 o r :=
  (h.up (lev := 1) (by omega) (hs 1 (by omega) (by omega))).up (by omega) (hs 0 (by omega) (by omega))
theorem Par.down6 {r0 r : List TT} {o : List TI} (h : Par 6 r0 o r) (hs : StopT 0 r) (hn : seesT (sgn 11) r0 = none) : Par 0 r0 o r :=
  Par.down2 (((h.up (lev := 5) (by omega) (hs 5 (by omega) (by omega))).up (lev := 4) (by omega) (hs 4 (by omega) (by omega))).up3 (hs 3 (by omega) (by omega)) |>.up2 (lev := 2) (.inl rfl) hn) hs
theorem Par.pre {lev : Nat} {r1 r : List TT} {o : List TI} (hl : lev = 2 ∨ lev = 6) (h : Par lev r1 o r) : Par lev (sgnT (if lev = 2 then 11 else 12) :: r1) (o ++ [opI (if lev = 2 then 11 else 12)]) r := by
  obtain ⟨f0, h⟩ := h
  refine ⟨f0 + 1, fun f hf => ?_⟩
  obtain ⟨g, rfl⟩ : ∃ g, f = g + 1 := ⟨f - 1, by omega⟩
  unfold levP
  rw [if_neg (by omega), if_neg (by omega), if_pos hl]
  have : seesT (sgn (if lev = 2 then 11 else 12)) (sgnT (if lev = 2 then 11 else 12) :: r1) = some r1 := sees_this _ _ _
  rw [this]
  simp only []
  rw [h g (by omega)]
  rfl
theorem Par.two {lev : Nat} {r0 r1 r2 : List TT} {oa ob : List TI} {k : Int} (hl : lev = 0 ∨ lev = 1 ∨ lev = 4 ∨ lev = 5) (ha : Par (lev + 1) r0 oa (sgnT k :: r1)) (ht : twoT lev (sgnT k :: r1) = some (k, r1)) (hb : Par (lev + 1) r1 ob r2) (hn : twoT lev r2 = none) : Par lev r0 (oa ++ (ob ++ [opI k])) r2 := by
  obtain ⟨f1, ha⟩ := ha
  obtain ⟨f2, hb⟩ := hb
  refine ⟨f1 + f2 + 3, fun f hf => ?_⟩
  obtain ⟨g, rfl⟩ : ∃ g, f = g + 1 + 1 + 1 := ⟨f - 3, by omega⟩
  unfold levP
  rw [if_pos hl, ha _ (by omega)]
  simp only [Option.bind_some]
  unfold tailP
  rw [ht]
  simp only []
  rw [hb _ (by omega)]
  simp only [Option.bind_some]
  unfold tailP
  rw [hn]
theorem Par.two3 {r0 r1 r2 : List TT} {oa ob : List TI} {k : Int} (ha : Par 4 r0 oa (sgnT k :: r1)) (ht : twoT 3 (sgnT k :: r1) = some (k, r1)) (hb : Par 4 r1 ob r2) : Par 3 r0 (oa ++ (ob ++ [opI k])) r2 := by
  obtain ⟨f1, ha⟩ := ha
  obtain ⟨f2, hb⟩ := hb
  refine ⟨f1 + f2 + 1, fun f hf => ?_⟩
  obtain ⟨g, rfl⟩ : ∃ g, f = g + 1 := ⟨f - 1, by omega⟩
  unfold levP
  rw [if_neg (by omega), if_pos rfl, ha _ (by omega)]
  simp only [Option.bind_some]
  rw [ht]
  simp only []
  rw [hb _ (by omega)]
  rfl
theorem Par.paren {r1 r : List TT} {o : List TI} (h : Par 0 r1 o (parC :: r)) : Par 7 (parO :: r1) o r := by
  obtain ⟨f0, h⟩ := h
  refine ⟨f0 + 1, fun f hf => ?_⟩
  obtain ⟨g, rfl⟩ : ∃ g, f = g + 1 := ⟨f - 1, by omega⟩
  unfold levP
  rw [if_neg (by omega), if_neg (by omega), if_neg (by omega)]
  have e1 : seesT ⟨#[40]⟩ (parO :: r1) = some r1 := sees_this _ _ _
  have e2 : seesT ⟨#[41]⟩ (parC :: r) = some r := sees_this _ _ _
  rw [e1]
  simp only []
  rw [h g (by omega)]
  simp only [Option.bind_some]
  rw [e2]
  rfl
/-- The level of a sign between two. -/
def levK (k : Int) : Nat := if k = 10 then 0 else if k = 9 then 1 else if k = 7 ∨ k = 8 then 3 else if k = 3 ∨ k = 4 then 4 else 5
theorem sees_sgn (j k : Int) (hj : 3 ≤ j ∧ j ≤ 12) (hk : 3 ≤ k ∧ k ≤ 12) (r : List TT) : seesT (sgn j) (sgnT k :: r) = if j = k then some r else none := by
  have h1 : j = 3 ∨ j = 4 ∨ j = 5 ∨ j = 6 ∨ j = 7 ∨ j = 8 ∨ j = 9 ∨ j = 10 ∨ j = 11 ∨ j = 12 := by omega
  have h2 : k = 3 ∨ k = 4 ∨ k = 5 ∨ k = 6 ∨ k = 7 ∨ k = 8 ∨ k = 9 ∨ k = 10 ∨ k = 11 ∨ k = 12 := by omega
  have key : (sgn k = sgn j) ↔ j = k := by
    rcases h1 with rfl | rfl | rfl | rfl | rfl | rfl | rfl | rfl | rfl | rfl <;> rcases h2 with rfl | rfl | rfl | rfl | rfl | rfl | rfl | rfl | rfl | rfl <;> decide +kernel
  rw [seesT_cons]
  by_cases e : j = k
  · rw [if_pos ⟨rfl, key.2 e⟩, if_pos e]
  · rw [if_neg (fun h => e (key.1 h.2)), if_neg e]
theorem two_sgn (k : Int) (hk : 3 ≤ k ∧ k ≤ 10) (r : List TT) (L : Nat) (hL : L ≤ 5) : twoT L (sgnT k :: r) = if levK k = L then some (k, r) else none := by
  have h2 : k = 3 ∨ k = 4 ∨ k = 5 ∨ k = 6 ∨ k = 7 ∨ k = 8 ∨ k = 9 ∨ k = 10 := by omega
  have h1 : L = 0 ∨ L = 1 ∨ L = 2 ∨ L = 3 ∨ L = 4 ∨ L = 5 := by omega
  rcases h1 with rfl | rfl | rfl | rfl | rfl | rfl <;> simp only [twoT, kindsL, twoK, reduceIte, Nat.reduceEqDiff] <;> (repeat rw [sees_sgn _ k (by omega) (by omega) r]) <;> rcases h2 with rfl | rfl | rfl | rfl | rfl | rfl | rfl | rfl <;> simp [levK]
theorem stop_sgn (k : Int) (hk : 3 ≤ k ∧ k ≤ 10) (r : List TT) : StopT (levK k + 1) (sgnT k :: r) := fun L h1 h2 => by
  rw [two_sgn k hk r L h2, if_neg (by omega)]
theorem sees_other {s : ByteArray} {t : TT} {r : List TT} (h : t.1 ≠ 3 ∨ t.2.1 ≠ s) : seesT s (t :: r) = none := by
  rw [seesT_cons, if_neg (fun ⟨a, b⟩ => by rcases h with h | h <;> contradiction)]
theorem stop_par (r : List TT) : StopT 0 (parC :: r) := fun L _ h2 => by
  have h1 : L = 0 ∨ L = 1 ∨ L = 2 ∨ L = 3 ∨ L = 4 ∨ L = 5 := by omega
  have key : ∀ k : Int, 3 ≤ k → k ≤ 12 → seesT (sgn k) (parC :: r) = none := fun k a b => by
    have h2 : k = 3 ∨ k = 4 ∨ k = 5 ∨ k = 6 ∨ k = 7 ∨ k = 8 ∨ k = 9 ∨ k = 10 ∨ k = 11 ∨ k = 12 := by omega
    refine sees_other (.inr ?_)
    rcases h2 with rfl | rfl | rfl | rfl | rfl | rfl | rfl | rfl | rfl | rfl <;> decide +kernel
  rcases h1 with rfl | rfl | rfl | rfl | rfl | rfl <;> simp only [twoT, kindsL, twoK, reduceIte, Nat.reduceEqDiff] <;> (repeat rw [key _ (by omega) (by omega)])
theorem stop_nil : StopT 0 [] := fun L _ h2 => by
  have h1 : L = 0 ∨ L = 1 ∨ L = 2 ∨ L = 3 ∨ L = 4 ∨ L = 5 := by omega
  rcases h1 with rfl | rfl | rfl | rfl | rfl | rfl <;> rfl
theorem tkOf_kind {x : TI} (hx : x.1 = 1 ∨ x.1 = 2) : (tkOf x).1 ≠ 3 := by
  unfold tkOf
  rcases hx with e | e
  · rw [if_pos e]
    exact (by decide : (2 : Int) ≠ 3)
  · rw [if_neg (by omega)]
    exact (by decide : (1 : Int) ≠ 3)
theorem itm_tk {x : TI} (h : itemB x = true) (hx : x.1 = 1 ∨ x.1 = 2) : itmOf (tkOf x) = x := by
  obtain ⟨k, c, s⟩ := x
  unfold itemB at h
  dsimp only at h hx
  unfold itmOf tkOf
  dsimp only
  rcases hx with rfl | rfl
  · rw [if_pos rfl] at h
    simp only [Bool.and_eq_true, decide_eq_true_eq] at h
    simp [h.2]
  · rw [if_neg (by decide), if_pos rfl] at h
    simp only [Bool.and_eq_true, decide_eq_true_eq] at h
    simp [h.2]
theorem pre_tree {t : Tr} (h : t.ok) (r : List TT) : NoPre (t.toks ++ r) := by
  cases t with
  | leaf x => exact ⟨sees_other (.inl (tkOf_kind h.2)), sees_other (.inl (tkOf_kind h.2))⟩
  | one k t => exact ⟨sees_other (.inr (by decide +kernel)), sees_other (.inr (by decide +kernel))⟩
  | two k a b => exact ⟨sees_other (.inr (by decide +kernel)), sees_other (.inr (by decide +kernel))⟩
/-- A sum is read from its tokens. -/
theorem par_tree {t : Tr} (h : t.ok) : ∀ r, Par 7 (t.toks ++ r) t.post r := by
  induction t with
  | leaf x =>
    intro r
    refine ⟨1, fun f hf => ?_⟩
    obtain ⟨g, rfl⟩ : ∃ g, f = g + 1 := ⟨f - 1, by omega⟩
    simp only [Tr.toks, Tr.post, List.singleton_append]
    unfold levP
    rw [if_neg (by omega), if_neg (by omega), if_neg (by omega), sees_other (.inl (tkOf_kind h.2))]
    simp only []
    rw [if_neg (tkOf_kind h.2), itm_tk h.1 h.2]
  | one k t ih =>
    intro r
    have hi := ih h.2 (parC :: r)
    simp only [Tr.toks, Tr.post, List.cons_append, List.append_assoc, List.nil_append]
    refine Par.paren ?_
    rcases h.1 with rfl | rfl
    · exact Par.down2 (Par.pre (lev := 2) (.inl rfl) (hi.down (pre_tree h.2 _) (by omega) ((stop_par r).mono (by omega)))) (stop_par r)
    · refine Par.down6 (Par.pre (lev := 6) (.inr rfl) (hi.down (pre_tree h.2 _) (by omega) ((stop_par r).mono (by omega)))) (stop_par r) ?_
      rw [sees_sgn 11 12 (by omega) (by omega), if_neg (by omega)]
  | two k a b iha ihb =>
    intro r
    have hk := h.1
    have ha := iha h.2.1 (sgnT k :: (b.toks ++ parC :: r))
    have hb := ihb h.2.2 (parC :: r)
    simp only [Tr.toks, Tr.post, List.cons_append, List.append_assoc, List.nil_append]
    refine Par.paren ?_
    have hL : levK k ≤ 5 := by unfold levK; (repeat' split) <;> omega
    have hA : Par (levK k + 1) (a.toks ++ sgnT k :: (b.toks ++ parC :: r)) a.post (sgnT k :: (b.toks ++ parC :: r)) := ha.down (pre_tree h.2.1 _) (by omega) (stop_sgn k hk _)
    have hB : Par (levK k + 1) (b.toks ++ parC :: r) b.post (parC :: r) := hb.down (pre_tree h.2.2 _) (by omega) ((stop_par r).mono (by omega))
    have hT : twoT (levK k) (sgnT k :: (b.toks ++ parC :: r)) = some (k, b.toks ++ parC :: r) := by rw [two_sgn k hk _ _ hL, if_pos rfl]
    have hS := stop_par r
    have hcase : levK k = 0 ∨ levK k = 1 ∨ levK k = 3 ∨ levK k = 4 ∨ levK k = 5 := by unfold levK; (repeat' split) <;> omega
    have hp := (pre_tree h.2.1 (sgnT k :: (b.toks ++ parC :: r))).1
    rcases hcase with e | e | e | e | e
    · rw [e] at hA hB hT
      exact Par.two (.inl rfl) hA hT hB (hS 0 (by omega) (by omega))
    · rw [e] at hA hB hT
      exact (Par.two (.inr (.inl rfl)) hA hT hB (hS 1 (by omega) (by omega))).up (by omega) (hS 0 (by omega) (by omega))
    · rw [e] at hA hB hT
      exact Par.down2 ((Par.two3 hA hT hB).up2 (lev := 2) (.inl rfl) hp) hS
    · rw [e] at hA hB hT
      exact Par.down2 (((Par.two (.inr (.inr (.inl rfl))) hA hT hB (hS 4 (by omega) (by omega))).up3 (hS 3 (by omega) (by omega))).up2 (lev := 2) (.inl rfl) hp) hS
    · rw [e] at hA hB hT
      exact Par.down2 ((((Par.two (.inr (.inr (.inr rfl))) hA hT hB (hS 5 (by omega) (by omega))).up (lev := 4) (by omega) (hS 4 (by omega) (by omega))).up3 (hS 3 (by omega) (by omega))).up2 (lev := 2) (.inl rfl) hp) hS
theorem Par.levR {lev : Nat} {r0 r : List TT} {o : List TI} (h : Par lev r0 o r) (hl : lev ≤ 7) : levR lev r0 = some (o, r) := by
  obtain ⟨f0, h⟩ := h
  rw [← levR_of hl (f := f0 + (10 * r0.length + 8)) (by omega)]
  exact h _ (by omega)
theorem par_sum {t : Tr} (h : t.ok) : Par 0 t.toks t.post [] := by
  have := (par_tree h []).down (pre_tree h []) (lev := 0) (by omega) stop_nil
  rwa [List.append_nil] at this
end Go.Proofs.YtmmandkellhbeaaGreatDoor
