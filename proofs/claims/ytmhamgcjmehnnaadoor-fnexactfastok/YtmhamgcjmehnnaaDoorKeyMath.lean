/-
  Numerals without any program: what a list of digits spells, and that a numeral without noughts ahead is the one of what it spells.
-/
import Derived.Lib.ItoaNum
import Derived.Lib.ParseIntB
namespace Go.Proofs.YtmhamgcjmehnnaaDoor

def isDig (c : UInt8) : Bool := decide (48 ≤ c.toNat) && decide (c.toNat ≤ 57)
/-- What digits spell behind acc. -/
def valFrom (acc : Nat) : List UInt8 → Nat
  | [] => acc
  | c :: r => valFrom (acc * 10 + (c.toNat - 48)) r
theorem valFrom_nil (acc : Nat) : valFrom acc [] = acc := rfl
theorem valFrom_one (acc : Nat) (c : UInt8) : valFrom acc [c] = acc * 10 + (c.toNat - 48) := rfl
theorem valFrom_append (l m : List UInt8) (acc : Nat) : valFrom acc (l ++ m) = valFrom (valFrom acc l) m := by
  induction l generalizing acc with
  | nil => rfl
  | cons c l ih => exact ih _
theorem valFrom_snoc (l : List UInt8) (c : UInt8) (acc : Nat) : valFrom acc (l ++ [c]) = valFrom acc l * 10 + (c.toNat - 48) := by rw [valFrom_append]; rfl
theorem valFrom_mono (l : List UInt8) (acc : Nat) : acc ≤ valFrom acc l := by
  induction l generalizing acc with
  | nil => exact Nat.le_refl _
  | cons c l ih => exact Nat.le_trans (by omega) (ih _)
theorem valFrom_lt (l : List UInt8) (acc : Nat) (h : ∀ c ∈ l, isDig c = true) : valFrom acc l < (acc + 1) * 10 ^ l.length := by
  induction l generalizing acc with
  | nil => rw [valFrom_nil, List.length_nil, Nat.pow_zero]; omega
  | cons c l ih =>
    have hc : isDig c = true := h c (by simp)
    unfold isDig at hc
    simp at hc
    have := ih (acc * 10 + (c.toNat - 48)) (fun x hx => h x (by simp [hx]))
    refine Nat.lt_of_lt_of_le this ?_
    rw [List.length_cons, Nat.pow_succ, Nat.mul_comm (10 ^ l.length) 10, ← Nat.mul_assoc]
    exact Nat.mul_le_mul_right (10 ^ l.length) (show acc * 10 + (c.toNat - 48) + 1 ≤ (acc + 1) * 10 by omega)
theorem dig_of (c : UInt8) (h : isDig c = true) : UInt8.ofNat (48 + (c.toNat - 48)) = c := by
  unfold isDig at h
  simp at h
  rw [show 48 + (c.toNat - 48) = c.toNat by omega]
  simp
theorem dig_toNat (u : Nat) (h : u < 10) : (UInt8.ofNat (48 + u)).toNat = 48 + u := by
  rw [UInt8.toNat_ofNat_of_lt']
  exact Nat.lt_of_lt_of_le (show 48 + u < 58 by omega) (by decide)
theorem isDig_of (u : Nat) (h : u < 10) : isDig (UInt8.ofNat (48 + u)) = true := by
  unfold isDig; rw [dig_toNat u h]; simp; omega
/-- No nought ahead, but for 0 itself. -/
def Plain (l : List UInt8) : Prop := l ≠ [] ∧ (∀ c ∈ l, isDig c = true) ∧ (l.head? = some 48 → l.length = 1)
theorem Plain.pos {l : List UInt8} (h : Plain l) (h1 : l.length ≠ 1) : 1 ≤ valFrom 0 l := by
  obtain ⟨h0, hd, hh⟩ := h
  cases l with
  | nil => exact absurd rfl h0
  | cons c r =>
    have hc := hd c (by simp)
    have : c ≠ 48 := fun e => h1 (hh (by simp [e]))
    have h48 : c.toNat ≠ 48 := fun e => this (UInt8.toNat_inj.1 (by simpa using e))
    unfold isDig at hc
    simp at hc
    exact Nat.le_trans (by omega) (valFrom_mono r _)
/-- A numeral without noughts ahead is that of what it spells. -/
theorem decDigits_val : ∀ (n : Nat) (l : List UInt8), l.length = n → Plain l → Lib.decDigits (valFrom 0 l) = l := by
  intro n
  induction n with
  | zero => intro l hl h; exact absurd (List.length_eq_zero_iff.1 hl) h.1
  | succ n ih =>
    intro l hl h
    rcases List.eq_nil_or_concat l with rfl | ⟨r, c, hr⟩
    · exact absurd rfl h.1
    · have hr : l = r ++ [c] := by rw [hr, List.concat_eq_append]
      subst hr
      have hc := h.2.1 c (by simp)
      have hc2 := hc
      unfold isDig at hc2
      simp at hc2
      rw [valFrom_snoc]
      cases r with
      | nil =>
        rw [valFrom_nil, show 0 * 10 + (c.toNat - 48) = c.toNat - 48 by omega, Lib.decDigits_one (by omega), dig_of c hc]
        rfl
      | cons d r =>
        have P : Plain (d :: r) := ⟨by simp, fun x hx => h.2.1 x (by simp at hx ⊢; rcases hx with h | h <;> simp [h]), fun e => by
          have := h.2.2 (by simpa using e)
          simp at this⟩
        have hne : d ≠ 48 := fun e => by
          have := h.2.2 (by simp [e])
          simp at this
        have hpos : 1 ≤ valFrom 0 (d :: r) := by
          by_cases h1 : (d :: r).length = 1
          · have : r = [] := by simpa using h1
            subst this
            have hd := P.2.1 d (by simp)
            unfold isDig at hd
            simp at hd
            have h48 : d.toNat ≠ 48 := fun e => hne (UInt8.toNat_inj.1 (by simpa using e))
            rw [valFrom_one]; omega
          · exact P.pos h1
        have hIH := ih (d :: r) (by simp at hl ⊢; omega) P
        rw [Lib.decDigits, dif_neg (by omega), show (valFrom 0 (d :: r) * 10 + (c.toNat - 48)) / 10 = valFrom 0 (d :: r) by omega, hIH,
          show (valFrom 0 (d :: r) * 10 + (c.toNat - 48)) % 10 = c.toNat - 48 by omega, dig_of c hc]
/-- A numeral spells its number, and has no nought ahead. -/
theorem decDigits_plain (u : Nat) : valFrom 0 (Lib.decDigits u) = u ∧ Plain (Lib.decDigits u) ∧ (Lib.decDigits u).head? ≠ none := by
  induction u using Nat.strongRecOn with
  | _ u ih =>
    by_cases h : u < 10
    · rw [Lib.decDigits_one h]
      refine ⟨?_, ⟨by simp, ?_, fun _ => rfl⟩, by simp⟩
      · rw [valFrom_one, dig_toNat u h]; omega
      · intro c hc; rw [List.mem_singleton] at hc; subst hc; exact isDig_of u h
    · obtain ⟨h1, h2, h3⟩ := ih (u / 10) (by omega)
      rw [Lib.decDigits, dif_neg h]
      have hm : u % 10 < 10 := by omega
      refine ⟨?_, ⟨by simp, ?_, ?_⟩, ?_⟩
      · rw [valFrom_snoc, h1, dig_toNat _ hm]; omega
      · intro c hc
        rcases List.mem_append.1 hc with h | h
        · exact h2.2.1 c h
        · rw [List.mem_singleton] at h; subst h; exact isDig_of _ hm
      · intro e
        exfalso
        cases hD : Lib.decDigits (u / 10) with
        | nil => exact h2.1 hD
        | cons d r =>
          rw [hD] at e h1 h2
          have e48 : d = 48 := by simpa using e
          have hl := h2.2.2 (by simp [e48])
          have : r = [] := by simpa using hl
          subst this
          rw [e48] at h1
          have : u / 10 = 0 := by rw [← h1]; rfl
          omega
      · simp
theorem decDigits_len (u : Nat) (h : u < 10000000000) : (Lib.decDigits u).length ≤ 10 := by
  rw [Lib.decDigits_length]
  have : ∀ (k v : Nat), v < 10 ^ (k + 1) → Lib.nDigits v ≤ k + 1 := by
    intro k
    induction k with
    | zero => intro v hv; rw [Lib.nDigits_small (by simpa using hv)]; omega
    | succ k ih =>
      intro v hv
      by_cases h10 : v < 10
      · rw [Lib.nDigits_small h10]; omega
      · rw [Lib.nDigits_big h10]
        have := ih (v / 10) (by rw [Nat.pow_succ] at hv; omega)
        omega
  exact this 9 u (by simpa using h)
/-- What ParseUint makes of digits that spell no more than a uint64 holds. -/
theorem parseUintM_val (l : List UInt8) (acc : Nat) (hd : ∀ c ∈ l, isDig c = true) (hv : valFrom acc l ≤ 18446744073709551615) : Lib.parseUintM 18446744073709551615 acc l = .ok (valFrom acc l) := by
  induction l generalizing acc with
  | nil => rfl
  | cons c r ih =>
    have hc := hd c (by simp)
    unfold isDig at hc
    simp at hc
    have hm := valFrom_mono r (acc * 10 + (c.toNat - 48))
    have hv' : valFrom (acc * 10 + (c.toNat - 48)) r ≤ 18446744073709551615 := hv
    rw [Lib.parseUintM, if_pos hc, if_neg (by omega), if_neg (by omega), ih _ (fun x hx => hd x (by simp [hx])) hv']
    rfl
theorem itoa_nonneg (n : Int) (h : 0 ≤ n) : Lib.itoa n = Lib.decDigits n.toNat := by unfold Lib.itoa; rw [if_neg (by omega)]
theorem itoa_neg (n : Int) (h : n < 0) : Lib.itoa n = 45 :: Lib.decDigits n.natAbs := by unfold Lib.itoa; rw [if_pos h]
/-- What is parsed of a numeral is its number. -/
theorem parse_itoa (n : Int) (h0 : -1000000000 ≤ n) (h1 : n ≤ 1000000000) : Lib.parseIntB 64 (Lib.itoa n) = .ok n := by
  have key : ∀ u : Nat, u ≤ 1000000000 → Lib.parseUintB 64 (Lib.decDigits u) = .ok u := by
    intro u hu
    obtain ⟨v, p, _⟩ := decDigits_plain u
    unfold Lib.parseUintB
    rw [if_neg p.1]
    have := parseUintM_val (Lib.decDigits u) 0 p.2.1 (by omega)
    rw [v] at this
    simpa using this
  by_cases hn : n < 0
  · rw [itoa_neg n hn]
    unfold Lib.parseIntB
    simp only []
    rw [if_pos (by decide), key n.natAbs (by omega)]
    simp only []
    rw [if_neg (by simp), if_neg (by simp; omega), if_pos (by decide)]
    congr 1; omega
  · rw [itoa_nonneg n (by omega)]
    obtain ⟨v, p, _⟩ := decDigits_plain n.toNat
    have k := key n.toNat (by omega)
    cases hD : Lib.decDigits n.toNat with
    | nil => exact absurd hD p.1
    | cons c r =>
      rw [hD] at k p
      have hc := p.2.1 c (by simp)
      unfold isDig at hc
      simp at hc
      unfold Lib.parseIntB
      simp only []
      rw [if_neg (by omega), k]
      simp only []
      rw [if_neg (by simp; omega), if_neg (by simp; omega), if_neg (by omega)]
      congr 1; omega

/-- What a numeral of at most ten digits, of just the form, spells. -/
def readMost (l : List UInt8) : Option Int :=
  let neg : Bool := decide (l.head? = some 45)
  let r := if neg = true then l.drop 1 else l
  if r.length < 1 ∨ 10 < r.length then none
  else if r.all isDig = true then
    if r.head? = some 48 ∧ (neg = true ∨ 1 < l.length) then none
    else some (if neg = true then -(valFrom 0 r : Int) else valFrom 0 r)
  else none
theorem readMost_itoa (n : Int) (h0 : -9999999999 ≤ n) (h1 : n ≤ 9999999999) : readMost (Lib.itoa n) = some n := by
  by_cases hn : n < 0
  · obtain ⟨v, p, _⟩ := decDigits_plain n.natAbs
    have hl := decDigits_len n.natAbs (by omega)
    have hp : (Lib.decDigits n.natAbs).length ≠ 0 := fun e => p.1 (List.length_eq_zero_iff.1 e)
    rw [itoa_neg n hn]
    unfold readMost
    simp only [List.head?_cons, decide_true, if_true, List.drop_succ_cons, List.drop_zero]
    rw [if_neg (by omega), if_pos (List.all_eq_true.2 p.2.1), if_neg, v]
    · congr 1; omega
    · rintro ⟨e, _⟩
      have h1 := p.2.2 e
      cases hD : Lib.decDigits n.natAbs with
      | nil => exact p.1 hD
      | cons c r =>
        rw [hD] at e h1 v
        have e' : c = 48 := by simpa using e
        have : r = [] := by simpa using h1
        subst this e'
        have : n.natAbs = 0 := by rw [← v]; rfl
        omega
  · obtain ⟨v, p, _⟩ := decDigits_plain n.toNat
    have hl := decDigits_len n.toNat (by omega)
    have hp : (Lib.decDigits n.toNat).length ≠ 0 := fun e => p.1 (List.length_eq_zero_iff.1 e)
    rw [itoa_nonneg n (by omega)]
    have hh : ¬ (Lib.decDigits n.toNat).head? = some 45 := by
      intro e
      cases hD : Lib.decDigits n.toNat with
      | nil => exact p.1 hD
      | cons c r =>
        rw [hD] at e p
        have e' : c = 45 := by simpa using e
        have := p.2.1 c (by simp)
        subst e'
        exact absurd this (by decide)
    unfold readMost
    simp only [hh, decide_false, Bool.false_eq_true, if_false, false_or]
    rw [if_neg (by omega), if_pos (List.all_eq_true.2 p.2.1), if_neg, v]
    · congr 1; omega
    · rintro ⟨e, h⟩
      have := p.2.2 e
      omega
theorem readMost_some {l : List UInt8} {n : Int} (h : readMost l = some n) : l = Lib.itoa n := by
  unfold readMost at h
  by_cases hh : l.head? = some 45
  · simp only [hh, decide_true, if_true] at h
    split at h
    · cases h
    · rename_i hlen
      split at h
      · rename_i hd
        split at h
        · cases h
        · rename_i h48
          injection h with h
          cases l with
          | nil => simp at hh
          | cons c r =>
            have e : c = 45 := by simpa using hh
            subst e
            simp only [List.drop_succ_cons, List.drop_zero] at *
            have P : Plain r := ⟨fun e => by subst e; simp at hlen, List.all_eq_true.1 hd, fun e => absurd ⟨e, .inl trivial⟩ h48⟩
            have hpos : 1 ≤ valFrom 0 r := by
              by_cases h1 : r.length = 1
              · cases r with
                | nil => exact absurd rfl P.1
                | cons d r =>
                  have : r = [] := by simpa using h1
                  subst this
                  have hd' := P.2.1 d (by simp)
                  unfold isDig at hd'
                  simp at hd'
                  have hne : d ≠ 48 := fun e => h48 ⟨by simp [e], .inl trivial⟩
                  have : d.toNat ≠ 48 := fun e => hne (UInt8.toNat_inj.1 (by simpa using e))
                  rw [valFrom_one]; omega
              · exact P.pos h1
            rw [itoa_neg n (by omega), show n.natAbs = valFrom 0 r by omega, decDigits_val _ r rfl P]
      · cases h
  · simp only [hh, decide_false, Bool.false_eq_true, if_false, false_or] at h
    split at h
    · cases h
    · rename_i hlen
      split at h
      · rename_i hd
        split at h
        · cases h
        · rename_i h48
          injection h with h
          have P : Plain l := ⟨fun e => by subst e; simp at hlen, List.all_eq_true.1 hd, fun e => by
            by_cases h1 : 1 < l.length
            · exact absurd ⟨e, h1⟩ h48
            · omega⟩
          rw [itoa_nonneg n (by omega), show n.toNat = valFrom 0 l by omega, decDigits_val _ l rfl P]
      · cases h
end Go.Proofs.YtmhamgcjmehnnaaDoor
