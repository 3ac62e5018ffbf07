/-
  A part of the proof: SumMath, LevMath, LevMath2.
-/
import Derived.Test.YthgbjnchhaoceaaDoorPart5

/-
  What tokens are read as, level by level, without any program; and that a sum is read from its tokens.
-/
namespace Go.Proofs.YthgbjnchhaoceaaDoor

/-- Is that sign next? What stands behind it. -/
def seesT (s : ByteArray) : List TT → Option (List TT)
  | [] => none
  | t :: r => if t.1 = 3 ∧ t.2.1 = s then some r else none
theorem seesT_cons (s : ByteArray) (t : TT) (r : List TT) : seesT s (t :: r) = if t.1 = 3 ∧ t.2.1 = s then some r else none := rfl
theorem sees_this (s : ByteArray) (c : CK) (r : List TT) : seesT s ((3, s, c) :: r) = some r := by rw [seesT_cons, if_pos ⟨rfl, rfl⟩]
/-- The kinds of a level: or, and, = and <, + and -, * and /. -/
def kindsL (lev : Nat) : List Int := if lev = 0 then [10] else if lev = 1 then [9] else if lev = 3 then [7, 8] else if lev = 4 then [3, 4] else if lev = 5 then [5, 6] else []
/-- Which sign of that level is next, and what stands behind it. -/
def twoK (r : List TT) : List Int → Option (Int × List TT)
  | [] => none
  | k :: ks => match seesT (sgn k) r with
    | some r1 => some (k, r1)
    | none => twoK r ks
def twoT (lev : Nat) (r : List TT) : Option (Int × List TT) := twoK r (kindsL lev)
/-- The item of a token that is one alone. -/
def itmOf (t : TT) : TI := if t.1 = 1 then (2, zeroC, t.2.1) else (1, t.2.2, ⟨#[]⟩)
mutual
/-- A level: 0 or, 1 and, 2 not, 3 = and <, 4 + and -, 5 * and /, 6 lacks, 7 one alone. -/
def levP : Nat → Nat → List TT → Option (List TI × List TT)
  | 0, _, _ => none
  | f + 1, lev, r =>
    if lev = 0 ∨ lev = 1 ∨ lev = 4 ∨ lev = 5 then (levP f (lev + 1) r).bind (fun p => tailP f lev p.1 p.2)
    else if lev = 3 then (levP f 4 r).bind (fun p => match twoT 3 p.2 with
      | none => some p
      | some (k, r2) => (levP f 4 r2).map (fun q => (p.1 ++ (q.1 ++ [opI k]), q.2)))
    else if lev = 2 ∨ lev = 6 then match seesT (sgn (if lev = 2 then 11 else 12)) r with
      | some r1 => (levP f lev r1).map (fun q => (q.1 ++ [opI (if lev = 2 then 11 else 12)], q.2))
      | none => levP f (lev + 1) r
    else match seesT ⟨#[40]⟩ r with
      | some r1 => (levP f 0 r1).bind (fun q => (seesT ⟨#[41]⟩ q.2).map (fun r2 => (q.1, r2)))
      | none => match r with
        | [] => none
        | t :: r1 => if t.1 = 3 then none else some ([itmOf t], r1)
def tailP : Nat → Nat → List TI → List TT → Option (List TI × List TT)
  | 0, _, _, _ => none
  | f + 1, lev, o, r => match twoT lev r with
    | none => some (o, r)
    | some (k, r1) => (levP f (lev + 1) r1).bind (fun p => tailP f lev (o ++ (p.1 ++ [opI k])) p.2)
end
theorem sees_len {s : ByteArray} {r r1 : List TT} (h : seesT s r = some r1) : r1.length < r.length := by
  cases r with
  | nil => cases h
  | cons t r =>
    rw [seesT_cons] at h
    split at h
    · cases h; simp
    · cases h
theorem twoK_len {r r1 : List TT} {k : Int} {ks : List Int} (h : twoK r ks = some (k, r1)) : r1.length < r.length := by
  induction ks with
  | nil => cases h
  | cons j ks ih =>
    unfold twoK at h
    cases hs : seesT (sgn j) r with
    | some r2 => rw [hs] at h; cases h; exact sees_len hs
    | none => rw [hs] at h; exact ih h
/-- What is read is passed over. -/
theorem levP_len : ∀ f, (∀ lev r o r', levP f lev r = some (o, r') → r'.length < r.length) ∧ (∀ lev o r o' r', tailP f lev o r = some (o', r') → r'.length ≤ r.length)
  | 0 => ⟨fun lev r o r' h => by simp [levP] at h, fun lev o r o' r' h => by simp [tailP] at h⟩
  | f + 1 => by
    obtain ⟨ih1, ih2⟩ := levP_len f
    refine ⟨fun lev r o r' h => ?_, fun lev o r o' r' h => ?_⟩
    · unfold levP at h
      split at h
      · obtain ⟨p, h1, h2⟩ := Option.bind_eq_some_iff.1 h
        have := ih1 _ _ _ _ (show levP f (lev + 1) r = some (p.1, p.2) from h1)
        have := ih2 _ _ _ _ _ h2
        omega
      · split at h
        · obtain ⟨p, h1, h2⟩ := Option.bind_eq_some_iff.1 h
          have l1 := ih1 _ _ _ _ (show levP f 4 r = some (p.1, p.2) from h1)
          cases ht : twoT 3 p.2 with
          | none =>
            rw [ht] at h2
            cases h2
            exact l1
          | some q =>
            obtain ⟨k, r2⟩ := q
            rw [ht] at h2
            obtain ⟨z, h3, h4⟩ := Option.map_eq_some_iff.1 h2
            cases h4
            have := ih1 _ _ _ _ (show levP f 4 r2 = some (z.1, z.2) from h3)
            have := twoK_len ht
            omega
        · split at h
          · cases hs : seesT (sgn (if lev = 2 then 11 else 12)) r with
            | some r1 =>
              rw [hs] at h
              obtain ⟨z, h3, h4⟩ := Option.map_eq_some_iff.1 h
              cases h4
              have := ih1 _ _ _ _ (show levP f lev r1 = some (z.1, z.2) from h3)
              have := sees_len hs
              omega
            | none => rw [hs] at h; exact ih1 _ _ _ _ h
          · cases hs : seesT ⟨#[40]⟩ r with
            | some r1 =>
              rw [hs] at h
              obtain ⟨q, h1, h2⟩ := Option.bind_eq_some_iff.1 h
              obtain ⟨z, h3, h4⟩ := Option.map_eq_some_iff.1 h2
              cases h4
              have := ih1 _ _ _ _ (show levP f 0 r1 = some (q.1, q.2) from h1)
              have := sees_len hs
              have := sees_len h3
              omega
            | none =>
              rw [hs] at h
              cases r with
              | nil => cases h
              | cons t r =>
                simp only [] at h
                split at h
                · cases h
                · cases h; simp
    · unfold tailP at h
      cases ht : twoT lev r with
      | none => rw [ht] at h; cases h; exact Nat.le_refl _
      | some q =>
        obtain ⟨k, r1⟩ := q
        rw [ht] at h
        obtain ⟨p, h1, h2⟩ := Option.bind_eq_some_iff.1 h
        have := ih1 _ _ _ _ (show levP f (lev + 1) r1 = some (p.1, p.2) from h1)
        have := ih2 _ _ _ _ _ h2
        have := twoK_len ht
        omega
/-- More steps than are wanted say the same. -/
theorem levP_more : ∀ f, (∀ lev r f', lev ≤ 7 → 10 * r.length + (7 - lev) < f → f ≤ f' → levP f' lev r = levP f lev r) ∧ (∀ lev o r f', lev ≤ 5 → 10 * r.length + 8 < f → f ≤ f' → tailP f' lev o r = tailP f lev o r)
  | 0 => ⟨fun _ _ _ _ h _ => by omega, fun _ _ _ _ _ h _ => by omega⟩
  | f + 1 => by
    obtain ⟨ih1, ih2⟩ := levP_more f
    refine ⟨fun lev r f' hl h hf => ?_, fun lev o r f' hl h hf => ?_⟩
    · obtain ⟨g, rfl⟩ : ∃ g, f' = g + 1 := ⟨f' - 1, by omega⟩
      unfold levP
      by_cases c1 : lev = 0 ∨ lev = 1 ∨ lev = 4 ∨ lev = 5
      · rw [if_pos c1, if_pos c1, ih1 (lev + 1) r g (by omega) (by omega) (by omega)]
        cases hq : levP f (lev + 1) r with
        | none => rfl
        | some p =>
          obtain ⟨o, r1⟩ := p
          have := (levP_len f).1 _ _ _ _ hq
          simp only [Option.bind_some]
          exact ih2 lev o r1 g (by omega) (by omega) (by omega)
      rw [if_neg c1, if_neg c1]
      by_cases c2 : lev = 3
      · rw [if_pos c2, if_pos c2, ih1 4 r g (by omega) (by omega) (by omega)]
        cases hq : levP f 4 r with
        | none => rfl
        | some p =>
          obtain ⟨o, r1⟩ := p
          have := (levP_len f).1 _ _ _ _ hq
          simp only [Option.bind_some]
          cases ht : twoT 3 r1 with
          | none => rfl
          | some q =>
            obtain ⟨k, r2⟩ := q
            have := twoK_len ht
            simp only []
            rw [ih1 4 r2 g (by omega) (by omega) (by omega)]
      rw [if_neg c2, if_neg c2]
      by_cases c3 : lev = 2 ∨ lev = 6
      · rw [if_pos c3, if_pos c3]
        cases hs : seesT (sgn (if lev = 2 then 11 else 12)) r with
        | some r1 =>
          have := sees_len hs
          simp only []
          rw [ih1 lev r1 g hl (by omega) (by omega)]
        | none => exact ih1 (lev + 1) r g (by omega) (by omega) (by omega)
      rw [if_neg c3, if_neg c3]
      cases hs : seesT ⟨#[40]⟩ r with
      | some r1 =>
        have := sees_len hs
        simp only []
        rw [ih1 0 r1 g (by omega) (by omega) (by omega)]
      | none => rfl
    · obtain ⟨g, rfl⟩ : ∃ g, f' = g + 1 := ⟨f' - 1, by omega⟩
      unfold tailP
      cases ht : twoT lev r with
      | none => rfl
      | some q =>
        obtain ⟨k, r1⟩ := q
        have := twoK_len ht
        simp only []
        rw [ih1 (lev + 1) r1 g (by omega) (by omega) (by omega)]
        cases hq : levP f (lev + 1) r1 with
        | none => rfl
        | some p =>
          obtain ⟨o2, r2⟩ := p
          have := (levP_len f).1 _ _ _ _ hq
          simp only [Option.bind_some]
          exact ih2 lev _ r2 g hl (by omega) (by omega)
/-- What a level reads. -/
def levR (lev : Nat) (r : List TT) : Option (List TI × List TT) := levP (10 * r.length + 8) lev r
theorem levR_of {lev : Nat} {r : List TT} (hl : lev ≤ 7) {f : Nat} (hf : 10 * r.length + 8 ≤ f) : levP f lev r = levR lev r :=
  (levP_more (10 * r.length + 8)).1 lev r f hl (by omega) hf
/-- Read at that level, with steps enough. -/
def Par (lev : Nat) (r0 : List TT) (o : List TI) (r : List TT) : Prop := ∃ f0, ∀ f, f0 ≤ f → levP f lev r0 = some (o, r)
theorem Par.up {lev : Nat} {r0 r : List TT} {o : List TI} (h : Par (lev + 1) r0 o r) (hl : lev = 0 ∨ lev = 1 ∨ lev = 4 ∨ lev = 5) (hn : twoT lev r = none) : Par lev r0 o r := by
  obtain ⟨f0, h⟩ := h
  refine ⟨f0 + 2, fun f hf => ?_⟩
  obtain ⟨g, rfl⟩ : ∃ g, f = g + 1 + 1 := ⟨f - 2, by omega⟩
  unfold levP
  rw [if_pos hl, h (g + 1) (by omega)]
  simp only [Option.bind_some]
  unfold tailP
  rw [hn]
theorem Par.up3 {r0 r : List TT} {o : List TI} (h : Par 4 r0 o r) (hn : twoT 3 r = none) : Par 3 r0 o r := by
  obtain ⟨f0, h⟩ := h
  refine ⟨f0 + 1, fun f hf => ?_⟩
  obtain ⟨g, rfl⟩ : ∃ g, f = g + 1 := ⟨f - 1, by omega⟩
  unfold levP
  rw [if_neg (by omega), if_pos rfl, h g (by omega)]
  simp only [Option.bind_some]
  rw [hn]
theorem Par.up2 {lev : Nat} {r0 r : List TT} {o : List TI} (h : Par (lev + 1) r0 o r) (hl : lev = 2 ∨ lev = 6) (hn : seesT (sgn (if lev = 2 then 11 else 12)) r0 = none) : Par lev r0 o r := by
  obtain ⟨f0, h⟩ := h
  refine ⟨f0 + 1, fun f hf => ?_⟩
  obtain ⟨g, rfl⟩ : ∃ g, f = g + 1 := ⟨f - 1, by omega⟩
  unfold levP
  rw [if_neg (by omega), if_neg (by omega), if_pos hl, hn]
  exact h g (by omega)
/-- Nothing of that level or a later one is next. -/
def StopT (lev : Nat) (r : List TT) : Prop := ∀ L, lev ≤ L → L ≤ 5 → twoT L r = none
/-- No sign stands ahead that is followed by one alone. -/
def NoPre (r : List TT) : Prop := seesT (sgn 11) r = none ∧ seesT (sgn 12) r = none
theorem StopT.mono {lev lev' : Nat} {r : List TT} (h : StopT lev r) (hl : lev ≤ lev') : StopT lev' r := fun L h1 h2 => h L (by omega) h2
/-- What is one alone is read at every level above. -/
theorem Par.down {r0 r : List TT} {o : List TI} (h : Par 7 r0 o r) (hp : NoPre r0) {lev : Nat} (hl : lev ≤ 7) (hs : StopT lev r) : Par lev r0 o r := by
  have h6 : lev ≤ 6 → Par 6 r0 o r := fun _ => h.up2 (.inr rfl) hp.2
  have h5 : lev ≤ 5 → Par 5 r0 o r := fun e => (h6 (by omega)).up (by omega) (hs 5 e (by omega))
  have h4 : lev ≤ 4 → Par 4 r0 o r := fun e => (h5 (by omega)).up (by omega) (hs 4 e (by omega))
  have h3 : lev ≤ 3 → Par 3 r0 o r := fun e => (h4 (by omega)).up3 (hs 3 e (by omega))
  have h2 : lev ≤ 2 → Par 2 r0 o r := fun e => (h3 (by omega)).up2 (.inl rfl) hp.1
  have h1 : lev ≤ 1 → Par 1 r0 o r := fun e => (h2 (by omega)).up (by omega) (hs 1 e (by omega))
  have h0 : lev ≤ 0 → Par 0 r0 o r := fun e => (h1 (by omega)).up (by omega) (hs 0 e (by omega))
  have : lev = 0 ∨ lev = 1 ∨ lev = 2 ∨ lev = 3 ∨ lev = 4 ∨ lev = 5 ∨ lev = 6 ∨ lev = 7 := by omega
  rcases this with rfl | rfl | rfl | rfl | rfl | rfl | rfl | rfl
  · exact h0 (by omega)
  · exact h1 (by omega)
  · exact h2 (by omega)
  · exact h3 (by omega)
  · exact h4 (by omega)
  · exact h5 (by omega)
  · exact h6 (by omega)
  · exact h
/-- From level 2, or 6, on to a level above, behind a sign that is followed by one alone. -/
theorem Par.down2 {r0 r : List TT} {o : List TI} (h : Par 2 r0 o r) (hs : StopT 0 r) : Par 0 r0 o r :=
  (h.up (lev := 1) (by omega) (hs 1 (by omega) (by omega))).up (by omega) (hs 0 (by omega) (by omega))
theorem Par.down6 {r0 r : List TT} {o : List TI} (h : Par 6 r0 o r) (hs : StopT 0 r) (hn : seesT (sgn 11) r0 = none) : Par 0 r0 o r :=
  Par.down2 (((h.up (lev := 5) (by omega) (hs 5 (by omega) (by omega))).up (lev := 4) (by omega) (hs 4 (by omega) (by omega))).up3 (hs 3 (by omega) (by omega)) |>.up2 (lev := 2) (.inl rfl) hn) hs
theorem Par.pre {lev : Nat} {r1 r : List TT} {o : List TI} (hl : lev = 2 ∨ lev = 6) (h : Par lev r1 o r) : Par lev (sgnT (if lev = 2 then 11 else 12) :: r1) (o ++ [opI (if lev = 2 then 11 else 12)]) r := by
  obtain ⟨f0, h⟩ := h
  refine ⟨f0 + 1, fun f hf => ?_⟩
  obtain ⟨g, rfl⟩ : ∃ g, f = g + 1 := ⟨f - 1, by omega⟩
  unfold levP
  rw [if_neg (by omega), if_neg (by omega), if_pos hl]
  have : seesT (sgn (if lev = 2 then 11 else 12)) (sgnT (if lev = 2 then 11 else 12) :: r1) = some r1 := sees_this _ _ _
  rw [this]
  simp only []
  rw [h g (by omega)]
  rfl
theorem Par.two {lev : Nat} {r0 r1 r2 : List TT} {oa ob : List TI} {k : Int} (hl : lev = 0 ∨ lev = 1 ∨ lev = 4 ∨ lev = 5) (ha : Par (lev + 1) r0 oa (sgnT k :: r1)) (ht : twoT lev (sgnT k :: r1) = some (k, r1)) (hb : Par (lev + 1) r1 ob r2) (hn : twoT lev r2 = none) : Par lev r0 (oa ++ (ob ++ [opI k])) r2 := by
  obtain ⟨f1, ha⟩ := ha
  obtain ⟨f2, hb⟩ := hb
  refine ⟨f1 + f2 + 3, fun f hf => ?_⟩
  obtain ⟨g, rfl⟩ : ∃ g, f = g + 1 + 1 + 1 := ⟨f - 3, by omega⟩
  unfold levP
  rw [if_pos hl, ha _ (by omega)]
  simp only [Option.bind_some]
  unfold tailP
  rw [ht]
  simp only []
  rw [hb _ (by omega)]
  simp only [Option.bind_some]
  unfold tailP
  rw [hn]
theorem Par.two3 {r0 r1 r2 : List TT} {oa ob : List TI} {k : Int} (ha : Par 4 r0 oa (sgnT k :: r1)) (ht : twoT 3 (sgnT k :: r1) = some (k, r1)) (hb : Par 4 r1 ob r2) : Par 3 r0 (oa ++ (ob ++ [opI k])) r2 := by
  obtain ⟨f1, ha⟩ := ha
  obtain ⟨f2, hb⟩ := hb
  refine ⟨f1 + f2 + 1, fun f hf => ?_⟩
  obtain ⟨g, rfl⟩ : ∃ g, f = g + 1 := ⟨f - 1, by omega⟩
  unfold levP
  rw [if_neg (by omega), if_pos rfl, ha _ (by omega)]
  simp only [Option.bind_some]
  rw [ht]
  simp only []
  rw [hb _ (by omega)]
  rfl
theorem Par.paren {r1 r : List TT} {o : List TI} (h : Par 0 r1 o (parC :: r)) : Par 7 (parO :: r1) o r := by
  obtain ⟨f0, h⟩ := h
  refine ⟨f0 + 1, fun f hf => ?_⟩
  obtain ⟨g, rfl⟩ : ∃ g, f = g + 1 := ⟨f - 1, by omega⟩
  unfold levP
  rw [if_neg (by omega), if_neg (by omega), if_neg (by omega)]
  have e1 : seesT ⟨#[40]⟩ (parO :: r1) = some r1 := sees_this _ _ _
  have e2 : seesT ⟨#[41]⟩ (parC :: r) = some r := sees_this _ _ _
  rw [e1]
  simp only []
  rw [h g (by omega)]
  simp only [Option.bind_some]
  rw [e2]
  rfl
/-- The level of a sign between two. -/
def levK (k : Int) : Nat := if k = 10 then 0 else if k = 9 then 1 else if k = 7 ∨ k = 8 then 3 else if k = 3 ∨ k = 4 then 4 else 5
theorem sees_sgn (j k : Int) (hj : 3 ≤ j ∧ j ≤ 12) (hk : 3 ≤ k ∧ k ≤ 12) (r : List TT) : seesT (sgn j) (sgnT k :: r) = if j = k then some r else none := by
  have h1 : j = 3 ∨ j = 4 ∨ j = 5 ∨ j = 6 ∨ j = 7 ∨ j = 8 ∨ j = 9 ∨ j = 10 ∨ j = 11 ∨ j = 12 := by omega
  have h2 : k = 3 ∨ k = 4 ∨ k = 5 ∨ k = 6 ∨ k = 7 ∨ k = 8 ∨ k = 9 ∨ k = 10 ∨ k = 11 ∨ k = 12 := by omega
  have key : (sgn k = sgn j) ↔ j = k := by
    rcases h1 with rfl | rfl | rfl | rfl | rfl | rfl | rfl | rfl | rfl | rfl <;> rcases h2 with rfl | rfl | rfl | rfl | rfl | rfl | rfl | rfl | rfl | rfl <;> decide +kernel
  rw [seesT_cons]
  by_cases e : j = k
  · rw [if_pos ⟨rfl, key.2 e⟩, if_pos e]
  · rw [if_neg (fun h => e (key.1 h.2)), if_neg e]
theorem two_sgn (k : Int) (hk : 3 ≤ k ∧ k ≤ 10) (r : List TT) (L : Nat) (hL : L ≤ 5) : twoT L (sgnT k :: r) = if levK k = L then some (k, r) else none := by
  have h2 : k = 3 ∨ k = 4 ∨ k = 5 ∨ k = 6 ∨ k = 7 ∨ k = 8 ∨ k = 9 ∨ k = 10 := by omega
  have h1 : L = 0 ∨ L = 1 ∨ L = 2 ∨ L = 3 ∨ L = 4 ∨ L = 5 := by omega
  rcases h1 with rfl | rfl | rfl | rfl | rfl | rfl <;> simp only [twoT, kindsL, twoK, reduceIte, Nat.reduceEqDiff] <;> (repeat rw [sees_sgn _ k (by omega) (by omega) r]) <;> rcases h2 with rfl | rfl | rfl | rfl | rfl | rfl | rfl | rfl <;> simp [levK]
theorem stop_sgn (k : Int) (hk : 3 ≤ k ∧ k ≤ 10) (r : List TT) : StopT (levK k + 1) (sgnT k :: r) := fun L h1 h2 => by
  rw [two_sgn k hk r L h2, if_neg (by omega)]
theorem sees_other {s : ByteArray} {t : TT} {r : List TT} (h : t.1 ≠ 3 ∨ t.2.1 ≠ s) : seesT s (t :: r) = none := by
  rw [seesT_cons, if_neg (fun ⟨a, b⟩ => by rcases h with h | h <;> contradiction)]
theorem stop_par (r : List TT) : StopT 0 (parC :: r) := fun L _ h2 => by
  have h1 : L = 0 ∨ L = 1 ∨ L = 2 ∨ L = 3 ∨ L = 4 ∨ L = 5 := by omega
  have key : ∀ k : Int, 3 ≤ k → k ≤ 12 → seesT (sgn k) (parC :: r) = none := fun k a b => by
    have h2 : k = 3 ∨ k = 4 ∨ k = 5 ∨ k = 6 ∨ k = 7 ∨ k = 8 ∨ k = 9 ∨ k = 10 ∨ k = 11 ∨ k = 12 := by omega
    refine sees_other (.inr ?_)
    rcases h2 with rfl | rfl | rfl | rfl | rfl | rfl | rfl | rfl | rfl | rfl <;> decide +kernel
  rcases h1 with rfl | rfl | rfl | rfl | rfl | rfl <;> simp only [twoT, kindsL, twoK, reduceIte, Nat.reduceEqDiff] <;> (repeat rw [key _ (by omega) (by omega)])
theorem stop_nil : StopT 0 [] := fun L _ h2 => by
  have h1 : L = 0 ∨ L = 1 ∨ L = 2 ∨ L = 3 ∨ L = 4 ∨ L = 5 := by omega
  rcases h1 with rfl | rfl | rfl | rfl | rfl | rfl <;> rfl
theorem tkOf_kind {x : TI} (hx : x.1 = 1 ∨ x.1 = 2) : (tkOf x).1 ≠ 3 := by
  unfold tkOf
  rcases hx with e | e
  · rw [if_pos e]
    exact (by decide : (2 : Int) ≠ 3)
  · rw [if_neg (by omega)]
    exact (by decide : (1 : Int) ≠ 3)
theorem itm_tk {x : TI} (h : itemB x = true) (hx : x.1 = 1 ∨ x.1 = 2) : itmOf (tkOf x) = x := by
  obtain ⟨k, c, s⟩ := x
  unfold itemB at h
  dsimp only at h hx
  unfold itmOf tkOf
  dsimp only
  rcases hx with rfl | rfl
  · rw [if_pos rfl] at h
    simp only [Bool.and_eq_true, decide_eq_true_eq] at h
    simp [h.2]
  · rw [if_neg (by decide), if_pos rfl] at h
    simp only [Bool.and_eq_true, decide_eq_true_eq] at h
    simp [h.2]
theorem pre_tree {t : Tr} (h : t.ok) (r : List TT) : NoPre (t.toks ++ r) := by
  cases t with
  | leaf x => exact ⟨sees_other (.inl (tkOf_kind h.2)), sees_other (.inl (tkOf_kind h.2))⟩
  | one k t => exact ⟨sees_other (.inr (by decide +kernel)), sees_other (.inr (by decide +kernel))⟩
  | two k a b => exact ⟨sees_other (.inr (by decide +kernel)), sees_other (.inr (by decide +kernel))⟩
/-- A sum is read from its tokens. -/
theorem par_tree {t : Tr} (h : t.ok) : ∀ r, Par 7 (t.toks ++ r) t.post r := by
  induction t with
  | leaf x =>
    intro r
    refine ⟨1, fun f hf => ?_⟩
    obtain ⟨g, rfl⟩ : ∃ g, f = g + 1 := ⟨f - 1, by omega⟩
    simp only [Tr.toks, Tr.post, List.singleton_append]
    unfold levP
    rw [if_neg (by omega), if_neg (by omega), if_neg (by omega), sees_other (.inl (tkOf_kind h.2))]
    simp only []
    rw [if_neg (tkOf_kind h.2), itm_tk h.1 h.2]
  | one k t ih =>
    intro r
    have hi := ih h.2 (parC :: r)
    simp only [Tr.toks, Tr.post, List.cons_append, List.append_assoc, List.nil_append]
    refine Par.paren ?_
    rcases h.1 with rfl | rfl
    · exact Par.down2 (Par.pre (lev := 2) (.inl rfl) (hi.down (pre_tree h.2 _) (by omega) ((stop_par r).mono (by omega)))) (stop_par r)
    · refine Par.down6 (Par.pre (lev := 6) (.inr rfl) (hi.down (pre_tree h.2 _) (by omega) ((stop_par r).mono (by omega)))) (stop_par r) ?_
      rw [sees_sgn 11 12 (by omega) (by omega), if_neg (by omega)]
  | two k a b iha ihb =>
    intro r
    have hk := h.1
    have ha := iha h.2.1 (sgnT k :: (b.toks ++ parC :: r))
    have hb := ihb h.2.2 (parC :: r)
    simp only [Tr.toks, Tr.post, List.cons_append, List.append_assoc, List.nil_append]
    refine Par.paren ?_
    have hL : levK k ≤ 5 := by unfold levK; (repeat' split) <;> omega
    have hA : Par (levK k + 1) (a.toks ++ sgnT k :: (b.toks ++ parC :: r)) a.post (sgnT k :: (b.toks ++ parC :: r)) := ha.down (pre_tree h.2.1 _) (by omega) (stop_sgn k hk _)
    have hB : Par (levK k + 1) (b.toks ++ parC :: r) b.post (parC :: r) := hb.down (pre_tree h.2.2 _) (by omega) ((stop_par r).mono (by omega))
    have hT : twoT (levK k) (sgnT k :: (b.toks ++ parC :: r)) = some (k, b.toks ++ parC :: r) := by rw [two_sgn k hk _ _ hL, if_pos rfl]
    have hS := stop_par r
    have hcase : levK k = 0 ∨ levK k = 1 ∨ levK k = 3 ∨ levK k = 4 ∨ levK k = 5 := by unfold levK; (repeat' split) <;> omega
    have hp := (pre_tree h.2.1 (sgnT k :: (b.toks ++ parC :: r))).1
    rcases hcase with e | e | e | e | e
    · rw [e] at hA hB hT
      exact Par.two (.inl rfl) hA hT hB (hS 0 (by omega) (by omega))
    · rw [e] at hA hB hT
      exact (Par.two (.inr (.inl rfl)) hA hT hB (hS 1 (by omega) (by omega))).up (by omega) (hS 0 (by omega) (by omega))
    · rw [e] at hA hB hT
      exact Par.down2 ((Par.two3 hA hT hB).up2 (lev := 2) (.inl rfl) hp) hS
    · rw [e] at hA hB hT
      exact Par.down2 (((Par.two (.inr (.inr (.inl rfl))) hA hT hB (hS 4 (by omega) (by omega))).up3 (hS 3 (by omega) (by omega))).up2 (lev := 2) (.inl rfl) hp) hS
    · rw [e] at hA hB hT
      exact Par.down2 ((((Par.two (.inr (.inr (.inr rfl))) hA hT hB (hS 5 (by omega) (by omega))).up (lev := 4) (by omega) (hS 4 (by omega) (by omega))).up3 (hS 3 (by omega) (by omega))).up2 (lev := 2) (.inl rfl) hp) hS
theorem Par.levR {lev : Nat} {r0 r : List TT} {o : List TI} (h : Par lev r0 o r) (hl : lev ≤ 7) : levR lev r0 = some (o, r) := by
  obtain ⟨f0, h⟩ := h
  rw [← levR_of hl (f := f0 + (10 * r0.length + 8)) (by omega)]
  exact h _ (by omega)
theorem par_sum {t : Tr} (h : t.ok) : Par 0 t.toks t.post [] := by
  have := (par_tree h []).down (pre_tree h []) (lev := 0) (by omega) stop_nil
  rwa [List.append_nil] at this
end Go.Proofs.YthgbjnchhaoceaaDoor

/-
  What tokens are read as, level by level, without counting steps.
-/
namespace Go.Proofs.YthgbjnchhaoceaaDoor

theorem levR_eq {f lev : Nat} {r : List TT} (hl : lev ≤ 7) (h : 10 * r.length + (7 - lev) < f) : levP f lev r = levR lev r := by
  unfold levR
  by_cases hf : f ≤ 10 * r.length + 8
  · exact ((levP_more f).1 lev r _ hl h hf).symm
  · exact (levP_more (10 * r.length + 8)).1 lev r f hl (by omega) (by omega)
/-- What goes on behind the first one of a level. -/
def tlR (lev : Nat) (o : List TI) (r : List TT) : Option (List TI × List TT) := tailP (10 * r.length + 9) lev o r
theorem tlR_eq {f lev : Nat} {o : List TI} {r : List TT} (hl : lev ≤ 5) (h : 10 * r.length + 8 < f) : tailP f lev o r = tlR lev o r := by
  unfold tlR
  by_cases hf : f ≤ 10 * r.length + 9
  · exact ((levP_more f).2 lev o r _ hl h hf).symm
  · exact (levP_more (10 * r.length + 9)).2 lev o r f hl (by omega) (by omega)
theorem levR_len {lev : Nat} {r r' : List TT} {o : List TI} (h : levR lev r = some (o, r')) : r'.length < r.length := (levP_len _).1 _ _ _ _ h
theorem levR_two {lev : Nat} {r : List TT} (hl : lev = 0 ∨ lev = 1 ∨ lev = 4 ∨ lev = 5) : levR lev r = match levR (lev + 1) r with
    | none => none
    | some (o, r') => tlR lev o r' := by
  obtain ⟨f, hf⟩ : ∃ f, f = 10 * r.length + 7 := ⟨_, rfl⟩
  have e : levR lev r = levP (f + 1) lev r := by rw [hf]; rfl
  rw [e]
  unfold levP
  rw [if_pos hl, levR_eq (by omega) (by omega)]
  cases hq : levR (lev + 1) r with
  | none => rfl
  | some p =>
    obtain ⟨o, r'⟩ := p
    have := levR_len hq
    show tailP f lev o r' = tlR lev o r'
    exact tlR_eq (by omega) (by omega)
theorem tlR_none {lev : Nat} {o : List TI} {r : List TT} (h : twoT lev r = none) : tlR lev o r = some (o, r) := by
  unfold tlR
  rw [tailP, h]
theorem tlR_some {lev : Nat} {o : List TI} {r r1 : List TT} {k : Int} (hl : lev ≤ 5) (h : twoT lev r = some (k, r1)) : tlR lev o r = match levR (lev + 1) r1 with
    | none => none
    | some (p, r2) => tlR lev (o ++ (p ++ [opI k])) r2 := by
  have hlen := twoK_len h
  have e : tlR lev o r = tailP (10 * r.length + 8 + 1) lev o r := rfl
  rw [e, tailP, h]
  simp only []
  rw [levR_eq (by omega) (by omega)]
  cases hq : levR (lev + 1) r1 with
  | none => rfl
  | some p =>
    obtain ⟨p, r2⟩ := p
    have := levR_len hq
    exact tlR_eq hl (show 10 * r2.length + 8 < 10 * r.length + 8 by omega)
theorem levR_3 {r : List TT} : levR 3 r = match levR 4 r with
    | none => none
    | some (o, r') => match twoT 3 r' with
      | none => some (o, r')
      | some (k, r2) => match levR 4 r2 with
        | none => none
        | some (p, r3) => some (o ++ (p ++ [opI k]), r3) := by
  obtain ⟨f, hf⟩ : ∃ f, f = 10 * r.length + 7 := ⟨_, rfl⟩
  have e : levR 3 r = levP (f + 1) 3 r := by rw [hf]; rfl
  rw [e]
  unfold levP
  rw [if_neg (by omega), if_pos rfl, levR_eq (by omega) (by omega)]
  cases hq : levR 4 r with
  | none => rfl
  | some p =>
    obtain ⟨o, r'⟩ := p
    have h1 := levR_len hq
    simp only [Option.bind_some]
    cases ht : twoT 3 r' with
    | none => rfl
    | some q =>
      obtain ⟨k, r2⟩ := q
      have h2 := twoK_len ht
      simp only []
      rw [levR_eq (by omega) (by omega)]
      cases levR 4 r2 with
      | none => rfl
      | some z => rfl
theorem levR_pre {lev : Nat} {r : List TT} (hl : lev = 2 ∨ lev = 6) : levR lev r = match seesT (sgn (if lev = 2 then 11 else 12)) r with
    | some r1 => (match levR lev r1 with
      | none => none
      | some (o, r2) => some (o ++ [opI (if lev = 2 then 11 else 12)], r2))
    | none => levR (lev + 1) r := by
  obtain ⟨f, hf⟩ : ∃ f, f = 10 * r.length + 7 := ⟨_, rfl⟩
  have e : levR lev r = levP (f + 1) lev r := by rw [hf]; rfl
  rw [e]
  unfold levP
  rw [if_neg (by omega), if_neg (by omega), if_pos hl]
  cases hs : seesT (sgn (if lev = 2 then 11 else 12)) r with
  | none => exact levR_eq (by omega) (by omega)
  | some r1 =>
    have h1 := sees_len hs
    simp only []
    rw [levR_eq (by omega) (by omega)]
    cases levR lev r1 with
    | none => rfl
    | some z => rfl
theorem levR_7 {r : List TT} : levR 7 r = match seesT ⟨#[40]⟩ r with
    | some r1 => (match levR 0 r1 with
      | none => none
      | some (o, r2) => match seesT ⟨#[41]⟩ r2 with
        | none => none
        | some r3 => some (o, r3))
    | none => match r with
      | [] => none
      | t :: r1 => if t.1 = 3 then none else some ([itmOf t], r1) := by
  obtain ⟨f, hf⟩ : ∃ f, f = 10 * r.length + 7 := ⟨_, rfl⟩
  have e : levR 7 r = levP (f + 1) 7 r := by rw [hf]; rfl
  rw [e]
  unfold levP
  rw [if_neg (by omega), if_neg (by omega), if_neg (by omega)]
  cases hs : seesT ⟨#[40]⟩ r with
  | none => rfl
  | some r1 =>
    have h1 := sees_len hs
    simp only []
    rw [levR_eq (by omega) (by omega)]
    cases levR 0 r1 with
    | none => rfl
    | some z =>
      obtain ⟨o, r2⟩ := z
      simp only [Option.bind_some]
      cases seesT ⟨#[41]⟩ r2 <;> rfl
end Go.Proofs.YthgbjnchhaoceaaDoor

/-
  What is read of right tokens is right items; what ReadSum answers.
-/
namespace Go.Proofs.YthgbjnchhaoceaaDoor

theorem itemB_1 (c : CK) (s : ByteArray) : itemB (1, c, s) = (okC c && decide (s = ⟨#[]⟩)) := if_pos rfl
theorem itemB_2 (c : CK) (s : ByteArray) : itemB (2, c, s) = (nameK s && decide (c = zeroC)) := (if_neg (fun h => absurd h (by decide : ¬ (2 : Int) = 1))).trans (if_pos rfl)
theorem itmOf_ok {t : TT} (h : tokB t = true) (h3 : t.1 ≠ 3) : itemB (itmOf t) = true := by
  rcases tokB_kind h with ⟨s, rfl, hn⟩ | ⟨c, rfl, hc⟩ | ⟨s, rfl, hs⟩
  · have e : itmOf (1, s, zeroC) = (2, zeroC, s) := if_pos rfl
    rw [e, itemB_2, hn]
    simp
  · have e : itmOf (2, ⟨#[]⟩, c) = (1, c, ⟨#[]⟩) := if_neg (fun h => absurd h (by decide : ¬ (2 : Int) = 1))
    rw [e, itemB_1, hc]
    simp
  · exact absurd rfl h3
theorem itemB_fits {x : TI} (h : itemB x = true) : x.2.1.2.2.size ≤ 12 ∧ x.2.2.size ≤ 12 := by
  obtain ⟨k, c, s⟩ := x
  by_cases h1 : k = 1
  · subst h1
    rw [itemB_1, Bool.and_eq_true, decide_eq_true_eq] at h
    obtain ⟨hc, rfl⟩ := h
    obtain ⟨ck, cn, ct⟩ := c
    refine ⟨?_, Nat.zero_le _⟩
    have ho : okB ck cn ct = true := hc
    show ct.size ≤ 12
    rcases okB_kind ho with rfl | rfl | rfl | rfl
    · rw [(okB_0 ho).2]; exact Nat.zero_le _
    · rw [(okB_1 ho).2]; exact Nat.zero_le _
    · have := (okB_2 ho).2
      unfold textB at this
      rw [Bool.and_eq_true, decide_eq_true_eq] at this
      omega
    · rw [(okB_3 ho).2]; exact Nat.zero_le _
  by_cases h2 : k = 2
  · subst h2
    rw [itemB_2, Bool.and_eq_true, decide_eq_true_eq] at h
    obtain ⟨hn, rfl⟩ := h
    unfold nameK nameB at hn
    simp only [Bool.and_eq_true, Bool.not_eq_true', decide_eq_true_eq] at hn
    obtain ⟨⟨_, _, h3⟩, _⟩ := hn
    exact ⟨Nat.zero_le _, show s.size ≤ 12 by omega⟩
  · obtain ⟨_, _, e⟩ := item_op h h1 h2
    rw [e]
    exact ⟨Nat.zero_le _, Nat.zero_le _⟩
theorem sees_all {s : ByteArray} {r r1 : List TT} (h : seesT s r = some r1) (hr : r.all tokB = true) : r1.all tokB = true := by
  cases r with
  | nil => cases h
  | cons t r =>
    rw [seesT_cons] at h
    rw [List.all_cons, Bool.and_eq_true] at hr
    split at h
    · cases h; exact hr.2
    · cases h
theorem twoK_all {r r1 : List TT} {k : Int} {ks : List Int} (h : twoK r ks = some (k, r1)) (hr : r.all tokB = true) : r1.all tokB = true ∧ k ∈ ks := by
  induction ks with
  | nil => cases h
  | cons j ks ih =>
    unfold twoK at h
    cases hs : seesT (sgn j) r with
    | some r2 => rw [hs] at h; cases h; exact ⟨sees_all hs hr, by simp⟩
    | none => rw [hs] at h; obtain ⟨h1, h2⟩ := ih h; exact ⟨h1, List.mem_cons_of_mem _ h2⟩
theorem kindsL_310 (lev : Nat) : ∀ kd ∈ kindsL lev, 3 ≤ kd ∧ kd ≤ 10 := by
  intro kd h
  unfold kindsL at h
  repeat' split at h
  all_goals simp at h
  all_goals omega
theorem all_op {o : List TI} {k : Int} (h : o.all itemB = true) (h1 : 3 ≤ k) (h2 : k ≤ 12) : (o ++ [opI k]).all itemB = true := by
  rw [List.all_append, h]
  simp [itemB_op k h1 h2]
theorem levP_all : ∀ f, (∀ lev r o r', r.all tokB = true → levP f lev r = some (o, r') → o.all itemB = true ∧ r'.all tokB = true) ∧ (∀ lev o r o' r', o.all itemB = true → r.all tokB = true → tailP f lev o r = some (o', r') → o'.all itemB = true ∧ r'.all tokB = true)
  | 0 => ⟨fun lev r o r' _ h => by simp [levP] at h, fun lev o r o' r' _ _ h => by simp [tailP] at h⟩
  | f + 1 => by
    obtain ⟨ih1, ih2⟩ := levP_all f
    refine ⟨fun lev r o r' hr h => ?_, fun lev o r o' r' ho hr h => ?_⟩
    · unfold levP at h
      split at h
      · obtain ⟨p, h1, h2⟩ := Option.bind_eq_some_iff.1 h
        obtain ⟨a1, a2⟩ := ih1 _ _ _ _ hr (show levP f (lev + 1) r = some (p.1, p.2) from h1)
        exact ih2 _ _ _ _ _ a1 a2 h2
      · split at h
        · obtain ⟨p, h1, h2⟩ := Option.bind_eq_some_iff.1 h
          obtain ⟨a1, a2⟩ := ih1 _ _ _ _ hr (show levP f 4 r = some (p.1, p.2) from h1)
          cases ht : twoT 3 p.2 with
          | none =>
            rw [ht] at h2
            cases h2
            exact ⟨a1, a2⟩
          | some q =>
            obtain ⟨k, r2⟩ := q
            rw [ht] at h2
            obtain ⟨z, h3, h4⟩ := Option.map_eq_some_iff.1 h2
            cases h4
            obtain ⟨b1, b2⟩ := twoK_all ht a2
            obtain ⟨c1, c2⟩ := ih1 _ _ _ _ b1 (show levP f 4 r2 = some (z.1, z.2) from h3)
            have hk := kindsL_310 3 k b2
            refine ⟨?_, c2⟩
            rw [List.all_append, a1, all_op c1 (by omega) (by omega)]
            rfl
        · split at h
          · cases hs : seesT (sgn (if lev = 2 then 11 else 12)) r with
            | some r1 =>
              rw [hs] at h
              obtain ⟨z, h3, h4⟩ := Option.map_eq_some_iff.1 h
              cases h4
              obtain ⟨c1, c2⟩ := ih1 _ _ _ _ (sees_all hs hr) (show levP f lev r1 = some (z.1, z.2) from h3)
              refine ⟨all_op c1 ?_ ?_, c2⟩ <;> split <;> decide
            | none => rw [hs] at h; exact ih1 _ _ _ _ hr h
          · cases hs : seesT ⟨#[40]⟩ r with
            | some r1 =>
              rw [hs] at h
              obtain ⟨q, h1, h2⟩ := Option.bind_eq_some_iff.1 h
              obtain ⟨z, h3, h4⟩ := Option.map_eq_some_iff.1 h2
              cases h4
              obtain ⟨c1, c2⟩ := ih1 _ _ _ _ (sees_all hs hr) (show levP f 0 r1 = some (q.1, q.2) from h1)
              exact ⟨c1, sees_all h3 c2⟩
            | none =>
              rw [hs] at h
              cases r with
              | nil => cases h
              | cons t r =>
                rw [List.all_cons, Bool.and_eq_true] at hr
                simp only [] at h
                split at h
                · cases h
                · rename_i h3
                  cases h
                  refine ⟨?_, hr.2⟩
                  rw [List.all_cons, itmOf_ok hr.1 h3]
                  rfl
    · unfold tailP at h
      cases ht : twoT lev r with
      | none => rw [ht] at h; cases h; exact ⟨ho, hr⟩
      | some q =>
        obtain ⟨k, r1⟩ := q
        rw [ht] at h
        obtain ⟨p, h1, h2⟩ := Option.bind_eq_some_iff.1 h
        obtain ⟨b1, b2⟩ := twoK_all ht hr
        obtain ⟨c1, c2⟩ := ih1 _ _ _ _ b1 (show levP f (lev + 1) r1 = some (p.1, p.2) from h1)
        have hk := kindsL_310 lev k b2
        refine ih2 _ _ _ _ _ ?_ c2 h2
        rw [List.all_append, ho, all_op c1 (by omega) (by omega)]
        rfl
theorem levR_all {lev : Nat} {r r' : List TT} {o : List TI} (hr : r.all tokB = true) (h : levR lev r = some (o, r')) : o.all itemB = true := ((levP_all _).1 _ _ _ _ hr h).1
/-- What ReadSum answers. -/
def sumR (toks : List TT) : List TI × Bool := if toks.all tokB = true then (match levR 0 toks with
    | some (o, []) => if sumB o = true then (o, true) else ([], false)
    | _ => ([], false)) else ([], false)
theorem sumR_bad {toks : List TT} (h : toks.all tokB = false) : sumR toks = ([], false) := by unfold sumR; rw [if_neg (by rw [h]; decide)]
theorem sumR_none {toks : List TT} (h : levR 0 toks = none) : sumR toks = ([], false) := by
  unfold sumR
  split
  · rw [h]
  · rfl
theorem sumR_more {toks r : List TT} {o : List TI} (h : levR 0 toks = some (o, r)) (hr : r ≠ []) : sumR toks = ([], false) := by
  unfold sumR
  split
  · rw [h]
    cases r with
    | nil => exact absurd rfl hr
    | cons t r => rfl
  · rfl
theorem sumR_end {toks : List TT} {o : List TI} (ha : toks.all tokB = true) (h : levR 0 toks = some (o, [])) : sumR toks = if sumB o = true then (o, true) else ([], false) := by
  unfold sumR
  rw [if_pos ha, h]
end Go.Proofs.YthgbjnchhaoceaaDoor
