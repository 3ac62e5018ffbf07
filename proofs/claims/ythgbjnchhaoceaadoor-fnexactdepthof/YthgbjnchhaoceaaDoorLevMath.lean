/-
  What tokens are read as, level by level, without counting steps.
-/
import Derived.Test.YthgbjnchhaoceaaDoorSumMath
namespace Go.Proofs.YthgbjnchhaoceaaDoor

theorem levR_eq {f lev : Nat} {r : List TT} (hl : lev ≤ 7) (h : 10 * r.length + (7 - lev) < f) : levP f lev r = levR lev r := by
  unfold levR
  by_cases hf : f ≤ 10 * r.length + 8
  · exact ((levP_more f).1 lev r _ hl h hf).symm
  · exact (levP_more (10 * r.length + 8)).1 lev r f hl (by omega) (by omega)
/-- What goes on behind the first one of a level. -/
def tlR (lev : Nat) (o : List TI) (r : List TT) : Option (List TI × List TT) := tailP (10 * r.length + 9) lev o r
theorem tlR_eq {f lev : Nat} {o : List TI} {r : List TT} (hl : lev ≤ 5) (h : 10 * r.length + 8 < f) : tailP f lev o r = tlR lev o r := by
  unfold tlR
  by_cases hf : f ≤ 10 * r.length + 9
  · exact ((levP_more f).2 lev o r _ hl h hf).symm
  · exact (levP_more (10 * r.length + 9)).2 lev o r f hl (by omega) (by omega)
theorem levR_len {lev : Nat} {r r' : List TT} {o : List TI} (h : levR lev r = some (o, r')) : r'.length < r.length := (levP_len _).1 _ _ _ _ h
theorem levR_two {lev : Nat} {r : List TT} (hl : lev = 0 ∨ lev = 1 ∨ lev = 4 ∨ lev = 5) : levR lev r = match levR (lev + 1) r with
    | none => none
    | some (o, r') => tlR lev o r' := by
  obtain ⟨f, hf⟩ : ∃ f, f = 10 * r.length + 7 := ⟨_, rfl⟩
  have e : levR lev r = levP (f + 1) lev r := by rw [hf]; rfl
  rw [e]
  unfold levP
  rw [if_pos hl, levR_eq (by omega) (by omega)]
  cases hq : levR (lev + 1) r with
  | none => rfl
  | some p =>
    obtain ⟨o, r'⟩ := p
    have := levR_len hq
    show tailP f lev o r' = tlR lev o r'
    exact tlR_eq (by omega) (by omega)
theorem tlR_none {lev : Nat} {o : List TI} {r : List TT} (h : twoT lev r = none) : tlR lev o r = some (o, r) := by
  unfold tlR
  rw [tailP, h]
theorem tlR_some {lev : Nat} {o : List TI} {r r1 : List TT} {k : Int} (hl : lev ≤ 5) (h : twoT lev r = some (k, r1)) : tlR lev o r = match levR (lev + 1) r1 with
    | none => none
    | some (p, r2) => tlR lev (o ++ (p ++ [opI k])) r2 := by
  have hlen := twoK_len h
  have e : tlR lev o r = tailP (10 * r.length + 8 + 1) lev o r := rfl
  rw [e, tailP, h]
  simp only []
  rw [levR_eq (by omega) (by omega)]
  cases hq : levR (lev + 1) r1 with
  | none => rfl
  | some p =>
    obtain ⟨p, r2⟩ := p
    have := levR_len hq
    exact tlR_eq hl (show 10 * r2.length + 8 < 10 * r.length + 8 by omega)
theorem levR_3 {r : List TT} : levR 3 r = match levR 4 r with
    | none => none
    | some (o, r') => match twoT 3 r' with
      | none => some (o, r')
      | some (k, r2) => match levR 4 r2 with
        | none => none
        | some (p, r3) => some (o ++ (p ++ [opI k]), r3) := by
  obtain ⟨f, hf⟩ : ∃ f, f = 10 * r.length + 7 := ⟨_, rfl⟩
  have e : levR 3 r = levP (f + 1) 3 r := by rw [hf]; rfl
  rw [e]
  unfold levP
  rw [if_neg (by omega), if_pos rfl, levR_eq (by omega) (by omega)]
  cases hq : levR 4 r with
  | none => rfl
  | some p =>
    obtain ⟨o, r'⟩ := p
    have h1 := levR_len hq
    simp only [Option.bind_some]
    cases ht : twoT 3 r' with
    | none => rfl
    | some q =>
      obtain ⟨k, r2⟩ := q
      have h2 := twoK_len ht
      simp only []
      rw [levR_eq (by omega) (by omega)]
      cases levR 4 r2 with
      | none => rfl
      | some z => rfl
theorem levR_pre {lev : Nat} {r : List TT} (hl : lev = 2 ∨ lev = 6) : levR lev r = match seesT (sgn (if lev = 2 then 11 else 12)) r with
    | some r1 => (match levR lev r1 with
      | none => none
      | some (o, r2) => some (o ++ [opI (if lev = 2 then 11 else 12)], r2))
    | none => levR (lev + 1) r := by
  obtain ⟨f, hf⟩ : ∃ f, f = 10 * r.length + 7 := ⟨_, rfl⟩
  have e : levR lev r = levP (f + 1) lev r := by rw [hf]; rfl
  rw [e]
  unfold levP
  rw [if_neg (by omega), if_neg (by omega), if_pos hl]
  cases hs : seesT (sgn (if lev = 2 then 11 else 12)) r with
  | none => exact levR_eq (by omega) (by omega)
  | some r1 =>
    have h1 := sees_len hs
    simp only []
    rw [levR_eq (by omega) (by omega)]
    cases levR lev r1 with
    | none => rfl
    | some z => rfl
theorem levR_7 {r : List TT} : levR 7 r = match seesT ⟨#[40]⟩ r with
    | some r1 => (match levR 0 r1 with
      | none => none
      | some (o, r2) => match seesT ⟨#[41]⟩ r2 with
        | none => none
        | some r3 => some (o, r3))
    | none => match r with
      | [] => none
      | t :: r1 => if t.1 = 3 then none else some ([itmOf t], r1) := by
  obtain ⟨f, hf⟩ : ∃ f, f = 10 * r.length + 7 := ⟨_, rfl⟩
  have e : levR 7 r = levP (f + 1) 7 r := by rw [hf]; rfl
  rw [e]
  unfold levP
  rw [if_neg (by omega), if_neg (by omega), if_neg (by omega)]
  cases hs : seesT ⟨#[40]⟩ r with
  | none => rfl
  | some r1 =>
    have h1 := sees_len hs
    simp only []
    rw [levR_eq (by omega) (by omega)]
    cases levR 0 r1 with
    | none => rfl
    | some z =>
      obtain ⟨o, r2⟩ := z
      simp only [Option.bind_some]
      cases seesT ⟨#[41]⟩ r2 <;> rfl
end Go.Proofs.YthgbjnchhaoceaaDoor
