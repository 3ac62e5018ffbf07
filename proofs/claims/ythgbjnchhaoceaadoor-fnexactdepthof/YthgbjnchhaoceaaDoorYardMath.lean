/-
  The program's reader of sums without any program: signs that wait, and that it answers what the levels read.
-/
import Derived.Test.YthgbjnchhaoceaaDoorLevMath2
namespace Go.Proofs.YthgbjnchhaoceaaDoor

/-- How much a sign binds. -/
def bindK (k : Int) : Nat :=
  if k = 12 then 7 else if k = 5 ∨ k = 6 then 6 else if k = 3 ∨ k = 4 then 5 else if k = 7 ∨ k = 8 then 4 else if k = 11 then 3 else if k = 9 then 2 else if k = 10 then 1 else 0
/-- What waits last. -/
def topK : List Int → Int
  | [] => 0
  | k :: _ => k
/-- The last signs that wait become items, as long as they bind that much. -/
def settleW (g : Nat) (o : List TI) : List Int → List TI × List Int
  | [] => (o, [])
  | k :: W => if g ≤ bindK k then settleW g (o ++ [opI k]) W else (o, k :: W)
/-- Which kind a sign is. -/
def kindS (s : ByteArray) : Int :=
  if s = sgn 3 then 3 else if s = sgn 4 then 4 else if s = sgn 5 then 5 else if s = sgn 6 then 6 else if s = sgn 7 then 7 else if s = sgn 8 then 8 else if s = sgn 9 then 9 else if s = sgn 10 then 10 else if s = sgn 11 then 11 else if s = sgn 12 then 12 else 0
/-- A state: items, what waits, whether one is whole. -/
abbrev YS := List TI × List Int × Bool
def aheadY (k : Int) (y : YS) : Option YS :=
  if y.2.2 = true ∨ bindK k < bindK (topK y.2.1) then none else some (y.1, k :: y.2.1, false)
def betweenY (k : Int) (y : YS) : Option YS :=
  if y.2.2 = false then none else
    if bindK k = 4 ∧ bindK (topK (settleW (bindK k + 1) y.1 y.2.1).2) = 4 then none else
      some ((settleW (bindK k) (settleW (bindK k + 1) y.1 y.2.1).1 (settleW (bindK k + 1) y.1 y.2.1).2).1, k :: (settleW (bindK k) (settleW (bindK k + 1) y.1 y.2.1).1 (settleW (bindK k + 1) y.1 y.2.1).2).2, false)
def closeY (y : YS) : Option YS :=
  if y.2.2 = false then none else
    match (settleW 1 y.1 y.2.1).2 with
    | [] => none
    | _ :: W => some ((settleW 1 y.1 y.2.1).1, W, true)
/-- One token more. -/
def stepY (t : TT) (y : YS) : Option YS :=
  if t.1 = 2 ∨ t.1 = 1 then (if y.2.2 = true then none else some (y.1 ++ [itmOf t], y.2.1, true))
  else if t.2.1 = ⟨#[40]⟩ then (if y.2.2 = true then none else some (y.1, 0 :: y.2.1, false))
  else if t.2.1 = ⟨#[41]⟩ then closeY y
  else if 11 ≤ kindS t.2.1 then aheadY (kindS t.2.1) y else betweenY (kindS t.2.1) y
/-- At the end. -/
def endY (y : YS) : Option (List TI) :=
  if y.2.2 = true ∧ (settleW 1 y.1 y.2.1).2 = [] then some (settleW 1 y.1 y.2.1).1 else none
def runY : List TT → YS → Option (List TI)
  | [], y => endY y
  | t :: r, y => match stepY t y with
    | none => none
    | some y' => runY r y'

theorem runY_cons (t : TT) (r : List TT) (y : YS) : runY (t :: r) y = match stepY t y with | none => none | some y' => runY r y' := rfl
theorem kindS_sgn {k : Int} (hk : 3 ≤ k ∧ k ≤ 12) : kindS (sgn k) = k := by
  have h2 : k = 3 ∨ k = 4 ∨ k = 5 ∨ k = 6 ∨ k = 7 ∨ k = 8 ∨ k = 9 ∨ k = 10 ∨ k = 11 ∨ k = 12 := by omega
  rcases h2 with rfl | rfl | rfl | rfl | rfl | rfl | rfl | rfl | rfl | rfl <;> decide +kernel
theorem sgn_par {k : Int} (hk : 3 ≤ k ∧ k ≤ 12) : sgn k ≠ ⟨#[40]⟩ ∧ sgn k ≠ ⟨#[41]⟩ := by
  have h2 : k = 3 ∨ k = 4 ∨ k = 5 ∨ k = 6 ∨ k = 7 ∨ k = 8 ∨ k = 9 ∨ k = 10 ∨ k = 11 ∨ k = 12 := by omega
  rcases h2 with rfl | rfl | rfl | rfl | rfl | rfl | rfl | rfl | rfl | rfl <;> decide +kernel
/-- What a right token is. -/
theorem tok_forms {t : TT} (h : tokB t = true) : t.1 = 1 ∨ t.1 = 2 ∨ t = parO ∨ t = parC ∨ ∃ k, (3 ≤ k ∧ k ≤ 12) ∧ t = sgnT k := by
  rcases tokB_kind h with ⟨s, rfl, _⟩ | ⟨c, rfl, _⟩ | ⟨s, rfl, hs⟩
  · exact .inl rfl
  · exact .inr (.inl rfl)
  refine .inr (.inr ?_)
  have hs2 : s = sgn 9 ∨ s = sgn 10 ∨ s = sgn 11 ∨ s = sgn 12 ∨ s = sgn 3 ∨ s = sgn 4 ∨ s = sgn 5 ∨ s = sgn 6 ∨ s = sgn 7 ∨ s = sgn 8 ∨ s = ⟨#[40]⟩ ∨ s = ⟨#[41]⟩ := by
    unfold signB at hs
    rw [Bool.or_eq_true] at hs
    rcases hs with hs | hs
    · have hm := inB_iff.1 hs
      simp only [signW, List.mem_cons, List.not_mem_nil, or_false] at hm
      rcases hm with rfl | rfl | rfl | rfl <;> simp [sgn]
    · have hm := inB_iff.1 hs
      simp only [signO, List.mem_cons, List.not_mem_nil, or_false] at hm
      rcases hm with rfl | rfl | rfl | rfl | rfl | rfl | rfl | rfl <;> simp [sgn]
  rcases hs2 with rfl | rfl | rfl | rfl | rfl | rfl | rfl | rfl | rfl | rfl | rfl | rfl
  · exact .inr (.inr ⟨9, by omega, rfl⟩)
  · exact .inr (.inr ⟨10, by omega, rfl⟩)
  · exact .inr (.inr ⟨11, by omega, rfl⟩)
  · exact .inr (.inr ⟨12, by omega, rfl⟩)
  · exact .inr (.inr ⟨3, by omega, rfl⟩)
  · exact .inr (.inr ⟨4, by omega, rfl⟩)
  · exact .inr (.inr ⟨5, by omega, rfl⟩)
  · exact .inr (.inr ⟨6, by omega, rfl⟩)
  · exact .inr (.inr ⟨7, by omega, rfl⟩)
  · exact .inr (.inr ⟨8, by omega, rfl⟩)
  · exact .inl rfl
  · exact .inr (.inl rfl)
theorem step_one {t : TT} (h : t.1 = 1 ∨ t.1 = 2) (o : List TI) (W : List Int) : stepY t (o, W, false) = some (o ++ [itmOf t], W, true) := by
  unfold stepY
  rw [if_pos (by omega), if_neg (by simp)]
theorem step_one' {t : TT} (h : t.1 = 1 ∨ t.1 = 2) (o : List TI) (W : List Int) : stepY t (o, W, true) = none := by
  unfold stepY
  rw [if_pos (by omega), if_pos rfl]
theorem step_open (o : List TI) (W : List Int) : stepY parO (o, W, false) = some (o, 0 :: W, false) := rfl
theorem step_open' (o : List TI) (W : List Int) : stepY parO (o, W, true) = none := rfl
theorem step_close (y : YS) : stepY parC y = closeY y := by
  unfold stepY
  rw [if_neg (by decide), if_neg (by decide +kernel), if_pos (by rfl)]
theorem step_sgn {k : Int} (hk : 3 ≤ k ∧ k ≤ 12) (y : YS) : stepY (sgnT k) y = if 11 ≤ k then aheadY k y else betweenY k y := by
  unfold stepY
  rw [if_neg (by show ¬ ((3 : Int) = 2 ∨ (3 : Int) = 1); omega), if_neg (show ¬ (sgnT k).2.1 = ⟨#[40]⟩ from (sgn_par hk).1), if_neg (show ¬ (sgnT k).2.1 = ⟨#[41]⟩ from (sgn_par hk).2)]
  show (if 11 ≤ kindS (sgn k) then aheadY (kindS (sgn k)) y else betweenY (kindS (sgn k)) y) = _
  rw [kindS_sgn hk]
theorem settle_none {g : Nat} {o : List TI} {W : List Int} (h : bindK (topK W) < g) : settleW g o W = (o, W) := by
  cases W with
  | nil => rfl
  | cons k W =>
    unfold settleW
    rw [if_neg (by have : bindK k < g := h; omega)]
theorem settle_cons {g : Nat} {o : List TI} {k : Int} {W : List Int} (h : g ≤ bindK k) : settleW g o (k :: W) = settleW g (o ++ [opI k]) W := by
  rw [settleW, if_pos h]
theorem settle_settle {g g' : Nat} (hg : g ≤ g') : ∀ (W : List Int) (o : List TI), settleW g (settleW g' o W).1 (settleW g' o W).2 = settleW g o W
  | [], _ => rfl
  | k :: W, o => by
    by_cases h : g' ≤ bindK k
    · rw [settle_cons h, settle_settle hg W, settle_cons (by omega)]
    · rw [settle_none (g := g') (W := k :: W) (by show bindK k < g'; omega)]
/-- A sign between two that binds more than that stands next. -/
def OpNext (lev : Nat) (r : List TT) : Prop := ∃ k r1, (3 ≤ k ∧ k ≤ 10) ∧ r = sgnT k :: r1 ∧ lev < bindK k
theorem OpNext.mono {lev lev' : Nat} {r : List TT} (h : OpNext lev' r) (hl : lev ≤ lev') : OpNext lev r := by
  obtain ⟨k, r1, h1, h2, h3⟩ := h
  exact ⟨k, r1, h1, h2, by omega⟩
theorem bind_lev {k : Int} (hk : 3 ≤ k ∧ k ≤ 10) : bindK k = levK k + 1 := by
  have h2 : k = 3 ∨ k = 4 ∨ k = 5 ∨ k = 6 ∨ k = 7 ∨ k = 8 ∨ k = 9 ∨ k = 10 := by omega
  rcases h2 with rfl | rfl | rfl | rfl | rfl | rfl | rfl | rfl <;> rfl
theorem bind_not {k : Int} (hk : 3 ≤ k ∧ k ≤ 10) : bindK k ≠ 3 ∧ bindK k ≤ 6 ∧ 0 < bindK k := by
  have h2 : k = 3 ∨ k = 4 ∨ k = 5 ∨ k = 6 ∨ k = 7 ∨ k = 8 ∨ k = 9 ∨ k = 10 := by omega
  rcases h2 with rfl | rfl | rfl | rfl | rfl | rfl | rfl | rfl <;> decide
theorem bind_pos {k : Int} (hk : 3 ≤ k ∧ k ≤ 12) : 0 < bindK k := by
  have h2 : k = 3 ∨ k = 4 ∨ k = 5 ∨ k = 6 ∨ k = 7 ∨ k = 8 ∨ k = 9 ∨ k = 10 ∨ k = 11 ∨ k = 12 := by omega
  rcases h2 with rfl | rfl | rfl | rfl | rfl | rfl | rfl | rfl | rfl | rfl <;> decide
theorem bind_le (k : Int) : bindK k ≤ 7 := by
  unfold bindK; (repeat' split) <;> omega
theorem between_more {k : Int} (h : bindK k ≠ 4) (o : List TI) (W : List Int) : betweenY k (o, W, true) = some ((settleW (bindK k) o W).1, k :: (settleW (bindK k) o W).2, false) := by
  unfold betweenY
  rw [if_neg (by simp), if_neg (fun e => h e.1), settle_settle (by omega)]
/-- A sign that waits is an item ahead of what binds no more. -/
theorem run_pop {k : Int} (hk : 3 ≤ k ∧ k ≤ 12) (W : List Int) (o : List TI) {r : List TT} (hr : r.all tokB = true) (hn : ¬ OpNext (bindK k) r) (h4 : bindK k ≠ 4 ∨ ¬ OpNext 3 r) : runY r (o, k :: W, true) = runY r (o ++ [opI k], W, true) := by
  have hp := bind_pos hk
  have s1 : settleW 1 o (k :: W) = settleW 1 (o ++ [opI k]) W := settle_cons (by omega)
  cases r with
  | nil => simp only [runY, endY, s1]
  | cons t r =>
    rw [List.all_cons, Bool.and_eq_true] at hr
    rw [runY_cons, runY_cons]
    rcases tok_forms hr.1 with h | h | rfl | rfl | ⟨j, hj, rfl⟩
    · rw [step_one' (.inl h), step_one' (.inl h)]
    · rw [step_one' (.inr h), step_one' (.inr h)]
    · rw [step_open', step_open']
    · have e : closeY (o, k :: W, true) = closeY (o ++ [opI k], W, true) := by simp only [closeY, s1]
      rw [step_close, step_close, e]
    · rw [step_sgn hj, step_sgn hj]
      by_cases h11 : 11 ≤ j
      · rw [if_pos h11, if_pos h11]
        simp [aheadY]
      · rw [if_neg h11, if_neg h11]
        have hjk : bindK j ≤ bindK k := Nat.le_of_not_lt (fun h => hn ⟨j, r, by omega, rfl, h⟩)
        by_cases e4 : bindK j = 4
        · have : 5 ≤ bindK k := by
            rcases h4 with h4 | h4
            · omega
            · exact absurd ⟨j, r, by omega, rfl, by omega⟩ h4
          have e : betweenY j (o, k :: W, true) = betweenY j (o ++ [opI k], W, true) := by
            unfold betweenY
            dsimp only
            rw [settle_cons (g := bindK j + 1) (by omega)]
          rw [e]
        · rw [between_more e4, between_more e4, settle_cons hjk]
/-- A second one of = and <. -/
theorem run_twice {k : Int} (hk : bindK k = 4) (W : List Int) (o : List TI) {r : List TT} (h3 : OpNext 3 r) (h4 : ¬ OpNext 4 r) : runY r (o, k :: W, true) = none := by
  obtain ⟨j, r1, hj, rfl, h⟩ := h3
  have e4 : bindK j = 4 := by
    have : ¬ 4 < bindK j := fun h => h4 ⟨j, r1, hj, rfl, h⟩
    omega
  rw [runY_cons, step_sgn (by omega), if_neg (by omega)]
  have : betweenY j (o, k :: W, true) = none := by
    unfold betweenY
    rw [if_neg (by simp), if_pos]
    refine ⟨e4, ?_⟩
    dsimp only
    rw [settle_none (g := bindK j + 1) (W := k :: W) (by show bindK k < bindK j + 1; omega)]
    exact hk
  rw [this]
theorem run_between {k : Int} (hk : 3 ≤ k ∧ k ≤ 10) {W : List Int} (hb : bindK (topK W) < bindK k) (o : List TI) (r : List TT) : runY (sgnT k :: r) (o, W, true) = runY r (o, k :: W, false) := by
  rw [runY_cons, step_sgn (by omega), if_neg (by omega)]
  have : betweenY k (o, W, true) = some (o, k :: W, false) := by
    unfold betweenY
    rw [if_neg (by simp)]
    dsimp only
    rw [settle_none (g := bindK k + 1) (by omega)]
    dsimp only
    rw [if_neg (by omega), settle_none (g := bindK k) hb]
  rw [this]
theorem sees_is {s : ByteArray} {r r1 : List TT} (h : seesT s r = some r1) (hr : r.all tokB = true) : r = (3, s, zeroC) :: r1 := by
  cases r with
  | nil => cases h
  | cons t r =>
    rw [seesT_cons] at h
    rw [List.all_cons, Bool.and_eq_true] at hr
    split at h
    · rename_i e
      cases h
      obtain ⟨k, u, c⟩ := t
      obtain ⟨e1, e2⟩ := e
      dsimp only at e1 e2
      subst e1 e2
      have := hr.1
      rw [tokB_3, Bool.and_eq_true, decide_eq_true_eq] at this
      rw [this.2]
    · cases h
theorem twoK_is {r r1 : List TT} {k : Int} {ks : List Int} (h : twoK r ks = some (k, r1)) (hr : r.all tokB = true) : r = sgnT k :: r1 := by
  induction ks with
  | nil => cases h
  | cons j ks ih =>
    unfold twoK at h
    cases hs : seesT (sgn j) r with
    | some r2 => rw [hs] at h; cases h; exact sees_is hs hr
    | none => rw [hs] at h; exact ih h
/-- The sign of that level, and what binds as much. -/
theorem two_is {lev : Nat} (hl : lev ≤ 5) {r r1 : List TT} {k : Int} (h : twoT lev r = some (k, r1)) (hr : r.all tokB = true) : r = sgnT k :: r1 ∧ (3 ≤ k ∧ k ≤ 10) ∧ bindK k = lev + 1 := by
  have e := twoK_is h hr
  have hk := kindsL_310 lev k (twoK_all h hr).2
  refine ⟨e, hk, ?_⟩
  rw [e, two_sgn k hk _ _ hl] at h
  split at h
  · rename_i e2; rw [bind_lev hk, e2]
  · cases h
theorem two_not {lev : Nat} (hl : lev ≤ 5) {r : List TT} (h : twoT lev r = none) (ho : OpNext lev r) : OpNext (lev + 1) r := by
  obtain ⟨k, r1, hk, rfl, hb⟩ := ho
  refine ⟨k, r1, hk, rfl, ?_⟩
  rw [two_sgn k hk _ _ hl] at h
  split at h
  · cases h
  · rename_i e
    have := bind_lev hk
    omega
/-- What comes behind is what the level reads, and on. -/
def Agrees (lev : Nat) (o : List TI) (W : List Int) (res : Option (List TI)) : Option (List TI × List TT) → Prop
  | none => res = none
  | some (p, r') => r'.all tokB = true ∧ (OpNext lev r' → res = none) ∧ (¬ OpNext lev r' → res = runY r' (o ++ p, W, true))
/-- How much what waits may bind ahead of a level. -/
def okW (lev b : Nat) : Prop := b ≤ 7 ∧ (lev = 2 → b ≤ 3) ∧ (lev ≠ 2 → lev ≤ 5 → b ≤ lev)
theorem yard_tail {lev : Nat} (hl : lev = 0 ∨ lev = 1 ∨ lev = 4 ∨ lev = 5) (W : List Int) (hb : bindK (topK W) ≤ lev) (o : List TI) (m : Nat)
    (ih : ∀ r1 k o', r1.length < m → r1.all tokB = true → bindK k = lev + 1 → Agrees (lev + 1) o' (k :: W) (runY r1 (o', k :: W, false)) (levR (lev + 1) r1)) :
    ∀ n r p res, r.length ≤ n → r.length ≤ m → r.all tokB = true → (OpNext (lev + 1) r → res = none) → (¬ OpNext (lev + 1) r → res = runY r (o ++ p, W, true)) → Agrees lev o W res (tlR lev p r) := by
  intro n
  induction n with
  | zero =>
    intro r p res hn hm hr h1 h2
    have e : r = [] := List.length_eq_zero_iff.1 (by omega)
    subst e
    have ht : twoT lev ([] : List TT) = none := stop_nil lev (by omega) (by omega)
    rw [tlR_none ht]
    exact ⟨hr, fun h => h1 (two_not (by omega) ht h), fun h => h2 (fun h' => h (h'.mono (by omega)))⟩
  | succ n ihn =>
    intro r p res hn hm hr h1 h2
    cases ht : twoT lev r with
    | none =>
      rw [tlR_none ht]
      exact ⟨hr, fun h => h1 (two_not (by omega) ht h), fun h => h2 (fun h' => h (h'.mono (by omega)))⟩
    | some q =>
      obtain ⟨k, r1⟩ := q
      obtain ⟨hre, hk, hbk⟩ := two_is (by omega) ht hr
      have hlen := twoK_len ht
      have hr1 : r1.all tokB = true := by
        rw [hre, List.all_cons, Bool.and_eq_true] at hr; exact hr.2
      rw [tlR_some (by omega) ht]
      have hno : ¬ OpNext (lev + 1) r := by
        rintro ⟨j, r2, hj, e, hlt⟩
        rw [hre] at e
        injection e with e1 e2
        have : k = j := by
          have := congrArg (fun t : TT => kindS t.2.1) e1
          have h' : kindS (sgn k) = kindS (sgn j) := this
          rwa [kindS_sgn (by omega), kindS_sgn (by omega)] at h'
        subst this
        omega
      have hres := h2 hno
      rw [hre, run_between hk (by omega)] at hres
      have ha := ih r1 k (o ++ p) (by omega) hr1 hbk
      rw [← hres] at ha
      cases hq : levR (lev + 1) r1 with
      | none => rw [hq] at ha; exact ha
      | some z =>
        obtain ⟨q, r2⟩ := z
        rw [hq] at ha
        obtain ⟨a0, a1, a2⟩ := ha
        have hlen2 := levR_len hq
        refine ihn r2 (p ++ (q ++ [opI k])) res (by omega) (by omega) a0 a1 (fun h => ?_)
        rw [a2 h, run_pop (by omega) W _ a0 (by rw [hbk]; exact h) (.inl (by omega))]
        simp only [List.append_assoc]
theorem yard_lev : ∀ (n lev : Nat) (r : List TT) (o : List TI) (W : List Int), 10 * r.length + (7 - lev) < n → lev ≤ 7 → r.all tokB = true → okW lev (bindK (topK W)) → (3 ≤ lev → bindK (topK W) ≤ 3 → seesT (sgn 11) r = none) → (lev = 7 → seesT (sgn 12) r = none) →
    Agrees lev o W (runY r (o, W, false)) (levR lev r) := by
  intro n
  induction n with
  | zero => intro lev r o W h; omega
  | succ n ih =>
    intro lev r o W hn hl hr hw h11 h12
    by_cases c1 : lev = 0 ∨ lev = 1 ∨ lev = 4 ∨ lev = 5
    · have hbl : bindK (topK W) ≤ lev := hw.2.2 (by omega) (by omega)
      have ha := ih (lev + 1) r o W (by omega) (by omega) hr ⟨by omega, by omega, by omega⟩ (fun _ h => h11 (by omega) h) (by omega)
      rw [levR_two c1]
      cases hq : levR (lev + 1) r with
      | none => rw [hq] at ha; exact ha
      | some z =>
        obtain ⟨p, r'⟩ := z
        rw [hq] at ha
        obtain ⟨a0, a1, a2⟩ := ha
        have hlen := levR_len hq
        refine yard_tail c1 W hbl o r'.length (fun r1 k o' h1 h2 h3 => ?_) r'.length r' p _ (Nat.le_refl _) (Nat.le_refl _) a0 a1 a2
        have hk : topK (k :: W) = k := rfl
        refine ih (lev + 1) r1 o' (k :: W) (by omega) (by omega) h2 ?_ (fun e1 e2 => ?_) (by omega)
        · rw [hk, h3]; exact ⟨by omega, by omega, by omega⟩
        · rw [hk, h3] at e2; omega
    by_cases c3 : lev = 3
    · subst c3
      have hbl : bindK (topK W) ≤ 3 := hw.2.2 (by omega) (by omega)
      have ha := ih 4 r o W (by omega) (by omega) hr ⟨by omega, by omega, by omega⟩ (fun _ h => h11 (by omega) h) (by omega)
      rw [levR_3]
      cases hq : levR 4 r with
      | none => rw [hq] at ha; exact ha
      | some z =>
        obtain ⟨p, r'⟩ := z
        rw [hq] at ha
        obtain ⟨a0, a1, a2⟩ := ha
        have hlen := levR_len hq
        dsimp only
        cases ht : twoT 3 r' with
        | none => exact ⟨a0, fun h => a1 (two_not (by omega) ht h), fun h => a2 (fun h' => h (h'.mono (by omega)))⟩
        | some q =>
          obtain ⟨k, r2⟩ := q
          dsimp only
          obtain ⟨hre, hk, hbk⟩ := two_is (by omega) ht a0
          have hlen2 := twoK_len ht
          have hr2 : r2.all tokB = true := by
            rw [hre, List.all_cons, Bool.and_eq_true] at a0; exact a0.2
          have hno : ¬ OpNext 4 r' := by
            rintro ⟨j, r3, hj, e, hlt⟩
            rw [hre] at e
            injection e with e1 e2
            have : k = j := by
              have := congrArg (fun t : TT => kindS t.2.1) e1
              have h' : kindS (sgn k) = kindS (sgn j) := this
              rwa [kindS_sgn (by omega), kindS_sgn (by omega)] at h'
            subst this
            omega
          have hres := a2 hno
          rw [hre, run_between hk (by omega)] at hres
          have hb := ih 4 r2 (o ++ p) (k :: W) (by omega) (by omega) hr2 ⟨bind_le _, by omega, fun _ _ => by show bindK k ≤ 4; omega⟩ (fun _ e => absurd (show bindK k ≤ 3 from e) (by omega)) (by omega)
          rw [← hres] at hb
          cases hq2 : levR 4 r2 with
          | none => rw [hq2] at hb; exact hb
          | some z =>
            obtain ⟨q, r3⟩ := z
            rw [hq2] at hb
            obtain ⟨b0, b1, b2⟩ := hb
            refine ⟨b0, fun h => ?_, fun h => ?_⟩
            · by_cases h4 : OpNext 4 r3
              · exact b1 h4
              · rw [b2 h4, run_twice hbk W _ h h4]
            · have h4 : ¬ OpNext 4 r3 := fun h' => h (h'.mono (by omega))
              rw [b2 h4, run_pop (by omega) W _ b0 (by rw [hbk]; exact h4) (.inr h)]
              simp only [List.append_assoc]
    by_cases c2 : lev = 2 ∨ lev = 6
    · rw [levR_pre c2]
      obtain ⟨K, hK⟩ : ∃ K : Int, K = if lev = 2 then 11 else 12 := ⟨_, rfl⟩
      rw [← hK]
      have hK2 : 11 ≤ K ∧ K ≤ 12 := by rw [hK]; split <;> omega
      have hKb : bindK K = lev + 1 := by
        rcases c2 with rfl | rfl
        · rw [hK]; rfl
        · rw [hK]; rfl
      have hbl : bindK (topK W) ≤ lev + 1 := by
        rcases c2 with rfl | rfl
        · exact hw.2.1 rfl
        · exact hw.1
      cases hs : seesT (sgn K) r with
      | some r1 =>
        have hre := sees_is hs hr
        have hlen := sees_len hs
        have hr1 := sees_all hs hr
        have hrun : runY r (o, W, false) = runY r1 (o, K :: W, false) := by
          rw [hre, runY_cons]
          have : stepY (3, sgn K, zeroC) (o, W, false) = some (o, K :: W, false) := by
            rw [show ((3, sgn K, zeroC) : TT) = sgnT K from rfl, step_sgn (by omega), if_pos hK2.1]
            unfold aheadY
            rw [if_neg]
            rintro (h | h)
            · cases h
            · have h' : bindK K < bindK (topK W) := h
              omega
          rw [this]
        have ha := ih lev r1 o (K :: W) (by omega) hl hr1 ⟨bind_le _, fun e => by show bindK K ≤ 3; omega, by omega⟩ (fun e1 e2 => absurd (show bindK K ≤ 3 from e2) (by omega)) (by omega)
        rw [← hrun] at ha
        dsimp only
        cases hq : levR lev r1 with
        | none => rw [hq] at ha; exact ha
        | some z =>
          obtain ⟨p, r'⟩ := z
          rw [hq] at ha
          obtain ⟨a0, a1, a2⟩ := ha
          refine ⟨a0, a1, fun h => ?_⟩
          rw [a2 h, run_pop (by omega) W _ a0 (fun h' => h (h'.mono (by omega))) (.inl (by omega))]
          simp only [List.append_assoc]
      | none =>
        dsimp only
        have ha := ih (lev + 1) r o W (by omega) (by omega) hr ⟨hw.1, by omega, fun _ _ => by rcases c2 with rfl | rfl <;> omega⟩ (fun e1 e2 => by
          rcases c2 with rfl | rfl
          · have e : K = 11 := hK
            rw [← e]; exact hs
          · exact h11 (by omega) e2) (fun e => by
          have e6 : lev = 6 := by omega
          subst e6
          have e : K = 12 := hK
          rw [← e]; exact hs)
        cases hq : levR (lev + 1) r with
        | none => rw [hq] at ha; exact ha
        | some z =>
          obtain ⟨p, r'⟩ := z
          rw [hq] at ha
          obtain ⟨a0, a1, a2⟩ := ha
          refine ⟨a0, fun h => a1 ?_, fun h => a2 (fun h' => h (h'.mono (by omega)))⟩
          obtain ⟨k, r1, hk, e, hlt⟩ := h
          have := bind_not hk
          exact ⟨k, r1, hk, e, by omega⟩
    have e7 : lev = 7 := by omega
    subst e7
    have hl12 := h12 rfl
    rw [levR_7]
    cases hs : seesT ⟨#[40]⟩ r with
    | some r1 =>
      have hre := sees_is hs hr
      have hlen := sees_len hs
      have hr1 := sees_all hs hr
      have hrun : runY r (o, W, false) = runY r1 (o, 0 :: W, false) := by
        rw [hre, runY_cons, show ((3, ⟨#[40]⟩, zeroC) : TT) = parO from rfl, step_open]
      have ha := ih 0 r1 o (0 :: W) (by omega) (by omega) hr1 ⟨Nat.zero_le _, by omega, fun _ _ => Nat.zero_le _⟩ (by omega) (by omega)
      rw [← hrun] at ha
      dsimp only
      cases hq : levR 0 r1 with
      | none => rw [hq] at ha; exact ha
      | some z =>
        obtain ⟨p, r2⟩ := z
        rw [hq] at ha
        obtain ⟨a0, a1, a2⟩ := ha
        dsimp only
        cases r2 with
        | nil =>
          have hno : ¬ OpNext 0 ([] : List TT) := by rintro ⟨k, r1, _, e, _⟩; cases e
          show runY r (o, W, false) = none
          rw [a2 hno]
          simp only [runY, endY]
          rw [settle_none (g := 1) (W := 0 :: W) (show bindK 0 < 1 by decide)]
          simp
        | cons t r2 =>
          have ht := (Bool.and_eq_true .. ▸ (List.all_cons ▸ a0) : tokB t = true ∧ r2.all tokB = true)
          rcases tok_forms ht.1 with h | h | rfl | rfl | ⟨j, hj, rfl⟩
          · have hno : ¬ OpNext 0 (t :: r2) := by rintro ⟨k, r1, _, e, _⟩; injection e with e1 e2; rw [e1] at h; exact absurd (show (3 : Int) = _ from h) (by decide)
            rw [sees_other (.inl (by omega))]
            show runY r (o, W, false) = none
            rw [a2 hno, runY_cons, step_one' (.inl h)]
          · have hno : ¬ OpNext 0 (t :: r2) := by rintro ⟨k, r1, _, e, _⟩; injection e with e1 e2; rw [e1] at h; exact absurd (show (3 : Int) = _ from h) (by decide)
            rw [sees_other (.inl (by omega))]
            show runY r (o, W, false) = none
            rw [a2 hno, runY_cons, step_one' (.inr h)]
          · have hno : ¬ OpNext 0 (parO :: r2) := by
              rintro ⟨k, r1, hk, e, _⟩
              injection e with e1 e2
              exact (sgn_par (k := k) (by omega)).1 (congrArg (fun t : TT => t.2.1) e1).symm
            rw [sees_other (.inr (by decide +kernel))]
            show runY r (o, W, false) = none
            rw [a2 hno, runY_cons, step_open']
          · have hno : ¬ OpNext 0 (parC :: r2) := by
              rintro ⟨k, r1, hk, e, _⟩
              injection e with e1 e2
              exact (sgn_par (k := k) (by omega)).2 (congrArg (fun t : TT => t.2.1) e1).symm
            have es : seesT ⟨#[41]⟩ (parC :: r2) = some r2 := sees_this _ _ _
            rw [es]
            dsimp only
            have hrun2 : runY r (o, W, false) = runY r2 (o ++ p, W, true) := by
              rw [a2 hno, runY_cons, step_close]
              have : closeY (o ++ p, 0 :: W, true) = some (o ++ p, W, true) := by
                unfold closeY
                rw [if_neg (by simp)]
                dsimp only
                rw [settle_none (g := 1) (W := 0 :: W) (show bindK 0 < 1 by decide)]
              rw [this]
            refine ⟨ht.2, fun h => ?_, fun _ => hrun2⟩
            obtain ⟨k, r3, hk, _, hlt⟩ := h
            have := bind_not hk
            omega
          · rw [sees_other (.inr (sgn_par hj).2)]
            show runY r (o, W, false) = none
            by_cases h10 : j ≤ 10
            · exact a1 ⟨j, r2, by omega, rfl, (bind_not (k := j) (by omega)).2.2⟩
            · have hno : ¬ OpNext 0 (sgnT j :: r2) := by
                rintro ⟨k, r1, hk, e, _⟩
                injection e with e1 e2
                have := congrArg (fun t : TT => kindS t.2.1) e1
                have h' : kindS (sgn j) = kindS (sgn k) := this
                rw [kindS_sgn (by omega), kindS_sgn (by omega)] at h'
                omega
              rw [a2 hno, runY_cons, step_sgn hj, if_pos (by omega)]
              simp [aheadY]
    | none =>
      dsimp only
      cases r with
      | nil =>
        show runY [] (o, W, false) = none
        simp [runY, endY]
      | cons t r1 =>
        have ht := (Bool.and_eq_true .. ▸ (List.all_cons ▸ hr) : tokB t = true ∧ r1.all tokB = true)
        dsimp only
        rcases tok_forms ht.1 with h | h | rfl | rfl | ⟨j, hj, rfl⟩
        · rw [if_neg (by omega)]
          refine ⟨ht.2, fun h => ?_, fun _ => by rw [runY_cons, step_one (.inl h)]⟩
          obtain ⟨k, r3, hk, _, hlt⟩ := h
          have := bind_not hk
          omega
        · rw [if_neg (by omega)]
          refine ⟨ht.2, fun h => ?_, fun _ => by rw [runY_cons, step_one (.inr h)]⟩
          obtain ⟨k, r3, hk, _, hlt⟩ := h
          have := bind_not hk
          omega
        · rw [show seesT ⟨#[40]⟩ (parO :: r1) = some r1 from sees_this _ _ _] at hs
          cases hs
        · rw [if_pos (by rfl)]
          show runY (parC :: r1) (o, W, false) = none
          rw [runY_cons, step_close]
          simp [closeY]
        · rw [if_pos (by rfl)]
          show runY (sgnT j :: r1) (o, W, false) = none
          rw [runY_cons, step_sgn hj]
          by_cases h10 : j ≤ 10
          · rw [if_neg (by omega)]
            simp [betweenY]
          · rw [if_pos (by omega)]
            have : j = 11 ∨ j = 12 := by omega
            rcases this with rfl | rfl
            · have : ¬ bindK (topK W) ≤ 3 := fun e => by
                have := h11 (by omega) e
                rw [sees_sgn 11 11 (by omega) (by omega), if_pos rfl] at this
                cases this
              have e : aheadY 11 (o, W, false) = none := by
                unfold aheadY
                rw [if_pos (.inr (by show bindK 11 < bindK (topK W); have : bindK 11 = 3 := rfl; omega))]
              rw [e]
            · rw [sees_sgn 12 12 (by omega) (by omega), if_pos rfl] at hl12
              cases hl12
/-- The program's way of reading says what the levels say. -/
theorem yard {toks : List TT} (h : toks.all tokB = true) : runY toks ([], [], false) = match levR 0 toks with
    | some (o, []) => some o
    | _ => none := by
  have ha := yard_lev (10 * toks.length + 8) 0 toks [] [] (by omega) (by omega) h ⟨Nat.zero_le _, by omega, fun _ _ => Nat.zero_le _⟩ (by omega) (by omega)
  cases hq : levR 0 toks with
  | none => rw [hq] at ha; exact ha
  | some z =>
    obtain ⟨p, r2⟩ := z
    rw [hq] at ha
    obtain ⟨a0, a1, a2⟩ := ha
    cases r2 with
    | nil =>
      have hno : ¬ OpNext 0 ([] : List TT) := by rintro ⟨k, r1, _, e, _⟩; cases e
      rw [a2 hno]
      simp [runY, endY, settleW]
    | cons t r2 =>
      have ht := (Bool.and_eq_true .. ▸ (List.all_cons ▸ a0) : tokB t = true ∧ r2.all tokB = true)
      dsimp only
      by_cases ho : OpNext 0 (t :: r2)
      · exact a1 ho
      · rw [a2 ho, runY_cons]
        rcases tok_forms ht.1 with h | h | rfl | rfl | ⟨j, hj, rfl⟩
        · rw [step_one' (.inl h)]
        · rw [step_one' (.inr h)]
        · rw [step_open']
        · rw [step_close]
          simp [closeY, settleW]
        · rw [step_sgn hj]
          by_cases h10 : j ≤ 10
          · exact absurd ⟨j, r2, by omega, rfl, (bind_not (k := j) (by omega)).2.2⟩ ho
          · rw [if_pos (by omega)]
            simp [aheadY]
end Go.Proofs.YthgbjnchhaoceaaDoor
