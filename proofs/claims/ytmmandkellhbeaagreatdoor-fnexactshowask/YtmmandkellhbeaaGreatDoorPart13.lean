/-
  A part of the proof: YardMath, SumI, SumI2, TextI, SgnVar.
-/
import Derived.Test.YtmmandkellhbeaaGreatDoorPart5
import Derived.Test.YtmmandkellhbeaaGreatDoorPart6
import Derived.Test.YtmmandkellhbeaaGreatDoorPart12
import Derived.Test.YtmmandkellhbeaaGreatDoorPart10

/-
  The program's reader of sums without any program: signs that wait, and that it answers what the levels read.
-/
namespace Go.Proofs.YtmmandkellhbeaaGreatDoor

/-- How much a sign binds. -/
def bindK (k : Int) : Nat :=
  if k = 12 then 7 else if k = 5 ∨ k = 6 then 6 else if k = 3 ∨ k = 4 then 5 else if k = 7 ∨ k = 8 then 4 else if k = 11 then 3 else if k = 9 then 2 else if k = 10 then 1 else 0
/-- What waits last. -/
def topK : List Int → Int
  | [] => 0
  | k :: _ => k
/-- The last signs that wait become items, as long as they bind that much. -/
def settleW (g : Nat) (o : List TI) : List Int → List TI × List Int
  | [] => (o, [])
  | k :: W => if g ≤ bindK k then settleW g (o ++ [opI k]) W else (o, k :: W)
/-- Which kind a sign is. -/
def kindS (s : ByteArray) : Int :=
  if s = sgn 3 then 3 else if s = sgn 4 then 4 else if s = sgn 5 then 5 else if s = sgn 6 then 6 else if s = sgn 7 then 7 else if s = sgn 8 then 8 else if s = sgn 9 then 9 else if s = sgn 10 then 10 else if s = sgn 11 then 11 else if s = sgn 12 then 12 else 0
/-- A state: items, what waits, whether one is whole. -/
abbrev YS := List TI × List Int × Bool
def aheadY (k : Int) (y : YS) : Option YS :=
  if y.2.2 = true ∨ bindK k < bindK (topK y.2.1) then none else some (y.1, k :: y.2.1, false)
def betweenY (k : Int) (y : YS) : Option YS :=
  if y.2.2 = false then none else
    if bindK k = 4 ∧ bindK (topK (settleW (bindK k + 1) y.1 y.2.1).2) = 4 then none else
      some ((settleW (bindK k) (settleW (bindK k + 1) y.1 y.2.1).1 (settleW (bindK k + 1) y.1 y.2.1).2).1, k :: (settleW (bindK k) (settleW (bindK k + 1) y.1 y.2.1).1 (settleW (bindK k + 1) y.1 y.2.1).2).2, false)
def closeY (y : YS) : Option YS :=
  if y.2.2 = false then none else
    match (settleW 1 y.1 y.2.1).2 with
    | [] => none
    | _ :: W => some ((settleW 1 y.1 y.2.1).1, W, true)
/-- One token more. -/
def stepY (t : TT) (y : YS) : Option YS :=
  if t.1 = 2 ∨ t.1 = 1 then (if y.2.2 = true then none else some (y.1 ++ [itmOf t], y.2.1, true))
  else if t.2.1 = ⟨#[40]⟩ then (if y.2.2 = true then none else some (y.1, 0 :: y.2.1, false))
  else if t.2.1 = ⟨#[41]⟩ then closeY y
  else if 11 ≤ kindS t.2.1 then aheadY (kindS t.2.1) y else betweenY (kindS t.2.1) y
/-- At the end. -/
def endY (y : YS) : Option (List TI) :=
  if y.2.2 = true ∧ (settleW 1 y.1 y.2.1).2 = [] then some (settleW 1 y.1 y.2.1).1 else none
def runY : List TT → YS → Option (List TI)
  | [], y => endY y
  | t :: r, y => match stepY t y with
    | none => none
    | some y' => runY r y'

theorem runY_cons (t : TT) (r : List TT) (y : YS) : runY (t :: r) y = match stepY t y with | none => none | some y' => runY r y' := rfl
theorem kindS_sgn {k : Int} (hk : 3 ≤ k ∧ k ≤ 12) : kindS (sgn k) = k := by
  have h2 : k = 3 ∨ k = 4 ∨ k = 5 ∨ k = 6 ∨ k = 7 ∨ k = 8 ∨ k = 9 ∨ k = 10 ∨ k = 11 ∨ k = 12 := by omega
  rcases h2 with rfl | rfl | rfl | rfl | rfl | rfl | rfl | rfl | rfl | rfl <;> decide +kernel
theorem sgn_par {k : Int} (hk : 3 ≤ k ∧ k ≤ 12) : sgn k ≠ ⟨#[40]⟩ ∧ sgn k ≠ ⟨#[41]⟩ := by
  have h2 : k = 3 ∨ k = 4 ∨ k = 5 ∨ k = 6 ∨ k = 7 ∨ k = 8 ∨ k = 9 ∨ k = 10 ∨ k = 11 ∨ k = 12 := by omega
  rcases h2 with rfl | rfl | rfl | rfl | rfl | rfl | rfl | rfl | rfl | rfl <;> decide +kernel
/-- What a right token is. -/
theorem tok_forms {t : TT} (h : tokB t = true) : t.1 = 1 ∨ t.1 = 2 ∨ t = parO ∨ t = parC ∨ ∃ k, (3 ≤ k ∧ k ≤ 12) ∧ t = sgnT k := by
  rcases tokB_kind h with ⟨s, rfl, _⟩ | ⟨c, rfl, _⟩ | ⟨s, rfl, hs⟩
  · exact .inl rfl
  · exact .inr (.inl rfl)
  refine .inr (.inr ?_)
  have hs2 : s = sgn 9 ∨ s = sgn 10 ∨ s = sgn 11 ∨ s = sgn 12 ∨ s = sgn 3 ∨ s = sgn 4 ∨ s = sgn 5 ∨ s = sgn 6 ∨ s = sgn 7 ∨ s = sgn 8 ∨ s = ⟨#[40]⟩ ∨ s = ⟨#[41]⟩ := by
    unfold signB at hs
    rw [Bool.or_eq_true] at hs
    rcases hs with hs | hs
    · have hm := inB_iff.1 hs
      simp only [signW, List.mem_cons, List.not_mem_nil, or_false] at hm
      rcases hm with rfl | rfl | rfl | rfl <;> simp [sgn]
    · have hm := inB_iff.1 hs
      simp only [signO, List.mem_cons, List.not_mem_nil, or_false] at hm
      rcases hm with rfl | rfl | rfl | rfl | rfl | rfl | rfl | rfl <;> simp [sgn]
  rcases hs2 with rfl | rfl | rfl | rfl | rfl | rfl | rfl | rfl | rfl | rfl | rfl | rfl
  · exact .inr (.inr ⟨9, by omega, rfl⟩)
  · exact .inr (.inr ⟨10, by omega, rfl⟩)
  · exact .inr (.inr ⟨11, by omega, rfl⟩)
  · exact .inr (.inr ⟨12, by omega, rfl⟩)
  · exact .inr (.inr ⟨3, by omega, rfl⟩)
  · exact .inr (.inr ⟨4, by omega, rfl⟩)
  · exact .inr (.inr ⟨5, by omega, rfl⟩)
  · exact .inr (.inr ⟨6, by omega, rfl⟩)
  · exact .inr (.inr ⟨7, by omega, rfl⟩)
  · exact .inr (.inr ⟨8, by omega, rfl⟩)
  · exact .inl rfl
  · exact .inr (.inl rfl)
theorem step_one {t : TT} (h : t.1 = 1 ∨ t.1 = 2) (o : List TI) (W : List Int) : stepY t (o, W, false) = some (o ++ [itmOf t], W, true) := by
  unfold stepY
  rw [if_pos (by omega), if_neg (by simp)]
theorem step_one' {t : TT} (h : t.1 = 1 ∨ t.1 = 2) (o : List TI) (W : List Int) : stepY t (o, W, true) = none := by
  unfold stepY
  rw [if_pos (by omega), if_pos rfl]
theorem step_open (o : List TI) (W : List Int) : stepY parO (o, W, false) = some (o, 0 :: W, false) := rfl
theorem step_open' (o : List TI) (W : List Int) : stepY parO (o, W, true) = none := rfl
theorem step_close (y : YS) : stepY parC y = closeY y := by
  unfold stepY
  rw [if_neg (by decide), if_neg (by decide +kernel), if_pos (by rfl)]
theorem step_sgn {k : Int} (hk : 3 ≤ k ∧ k ≤ 12) (y : YS) : stepY (sgnT k) y = if 11 ≤ k then aheadY k y else betweenY k y := by
  unfold stepY
  rw [if_neg (by show ¬ ((3 : Int) = 2 ∨ (3 : Int) = 1); omega), if_neg (show ¬ (sgnT k).2.1 = ⟨#[40]⟩ from (sgn_par hk).1), if_neg (show ¬ (sgnT k).2.1 = ⟨#[41]⟩ from (sgn_par hk).2)]
  show (if 11 ≤ kindS (sgn k) then aheadY (kindS (sgn k)) y else betweenY (kindS (sgn k)) y) = _
  rw [kindS_sgn hk]
theorem settle_none {g : Nat} {o : List TI} {W : List Int} (h : bindK (topK W) < g) : settleW g o W = (o, W) := by
  cases W with
  | nil => rfl
  | cons k W =>
    unfold settleW
    rw [if_neg (by have : bindK k < g := h; omega)]
theorem settle_cons {g : Nat} {o : List TI} {k : Int} {W : List Int} (h : g ≤ bindK k) : settleW g o (k :: W) = settleW g (o ++ [opI k]) W := by
  rw [settleW, if_pos h]
theorem settle_settle {g g' : Nat} (hg : g ≤ g') : ∀ (W : List Int) (o : List TI), settleW g (settleW g' o W).1 (settleW g' o W).2 = settleW g o W
  | [], _ => rfl
  | k :: W, o => by
    by_cases h : g' ≤ bindK k
    · rw [settle_cons h, settle_settle hg W, settle_cons (by omega)]
    · rw [settle_none (g := g') (W := k :: W) (by show bindK k < g'; omega)]
/-- A sign between two that binds more than that stands next. -/
def OpNext (lev : Nat) (r : List TT) : Prop := ∃ k r1, (3 ≤ k ∧ k ≤ 10) ∧ r = sgnT k :: r1 ∧ lev < bindK k
theorem OpNext.mono {lev lev' : Nat} {r : List TT} (h : OpNext lev' r) (hl : lev ≤ lev') : OpNext lev r := by
  obtain ⟨k, r1, h1, h2, h3⟩ := h
  exact ⟨k, r1, h1, h2, by omega⟩
theorem bind_lev {k : Int} (hk : 3 ≤ k ∧ k ≤ 10) : bindK k = levK k + 1 := by
  have h2 : k = 3 ∨ k = 4 ∨ k = 5 ∨ k = 6 ∨ k = 7 ∨ k = 8 ∨ k = 9 ∨ k = 10 := by omega
  rcases h2 with rfl | rfl | rfl | rfl | rfl | rfl | rfl | rfl <;> rfl
theorem bind_not {k : Int} (hk : 3 ≤ k ∧ k ≤ 10) : bindK k ≠ 3 ∧ bindK k ≤ 6 ∧ 0 < bindK k := by
  have h2 : k = 3 ∨ k = 4 ∨ k = 5 ∨ k = 6 ∨ k = 7 ∨ k = 8 ∨ k = 9 ∨ k = 10 := by omega
  rcases h2 with rfl | rfl | rfl | rfl | rfl | rfl | rfl | rfl <;> decide
theorem bind_pos {k : Int} (hk : 3 ≤ k ∧ k ≤ 12) : 0 < bindK k := by
  have h2 : k = 3 ∨ k = 4 ∨ k = 5 ∨ k = 6 ∨ k = 7 ∨ k = 8 ∨ k = 9 ∨ k = 10 ∨ k = 11 ∨ k = 12 := by omega
  rcases h2 with rfl | rfl | rfl | rfl | rfl | rfl | rfl | rfl | rfl | rfl <;> decide
theorem bind_le (k : Int) : bindK k ≤ 7 := by
  unfold bindK; (repeat' split) <;> omega
theorem between_more {k : Int} (h : bindK k ≠ 4) (o : List TI) (W : List Int) : betweenY k (o, W, true) = some ((settleW (bindK k) o W).1, k :: (settleW (bindK k) o W).2, false) := by
  unfold betweenY
  rw [if_neg (by simp), if_neg (fun e => h e.1), settle_settle (by omega)]
/-- A sign that waits is an item ahead of what binds no more. -/
theorem run_pop {k : Int} (hk : 3 ≤ k ∧ k ≤ 12) (W : List Int) (o : List TI) {r : List TT} (hr : r.all tokB = true) (hn : ¬ OpNext (bindK k) r) (h4 : bindK k ≠ 4 ∨ ¬ OpNext 3 r) : runY r (o, k :: W, true) = runY r (o ++ [opI k], W, true) := by
  have hp := bind_pos hk
  have s1 : settleW 1 o (k :: W) = settleW 1 (o ++ [opI k]) W := settle_cons (by omega)
  cases r with
  | nil => simp only [runY, endY, s1]
  | cons t r =>
    rw [List.all_cons, Bool.and_eq_true] at hr
    rw [runY_cons, runY_cons]
    rcases tok_forms hr.1 with h | h | rfl | rfl | ⟨j, hj, rfl⟩
    · rw [step_one' (.inl h), step_one' (.inl h)]
    · rw [step_one' (.inr h), step_one' (.inr h)]
    · rw [step_open', step_open']
    · have e : closeY (o, k :: W, true) = closeY (o ++ [opI k], W, true) := by simp only [closeY, s1]
      rw [step_close, step_close, e]
    · rw [step_sgn hj, step_sgn hj]
      by_cases h11 : 11 ≤ j
      · rw [if_pos h11, if_pos h11]
        simp [aheadY]
      · rw [if_neg h11, if_neg h11]
        have hjk : bindK j ≤ bindK k := Nat.le_of_not_lt (fun h => hn ⟨j, r, by omega, rfl, h⟩)
        by_cases e4 : bindK j = 4
        · have : 5 ≤ bindK k := by
            rcases h4 with h4 | h4
            · omega
            · exact absurd ⟨j, r, by omega, rfl, by omega⟩ h4
          have e : betweenY j (o, k :: W, true) = betweenY j (o ++ [opI k], W, true) := by
            unfold betweenY
            dsimp only
            rw [settle_cons (g := bindK j + 1) (by omega)]
          rw [e]
        · rw [between_more e4, between_more e4, settle_cons hjk]
/-- A second one of = and <. -/
theorem run_twice {k : Int} (hk : bindK k = 4) (W : List Int) (o : List TI) {r : List TT} (h3 : OpNext 3 r) (h4 : ¬ OpNext 4 r) : runY r (o, k :: W, true) = none := by
  obtain ⟨j, r1, hj, rfl, h⟩ := h3
  have e4 : bindK j = 4 := by
    have : ¬ 4 < bindK j := fun h => h4 ⟨j, r1, hj, rfl, h⟩
    omega
  rw [runY_cons, step_sgn (by omega), if_neg (by omega)]
  have : betweenY j (o, k :: W, true) = none := by
    unfold betweenY
    rw [if_neg (by simp), if_pos]
    refine ⟨e4, ?_⟩
    dsimp only
    rw [settle_none (g := bindK j + 1) (W := k :: W) (by show bindK k < bindK j + 1; omega)]
    exact hk
  rw [this]
theorem run_between {k : Int} (hk : 3 ≤ k ∧ k ≤ 10) {W : List Int} (hb : bindK (topK W) < bindK k) (o : List TI) (r : List TT) : runY (sgnT k :: r) (o, W, true) = runY r (o, k :: W, false) := by
  rw [runY_cons, step_sgn (by omega), if_neg (by omega)]
  have : betweenY k (o, W, true) = some (o, k :: W, false) := by
    unfold betweenY
    rw [if_neg (by simp)]
    dsimp only
    rw [settle_none (g := bindK k + 1) (by omega)]
    dsimp only
    rw [if_neg (by omega), settle_none (g := bindK k) hb]
  rw [this]
theorem sees_is {s : ByteArray} {r r1 : List TT} (h : seesT s r = some r1) (hr : r.all tokB = true) : r = (3, s, zeroC) :: r1 := by
  cases r with
  | nil => cases h
  | cons t r =>
    rw [seesT_cons] at h
    rw [List.all_cons, Bool.and_eq_true] at hr
    split at h
    · rename_i e
      cases h
      obtain ⟨k, u, c⟩ := t
      obtain ⟨e1, e2⟩ := e
      dsimp only at e1 e2
      subst e1 e2
      have := hr.1
      rw [tokB_3, Bool.and_eq_true, decide_eq_true_eq] at this
      rw [this.2]
    · cases h
theorem twoK_is {r r1 : List TT} {k : Int} {ks : List Int} (h : twoK r ks = some (k, r1)) (hr : r.all tokB = true) : r = sgnT k :: r1 := by
  induction ks with
  | nil => cases h
  | cons j ks ih =>
    unfold twoK at h
    cases hs : seesT (sgn j) r with
    | some r2 => rw [hs] at h; cases h; exact sees_is hs hr
    | none => rw [hs] at h; exact ih h
/-- The sign of that level, and what binds as much. -/
theorem two_is {lev : Nat} (hl : lev ≤ 5) {r r1 : List TT} {k : Int} (h : twoT lev r = some (k, r1)) (hr : r.all tokB = true) : r = sgnT k :: r1 ∧ (3 ≤ k ∧ k ≤ 10) ∧ bindK k = lev + 1 := by
  have e := twoK_is h hr
  have hk := kindsL_310 lev k (twoK_all h hr).2
  refine ⟨e, hk, ?_⟩
  rw [e, two_sgn k hk _ _ hl] at h
  split at h
  · rename_i e2; rw [bind_lev hk, e2]
  · cases h
theorem two_not {lev : Nat} (hl : lev ≤ 5) {r : List TT} (h : twoT lev r = none) (ho : OpNext lev r) : OpNext (lev + 1) r := by
  obtain ⟨k, r1, hk, rfl, hb⟩ := ho
  refine ⟨k, r1, hk, rfl, ?_⟩
  rw [two_sgn k hk _ _ hl] at h
  split at h
  · cases h
  · rename_i e
    have := bind_lev hk
    omega
/-- What comes behind is what the level reads, and on. -/
def Agrees (lev : Nat) (o : List TI) (W : List Int) (res : Option (List TI)) : Option (List TI × List TT) → Prop
  | none => res = none
  | some (p, r') => r'.all tokB = true ∧ (OpNext lev r' → res = none) ∧ (¬ OpNext lev r' → res = runY r' (o ++ p, W, true))
/-- How much what waits may bind ahead of a level. -/
def okW (lev b : Nat) : Prop := b ≤ 7 ∧ (lev = 2 → b ≤ 3) ∧ (lev ≠ 2 → lev ≤ 5 → b ≤ lev)
theorem yard_tail {lev : Nat} (hl : lev = 0 ∨ lev = 1 ∨ lev = 4 ∨ lev = 5) (W : List Int) (hb : bindK (topK W) ≤ lev) (o : List TI) (m : Nat)
    (ih : ∀ r1 k o', r1.length < m → r1.all tokB = true → bindK k = lev + 1 → Agrees (lev + 1) o' (k :: W) (runY r1 (o', k :: W, false)) (levR (lev + 1) r1)) :
    ∀ n r p res, r.length ≤ n → r.length ≤ m → r.all tokB = true → (OpNext (lev + 1) r → res = none) → (¬ OpNext (lev + 1) r → res = runY r (o ++ p, W, true)) → Agrees lev o W res (tlR lev p r) := by
  intro n
  induction n with
  | zero =>
    intro r p res hn hm hr h1 h2
    have e : r = [] := List.length_eq_zero_iff.1 (by omega)
    subst e
    have ht : twoT lev ([] : List TT) = none := stop_nil lev (by omega) (by omega)
    rw [tlR_none ht]
    exact ⟨hr, fun h => h1 (two_not (by omega) ht h), fun h => h2 (fun h' => h (h'.mono (by omega)))⟩
  | succ n ihn =>
    intro r p res hn hm hr h1 h2
    cases ht : twoT lev r with
    | none =>
      rw [tlR_none ht]
      exact ⟨hr, fun h => h1 (two_not (by omega) ht h), fun h => h2 (fun h' => h (h'.mono (by omega)))⟩
    | some q =>
      obtain ⟨k, r1⟩ := q
      obtain ⟨hre, hk, hbk⟩ := two_is (by omega) ht hr
      have hlen := twoK_len ht
      have hr1 : r1.all tokB = true := by
        rw [hre, List.all_cons, Bool.and_eq_true] at hr; exact hr.2
      rw [tlR_some (by omega) ht]
      have hno : ¬ OpNext (lev + 1) r := by
        rintro ⟨j, r2, hj, e, hlt⟩
        rw [hre] at e
        injection e with e1 e2
        have : k = j := by
          have := congrArg (fun t : TT => kindS t.2.1) e1
          have h' : kindS (sgn k) = kindS (sgn j) := this
          rwa [kindS_sgn (by omega), kindS_sgn (by omega)] at h'
        subst this
        omega
      have hres := h2 hno
      rw [hre, run_between hk (by omega)] at hres
      have ha := ih r1 k (o ++ p) (by omega) hr1 hbk
      rw [← hres] at ha
      cases hq : levR (lev + 1) r1 with
      | none => rw [hq] at ha; exact ha
      | some z =>
        obtain ⟨q, r2⟩ := z
        rw [hq] at ha
        obtain ⟨a0, a1, a2⟩ := ha
        have hlen2 := levR_len hq
        refine ihn r2 (p ++ (q ++ [opI k])) res (by omega) (by omega) a0 a1 (fun h => ?_)
        rw [a2 h, run_pop (by omega) W _ a0 (by rw [hbk]; exact h) (.inl (by omega))]
        simp only [List.append_assoc]
theorem yard_lev : ∀ (n lev : Nat) (r : List TT) (o : List TI) (W : List Int), 10 * r.length + (7 - lev) < n → lev ≤ 7 → r.all tokB = true → okW lev (bindK (topK W)) → (3 ≤ lev → bindK (topK W) ≤ 3 → seesT (sgn 11) r = none) → (lev = 7 → seesT (sgn 12) r = none) →
    Agrees lev o W (runY r (o, W, false)) (levR lev r) := by
  intro n
  induction n with
  | zero => intro lev r o W h; omega
  | succ n ih =>
    intro lev r o W hn hl hr hw h11 h12
    by_cases c1 : lev = 0 ∨ lev = 1 ∨ lev = 4 ∨ lev = 5
    · have hbl : bindK (topK W) ≤ lev := hw.2.2 (by omega) (by omega)
      have ha := ih (lev + 1) r o W (by omega) (by omega) hr ⟨by omega, by omega, by omega⟩ (fun _ h => h11 (by omega) h) (by omega)
      rw [levR_two c1]
      cases hq : levR (lev + 1) r with
      | none => rw [hq] at ha; exact ha
      | some z =>
        obtain ⟨p, r'⟩ := z
        rw [hq] at ha
        obtain ⟨a0, a1, a2⟩ := ha
        have hlen := levR_len hq
        refine yard_tail c1 W hbl o r'.length (fun r1 k o' h1 h2 h3 => ?_) r'.length r' p _ (Nat.le_refl _) (Nat.le_refl _) a0 a1 a2
        have hk : topK (k :: W) = k := rfl
        refine ih (lev + 1) r1 o' (k :: W) (by omega) (by omega) h2 ?_ (fun e1 e2 => ?_) (by omega)
        · rw [hk, h3]; exact ⟨by omega, by omega, by omega⟩
        · rw [hk, h3] at e2; omega
    by_cases c3 : lev = 3
    · subst c3
      have hbl : bindK (topK W) ≤ 3 := hw.2.2 (by omega) (by omega)
      have ha := ih 4 r o W (by omega) (by omega) hr ⟨by omega, by omega, by omega⟩ (fun _ h => h11 (by omega) h) (by omega)
      rw [levR_3]
      cases hq : levR 4 r with
      | none => rw [hq] at ha; exact ha
      | some z =>
        obtain ⟨p, r'⟩ := z
        rw [hq] at ha
        obtain ⟨a0, a1, a2⟩ := ha
        have hlen := levR_len hq
        dsimp only
        cases ht : twoT 3 r' with
        | none => exact ⟨a0, fun h => a1 (two_not (by omega) ht h), fun h => a2 (fun h' => h (h'.mono (by omega)))⟩
        | some q =>
          obtain ⟨k, r2⟩ := q
          dsimp only
          obtain ⟨hre, hk, hbk⟩ := two_is (by omega) ht a0
          have hlen2 := twoK_len ht
          have hr2 : r2.all tokB = true := by
            rw [hre, List.all_cons, Bool.and_eq_true] at a0; exact a0.2
          have hno : ¬ OpNext 4 r' := by
            rintro ⟨j, r3, hj, e, hlt⟩
            rw [hre] at e
            injection e with e1 e2
            have : k = j := by
              have := congrArg (fun t : TT => kindS t.2.1) e1
              have h' : kindS (sgn k) = kindS (sgn j) := this
              rwa [kindS_sgn (by omega), kindS_sgn (by omega)] at h'
            subst this
            omega
          have hres := a2 hno
          rw [hre, run_between hk (by omega)] at hres
          have hb := ih 4 r2 (o ++ p) (k :: W) (by omega) (by omega) hr2 ⟨bind_le _, by omega, fun _ _ => by show bindK k ≤ 4; omega⟩ (fun _ e => absurd (show bindK k ≤ 3 from e) (by omega)) (by omega)
          rw [← hres] at hb
          cases hq2 : levR 4 r2 with
          | none => rw [hq2] at hb; exact hb
          | some z =>
            obtain ⟨q, r3⟩ := z
            rw [hq2] at hb
            obtain ⟨b0, b1, b2⟩ := hb
            refine ⟨b0, fun h => ?_, fun h => ?_⟩
            · by_cases h4 : OpNext 4 r3
              · exact b1 h4
              · rw [b2 h4, run_twice hbk W _ h h4]
            · have h4 : ¬ OpNext 4 r3 := fun h' => h (h'.mono (by omega))
              rw [b2 h4, run_pop (by omega) W _ b0 (by rw [hbk]; exact h4) (.inr h)]
              simp only [List.append_assoc]
    by_cases c2 : lev = 2 ∨ lev = 6
    · rw [levR_pre c2]
      obtain ⟨K, hK⟩ : ∃ K : Int, K = if lev = 2 then 11 else 12 := ⟨_, rfl⟩
      rw [← hK]
      have hK2 : 11 ≤ K ∧ K ≤ 12 := by rw [hK]; split <;> omega
      have hKb : bindK K = lev + 1 := by
        rcases c2 with rfl | rfl
        · rw [hK]; rfl
        · rw [hK]; rfl
      have hbl : bindK (topK W) ≤ lev + 1 := by
        rcases c2 with rfl | rfl
        · exact hw.2.1 rfl
        · exact hw.1
      cases hs : seesT (sgn K) r with
      | some r1 =>
        have hre := sees_is hs hr
        have hlen := sees_len hs
        have hr1 := sees_all hs hr
        have hrun : runY r (o, W, false) = runY r1 (o, K :: W, false) := by
          rw [hre, runY_cons]
          have : stepY (3, sgn K, zeroC) (o, W, false) = some (o, K :: W, false) := by
            rw [show ((3, sgn K, zeroC) : TT) = sgnT K from rfl, step_sgn (by omega), if_pos hK2.1]
            unfold aheadY
            rw [if_neg]
            rintro (h | h)
            · cases h
            · have h' : bindK K < bindK (topK W) := h
              omega
          rw [this]
        have ha := ih lev r1 o (K :: W) (by omega) hl hr1 ⟨bind_le _, fun e => by show bindK K ≤ 3; omega, by omega⟩ (fun e1 e2 => absurd (show bindK K ≤ 3 from e2) (by omega)) (by omega)
        rw [← hrun] at ha
        dsimp only
        cases hq : levR lev r1 with
        | none => rw [hq] at ha; exact ha
        | some z =>
          obtain ⟨p, r'⟩ := z
          rw [hq] at ha
          obtain ⟨a0, a1, a2⟩ := ha
          refine ⟨a0, a1, fun h => ?_⟩
          rw [a2 h, run_pop (by omega) W _ a0 (fun h' => h (h'.mono (by omega))) (.inl (by omega))]
          simp only [List.append_assoc]
      | none =>
        dsimp only
        have ha := ih (lev + 1) r o W (by omega) (by omega) hr ⟨hw.1, by omega, fun _ _ => by rcases c2 with rfl | rfl <;> omega⟩ (fun e1 e2 => by
          rcases c2 with rfl | rfl
          · have e : K = 11 := hK
            rw [← e]; exact hs
          · exact h11 (by omega) e2) (fun e => by
          have e6 : lev = 6 := by omega
          subst e6
          have e : K = 12 := hK
          rw [← e]; exact hs)
        cases hq : levR (lev + 1) r with
        | none => rw [hq] at ha; exact ha
        | some z =>
          obtain ⟨p, r'⟩ := z
          rw [hq] at ha
          obtain ⟨a0, a1, a2⟩ := ha
          refine ⟨a0, fun h => a1 ?_, fun h => a2 (fun h' => h (h'.mono (by omega)))⟩
          obtain ⟨k, r1, hk, e, hlt⟩ := h
          have := bind_not hk
          exact ⟨k, r1, hk, e, by omega⟩
    have e7 : lev = 7 := by omega
    subst e7
    have hl12 := h12 rfl
    rw [levR_7]
    cases hs : seesT ⟨#[40]⟩ r with
    | some r1 =>
      have hre := sees_is hs hr
      have hlen := sees_len hs
      have hr1 := sees_all hs hr
      have hrun : runY r (o, W, false) = runY r1 (o, 0 :: W, false) := by
        rw [hre, runY_cons, show ((3, ⟨#[40]⟩, zeroC) : TT) = parO from rfl, step_open]
      have ha := ih 0 r1 o (0 :: W) (by omega) (by omega) hr1 ⟨Nat.zero_le _, by omega, fun _ _ => Nat.zero_le _⟩ (by omega) (by omega)
      rw [← hrun] at ha
      dsimp only
      cases hq : levR 0 r1 with
      | none => rw [hq] at ha; exact ha
      | some z =>
        obtain ⟨p, r2⟩ := z
        rw [hq] at ha
        obtain ⟨a0, a1, a2⟩ := ha
        dsimp only
        cases r2 with
        | nil =>
          have hno : ¬ OpNext 0 ([] : List TT) := by rintro ⟨k, r1, _, e, _⟩; cases e
          show runY r (o, W, false) = none
          rw [a2 hno]
          simp only [runY, endY]
          rw [settle_none (g := 1) (W := 0 :: W) (show bindK 0 < 1 by decide)]
          simp
        | cons t r2 =>
          have ht := (Bool.and_eq_true .. ▸ (List.all_cons ▸ a0) : tokB t = true ∧ r2.all tokB = true)
          rcases tok_forms ht.1 with h | h | rfl | rfl | ⟨j, hj, rfl⟩
          · have hno : ¬ OpNext 0 (t :: r2) := by rintro ⟨k, r1, _, e, _⟩; injection e with e1 e2; rw [e1] at h; exact absurd (show (3 : Int) = _ from h) (by decide)
            rw [sees_other (.inl (by omega))]
            show runY r (o, W, false) = none
            rw [a2 hno, runY_cons, step_one' (.inl h)]
          · have hno : ¬ OpNext 0 (t :: r2) := by rintro ⟨k, r1, _, e, _⟩; injection e with e1 e2; rw [e1] at h; exact absurd (show (3 : Int) = _ from h) (by decide)
            rw [sees_other (.inl (by omega))]
            show runY r (o, W, false) = none
            rw [a2 hno, runY_cons, step_one' (.inr h)]
          · have hno : ¬ OpNext 0 (parO :: r2) := by
              rintro ⟨k, r1, hk, e, _⟩
              injection e with e1 e2
              exact (sgn_par (k := k) (by omega)).1 (congrArg (fun t : TT => t.2.1) e1).symm
            rw [sees_other (.inr (by decide +kernel))]
            show runY r (o, W, false) = none
            rw [a2 hno, runY_cons, step_open']
          · have hno : ¬ OpNext 0 (parC :: r2) := by
              rintro ⟨k, r1, hk, e, _⟩
              injection e with e1 e2
              exact (sgn_par (k := k) (by omega)).2 (congrArg (fun t : TT => t.2.1) e1).symm
            have es : seesT ⟨#[41]⟩ (parC :: r2) = some r2 := sees_this _ _ _
            rw [es]
            dsimp only
            have hrun2 : runY r (o, W, false) = runY r2 (o ++ p, W, true) := by
              rw [a2 hno, runY_cons, step_close]
              have : closeY (o ++ p, 0 :: W, true) = some (o ++ p, W, true) := by
                unfold closeY
                rw [if_neg (by simp)]
                dsimp only
                rw [settle_none (g := 1) (W := 0 :: W) (show bindK 0 < 1 by decide)]
              rw [this]
            refine ⟨ht.2, fun h => ?_, fun _ => hrun2⟩
            obtain ⟨k, r3, hk, _, hlt⟩ := h
            have := bind_not hk
            omega
          · rw [sees_other (.inr (sgn_par hj).2)]
            show runY r (o, W, false) = none
            by_cases h10 : j ≤ 10
            · exact a1 ⟨j, r2, by omega, rfl, (bind_not (k := j) (by omega)).2.2⟩
            · have hno : ¬ OpNext 0 (sgnT j :: r2) := by
                rintro ⟨k, r1, hk, e, _⟩
                injection e with e1 e2
                have := congrArg (fun t : TT => kindS t.2.1) e1
                have h' : kindS (sgn j) = kindS (sgn k) := this
                rw [kindS_sgn (by omega), kindS_sgn (by omega)] at h'
                omega
              rw [a2 hno, runY_cons, step_sgn hj, if_pos (by omega)]
              simp [aheadY]
    | none =>
      dsimp only
      cases r with
      | nil =>
        show runY [] (o, W, false) = none
        simp [runY, endY]
      | cons t r1 =>
        have ht := (Bool.and_eq_true .. ▸ (List.all_cons ▸ hr) : tokB t = true ∧ r1.all tokB = true)
        dsimp only
        rcases tok_forms ht.1 with h | h | rfl | rfl | ⟨j, hj, rfl⟩
        · rw [if_neg (by omega)]
          refine ⟨ht.2, fun h => ?_, fun _ => by rw [runY_cons, step_one (.inl h)]⟩
          obtain ⟨k, r3, hk, _, hlt⟩ := h
          have := bind_not hk
          omega
        · rw [if_neg (by omega)]
          refine ⟨ht.2, fun h => ?_, fun _ => by rw [runY_cons, step_one (.inr h)]⟩
          obtain ⟨k, r3, hk, _, hlt⟩ := h
          have := bind_not hk
          omega
        · rw [show seesT ⟨#[40]⟩ (parO :: r1) = some r1 from sees_this _ _ _] at hs
          cases hs
        · rw [if_pos (by rfl)]
          show runY (parC :: r1) (o, W, false) = none
          rw [runY_cons, step_close]
          simp [closeY]
        · rw [if_pos (by rfl)]
          show runY (sgnT j :: r1) (o, W, false) = none
          rw [runY_cons, step_sgn hj]
          by_cases h10 : j ≤ 10
          · rw [if_neg (by omega)]
            simp [betweenY]
          · rw [if_pos (by omega)]
            have : j = 11 ∨ j = 12 := by omega
            rcases this with rfl | rfl
            · have : ¬ bindK (topK W) ≤ 3 := fun e => by
                have := h11 (by omega) e
                rw [sees_sgn 11 11 (by omega) (by omega), if_pos rfl] at this
                cases this
              have e : aheadY 11 (o, W, false) = none := by
                unfold aheadY
                rw [if_pos (.inr (by show bindK 11 < bindK (topK W); have : bindK 11 = 3 := rfl; omega))]
              rw [e]
            · rw [sees_sgn 12 12 (by omega) (by omega), if_pos rfl] at hl12
              cases hl12
/-- The program's way of reading says what the levels say. -/
theorem yard {toks : List TT} (h : toks.all tokB = true) : runY toks ([], [], false) = match levR 0 toks with
    | some (o, []) => some o
    | _ => none := by
  have ha := yard_lev (10 * toks.length + 8) 0 toks [] [] (by omega) (by omega) h ⟨Nat.zero_le _, by omega, fun _ _ => Nat.zero_le _⟩ (by omega) (by omega)
  cases hq : levR 0 toks with
  | none => rw [hq] at ha; exact ha
  | some z =>
    obtain ⟨p, r2⟩ := z
    rw [hq] at ha
    obtain ⟨a0, a1, a2⟩ := ha
    cases r2 with
    | nil =>
      have hno : ¬ OpNext 0 ([] : List TT) := by rintro ⟨k, r1, _, e, _⟩; cases e
      rw [a2 hno]
      simp [runY, endY, settleW]
    | cons t r2 =>
      have ht := (Bool.and_eq_true .. ▸ (List.all_cons ▸ a0) : tokB t = true ∧ r2.all tokB = true)
      dsimp only
      by_cases ho : OpNext 0 (t :: r2)
      · exact a1 ho
      · rw [a2 ho, runY_cons]
        rcases tok_forms ht.1 with h | h | rfl | rfl | ⟨j, hj, rfl⟩
        · rw [step_one' (.inl h)]
        · rw [step_one' (.inr h)]
        · rw [step_open']
        · rw [step_close]
          simp [closeY, settleW]
        · rw [step_sgn hj]
          by_cases h10 : j ≤ 10
          · exact absurd ⟨j, r2, by omega, rfl, (bind_not (k := j) (by omega)).2.2⟩ ho
          · rw [if_pos (by omega)]
            simp [aheadY]
end Go.Proofs.YtmmandkellhbeaaGreatDoor

/-
  The contracts of the program's questions for an item and for a sum.
-/
namespace Go.Proofs.YtmmandkellhbeaaGreatDoor
open Go.ChangeShapes Go.WideShapes Go.ChangeAt Go.RowKit
attribute [local go_sem ↓] Go.wp_at_zero Go.wp_at_succ
attribute [local simp] World.cell?_alloc_past World.cell?_alloc_at World.frozen?_alloc_at cell_far cell_off cell_here World.frozen?_alloc_past

/-- How many the program makes one of. -/
def needsP (k : Int) : Nat := if 3 ≤ k ∧ k ≤ 10 then 2 else if k = 11 ∨ k = 12 then 1 else 0
theorem needsP_ok {x : TI} (h : itemB x = true) : needsP x.1 = needsI x.1 := by
  have hk : 1 ≤ x.1 ∧ x.1 ≤ 12 := by
    by_cases h1 : x.1 = 1
    · omega
    by_cases h2 : x.1 = 2
    · omega
    have := item_op h h1 h2
    omega
  unfold needsP needsI
  (repeat' split) <;> omega
theorem needsP_le (k : Int) : needsP k ≤ 2 := by unfold needsP; (repeat' split) <;> omega
theorem neq_k {k : Int} {j : Int} (h : k ≠ j) : (k == j) = false := by simpa using h
set_option maxHeartbeats 2000000 in
theorem needs_impl (k : Int) (n : Nat) (hn : needsP k = n) (w : World) :
    Calls Tryz.prog 113 #[.int .i64 k] w fun e w' => e = .returned (.int .i64 (n : Int)) ∧ w' = w := by
  by_cases h1 : 3 ≤ k ∧ k ≤ 10
  · have e : n = 2 := by rw [← hn]; unfold needsP; rw [if_pos h1]
    subst e
    have h2 : k = 3 ∨ k = 4 ∨ k = 5 ∨ k = 6 ∨ k = 7 ∨ k = 8 ∨ k = 9 ∨ k = 10 := by omega
    clear hn h1
    rcases h2 with rfl | rfl | rfl | rfl | rfl | rfl | rfl | rfl
    all_goals
      go_enter Tryz.func113, Tryz.ntmps113
      go_wp2
      go_ret
      exact ⟨rfl, rfl⟩
  by_cases h2 : k = 11 ∨ k = 12
  · have e : n = 1 := by rw [← hn]; unfold needsP; rw [if_neg h1, if_pos h2]
    subst e
    clear hn h1
    rcases h2 with rfl | rfl
    all_goals
      go_enter Tryz.func113, Tryz.ntmps113
      go_wp2
      go_ret
      exact ⟨rfl, rfl⟩
  have e : n = 0 := by rw [← hn]; unfold needsP; rw [if_neg h1, if_neg h2]
  subst e
  have q3 : (k == 3) = false := neq_k (by omega)
  have q4 : (k == 4) = false := neq_k (by omega)
  have q5 : (k == 5) = false := neq_k (by omega)
  have q6 : (k == 6) = false := neq_k (by omega)
  have q7 : (k == 7) = false := neq_k (by omega)
  have q8 : (k == 8) = false := neq_k (by omega)
  have q9 : (k == 9) = false := neq_k (by omega)
  have q10 : (k == 10) = false := neq_k (by omega)
  have q11 : (k == 11) = false := neq_k (by omega)
  have q12 : (k == 12) = false := neq_k (by omega)
  clear hn h1 h2
  go_enter Tryz.func113, Tryz.ntmps113
  go_wp2
  go_ret
  exact ⟨rfl, rfl⟩
set_option maxHeartbeats 2000000 in
theorem binding_impl (k : Int) (n : Nat) (hn : bindK k = n) (w : World) :
    Calls Tryz.prog 172 #[.int .i64 k] w fun e w' => e = .returned (.int .i64 (n : Int)) ∧ w' = w := by
  by_cases h1 : 3 ≤ k ∧ k ≤ 12
  · have h2 : k = 3 ∨ k = 4 ∨ k = 5 ∨ k = 6 ∨ k = 7 ∨ k = 8 ∨ k = 9 ∨ k = 10 ∨ k = 11 ∨ k = 12 := by omega
    clear h1
    rcases h2 with rfl | rfl | rfl | rfl | rfl | rfl | rfl | rfl | rfl | rfl
    · obtain rfl : 5 = n := hn
      go_enter Tryz.func172, Tryz.ntmps172
      go_wp2
      go_ret
      exact ⟨rfl, rfl⟩
    · obtain rfl : 5 = n := hn
      go_enter Tryz.func172, Tryz.ntmps172
      go_wp2
      go_ret
      exact ⟨rfl, rfl⟩
    · obtain rfl : 6 = n := hn
      go_enter Tryz.func172, Tryz.ntmps172
      go_wp2
      go_ret
      exact ⟨rfl, rfl⟩
    · obtain rfl : 6 = n := hn
      go_enter Tryz.func172, Tryz.ntmps172
      go_wp2
      go_ret
      exact ⟨rfl, rfl⟩
    · obtain rfl : 4 = n := hn
      go_enter Tryz.func172, Tryz.ntmps172
      go_wp2
      go_ret
      exact ⟨rfl, rfl⟩
    · obtain rfl : 4 = n := hn
      go_enter Tryz.func172, Tryz.ntmps172
      go_wp2
      go_ret
      exact ⟨rfl, rfl⟩
    · obtain rfl : 2 = n := hn
      go_enter Tryz.func172, Tryz.ntmps172
      go_wp2
      go_ret
      exact ⟨rfl, rfl⟩
    · obtain rfl : 1 = n := hn
      go_enter Tryz.func172, Tryz.ntmps172
      go_wp2
      go_ret
      exact ⟨rfl, rfl⟩
    · obtain rfl : 3 = n := hn
      go_enter Tryz.func172, Tryz.ntmps172
      go_wp2
      go_ret
      exact ⟨rfl, rfl⟩
    · obtain rfl : 7 = n := hn
      go_enter Tryz.func172, Tryz.ntmps172
      go_wp2
      go_ret
      exact ⟨rfl, rfl⟩
  have e : n = 0 := by rw [← hn]; unfold bindK; (repeat' split) <;> omega
  subst e
  have q3 : (k == 3) = false := neq_k (by omega)
  have q4 : (k == 4) = false := neq_k (by omega)
  have q5 : (k == 5) = false := neq_k (by omega)
  have q6 : (k == 6) = false := neq_k (by omega)
  have q7 : (k == 7) = false := neq_k (by omega)
  have q8 : (k == 8) = false := neq_k (by omega)
  have q9 : (k == 9) = false := neq_k (by omega)
  have q10 : (k == 10) = false := neq_k (by omega)
  have q11 : (k == 11) = false := neq_k (by omega)
  have q12 : (k == 12) = false := neq_k (by omega)
  clear hn h1
  go_enter Tryz.func172, Tryz.ntmps172
  go_wp2
  go_ret
  exact ⟨rfl, rfl⟩
set_option maxHeartbeats 2000000 in
theorem item_impl (x : TI) (w : World) (h1 : x.2.2.size ≤ 1048576) (h2 : x.2.1.2.2.size ≤ maxLen) (hp : PowAt w) (he : ErrAt w) (b : Bool) (hb : itemB x = b) :
    Calls Tryz.prog 114 #[.agg #[.int .i64 x.1, .int .i64 x.2.1.1, .int .i64 x.2.1.2.1, .string x.2.1.2.2, .string x.2.2]] w fun e w' => e = .returned (.bool b) ∧ Below w.heap.size w w' := by
  obtain ⟨k, ⟨ck, cn, ct⟩, s⟩ := x
  dsimp only at h1 h2 ⊢
  have HP : Hid (PowAt w) := hp
  have HE : Hid (ErrAt w) := he
  clear hp he
  have hA : Below w.heap.size w (w.alloc (.cells #[.int .i64 k, .int .i64 ck, .int .i64 cn, .string ct, .string s] 79)) := (Below.refl _ _).alloc (Nat.le_refl _) _
  unfold itemB at hb
  dsimp only at hb
  by_cases k1 : k = 1
  · subst k1
    rw [if_pos rfl] at hb
    obtain ⟨b1, e1⟩ : ∃ x, okC (ck, cn, ct) = x := ⟨_, rfl⟩
    obtain ⟨b2, e2⟩ : ∃ x, decide (s = ⟨#[]⟩) = x := ⟨_, rfl⟩
    rw [e1, e2] at hb
    have E1 : Hid (okB ck cn ct = b1) := e1
    have HBB : Hid ((b1 && b2) = b) := hb
    cases b2
    · have hq := not_lit (l := []) (of_decide_eq_false e2)
      obtain rfl : false = b := by rw [← HBB.out, Bool.and_false]
      clear e1 e2 hb
      have hq2 : s.toList.isEmpty = false := by
        cases hs : s.toList with
        | nil => rw [hs] at hq; exact absurd hq (by decide)
        | cons _ _ => rfl
      go_enter Tryz.func114, Tryz.ntmps114
      go_wp2
      go_ret
      exact ⟨rfl, hA⟩
    · obtain rfl : s = ⟨#[]⟩ := of_decide_eq_true e2
      obtain rfl : b1 = b := by rw [← HBB.out, Bool.and_true]
      clear e1 e2 hb
      go_enter Tryz.func114, Tryz.ntmps114
      go_wp2_with fail
      refine (ok_implb ck cn ct b1 E1.out _ h2).mono ?_
      rintro e w1 ⟨rfl, hb1⟩
      have hx := chain hA hb1
      go_wp2
      go_ret
      exact ⟨rfl, hx⟩
  rw [if_neg k1] at hb
  by_cases k2 : k = 2
  · subst k2
    rw [if_pos rfl] at hb
    obtain ⟨b1, e1⟩ : ∃ x, nameK s = x := ⟨_, rfl⟩
    obtain ⟨b2, e2⟩ : ∃ x, decide ((ck, cn, ct) = zeroC) = x := ⟨_, rfl⟩
    rw [e1, e2] at hb
    have hz := zeroC_same (ck, cn, ct) b2 e2
    dsimp only at hz
    have hq := fun w' => run_eql ck cn ct 0 0 ⟨#[]⟩ w'
    rw [hz] at hq
    have E1 : Hid (nameK s = b1) := e1
    have HBB : Hid ((b1 && b2) = b) := hb
    clear e1 e2 hz hb
    cases b2
    · obtain rfl : false = b := by rw [← HBB.out, Bool.and_false]
      go_enter Tryz.func114, Tryz.ntmps114
      go_wp2
      go_ret
      exact ⟨rfl, hA⟩
    · obtain rfl : b1 = b := by rw [← HBB.out, Bool.and_true]
      go_enter Tryz.func114, Tryz.ntmps114
      go_wp2_with fail
      refine (free_impl s h1 _ (HP.out.below hA) (HE.out.below hA) b1 E1.out).mono ?_
      rintro e w1 ⟨rfl, hb1⟩
      have hx := chain hA hb1
      go_wp2
      go_ret
      exact ⟨rfl, hx⟩
  rw [if_neg k2] at hb
  have hq := fun w' => run_eqlI k ck cn ct s w'
  obtain ⟨b2, e2⟩ : ∃ x, ((ck == 0 && cn == 0) && (ct.toList == [] && s.toList == [])) = x := ⟨_, rfl⟩
  rw [e2] at hq
  have e3 : decide (((k, (ck, cn, ct), s) : TI) = opI k) = b2 := by
    rw [← e2]
    have g1 := zero_txt ct _ rfl
    have g2 := zero_txt s _ rfl
    rw [g1, g2, Bool.eq_iff_iff, decide_eq_true_eq]
    unfold opI zeroC
    simp [and_assoc]
  rw [e3] at hb
  clear e2 e3
  have q1 : (k == 1) = false := neq_k k1
  have q2 : (k == 2) = false := neq_k k2
  obtain ⟨n, hn⟩ : ∃ n, needsP k = n := ⟨_, rfl⟩
  have HN : Hid (needsP k = n) := hn
  by_cases h3 : 3 ≤ k ∧ k ≤ 12
  · rw [decide_eq_true h3.1, decide_eq_true h3.2] at hb
    obtain rfl : b2 = b := by simpa using hb
    have hn0 : (0 : Int) < (n : Int) := by
      rw [← hn]; unfold needsP; (repeat' split) <;> omega
    clear hb hn
    go_enter Tryz.func114, Tryz.ntmps114
    go_wp2_with fail
    refine (needs_impl k n HN.out _).mono ?_
    rintro e w1 ⟨rfl, rfl⟩
    go_wp2
    go_ret
    exact ⟨rfl, hA⟩
  · have hbf : b = false := by
      rw [← hb]
      by_cases h4 : 3 ≤ k
      · rw [decide_eq_false (fun h5 => h3 ⟨h4, h5⟩)]; simp
      · rw [decide_eq_false h4]; simp
    subst hbf
    have hn0 : n = 0 := by
      rw [← hn]; unfold needsP; (repeat' split) <;> omega
    subst hn0
    clear hb hn
    go_enter Tryz.func114, Tryz.ntmps114
    go_wp2_with fail
    refine (needs_impl k 0 HN.out _).mono ?_
    rintro e w1 ⟨rfl, rfl⟩
    go_wp2
    go_ret
    exact ⟨rfl, hA⟩
end Go.Proofs.YtmmandkellhbeaaGreatDoor

/-
  The contract of the program's SumOk.
-/
namespace Go.Proofs.YtmmandkellhbeaaGreatDoor
open Go.ChangeShapes Go.WideShapes Go.ChangeAt Go.RowKit
attribute [local go_sem ↓] Go.wp_at_zero Go.wp_at_succ
attribute [local simp] World.cell?_alloc_past World.cell?_alloc_at World.frozen?_alloc_at cell_far cell_off cell_here World.frozen?_alloc_past

/-- The texts of the items are not too long to be told. -/
def FitI (l : List TI) : Prop := ∀ x ∈ l, x.2.1.2.2.size ≤ maxLen ∧ x.2.2.size ≤ 1048576
set_option maxRecDepth 100000 in
set_option maxHeartbeats 4000000 in
theorem sum_impl (a : Option Addr) (cap : Nat) (l : List TI) (n : Nat) (hnl : l.length = n) (w : World) (hrow : ItmAt w a l) (hfit : FitI l) (hm : n ≤ maxLen) (hp : PowAt w) (he : ErrAt w) (b : Bool) (hb : sumB l = b) :
    Calls Tryz.prog 88 #[.slice a n cap] w fun e w' => e = .returned (.bool b) ∧ Below w.heap.size w w' := by
  have HR : Hid (ItmAt w a l) := hrow
  have HF : Hid (FitI l) := hfit
  have HB : Hid (sumB l = b) := hb
  have HP : Hid (PowAt w) := hp
  have HE : Hid (ErrAt w) := he
  have HL : Hid (l.length = n) := hnl
  clear hrow hfit hb hp he hnl
  unfold maxLen at hm
  by_cases h40 : 40 < n
  · have hi : (40 : Int) < (n : Int) := by omega
    have e : b = false := by
      rw [← HB.out]; unfold sumB
      rw [HL.out, decide_eq_false (p := n ≤ 40) (by omega), Bool.and_false]
    subst e
    go_enter Tryz.func88, Tryz.ntmps88
    go_wp2
    go_ret
    exact ⟨rfl, Below.refl _ _⟩
  have hi : ¬ (40 : Int) < (n : Int) := by omega
  go_enter Tryz.func88, Tryz.ntmps88
  go_wp2
  go_loopw [3, 12] (fun nv kk wr => ∃ k c : Nat, k ≤ n ∧ kk = .int .i64 k ∧ nv = .int .i64 c ∧ c ≤ k ∧ Hid (heapN (l.take k) 0 = some c) ∧ Below w.heap.size w wr) (fun _ kk _ => n - (intOf kk).toNat)
  case atStart => exact ⟨0, 0, Nat.zero_le _, rfl, rfl, Nat.le_refl _, rfl, Below.refl _ _⟩
  case round =>
    obtain ⟨k, c, hk, rfl, rfl, hck, hhp, hbw⟩ := hrel
    by_cases hlt : k < n
    · have hlk : k < l.length := by rw [HL.out]; exact hlt
      obtain ⟨g, o, rfl, hgw, c0, c1, c2, c3, c4⟩ := HR.out.below hbw k hlk
      have hi0 : (0 : Int) ≤ (k : Int) := by omega
      have hi1 : (k : Int) < (n : Int) := by omega
      obtain ⟨hf1, hf2⟩ := HF.out _ (List.getElem_mem hlk)
      have hst := heap_step l k hlk c hhp.out
      have HNO : Hid (heapN (l.take (k + 1)) 0 = none → b = false) := by
        have : heapN (l.take (k + 1)) 0 = none → b = false := fun h => by rw [← HB.out]; exact heap_no l (k + 1) h
        exact this
      obtain ⟨r, hr⟩ : ∃ r, itemB l[k] = r := ⟨_, rfl⟩
      obtain ⟨d, hd⟩ : ∃ d, needsP l[k].1 = d := ⟨_, rfl⟩
      have hdd : r = true → needsI l[k].1 = d := fun e => by rw [← hd, needsP_ok (hr.trans e)]
      have HST : Hid (heapN (l.take (k + 1)) 0 = if r = true ∧ d ≤ c then some (c + 1 - d) else none) := by
        have : heapN (l.take (k + 1)) 0 = if r = true ∧ d ≤ c then some (c + 1 - d) else none := by
          rw [hst, hr]
          cases r with
          | false => simp
          | true => rw [hdd rfl]
        exact this
      have HRR : Hid (itemB l[k] = r) := hr
      have HD : Hid (needsP l[k].1 = d) := hd
      have hd2 : d ≤ 2 := by rw [← hd]; exact needsP_le _
      clear hst hr hd hdd
      generalize l[k] = x at c0 c1 c2 c3 c4 hf1 hf2 HRR HD
      go_wp2_with fail
      refine (needs_impl x.1 d HD.out _).mono ?_
      rintro e w1 ⟨rfl, rfl⟩
      have hxA : Below w.heap.size w (wr.alloc (.cells #[.int .i64 x.1, .int .i64 x.2.1.1, .int .i64 x.2.1.2.1, .string x.2.1.2.2, .string x.2.2] 79)) := hbw.alloc hbw.size _
      clear c0 c1 c2 c3 c4
      go_wp2_with fail
      refine (item_impl x _ hf2 hf1 (HP.out.below hxA) (HE.out.below hxA) r HRR.out).mono ?_
      rintro e w2 ⟨rfl, hb2⟩
      have hx2 := chain hxA hb2
      clear hxA hb2
      cases r
      · obtain rfl : b = false := HNO.out (by rw [HST.out, if_neg (by simp)])
        go_wp2
        go_ret
        exact ⟨rfl, hx2⟩
      by_cases hcd : d ≤ c
      · have h1 : ¬ (c : Int) < (d : Int) := by omega
        have HS2 : Hid (heapN (l.take (k + 1)) 0 = some (c + 1 - d)) := by
          have : heapN (l.take (k + 1)) 0 = some (c + 1 - d) := by rw [HST.out]; simp [hcd]
          exact this
        have hz : ((c + 1 - d : Nat) : Int) = (c : Int) + (1 - (d : Int)) := by omega
        go_wp2
        go_roundw
        case rel => exact ⟨k + 1, c + 1 - d, by omega, by go_num, by rw [hz], by omega, HS2, hx2⟩
        case measure => simp [intOf]; omega
      · have h1 : (c : Int) < (d : Int) := by omega
        obtain rfl : b = false := HNO.out (by rw [HST.out, if_neg (fun h => hcd h.2)])
        go_wp2
        go_ret
        exact ⟨rfl, hx2⟩
    · have hkl : k = n := by omega
      subst hkl
      have hi1 : ¬ (k : Int) < (k : Int) := by omega
      have hh := hhp.out
      rw [List.take_of_length_le (by rw [HL.out]; exact Nat.le_refl _)] at hh
      have HBB : Hid (decide (c = 1) = b) := by
        have : decide (c = 1) = b := by
          rw [← HB.out]; unfold sumB; rw [hh, HL.out, decide_eq_true (p := k ≤ 40) (by omega)]; simp
        exact this
      clear hh
      by_cases e1 : c = 1
      · subst e1
        go_wp2
        go_ret
        exact ⟨ret_bool (by rw [← HBB.out]; simp), hbw⟩
      · have e2 : ¬ (c : Int) = 1 := by omega
        have e3 : ((c : Int) == 1) = false := by simpa using e2
        go_wp2
        go_ret
        exact ⟨ret_bool (by rw [← HBB.out]; simp [e1]), hbw⟩
end Go.Proofs.YtmmandkellhbeaaGreatDoor

/-
  The contract of the program's text of tokens.
-/
namespace Go.Proofs.YtmmandkellhbeaaGreatDoor
open Go.ChangeShapes Go.WideShapes Go.ChangeAt Go.RowKit
attribute [local go_sem ↓] Go.wp_at_zero Go.wp_at_succ

theorem toksT_no {l : List TT} {k : Nat} (h : k < l.length) (ho : tokB l[k] = false) : toksT l = ⟨#[]⟩ := by
  unfold toksT
  rw [if_neg]
  intro e
  rw [List.all_eq_true.1 e _ (List.getElem_mem h)] at ho
  cases ho
theorem toktext_impl (t : TT) (ht : tokB t = true) (y : ByteArray) (hy : (⟨(tokT t).toArray⟩ : ByteArray) = y) (w : World) (hs : t.2.2.2.2.size ≤ maxLen) (hp : PowAt w) :
    Calls Tryz.prog 184 #[.agg #[.int .i64 t.1, .string t.2.1, .int .i64 t.2.2.1, .int .i64 t.2.2.2.1, .string t.2.2.2.2]] w fun e w' => e = .returned (.string y) ∧ Below w.heap.size w w' := by
  have HP : Hid (PowAt w) := hp
  clear hp
  rcases tokB_kind ht with ⟨s, rfl, hn⟩ | ⟨⟨ck, cn, ct⟩, rfl, hc⟩ | ⟨s, rfl, hs⟩
  · rw [tokT_1] at hy
    obtain rfl : s = y := hy
    unfold zeroC
    dsimp only
    go_enter Tryz.func184, Tryz.ntmps184
    go_wp2
    go_ret
    exact ⟨rfl, by go_grown⟩
  · rw [tokT_2] at hy
    have hy2 : cellT ck cn ct = y := by
      rw [← hy]
      exact bytes_ext (cellT_ok hc)
    have HY : Hid (cellT ck cn ct = y) := hy2
    clear hy hy2
    dsimp only at hs ⊢
    have hA : Below w.heap.size w (w.alloc (.cells #[.int .i64 2, .string ⟨#[]⟩, .int .i64 ck, .int .i64 cn, .string ct] 105)) := (Below.refl _ _).alloc (Nat.le_refl _) _
    go_enter Tryz.func184, Tryz.ntmps184
    go_wp2_with fail
    refine (ctext_implb ck cn ct y HY.out _ hs (HP.out.below hA)).mono ?_
    rintro e w1 ⟨rfl, hb1⟩
    have hx := chain hA hb1
    go_wp2
    go_ret
    exact ⟨rfl, hx⟩
  · rw [tokT_3] at hy
    obtain rfl : s = y := hy
    unfold zeroC
    dsimp only
    go_enter Tryz.func184, Tryz.ntmps184
    go_wp2
    go_ret
    exact ⟨rfl, by go_grown⟩
set_option maxRecDepth 100000 in
set_option maxHeartbeats 2000000 in
theorem textof_impl (a : Option Addr) (cap : Nat) (l : List TT) (w : World) (hrow : TokAt w a l) (hfit : ∀ x ∈ l, x.2.1.size ≤ 1048576 ∧ x.2.2.2.2.size ≤ maxLen) (hm : l.length ≤ 1048576) (hp : PowAt w) (he : ErrAt w) (y : ByteArray) (hy : toksT l = y) :
    Calls Tryz.prog 144 #[.slice a l.length cap] w fun e w' => e = .returned (.string y) ∧ Below w.heap.size w w' := by
  obtain ⟨i0, hti, hz0, hz1, hz2⟩ := info_parts infoStr
  have HR : Hid (TokAt w a l) := hrow
  have HF : Hid (∀ x ∈ l, x.2.1.size ≤ 1048576 ∧ x.2.2.2.2.size ≤ maxLen) := hfit
  have HY : Hid (toksT l = y) := hy
  have HP : Hid (PowAt w) := hp
  have HE : Hid (ErrAt w) := he
  clear hrow hfit hy hp he
  go_enter Tryz.func144, Tryz.ntmps144
  go_wp2_with (at_make; refine wpList_make_own _ rfl _ _ 22 rfl w.heap.size 9 i0 (.string ⟨#[]⟩) 1 Tryz.underlying22 hti hz0 hz1 .i64 .i64 _ l.length rfl rfl rfl (by rw [hz2]; omega) (by unfold maxLen; omega) (Nat.le_refl _) ?_)
  intro w0 hown0 hgrow0
  have hb0 : Below w.heap.size w w0 := (Below.refl _ _).grown hgrow0 (Nat.le_refl _) (by intro k h; cases h)
  have own0 : Hid (w0.ownsRow w.heap.size 9 1 (.slice (some ⟨w.heap.size, 0, none⟩) 0 l.length) (textsK (l.take 0)).length ((textsK (l.take 0)).map Value.string)) := hown0
  clear hown0 hgrow0
  go_wp2
  go_loopw [3, 11] (fun v kk wr => ∃ k : Nat, k ≤ l.length ∧ kk = .int .i64 k ∧ Hid ((l.take k).all tokB = true) ∧ Hid (wr.ownsRow w.heap.size 9 1 v (textsK (l.take k)).length ((textsK (l.take k)).map Value.string)) ∧ Below w.heap.size w wr ∧ v ≠ .slice none 0 0) (fun _ kk _ => l.length - (intOf kk).toNat)
  case atStart => exact ⟨0, Nat.zero_le _, rfl, rfl, own0, hb0, by simp⟩
  case round =>
    obtain ⟨k, hk, rfl, hall, hO, hb, hvn⟩ := hrel
    by_cases hlt : k < l.length
    · obtain ⟨g, o, rfl, hgw, c0, c1, c2, c3, c4⟩ := HR.out.below hb k hlt
      have hi0 : (0 : Int) ≤ (k : Int) := by omega
      have hi1 : (k : Int) < (l.length : Int) := by omega
      obtain ⟨hf1, hf2⟩ := HF.out _ (List.getElem_mem hlt)
      have hsa := allK_snoc l k hlt
      rw [hall.out, Bool.true_and] at hsa
      have HS0 : Hid ((l.take (k + 1)).all tokB = tokB l[k]) := hsa
      obtain ⟨r, hr⟩ : ∃ r, tokB l[k] = r := ⟨_, rfl⟩
      have HRR : Hid (tokB l[k] = r) := hr
      have hno : Hid (tokB l[k] = false → y = ⟨#[]⟩) := by
        have : tokB l[k] = false → y = ⟨#[]⟩ := fun e => by rw [← HY.out]; exact toksT_no hlt e
        exact this
      have hsn := textsK_snoc l k hlt
      have hlen : (textsK (l.take k)).length = k := by rw [textsK_length, List.length_take]; omega
      obtain ⟨z, hz⟩ : ∃ z : ByteArray, (⟨(tokT l[k]).toArray⟩ : ByteArray) = z := ⟨_, rfl⟩
      have hsn2 : r = true → textsK (l.take (k + 1)) = textsK (l.take k) ++ [z] := by
        intro _
        rw [hsn, ← hz]
      have HS : Hid (r = true → textsK (l.take (k + 1)) = textsK (l.take k) ++ [z]) := hsn2
      clear hsn hsn2 hsa
      have hOO := hO.out
      rw [hlen] at hOO
      generalize textsK (l.take k) = xs at HS hOO hlen
      have HZ : Hid ((⟨(tokT l[k]).toArray⟩ : ByteArray) = z) := hz
      clear hz hr
      generalize l[k] = x at c0 c1 c2 c3 c4 hf1 hf2 HZ HS0 HRR hno
      go_wp2_with fail
      refine (tok_impl x _ hf1 hf2 ?hp ?he r HRR.out).mono ?_
      case hp => exact (HP.out.below hb).below ((Below.refl _ _).alloc (Nat.le_refl _) _)
      case he => exact (HE.out.below hb).below ((Below.refl _ _).alloc (Nat.le_refl _) _)
      rintro e w1 ⟨rfl, hb1⟩
      obtain ⟨d0, d1, d2, d3, d4, d5⟩ := box5 hb1
      clear c0 c1 c2 c3 c4
      cases r
      · have e := hno.out HRR.out
        subst e
        clear d0 d1 d2 d3 d4
        go_wp2
        go_ret
        exact ⟨rfl, chain hb (chainA hb1)⟩
      · have hbx := chain hb (chainA hb1)
        go_wp2_with fail
        refine (toktext_impl x HRR.out z HZ.out _ hf2 (HP.out.below hbx)).mono ?_
        rintro e w2 ⟨rfl, hb2⟩
        clear d0 d1 d2 d3 d4
        have O1 := own_below hOO (chain (chainA hb1) hb2)
        have hx := chain hbx hb2
        go_wp2_with (at_builtin; refine wpList_append_own _ rfl _ _ 22 rfl w.heap.size 9 i0 (.string ⟨#[]⟩) 1 16 Tryz.underlying22 hti hz0 hz1 hz2 rfl (by decide) _ _ _ rfl (O1.alloc _) ⟨w2.heap.size, 0, none⟩ 1 1 [.string z] rfl rfl ?c1 ?c2 ?c3 ?c4 ?c5 ?_)
        case c1 =>
          intro j u hj
          match j, hj with
          | 0, hj => simp at hj; subst hj; simp [Addr.add]
        case c2 => intro u hu; simp at hu; subst hu; rfl
        case c3 => unfold maxLen; omega
        case c4 => omega
        case c5 => have := hx.size; simp; omega
        intro v' w3 own2 hgrow hnn
        have hx2 : Below w.heap.size w w3 := by
          refine (hx.alloc hx.size _).grown hgrow (by have := hx.size; simp; omega) ?_
          intro kk hkk
          exact (O1.lt kk hkk).1
        have hvn2 : v' ≠ .slice none 0 0 := by first | exact hnn | exact fun e => hvn (hnn.1 e).1
        have SS : Hid (w3.ownsRow w.heap.size 9 1 v' (textsK (l.take (k + 1))).length ((textsK (l.take (k + 1))).map Value.string)) := by
          have : w3.ownsRow w.heap.size 9 1 v' (textsK (l.take (k + 1))).length ((textsK (l.take (k + 1))).map Value.string) := by
            rw [HS.out (by trivial), List.length_append, hlen, List.map_append]; exact own2
          exact this
        clear own2 hgrow hnn O1 hOO hO
        go_wp2
        go_roundw
        case rel => exact ⟨k + 1, by omega, by go_num, HS0.out.trans HRR.out, SS, hx2, hvn2⟩
        case measure => simp [intOf]; omega
    · have hkl : k = l.length := by omega
      subst hkl
      have hi1 : ¬ (l.length : Int) < (l.length : Int) := by omega
      have hAll : l.all tokB = true := by have := hall.out; rwa [List.take_length] at this
      have hOO := hO.out
      rw [List.take_length] at hOO
      rcases hOO.2 with ⟨h', _⟩ | ⟨g, c, cur, h', hbg, _, hcap, _⟩
      · exact absurd h' hvn
      subst h'
      have hT := texts_own hOO
      have h14 := textsK_14 hAll
      have hl2 := textsK_length l
      have hjl := join_len (rawT (textsK l)) (by
        intro z hz
        unfold rawT at hz
        obtain ⟨u, hu, rfl⟩ := List.mem_map.1 hz
        have := h14 u hu
        rw [Lib.size_eq] at this
        exact this)
      have hrl : (rawT (textsK l)).length = l.length := by unfold rawT; rw [List.length_map, hl2]
      have HY2 : Hid ((⟨(Lib.join (rawT (textsK l)) [32]).toArray⟩ : ByteArray) = y) := by
        have : (⟨(Lib.join (rawT (textsK l)) [32]).toArray⟩ : ByteArray) = y := by rw [← HY.out, toksT_texts hAll]
        exact this
      have HT : Hid (TextsAt wr g (textsK l)) := hT
      by_cases hn0 : (textsK l).length = 0
      · have hl0 : l = [] := List.length_eq_zero_iff.1 (by omega)
        subst hl0
        have e : y = ⟨#[]⟩ := by rw [← HY.out]; rfl
        subst e
        clear hT h14 hl2 hjl hrl hOO hO hn0 hcap HT HY2 hAll
        go_wp2_with fail
        refine (joined_none _ _ _ _).mono ?_
        rintro e w2 ⟨rfl, rfl⟩
        go_wp2
        go_ret
        exact ⟨rfl, hb⟩
      · have hg : g < wr.heap.size := (hT 0 (by omega)).2
        have HJ : Hid ((Lib.join (rawT (textsK l)) [32]).length ≤ 140737488355328) := by
          have : (Lib.join (rawT (textsK l)) [32]).length ≤ 140737488355328 := by omega
          exact this
        have HL : Hid ((textsK l).length ≤ 140737488355328) := by
          have : (textsK l).length ≤ 140737488355328 := by omega
          exact this
        have HC : Hid ((textsK l).length ≤ c) := hcap
        clear hT h14 hl2 hjl hrl hOO hO hn0 hcap
        go_wp2_with fail
        refine (joined_impl g c (textsK l) ⟨#[32]⟩ _ (fun j x hj => ?_) hg HL.out HC.out HJ.out y HY2.out).mono ?_
        · obtain ⟨hlt, rfl⟩ := List.getElem?_eq_some_iff.1 hj
          rw [Nat.zero_add]
          exact (HT.out j hlt).1
        rintro e w2 ⟨rfl, hb2⟩
        go_wp2
        go_ret
        exact ⟨rfl, chain hb hb2⟩

end Go.Proofs.YtmmandkellhbeaaGreatDoor

/-
  The program's own table of signs, a package variable, in later worlds.
-/
namespace Go.Proofs.YtmmandkellhbeaaGreatDoor
open Go.ChangeShapes Go.WideShapes Go.ChangeAt Go.RowKit

/-- The sign at each kind; what stands alone has none. -/
def sgn0 (k : Nat) : ByteArray := if k < 3 then ⟨#[]⟩ else sgn k
def sgnArr : Array Value := ((List.range 13).map (fun k => Value.string (sgn0 k))).toArray
theorem gSgn : Tryz.prog.globalNamed "loop.example/g00536/impl.itemSigns" = some 0 := by kernel_rfl
/-- The table of signs holds them. -/
def SgnAt (w : World) : Prop := w.var? Tryz.prog "loop.example/g00536/impl.itemSigns" = some sgnArr
theorem SgnAt.below {w w' : World} (h : SgnAt w) (hb : Below w.heap.size w w') : SgnAt w' := var_below h hb
theorem SgnAt.cell {w : World} (h : SgnAt w) (k : Nat) (hk : k < 13) : w.cell? ⟨0, k, none⟩ = some (.string (sgn0 k)) := by
  rw [World.var?_cell gSgn h k]
  unfold sgnArr
  simp [hk]
theorem SgnAt.lt {w : World} (h : SgnAt w) : 0 < w.heap.size := World.block_lt_of_cell? w _ (h.cell 0 (by omega))
end Go.Proofs.YtmmandkellhbeaaGreatDoor
