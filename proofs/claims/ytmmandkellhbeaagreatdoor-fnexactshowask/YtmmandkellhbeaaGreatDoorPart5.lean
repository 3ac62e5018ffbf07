/-
  A part of the proof: LevMath, LevMath2, Lists3, Tok1, TokS, TextS, ShowMathS, SvMath.
-/
import Derived.Test.YtmmandkellhbeaaGreatDoorPart4
import Derived.Test.YtmmandkellhbeaaGreatDoorPart1
import Derived.Test.YtmmandkellhbeaaGreatDoorPart3
import Derived.Test.YtmmandkellhbeaaGreatDoorPart2

/-
  What tokens are read as, level by level, without counting steps.
-/
namespace Go.Proofs.YtmmandkellhbeaaGreatDoor

theorem levR_eq {f lev : Nat} {r : List TT} (hl : lev ≤ 7) (h : 10 * r.length + (7 - lev) < f) : levP f lev r = levR lev r := by
  unfold levR
  by_cases hf : f ≤ 10 * r.length + 8
  · exact ((levP_more f).1 lev r _ hl h hf).symm
  · exact (levP_more (10 * r.length + 8)).1 lev r f hl (by omega) (by omega)
/-- What goes on behind the first one of a level. -/
def tlR (lev : Nat) (o : List TI) (r : List TT) : Option (List TI × List TT) := tailP (10 * r.length + 9) lev o r
theorem tlR_eq {f lev : Nat} {o : List TI} {r : List TT} (hl : lev ≤ 5) (h : 10 * r.length + 8 < f) : tailP f lev o r = tlR lev o r := by
  unfold tlR
  by_cases hf : f ≤ 10 * r.length + 9
  · exact ((levP_more f).2 lev o r _ hl h hf).symm
  · exact (levP_more (10 * r.length + 9)).2 lev o r f hl (by omega) (by omega)
theorem levR_len {lev : Nat} {r r' : List TT} {o : List TI} (h : levR lev r = some (o, r')) : r'.length < r.length := (levP_len _).1 _ _ _ _ h
theorem levR_two {lev : Nat} {r : List TT} (hl : lev = 0 ∨ lev = 1 ∨ lev = 4 ∨ lev = 5) : levR lev r = match levR (lev + 1) r with
    | none => none
    | some (o, r') => tlR lev o r' := by
  obtain ⟨f, hf⟩ : ∃ f, f = 10 * r.length + 7 := ⟨_, rfl⟩
  have e : levR lev r = levP (f + 1) lev r := by rw [hf]; rfl
  rw [e]
  unfold levP
  rw [if_pos hl, levR_eq (by omega) (by omega)]
  cases hq : levR (lev + 1) r with
  | none => rfl
  | some p =>
    obtain ⟨o, r'⟩ := p
    have := levR_len hq
    show tailP f lev o r' = tlR lev o r'
    exact tlR_eq (by omega) (by omega)
theorem tlR_none {lev : Nat} {o : List TI} {r : List TT} (h : twoT lev r = none) : tlR lev o r = some (o, r) := by
  unfold tlR
  rw [tailP, h]
theorem tlR_some {lev : Nat} {o : List TI} {r r1 : List TT} {k : Int} (hl : lev ≤ 5) (h : twoT lev r = some (k, r1)) : tlR lev o r = match levR (lev + 1) r1 with
    | none => none
    | some (p, r2) => tlR lev (o ++ (p ++ [opI k])) r2 := by
  have hlen := twoK_len h
  have e : tlR lev o r = tailP (10 * r.length + 8 + 1) lev o r := rfl
  rw [e, tailP, h]
  simp only []
  rw [levR_eq (by omega) (by omega)]
  cases hq : levR (lev + 1) r1 with
  | none => rfl
  | some p =>
    obtain ⟨p, r2⟩ := p
    have := levR_len hq
    exact tlR_eq hl (show 10 * r2.length + 8 < 10 * r.length + 8 by omega)
theorem levR_3 {r : List TT} : levR 3 r = match levR 4 r with
    | none => none
    | some (o, r') => match twoT 3 r' with
      | none => some (o, r')
      | some (k, r2) => match levR 4 r2 with
        | none => none
        | some (p, r3) => some (o ++ (p ++ [opI k]), r3) := by
  obtain ⟨f, hf⟩ : ∃ f, f = 10 * r.length + 7 := ⟨_, rfl⟩
  have e : levR 3 r = levP (f + 1) 3 r := by rw [hf]; rfl
  rw [e]
  unfold levP
  rw [if_neg (by omega), if_pos rfl, levR_eq (by omega) (by omega)]
  cases hq : levR 4 r with
  | none => rfl
  | some p =>
    obtain ⟨o, r'⟩ := p
    have h1 := levR_len hq
    simp only [Option.bind_some]
    cases ht : twoT 3 r' with
    | none => rfl
    | some q =>
      obtain ⟨k, r2⟩ := q
      have h2 := twoK_len ht
      simp only []
      rw [levR_eq (by omega) (by omega)]
      cases levR 4 r2 with
      | none => rfl
      | some z => rfl
theorem levR_pre {lev : Nat} {r : List TT} (hl : lev = 2 ∨ lev = 6) : levR lev r = match seesT (sgn (if lev = 2 then 11 else 12)) r with
    | some r1 => (match levR lev r1 with
      | none => none
      | some (o, r2) => some (o ++ [opI (if lev = 2 then 11 else 12)], r2))
    | none => levR (lev + 1) r := by
  obtain ⟨f, hf⟩ : ∃ f, f = 10 * r.length + 7 := ⟨_, rfl⟩
  have e : levR lev r = levP (f + 1) lev r := by rw [hf]; rfl
  rw [e]
  unfold levP
  rw [if_neg (by omega), if_neg (by omega), if_pos hl]
  cases hs : seesT (sgn (if lev = 2 then 11 else 12)) r with
  | none => exact levR_eq (by omega) (by omega)
  | some r1 =>
    have h1 := sees_len hs
    simp only []
    rw [levR_eq (by omega) (by omega)]
    cases levR lev r1 with
    | none => rfl
    | some z => rfl
theorem levR_7 {r : List TT} : levR 7 r = match seesT ⟨#[40]⟩ r with
    | some r1 => (match levR 0 r1 with
      | none => none
      | some (o, r2) => match seesT ⟨#[41]⟩ r2 with
        | none => none
        | some r3 => some (o, r3))
    | none => match r with
      | [] => none
      | t :: r1 => if t.1 = 3 then none else some ([itmOf t], r1) := by
  obtain ⟨f, hf⟩ : ∃ f, f = 10 * r.length + 7 := ⟨_, rfl⟩
  have e : levR 7 r = levP (f + 1) 7 r := by rw [hf]; rfl
  rw [e]
  unfold levP
  rw [if_neg (by omega), if_neg (by omega), if_neg (by omega)]
  cases hs : seesT ⟨#[40]⟩ r with
  | none => rfl
  | some r1 =>
    have h1 := sees_len hs
    simp only []
    rw [levR_eq (by omega) (by omega)]
    cases levR 0 r1 with
    | none => rfl
    | some z =>
      obtain ⟨o, r2⟩ := z
      simp only [Option.bind_some]
      cases seesT ⟨#[41]⟩ r2 <;> rfl
end Go.Proofs.YtmmandkellhbeaaGreatDoor

/-
  What is read of right tokens is right items; what ReadSum answers.
-/
namespace Go.Proofs.YtmmandkellhbeaaGreatDoor

theorem itemB_1 (c : CK) (s : ByteArray) : itemB (1, c, s) = (okC c && decide (s = ⟨#[]⟩)) := if_pos rfl
theorem itemB_2 (c : CK) (s : ByteArray) : itemB (2, c, s) = (nameK s && decide (c = zeroC)) := (if_neg (fun h => absurd h (by decide : ¬ (2 : Int) = 1))).trans (if_pos rfl)
theorem itmOf_ok {t : TT} (h : tokB t = true) (h3 : t.1 ≠ 3) : itemB (itmOf t) = true := by
  rcases tokB_kind h with ⟨s, rfl, hn⟩ | ⟨c, rfl, hc⟩ | ⟨s, rfl, hs⟩
  · have e : itmOf (1, s, zeroC) = (2, zeroC, s) := if_pos rfl
    rw [e, itemB_2, hn]
    simp
  · have e : itmOf (2, ⟨#[]⟩, c) = (1, c, ⟨#[]⟩) := if_neg (fun h => absurd h (by decide : ¬ (2 : Int) = 1))
    rw [e, itemB_1, hc]
    simp
  · exact absurd rfl h3
theorem itemB_fits {x : TI} (h : itemB x = true) : x.2.1.2.2.size ≤ 12 ∧ x.2.2.size ≤ 12 := by
  obtain ⟨k, c, s⟩ := x
  by_cases h1 : k = 1
  · subst h1
    rw [itemB_1, Bool.and_eq_true, decide_eq_true_eq] at h
    obtain ⟨hc, rfl⟩ := h
    obtain ⟨ck, cn, ct⟩ := c
    refine ⟨?_, Nat.zero_le _⟩
    have ho : okB ck cn ct = true := hc
    show ct.size ≤ 12
    rcases okB_kind ho with rfl | rfl | rfl | rfl
    · rw [(okB_0 ho).2]; exact Nat.zero_le _
    · rw [(okB_1 ho).2]; exact Nat.zero_le _
    · have := (okB_2 ho).2
      unfold textB at this
      rw [Bool.and_eq_true, decide_eq_true_eq] at this
      omega
    · rw [(okB_3 ho).2]; exact Nat.zero_le _
  by_cases h2 : k = 2
  · subst h2
    rw [itemB_2, Bool.and_eq_true, decide_eq_true_eq] at h
    obtain ⟨hn, rfl⟩ := h
    unfold nameK nameB at hn
    simp only [Bool.and_eq_true, Bool.not_eq_true', decide_eq_true_eq] at hn
    obtain ⟨⟨_, _, h3⟩, _⟩ := hn
    exact ⟨Nat.zero_le _, show s.size ≤ 12 by omega⟩
  · obtain ⟨_, _, e⟩ := item_op h h1 h2
    rw [e]
    exact ⟨Nat.zero_le _, Nat.zero_le _⟩
theorem sees_all {s : ByteArray} {r r1 : List TT} (h : seesT s r = some r1) (hr : r.all tokB = true) : r1.all tokB = true := by
  cases r with
  | nil => cases h
  | cons t r =>
    rw [seesT_cons] at h
    rw [List.all_cons, Bool.and_eq_true] at hr
    split at h
    · cases h; exact hr.2
    · cases h
theorem twoK_all {r r1 : List TT} {k : Int} {ks : List Int} (h : twoK r ks = some (k, r1)) (hr : r.all tokB = true) : r1.all tokB = true ∧ k ∈ ks := by
  induction ks with
  | nil => cases h
  | cons j ks ih =>
    unfold twoK at h
    cases hs : seesT (sgn j) r with
    | some r2 => rw [hs] at h; cases h; exact ⟨sees_all hs hr, by simp⟩
    | none => rw [hs] at h; obtain ⟨h1, h2⟩ := ih h; exact ⟨h1, List.mem_cons_of_mem _ h2⟩
theorem kindsL_310 (lev : Nat) : ∀ kd ∈ kindsL lev, 3 ≤ kd ∧ kd ≤ 10 := by
  intro kd h
  unfold kindsL at h
  repeat' split at h
  all_goals simp at h
  all_goals omega
theorem all_op {o : List TI} {k : Int} (h : o.all itemB = true) (h1 : 3 ≤ k) (h2 : k ≤ 12) : (o ++ [opI k]).all itemB = true := by
  rw [List.all_append, h]
  simp [itemB_op k h1 h2]
theorem levP_all : ∀ f, (∀ lev r o r', r.all tokB = true → levP f lev r = some (o, r') → o.all itemB = true ∧ r'.all tokB = true) ∧ (∀ lev o r o' r', o.all itemB = true → r.all tokB = true → tailP f lev o r = some (o', r') → o'.all itemB = true ∧ r'.all tokB = true)
  | 0 => ⟨fun lev r o r' _ h => by simp [levP] at h, fun lev o r o' r' _ _ h => by simp [tailP] at h⟩
  | f + 1 => by
    obtain ⟨ih1, ih2⟩ := levP_all f
    refine ⟨fun lev r o r' hr h => ?_, fun lev o r o' r' ho hr h => ?_⟩
    · unfold levP at h
      split at h
      · obtain ⟨p, h1, h2⟩ := Option.bind_eq_some_iff.1 h
        obtain ⟨a1, a2⟩ := ih1 _ _ _ _ hr (show levP f (lev + 1) r = some (p.1, p.2) from h1)
        exact ih2 _ _ _ _ _ a1 a2 h2
      · split at h
        · obtain ⟨p, h1, h2⟩ := Option.bind_eq_some_iff.1 h
          obtain ⟨a1, a2⟩ := ih1 _ _ _ _ hr (show levP f 4 r = some (p.1, p.2) from h1)
          cases ht : twoT 3 p.2 with
          | none =>
            rw [ht] at h2
            cases h2
            exact ⟨a1, a2⟩
          | some q =>
            obtain ⟨k, r2⟩ := q
            rw [ht] at h2
            obtain ⟨z, h3, h4⟩ := Option.map_eq_some_iff.1 h2
            cases h4
            obtain ⟨b1, b2⟩ := twoK_all ht a2
            obtain ⟨c1, c2⟩ := ih1 _ _ _ _ b1 (show levP f 4 r2 = some (z.1, z.2) from h3)
            have hk := kindsL_310 3 k b2
            refine ⟨?_, c2⟩
            rw [List.all_append, a1, all_op c1 (by omega) (by omega)]
            rfl
        · split at h
          · cases hs : seesT (sgn (if lev = 2 then 11 else 12)) r with
            | some r1 =>
              rw [hs] at h
              obtain ⟨z, h3, h4⟩ := Option.map_eq_some_iff.1 h
              cases h4
              obtain ⟨c1, c2⟩ := ih1 _ _ _ _ (sees_all hs hr) (show levP f lev r1 = some (z.1, z.2) from h3)
              refine ⟨all_op c1 ?_ ?_, c2⟩ <;> split <;> decide
            | none => rw [hs] at h; exact ih1 _ _ _ _ hr h
          · cases hs : seesT ⟨#[40]⟩ r with
            | some r1 =>
              rw [hs] at h
              obtain ⟨q, h1, h2⟩ := Option.bind_eq_some_iff.1 h
              obtain ⟨z, h3, h4⟩ := Option.map_eq_some_iff.1 h2
              cases h4
              obtain ⟨c1, c2⟩ := ih1 _ _ _ _ (sees_all hs hr) (show levP f 0 r1 = some (q.1, q.2) from h1)
              exact ⟨c1, sees_all h3 c2⟩
            | none =>
              rw [hs] at h
              cases r with
              | nil => cases h
              | cons t r =>
                rw [List.all_cons, Bool.and_eq_true] at hr
                simp only [] at h
                split at h
                · cases h
                · rename_i h3
                  cases h
                  refine ⟨?_, hr.2⟩
                  rw [List.all_cons, itmOf_ok hr.1 h3]
                  rfl
    · unfold tailP at h
      cases ht : twoT lev r with
      | none => rw [ht] at h; cases h; exact ⟨ho, hr⟩
      | some q =>
        obtain ⟨k, r1⟩ := q
        rw [ht] at h
        obtain ⟨p, h1, h2⟩ := Option.bind_eq_some_iff.1 h
        obtain ⟨b1, b2⟩ := twoK_all ht hr
        obtain ⟨c1, c2⟩ := ih1 _ _ _ _ b1 (show levP f (lev + 1) r1 = some (p.1, p.2) from h1)
        have hk := kindsL_310 lev k b2
        refine ih2 _ _ _ _ _ ?_ c2 h2
        rw [List.all_append, ho, all_op c1 (by omega) (by omega)]
        rfl
theorem levR_all {lev : Nat} {r r' : List TT} {o : List TI} (hr : r.all tokB = true) (h : levR lev r = some (o, r')) : o.all itemB = true := ((levP_all _).1 _ _ _ _ hr h).1
/-- What ReadSum answers. -/
def sumR (toks : List TT) : List TI × Bool := if toks.all tokB = true then (match levR 0 toks with
    | some (o, []) => if sumB o = true then (o, true) else ([], false)
    | _ => ([], false)) else ([], false)
theorem sumR_bad {toks : List TT} (h : toks.all tokB = false) : sumR toks = ([], false) := by unfold sumR; rw [if_neg (by rw [h]; decide)]
theorem sumR_none {toks : List TT} (h : levR 0 toks = none) : sumR toks = ([], false) := by
  unfold sumR
  split
  · rw [h]
  · rfl
theorem sumR_more {toks r : List TT} {o : List TI} (h : levR 0 toks = some (o, r)) (hr : r ≠ []) : sumR toks = ([], false) := by
  unfold sumR
  split
  · rw [h]
    cases r with
    | nil => exact absurd rfl hr
    | cons t r => rfl
  · rfl
theorem sumR_end {toks : List TT} {o : List TI} (ha : toks.all tokB = true) (h : levR 0 toks = some (o, [])) : sumR toks = if sumB o = true then (o, true) else ([], false) := by
  unfold sumR
  rw [if_pos ha, h]
end Go.Proofs.YtmmandkellhbeaaGreatDoor

/-
  The contract of the law's helper that holds two lists of cells against each other: of two that are one it answers true.
-/
namespace Go.Proofs.YtmmandkellhbeaaGreatDoor
open Go.ChangeShapes Go.WideShapes Go.ChangeAt Go.RowKit
attribute [local go_sem ↓] Go.wp_at_zero Go.wp_at_succ

end Go.Proofs.YtmmandkellhbeaaGreatDoor

/-
  Lists of Tokens: how one lies in memory, and the contracts of the law's helpers that measure, take over and compare.
-/
namespace Go.Proofs.YtmmandkellhbeaaGreatDoor
open Go.ChangeShapes Go.WideShapes Go.ChangeAt Go.RowKit
attribute [local go_sem ↓] Go.wp_at_zero Go.wp_at_succ
attribute [local simp] World.cell?_alloc_past World.cell?_alloc_at World.frozen?_alloc_at cell_far cell_off cell_here World.frozen?_alloc_past

/-- The Tokens of a slice lie where it says. -/
def TokAt (w : World) (a : Option Addr) (l : List TT) : Prop :=
  ∀ j (h : j < l.length), ∃ b o, a = some ⟨b, o, none⟩ ∧ b < w.heap.size ∧ w.cell? ⟨b, o + j * 5, none⟩ = some (.int .i64 l[j].1) ∧ w.cell? ⟨b, o + j * 5 + 1, none⟩ = some (.string l[j].2.1) ∧ w.cell? ⟨b, o + j * 5 + 2, none⟩ = some (.int .i64 l[j].2.2.1) ∧ w.cell? ⟨b, o + j * 5 + 3, none⟩ = some (.int .i64 l[j].2.2.2.1) ∧ w.cell? ⟨b, o + j * 5 + 4, none⟩ = some (.string l[j].2.2.2.2)
theorem TokAt.below {w w' : World} {a : Option Addr} {l : List TT} (h : TokAt w a l) (hb : Below w.heap.size w w') : TokAt w' a l := by
  intro j hj
  obtain ⟨b, o, ha, hlt, c0, c1, c2, c3, c4⟩ := h j hj
  refine ⟨b, o, ha, Nat.lt_of_lt_of_le hlt hb.size, ?_, ?_, ?_, ?_, ?_⟩
  · rw [hb.cell (p := ⟨b, _, none⟩) hlt]; exact c0
  · rw [hb.cell (p := ⟨b, _, none⟩) hlt]; exact c1
  · rw [hb.cell (p := ⟨b, _, none⟩) hlt]; exact c2
  · rw [hb.cell (p := ⟨b, _, none⟩) hlt]; exact c3
  · rw [hb.cell (p := ⟨b, _, none⟩) hlt]; exact c4
/-- No text is longer than a text can be. -/
def FitTok (l : List TT) : Prop := ∀ j (h : j < l.length), ((l[j]).2.1).size ≤ maxLen ∧ ((l[j]).2.2.2.2).size ≤ maxLen
def oneTok (x : TT) : Nat := x.2.1.size + x.2.2.2.2.size
def weightTok (l : List TT) : Nat := (l.map oneTok).sum
theorem weightTok_take (l : List TT) (k : Nat) (h : k < l.length) : weightTok (l.take (k + 1)) = weightTok (l.take k) + oneTok l[k] := by
  unfold weightTok
  rw [List.take_succ_eq_append_getElem h, List.map_append, List.sum_append]; simp
theorem weightTok_le (l : List TT) (k : Nat) : weightTok (l.take k) ≤ weightTok l := by
  unfold weightTok
  conv => rhs; rw [← List.take_append_drop k l, List.map_append, List.sum_append]
  omega
/-- The cells of a list, one behind the other. -/
def flatTok : List TT → List Value
  | [] => []
  | x :: l => .int .i64 x.1 :: .string x.2.1 :: .int .i64 x.2.2.1 :: .int .i64 x.2.2.2.1 :: .string x.2.2.2.2 :: flatTok l
theorem flatTok_length (l : List TT) : (flatTok l).length = l.length * 5 := by
  induction l with
  | nil => rfl
  | cons x l ih => simp only [flatTok, List.length_cons, ih]; omega
theorem flatTok_append (l m : List TT) : flatTok (l ++ m) = flatTok l ++ flatTok m := by
  induction l with
  | nil => rfl
  | cons x l ih => simp only [List.cons_append, flatTok, ih]
theorem flatTok_at (l : List TT) (j : Nat) (h : j < l.length) : (flatTok l)[j * 5]? = some (.int .i64 l[j].1) ∧ (flatTok l)[j * 5 + 1]? = some (.string l[j].2.1) ∧ (flatTok l)[j * 5 + 2]? = some (.int .i64 l[j].2.2.1) ∧ (flatTok l)[j * 5 + 3]? = some (.int .i64 l[j].2.2.2.1) ∧ (flatTok l)[j * 5 + 4]? = some (.string l[j].2.2.2.2) := by
  induction l generalizing j with
  | nil => simp at h
  | cons x l ih =>
    cases j with
    | zero => exact ⟨rfl, rfl, rfl, rfl, rfl⟩
    | succ j =>
      have := ih j (by simpa using h)
      have e0 : (j + 1) * 5 = j * 5 + 1 + 1 + 1 + 1 + 1 := by omega
      have e1 : (j + 1) * 5 + 1 = j * 5 + 1 + 1 + 1 + 1 + 1 + 1 := by omega
      have e2 : (j + 1) * 5 + 2 = j * 5 + 2 + 1 + 1 + 1 + 1 + 1 := by omega
      have e3 : (j + 1) * 5 + 3 = j * 5 + 3 + 1 + 1 + 1 + 1 + 1 := by omega
      have e4 : (j + 1) * 5 + 4 = j * 5 + 4 + 1 + 1 + 1 + 1 + 1 := by omega
      rw [e1, e2, e3, e4, e0]
      simpa only [flatTok, List.getElem?_cons_succ, List.getElem_cons_succ] using this
theorem flatTok_step (l : List TT) (k : Nat) (h : k < l.length) (z : List Value) (hz : z.length = l.length * 5) :
    ((((((flatTok (l.take k) ++ z.drop (k * 5)).set (k * 5) (.int .i64 l[k].1)).set (k * 5 + 1) (.string l[k].2.1)).set (k * 5 + 2) (.int .i64 l[k].2.2.1)).set (k * 5 + 3) (.int .i64 l[k].2.2.2.1)).set (k * 5 + 4) (.string l[k].2.2.2.2)) = flatTok (l.take (k + 1)) ++ z.drop ((k + 1) * 5) := by
  have hl : (flatTok (l.take k)).length = k * 5 := by rw [flatTok_length, List.length_take]; congr 1; omega
  obtain ⟨a0, a1, a2, a3, a4, r, hr⟩ : ∃ a0 a1 a2 a3 a4 r, z.drop (k * 5) = a0 :: a1 :: a2 :: a3 :: a4 :: r := by
    have hd : (z.drop (k * 5)).length ≥ 5 := by rw [List.length_drop]; omega
    match hm : z.drop (k * 5), hd with
    | a0 :: a1 :: a2 :: a3 :: a4 :: r, _ => exact ⟨a0, a1, a2, a3, a4, r, rfl⟩
  have hr3 : z.drop ((k + 1) * 5) = r := by
    rw [show (k + 1) * 5 = k * 5 + 5 by omega, ← List.drop_drop, hr]; rfl
  rw [List.take_succ_eq_append_getElem h, flatTok_append, hr, hr3]
  rw [List.set_append_right _ _ (by omega), List.set_append_right _ _ (by omega), List.set_append_right _ _ (by omega), List.set_append_right _ _ (by omega), List.set_append_right _ _ (by omega), hl]
  rw [show k * 5 - k * 5 = 0 by omega, show k * 5 + 1 - k * 5 = 1 by omega, show k * 5 + 2 - k * 5 = 2 by omega, show k * 5 + 3 - k * 5 = 3 by omega, show k * 5 + 4 - k * 5 = 4 by omega]
  simp [flatTok]
/-- What is owned lies there. -/
theorem ownTok {w : World} {base g cap : Nat} {e : TypeId} {l : List TT} (h : w.ownsRow base e 5 (.slice (some ⟨g, 0, none⟩) l.length cap) l.length (flatTok l)) : TokAt w (some ⟨g, 0, none⟩) l := by
  have hlt : g < w.heap.size := (h.lt g rfl).2
  intro j hj
  obtain ⟨f0, f1, f2, f3, f4⟩ := flatTok_at l j hj
  refine ⟨g, 0, rfl, hlt, ?_, ?_, ?_, ?_, ?_⟩
  · rw [show 0 + j * 5 = j * 5 by omega, h.cellAt _ (by omega)]; exact f0
  · rw [show 0 + j * 5 + 1 = j * 5 + 1 by omega, h.cellAt _ (by omega)]; exact f1
  · rw [show 0 + j * 5 + 2 = j * 5 + 2 by omega, h.cellAt _ (by omega)]; exact f2
  · rw [show 0 + j * 5 + 3 = j * 5 + 3 by omega, h.cellAt _ (by omega)]; exact f3
  · rw [show 0 + j * 5 + 4 = j * 5 + 4 by omega, h.cellAt _ (by omega)]; exact f4

/-- Five cells of a block are written. -/
theorem five {w : World} {b : Nat} {a0 a1 a2 a3 a4 : Value} (v0 v1 v2 v3 v4 : Value) (h0 : w.cell? ⟨b, 0, none⟩ = some a0) (h1 : w.cell? ⟨b, 1, none⟩ = some a1) (h2 : w.cell? ⟨b, 2, none⟩ = some a2) (h3 : w.cell? ⟨b, 3, none⟩ = some a3) (h4 : w.cell? ⟨b, 4, none⟩ = some a4) :
    (((((w.setCell ⟨b, 0, none⟩ v0).setCell ⟨b, 1, none⟩ v1).setCell ⟨b, 2, none⟩ v2).setCell ⟨b, 3, none⟩ v3).setCell ⟨b, 4, none⟩ v4).cell? ⟨b, 0, none⟩ = some v0 ∧ (((((w.setCell ⟨b, 0, none⟩ v0).setCell ⟨b, 1, none⟩ v1).setCell ⟨b, 2, none⟩ v2).setCell ⟨b, 3, none⟩ v3).setCell ⟨b, 4, none⟩ v4).cell? ⟨b, 1, none⟩ = some v1 ∧ (((((w.setCell ⟨b, 0, none⟩ v0).setCell ⟨b, 1, none⟩ v1).setCell ⟨b, 2, none⟩ v2).setCell ⟨b, 3, none⟩ v3).setCell ⟨b, 4, none⟩ v4).cell? ⟨b, 2, none⟩ = some v2 ∧ (((((w.setCell ⟨b, 0, none⟩ v0).setCell ⟨b, 1, none⟩ v1).setCell ⟨b, 2, none⟩ v2).setCell ⟨b, 3, none⟩ v3).setCell ⟨b, 4, none⟩ v4).cell? ⟨b, 3, none⟩ = some v3 ∧ (((((w.setCell ⟨b, 0, none⟩ v0).setCell ⟨b, 1, none⟩ v1).setCell ⟨b, 2, none⟩ v2).setCell ⟨b, 3, none⟩ v3).setCell ⟨b, 4, none⟩ v4).cell? ⟨b, 4, none⟩ = some v4 := by
  refine ⟨?_, ?_, ?_, ?_, ?_⟩
  · rw [cell_off _ _ _ _ _ (by omega), cell_off _ _ _ _ _ (by omega), cell_off _ _ _ _ _ (by omega), cell_off _ _ _ _ _ (by omega), cell_here _ _ _ _ (by rw [h0]; rfl)]
  · rw [cell_off _ _ _ _ _ (by omega), cell_off _ _ _ _ _ (by omega), cell_off _ _ _ _ _ (by omega), cell_here _ _ _ _ (by rw [cell_off _ _ _ _ _ (by omega), h1]; rfl)]
  · rw [cell_off _ _ _ _ _ (by omega), cell_off _ _ _ _ _ (by omega), cell_here _ _ _ _ (by rw [cell_off _ _ _ _ _ (by omega), cell_off _ _ _ _ _ (by omega), h2]; rfl)]
  · rw [cell_off _ _ _ _ _ (by omega), cell_here _ _ _ _ (by rw [cell_off _ _ _ _ _ (by omega), cell_off _ _ _ _ _ (by omega), cell_off _ _ _ _ _ (by omega), h3]; rfl)]
  · rw [cell_here _ _ _ _ (by rw [cell_off _ _ _ _ _ (by omega), cell_off _ _ _ _ _ (by omega), cell_off _ _ _ _ _ (by omega), cell_off _ _ _ _ _ (by omega), h4]; rfl)]
end Go.Proofs.YtmmandkellhbeaaGreatDoor

/-
  The contracts of the model's questions for a token: a sign, a name that is no other word, a right token.
-/
namespace Go.Proofs.YtmmandkellhbeaaGreatDoor
open Go.ChangeShapes Go.WideShapes Go.ChangeAt Go.RowKit
attribute [local go_sem ↓] Go.wp_at_zero Go.wp_at_succ
attribute [local simp] World.cell?_alloc_past World.cell?_alloc_at World.frozen?_alloc_at cell_far cell_off cell_here World.frozen?_alloc_past

theorem signs_spec (w : World) :
    Calls Tryz.prog 81 #[] w fun e w' => ∃ g, e = .returned (.slice (some ⟨g, 0, none⟩) 4 4) ∧ StrsAt w' (some ⟨g, 0, none⟩) signW ∧ Below w.heap.size w w' := by
  go_enter Tryz.func81, Tryz.ntmps81
  go_wp2
  go_ret
  refine ⟨w.heap.size, rfl, ?_, (Below.refl _ _).alloc (Nat.le_refl _) _⟩
  intro j hj
  simp only [signW, List.length_cons, List.length_nil] at hj
  refine ⟨w.heap.size, 0, rfl, by simp, ?_⟩
  match j, hj with
  | 0, _ => simp [signW]
  | 1, _ => simp [signW]
  | 2, _ => simp [signW]
  | 3, _ => simp [signW]
theorem at_specT (n : Nat) (a : Option Addr) (cap : Nat) (l : List ByteArray) (hn : l.length = n) (s : ByteArray) (w : World) (hrow : StrsAt w a l) (hm : n ≤ maxLen) :
    Calls Tryz.prog 67 #[.slice a n cap, .string s] w fun e w' => ∃ r, e = .returned (.int .i64 r) ∧ AtIs l s r ∧ Below w.heap.size w w' := by
  subst hn; exact at_spec a cap l s w hrow hm
set_option maxHeartbeats 1000000 in
theorem sign_spec (s : ByteArray) (w : World) (b : Bool) (hb : signB s = b) :
    Calls Tryz.prog 154 #[.string s] w fun e w' => e = .returned (.bool b) ∧ Below w.heap.size w w' := by
  have HB : Hid (signB s = b) := hb
  clear hb
  go_enter Tryz.func154, Tryz.ntmps154
  go_wp2_with fail
  refine (signs_spec w).mono ?_
  rintro e w1 ⟨g, rfl, hst, hb1⟩
  go_wp2_with fail
  refine (at_specT 4 _ _ signW rfl s _ hst (by unfold maxLen; omega)).mono ?_
  rintro e w2 ⟨r, rfl, hat, hb2⟩
  have hx := chain hb1 hb2
  have hrr := hat.neg
  by_cases hr : 0 ≤ r
  · have hin : inB signW s = true := inB_iff.2 (hrr.1 hr)
    obtain rfl : b = true := by rw [← HB.out]; unfold signB; rw [hin, Bool.true_or]
    clear hat hst hrr
    go_wp2
    go_ret
    exact ⟨rfl, hx⟩
  · have hin : inB signW s = false := inB_no.2 (fun h => hr (hrr.2 h))
    have HB2 : Hid (inB signO s = b) := by
      have : inB signO s = b := by rw [← HB.out]; unfold signB; rw [hin, Bool.false_or]
      exact this
    have hr' : r < 0 := by omega
    clear hat hst hrr hin HB
    go_wp2_with fail
    obtain ⟨V, hV⟩ : ∃ V, V = (w2.alloc (.cells #[.string ⟨#[43]⟩, .string ⟨#[45]⟩, .string ⟨#[42]⟩, .string ⟨#[47]⟩, .string ⟨#[61]⟩, .string ⟨#[60]⟩, .string ⟨#[40]⟩, .string ⟨#[41]⟩] 9)) := ⟨_, rfl⟩
    rw [← hV]
    have hA : Below w2.heap.size w2 V := by rw [hV]; exact (Below.refl _ _).alloc (Nat.le_refl _) _
    have hso : StrsAt V (some ⟨w2.heap.size, 0, none⟩) signO := by
      intro j hj
      simp only [signO, List.length_cons, List.length_nil] at hj
      refine ⟨w2.heap.size, 0, rfl, by rw [hV]; simp, ?_⟩
      rw [hV]
      match j, hj with
      | 0, _ => simp [signO]
      | 1, _ => simp [signO]
      | 2, _ => simp [signO]
      | 3, _ => simp [signO]
      | 4, _ => simp [signO]
      | 5, _ => simp [signO]
      | 6, _ => simp [signO]
      | 7, _ => simp [signO]
    clear hV
    refine (at_specT 8 _ _ signO rfl s _ hso (by unfold maxLen; omega)).mono ?_
    rintro e w3 ⟨r3, rfl, hat3, hb3⟩
    have hx3 := chain (chain hx hA) hb3
    have hrr3 := hat3.neg
    cases b
    · have h3 : ¬ 0 ≤ r3 := fun h => inB_no.1 HB2.out (hrr3.1 h)
      have h3' : r3 < 0 := by omega
      clear hat3 hrr3
      go_wp2
      go_ret
      exact ⟨ret_bool (by rw [decide_eq_false (by omega), decide_eq_false (by omega)]; rfl), hx3⟩
    · have h3 : 0 ≤ r3 := hrr3.2 (inB_iff.1 HB2.out)
      clear hat3 hrr3
      go_wp2
      go_ret
      exact ⟨rfl, hx3⟩
theorem word_lit (s : ByteArray) (l : List UInt8) (b : Bool) (h : decide (s.data.toList ≠ l) = b) : (s.toList == l) = !b := by
  rw [Lib.toList_data, ← h]
  by_cases e : s.data.toList = l
  · rw [e]; simp
  · rw [decide_eq_true e]; simpa using e
set_option maxHeartbeats 1000000 in
theorem namek_spec (s : ByteArray) (w : World) (hs : s.size ≤ maxLen) (b : Bool) (hb : nameK s = b) :
    Calls Tryz.prog 48 #[.string s] w fun e w' => e = .returned (.bool b) ∧ Below w.heap.size w w' := by
  have HB : Hid (nameK s = b) := hb
  clear hb
  obtain ⟨n1, hn1⟩ : ∃ x, nameB s = x := ⟨_, rfl⟩
  have HN1 : Hid (nameB s = n1) := hn1
  go_enter Tryz.func48, Tryz.ntmps48
  go_wp2_with fail
  refine (name_spec s w hs n1 hn1).mono ?_
  rintro e w1 ⟨rfl, rfl⟩
  cases n1
  · obtain rfl : b = false := by rw [← HB.out]; unfold nameK; rw [hn1, Bool.false_and]
    clear hn1
    go_wp2
    go_ret
    exact ⟨rfl, Below.refl _ _⟩
  clear hn1
  go_wp2_with fail
  refine (signs_spec w1).mono ?_
  rintro e w2 ⟨g, rfl, hst, hb2⟩
  go_wp2_with fail
  refine (at_specT 4 _ _ signW rfl s _ hst (by unfold maxLen; omega)).mono ?_
  rintro e w3 ⟨r, rfl, hat, hb3⟩
  have hx := chain hb2 hb3
  have hrr := hat.neg
  by_cases hr : 0 ≤ r
  · have hin : inB signW s = true := inB_iff.2 (hrr.1 hr)
    obtain rfl : b = false := by rw [← HB.out]; unfold nameK; rw [HN1.out, hin]; rfl
    have hr' : ¬ r < 0 := by omega
    clear hat hst hrr
    go_wp2
    go_ret
    exact ⟨rfl, hx⟩
  · have hin : inB signW s = false := inB_no.2 (fun h => hr (hrr.2 h))
    have HB2 : Hid ((decide (s.data.toList ≠ wNone) && (decide (s.data.toList ≠ wYes) && decide (s.data.toList ≠ wNo))) = b) := by
      have : (decide (s.data.toList ≠ wNone) && (decide (s.data.toList ≠ wYes) && decide (s.data.toList ≠ wNo))) = b := by
        rw [← HB.out]; unfold nameK; rw [HN1.out, hin]; rfl
      exact this
    have hr' : r < 0 := by omega
    obtain ⟨b1, h1⟩ : ∃ x, decide (s.data.toList ≠ wNone) = x := ⟨_, rfl⟩
    obtain ⟨b2, h2⟩ : ∃ x, decide (s.data.toList ≠ wYes) = x := ⟨_, rfl⟩
    obtain ⟨b3, h3⟩ : ∃ x, decide (s.data.toList ≠ wNo) = x := ⟨_, rfl⟩
    have e1 := word_lit s wNone b1 h1
    have e2 := word_lit s wYes b2 h2
    have e3 := word_lit s wNo b3 h3
    have HBB : Hid ((b1 && (b2 && b3)) = b) := by
      have : (b1 && (b2 && b3)) = b := by rw [← HB2.out, h1, h2, h3]
      exact this
    unfold wNone at e1
    unfold wYes at e2
    unfold wNo at e3
    clear hat hst hrr hin HB HB2 h1 h2 h3
    cases b1
    · obtain rfl : false = b := HBB.out
      go_wp2
      go_ret
      exact ⟨rfl, hx⟩
    cases b2
    · obtain rfl : false = b := HBB.out
      go_wp2
      go_ret
      exact ⟨rfl, hx⟩
    cases b3
    · obtain rfl : false = b := HBB.out
      go_wp2
      go_ret
      exact ⟨rfl, hx⟩
    · obtain rfl : true = b := HBB.out
      go_wp2
      go_ret
      exact ⟨rfl, hx⟩
theorem zeroC_same (c : CK) (b : Bool) (h : decide (c = zeroC) = b) : sameB c.1 c.2.1 c.2.2 0 0 ⟨#[]⟩ = b := by
  rw [← h]
  rw [Bool.eq_iff_iff, sameB_eq, decide_eq_true_eq]
  obtain ⟨x, y, z⟩ := c
  unfold zeroC
  simp
set_option maxHeartbeats 2000000 in
theorem tok_spec (t : TT) (w : World) (h1 : t.2.1.size ≤ maxLen) (h2 : t.2.2.2.2.size ≤ maxLen) (b : Bool) (hb : tokB t = b) :
    Calls Tryz.prog 123 #[.agg #[.int .i64 t.1, .string t.2.1, .int .i64 t.2.2.1, .int .i64 t.2.2.2.1, .string t.2.2.2.2]] w fun e w' => e = .returned (.bool b) ∧ Below w.heap.size w w' := by
  obtain ⟨k, s, ck, cn, ct⟩ := t
  dsimp only at h1 h2 ⊢
  have hA : Below w.heap.size w (w.alloc (.cells #[.int .i64 k, .string s, .int .i64 ck, .int .i64 cn, .string ct] 105)) := (Below.refl _ _).alloc (Nat.le_refl _) _
  by_cases k1 : k = 1
  · subst k1
    rw [tokB_1] at hb
    obtain ⟨b1, e1⟩ : ∃ x, nameK s = x := ⟨_, rfl⟩
    obtain ⟨b2, e2⟩ : ∃ x, decide ((ck, cn, ct) = zeroC) = x := ⟨_, rfl⟩
    rw [e1, e2] at hb
    have hz := zeroC_same (ck, cn, ct) b2 e2
    dsimp only at hz
    have hq := fun w' => run_eql ck cn ct 0 0 ⟨#[]⟩ w'
    rw [hz] at hq
    have E1 : Hid (nameK s = b1) := e1
    clear e1 e2 hz
    cases b1
    · obtain rfl : false = b := hb
      go_enter Tryz.func123, Tryz.ntmps123
      go_wp2_with fail
      refine (namek_spec s _ h1 false E1.out).mono ?_
      rintro e w1 ⟨rfl, hb1⟩
      have hx := chain hA hb1
      go_wp2
      go_ret
      exact ⟨rfl, hx⟩
    · obtain rfl : b2 = b := hb
      go_enter Tryz.func123, Tryz.ntmps123
      go_wp2_with fail
      refine (namek_spec s _ h1 true E1.out).mono ?_
      rintro e w1 ⟨rfl, hb1⟩
      have hx := chain hA hb1
      obtain ⟨hc, hf⟩ := bcell hb1
      have c2 : w1.cell? ⟨w.heap.size, 2, none⟩ = some (.int .i64 ck) := by rw [hc _ _ (by simp)]; simp
      have c3 : w1.cell? ⟨w.heap.size, 3, none⟩ = some (.int .i64 cn) := by rw [hc _ _ (by simp)]; simp
      have c4 : w1.cell? ⟨w.heap.size, 4, none⟩ = some (.string ct) := by rw [hc _ _ (by simp)]; simp
      clear hc hf
      go_wp2
      go_ret
      exact ⟨rfl, hx⟩
  by_cases k2 : k = 2
  · subst k2
    rw [tokB_2] at hb
    obtain ⟨b1, e1⟩ : ∃ x, okC (ck, cn, ct) = x := ⟨_, rfl⟩
    obtain ⟨b2, e2⟩ : ∃ x, decide (s = ⟨#[]⟩) = x := ⟨_, rfl⟩
    rw [e1, e2] at hb
    have hq : (s.toList == []) = b2 := by
      rw [← e2]
      by_cases e : s = ⟨#[]⟩
      · rw [decide_eq_true e, e]; simp [Lib.toList_data]
      · rw [decide_eq_false e]
        have := txt_other e
        rw [show (⟨#[]⟩ : ByteArray).toList = [] from by rw [Lib.toList_data]] at this
        exact this
    have E1 : Hid (okB ck cn ct = b1) := e1
    clear e1 e2
    cases b1
    · obtain rfl : false = b := hb
      go_enter Tryz.func123, Tryz.ntmps123
      go_wp2_with fail
      refine (ok_specb ck cn ct false E1.out _ h2).mono ?_
      rintro e w1 ⟨rfl, hb1⟩
      have hx := chain hA hb1
      go_wp2
      go_ret
      exact ⟨rfl, hx⟩
    · obtain rfl : b2 = b := hb
      go_enter Tryz.func123, Tryz.ntmps123
      go_wp2_with fail
      refine (ok_specb ck cn ct true E1.out _ h2).mono ?_
      rintro e w1 ⟨rfl, hb1⟩
      have hx := chain hA hb1
      obtain ⟨hc, hf⟩ := bcell hb1
      have c1 : w1.cell? ⟨w.heap.size, 1, none⟩ = some (.string s) := by rw [hc _ _ (by simp)]; simp
      clear hc hf
      go_wp2
      go_ret
      exact ⟨rfl, hx⟩
  by_cases k3 : k = 3
  · subst k3
    rw [tokB_3] at hb
    obtain ⟨b1, e1⟩ : ∃ x, signB s = x := ⟨_, rfl⟩
    obtain ⟨b2, e2⟩ : ∃ x, decide ((ck, cn, ct) = zeroC) = x := ⟨_, rfl⟩
    rw [e1, e2] at hb
    have hz := zeroC_same (ck, cn, ct) b2 e2
    dsimp only at hz
    have hq := fun w' => run_eql ck cn ct 0 0 ⟨#[]⟩ w'
    rw [hz] at hq
    have E1 : Hid (signB s = b1) := e1
    clear e1 e2 hz
    cases b1
    · obtain rfl : false = b := hb
      go_enter Tryz.func123, Tryz.ntmps123
      go_wp2_with fail
      refine (sign_spec s _ false E1.out).mono ?_
      rintro e w1 ⟨rfl, hb1⟩
      have hx := chain hA hb1
      go_wp2
      go_ret
      exact ⟨rfl, hx⟩
    · obtain rfl : b2 = b := hb
      go_enter Tryz.func123, Tryz.ntmps123
      go_wp2_with fail
      refine (sign_spec s _ true E1.out).mono ?_
      rintro e w1 ⟨rfl, hb1⟩
      have hx := chain hA hb1
      obtain ⟨hc, hf⟩ := bcell hb1
      have c2 : w1.cell? ⟨w.heap.size, 2, none⟩ = some (.int .i64 ck) := by rw [hc _ _ (by simp)]; simp
      have c3 : w1.cell? ⟨w.heap.size, 3, none⟩ = some (.int .i64 cn) := by rw [hc _ _ (by simp)]; simp
      have c4 : w1.cell? ⟨w.heap.size, 4, none⟩ = some (.string ct) := by rw [hc _ _ (by simp)]; simp
      clear hc hf
      go_wp2
      go_ret
      exact ⟨rfl, hx⟩
  · have hbf : b = false := by
      rw [← hb]; unfold tokB; dsimp only; rw [if_neg k1, if_neg k2, if_neg k3]
    subst hbf
    clear hb
    go_enter Tryz.func123, Tryz.ntmps123
    go_wp2
    go_ret
    exact ⟨rfl, hA⟩
end Go.Proofs.YtmmandkellhbeaaGreatDoor

/-
  The contract of the model's TextOf.
-/
namespace Go.Proofs.YtmmandkellhbeaaGreatDoor
open Go.ChangeShapes Go.WideShapes Go.ChangeAt Go.RowKit
attribute [local go_sem ↓] Go.wp_at_zero Go.wp_at_succ
attribute [local simp] World.cell?_alloc_past World.cell?_alloc_at World.frozen?_alloc_at cell_far cell_off cell_here World.frozen?_alloc_past

theorem tokT_len {t : TT} (ht : tokB t = true) : (tokT t).length ≤ 14 := by
  rcases tokB_kind ht with ⟨s, rfl, hn⟩ | ⟨c, rfl, hc⟩ | ⟨s, rfl, hs⟩
  · unfold nameK nameB at hn
    simp only [Bool.and_eq_true, Bool.not_eq_true', decide_eq_true_eq] at hn
    obtain ⟨⟨h1, h2, h3⟩, _⟩ := hn
    rw [tokT_1, ← Lib.size_eq]
    omega
  · rw [tokT_2]
    obtain ⟨k, n, x⟩ := c
    exact l4T_len hc
  · rw [tokT_3]
    unfold signB at hs
    rw [Bool.or_eq_true] at hs
    rcases hs with hs | hs
    · have hm := inB_iff.1 hs
      simp only [signW, List.mem_cons, List.not_mem_nil, or_false] at hm
      rcases hm with rfl | rfl | rfl | rfl <;> decide
    · have hm := inB_iff.1 hs
      simp only [signO, List.mem_cons, List.not_mem_nil, or_false] at hm
      rcases hm with rfl | rfl | rfl | rfl | rfl | rfl | rfl | rfl <;> decide
def textsK (l : List TT) : List ByteArray := l.map fun t => ⟨(tokT t).toArray⟩
theorem textsK_snoc (l : List TT) (k : Nat) (h : k < l.length) : textsK (l.take (k + 1)) = textsK (l.take k) ++ [⟨(tokT l[k]).toArray⟩] := by
  unfold textsK; rw [List.take_succ_eq_append_getElem h, List.map_append]; rfl
theorem rawT_textsK (l : List TT) : rawT (textsK l) = l.map tokT := by
  unfold rawT textsK; rw [List.map_map]; rfl
theorem toksT_texts {l : List TT} (h : l.all tokB = true) : toksT l = ⟨(Lib.join (rawT (textsK l)) [32]).toArray⟩ := by
  unfold toksT; rw [if_pos h, rawT_textsK]
theorem textsK_14 {l : List TT} (h : l.all tokB = true) : ∀ x ∈ textsK l, x.size ≤ 14 := by
  intro x hx
  unfold textsK at hx
  obtain ⟨c, hc, rfl⟩ := List.mem_map.1 hx
  rw [Lib.size_eq, bytes_mk]
  exact tokT_len (List.all_eq_true.1 h c hc)
theorem textsK_length (l : List TT) : (textsK l).length = l.length := by unfold textsK; rw [List.length_map]
theorem allK_snoc (l : List TT) (k : Nat) (h : k < l.length) : (l.take (k + 1)).all tokB = ((l.take k).all tokB && tokB l[k]) := by
  rw [List.take_succ_eq_append_getElem h, List.all_append]; simp
end Go.Proofs.YtmmandkellhbeaaGreatDoor

/-
  The text of a sum without any program: a pile of texts, item by item, and the text of its tree.
-/
namespace Go.Proofs.YtmmandkellhbeaaGreatDoor

def bytesOf (l : List UInt8) : ByteArray := ⟨l.toArray⟩
/-- The text of one alone. -/
def leafX (x : TI) : ByteArray := bytesOf (tokT (tkOf x))
def oneX (k : Int) (s : ByteArray) : ByteArray := bytesOf (40 :: ((sgn k).data.toList ++ 32 :: (s.data.toList ++ [41])))
def twoX (k : Int) (s u : ByteArray) : ByteArray := bytesOf (40 :: (s.data.toList ++ 32 :: ((sgn k).data.toList ++ 32 :: (u.data.toList ++ [41]))))
/-- One item more: the pile of texts, the last one at the end. -/
def showStep (P : List ByteArray) (x : TI) : List ByteArray :=
  if needsI x.1 = 0 then P ++ [leafX x]
  else if needsI x.1 = 1 then P.set (P.length - 1) (oneX x.1 (P.getD (P.length - 1) ⟨#[]⟩))
  else (P.set (P.length - 2) (twoX x.1 (P.getD (P.length - 2) ⟨#[]⟩) (P.getD (P.length - 1) ⟨#[]⟩))).take (P.length - 1)
def showP (l : List TI) (P : List ByteArray) : List ByteArray := l.foldl showStep P
theorem showP_nil (P : List ByteArray) : showP [] P = P := rfl
theorem showP_append (l m : List TI) (P : List ByteArray) : showP (l ++ m) P = showP m (showP l P) := List.foldl_append
theorem showP_one (x : TI) (P : List ByteArray) : showP [x] P = showStep P x := rfl
theorem needs_012 (k : Int) : needsI k = 0 ∨ needsI k = 1 ∨ needsI k = 2 := by
  unfold needsI
  split
  · exact .inl rfl
  · split
    · exact .inr (.inl rfl)
    · exact .inr (.inr rfl)
theorem showStep_len (P : List ByteArray) (x : TI) (h : needsI x.1 ≤ P.length) : (showStep P x).length = P.length + 1 - needsI x.1 := by
  unfold showStep
  rcases needs_012 x.1 with e | e | e
  · rw [if_pos e, e, List.length_append]; rfl
  · rw [if_neg (by omega), if_pos e, List.length_set, e]; omega
  · rw [if_neg (by omega), if_neg (by omega), List.length_take, List.length_set, e]
    omega
theorem showP_len : ∀ (l : List TI) (P : List ByteArray) (m : Nat), heapN l P.length = some m → (showP l P).length = m
  | [], P, m, h => by simp only [heapN, Option.some.injEq] at h; exact h
  | x :: l, P, m, h => by
    unfold heapN at h
    split at h
    · rename_i hc
      show (showP l (showStep P x)).length = m
      exact showP_len l _ m (by rw [showStep_len P x hc.2]; exact h)
    · cases h
theorem heapN_le : ∀ (l : List TI) (n m : Nat), heapN l n = some m → m ≤ n + l.length
  | [], n, m, h => by simp only [heapN, Option.some.injEq] at h; simp; omega
  | x :: l, n, m, h => by
    unfold heapN at h
    split at h
    · have := heapN_le l _ m h
      simp only [List.length_cons]
      omega
    · cases h
/-- A sum's pile on the way. -/
theorem heapN_take {l : List TI} {m : Nat} (h : heapN l 0 = some m) (k : Nat) (hk : k < l.length) : ∃ p, heapN (l.take k) 0 = some p ∧ itemB l[k] = true ∧ needsI l[k].1 ≤ p := by
  have e : l = l.take k ++ (l[k] :: l.drop (k + 1)) := by
    rw [← List.drop_eq_getElem_cons hk, List.take_append_drop]
  rw [e, heapN_append] at h
  cases hp : heapN (l.take k) 0 with
  | none => rw [hp] at h; cases h
  | some p =>
    rw [hp] at h
    simp only [Option.bind_some] at h
    unfold heapN at h
    split at h
    · rename_i hc
      exact ⟨p, rfl, hc.1, hc.2⟩
    · cases h
theorem needs_op1 {k : Int} (h : k = 11 ∨ k = 12) : needsI k = 1 := by rcases h with rfl | rfl <;> rfl
theorem needs_op2 {k : Int} (h : 3 ≤ k ∧ k ≤ 10) : needsI k = 2 := by unfold needsI; rw [if_neg (by omega), if_neg (by omega)]
theorem needs_leaf {k : Int} (h : k = 1 ∨ k = 2) : needsI k = 0 := by rcases h with rfl | rfl <;> rfl
/-- The pile of a tree is its text. -/
theorem showP_tree {t : Tr} (h : t.ok) : ∀ P, showP t.post P = P ++ [bytesOf t.text] := by
  induction t with
  | leaf x =>
    intro P
    simp only [Tr.post, Tr.text]
    rw [showP_one]
    unfold showStep
    rw [if_pos (needs_leaf h.2)]
    rfl
  | one k t ih =>
    intro P
    simp only [Tr.post, Tr.text]
    rw [showP_append, ih h.2, showP_one]
    unfold showStep
    rw [show (opI k).1 = k from rfl, needs_op1 h.1, if_neg (by decide), if_pos rfl]
    simp only [List.length_append, List.length_singleton, Nat.add_sub_cancel]
    rw [List.set_append_right _ _ (Nat.le_refl _), Nat.sub_self]
    simp [List.getD, oneX, bytesOf]
  | two k a b iha ihb =>
    intro P
    simp only [Tr.post, Tr.text]
    rw [showP_append, iha h.2.1, showP_append, ihb h.2.2, showP_one]
    unfold showStep
    rw [show (opI k).1 = k from rfl, needs_op2 h.1, if_neg (by decide), if_neg (by decide)]
    have e1 : (P ++ [bytesOf a.text] ++ [bytesOf b.text]).length = P.length + 2 := by simp
    rw [e1, show P.length + 2 - 2 = P.length by omega, show P.length + 2 - 1 = P.length + 1 by omega]
    have g1 : (P ++ [bytesOf a.text] ++ [bytesOf b.text]).getD P.length ⟨#[]⟩ = bytesOf a.text := by simp [List.getD]
    have g2 : (P ++ [bytesOf a.text] ++ [bytesOf b.text]).getD (P.length + 1) ⟨#[]⟩ = bytesOf b.text := by simp [List.getD]
    rw [g1, g2, List.append_assoc, List.set_append_right _ _ (Nat.le_refl _), Nat.sub_self]
    rw [List.take_append, show P.length + 1 - P.length = 1 by omega, List.take_of_length_le (by omega)]
    rfl
/-- All bytes of a pile. -/
def sizesP (P : List ByteArray) : Nat := (P.map ByteArray.size).sum
theorem bytesOf_size (l : List UInt8) : (bytesOf l).size = l.length := rfl
theorem sizesP_append (P R : List ByteArray) : sizesP (P ++ R) = sizesP P + sizesP R := by unfold sizesP; rw [List.map_append, List.sum_append]
theorem sizesP_one (u : ByteArray) : sizesP [u] = u.size := by simp [sizesP]
theorem sizesP_get (P : List ByteArray) (m : Nat) (h : m < P.length) : P[m].size ≤ sizesP P := by
  have e : P = P.take m ++ (P[m] :: P.drop (m + 1)) := by rw [← List.drop_eq_getElem_cons h, List.take_append_drop]
  have h2 : sizesP P = sizesP (P.take m) + (sizesP [P[m]] + sizesP (P.drop (m + 1))) := by
    conv => lhs; rw [e]
    rw [sizesP_append, ← sizesP_append [P[m]]]; rfl
  rw [sizesP_one] at h2
  omega
theorem sgn_size (k : Int) : (sgn k).size ≤ 5 := by
  unfold sgn
  repeat' split
  all_goals decide
theorem snoc_of {P : List ByteArray} {m : Nat} (h : P.length = m + 1) : ∃ R u, P = R ++ [u] ∧ R.length = m := by
  rcases List.eq_nil_or_concat P with rfl | ⟨R, u, e⟩
  · simp at h
  · rw [List.concat_eq_append] at e
    subst e
    exact ⟨R, u, rfl, by simpa using h⟩
theorem showStep_one {R : List ByteArray} {u : ByteArray} {x : TI} (h : needsI x.1 = 1) : showStep (R ++ [u]) x = R ++ [oneX x.1 u] := by
  unfold showStep
  rw [h, if_neg (by decide), if_pos rfl]
  simp only [List.length_append, List.length_singleton, Nat.add_sub_cancel]
  rw [List.set_append_right _ _ (Nat.le_refl _), Nat.sub_self]
  simp [List.getD]
theorem showStep_two {R : List ByteArray} {u v : ByteArray} {x : TI} (h : needsI x.1 = 2) : showStep (R ++ [u] ++ [v]) x = R ++ [twoX x.1 u v] := by
  unfold showStep
  rw [h, if_neg (by decide), if_neg (by decide)]
  have e1 : (R ++ [u] ++ [v]).length = R.length + 2 := by simp
  rw [e1, show R.length + 2 - 2 = R.length by omega, show R.length + 2 - 1 = R.length + 1 by omega]
  have g1 : (R ++ [u] ++ [v]).getD R.length ⟨#[]⟩ = u := by simp [List.getD]
  have g2 : (R ++ [u] ++ [v]).getD (R.length + 1) ⟨#[]⟩ = v := by simp [List.getD]
  rw [g1, g2, List.append_assoc, List.set_append_right _ _ (Nat.le_refl _), Nat.sub_self]
  rw [List.take_append, show R.length + 1 - R.length = 1 by omega, List.take_of_length_le (by omega)]
  rfl
theorem leafX_size {x : TI} (h : itemB x = true) (h0 : needsI x.1 = 0) : (x.1 = 1 ∨ x.1 = 2) ∧ (leafX x).size ≤ 14 := by
  have hx : x.1 = 1 ∨ x.1 = 2 := by
    by_cases h1 : x.1 = 1
    · exact .inl h1
    by_cases h2 : x.1 = 2
    · exact .inr h2
    have := item_op h h1 h2
    unfold needsI at h0
    rw [if_neg (by omega)] at h0
    split at h0 <;> cases h0
  exact ⟨hx, tokT_len (tkOf_ok h hx)⟩
theorem showStep_size {P : List ByteArray} {x : TI} (h : itemB x = true) (hn : needsI x.1 ≤ P.length) : sizesP (showStep P x) ≤ sizesP P + 14 := by
  rcases needs_012 x.1 with e | e | e
  · unfold showStep
    rw [if_pos e, sizesP_append, sizesP_one]
    have := (leafX_size h e).2
    omega
  · obtain ⟨m, hm⟩ : ∃ m, P.length = m + 1 := ⟨P.length - 1, by omega⟩
    obtain ⟨R, u, rfl, _⟩ := snoc_of hm
    rw [showStep_one e, sizesP_append, sizesP_one, sizesP_append, sizesP_one]
    have := sgn_size x.1
    rw [Lib.size_eq] at this
    unfold oneX
    rw [bytesOf_size]
    simp only [List.length_cons, List.length_append, List.length_nil]
    rw [← Lib.size_eq u]
    omega
  · obtain ⟨m, hm⟩ : ∃ m, P.length = m + 1 + 1 := ⟨P.length - 2, by omega⟩
    obtain ⟨R, v, rfl, hR⟩ := snoc_of hm
    obtain ⟨R, u, rfl, _⟩ := snoc_of hR
    rw [showStep_two e, sizesP_append, sizesP_one, sizesP_append, sizesP_append, sizesP_one, sizesP_one]
    have := sgn_size x.1
    rw [Lib.size_eq] at this
    unfold twoX
    rw [bytesOf_size]
    simp only [List.length_cons, List.length_append, List.length_nil]
    rw [← Lib.size_eq u, ← Lib.size_eq v]
    omega
/-- The text of a sum; empty where it is none. -/
def sumT (l : List TI) : ByteArray := if sumB l = true then (showP l []).headD ⟨#[]⟩ else ⟨#[]⟩
theorem sumT_tree {t : Tr} (h : t.ok) (hs : sumB t.post = true) : sumT t.post = bytesOf t.text := by
  unfold sumT
  rw [if_pos hs, showP_tree h []]
  rfl
end Go.Proofs.YtmmandkellhbeaaGreatDoor

/-
  Sieves without any program: right sieves, questions, their texts, what a text is read as, and that a question is read from its text.
-/
namespace Go.Proofs.YtmmandkellhbeaaGreatDoor

/-- A sieve. -/
structure SV where
  kind : Int
  name : ByteArray
  names : List ByteArray
  sum : List TI
  down : Bool
  count : Int
  skip : Int
def nameS (k : Int) : Bool := k == 1 || k == 3 || k == 5 || k == 6 || k == 8
def sumS (k : Int) : Bool := k == 2 || k == 3 || k == 5 || k == 6
def listS (k : Int) : Bool := k == 4 || k == 7
/-- Nothing but what its kind tells. -/
def bareB (s : SV) : Bool :=
  ((nameS s.kind || decide (s.name = ⟨#[]⟩)) && ((sumS s.kind || s.sum.isEmpty) && (listS s.kind || s.names.isEmpty)))
  && (((!s.down || s.kind == 8) && (s.kind == 9 || (s.count == 0 && s.skip == 0)))
  && ((!nameS s.kind || nameK s.name) && (!sumS s.kind || sumB s.sum)))
def names10 (l : List ByteArray) (lo hi : Int) : Bool := l.all nameK && namesB l lo hi
def in1000 (n : Int) : Bool := decide (0 ≤ n) && decide (n ≤ 1000)
/-- Is the sieve right? -/
def sieveB (s : SV) : Bool :=
  if s.kind = 4 then bareB s && names10 s.names 1 6 else if s.kind = 7 then bareB s && names10 s.names 0 4
  else if s.kind = 9 then bareB s && (in1000 s.count && in1000 s.skip) else (decide (1 ≤ s.kind) && decide (s.kind ≤ 10)) && bareB s
/-- Is it a question? -/
def firstB : List SV → Bool
  | [] => false
  | x :: l => x.kind == 1 && l.all (fun y => y.kind != 1)
def askB (l : List SV) : Bool := (l.all sieveB && firstB l) && decide (l.length ≤ 8)
def wordS (k : Int) : List UInt8 :=
  if k = 1 then [102, 114, 111, 109] else if k = 2 then [119, 104, 101, 114, 101] else if k = 3 then [108, 101, 116] else if k = 4 then [107, 101, 101, 112]
  else if k = 5 then [106, 111, 105, 110] else if k = 6 then [108, 101, 102, 116] else if k = 7 then [103, 114, 111, 117, 112] else if k = 8 then [111, 114, 100, 101, 114]
  else if k = 9 then [108, 105, 109, 105, 116] else [111, 110, 99, 101]
def sumL (l : List TI) : List UInt8 := (sumT l).data.toList
/-- The text of a sieve. -/
def showS (s : SV) : List UInt8 :=
  if s.kind = 1 then wordS 1 ++ 32 :: s.name.data.toList
  else if s.kind = 2 then wordS 2 ++ 32 :: sumL s.sum
  else if s.kind = 3 then wordS 3 ++ 32 :: (s.name.data.toList ++ 32 :: 61 :: 32 :: sumL s.sum)
  else if s.kind = 4 ∨ s.kind = 7 then Lib.join (wordS s.kind :: s.names.map (·.data.toList)) [32]
  else if s.kind = 5 ∨ s.kind = 6 then wordS s.kind ++ 32 :: (s.name.data.toList ++ 32 :: 111 :: 110 :: 32 :: sumL s.sum)
  else if s.kind = 8 then (if s.down = true then wordS 8 ++ 32 :: (s.name.data.toList ++ [32, 100, 111, 119, 110]) else wordS 8 ++ 32 :: s.name.data.toList)
  else if s.kind = 9 then wordS 9 ++ 32 :: (Lib.itoa s.count ++ 32 :: Lib.itoa s.skip)
  else wordS s.kind
def askT (l : List SV) : ByteArray := if askB l = true then ⟨(Lib.join (l.map showS) [32, 124, 32]).toArray⟩ else ⟨#[]⟩

/-- The words between blanks. -/
def wordsW (l : List UInt8) : List (List UInt8) := (pieces l).filter (fun p => !p.isEmpty)
/-- What stands behind so many words. -/
def restW : Nat → List UInt8 → List UInt8
  | 0, l => l
  | n + 1, l => restW n ((l.dropWhile (fun c => c == 32)).dropWhile (fun c => c != 32))
theorem pieces_blank (l : List UInt8) : pieces (32 :: l) = [] :: pieces l := by
  unfold pieces
  show (if (32 : UInt8) = 32 then _ else _) = _
  rw [if_pos rfl]
theorem pieces_word {w : List UInt8} (h : (32 : UInt8) ∉ w) (l : List UInt8) : pieces (w ++ 32 :: l) = w :: pieces l := by
  unfold pieces
  rw [cutAt_free 32 w h [] (32 :: l)]
  show (if (32 : UInt8) = 32 then _ else _) = _
  rw [if_pos rfl, List.nil_append]
theorem pieces_end {w : List UInt8} (h : (32 : UInt8) ∉ w) : pieces w = [w] := by
  unfold pieces
  have := cutAt_free 32 w h [] []
  rw [List.append_nil] at this
  rw [this]
  rfl
theorem wordsW_nil : wordsW [] = [] := rfl
theorem wordsW_blank (l : List UInt8) : wordsW (32 :: l) = wordsW l := by
  unfold wordsW
  rw [pieces_blank]
  rfl
theorem wordsW_word {w : List UInt8} (h : (32 : UInt8) ∉ w) (h0 : w ≠ []) (l : List UInt8) : wordsW (w ++ 32 :: l) = w :: wordsW l := by
  unfold wordsW
  rw [pieces_word h]
  have : (!w.isEmpty) = true := by cases w with | nil => exact absurd rfl h0 | cons a b => rfl
  rw [List.filter_cons, if_pos this]
theorem wordsW_end {w : List UInt8} (h : (32 : UInt8) ∉ w) (h0 : w ≠ []) : wordsW w = [w] := by
  unfold wordsW
  rw [pieces_end h]
  have : (!w.isEmpty) = true := by cases w with | nil => exact absurd rfl h0 | cons a b => rfl
  rw [List.filter_cons, if_pos this]
  rfl
/-- Blanks at an end: none or one. -/
def Bl (b : List UInt8) : Prop := b = [] ∨ b = [32]
theorem wordsW_last {w b : List UInt8} (h : (32 : UInt8) ∉ w) (h0 : w ≠ []) (hb : Bl b) : wordsW (w ++ b) = [w] := by
  rcases hb with rfl | rfl
  · rw [List.append_nil]; exact wordsW_end h h0
  · rw [wordsW_word h h0]; rfl
theorem wordsW_front {b : List UInt8} (hb : Bl b) (l : List UInt8) : wordsW (b ++ l) = wordsW l := by
  rcases hb with rfl | rfl
  · rfl
  · exact wordsW_blank l
theorem restW_front {b : List UInt8} (hb : Bl b) (n : Nat) (l : List UInt8) : restW (n + 1) (b ++ l) = restW (n + 1) l := by
  rcases hb with rfl | rfl
  · rfl
  · rfl
theorem dropW {w : List UInt8} (h : (32 : UInt8) ∉ w) (l : List UInt8) : (w ++ 32 :: l).dropWhile (fun c => c != 32) = 32 :: l := by
  induction w with
  | nil => rfl
  | cons a w ih =>
    have ha : (a != 32) = true := by
      simp only [List.mem_cons, not_or] at h
      simp only [bne_iff_ne, ne_eq]
      exact fun e => h.1 e.symm
    rw [List.cons_append, List.dropWhile_cons, if_pos ha]
    exact ih (fun hh => h (by simp [hh]))
theorem restW_word {w : List UInt8} (h : (32 : UInt8) ∉ w) (h0 : w ≠ []) (n : Nat) (l : List UInt8) : restW (n + 1) (w ++ 32 :: l) = restW n (32 :: l) := by
  show restW n (((w ++ 32 :: l).dropWhile (fun c => c == 32)).dropWhile (fun c => c != 32)) = _
  cases w with
  | nil => exact absurd rfl h0
  | cons a w =>
    have ha : ¬ ((a == 32) = true) := by
      simp only [List.mem_cons, not_or] at h
      simp only [beq_iff_eq]
      exact fun e => h.1 e.symm
    rw [List.cons_append, List.dropWhile_cons, if_neg ha]
    have := dropW (w := a :: w) h l
    rw [List.cons_append] at this
    rw [this]
theorem restW_blank (n : Nat) (l : List UInt8) : restW (n + 1) (32 :: l) = restW (n + 1) l := rfl
end Go.Proofs.YtmmandkellhbeaaGreatDoor
