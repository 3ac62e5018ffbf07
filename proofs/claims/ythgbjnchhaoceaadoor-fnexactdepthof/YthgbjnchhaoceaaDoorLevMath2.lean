/-
  What is read of right tokens is right items; what ReadSum answers.
-/
import Derived.Test.YthgbjnchhaoceaaDoorLevMath
namespace Go.Proofs.YthgbjnchhaoceaaDoor

theorem itemB_1 (c : CK) (s : ByteArray) : itemB (1, c, s) = (okC c && decide (s = ⟨#[]⟩)) := if_pos rfl
theorem itemB_2 (c : CK) (s : ByteArray) : itemB (2, c, s) = (nameK s && decide (c = zeroC)) := (if_neg (fun h => absurd h (by decide : ¬ (2 : Int) = 1))).trans (if_pos rfl)
theorem itmOf_ok {t : TT} (h : tokB t = true) (h3 : t.1 ≠ 3) : itemB (itmOf t) = true := by
  rcases tokB_kind h with ⟨s, rfl, hn⟩ | ⟨c, rfl, hc⟩ | ⟨s, rfl, hs⟩
  · have e : itmOf (1, s, zeroC) = (2, zeroC, s) := if_pos rfl
    rw [e, itemB_2, hn]
    simp
  · have e : itmOf (2, ⟨#[]⟩, c) = (1, c, ⟨#[]⟩) := if_neg (fun h => absurd h (by decide : ¬ (2 : Int) = 1))
    rw [e, itemB_1, hc]
    simp
  · exact absurd rfl h3
theorem itemB_fits {x : TI} (h : itemB x = true) : x.2.1.2.2.size ≤ 12 ∧ x.2.2.size ≤ 12 := by
  obtain ⟨k, c, s⟩ := x
  by_cases h1 : k = 1
  · subst h1
    rw [itemB_1, Bool.and_eq_true, decide_eq_true_eq] at h
    obtain ⟨hc, rfl⟩ := h
    obtain ⟨ck, cn, ct⟩ := c
    refine ⟨?_, Nat.zero_le _⟩
    have ho : okB ck cn ct = true := hc
    show ct.size ≤ 12
    rcases okB_kind ho with rfl | rfl | rfl | rfl
    · rw [(okB_0 ho).2]; exact Nat.zero_le _
    · rw [(okB_1 ho).2]; exact Nat.zero_le _
    · have := (okB_2 ho).2
      unfold textB at this
      rw [Bool.and_eq_true, decide_eq_true_eq] at this
      omega
    · rw [(okB_3 ho).2]; exact Nat.zero_le _
  by_cases h2 : k = 2
  · subst h2
    rw [itemB_2, Bool.and_eq_true, decide_eq_true_eq] at h
    obtain ⟨hn, rfl⟩ := h
    unfold nameK nameB at hn
    simp only [Bool.and_eq_true, Bool.not_eq_true', decide_eq_true_eq] at hn
    obtain ⟨⟨_, _, h3⟩, _⟩ := hn
    exact ⟨Nat.zero_le _, show s.size ≤ 12 by omega⟩
  · obtain ⟨_, _, e⟩ := item_op h h1 h2
    rw [e]
    exact ⟨Nat.zero_le _, Nat.zero_le _⟩
theorem sees_all {s : ByteArray} {r r1 : List TT} (h : seesT s r = some r1) (hr : r.all tokB = true) : r1.all tokB = true := by
  cases r with
  | nil => cases h
  | cons t r =>
    rw [seesT_cons] at h
    rw [List.all_cons, Bool.and_eq_true] at hr
    split at h
    · cases h; exact hr.2
    · cases h
theorem twoK_all {r r1 : List TT} {k : Int} {ks : List Int} (h : twoK r ks = some (k, r1)) (hr : r.all tokB = true) : r1.all tokB = true ∧ k ∈ ks := by
  induction ks with
  | nil => cases h
  | cons j ks ih =>
    unfold twoK at h
    cases hs : seesT (sgn j) r with
    | some r2 => rw [hs] at h; cases h; exact ⟨sees_all hs hr, by simp⟩
    | none => rw [hs] at h; obtain ⟨h1, h2⟩ := ih h; exact ⟨h1, List.mem_cons_of_mem _ h2⟩
theorem kindsL_310 (lev : Nat) : ∀ kd ∈ kindsL lev, 3 ≤ kd ∧ kd ≤ 10 := by
  intro kd h
  unfold kindsL at h
  repeat' split at h
  all_goals simp at h
  all_goals omega
theorem all_op {o : List TI} {k : Int} (h : o.all itemB = true) (h1 : 3 ≤ k) (h2 : k ≤ 12) : (o ++ [opI k]).all itemB = true := by
  rw [List.all_append, h]
  simp [itemB_op k h1 h2]
theorem levP_all : ∀ f, (∀ lev r o r', r.all tokB = true → levP f lev r = some (o, r') → o.all itemB = true ∧ r'.all tokB = true) ∧ (∀ lev o r o' r', o.all itemB = true → r.all tokB = true → tailP f lev o r = some (o', r') → o'.all itemB = true ∧ r'.all tokB = true)
  | 0 => ⟨fun lev r o r' _ h => by simp [levP] at h, fun lev o r o' r' _ _ h => by simp [tailP] at h⟩
  | f + 1 => by
    obtain ⟨ih1, ih2⟩ := levP_all f
    refine ⟨fun lev r o r' hr h => ?_, fun lev o r o' r' ho hr h => ?_⟩
    · unfold levP at h
      split at h
      · obtain ⟨p, h1, h2⟩ := Option.bind_eq_some_iff.1 h
        obtain ⟨a1, a2⟩ := ih1 _ _ _ _ hr (show levP f (lev + 1) r = some (p.1, p.2) from h1)
        exact ih2 _ _ _ _ _ a1 a2 h2
      · split at h
        · obtain ⟨p, h1, h2⟩ := Option.bind_eq_some_iff.1 h
          obtain ⟨a1, a2⟩ := ih1 _ _ _ _ hr (show levP f 4 r = some (p.1, p.2) from h1)
          cases ht : twoT 3 p.2 with
          | none =>
            rw [ht] at h2
            cases h2
            exact ⟨a1, a2⟩
          | some q =>
            obtain ⟨k, r2⟩ := q
            rw [ht] at h2
            obtain ⟨z, h3, h4⟩ := Option.map_eq_some_iff.1 h2
            cases h4
            obtain ⟨b1, b2⟩ := twoK_all ht a2
            obtain ⟨c1, c2⟩ := ih1 _ _ _ _ b1 (show levP f 4 r2 = some (z.1, z.2) from h3)
            have hk := kindsL_310 3 k b2
            refine ⟨?_, c2⟩
            rw [List.all_append, a1, all_op c1 (by omega) (by omega)]
            rfl
        · split at h
          · cases hs : seesT (sgn (if lev = 2 then 11 else 12)) r with
            | some r1 =>
              rw [hs] at h
              obtain ⟨z, h3, h4⟩ := Option.map_eq_some_iff.1 h
              cases h4
              obtain ⟨c1, c2⟩ := ih1 _ _ _ _ (sees_all hs hr) (show levP f lev r1 = some (z.1, z.2) from h3)
              refine ⟨all_op c1 ?_ ?_, c2⟩ <;> split <;> decide
            | none => rw [hs] at h; exact ih1 _ _ _ _ hr h
          · cases hs : seesT ⟨#[40]⟩ r with
            | some r1 =>
              rw [hs] at h
              obtain ⟨q, h1, h2⟩ := Option.bind_eq_some_iff.1 h
              obtain ⟨z, h3, h4⟩ := Option.map_eq_some_iff.1 h2
              cases h4
              obtain ⟨c1, c2⟩ := ih1 _ _ _ _ (sees_all hs hr) (show levP f 0 r1 = some (q.1, q.2) from h1)
              exact ⟨c1, sees_all h3 c2⟩
            | none =>
              rw [hs] at h
              cases r with
              | nil => cases h
              | cons t r =>
                rw [List.all_cons, Bool.and_eq_true] at hr
                simp only [] at h
                split at h
                · cases h
                · rename_i h3
                  cases h
                  refine ⟨?_, hr.2⟩
                  rw [List.all_cons, itmOf_ok hr.1 h3]
                  rfl
    · unfold tailP at h
      cases ht : twoT lev r with
      | none => rw [ht] at h; cases h; exact ⟨ho, hr⟩
      | some q =>
        obtain ⟨k, r1⟩ := q
        rw [ht] at h
        obtain ⟨p, h1, h2⟩ := Option.bind_eq_some_iff.1 h
        obtain ⟨b1, b2⟩ := twoK_all ht hr
        obtain ⟨c1, c2⟩ := ih1 _ _ _ _ b1 (show levP f (lev + 1) r1 = some (p.1, p.2) from h1)
        have hk := kindsL_310 lev k b2
        refine ih2 _ _ _ _ _ ?_ c2 h2
        rw [List.all_append, ho, all_op c1 (by omega) (by omega)]
        rfl
theorem levR_all {lev : Nat} {r r' : List TT} {o : List TI} (hr : r.all tokB = true) (h : levR lev r = some (o, r')) : o.all itemB = true := ((levP_all _).1 _ _ _ _ hr h).1
/-- What ReadSum answers. -/
def sumR (toks : List TT) : List TI × Bool := if toks.all tokB = true then (match levR 0 toks with
    | some (o, []) => if sumB o = true then (o, true) else ([], false)
    | _ => ([], false)) else ([], false)
theorem sumR_bad {toks : List TT} (h : toks.all tokB = false) : sumR toks = ([], false) := by unfold sumR; rw [if_neg (by rw [h]; decide)]
theorem sumR_none {toks : List TT} (h : levR 0 toks = none) : sumR toks = ([], false) := by
  unfold sumR
  split
  · rw [h]
  · rfl
theorem sumR_more {toks r : List TT} {o : List TI} (h : levR 0 toks = some (o, r)) (hr : r ≠ []) : sumR toks = ([], false) := by
  unfold sumR
  split
  · rw [h]
    cases r with
    | nil => exact absurd rfl hr
    | cons t r => rfl
  · rfl
theorem sumR_end {toks : List TT} {o : List TI} (ha : toks.all tokB = true) (h : levR 0 toks = some (o, [])) : sumR toks = if sumB o = true then (o, true) else ([], false) := by
  unfold sumR
  rw [if_pos ha, h]
end Go.Proofs.YthgbjnchhaoceaaDoor
