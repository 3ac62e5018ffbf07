/-
  A part of the proof: Leap, PieceI, TokensI, BindMath, NextS, TokensS.
-/
import Derived.WalkMore
import Derived.ScopeJumps
import Derived.Test.YtfokdblojlmnlabDoorPart3
import Derived.Test.YtfokdblojlmnlabDoorPart1
import Derived.Test.YtfokdblojlmnlabDoorPart5
import Derived.Test.YtfokdblojlmnlabDoorPart6
import Derived.Test.YtfokdblojlmnlabDoorPart10
import Derived.Deep.CutBlock
import Derived.Deep.DeepCutAuto

/-
  A scope of code with several labels, to which the run may leap from anywhere inside: what holds at each label, with a number that falls at every leap.
-/
namespace Go.Proofs.YtfokdblojlmnlabDoor

/-- Leaps to a label end in J of that label; every other way out as Q has it. -/
def leaps (J : Nat → Act → World → Prop) (Q : Exit → Act → World → Prop) (e : Exit) (a : Act) (w : World) : Prop :=
  match e with
  | .goto l => J l a w
  | e => Q e a w
theorem leaps_goto {J : Nat → Act → World → Prop} {Q : Exit → Act → World → Prop} {l : Nat} {a : Act} {w : World} (h : J l a w) : leaps J Q (.goto l) a w := h
theorem leaps_ret {J : Nat → Act → World → Prop} {Q : Exit → Act → World → Prop} {a : Act} {w : World} : leaps J Q .ret a w = Q .ret a w := rfl

theorem wp_scope_leaps {P : Program} {a : Act} {w : World} {Q : Exit → Act → World → Prop} {c : Code} (J : Nat → Nat → Act → World → Prop)
    (first : c.wp P (leaps (fun l a w => ∃ n, J n l a w) Q) a w)
    (pass : ∀ n l a w, J n l a w → ∃ rest, findLabel c l = some rest ∧ rest.wp P (leaps (fun l' a' w' => ∃ m, m < n ∧ J m l' a' w') Q) a w) : (Code.scope c).wp P Q a w := by
  intro b k cs
  have land : ∀ n l a w, J n l a w → ∃ rest e a' w', findLabel c l = some rest ∧ Q e a' w' ∧ Arrives P (lone (b.at a (.code rest :: .inScope c :: k)) cs w) b k cs e a' w' := by
    intro n
    induction n using Nat.strongRecOn with
    | _ n ih =>
      intro l a w hJ
      obtain ⟨rest, hf, hw⟩ := pass n l a w hJ
      obtain ⟨e, a₁, w₁, hq, harr⟩ := hw b (.inScope c :: k) cs
      cases e with
      | goto l' =>
        obtain ⟨m, hm, hJ'⟩ := hq
        obtain ⟨rest', e₂, a₂, w₂, hf', hq₂, harr₂⟩ := ih m hm l' a₁ w₁ hJ'
        exact ⟨rest, e₂, a₂, w₂, hf, hq₂, .of_steps (harr _ (by simp [gotoIn, hf'])) harr₂⟩
      | normal => exact ⟨rest, .normal, a₁, w₁, hf, hq, Steps.trans harr (.one step_inScope)⟩
      | exit id => exact ⟨rest, .exit id, a₁, w₁, hf, hq, fun k' hk => harr k' (by simp [exitTo, hk])⟩
      | ret => exact ⟨rest, _, a₁, w₁, hf, hq, harr⟩
      | panic ch => exact ⟨rest, _, a₁, w₁, hf, hq, harr⟩
      | outgrown => exact ⟨rest, _, a₁, w₁, hf, hq, harr⟩
  obtain ⟨e, a₁, w₁, hq, harr⟩ := first b (.inScope c :: k) cs
  cases e with
  | goto l =>
    obtain ⟨n, hJ⟩ := hq
    obtain ⟨rest, e₂, a₂, w₂, hf, hq₂, harr₂⟩ := land n l a₁ w₁ hJ
    exact ⟨e₂, a₂, w₂, hq₂, .of_steps (.head step_scope (harr _ (by simp [gotoIn, hf]))) harr₂⟩
  | normal => exact ⟨.normal, a₁, w₁, hq, .head step_scope (Steps.trans harr (.one step_inScope))⟩
  | exit id => exact ⟨.exit id, a₁, w₁, hq, fun k' hk => .head step_scope (harr k' (by simp [exitTo, hk]))⟩
  | ret => exact ⟨_, a₁, w₁, hq, .of_steps (.one step_scope) harr⟩
  | panic ch => exact ⟨_, a₁, w₁, hq, .of_steps (.one step_scope) harr⟩
  | outgrown => exact ⟨_, a₁, w₁, hq, .of_steps (.one step_scope) harr⟩
end Go.Proofs.YtfokdblojlmnlabDoor

/-
  The contracts of the program's cutting of a text: the bytes told apart, and the place behind the longest piece.
-/
namespace Go.Proofs.YtfokdblojlmnlabDoor
open Go.ChangeShapes Go.WideShapes Go.ChangeAt Go.RowKit
attribute [local go_sem ↓] Go.wp_at_zero Go.wp_at_succ

/-- The byte that stands there; 0 behind the end. -/
def byteN (s : ByteArray) (k : Nat) : Nat := if h : k < s.size then (s[k]'h).toNat else 0
def letN (x : Nat) : Bool := decide (97 ≤ x) && decide (x ≤ 122)
def digN (x : Nat) : Bool := decide (48 ≤ x) && decide (x ≤ 57)
def firN (x : Nat) : Bool := decide (49 ≤ x) && decide (x ≤ 57)
theorem byte_cases (s : ByteArray) (k x : Nat) (h : byteN s k = x) : (∃ c : UInt8, c.toNat = x ∧ s.data.toList.drop k = c :: s.data.toList.drop (k + 1) ∧ k < s.size) ∨ (x = 0 ∧ s.data.toList.drop k = [] ∧ s.size ≤ k) := by
  unfold byteN at h
  split at h
  · rename_i hk
    refine .inl ⟨s[k], h, ?_, hk⟩
    rw [List.drop_eq_getElem_cons (by simpa using hk)]; rfl
  · rename_i hk
    exact .inr ⟨h.symm, List.drop_eq_nil_of_le (by rw [← Lib.size_eq]; omega), by omega⟩
theorem byteN_lt (s : ByteArray) (k x : Nat) (h : byteN s k = x) : x < 256 := by
  rcases byte_cases s k x h with ⟨c, rfl, _⟩ | ⟨rfl, _⟩
  · exact c.toNat_lt
  · omega
theorem letB_N {c : UInt8} : letB c = letN c.toNat := rfl
theorem isDig_N {c : UInt8} : isDig c = digN c.toNat := rfl
theorem firstD_N {c : UInt8} : firstD c = firN c.toNat := by
  unfold firstD isDig firN
  rw [Bool.eq_iff_iff]
  simp only [Bool.and_eq_true, decide_eq_true_eq]
  omega
theorem run_yes {s : ByteArray} {k x : Nat} (h : byteN s k = x) (hx : letN x = true) : k < s.size ∧ runL (s.data.toList.drop k) = runL (s.data.toList.drop (k + 1)) + 1 := by
  rcases byte_cases s k x h with ⟨c, rfl, e, hk⟩ | ⟨rfl, _⟩
  · refine ⟨hk, ?_⟩
    rw [e]
    unfold runL
    rw [List.takeWhile_cons_of_pos (by rw [letB_N]; exact hx)]
    rfl
  · cases hx
theorem run_no {s : ByteArray} {k x : Nat} (h : byteN s k = x) (hx : letN x = false) : runL (s.data.toList.drop k) = 0 := by
  rcases byte_cases s k x h with ⟨c, rfl, e, hk⟩ | ⟨rfl, e, _⟩
  · rw [e]; exact runL_no (by rw [letB_N]; exact hx)
  · rw [e]; rfl
theorem blank_yes {s : ByteArray} {k x : Nat} (h : byteN s k = x) (hx : x = 32) : k < s.size ∧ blankL (s.data.toList.drop k) = blankL (s.data.toList.drop (k + 1)) + 1 := by
  rcases byte_cases s k x h with ⟨c, hc, e, hk⟩ | ⟨hc, _⟩
  · refine ⟨hk, ?_⟩
    rw [e]
    unfold blankL
    rw [List.takeWhile_cons_of_pos (by simp; omega)]
    rfl
  · omega
theorem blank_no {s : ByteArray} {k x : Nat} (h : byteN s k = x) (hx : ¬ x = 32) : blankL (s.data.toList.drop k) = 0 := by
  rcases byte_cases s k x h with ⟨c, hc, e, hk⟩ | ⟨rfl, e, _⟩
  · rw [e]
    unfold blankL
    rw [List.takeWhile_cons_of_neg (by simp; omega)]
    rfl
  · rw [e]; rfl
theorem num_yes {s : ByteArray} {k x v : Nat} (h : byteN s k = x) (hx : digN x = true) (hv : v * 10 + (x - 48) ≤ 1000000000) : k < s.size ∧ numL v (s.data.toList.drop k) = numL (v * 10 + (x - 48)) (s.data.toList.drop (k + 1)) + 1 := by
  rcases byte_cases s k x h with ⟨c, rfl, e, hk⟩ | ⟨rfl, _⟩
  · refine ⟨hk, ?_⟩
    rw [e, numL, if_pos ⟨by rw [isDig_N]; exact hx, hv⟩]
  · cases hx
theorem num_no {s : ByteArray} {k x v : Nat} (h : byteN s k = x) (hx : digN x = false ∨ 1000000000 < v * 10 + (x - 48)) : numL v (s.data.toList.drop k) = 0 := by
  rcases byte_cases s k x h with ⟨c, rfl, e, hk⟩ | ⟨rfl, e, _⟩
  · rw [e, numL, if_neg]
    rintro ⟨h1, h2⟩
    rcases hx with hx | hx
    · rw [isDig_N, hx] at h1; cases h1
    · omega
  · rw [e]; rfl
/-- How far a text in ' goes on. -/
def quoteL (l : List UInt8) : Nat := if (l.drop (runL l)).head? = some 39 then runL l + 1 else runL l
theorem quote_more {s : ByteArray} {k x : Nat} (h : byteN s k = x) (hx : letN x = true) : k < s.size ∧ quoteL (s.data.toList.drop k) = quoteL (s.data.toList.drop (k + 1)) + 1 := by
  obtain ⟨hk, e⟩ := run_yes h hx
  refine ⟨hk, ?_⟩
  unfold quoteL
  rw [e, List.drop_drop, List.drop_drop]
  rw [show k + (runL (s.data.toList.drop (k + 1)) + 1) = k + 1 + runL (s.data.toList.drop (k + 1)) by omega]
  split <;> rfl
theorem quote_end {s : ByteArray} {k x : Nat} (h : byteN s k = x) (hx : letN x = false) (h39 : x = 39) : quoteL (s.data.toList.drop k) = 1 := by
  unfold quoteL
  rw [run_no h hx, List.drop_zero]
  rcases byte_cases s k x h with ⟨c, hc, e, hk⟩ | ⟨hc, _⟩
  · rw [e, if_pos]
    rw [List.head?_cons, byteIs (hc.trans h39) (by decide)]; rfl
  · omega
theorem quote_no {s : ByteArray} {k x : Nat} (h : byteN s k = x) (hx : letN x = false) (h39 : ¬ x = 39) : quoteL (s.data.toList.drop k) = 0 := by
  unfold quoteL
  rw [run_no h hx, List.drop_zero]
  rcases byte_cases s k x h with ⟨c, hc, e, hk⟩ | ⟨rfl, e, _⟩
  · rw [e, if_neg]
    rw [List.head?_cons]
    intro e2
    injection e2 with e2
    rw [e2] at hc
    exact h39 (by rw [← hc]; rfl)
  · rw [e]; rfl
theorem minus_yes {s : ByteArray} {k x : Nat} (h : byteN s k = x) (hx : firN x = true) : k < s.size ∧ minusL (s.data.toList.drop k) = numL (x - 48) (s.data.toList.drop (k + 1)) + 2 := by
  rcases byte_cases s k x h with ⟨c, rfl, e, hk⟩ | ⟨rfl, _⟩
  · refine ⟨hk, ?_⟩
    rw [e, minusL_yes (by rw [firstD_N]; exact hx)]
  · cases hx
theorem minus_no {s : ByteArray} {k x : Nat} (h : byteN s k = x) (hx : firN x = false) : minusL (s.data.toList.drop k) = 1 := by
  refine minusL_no ?_
  rintro ⟨d, r, e, hd⟩
  rcases byte_cases s k x h with ⟨c, rfl, e2, hk⟩ | ⟨rfl, e2, _⟩
  · rw [e2] at e
    injection e with e _
    rw [← e, firstD_N, hx] at hd; cases hd
  · rw [e2] at e; cases e
/-- What begins where, by the byte there. -/
theorem piece_at {s : ByteArray} {k x : Nat} (hk : k < s.size) (h : byteN s k = x) :
    pieceL (s.data.toList.drop k) = if x = 32 then blankL (s.data.toList.drop (k + 1)) + 1 else if letN x = true then runL (s.data.toList.drop (k + 1)) + 1 else if x = 39 then quoteL (s.data.toList.drop (k + 1)) + 1 else if x = 45 then minusL (s.data.toList.drop (k + 1)) else if firN x = true then numL (x - 48) (s.data.toList.drop (k + 1)) + 1 else 1 := by
  rcases byte_cases s k x h with ⟨c, rfl, e, _⟩ | ⟨_, _, h'⟩
  · rw [e, pieceL_cons]
    unfold pieceC quoteL
    rw [← letB_N, ← firstD_N]
    congr 3
    split <;> rfl
  · omega

end Go.Proofs.YtfokdblojlmnlabDoor

/-
  The contracts of what the program reads one piece as, and a text.
-/
namespace Go.Proofs.YtfokdblojlmnlabDoor
open Go.ChangeShapes Go.WideShapes Go.ChangeAt Go.RowKit
attribute [local go_sem ↓] Go.wp_at_zero Go.wp_at_succ
attribute [local simp] World.cell?_alloc_past World.cell?_alloc_at World.frozen?_alloc_at cell_far cell_off cell_here World.frozen?_alloc_past

/-- What a piece is read as, with an answer where it is none. -/
def wordR (p : ByteArray) : TT × Bool := match wordT p with
  | some t => (t, true)
  | none => ((1, p, zeroC), false)
theorem wordR_cell {p : ByteArray} {k n : Int} {t : ByteArray} (h : readB p = some (k, n, t)) : wordR p = ((2, ⟨#[]⟩, k, n, t), true) := by unfold wordR; rw [wordT_cell h]
theorem wordR_sign {p : ByteArray} (h : readB p = none) (hs : signB p = true) : wordR p = ((3, p, zeroC), true) := by unfold wordR; rw [wordT_sign h hs]
theorem wordR_name {p : ByteArray} (h : readB p = none) (hs : signB p = false) : wordR p = ((1, p, zeroC), tokB (1, p, zeroC)) := by
  rw [tokB_1, decide_eq_true rfl, Bool.and_true]
  unfold wordR wordT
  rw [h]
  simp only []
  rw [if_neg (by rw [hs]; decide)]
  cases nameK p <;> rfl
theorem some_none {p : ByteArray} (h : (readB p).isSome = false) : readB p = none := by
  cases hr : readB p with
  | none => rfl
  | some c => rw [hr] at h; cases h

theorem box5F {w w1 : World} {a b c d e : Value} {T : TypeId} (h : Below (w.alloc (.cells #[a, b, c, d, e] T)).heap.size (w.alloc (.cells #[a, b, c, d, e] T)) w1) : ∀ o, o < 5 → w1.frozen? ⟨w.heap.size, o, none⟩ = false := by
  intro o ho
  rw [h.frozen (p := ⟨w.heap.size, o, none⟩) (by simp)]
  simp [go_sem]
/-- Five cells that were written, behind a new block. -/
theorem out5 {w : World} {b : Nat} {a0 a1 a2 a3 a4 : Value} (v0 v1 v2 v3 v4 : Value) (h : w.cell? ⟨b, 0, none⟩ = some a0 ∧ w.cell? ⟨b, 1, none⟩ = some a1 ∧ w.cell? ⟨b, 2, none⟩ = some a2 ∧ w.cell? ⟨b, 3, none⟩ = some a3 ∧ w.cell? ⟨b, 4, none⟩ = some a4 ∧ b < w.heap.size) :
    ∀ Z, Z = (((((w.setCell ⟨b, 0, none⟩ v0).setCell ⟨b, 1, none⟩ v1).setCell ⟨b, 2, none⟩ v2).setCell ⟨b, 3, none⟩ v3).setCell ⟨b, 4, none⟩ v4) → Z.cell? ⟨b, 0, none⟩ = some v0 ∧ Z.cell? ⟨b, 1, none⟩ = some v1 ∧ Z.cell? ⟨b, 2, none⟩ = some v2 ∧ Z.cell? ⟨b, 3, none⟩ = some v3 ∧ Z.cell? ⟨b, 4, none⟩ = some v4 ∧ b < Z.heap.size := by
  rintro Z rfl
  obtain ⟨h0, h1, h2, h3, h4, hb⟩ := h
  obtain ⟨f0, f1, f2, f3, f4⟩ := five v0 v1 v2 v3 v4 h0 h1 h2 h3 h4
  exact ⟨f0, f1, f2, f3, f4, by simpa using hb⟩

theorem infoTok5 : (Tryd.prog.info? 36).map (fun i => (i.zero, i.size, i.bytes)) = some (some (.agg #[.int .i64 0, .string ⟨#[]⟩, .int .i64 0, .int .i64 0, .string ⟨#[]⟩]), 5, 56) := by kernel_rfl
/-- What a text is read as. -/
def toksR (s : ByteArray) : List TT × Bool := match toksB s with
  | some l => (l, true)
  | none => ([], false)
theorem toksF_len : ∀ {n : Nat} {l : List UInt8} {ts : List TT}, toksF n l = some ts → ts.length ≤ l.length
  | _, [], ts, h => by
    simp only [toksF, Option.some.injEq] at h
    subst h; simp
  | 0, c :: l, ts, h => by simp [toksF] at h
  | n + 1, c :: l, ts, h => by
    unfold toksF at h
    split at h
    · have := toksF_len h; simp; omega
    · cases hn : nextT (c :: l) with
      | none => rw [hn] at h; cases h
      | some p =>
        obtain ⟨t, e⟩ := p
        rw [hn] at h
        simp only [] at h
        cases hr : toksF n ((c :: l).drop e) with
        | none => rw [hr] at h; cases h
        | some us =>
          rw [hr] at h
          simp only [Option.map_some, Option.some.injEq] at h
          subst h
          obtain ⟨_, he, hel, _⟩ := nextT_ok (by simp) hn
          have := toksF_len hr
          rw [List.length_drop] at this
          simp at this hel ⊢; omega
theorem toksR_len (s : ByteArray) (l : List TT) (b : Bool) (h : toksR s = (l, b)) : l.length ≤ 2000 := by
  unfold toksR at h
  cases hb : toksB s with
  | none => rw [hb] at h; injection h with e _; subst e; simp
  | some ts =>
    rw [hb] at h
    injection h with e _
    subst e
    unfold toksB at hb
    split at hb
    · have := toksF_len hb
      rw [← Lib.size_eq] at this
      omega
    · cases hb

theorem tokB_fits {x : TT} (h : tokB x = true) : x.2.1.size ≤ 12 ∧ x.2.2.2.2.size ≤ 12 := by
  rcases tokB_kind h with ⟨s, rfl, hn⟩ | ⟨⟨k, n, t⟩, rfl, hc⟩ | ⟨s, rfl, hs⟩
  · unfold nameK nameB at hn
    simp only [Bool.and_eq_true, Bool.not_eq_true', decide_eq_true_eq] at hn
    obtain ⟨⟨_, _, h3⟩, _⟩ := hn
    exact ⟨show s.size ≤ 12 by omega, Nat.zero_le _⟩
  · refine ⟨Nat.zero_le _, ?_⟩
    have ho : okB k n t = true := hc
    show t.size ≤ 12
    rcases okB_kind ho with rfl | rfl | rfl | rfl
    · rw [(okB_0 ho).2]; exact Nat.zero_le _
    · rw [(okB_1 ho).2]; exact Nat.zero_le _
    · have := (okB_2 ho).2
      unfold textB at this
      rw [Bool.and_eq_true, decide_eq_true_eq] at this
      omega
    · rw [(okB_3 ho).2]; exact Nat.zero_le _
  · have h14 : (tokT (3, s, zeroC)).length ≤ 5 := by
      rw [tokT_3]
      unfold signB at hs
      rw [Bool.or_eq_true] at hs
      rcases hs with hs | hs
      · have hm := inB_iff.1 hs
        simp only [signW, List.mem_cons, List.not_mem_nil, or_false] at hm
        rcases hm with rfl | rfl | rfl | rfl <;> decide
      · have hm := inB_iff.1 hs
        simp only [signO, List.mem_cons, List.not_mem_nil, or_false] at hm
        rcases hm with rfl | rfl | rfl | rfl | rfl | rfl | rfl | rfl <;> decide
    rw [tokT_3, ← Lib.size_eq] at h14
    exact ⟨show s.size ≤ 12 by omega, Nat.zero_le _⟩
theorem toksR_all {s : ByteArray} {l : List TT} {b : Bool} (h : toksR s = (l, b)) : l.all tokB = true := by
  unfold toksR at h
  cases hb : toksB s with
  | none => rw [hb] at h; injection h with e _; subst e; rfl
  | some ts => rw [hb] at h; injection h with e _; subst e; exact toksB_ok hb
theorem toksR_size {s : ByteArray} {l : List TT} {b : Bool} (h : toksR s = (l, b)) : l.length ≤ s.size := by
  unfold toksR at h
  cases hb : toksB s with
  | none => rw [hb] at h; injection h with e _; subst e; exact Nat.zero_le _
  | some ts =>
    rw [hb] at h
    injection h with e _
    subst e
    unfold toksB at hb
    split at hb
    · have := toksF_len hb
      rw [← Lib.size_eq] at this
      exact this
    · cases hb
/-- An answer: a list of tokens that owns its memory. -/
def AnsTok (w : World) (B : Nat) (v : Value) (l : List TT) : Prop := w.ownsRow B 36 5 v l.length (flatTok l) ∧ v ≠ .slice none 0 0
theorem ansTok_none (w : World) (B : Nat) (h : B ≤ w.heap.size) : AnsTok (w.alloc (.cells #[] 36)) B (.slice (some ⟨w.heap.size, 0, none⟩) 0 0) [] :=
  ⟨⟨rfl, .inr ⟨w.heap.size, 0, #[], rfl, h, by show (w.heap.push _)[w.heap.size]? = _; simp, Nat.le_refl _, by unfold maxLen; omega, rfl, rfl⟩⟩, by simp⟩
theorem flatTok_snoc (l : List TT) (x : TT) : flatTok (l ++ [x]) = flatTok l ++ [.int .i64 x.1, .string x.2.1, .int .i64 x.2.2.1, .int .i64 x.2.2.2.1, .string x.2.2.2.2] := by rw [flatTok_append]; rfl
/-- What is left to be read, behind what was. -/
def Rest (s : ByteArray) (k : Nat) (out : List TT) : Prop := toksL s.data.toList = (toksL (s.data.toList.drop k)).map (out ++ ·)
theorem Rest.start (s : ByteArray) : Rest s 0 [] := by
  unfold Rest
  rw [List.drop_zero]
  cases toksL s.data.toList <;> rfl
theorem Rest.done {s : ByteArray} {k : Nat} {out : List TT} (h : Rest s k out) (hk : s.size ≤ k) (hs : s.size ≤ 2000) : toksR s = (out, true) := by
  unfold Rest at h
  rw [List.drop_eq_nil_of_le (by rw [← Lib.size_eq]; exact hk), toksL_nil] at h
  unfold toksR
  rw [toksB_L hs, h]
  simp
/-- The cells of a new block behind another one. -/
theorem cells5 (w : World) (a b c d e a' b' c' d' e' : Value) : ∀ (j : Nat) u, [a', b', c', d', e'][j]? = some u → ((w.alloc (.cells #[a, b, c, d, e] 36)).alloc (.cells #[a', b', c', d', e'] 36)).cell? ((⟨w.heap.size + 1, 0, none⟩ : Addr).add j) = some u := by
  intro j u hj
  match j, hj with
  | 0, hj => simp at hj; subst hj; simp [Addr.add, go_sem]
  | 1, hj => simp at hj; subst hj; simp [Addr.add, go_sem]
  | 2, hj => simp at hj; subst hj; simp [Addr.add, go_sem]
  | 3, hj => simp at hj; subst hj; simp [Addr.add, go_sem]
  | 4, hj => simp at hj; subst hj; simp [Addr.add, go_sem]
/-- One piece. -/
theorem piece_list (s : ByteArray) (k r : Nat) (hr : k + pieceL (s.data.toList.drop k) = r) : (s.extract k r).data.toList = (s.data.toList.drop k).take (pieceL (s.data.toList.drop k)) := by
  rw [Lib.extract_data]
  congr 1
  omega
theorem piece_facts (s : ByteArray) (k r : Nat) (hk : k < s.size) (hr : k + pieceL (s.data.toList.drop k) = r) : k < r ∧ r ≤ s.size ∧ (s.extract k r).size = r - k ∧ ∃ c l, s.data.toList.drop k = c :: l ∧ (s.extract k r).extract 0 1 = ⟨#[c]⟩ := by
  have hl := piece_list s k r hr
  have e : s.data.toList.drop k = s[k] :: s.data.toList.drop (k + 1) := by rw [List.drop_eq_getElem_cons (by simpa using hk)]; rfl
  rw [e] at hr hl
  have h1 := pieceL_pos s[k] (s.data.toList.drop (k + 1))
  have h2 := pieceL_le s[k] (s.data.toList.drop (k + 1))
  have hlen : (s[k] :: s.data.toList.drop (k + 1)).length = s.size - k := by rw [← e, List.length_drop, ← Lib.size_eq]
  rw [hlen] at h2
  refine ⟨by omega, by omega, ?_, s[k], _, e, ?_⟩
  · rw [Lib.size_eq, hl, List.length_take, hlen]; omega
  · refine bytes_ext ?_
    rw [Lib.extract_data, hl]
    obtain ⟨m, hm⟩ : ∃ m, pieceL (s[k] :: s.data.toList.drop (k + 1)) = m + 1 := ⟨_, (Nat.succ_pred_eq_of_pos h1).symm⟩
    rw [hm, List.take_succ_cons]
    simp
theorem Rest.blank {s : ByteArray} {k r : Nat} {out : List TT} (h : Rest s k out) (hr : k + pieceL (s.data.toList.drop k) = r) {c : UInt8} {l : List UInt8} (e : s.data.toList.drop k = c :: l) (hc : c.toNat = 32) : Rest s r out := by
  unfold Rest at h ⊢
  rw [h, e, toksL_piece, if_pos hc, ← e, List.drop_drop, hr]
theorem Rest.word {s : ByteArray} {k r : Nat} {out : List TT} (h : Rest s k out) (hr : k + pieceL (s.data.toList.drop k) = r) {c : UInt8} {l : List UInt8} (e : s.data.toList.drop k = c :: l) (hc : ¬ c.toNat = 32) {t : TT} (ht : wordR (s.extract k r) = (t, true)) : Rest s r (out ++ [t]) := by
  unfold Rest at h ⊢
  have hl := piece_list s k r hr
  rw [e] at hl
  have hw : wordT ⟨((c :: l).take (pieceL (c :: l))).toArray⟩ = some t := by
    rw [← hl]
    unfold wordR at ht
    show wordT (s.extract k r) = some t
    cases hq : wordT (s.extract k r) with
    | none => rw [hq] at ht; injection ht with _ h2; cases h2
    | some u => rw [hq] at ht; injection ht with h1 _; rw [h1]
  rw [h, e, toksL_piece, if_neg hc, hw]
  simp only []
  rw [← e, List.drop_drop, hr, Option.map_map]
  congr 1
  funext x
  simp
theorem Rest.stop {s : ByteArray} {k r : Nat} {out : List TT} (h : Rest s k out) (hs : s.size ≤ 2000) (hr : k + pieceL (s.data.toList.drop k) = r) {c : UInt8} {l : List UInt8} (e : s.data.toList.drop k = c :: l) (hc : ¬ c.toNat = 32) {t : TT} (ht : wordR (s.extract k r) = (t, false)) : toksR s = ([], false) := by
  unfold Rest at h
  have hl := piece_list s k r hr
  rw [e] at hl
  have hw : wordT ⟨((c :: l).take (pieceL (c :: l))).toArray⟩ = none := by
    rw [← hl]
    unfold wordR at ht
    show wordT (s.extract k r) = none
    cases hq : wordT (s.extract k r) with
    | none => rfl
    | some u => rw [hq] at ht; injection ht with _ h2; cases h2
  rw [e, toksL_piece, if_neg hc, hw] at h
  unfold toksR
  rw [toksB_L hs, h]
  rfl
end Go.Proofs.YtfokdblojlmnlabDoor

/-
  Texts of sums, with and without parentheses: what they are read as, without any program.
-/
namespace Go.Proofs.YtfokdblojlmnlabDoor

/-- Are both texts read, and as the same sum? By signs that wait. -/
def alikeY (s u : ByteArray) : Bool := match toksB s, toksB u with
  | some x, some y => x.all tokB && (y.all tokB && (match runY x ([], [], false), runY y ([], [], false) with
    | some o, some p => sumB o && decide (o = p)
    | _, _ => false))
  | _, _ => false
def notY (s : ByteArray) : Bool := match toksB s with
  | some x => (runY x ([], [], false)).isNone
  | none => false
def bA : List ByteArray := [⟨#[97]⟩, ⟨#[55]⟩, ⟨#[39, 104, 97, 121, 39]⟩, ⟨#[110, 111, 110, 101]⟩, ⟨#[45, 51]⟩]
def bB : List ByteArray := [⟨#[98]⟩, ⟨#[48]⟩, ⟨#[121, 101, 115]⟩, ⟨#[108, 97, 99, 107, 115, 32, 98]⟩]
def bC : List ByteArray := [⟨#[99]⟩, ⟨#[49, 50]⟩, ⟨#[40, 97, 32, 43, 32, 49, 41]⟩]
/-- The texts without parentheses, and with them. -/
def textsB (a b c : ByteArray) : List ByteArray := [((((a ++ ⟨#[32, 43, 32]⟩) ++ b) ++ ⟨#[32, 42, 32]⟩) ++ c), ((((a ++ ⟨#[32, 45, 32]⟩) ++ b) ++ ⟨#[32, 45, 32]⟩) ++ c), ((((((a ++ ⟨#[32, 61, 32]⟩) ++ b) ++ ⟨#[32, 97, 110, 100, 32, 110, 111, 116, 32]⟩) ++ c) ++ ⟨#[32, 60, 32]⟩) ++ a), ((((a ++ ⟨#[32, 111, 114, 32]⟩) ++ b) ++ ⟨#[32, 97, 110, 100, 32]⟩) ++ c), ((((⟨#[110, 111, 116, 32]⟩ : ByteArray) ++ a) ++ ⟨#[32, 61, 32]⟩) ++ b), ((((a ++ ⟨#[32, 47, 32]⟩) ++ b) ++ ⟨#[32, 42, 32]⟩) ++ c)]
def wantsB (a b c : ByteArray) : List ByteArray := [(((((((⟨#[40]⟩ : ByteArray) ++ a) ++ ⟨#[32, 43, 32, 40]⟩) ++ b) ++ ⟨#[32, 42, 32]⟩) ++ c) ++ ⟨#[41, 41]⟩), (((((((⟨#[40, 40]⟩ : ByteArray) ++ a) ++ ⟨#[32, 45, 32]⟩) ++ b) ++ ⟨#[41, 32, 45, 32]⟩) ++ c) ++ ⟨#[41]⟩), (((((((((⟨#[40, 40]⟩ : ByteArray) ++ a) ++ ⟨#[32, 61, 32]⟩) ++ b) ++ ⟨#[41, 32, 97, 110, 100, 32, 40, 110, 111, 116, 32, 40]⟩) ++ c) ++ ⟨#[32, 60, 32]⟩) ++ a) ++ ⟨#[41, 41, 41]⟩), (((((((⟨#[40]⟩ : ByteArray) ++ a) ++ ⟨#[32, 111, 114, 32, 40]⟩) ++ b) ++ ⟨#[32, 97, 110, 100, 32]⟩) ++ c) ++ ⟨#[41, 41]⟩), (((((⟨#[40, 110, 111, 116, 32, 40]⟩ : ByteArray) ++ a) ++ ⟨#[32, 61, 32]⟩) ++ b) ++ ⟨#[41, 41]⟩), (((((((⟨#[40, 40]⟩ : ByteArray) ++ a) ++ ⟨#[32, 47, 32]⟩) ++ b) ++ ⟨#[41, 32, 42, 32]⟩) ++ c) ++ ⟨#[41]⟩)]
def noB (a c : ByteArray) : ByteArray := ((((a ++ ⟨#[32, 61, 32]⟩) ++ c) ++ ⟨#[32, 60, 32]⟩) ++ a)
def chkB (a b c : ByteArray) : Bool := (List.zipWith alikeY (textsB a b c) (wantsB a b c)).all id && (notY (noB a c) && ((textsB a b c ++ wantsB a b c).all (fun s => decide (s.size ≤ 200)) && decide ((noB a c).size ≤ 200)))
set_option maxRecDepth 100000 in
theorem chk_all : (bA.all fun a => bB.all fun b => bC.all fun c => chkB a b c) = true := by decide +kernel
theorem chk_at {a b c : ByteArray} (ha : a ∈ bA) (hb : b ∈ bB) (hc : c ∈ bC) : chkB a b c = true :=
  List.all_eq_true.1 (List.all_eq_true.1 (List.all_eq_true.1 chk_all a ha) b hb) c hc
/-- Two texts that are read as one sum. -/
theorem alike_of {s u : ByteArray} (h : alikeY s u = true) : ∃ x y o, toksR s = (x, true) ∧ toksR u = (y, true) ∧ sumR x = (o, true) ∧ sumR y = (o, true) := by
  unfold alikeY at h
  cases hs : toksB s with
  | none => rw [hs] at h; cases h
  | some x =>
    cases hu : toksB u with
    | none => rw [hs, hu] at h; cases h
    | some y =>
      rw [hs, hu] at h
      simp only [Bool.and_eq_true] at h
      obtain ⟨h1, h2, h3⟩ := h
      cases ho : runY x ([], [], false) with
      | none => rw [ho] at h3; cases h3
      | some o =>
        cases hp : runY y ([], [], false) with
        | none => rw [ho, hp] at h3; cases h3
        | some p =>
          rw [ho, hp] at h3
          simp only [Bool.and_eq_true, decide_eq_true_eq] at h3
          obtain ⟨h4, rfl⟩ := h3
          have e1 := (sumR_yes h1 ho).1
          have e2 := (sumR_yes h2 hp).1
          rw [if_pos h4] at e1 e2
          exact ⟨x, y, o, by unfold toksR; rw [hs], by unfold toksR; rw [hu], e1, e2⟩
theorem not_of {s : ByteArray} (h : notY s = true) : ∃ x, toksR s = (x, true) ∧ sumR x = ([], false) := by
  unfold notY at h
  cases hs : toksB s with
  | none => rw [hs] at h; cases h
  | some x =>
    rw [hs] at h
    refine ⟨x, by unfold toksR; rw [hs], sumR_no (fun _ => ?_)⟩
    simpa using h
end Go.Proofs.YtfokdblojlmnlabDoor

/-
  The contracts of the model's reading of tokens.
-/
namespace Go.Proofs.YtfokdblojlmnlabDoor
open Go.ChangeShapes Go.WideShapes Go.ChangeAt Go.RowKit
attribute [local go_sem ↓] Go.wp_at_zero Go.wp_at_succ
attribute [local simp] World.cell?_alloc_past World.cell?_alloc_at World.frozen?_alloc_at cell_far cell_off cell_here World.frozen?_alloc_past

theorem far_spec (s : ByteArray) (hs : s.size ≤ 2000) (k : Nat) (hk : k < s.size) (w : World) :
    Calls Tryd.prog 17 #[.string s, .int .i64 (k : Int)] w fun e w' => e = .returned (.int .i64 ((k + min 14 (s.size - k) : Nat) : Int)) ∧ w' = w := by
  by_cases h : s.size - k > 14
  · have h1 : (14 : Int) < (s.size : Int) - (k : Int) := by omega
    go_enter Tryd.func17, Tryd.ntmps17
    go_wp2
    go_ret
    exact ⟨ret_int (by omega), rfl⟩
  · have h1 : ¬ (14 : Int) < (s.size : Int) - (k : Int) := by omega
    go_enter Tryd.func17, Tryd.ntmps17
    go_wp2
    go_ret
    exact ⟨ret_int (by omega), rfl⟩
def zeroTok : TT := (0, ⟨#[]⟩, zeroC)
/-- The token that begins there, and the place behind it. -/
def nextR (s : ByteArray) (k : Nat) : TT × Nat := match nextT (s.data.toList.drop k) with
  | some (t, e) => (t, k + e)
  | none => (zeroTok, k)
/-- The block of an answer that is a token: still zero, and open. -/
def Tok5 (w : World) (B : Nat) : Prop :=
  w.cell? ⟨B, 0, none⟩ = some (.int .i64 0) ∧ w.cell? ⟨B, 1, none⟩ = some (.string ⟨#[]⟩) ∧ w.cell? ⟨B, 2, none⟩ = some (.int .i64 0) ∧ w.cell? ⟨B, 3, none⟩ = some (.int .i64 0) ∧ w.cell? ⟨B, 4, none⟩ = some (.string ⟨#[]⟩) ∧ B < w.heap.size ∧
  w.frozen? ⟨B, 0, none⟩ = false ∧ w.frozen? ⟨B, 1, none⟩ = false ∧ w.frozen? ⟨B, 2, none⟩ = false ∧ w.frozen? ⟨B, 3, none⟩ = false ∧ w.frozen? ⟨B, 4, none⟩ = false
theorem Tok5.below {w w' : World} {B : Nat} (h : Tok5 w B) (hb : Below w.heap.size w w') : Tok5 w' B := by
  obtain ⟨h0, h1, h2, h3, h4, hB, f0, f1, f2, f3, f4⟩ := h
  have key : ∀ o, w'.cell? ⟨B, o, none⟩ = w.cell? ⟨B, o, none⟩ := fun o => hb.cell (p := ⟨B, o, none⟩) hB
  have fro : ∀ o, w'.frozen? ⟨B, o, none⟩ = w.frozen? ⟨B, o, none⟩ := fun o => hb.frozen (p := ⟨B, o, none⟩) hB
  have hs := hb.size
  exact ⟨(key _).trans h0, (key _).trans h1, (key _).trans h2, (key _).trans h3, (key _).trans h4, by omega, (fro _).trans f0, (fro _).trans f1, (fro _).trans f2, (fro _).trans f3, (fro _).trans f4⟩
theorem Tok5.new (w : World) : Tok5 (w.alloc (.cells #[.int .i64 0, .string ⟨#[]⟩, .int .i64 0, .int .i64 0, .string ⟨#[]⟩] 36)) w.heap.size := by
  obtain ⟨h0, h1, h2, h3, h4, hB⟩ := box5 (w := w) (Below.refl (w.alloc (.cells #[.int .i64 0, .string ⟨#[]⟩, .int .i64 0, .int .i64 0, .string ⟨#[]⟩] 36)).heap.size (w.alloc (.cells #[.int .i64 0, .string ⟨#[]⟩, .int .i64 0, .int .i64 0, .string ⟨#[]⟩] 36)))
  have hf := box5F (w := w) (Below.refl (w.alloc (.cells #[.int .i64 0, .string ⟨#[]⟩, .int .i64 0, .int .i64 0, .string ⟨#[]⟩] 36)).heap.size (w.alloc (.cells #[.int .i64 0, .string ⟨#[]⟩, .int .i64 0, .int .i64 0, .string ⟨#[]⟩] 36)))
  exact ⟨h0, h1, h2, h3, h4, hB, hf 0 (by omega), hf 1 (by omega), hf 2 (by omega), hf 3 (by omega), hf 4 (by omega)⟩
theorem nextR_word {s : ByteArray} {k e : Nat} (h0 : 0 < runL (s.data.toList.drop k)) (he : k + runL (s.data.toList.drop k) = e) : nextR s k = if (wordR (s.extract k e)).2 = true then ((wordR (s.extract k e)).1, e) else (zeroTok, k) := by
  have hp : (⟨((s.data.toList.drop k).take (runL (s.data.toList.drop k))).toArray⟩ : ByteArray) = s.extract k e := by
    refine bytes_ext ?_
    rw [Lib.extract_data, show e - k = runL (s.data.toList.drop k) by omega]
  unfold nextR nextT
  rw [if_pos h0, hp]
  unfold wordR
  cases wordT (s.extract k e) with
  | none => simp
  | some t => simp [he]
/-- What is read where no letter stands, of at most n bytes. -/
def lngR (s : ByteArray) (k n : Nat) : TT × Nat := match longC (s.data.toList.drop k) n with
  | some (c, e) => ((2, ⟨#[]⟩, c), k + e)
  | none => if signB (s.extract k (k + 1)) = true then ((3, s.extract k (k + 1), zeroC), k + 1) else (zeroTok, k)
theorem ext_take (s : ByteArray) (k n : Nat) : (⟨((s.data.toList.drop k).take n).toArray⟩ : ByteArray) = s.extract k (k + n) := by
  refine bytes_ext ?_
  rw [Lib.extract_data, show k + n - k = n by omega]
theorem nextR_long {s : ByteArray} {k : Nat} (h0 : runL (s.data.toList.drop k) = 0) : nextR s k = lngR s k (min 14 (s.size - k)) := by
  have hl : (s.data.toList.drop k).length = s.size - k := by rw [List.length_drop, ← Lib.size_eq]
  unfold nextR nextT lngR
  rw [if_neg (by omega), hl, ext_take]
  cases longC (s.data.toList.drop k) (min 14 (s.size - k)) with
  | some x => rfl
  | none =>
    simp only []
    cases signB (s.extract k (k + 1)) <;> rfl
theorem lngR_yes {s : ByteArray} {k e : Nat} {c : CK} (h : k < e) (hr : readB (s.extract k e) = some c) : lngR s k (e - k) = ((2, ⟨#[]⟩, c), e) := by
  obtain ⟨n, rfl⟩ : ∃ n, e = k + (n + 1) := ⟨e - k - 1, by omega⟩
  unfold lngR
  rw [show k + (n + 1) - k = n + 1 by omega]
  unfold longC
  rw [ext_take, hr]
theorem lngR_no {s : ByteArray} {k e : Nat} (h : k < e) (hr : readB (s.extract k e) = none) : lngR s k (e - k) = lngR s k (e - 1 - k) := by
  obtain ⟨n, rfl⟩ : ∃ n, e = k + (n + 1) := ⟨e - k - 1, by omega⟩
  unfold lngR
  rw [show k + (n + 1) - k = n + 1 by omega, show k + (n + 1) - 1 - k = n by omega]
  conv => lhs; unfold longC
  rw [ext_take, hr]
theorem lngR_zero {s : ByteArray} {k : Nat} : lngR s k 0 = if signB (s.extract k (k + 1)) = true then ((3, s.extract k (k + 1), zeroC), k + 1) else (zeroTok, k) := by
  unfold lngR longC; rfl
theorem byte_run {s : ByteArray} {j : Nat} (hj : j < s.size) (h1 : 97 ≤ (s[j]'hj).toNat) (h2 : (s[j]'hj).toNat ≤ 122) : runL (s.data.toList.drop j) = runL (s.data.toList.drop (j + 1)) + 1 :=
  (run_yes (k := j) (x := (s[j]'hj).toNat) (by unfold byteN; rw [dif_pos hj]) (by unfold letN; simp only [Bool.and_eq_true, decide_eq_true_eq]; exact ⟨h1, h2⟩)).2
theorem byte_stop {s : ByteArray} {j : Nat} (hj : j < s.size) (h : ¬ (97 ≤ (s[j]'hj).toNat ∧ (s[j]'hj).toNat ≤ 122)) : runL (s.data.toList.drop j) = 0 :=
  run_no (k := j) (x := (s[j]'hj).toNat) (by unfold byteN; rw [dif_pos hj]) (by unfold letN; rw [Bool.eq_false_iff]; simp only [ne_eq, Bool.and_eq_true, decide_eq_true_eq]; exact h)
theorem end_stop {s : ByteArray} {j : Nat} (hj : s.size ≤ j) : runL (s.data.toList.drop j) = 0 := by
  rw [List.drop_eq_nil_of_le (by rw [← Lib.size_eq]; exact hj)]; rfl
set_option maxRecDepth 100000 in
set_option maxHeartbeats 4000000 in
theorem next_spec (s : ByteArray) (hs : s.size ≤ 2000) (k : Nat) (hk : k < s.size) (t : TT) (r : Nat) (hR : nextR s k = (t, r)) (w : World) :
    Calls Tryd.prog 9 #[.string s, .int .i64 (k : Int)] w fun e w' => e = .returned (.tuple #[.agg #[.int .i64 t.1, .string t.2.1, .int .i64 t.2.2.1, .int .i64 t.2.2.2.1, .string t.2.2.2.2], .int .i64 (r : Int)]) ∧ Below w.heap.size w w' := by
  have HR : Hid (nextR s k = (t, r)) := hR
  clear hR
  go_enter Tryd.func9, Tryd.ntmps9
  go_upto_block 0 with fail
  obtain ⟨V, hV⟩ : ∃ V, V = w.alloc (.cells #[.int .i64 0, .string ⟨#[]⟩, .int .i64 0, .int .i64 0, .string ⟨#[]⟩] 36) := ⟨_, rfl⟩
  rw [← hV]
  have hxV : Below w.heap.size w V := by rw [hV]; exact (Below.refl _ _).alloc (Nat.le_refl _) _
  have hT : Tok5 V w.heap.size := by rw [hV]; exact Tok5.new w
  obtain ⟨B, hB⟩ : ∃ B, w.heap.size = B := ⟨_, rfl⟩
  have hw : w.heap.size ≤ B := by omega
  rw [hB] at hT ⊢
  have HT : Hid (Tok5 V B) := hT
  clear hT hV hB
  obtain ⟨m, hm⟩ : ∃ m, runL (s.data.toList.drop k) = m := ⟨_, rfl⟩
  have HM : Hid (runL (s.data.toList.drop k) = m) := hm
  have hml : k + m ≤ s.size := by
    have := runL_le (s.data.toList.drop k)
    rw [List.length_drop, ← Lib.size_eq, hm] at this
    omega
  clear hm
  go_cut [6] (fun s6 wc => s6 = .int .i64 ((k + m : Nat) : Int) ∧ wc = V)
  case first =>
    go_wp2_with fail
    go_loopw [6] (fun i wr => ∃ j : Nat, k ≤ j ∧ j ≤ s.size ∧ i = .int .i64 j ∧ Hid (k + m = j + runL (s.data.toList.drop j)) ∧ wr = V) (fun i _ => s.size - (intOf i).toNat)
    case atStart => exact ⟨k, Nat.le_refl _, by omega, rfl, by have := HM.out; exact (show k + m = k + runL (s.data.toList.drop k) by omega), rfl⟩
    case round =>
      obtain ⟨j, hj0, hj1, rfl, hrun, hwr⟩ := hrel
      subst hwr
      by_cases hlt : j < s.size
      · have hi0 : (0 : Int) ≤ (j : Int) := by omega
        have hi1 : (j : Int) < (s.size : Int) := by omega
        by_cases h1 : (s[j]'hlt).toNat < 97
        · have hfin : Hid ((j : Int) = ((k + m : Nat) : Int)) := by
            have h3 := byte_stop hlt (fun h => by omega)
            have h4 := hrun.out
            exact (show (j : Int) = ((k + m : Nat) : Int) by omega)
          go_wp2
          go_meet
          exact ⟨by rw [hfin.out], rfl⟩
        by_cases h2 : 122 < (s[j]'hlt).toNat
        · have hfin : Hid ((j : Int) = ((k + m : Nat) : Int)) := by
            have h3 := byte_stop hlt (fun h => by omega)
            have h4 := hrun.out
            exact (show (j : Int) = ((k + m : Nat) : Int) by omega)
          go_wp2
          go_meet
          exact ⟨by rw [hfin.out], rfl⟩
        have hrun2 : Hid (k + m = (j + 1) + runL (s.data.toList.drop (j + 1))) := by
          have h3 := byte_run hlt (by omega) (by omega)
          have h4 := hrun.out
          exact (show k + m = (j + 1) + runL (s.data.toList.drop (j + 1)) by omega)
        go_wp2
        go_roundw
        case rel => exact ⟨j + 1, by omega, by omega, by go_num, hrun2, by first | rfl | trivial⟩
        case measure => simp [intOf]; omega
      · have hi1 : ¬ (j : Int) < (s.size : Int) := by omega
        have hfin : Hid ((j : Int) = ((k + m : Nat) : Int)) := by
          have h3 := end_stop (s := s) (j := j) (by omega)
          have h4 := hrun.out
          exact (show (j : Int) = ((k + m : Nat) : Int) by omega)
        go_wp2
        go_meet
        exact ⟨by rw [hfin.out], rfl⟩
  case rest =>
    obtain ⟨rfl, hwc⟩ := hcut
    subst hwc
    by_cases hm0 : m = 0
    · subst hm0
      have hk0 : ((k + 0 : Nat) : Int) = (k : Int) := rfl
      rw [hk0]
      clear hk0
      have hN := nextR_long (s := s) (k := k) HM.out
      obtain ⟨f, hf⟩ : ∃ f, k + min 14 (s.size - k) = f := ⟨_, rfl⟩
      have hf1 : k < f := by omega
      have hf2 : f ≤ s.size := by omega
      rw [show min 14 (s.size - k) = f - k by omega, HR.out] at hN
      have HN : Hid (lngR s k (f - k) = (t, r)) := hN.symm
      clear hN
      go_wp2_with fail
      refine (far_spec s hs k hk _).mono ?_
      rw [hf]
      rintro e0 w1 ⟨rfl, rfl⟩
      clear hf
      go_wp2_with fail
      go_loopw [6] (fun i wr => ∃ e : Nat, k ≤ e ∧ e ≤ s.size ∧ i = .int .i64 e ∧ Hid (lngR s k (e - k) = (t, r)) ∧ Hid (Tok5 wr B) ∧ Below w.heap.size w wr) (fun i _ => (intOf i).toNat)
      case atStart => exact ⟨f, by omega, hf2, rfl, HN, HT, hxV⟩
      case round =>
        obtain ⟨e, hj2, hje, rfl, hL, hT5, hxw⟩ := hrel
        have hi0 : (0 : Int) ≤ (k : Int) := by omega
        have hj1 : (e : Int) ≤ (s.size : Int) := by omega
        by_cases hke : k < e
        · have hj0 : (k : Int) < (e : Int) := by omega
          obtain ⟨p, hpe⟩ : ∃ p, s.extract k e = p := ⟨_, rfl⟩
          have hpz : p.size = e - k := by rw [← hpe, Lib.size_eq, Lib.extract_data, List.length_take, List.length_drop, ← Lib.size_eq]; omega
          have hpm : p.size ≤ 1048576 := by omega
          obtain ⟨ck, cn, ct, c, hC⟩ : ∃ a b d c, readR p = (a, b, d, c) := ⟨_, _, _, _, rfl⟩
          obtain ⟨hC1, hC2⟩ := readR_b hC
          have HC : Hid (readR p = (ck, cn, ct, c)) := hC
          have HYes : Hid (c = true → lngR s k (e - k) = ((2, ⟨#[]⟩, ck, cn, ct), e)) := by
            have : c = true → lngR s k (e - k) = ((2, ⟨#[]⟩, ck, cn, ct), e) := fun h => lngR_yes hke (by rw [hpe]; exact hC2 h)
            exact this
          have HNo : Hid (c = false → lngR s k (e - 1 - k) = (t, r)) := by
            have : c = false → lngR s k (e - 1 - k) = (t, r) := fun h => by
              rw [← lngR_no hke (by rw [hpe]; exact some_none (hC1.trans h))]
              exact hL.out
            exact this
          clear hC hC1 hC2 hpz
          go_wp2_with fail
          refine (readcell_spec p hpm _ ck cn ct c HC.out).mono ?_
          rintro e0 w2 ⟨rfl, hb2⟩
          have hx2 := chain hxw hb2
          have T2 : Hid (Tok5 w2 B) := hT5.out.below hb2
          clear hb2
          cases c
          · have T3 : Hid (Tok5 (w2.alloc (.cells #[.int .i64 ck, .int .i64 cn, .string ct] 34)) B) := T2.out.below ((Below.refl _ _).alloc (Nat.le_refl _) _)
            have hx3 := hx2.alloc hx2.size (.cells #[.int .i64 ck, .int .i64 cn, .string ct] 34)
            go_wp2_with fail
            go_roundw
            case rel => exact ⟨e - 1, by omega, by omega, by congr 1; omega, HNo.out (by trivial), T3, hx3⟩
            case measure => simp [intOf]; omega
          · have hh := hL.out
            rw [HYes.out (by trivial)] at hh
            injection hh with e1 e2
            subst e1 e2
            go_upto_region 19 with fail
            obtain ⟨V2, hV2⟩ : ∃ V2, V2 = w2.alloc (.cells #[.int .i64 ck, .int .i64 cn, .string ct] 34) := ⟨_, rfl⟩
            rw [← hV2]
            have hbV : Below w2.heap.size w2 V2 := by rw [hV2]; exact (Below.refl _ _).alloc (Nat.le_refl _) _
            obtain ⟨b0, b1, b2, _⟩ := box3 (w := w2) (w1 := V2) (a := .int .i64 ck) (b := .int .i64 cn) (c := .string ct) (T := 34) (by rw [hV2]; exact Below.refl _ _)
            have hxV2 := chain hx2 hbV
            have TV2 : Hid (Tok5 V2 B) := T2.out.below hbV
            clear hV2 hbV
            obtain ⟨a0, a1, a2, a3, a4, aB, a5, a6, a7, a8, a9⟩ := TV2.out
            go_wp2_with fail
            generalize hZ : (((((V2.setCell ⟨B, 0, none⟩ _).setCell ⟨B, 1, none⟩ _).setCell ⟨B, 2, none⟩ _).setCell ⟨B, 3, none⟩ _).setCell ⟨B, 4, none⟩ _) = Z
            obtain ⟨y0, y1, y2, y3, y4, yB⟩ := out5 _ _ _ _ _ ⟨a0, a1, a2, a3, a4, aB⟩ Z hZ.symm
            have hbZ : Below w.heap.size w Z := by rw [← hZ]; exact ((((hxV2.setCell hw _).setCell hw _).setCell hw _).setCell hw _).setCell hw _
            refine bodyPost_ret (by simp [results, Tryd.results9, go_sem, y0, y1, y2, y3, y4]; try rfl) rfl ?_
            exact ⟨rfl, hbZ⟩

        · have hee : e = k := by omega
          subst hee
          have hj0 : ¬ (e : Int) < (e : Int) := by omega
          have hn1 : (e : Int) + 1 ≤ (s.size : Int) := by omega
          have hn2 : (e : Int) ≤ (e : Int) + 1 := by omega
          have hL2 := hL.out
          rw [Nat.sub_self, lngR_zero] at hL2
          obtain ⟨q, hq⟩ : ∃ q, s.extract e (e + 1) = q := ⟨_, rfl⟩
          rw [hq] at hL2
          obtain ⟨g, hg⟩ : ∃ g, signB q = g := ⟨_, rfl⟩
          rw [hg] at hL2
          have HG : Hid (signB q = g) := hg
          have HL2 : Hid ((if g = true then ((3, q, zeroC), e + 1) else (zeroTok, e)) = (t, r)) := hL2
          clear hg hL2 hL
          go_wp2_with fail
          refine (sign_spec q _ g HG.out).mono ?_
          rintro e0 w2 ⟨rfl, hb2⟩
          have hx2 := chain hxw hb2
          have T2 : Hid (Tok5 w2 B) := hT5.out.below hb2
          clear hb2
          cases g
          · have hh := HL2.out
            rw [if_neg (by decide)] at hh
            injection hh with e1 e2
            subst e1 e2
            obtain ⟨a0, a1, a2, a3, a4, aB, a5, a6, a7, a8, a9⟩ := T2.out
            go_wp2_with fail
            generalize hZ : (((((w2.setCell ⟨B, 0, none⟩ _).setCell ⟨B, 1, none⟩ _).setCell ⟨B, 2, none⟩ _).setCell ⟨B, 3, none⟩ _).setCell ⟨B, 4, none⟩ _) = Z
            obtain ⟨y0, y1, y2, y3, y4, yB⟩ := out5 _ _ _ _ _ ⟨a0, a1, a2, a3, a4, aB⟩ Z hZ.symm
            have hbZ : Below w.heap.size w Z := by rw [← hZ]; exact ((((hx2.setCell hw _).setCell hw _).setCell hw _).setCell hw _).setCell hw _
            refine bodyPost_ret (by simp [results, Tryd.results9, go_sem, y0, y1, y2, y3, y4]; try rfl) rfl ?_
            exact ⟨rfl, hbZ⟩

          · have hh := HL2.out
            rw [if_pos rfl] at hh
            injection hh with e1 e2
            subst e1 e2
            obtain ⟨a0, a1, a2, a3, a4, aB, a5, a6, a7, a8, a9⟩ := T2.out
            go_wp2_with fail
            generalize hZ : (((((w2.setCell ⟨B, 0, none⟩ _).setCell ⟨B, 1, none⟩ _).setCell ⟨B, 2, none⟩ _).setCell ⟨B, 3, none⟩ _).setCell ⟨B, 4, none⟩ _) = Z
            obtain ⟨y0, y1, y2, y3, y4, yB⟩ := out5 _ _ _ _ _ ⟨a0, a1, a2, a3, a4, aB⟩ Z hZ.symm
            have hbZ : Below w.heap.size w Z := by rw [← hZ]; exact ((((hx2.setCell hw _).setCell hw _).setCell hw _).setCell hw _).setCell hw _
            refine bodyPost_ret (by simp [results, Tryd.results9, go_sem, y0, y1, y2, y3, y4]; try rfl) rfl ?_
            exact ⟨rfl, hbZ⟩
    · have hpos : 0 < m := by omega
      obtain ⟨e, he⟩ : ∃ e, k + m = e := ⟨_, rfl⟩
      have hN := nextR_word (s := s) (k := k) (e := e) (by rw [HM.out]; exact hpos) (by rw [HM.out]; exact he)
      obtain ⟨p, hpe⟩ : ∃ p, s.extract k e = p := ⟨_, rfl⟩
      rw [hpe] at hN
      rw [he]
      have hpz : p.size = e - k := by rw [← hpe, Lib.size_eq, Lib.extract_data, List.length_take, List.length_drop, ← Lib.size_eq]; omega
      have hpm : p.size ≤ 1048576 := by omega
      have hpM : p.size ≤ maxLen := by unfold maxLen; omega
      have hi0 : (0 : Int) ≤ (k : Int) := by omega
      have hj0 : (k : Int) < (e : Int) := by omega
      have hj2 : (k : Int) ≤ (e : Int) := by omega
      have hj1 : (e : Int) ≤ (s.size : Int) := by omega
      obtain ⟨ck, cn, ct, c, hC⟩ : ∃ a b d c, readR p = (a, b, d, c) := ⟨_, _, _, _, rfl⟩
      obtain ⟨hC1, hC2⟩ := readR_b hC
      have HC : Hid (readR p = (ck, cn, ct, c)) := hC
      obtain ⟨g, hg⟩ : ∃ g, signB p = g := ⟨_, rfl⟩
      have HG : Hid (signB p = g) := hg
      obtain ⟨q, hq⟩ : ∃ q, nameK p = q := ⟨_, rfl⟩
      have HQ : Hid (nameK p = q) := hq
      have HN : Hid (nextR s k = if (wordR p).2 = true then ((wordR p).1, e) else (zeroTok, k)) := hN
      have HC1 : Hid ((readB p).isSome = c) := hC1
      have HC2 : Hid (c = true → readB p = some (ck, cn, ct)) := hC2
      clear hC hg hq hN hC1 hC2 hpz he
      go_wp2_with fail
      refine (readcell_spec p hpm _ ck cn ct c HC.out).mono ?_
      rintro e0 w1 ⟨rfl, hb1⟩
      have hx1 := chain hxV hb1
      have T1 : Hid (Tok5 w1 B) := HT.out.below hb1
      clear hb1
      cases c
      · have hnone := some_none HC1.out
        have HNO : Hid (readB p = none) := hnone
        clear hnone
        go_wp2_with fail
        refine (sign_spec p _ g HG.out).mono ?_
        rintro e0 w2 ⟨rfl, hb2⟩
        have hx2 := chain (hx1.alloc hx1.size _) hb2
        have T2 : Hid (Tok5 w2 B) := (T1.out.below ((Below.refl _ _).alloc (Nat.le_refl _) _)).below hb2
        clear hb2
        cases g
        · go_wp2_with fail
          refine (namek_spec p _ hpM q HQ.out).mono ?_
          rintro e0 w3 ⟨rfl, hb3⟩
          have hx3 := chain hx2 hb3
          have T3 : Hid (Tok5 w3 B) := T2.out.below hb3
          clear hb3
          have htk : tokB (1, p, zeroC) = q := by rw [tokB_1, HQ.out, decide_eq_true rfl, Bool.and_true]
          have hwn : Hid (wordR p = ((1, p, zeroC), q)) := by
            have := wordR_name HNO.out HG.out
            rw [htk] at this
            exact this
          clear htk
          cases q
          · have hh := HR.out
            rw [HN.out, hwn.out, if_neg (fun h => by cases h)] at hh
            injection hh with e1 e2
            subst e1 e2
            obtain ⟨a0, a1, a2, a3, a4, aB, a5, a6, a7, a8, a9⟩ := T3.out
            go_wp2_with fail
            generalize hZ : (((((w3.setCell ⟨B, 0, none⟩ _).setCell ⟨B, 1, none⟩ _).setCell ⟨B, 2, none⟩ _).setCell ⟨B, 3, none⟩ _).setCell ⟨B, 4, none⟩ _) = Z
            obtain ⟨y0, y1, y2, y3, y4, yB⟩ := out5 _ _ _ _ _ ⟨a0, a1, a2, a3, a4, aB⟩ Z hZ.symm
            have hbZ : Below w.heap.size w Z := by rw [← hZ]; exact ((((hx3.setCell hw _).setCell hw _).setCell hw _).setCell hw _).setCell hw _
            refine bodyPost_ret (by simp [results, Tryd.results9, go_sem, y0, y1, y2, y3, y4]; try rfl) rfl ?_
            exact ⟨rfl, hbZ⟩

          · have hh := HR.out
            rw [HN.out, hwn.out, if_pos rfl] at hh
            injection hh with e1 e2
            subst e1 e2
            obtain ⟨a0, a1, a2, a3, a4, aB, a5, a6, a7, a8, a9⟩ := T3.out
            go_wp2_with fail
            generalize hZ : (((((w3.setCell ⟨B, 0, none⟩ _).setCell ⟨B, 1, none⟩ _).setCell ⟨B, 2, none⟩ _).setCell ⟨B, 3, none⟩ _).setCell ⟨B, 4, none⟩ _) = Z
            obtain ⟨y0, y1, y2, y3, y4, yB⟩ := out5 _ _ _ _ _ ⟨a0, a1, a2, a3, a4, aB⟩ Z hZ.symm
            have hbZ : Below w.heap.size w Z := by rw [← hZ]; exact ((((hx3.setCell hw _).setCell hw _).setCell hw _).setCell hw _).setCell hw _
            refine bodyPost_ret (by simp [results, Tryd.results9, go_sem, y0, y1, y2, y3, y4]; try rfl) rfl ?_
            exact ⟨rfl, hbZ⟩

        · have hh := HR.out
          rw [HN.out, wordR_sign HNO.out HG.out, if_pos rfl] at hh
          injection hh with e1 e2
          subst e1 e2
          obtain ⟨a0, a1, a2, a3, a4, aB, a5, a6, a7, a8, a9⟩ := T2.out
          go_wp2_with fail
          generalize hZ : (((((w2.setCell ⟨B, 0, none⟩ _).setCell ⟨B, 1, none⟩ _).setCell ⟨B, 2, none⟩ _).setCell ⟨B, 3, none⟩ _).setCell ⟨B, 4, none⟩ _) = Z
          obtain ⟨y0, y1, y2, y3, y4, yB⟩ := out5 _ _ _ _ _ ⟨a0, a1, a2, a3, a4, aB⟩ Z hZ.symm
          have hbZ : Below w.heap.size w Z := by rw [← hZ]; exact ((((hx2.setCell hw _).setCell hw _).setCell hw _).setCell hw _).setCell hw _
          refine bodyPost_ret (by simp [results, Tryd.results9, go_sem, y0, y1, y2, y3, y4]; try rfl) rfl ?_
          exact ⟨rfl, hbZ⟩

      · have hh := HR.out
        rw [HN.out, wordR_cell (HC2.out rfl), if_pos rfl] at hh
        injection hh with e1 e2
        subst e1 e2
        go_upto_region 8 with fail
        obtain ⟨V2, hV2⟩ : ∃ V2, V2 = w1.alloc (.cells #[.int .i64 ck, .int .i64 cn, .string ct] 34) := ⟨_, rfl⟩
        rw [← hV2]
        have hbV : Below w1.heap.size w1 V2 := by rw [hV2]; exact (Below.refl _ _).alloc (Nat.le_refl _) _
        obtain ⟨b0, b1, b2, _⟩ := box3 (w := w1) (w1 := V2) (a := .int .i64 ck) (b := .int .i64 cn) (c := .string ct) (T := 34) (by rw [hV2]; exact Below.refl _ _)
        have hxV2 := chain hx1 hbV
        have TV2 : Hid (Tok5 V2 B) := T1.out.below hbV
        clear hV2 hbV
        obtain ⟨a0, a1, a2, a3, a4, aB, a5, a6, a7, a8, a9⟩ := TV2.out
        go_wp2_with fail
        generalize hZ : (((((V2.setCell ⟨B, 0, none⟩ _).setCell ⟨B, 1, none⟩ _).setCell ⟨B, 2, none⟩ _).setCell ⟨B, 3, none⟩ _).setCell ⟨B, 4, none⟩ _) = Z
        obtain ⟨y0, y1, y2, y3, y4, yB⟩ := out5 _ _ _ _ _ ⟨a0, a1, a2, a3, a4, aB⟩ Z hZ.symm
        have hbZ : Below w.heap.size w Z := by rw [← hZ]; exact ((((hxV2.setCell hw _).setCell hw _).setCell hw _).setCell hw _).setCell hw _
        refine bodyPost_ret (by simp [results, Tryd.results9, go_sem, y0, y1, y2, y3, y4]; try rfl) rfl ?_
        exact ⟨rfl, hbZ⟩
end Go.Proofs.YtfokdblojlmnlabDoor

/-
  The contract of the model's TokensOf.
-/
namespace Go.Proofs.YtfokdblojlmnlabDoor
open Go.ChangeShapes Go.WideShapes Go.ChangeAt Go.RowKit
attribute [local go_sem ↓] Go.wp_at_zero Go.wp_at_succ

theorem Rest.one {s : ByteArray} {k : Nat} {out : List TT} (h : Rest s k out) (hk : k < s.size) (h32 : (s[k]'hk).toNat = 32) : Rest s (k + 1) out := by
  unfold Rest at h ⊢
  have e : s.data.toList.drop k = s[k] :: s.data.toList.drop (k + 1) := by rw [List.drop_eq_getElem_cons (by simpa using hk)]; rfl
  rw [h, e, byteIs h32 (by decide)]
  exact congrArg (Option.map (out ++ ·)) (toksL_blank _)
theorem Rest.next {s : ByteArray} {k : Nat} {out : List TT} (h : Rest s k out) (hs : s.size ≤ 2000) (hk : k < s.size) (h32 : ¬ (s[k]'hk).toNat = 32) {t : TT} {r : Nat} (hr : nextR s k = (t, r)) :
    (r = k ∧ toksR s = ([], false)) ∨ (k < r ∧ r ≤ s.size ∧ Rest s r (out ++ [t])) := by
  have e : s.data.toList.drop k = s[k] :: s.data.toList.drop (k + 1) := by rw [List.drop_eq_getElem_cons (by simpa using hk)]; rfl
  have hx := toksL_next s[k] (s.data.toList.drop (k + 1)) (fun e => h32 (by rw [e]; rfl))
  rw [← e] at hx
  unfold Rest at h
  unfold nextR at hr
  cases hn : nextT (s.data.toList.drop k) with
  | none =>
    rw [hn] at hr hx
    injection hr with _ h2
    refine .inl ⟨h2.symm, ?_⟩
    rw [hx] at h
    unfold toksR
    rw [toksB_L hs, h]
    rfl
  | some p =>
    obtain ⟨u, m⟩ := p
    rw [hn] at hr hx
    injection hr with h1 h2
    subst h1 h2
    obtain ⟨_, hm, hml, _⟩ := nextT_ok (by rw [e]; simp) hn
    rw [List.length_drop, ← Lib.size_eq] at hml
    refine .inr ⟨by omega, by omega, ?_⟩
    unfold Rest
    rw [h, hx]
    simp only []
    rw [List.drop_drop, Option.map_map]
    congr 1
    funext x
    simp
set_option maxRecDepth 100000 in
set_option maxHeartbeats 4000000 in
theorem tokensof_spec (s : ByteArray) (w : World) (l : List TT) (b : Bool) (hR : toksR s = (l, b)) (hm : s.size ≤ 1048576) :
    Calls Tryd.prog 6 #[.string s] w fun e w' => ∃ v, e = .returned (.tuple #[v, .bool b]) ∧ AnsTok w' w.heap.size v l ∧ Below w.heap.size w w' := by
  obtain ⟨i0, hti, hz0, hz1, hz2⟩ := info_parts infoTok5
  have own0 : Hid (AnsTok (w.alloc (.cells #[] 36)) w.heap.size (.slice (some ⟨w.heap.size, 0, none⟩) 0 0) []) := ansTok_none w _ (Nat.le_refl _)
  have hb0 : Below w.heap.size w (w.alloc (.cells #[] 36)) := (Below.refl _ _).alloc (Nat.le_refl _) _
  have HR : Hid (toksR s = (l, b)) := hR
  clear hR
  by_cases hs : (2000 : Int) < (s.size : Int)
  · have hf := HR.out
    unfold toksR at hf
    rw [toksB_long (by omega)] at hf
    injection hf with e1 e2
    subst e1 e2
    have hs1 : ¬ (s.size : Int) ≤ 2000 := by omega
    have hs0 : (0 : Int) < (s.size : Int) := by omega
    have hs3 : ((0 : Int) == (s.size : Int)) = false := by simpa using (show ¬ (0 : Int) = (s.size : Int) by omega)
    go_enter Tryd.func6, Tryd.ntmps6
    go_wp2
    go_loopw [4, 5] (fun v kk wr => v = .slice (some ⟨w.heap.size, 0, none⟩) 0 0 ∧ kk = .int .i64 0 ∧ wr = w.alloc (.cells #[] 36)) (fun _ _ _ => 0)
    case atStart => exact ⟨rfl, rfl, rfl⟩
    case round =>
      obtain ⟨rfl, rfl, rfl⟩ := hrel
      go_wp2
      go_ret2
      exact ⟨_, rfl, own0.out, hb0⟩
  have hs2 : s.size ≤ 2000 := by omega
  have hs1 : (s.size : Int) ≤ 2000 := by omega
  clear hs
  go_enter Tryd.func6, Tryd.ntmps6
  go_wp2
  go_loopw [4, 5] (fun v kk wr => ∃ (k : Nat) (out : List TT), k ≤ s.size ∧ kk = .int .i64 k ∧ Hid (Rest s k out) ∧ Hid (AnsTok wr w.heap.size v out) ∧ out.length ≤ k ∧ Below w.heap.size w wr) (fun _ kk _ => s.size - (intOf kk).toNat)
  case atStart => exact ⟨0, [], Nat.zero_le _, rfl, Rest.start s, own0, Nat.le_refl _, hb0⟩
  case round =>
    obtain ⟨k, out, hk, rfl, hRd, hO, hol, hb⟩ := hrel
    by_cases hlt : k < s.size
    · have hi0 : (0 : Int) ≤ (k : Int) := by omega
      have hi1 : (k : Int) < (s.size : Int) := by omega
      obtain ⟨x, hx⟩ : ∃ x, (s[k]'hlt).toNat = x := ⟨_, rfl⟩
      by_cases h32 : x = 32
      · subst h32
        have hRd2 : Hid (Rest s (k + 1) out) := hRd.out.one hlt hx
        go_wp2
        go_roundw
        case rel => exact ⟨k + 1, out, by omega, by go_num, hRd2, hO, by omega, hb⟩
        case measure => simp [intOf]; omega
      have g32 : ((x : Int) == 32) = false := by simpa using (show ¬ (x : Int) = 32 by omega)
      obtain ⟨t, r, hN⟩ : ∃ t r, nextR s k = (t, r) := ⟨_, _, rfl⟩
      have hst := hRd.out.next hs2 hlt (by rw [hx]; exact h32) hN
      have HN : Hid (nextR s k = (t, r)) := hN
      clear hN
      go_wp2_with fail
      refine (next_spec s hs2 k hlt t r HN.out _).mono ?_
      rintro e w2 ⟨rfl, hb2⟩
      have hbx2 := chain hb hb2
      have O1 := own_below hO.out.1 hb2
      have hvn := hO.out.2
      obtain ⟨tk, ts, ck, cn, ct⟩ := t
      dsimp only
      rcases hst with ⟨hrk, hno⟩ | ⟨hkr, hrs, hyes⟩
      · have hf := HR.out
        rw [hno] at hf
        injection hf with e1 e2
        subst e1 e2 hrk
        clear O1 hO hx hno
        have hA : Hid (AnsTok ((w2.alloc (.cells #[.int .i64 tk, .string ts, .int .i64 ck, .int .i64 cn, .string ct] 36)).alloc (.cells #[] 36)) w.heap.size (.slice (some ⟨w2.heap.size + 1, 0, none⟩) 0 0) []) := by
          have := ansTok_none (w2.alloc (.cells #[.int .i64 tk, .string ts, .int .i64 ck, .int .i64 cn, .string ct] 36)) w.heap.size (by have := hbx2.size; simp; omega)
          have e : (w2.alloc (.cells #[.int .i64 tk, .string ts, .int .i64 ck, .int .i64 cn, .string ct] 36)).heap.size = w2.heap.size + 1 := by simp
          rw [e] at this
          exact this
        have hbe : Below w.heap.size w ((w2.alloc (.cells #[.int .i64 tk, .string ts, .int .i64 ck, .int .i64 cn, .string ct] 36)).alloc (.cells #[] 36)) := (hbx2.alloc hbx2.size _).alloc (by have := hbx2.size; simp; omega) _
        go_wp2
        go_ret2
        exact ⟨_, rfl, hA.out, hbe⟩
      · have hrk : ((r : Int) == (k : Int)) = false := by simpa using (show ¬ (r : Int) = (k : Int) by omega)
        have hYes : Hid (Rest s r (out ++ [(tk, ts, ck, cn, ct)])) := hyes
        clear hyes hx
        have O2 := (O1.alloc (.cells #[.int .i64 tk, .string ts, .int .i64 ck, .int .i64 cn, .string ct] 36))
        clear O1 hO
        go_wp2_with (at_builtin; refine wpList_append_own _ rfl _ _ 26 rfl w.heap.size 36 i0 (.agg #[.int .i64 0, .string ⟨#[]⟩, .int .i64 0, .int .i64 0, .string ⟨#[]⟩]) 5 56 Tryd.underlying26 hti hz0 hz1 hz2 rfl (by decide) _ _ _ rfl (O2.alloc _) ⟨w2.heap.size + 1, 0, none⟩ 1 1 [.int .i64 tk, .string ts, .int .i64 ck, .int .i64 cn, .string ct] rfl rfl (cells5 w2 _ _ _ _ _ _ _ _ _ _) ?c2 ?c3 ?c4 ?c5 ?_)
        case c2 => intro u hu; simp at hu; rcases hu with rfl | rfl | rfl | rfl | rfl <;> rfl
        case c3 => unfold maxLen; omega
        case c4 => omega
        case c5 => have := hbx2.size; simp; omega
        intro v' w3 own3 hgrow hnn
        have hx2 : Below w.heap.size w w3 := by
          have hbA := hbx2.alloc hbx2.size (.cells #[.int .i64 tk, .string ts, .int .i64 ck, .int .i64 cn, .string ct] 36)
          refine (hbA.alloc hbA.size _).grown hgrow (by have := hbA.size; simp at this ⊢; omega) ?_
          intro kk hkk
          exact (O2.lt kk hkk).1
        have hvn2 : v' ≠ .slice none 0 0 := by first | exact hnn | exact fun e => hvn (hnn.1 e).1
        have SS : Hid (AnsTok w3 w.heap.size v' (out ++ [(tk, ts, ck, cn, ct)])) := by
          refine ⟨?_, hvn2⟩
          rw [flatTok_snoc, List.length_append]
          exact own3
        clear own3 hgrow hnn O2
        go_wp2
        go_roundw
        case rel => exact ⟨r, _, hrs, rfl, hYes, SS, by rw [List.length_append, List.length_singleton]; omega, hx2⟩
        case measure => simp [intOf]; omega
    · have hkl : k = s.size := by omega
      subst hkl
      have hi1 : ¬ (s.size : Int) < (s.size : Int) := by omega
      have hf := HR.out
      rw [hRd.out.done (Nat.le_refl _) hs2] at hf
      injection hf with e1 e2
      subst e1 e2
      go_wp2
      go_ret2
      exact ⟨_, by simp, hO.out, hb⟩
end Go.Proofs.YtfokdblojlmnlabDoor
