/-
  A part of the proof: ItmMath, Lists3, Tok1, Itm1, TokS, ItmOwn, Rank1, Rank2, Rank3, RowDraw.
-/
import Derived.Test.YtfokdblojlmnlabGreatDoorPart4
import Derived.Test.YtfokdblojlmnlabGreatDoorPart2
import Derived.Test.YtfokdblojlmnlabGreatDoorPart1
import Derived.Laws.AppendOwnNone

/-
  Sums without any program: right items, what a sum is, its tree, its text in tokens, what tokens are read as, and that a sum is read from its text.
-/
namespace Go.Proofs.YtfokdblojlmnlabGreatDoor

/-- An item: kind, cell, name. -/
abbrev TI := Int × CK × ByteArray
/-- The item of a sign. -/
def opI (k : Int) : TI := (k, zeroC, ⟨#[]⟩)
/-- Is the item right? -/
def itemB (x : TI) : Bool :=
  if x.1 = 1 then okC x.2.1 && decide (x.2.2 = ⟨#[]⟩) else if x.1 = 2 then nameK x.2.2 && decide (x.2.1 = zeroC) else (decide (3 ≤ x.1) && decide (x.1 ≤ 12)) && decide (x = opI x.1)
/-- How many it reckons with. -/
def needsI (k : Int) : Nat := if k ≤ 2 then 0 else if 11 ≤ k then 1 else 2
/-- How many lie there behind these items, from n on; none where there are too few, or one is not right. -/
def heapN : List TI → Nat → Option Nat
  | [], n => some n
  | x :: l, n => if itemB x = true ∧ needsI x.1 ≤ n then heapN l (n + 1 - needsI x.1) else none
/-- Is it a sum? -/
def sumB (l : List TI) : Bool := decide (heapN l 0 = some 1) && decide (l.length ≤ 40)

/-- The tree of a sum. -/
inductive Tr where
  | leaf (x : TI)
  | one (k : Int) (t : Tr)
  | two (k : Int) (a b : Tr)
def Tr.post : Tr → List TI
  | .leaf x => [x]
  | .one k t => t.post ++ [opI k]
  | .two k a b => a.post ++ (b.post ++ [opI k])
def Tr.ok : Tr → Prop
  | .leaf x => itemB x = true ∧ (x.1 = 1 ∨ x.1 = 2)
  | .one k t => (k = 11 ∨ k = 12) ∧ t.ok
  | .two k a b => (3 ≤ k ∧ k ≤ 10) ∧ a.ok ∧ b.ok
/-- Trees that lie one on the other, the last one first. -/
def pileP : List Tr → List TI
  | [] => []
  | t :: ts => pileP ts ++ t.post
theorem item_op {x : TI} (h : itemB x = true) (h1 : x.1 ≠ 1) (h2 : x.1 ≠ 2) : 3 ≤ x.1 ∧ x.1 ≤ 12 ∧ x = opI x.1 := by
  unfold itemB at h
  rw [if_neg h1, if_neg h2] at h
  simp only [Bool.and_eq_true, decide_eq_true_eq] at h
  exact ⟨h.1.1, h.1.2, h.2⟩
/-- What is reckoned through has its trees. -/
theorem heap_trees : ∀ (l : List TI) (ts : List Tr) (n : Nat), (∀ t ∈ ts, t.ok) → heapN l ts.length = some n → ∃ us : List Tr, us.length = n ∧ (∀ t ∈ us, t.ok) ∧ pileP us = pileP ts ++ l
  | [], ts, n, hok, h => by
    simp only [heapN, Option.some.injEq] at h
    exact ⟨ts, h, hok, by simp⟩
  | x :: l, ts, n, hok, h => by
    unfold heapN at h
    split at h
    · rename_i hc
      obtain ⟨hx, hn⟩ := hc
      by_cases h1 : x.1 = 1 ∨ x.1 = 2
      · have e : needsI x.1 = 0 := by unfold needsI; rw [if_pos (by omega)]
        rw [e] at h
        obtain ⟨us, e1, e2, e3⟩ := heap_trees l (.leaf x :: ts) n (fun t ht => by
          rcases List.mem_cons.1 ht with rfl | ht
          · exact ⟨hx, h1⟩
          · exact hok t ht) (by simpa using h)
        exact ⟨us, e1, e2, by rw [e3]; simp [pileP, Tr.post]⟩
      · obtain ⟨h3, h4, h5⟩ := item_op hx (fun e => h1 (.inl e)) (fun e => h1 (.inr e))
        by_cases h6 : 11 ≤ x.1
        · have e : needsI x.1 = 1 := by unfold needsI; rw [if_neg (by omega), if_pos h6]
          rw [e] at h hn
          match ts, hn with
          | t :: ts, _ =>
            obtain ⟨us, e1, e2, e3⟩ := heap_trees l (.one x.1 t :: ts) n (fun u hu => by
              rcases List.mem_cons.1 hu with rfl | hu
              · exact ⟨by omega, hok t (by simp)⟩
              · exact hok u (by simp [hu])) (by simpa using h)
            exact ⟨us, e1, e2, by rw [e3]; simp only [pileP, Tr.post]; rw [← h5]; simp⟩
        · have e : needsI x.1 = 2 := by unfold needsI; rw [if_neg (by omega), if_neg h6]
          rw [e] at h hn
          match ts, hn with
          | b :: a :: ts, _ =>
            obtain ⟨us, e1, e2, e3⟩ := heap_trees l (.two x.1 a b :: ts) n (fun u hu => by
              rcases List.mem_cons.1 hu with rfl | hu
              · exact ⟨by omega, hok a (by simp), hok b (by simp)⟩
              · exact hok u (by simp [hu])) (by simpa using h)
            exact ⟨us, e1, e2, by rw [e3]; simp only [pileP, Tr.post]; rw [← h5]; simp⟩
    · cases h
/-- A sum is a tree's. -/
theorem sum_tree {l : List TI} (h : sumB l = true) : ∃ t : Tr, t.ok ∧ t.post = l := by
  unfold sumB at h
  simp only [Bool.and_eq_true, decide_eq_true_eq] at h
  obtain ⟨us, e1, e2, e3⟩ := heap_trees l [] 1 (by simp) h.1
  match us, e1 with
  | [t], _ => exact ⟨t, e2 t (by simp), by simpa [pileP] using e3⟩
theorem itemB_op (k : Int) (h1 : 3 ≤ k) (h2 : k ≤ 12) : itemB (opI k) = true := by
  unfold itemB opI
  dsimp only
  rw [if_neg (by omega), if_neg (by omega)]
  simp [h1, h2]
theorem heapN_append (l m : List TI) (n : Nat) : heapN (l ++ m) n = (heapN l n).bind (heapN m) := by
  induction l generalizing n with
  | nil => rfl
  | cons x l ih =>
    rw [List.cons_append]
    unfold heapN
    split
    · exact ih _
    · rfl
/-- And a tree's items are a sum, but for their number. -/
theorem tree_sum {t : Tr} (h : t.ok) : ∀ n, heapN t.post n = some (n + 1) := by
  induction t with
  | leaf x =>
    intro n
    have e : needsI x.1 = 0 := by unfold needsI; rw [if_pos (by rcases h.2 with h | h <;> omega)]
    simp only [Tr.post, heapN]
    rw [if_pos ⟨h.1, by omega⟩, e]
    rfl
  | one k t ih =>
    intro n
    have hk : needsI k = 1 := by unfold needsI; rw [if_neg (by rcases h.1 with h | h <;> omega), if_pos (by rcases h.1 with h | h <;> omega)]
    simp only [Tr.post]
    rw [heapN_append, ih h.2]
    simp only [Option.bind_some, heapN]
    rw [if_pos ⟨itemB_op k (by rcases h.1 with h | h <;> omega) (by rcases h.1 with h | h <;> omega), by rw [show (opI k).1 = k from rfl, hk]; omega⟩, show (opI k).1 = k from rfl, hk]
    rfl
  | two k a b iha ihb =>
    intro n
    have hk : needsI k = 2 := by unfold needsI; rw [if_neg (by have := h.1; omega), if_neg (by have := h.1; omega)]
    simp only [Tr.post]
    rw [heapN_append, iha h.2.1]
    simp only [Option.bind_some]
    rw [heapN_append, ihb h.2.2]
    simp only [Option.bind_some, heapN]
    rw [if_pos ⟨itemB_op k (by have := h.1; omega) (by have := h.1; omega), by rw [show (opI k).1 = k from rfl, hk]; omega⟩, show (opI k).1 = k from rfl, hk]
    rfl
/-- The signs of the kinds. -/
def sgn (k : Int) : ByteArray :=
  if k = 3 then ⟨#[43]⟩ else if k = 4 then ⟨#[45]⟩ else if k = 5 then ⟨#[42]⟩ else if k = 6 then ⟨#[47]⟩ else if k = 7 then ⟨#[61]⟩ else if k = 8 then ⟨#[60]⟩ else if k = 9 then ⟨#[97, 110, 100]⟩ else if k = 10 then ⟨#[111, 114]⟩ else if k = 11 then ⟨#[110, 111, 116]⟩ else ⟨#[108, 97, 99, 107, 115]⟩
def sgnT (k : Int) : TT := (3, sgn k, zeroC)
def parO : TT := (3, ⟨#[40]⟩, zeroC)
def parC : TT := (3, ⟨#[41]⟩, zeroC)
/-- The token of an item that is one alone. -/
def tkOf (x : TI) : TT := if x.1 = 1 then (2, ⟨#[]⟩, x.2.1) else (1, x.2.2, zeroC)
def Tr.toks : Tr → List TT
  | .leaf x => [tkOf x]
  | .one k t => parO :: sgnT k :: (t.toks ++ [parC])
  | .two k a b => parO :: (a.toks ++ sgnT k :: (b.toks ++ [parC]))
def Tr.text : Tr → List UInt8
  | .leaf x => tokT (tkOf x)
  | .one k t => 40 :: ((sgn k).data.toList ++ 32 :: (t.text ++ [41]))
  | .two k a b => 40 :: (a.text ++ 32 :: ((sgn k).data.toList ++ 32 :: (b.text ++ [41])))
theorem sgn_ok (k : Int) (h1 : 3 ≤ k) (h2 : k ≤ 12) : tokB (sgnT k) = true := by
  have : k = 3 ∨ k = 4 ∨ k = 5 ∨ k = 6 ∨ k = 7 ∨ k = 8 ∨ k = 9 ∨ k = 10 ∨ k = 11 ∨ k = 12 := by omega
  rcases this with rfl | rfl | rfl | rfl | rfl | rfl | rfl | rfl | rfl | rfl <;> decide +kernel
theorem tkOf_ok {x : TI} (h : itemB x = true) (hx : x.1 = 1 ∨ x.1 = 2) : tokB (tkOf x) = true := by
  unfold tkOf
  unfold itemB at h
  rcases hx with e | e
  · rw [if_pos e] at h ⊢
    simp only [Bool.and_eq_true, decide_eq_true_eq] at h
    rw [tokB_2, h.1]; simp
  · rw [if_neg (by omega), if_pos e] at h
    rw [if_neg (by omega)]
    simp only [Bool.and_eq_true, decide_eq_true_eq] at h
    rw [tokB_1, h.1]; simp

theorem toksL_nextI {c : UInt8} {l : List UInt8} {t : TT} {e : Nat} (hc : c ≠ 32) (h : nextT (c :: l) = some (t, e)) : toksL (c :: l) = (toksL ((c :: l).drop e)).map (t :: ·) := by
  rw [toksL_next c l hc, h]
theorem toksL_tok {t : TT} {r : List UInt8} (ht : tokB t = true) (hr : Ends r) : toksL (tokT t ++ r) = (toksL r).map (t :: ·) := by
  obtain ⟨b, x, hb, h32⟩ := tokT_head ht
  have hn := next_tok ht hr
  rw [hb, List.cons_append] at hn ⊢
  rw [toksL_nextI h32 hn]
  congr 2
  simp
theorem toksL_par (r : List UInt8) : toksL (40 :: r) = (toksL r).map (parO :: ·) := by
  rw [toksL_nextI (by decide) (next_paren r)]
  rfl
/-- The tokens of a sum's text. -/
theorem toksL_text {t : Tr} (h : t.ok) : ∀ {r : List UInt8}, Ends r → toksL (t.text ++ r) = (toksL r).map (t.toks ++ ·) := by
  induction t with
  | leaf x =>
    intro r hr
    simp only [Tr.text, Tr.toks]
    rw [toksL_tok (tkOf_ok h.1 h.2) hr]
    rfl
  | one k t ih =>
    intro r hr
    have hk := sgn_ok k (by rcases h.1 with h | h <;> omega) (by rcases h.1 with h | h <;> omega)
    simp only [Tr.text, Tr.toks, List.cons_append, List.append_assoc]
    rw [toksL_par]
    have e1 := toksL_tok (r := 32 :: (t.text ++ (41 :: r))) hk (Ends.blank _)
    rw [show tokT (sgnT k) = (sgn k).data.toList from tokT_3 _ _] at e1
    rw [List.nil_append, e1, toksL_blank, ih h.2 (Ends.paren r)]
    have e2 := toksL_tok (t := parC) (r := r) (by decide +kernel) hr
    rw [show tokT parC = [41] from rfl, List.singleton_append] at e2
    rw [e2]
    cases toksL r <;> simp
  | two k a b iha ihb =>
    intro r hr
    have hk := sgn_ok k (by have := h.1; omega) (by have := h.1; omega)
    simp only [Tr.text, Tr.toks, List.cons_append, List.append_assoc]
    rw [toksL_par, iha h.2.1 (Ends.blank _), toksL_blank]
    have e1 := toksL_tok (r := 32 :: (b.text ++ (41 :: r))) hk (Ends.blank _)
    rw [show tokT (sgnT k) = (sgn k).data.toList from tokT_3 _ _] at e1
    rw [List.nil_append, e1, toksL_blank, ihb h.2.2 (Ends.paren r)]
    have e2 := toksL_tok (t := parC) (r := r) (by decide +kernel) hr
    rw [show tokT parC = [41] from rfl, List.singleton_append] at e2
    rw [e2]
    cases toksL r <;> simp
theorem toksB_sum {t : Tr} (h : t.ok) (s : ByteArray) (hs : s.data.toList = t.text) (hm : s.size ≤ 2000) : toksB s = some t.toks := by
  unfold toksB
  rw [if_pos hm, hs, Lib.size_eq, hs]
  have := toksL_text h (r := []) (.inl rfl)
  rw [List.append_nil, toksL_nil] at this
  simpa [toksL] using this
end Go.Proofs.YtfokdblojlmnlabGreatDoor

/-
  The contract of the law's helper that holds two lists of cells against each other: of two that are one it answers true.
-/
namespace Go.Proofs.YtfokdblojlmnlabGreatDoor
open Go.ChangeShapes Go.WideShapes Go.ChangeAt Go.RowKit
attribute [local go_sem ↓] Go.wp_at_zero Go.wp_at_succ

end Go.Proofs.YtfokdblojlmnlabGreatDoor

/-
  Lists of Tokens: how one lies in memory, and the contracts of the law's helpers that measure, take over and compare.
-/
namespace Go.Proofs.YtfokdblojlmnlabGreatDoor
open Go.ChangeShapes Go.WideShapes Go.ChangeAt Go.RowKit
attribute [local go_sem ↓] Go.wp_at_zero Go.wp_at_succ
attribute [local simp] World.cell?_alloc_past World.cell?_alloc_at World.frozen?_alloc_at cell_far cell_off cell_here World.frozen?_alloc_past

/-- The Tokens of a slice lie where it says. -/
def TokAt (w : World) (a : Option Addr) (l : List TT) : Prop :=
  ∀ j (h : j < l.length), ∃ b o, a = some ⟨b, o, none⟩ ∧ b < w.heap.size ∧ w.cell? ⟨b, o + j * 5, none⟩ = some (.int .i64 l[j].1) ∧ w.cell? ⟨b, o + j * 5 + 1, none⟩ = some (.string l[j].2.1) ∧ w.cell? ⟨b, o + j * 5 + 2, none⟩ = some (.int .i64 l[j].2.2.1) ∧ w.cell? ⟨b, o + j * 5 + 3, none⟩ = some (.int .i64 l[j].2.2.2.1) ∧ w.cell? ⟨b, o + j * 5 + 4, none⟩ = some (.string l[j].2.2.2.2)
theorem TokAt.below {w w' : World} {a : Option Addr} {l : List TT} (h : TokAt w a l) (hb : Below w.heap.size w w') : TokAt w' a l := by
  intro j hj
  obtain ⟨b, o, ha, hlt, c0, c1, c2, c3, c4⟩ := h j hj
  refine ⟨b, o, ha, Nat.lt_of_lt_of_le hlt hb.size, ?_, ?_, ?_, ?_, ?_⟩
  · rw [hb.cell (p := ⟨b, _, none⟩) hlt]; exact c0
  · rw [hb.cell (p := ⟨b, _, none⟩) hlt]; exact c1
  · rw [hb.cell (p := ⟨b, _, none⟩) hlt]; exact c2
  · rw [hb.cell (p := ⟨b, _, none⟩) hlt]; exact c3
  · rw [hb.cell (p := ⟨b, _, none⟩) hlt]; exact c4
/-- No text is longer than a text can be. -/
def FitTok (l : List TT) : Prop := ∀ j (h : j < l.length), ((l[j]).2.1).size ≤ maxLen ∧ ((l[j]).2.2.2.2).size ≤ maxLen
def oneTok (x : TT) : Nat := x.2.1.size + x.2.2.2.2.size
def weightTok (l : List TT) : Nat := (l.map oneTok).sum
theorem weightTok_take (l : List TT) (k : Nat) (h : k < l.length) : weightTok (l.take (k + 1)) = weightTok (l.take k) + oneTok l[k] := by
  unfold weightTok
  rw [List.take_succ_eq_append_getElem h, List.map_append, List.sum_append]; simp
theorem weightTok_le (l : List TT) (k : Nat) : weightTok (l.take k) ≤ weightTok l := by
  unfold weightTok
  conv => rhs; rw [← List.take_append_drop k l, List.map_append, List.sum_append]
  omega
/-- The cells of a list, one behind the other. -/
def flatTok : List TT → List Value
  | [] => []
  | x :: l => .int .i64 x.1 :: .string x.2.1 :: .int .i64 x.2.2.1 :: .int .i64 x.2.2.2.1 :: .string x.2.2.2.2 :: flatTok l
theorem flatTok_length (l : List TT) : (flatTok l).length = l.length * 5 := by
  induction l with
  | nil => rfl
  | cons x l ih => simp only [flatTok, List.length_cons, ih]; omega
theorem flatTok_append (l m : List TT) : flatTok (l ++ m) = flatTok l ++ flatTok m := by
  induction l with
  | nil => rfl
  | cons x l ih => simp only [List.cons_append, flatTok, ih]
theorem flatTok_at (l : List TT) (j : Nat) (h : j < l.length) : (flatTok l)[j * 5]? = some (.int .i64 l[j].1) ∧ (flatTok l)[j * 5 + 1]? = some (.string l[j].2.1) ∧ (flatTok l)[j * 5 + 2]? = some (.int .i64 l[j].2.2.1) ∧ (flatTok l)[j * 5 + 3]? = some (.int .i64 l[j].2.2.2.1) ∧ (flatTok l)[j * 5 + 4]? = some (.string l[j].2.2.2.2) := by
  induction l generalizing j with
  | nil => simp at h
  | cons x l ih =>
    cases j with
    | zero => exact ⟨rfl, rfl, rfl, rfl, rfl⟩
    | succ j =>
      have := ih j (by simpa using h)
      have e0 : (j + 1) * 5 = j * 5 + 1 + 1 + 1 + 1 + 1 := by omega
      have e1 : (j + 1) * 5 + 1 = j * 5 + 1 + 1 + 1 + 1 + 1 + 1 := by omega
      have e2 : (j + 1) * 5 + 2 = j * 5 + 2 + 1 + 1 + 1 + 1 + 1 := by omega
      have e3 : (j + 1) * 5 + 3 = j * 5 + 3 + 1 + 1 + 1 + 1 + 1 := by omega
      have e4 : (j + 1) * 5 + 4 = j * 5 + 4 + 1 + 1 + 1 + 1 + 1 := by omega
      rw [e1, e2, e3, e4, e0]
      simpa only [flatTok, List.getElem?_cons_succ, List.getElem_cons_succ] using this
theorem flatTok_step (l : List TT) (k : Nat) (h : k < l.length) (z : List Value) (hz : z.length = l.length * 5) :
    ((((((flatTok (l.take k) ++ z.drop (k * 5)).set (k * 5) (.int .i64 l[k].1)).set (k * 5 + 1) (.string l[k].2.1)).set (k * 5 + 2) (.int .i64 l[k].2.2.1)).set (k * 5 + 3) (.int .i64 l[k].2.2.2.1)).set (k * 5 + 4) (.string l[k].2.2.2.2)) = flatTok (l.take (k + 1)) ++ z.drop ((k + 1) * 5) := by
  have hl : (flatTok (l.take k)).length = k * 5 := by rw [flatTok_length, List.length_take]; congr 1; omega
  obtain ⟨a0, a1, a2, a3, a4, r, hr⟩ : ∃ a0 a1 a2 a3 a4 r, z.drop (k * 5) = a0 :: a1 :: a2 :: a3 :: a4 :: r := by
    have hd : (z.drop (k * 5)).length ≥ 5 := by rw [List.length_drop]; omega
    match hm : z.drop (k * 5), hd with
    | a0 :: a1 :: a2 :: a3 :: a4 :: r, _ => exact ⟨a0, a1, a2, a3, a4, r, rfl⟩
  have hr3 : z.drop ((k + 1) * 5) = r := by
    rw [show (k + 1) * 5 = k * 5 + 5 by omega, ← List.drop_drop, hr]; rfl
  rw [List.take_succ_eq_append_getElem h, flatTok_append, hr, hr3]
  rw [List.set_append_right _ _ (by omega), List.set_append_right _ _ (by omega), List.set_append_right _ _ (by omega), List.set_append_right _ _ (by omega), List.set_append_right _ _ (by omega), hl]
  rw [show k * 5 - k * 5 = 0 by omega, show k * 5 + 1 - k * 5 = 1 by omega, show k * 5 + 2 - k * 5 = 2 by omega, show k * 5 + 3 - k * 5 = 3 by omega, show k * 5 + 4 - k * 5 = 4 by omega]
  simp [flatTok]
/-- What is owned lies there. -/
theorem ownTok {w : World} {base g cap : Nat} {e : TypeId} {l : List TT} (h : w.ownsRow base e 5 (.slice (some ⟨g, 0, none⟩) l.length cap) l.length (flatTok l)) : TokAt w (some ⟨g, 0, none⟩) l := by
  have hlt : g < w.heap.size := (h.lt g rfl).2
  intro j hj
  obtain ⟨f0, f1, f2, f3, f4⟩ := flatTok_at l j hj
  refine ⟨g, 0, rfl, hlt, ?_, ?_, ?_, ?_, ?_⟩
  · rw [show 0 + j * 5 = j * 5 by omega, h.cellAt _ (by omega)]; exact f0
  · rw [show 0 + j * 5 + 1 = j * 5 + 1 by omega, h.cellAt _ (by omega)]; exact f1
  · rw [show 0 + j * 5 + 2 = j * 5 + 2 by omega, h.cellAt _ (by omega)]; exact f2
  · rw [show 0 + j * 5 + 3 = j * 5 + 3 by omega, h.cellAt _ (by omega)]; exact f3
  · rw [show 0 + j * 5 + 4 = j * 5 + 4 by omega, h.cellAt _ (by omega)]; exact f4

/-- Five cells of a block are written. -/
theorem five {w : World} {b : Nat} {a0 a1 a2 a3 a4 : Value} (v0 v1 v2 v3 v4 : Value) (h0 : w.cell? ⟨b, 0, none⟩ = some a0) (h1 : w.cell? ⟨b, 1, none⟩ = some a1) (h2 : w.cell? ⟨b, 2, none⟩ = some a2) (h3 : w.cell? ⟨b, 3, none⟩ = some a3) (h4 : w.cell? ⟨b, 4, none⟩ = some a4) :
    (((((w.setCell ⟨b, 0, none⟩ v0).setCell ⟨b, 1, none⟩ v1).setCell ⟨b, 2, none⟩ v2).setCell ⟨b, 3, none⟩ v3).setCell ⟨b, 4, none⟩ v4).cell? ⟨b, 0, none⟩ = some v0 ∧ (((((w.setCell ⟨b, 0, none⟩ v0).setCell ⟨b, 1, none⟩ v1).setCell ⟨b, 2, none⟩ v2).setCell ⟨b, 3, none⟩ v3).setCell ⟨b, 4, none⟩ v4).cell? ⟨b, 1, none⟩ = some v1 ∧ (((((w.setCell ⟨b, 0, none⟩ v0).setCell ⟨b, 1, none⟩ v1).setCell ⟨b, 2, none⟩ v2).setCell ⟨b, 3, none⟩ v3).setCell ⟨b, 4, none⟩ v4).cell? ⟨b, 2, none⟩ = some v2 ∧ (((((w.setCell ⟨b, 0, none⟩ v0).setCell ⟨b, 1, none⟩ v1).setCell ⟨b, 2, none⟩ v2).setCell ⟨b, 3, none⟩ v3).setCell ⟨b, 4, none⟩ v4).cell? ⟨b, 3, none⟩ = some v3 ∧ (((((w.setCell ⟨b, 0, none⟩ v0).setCell ⟨b, 1, none⟩ v1).setCell ⟨b, 2, none⟩ v2).setCell ⟨b, 3, none⟩ v3).setCell ⟨b, 4, none⟩ v4).cell? ⟨b, 4, none⟩ = some v4 := by
  refine ⟨?_, ?_, ?_, ?_, ?_⟩
  · rw [cell_off _ _ _ _ _ (by omega), cell_off _ _ _ _ _ (by omega), cell_off _ _ _ _ _ (by omega), cell_off _ _ _ _ _ (by omega), cell_here _ _ _ _ (by rw [h0]; rfl)]
  · rw [cell_off _ _ _ _ _ (by omega), cell_off _ _ _ _ _ (by omega), cell_off _ _ _ _ _ (by omega), cell_here _ _ _ _ (by rw [cell_off _ _ _ _ _ (by omega), h1]; rfl)]
  · rw [cell_off _ _ _ _ _ (by omega), cell_off _ _ _ _ _ (by omega), cell_here _ _ _ _ (by rw [cell_off _ _ _ _ _ (by omega), cell_off _ _ _ _ _ (by omega), h2]; rfl)]
  · rw [cell_off _ _ _ _ _ (by omega), cell_here _ _ _ _ (by rw [cell_off _ _ _ _ _ (by omega), cell_off _ _ _ _ _ (by omega), cell_off _ _ _ _ _ (by omega), h3]; rfl)]
  · rw [cell_here _ _ _ _ (by rw [cell_off _ _ _ _ _ (by omega), cell_off _ _ _ _ _ (by omega), cell_off _ _ _ _ _ (by omega), cell_off _ _ _ _ _ (by omega), h4]; rfl)]
end Go.Proofs.YtfokdblojlmnlabGreatDoor

/-
  Lists of Items: how one lies in memory, and the contracts of the law's helpers that measure, take over and compare.
-/
namespace Go.Proofs.YtfokdblojlmnlabGreatDoor
open Go.ChangeShapes Go.WideShapes Go.ChangeAt Go.RowKit
attribute [local go_sem ↓] Go.wp_at_zero Go.wp_at_succ
attribute [local simp] World.cell?_alloc_past World.cell?_alloc_at World.frozen?_alloc_at cell_far cell_off cell_here World.frozen?_alloc_past

/-- The Items of a slice lie where it says. -/
def ItmAt (w : World) (a : Option Addr) (l : List TI) : Prop :=
  ∀ j (h : j < l.length), ∃ b o, a = some ⟨b, o, none⟩ ∧ b < w.heap.size ∧ w.cell? ⟨b, o + j * 5, none⟩ = some (.int .i64 l[j].1) ∧ w.cell? ⟨b, o + j * 5 + 1, none⟩ = some (.int .i64 l[j].2.1.1) ∧ w.cell? ⟨b, o + j * 5 + 2, none⟩ = some (.int .i64 l[j].2.1.2.1) ∧ w.cell? ⟨b, o + j * 5 + 3, none⟩ = some (.string l[j].2.1.2.2) ∧ w.cell? ⟨b, o + j * 5 + 4, none⟩ = some (.string l[j].2.2)
theorem ItmAt.below {w w' : World} {a : Option Addr} {l : List TI} (h : ItmAt w a l) (hb : Below w.heap.size w w') : ItmAt w' a l := by
  intro j hj
  obtain ⟨b, o, ha, hlt, c0, c1, c2, c3, c4⟩ := h j hj
  refine ⟨b, o, ha, Nat.lt_of_lt_of_le hlt hb.size, ?_, ?_, ?_, ?_, ?_⟩
  · rw [hb.cell (p := ⟨b, _, none⟩) hlt]; exact c0
  · rw [hb.cell (p := ⟨b, _, none⟩) hlt]; exact c1
  · rw [hb.cell (p := ⟨b, _, none⟩) hlt]; exact c2
  · rw [hb.cell (p := ⟨b, _, none⟩) hlt]; exact c3
  · rw [hb.cell (p := ⟨b, _, none⟩) hlt]; exact c4
/-- No text is longer than a text can be. -/
def FitItm (l : List TI) : Prop := ∀ j (h : j < l.length), ((l[j]).2.1.2.2).size ≤ maxLen ∧ ((l[j]).2.2).size ≤ maxLen
def oneItm (x : TI) : Nat := x.2.1.2.2.size + x.2.2.size
def weightItm (l : List TI) : Nat := (l.map oneItm).sum
theorem weightItm_take (l : List TI) (k : Nat) (h : k < l.length) : weightItm (l.take (k + 1)) = weightItm (l.take k) + oneItm l[k] := by
  unfold weightItm
  rw [List.take_succ_eq_append_getElem h, List.map_append, List.sum_append]; simp
theorem weightItm_le (l : List TI) (k : Nat) : weightItm (l.take k) ≤ weightItm l := by
  unfold weightItm
  conv => rhs; rw [← List.take_append_drop k l, List.map_append, List.sum_append]
  omega
/-- The cells of a list, one behind the other. -/
def flatItm : List TI → List Value
  | [] => []
  | x :: l => .int .i64 x.1 :: .int .i64 x.2.1.1 :: .int .i64 x.2.1.2.1 :: .string x.2.1.2.2 :: .string x.2.2 :: flatItm l
theorem flatItm_length (l : List TI) : (flatItm l).length = l.length * 5 := by
  induction l with
  | nil => rfl
  | cons x l ih => simp only [flatItm, List.length_cons, ih]; omega
theorem flatItm_append (l m : List TI) : flatItm (l ++ m) = flatItm l ++ flatItm m := by
  induction l with
  | nil => rfl
  | cons x l ih => simp only [List.cons_append, flatItm, ih]
theorem flatItm_at (l : List TI) (j : Nat) (h : j < l.length) : (flatItm l)[j * 5]? = some (.int .i64 l[j].1) ∧ (flatItm l)[j * 5 + 1]? = some (.int .i64 l[j].2.1.1) ∧ (flatItm l)[j * 5 + 2]? = some (.int .i64 l[j].2.1.2.1) ∧ (flatItm l)[j * 5 + 3]? = some (.string l[j].2.1.2.2) ∧ (flatItm l)[j * 5 + 4]? = some (.string l[j].2.2) := by
  induction l generalizing j with
  | nil => simp at h
  | cons x l ih =>
    cases j with
    | zero => exact ⟨rfl, rfl, rfl, rfl, rfl⟩
    | succ j =>
      have := ih j (by simpa using h)
      have e0 : (j + 1) * 5 = j * 5 + 1 + 1 + 1 + 1 + 1 := by omega
      have e1 : (j + 1) * 5 + 1 = j * 5 + 1 + 1 + 1 + 1 + 1 + 1 := by omega
      have e2 : (j + 1) * 5 + 2 = j * 5 + 2 + 1 + 1 + 1 + 1 + 1 := by omega
      have e3 : (j + 1) * 5 + 3 = j * 5 + 3 + 1 + 1 + 1 + 1 + 1 := by omega
      have e4 : (j + 1) * 5 + 4 = j * 5 + 4 + 1 + 1 + 1 + 1 + 1 := by omega
      rw [e1, e2, e3, e4, e0]
      simpa only [flatItm, List.getElem?_cons_succ, List.getElem_cons_succ] using this
theorem flatItm_step (l : List TI) (k : Nat) (h : k < l.length) (z : List Value) (hz : z.length = l.length * 5) :
    ((((((flatItm (l.take k) ++ z.drop (k * 5)).set (k * 5) (.int .i64 l[k].1)).set (k * 5 + 1) (.int .i64 l[k].2.1.1)).set (k * 5 + 2) (.int .i64 l[k].2.1.2.1)).set (k * 5 + 3) (.string l[k].2.1.2.2)).set (k * 5 + 4) (.string l[k].2.2)) = flatItm (l.take (k + 1)) ++ z.drop ((k + 1) * 5) := by
  have hl : (flatItm (l.take k)).length = k * 5 := by rw [flatItm_length, List.length_take]; congr 1; omega
  obtain ⟨a0, a1, a2, a3, a4, r, hr⟩ : ∃ a0 a1 a2 a3 a4 r, z.drop (k * 5) = a0 :: a1 :: a2 :: a3 :: a4 :: r := by
    have hd : (z.drop (k * 5)).length ≥ 5 := by rw [List.length_drop]; omega
    match hm : z.drop (k * 5), hd with
    | a0 :: a1 :: a2 :: a3 :: a4 :: r, _ => exact ⟨a0, a1, a2, a3, a4, r, rfl⟩
  have hr3 : z.drop ((k + 1) * 5) = r := by
    rw [show (k + 1) * 5 = k * 5 + 5 by omega, ← List.drop_drop, hr]; rfl
  rw [List.take_succ_eq_append_getElem h, flatItm_append, hr, hr3]
  rw [List.set_append_right _ _ (by omega), List.set_append_right _ _ (by omega), List.set_append_right _ _ (by omega), List.set_append_right _ _ (by omega), List.set_append_right _ _ (by omega), hl]
  rw [show k * 5 - k * 5 = 0 by omega, show k * 5 + 1 - k * 5 = 1 by omega, show k * 5 + 2 - k * 5 = 2 by omega, show k * 5 + 3 - k * 5 = 3 by omega, show k * 5 + 4 - k * 5 = 4 by omega]
  simp [flatItm]
/-- What is owned lies there. -/
theorem ownItm {w : World} {base g cap : Nat} {e : TypeId} {l : List TI} (h : w.ownsRow base e 5 (.slice (some ⟨g, 0, none⟩) l.length cap) l.length (flatItm l)) : ItmAt w (some ⟨g, 0, none⟩) l := by
  have hlt : g < w.heap.size := (h.lt g rfl).2
  intro j hj
  obtain ⟨f0, f1, f2, f3, f4⟩ := flatItm_at l j hj
  refine ⟨g, 0, rfl, hlt, ?_, ?_, ?_, ?_, ?_⟩
  · rw [show 0 + j * 5 = j * 5 by omega, h.cellAt _ (by omega)]; exact f0
  · rw [show 0 + j * 5 + 1 = j * 5 + 1 by omega, h.cellAt _ (by omega)]; exact f1
  · rw [show 0 + j * 5 + 2 = j * 5 + 2 by omega, h.cellAt _ (by omega)]; exact f2
  · rw [show 0 + j * 5 + 3 = j * 5 + 3 by omega, h.cellAt _ (by omega)]; exact f3
  · rw [show 0 + j * 5 + 4 = j * 5 + 4 by omega, h.cellAt _ (by omega)]; exact f4

end Go.Proofs.YtfokdblojlmnlabGreatDoor

/-
  The contracts of the model's questions for a token: a sign, a name that is no other word, a right token.
-/
namespace Go.Proofs.YtfokdblojlmnlabGreatDoor
open Go.ChangeShapes Go.WideShapes Go.ChangeAt Go.RowKit
attribute [local go_sem ↓] Go.wp_at_zero Go.wp_at_succ
attribute [local simp] World.cell?_alloc_past World.cell?_alloc_at World.frozen?_alloc_at cell_far cell_off cell_here World.frozen?_alloc_past

theorem signs_spec (w : World) :
    Calls Tryz.prog 132 #[] w fun e w' => ∃ g, e = .returned (.slice (some ⟨g, 0, none⟩) 4 4) ∧ StrsAt w' (some ⟨g, 0, none⟩) signW ∧ Below w.heap.size w w' := by
  go_enter Tryz.func132, Tryz.ntmps132
  go_wp2
  go_ret
  refine ⟨w.heap.size, rfl, ?_, (Below.refl _ _).alloc (Nat.le_refl _) _⟩
  intro j hj
  simp only [signW, List.length_cons, List.length_nil] at hj
  refine ⟨w.heap.size, 0, rfl, by simp, ?_⟩
  match j, hj with
  | 0, _ => simp [signW]
  | 1, _ => simp [signW]
  | 2, _ => simp [signW]
  | 3, _ => simp [signW]
theorem at_specT (n : Nat) (a : Option Addr) (cap : Nat) (l : List ByteArray) (hn : l.length = n) (s : ByteArray) (w : World) (hrow : StrsAt w a l) (hm : n ≤ maxLen) :
    Calls Tryz.prog 131 #[.slice a n cap, .string s] w fun e w' => ∃ r, e = .returned (.int .i64 r) ∧ AtIs l s r ∧ Below w.heap.size w w' := by
  subst hn; exact at_spec a cap l s w hrow hm
set_option maxHeartbeats 1000000 in
theorem sign_spec (s : ByteArray) (w : World) (b : Bool) (hb : signB s = b) :
    Calls Tryz.prog 80 #[.string s] w fun e w' => e = .returned (.bool b) ∧ Below w.heap.size w w' := by
  have HB : Hid (signB s = b) := hb
  clear hb
  go_enter Tryz.func80, Tryz.ntmps80
  go_wp2_with fail
  refine (signs_spec w).mono ?_
  rintro e w1 ⟨g, rfl, hst, hb1⟩
  go_wp2_with fail
  refine (at_specT 4 _ _ signW rfl s _ hst (by unfold maxLen; omega)).mono ?_
  rintro e w2 ⟨r, rfl, hat, hb2⟩
  have hx := chain hb1 hb2
  have hrr := hat.neg
  by_cases hr : 0 ≤ r
  · have hin : inB signW s = true := inB_iff.2 (hrr.1 hr)
    obtain rfl : b = true := by rw [← HB.out]; unfold signB; rw [hin, Bool.true_or]
    clear hat hst hrr
    go_wp2
    go_ret
    exact ⟨rfl, hx⟩
  · have hin : inB signW s = false := inB_no.2 (fun h => hr (hrr.2 h))
    have HB2 : Hid (inB signO s = b) := by
      have : inB signO s = b := by rw [← HB.out]; unfold signB; rw [hin, Bool.false_or]
      exact this
    have hr' : r < 0 := by omega
    clear hat hst hrr hin HB
    go_wp2_with fail
    obtain ⟨V, hV⟩ : ∃ V, V = (w2.alloc (.cells #[.string ⟨#[43]⟩, .string ⟨#[45]⟩, .string ⟨#[42]⟩, .string ⟨#[47]⟩, .string ⟨#[61]⟩, .string ⟨#[60]⟩, .string ⟨#[40]⟩, .string ⟨#[41]⟩] 9)) := ⟨_, rfl⟩
    rw [← hV]
    have hA : Below w2.heap.size w2 V := by rw [hV]; exact (Below.refl _ _).alloc (Nat.le_refl _) _
    have hso : StrsAt V (some ⟨w2.heap.size, 0, none⟩) signO := by
      intro j hj
      simp only [signO, List.length_cons, List.length_nil] at hj
      refine ⟨w2.heap.size, 0, rfl, by rw [hV]; simp, ?_⟩
      rw [hV]
      match j, hj with
      | 0, _ => simp [signO]
      | 1, _ => simp [signO]
      | 2, _ => simp [signO]
      | 3, _ => simp [signO]
      | 4, _ => simp [signO]
      | 5, _ => simp [signO]
      | 6, _ => simp [signO]
      | 7, _ => simp [signO]
    clear hV
    refine (at_specT 8 _ _ signO rfl s _ hso (by unfold maxLen; omega)).mono ?_
    rintro e w3 ⟨r3, rfl, hat3, hb3⟩
    have hx3 := chain (chain hx hA) hb3
    have hrr3 := hat3.neg
    cases b
    · have h3 : ¬ 0 ≤ r3 := fun h => inB_no.1 HB2.out (hrr3.1 h)
      have h3' : r3 < 0 := by omega
      clear hat3 hrr3
      go_wp2
      go_ret
      exact ⟨ret_bool (by rw [decide_eq_false (by omega), decide_eq_false (by omega)]; rfl), hx3⟩
    · have h3 : 0 ≤ r3 := hrr3.2 (inB_iff.1 HB2.out)
      clear hat3 hrr3
      go_wp2
      go_ret
      exact ⟨rfl, hx3⟩
theorem word_lit (s : ByteArray) (l : List UInt8) (b : Bool) (h : decide (s.data.toList ≠ l) = b) : (s.toList == l) = !b := by
  rw [Lib.toList_data, ← h]
  by_cases e : s.data.toList = l
  · rw [e]; simp
  · rw [decide_eq_true e]; simpa using e
set_option maxHeartbeats 1000000 in
theorem namek_spec (s : ByteArray) (w : World) (hs : s.size ≤ maxLen) (b : Bool) (hb : nameK s = b) :
    Calls Tryz.prog 78 #[.string s] w fun e w' => e = .returned (.bool b) ∧ Below w.heap.size w w' := by
  have HB : Hid (nameK s = b) := hb
  clear hb
  obtain ⟨n1, hn1⟩ : ∃ x, nameB s = x := ⟨_, rfl⟩
  have HN1 : Hid (nameB s = n1) := hn1
  go_enter Tryz.func78, Tryz.ntmps78
  go_wp2_with fail
  refine (name_spec s w hs n1 hn1).mono ?_
  rintro e w1 ⟨rfl, rfl⟩
  cases n1
  · obtain rfl : b = false := by rw [← HB.out]; unfold nameK; rw [hn1, Bool.false_and]
    clear hn1
    go_wp2
    go_ret
    exact ⟨rfl, Below.refl _ _⟩
  clear hn1
  go_wp2_with fail
  refine (signs_spec w1).mono ?_
  rintro e w2 ⟨g, rfl, hst, hb2⟩
  go_wp2_with fail
  refine (at_specT 4 _ _ signW rfl s _ hst (by unfold maxLen; omega)).mono ?_
  rintro e w3 ⟨r, rfl, hat, hb3⟩
  have hx := chain hb2 hb3
  have hrr := hat.neg
  by_cases hr : 0 ≤ r
  · have hin : inB signW s = true := inB_iff.2 (hrr.1 hr)
    obtain rfl : b = false := by rw [← HB.out]; unfold nameK; rw [HN1.out, hin]; rfl
    have hr' : ¬ r < 0 := by omega
    clear hat hst hrr
    go_wp2
    go_ret
    exact ⟨rfl, hx⟩
  · have hin : inB signW s = false := inB_no.2 (fun h => hr (hrr.2 h))
    have HB2 : Hid ((decide (s.data.toList ≠ wNone) && (decide (s.data.toList ≠ wYes) && decide (s.data.toList ≠ wNo))) = b) := by
      have : (decide (s.data.toList ≠ wNone) && (decide (s.data.toList ≠ wYes) && decide (s.data.toList ≠ wNo))) = b := by
        rw [← HB.out]; unfold nameK; rw [HN1.out, hin]; rfl
      exact this
    have hr' : r < 0 := by omega
    obtain ⟨b1, h1⟩ : ∃ x, decide (s.data.toList ≠ wNone) = x := ⟨_, rfl⟩
    obtain ⟨b2, h2⟩ : ∃ x, decide (s.data.toList ≠ wYes) = x := ⟨_, rfl⟩
    obtain ⟨b3, h3⟩ : ∃ x, decide (s.data.toList ≠ wNo) = x := ⟨_, rfl⟩
    have e1 := word_lit s wNone b1 h1
    have e2 := word_lit s wYes b2 h2
    have e3 := word_lit s wNo b3 h3
    have HBB : Hid ((b1 && (b2 && b3)) = b) := by
      have : (b1 && (b2 && b3)) = b := by rw [← HB2.out, h1, h2, h3]
      exact this
    unfold wNone at e1
    unfold wYes at e2
    unfold wNo at e3
    clear hat hst hrr hin HB HB2 h1 h2 h3
    cases b1
    · obtain rfl : false = b := HBB.out
      go_wp2
      go_ret
      exact ⟨rfl, hx⟩
    cases b2
    · obtain rfl : false = b := HBB.out
      go_wp2
      go_ret
      exact ⟨rfl, hx⟩
    cases b3
    · obtain rfl : false = b := HBB.out
      go_wp2
      go_ret
      exact ⟨rfl, hx⟩
    · obtain rfl : true = b := HBB.out
      go_wp2
      go_ret
      exact ⟨rfl, hx⟩
theorem zeroC_same (c : CK) (b : Bool) (h : decide (c = zeroC) = b) : sameB c.1 c.2.1 c.2.2 0 0 ⟨#[]⟩ = b := by
  rw [← h]
  rw [Bool.eq_iff_iff, sameB_eq, decide_eq_true_eq]
  obtain ⟨x, y, z⟩ := c
  unfold zeroC
  simp
set_option maxHeartbeats 2000000 in
theorem tok_spec (t : TT) (w : World) (h1 : t.2.1.size ≤ maxLen) (h2 : t.2.2.2.2.size ≤ maxLen) (b : Bool) (hb : tokB t = b) :
    Calls Tryz.prog 34 #[.agg #[.int .i64 t.1, .string t.2.1, .int .i64 t.2.2.1, .int .i64 t.2.2.2.1, .string t.2.2.2.2]] w fun e w' => e = .returned (.bool b) ∧ Below w.heap.size w w' := by
  obtain ⟨k, s, ck, cn, ct⟩ := t
  dsimp only at h1 h2 ⊢
  have hA : Below w.heap.size w (w.alloc (.cells #[.int .i64 k, .string s, .int .i64 ck, .int .i64 cn, .string ct] 56)) := (Below.refl _ _).alloc (Nat.le_refl _) _
  by_cases k1 : k = 1
  · subst k1
    rw [tokB_1] at hb
    obtain ⟨b1, e1⟩ : ∃ x, nameK s = x := ⟨_, rfl⟩
    obtain ⟨b2, e2⟩ : ∃ x, decide ((ck, cn, ct) = zeroC) = x := ⟨_, rfl⟩
    rw [e1, e2] at hb
    have hz := zeroC_same (ck, cn, ct) b2 e2
    dsimp only at hz
    have hq := fun w' => run_eql ck cn ct 0 0 ⟨#[]⟩ w'
    rw [hz] at hq
    have E1 : Hid (nameK s = b1) := e1
    clear e1 e2 hz
    cases b1
    · obtain rfl : false = b := hb
      go_enter Tryz.func34, Tryz.ntmps34
      go_wp2_with fail
      refine (namek_spec s _ h1 false E1.out).mono ?_
      rintro e w1 ⟨rfl, hb1⟩
      have hx := chain hA hb1
      go_wp2
      go_ret
      exact ⟨rfl, hx⟩
    · obtain rfl : b2 = b := hb
      go_enter Tryz.func34, Tryz.ntmps34
      go_wp2_with fail
      refine (namek_spec s _ h1 true E1.out).mono ?_
      rintro e w1 ⟨rfl, hb1⟩
      have hx := chain hA hb1
      obtain ⟨hc, hf⟩ := bcell hb1
      have c2 : w1.cell? ⟨w.heap.size, 2, none⟩ = some (.int .i64 ck) := by rw [hc _ _ (by simp)]; simp
      have c3 : w1.cell? ⟨w.heap.size, 3, none⟩ = some (.int .i64 cn) := by rw [hc _ _ (by simp)]; simp
      have c4 : w1.cell? ⟨w.heap.size, 4, none⟩ = some (.string ct) := by rw [hc _ _ (by simp)]; simp
      clear hc hf
      go_wp2
      go_ret
      exact ⟨rfl, hx⟩
  by_cases k2 : k = 2
  · subst k2
    rw [tokB_2] at hb
    obtain ⟨b1, e1⟩ : ∃ x, okC (ck, cn, ct) = x := ⟨_, rfl⟩
    obtain ⟨b2, e2⟩ : ∃ x, decide (s = ⟨#[]⟩) = x := ⟨_, rfl⟩
    rw [e1, e2] at hb
    have hq : (s.toList == []) = b2 := by
      rw [← e2]
      by_cases e : s = ⟨#[]⟩
      · rw [decide_eq_true e, e]; simp [Lib.toList_data]
      · rw [decide_eq_false e]
        have := txt_other e
        rw [show (⟨#[]⟩ : ByteArray).toList = [] from by rw [Lib.toList_data]] at this
        exact this
    have E1 : Hid (okB ck cn ct = b1) := e1
    clear e1 e2
    cases b1
    · obtain rfl : false = b := hb
      go_enter Tryz.func34, Tryz.ntmps34
      go_wp2_with fail
      refine (ok_specb ck cn ct false E1.out _ h2).mono ?_
      rintro e w1 ⟨rfl, hb1⟩
      have hx := chain hA hb1
      go_wp2
      go_ret
      exact ⟨rfl, hx⟩
    · obtain rfl : b2 = b := hb
      go_enter Tryz.func34, Tryz.ntmps34
      go_wp2_with fail
      refine (ok_specb ck cn ct true E1.out _ h2).mono ?_
      rintro e w1 ⟨rfl, hb1⟩
      have hx := chain hA hb1
      obtain ⟨hc, hf⟩ := bcell hb1
      have c1 : w1.cell? ⟨w.heap.size, 1, none⟩ = some (.string s) := by rw [hc _ _ (by simp)]; simp
      clear hc hf
      go_wp2
      go_ret
      exact ⟨rfl, hx⟩
  by_cases k3 : k = 3
  · subst k3
    rw [tokB_3] at hb
    obtain ⟨b1, e1⟩ : ∃ x, signB s = x := ⟨_, rfl⟩
    obtain ⟨b2, e2⟩ : ∃ x, decide ((ck, cn, ct) = zeroC) = x := ⟨_, rfl⟩
    rw [e1, e2] at hb
    have hz := zeroC_same (ck, cn, ct) b2 e2
    dsimp only at hz
    have hq := fun w' => run_eql ck cn ct 0 0 ⟨#[]⟩ w'
    rw [hz] at hq
    have E1 : Hid (signB s = b1) := e1
    clear e1 e2 hz
    cases b1
    · obtain rfl : false = b := hb
      go_enter Tryz.func34, Tryz.ntmps34
      go_wp2_with fail
      refine (sign_spec s _ false E1.out).mono ?_
      rintro e w1 ⟨rfl, hb1⟩
      have hx := chain hA hb1
      go_wp2
      go_ret
      exact ⟨rfl, hx⟩
    · obtain rfl : b2 = b := hb
      go_enter Tryz.func34, Tryz.ntmps34
      go_wp2_with fail
      refine (sign_spec s _ true E1.out).mono ?_
      rintro e w1 ⟨rfl, hb1⟩
      have hx := chain hA hb1
      obtain ⟨hc, hf⟩ := bcell hb1
      have c2 : w1.cell? ⟨w.heap.size, 2, none⟩ = some (.int .i64 ck) := by rw [hc _ _ (by simp)]; simp
      have c3 : w1.cell? ⟨w.heap.size, 3, none⟩ = some (.int .i64 cn) := by rw [hc _ _ (by simp)]; simp
      have c4 : w1.cell? ⟨w.heap.size, 4, none⟩ = some (.string ct) := by rw [hc _ _ (by simp)]; simp
      clear hc hf
      go_wp2
      go_ret
      exact ⟨rfl, hx⟩
  · have hbf : b = false := by
      rw [← hb]; unfold tokB; dsimp only; rw [if_neg k1, if_neg k2, if_neg k3]
    subst hbf
    clear hb
    go_enter Tryz.func34, Tryz.ntmps34
    go_wp2
    go_ret
    exact ⟨rfl, hA⟩
end Go.Proofs.YtfokdblojlmnlabGreatDoor

/-
  Rows of items in memory of one's own: where they lie.
-/
namespace Go.Proofs.YtfokdblojlmnlabGreatDoor
open Go.ChangeShapes Go.WideShapes Go.ChangeAt Go.RowKit
attribute [local simp] World.cell?_alloc_past World.cell?_alloc_at World.frozen?_alloc_at cell_far cell_off cell_here World.frozen?_alloc_past

theorem infoItm5 : (Tryz.prog.info? 102).map (fun i => (i.zero, i.size, i.bytes)) = some (some (.agg #[.int .i64 0, .int .i64 0, .int .i64 0, .string ⟨#[]⟩, .string ⟨#[]⟩]), 5, 56) := by kernel_rfl
theorem cells5I (w : World) (a b c d e : Value) : ∀ (j : Nat) u, [a, b, c, d, e][j]? = some u → (w.alloc (.cells #[a, b, c, d, e] 102)).cell? ((⟨w.heap.size, 0, none⟩ : Addr).add j) = some u := by
  intro j u hj
  match j, hj with
  | 0, hj => simp at hj; subst hj; simp [Addr.add, go_sem]
  | 1, hj => simp at hj; subst hj; simp [Addr.add, go_sem]
  | 2, hj => simp at hj; subst hj; simp [Addr.add, go_sem]
  | 3, hj => simp at hj; subst hj; simp [Addr.add, go_sem]
  | 4, hj => simp at hj; subst hj; simp [Addr.add, go_sem]
theorem allT_snoc (l : List TT) (k : Nat) (h : k < l.length) : (l.take (k + 1)).all tokB = ((l.take k).all tokB && tokB l[k]) := by
  rw [List.take_succ_eq_append_getElem h, List.all_append]; simp
theorem own_itm {w : World} {base : Nat} {v : Value} {o : List TI} (h : w.ownsRow base 102 5 v o.length (flatItm o)) : ∃ a' c', v = .slice a' o.length c' ∧ ItmAt w a' o := by
  rcases h.2 with ⟨h', h''⟩ | ⟨g, c, cur, h', _⟩
  · subst h'
    have e : o = [] := List.length_eq_zero_iff.1 (by omega)
    subst e
    exact ⟨none, 0, rfl, fun j hj => by simp at hj⟩
  · subst h'
    exact ⟨_, c, rfl, ownItm h⟩
theorem itmAt_nil (w : World) (a : Option Addr) : ItmAt w a [] := fun j hj => by simp at hj
end Go.Proofs.YtfokdblojlmnlabGreatDoor

/-
  The contracts of the model's order on cells.
-/
namespace Go.Proofs.YtfokdblojlmnlabGreatDoor
open Go.ChangeShapes Go.WideShapes Go.ChangeAt Go.RowKit
attribute [local go_sem ↓] Go.wp_at_zero Go.wp_at_succ

/-- Is the one cell less than the other? By kind, then by number, then by text. -/
def lessB (k1 n1 : Int) (t1 : ByteArray) (k2 n2 : Int) (t2 : ByteArray) : Bool :=
  if (k1 != k2) = true then decide (k1 < k2) else if (n1 != n2) = true then decide (n1 < n2) else Op.bytesLess t1.toList t2.toList

end Go.Proofs.YtfokdblojlmnlabGreatDoor

/-
  The contracts of the model's SameAs and Below.
-/
namespace Go.Proofs.YtfokdblojlmnlabGreatDoor
open Go.ChangeShapes Go.WideShapes Go.ChangeAt Go.RowKit
attribute [local go_sem ↓] Go.wp_at_zero Go.wp_at_succ

/-- Are both right, and is one none? -/
def nonesB (k1 n1 : Int) (t1 : ByteArray) (k2 n2 : Int) (t2 : ByteArray) : Bool := (okB k1 n1 t1 && okB k2 n2 t2) && (k1 == 0 || k2 == 0)
/-- Are both right, and of one kind, or is one none? -/
def likeB (k1 n1 : Int) (t1 : ByteArray) (k2 n2 : Int) (t2 : ByteArray) : Bool := (okB k1 n1 t1 && okB k2 n2 t2) && ((k1 == 0 || k2 == 0) || k1 == k2)
/-- What comes of two cells that are held against each other: kind, number, fault. -/
def heldR (like none yes : Bool) : Int × Int × Int := if like = false then (0, 0, 3) else if none = true then (0, 0, 0) else (3, if yes = true then 1 else 0, 0)

end Go.Proofs.YtfokdblojlmnlabGreatDoor

/-
  The contract of the model's helper that takes a row over: new memory.
-/
namespace Go.Proofs.YtfokdblojlmnlabGreatDoor
open Go.ChangeShapes Go.WideShapes Go.ChangeAt Go.RowKit
attribute [local go_sem ↓] Go.wp_at_zero Go.wp_at_succ

/-- The cells of a row, one behind the other, lie there. -/
theorem flat_cells {w : World} {ad : Addr} {l : List CT} (h : RowAt w (some ad) l) (j : Nat) (u : Value) (hj : (flat l)[j]? = some u) : w.cell? (ad.add j) = some u := by
  have hlt : j < l.length * 3 := by
    have := (List.getElem?_eq_some_iff.1 hj).1
    rwa [flat_length] at this
  obtain ⟨b, o, e, _, c0, c1, c2⟩ := h (j / 3) (by omega)
  cases e
  obtain ⟨f0, f1, f2⟩ := flat_at l (j / 3) (by omega)
  have hadd : ∀ q, ((⟨b, o, none⟩ : Addr).add q) = ⟨b, o + q, none⟩ := by
    intro q
    unfold Addr.add
    by_cases hq : q = 0 <;> simp [hq]
  rw [hadd]
  rcases (show j = j / 3 * 3 ∨ j = j / 3 * 3 + 1 ∨ j = j / 3 * 3 + 2 by omega) with e | e | e
  · rw [e] at hj ⊢
    rw [f0] at hj
    rw [← hj]; exact c0
  · rw [e] at hj
    rw [f1] at hj
    rw [e, ← hj, ← Nat.add_assoc]; exact c1
  · rw [e] at hj
    rw [f2] at hj
    rw [e, ← hj, ← Nat.add_assoc]; exact c2

theorem flat_one (l : List CT) : ∀ u ∈ flat l, u.oneCell' = true := by
  induction l with
  | nil => intro u hu; cases hu
  | cons x l ih =>
    intro u hu
    simp only [flat, List.mem_cons] at hu
    rcases hu with rfl | rfl | rfl | hu
    · rfl
    · rfl
    · rfl
    · exact ih u hu

theorem infoCell : (Tryz.prog.info? 54).map (fun i => (i.zero, i.size, i.bytes)) = some (some (.agg #[.int .i64 0, .int .i64 0, .string ⟨#[]⟩]), 3, 32) := by kernel_rfl

set_option maxRecDepth 100000 in
set_option maxHeartbeats 1000000 in
theorem row_spec (a : Option Addr) (cap : Nat) (l : List CT) (w : World) (hrow : RowAt w a l) (hnil : a = none → cap = 0) (hm : l.length ≤ 1048576) :
    Calls Tryz.prog 164 #[.slice a l.length cap] w fun e w' => ∃ g c, e = .returned (.slice (some ⟨g, 0, none⟩) l.length c) ∧ w.heap.size ≤ g ∧
      w'.ownsRow w.heap.size 54 3 (.slice (some ⟨g, 0, none⟩) l.length c) l.length (flat l) ∧ Below w.heap.size w w' := by
  obtain ⟨i0, hi, hz0, hz1, hz2⟩ := info_parts infoCell
  have hR : Hid (RowAt w a l) := hrow
  clear hrow
  have own0 : Hid ((w.alloc (.cells #[] 54)).ownsRow w.heap.size 54 3 (.slice (some ⟨w.heap.size, 0, none⟩) 0 0) 0 []) :=
    ⟨rfl, .inr ⟨w.heap.size, 0, #[], rfl, Nat.le_refl _, by show (w.heap.push _)[w.heap.size]? = _; simp, Nat.le_refl _, by unfold maxLen; omega, rfl, rfl⟩⟩
  have hb0 : Below w.heap.size w (w.alloc (.cells #[] 54)) := (Below.refl _ _).alloc (Nat.le_refl _) _
  cases a with
  | none =>
    have hl : l = [] := by
      cases l with
      | nil => rfl
      | cons x l => obtain ⟨b, o, e, _⟩ := hR.out 0 (by simp); cases e
    subst hl
    have hc := hnil rfl
    subst hc
    go_enter Tryz.func164, Tryz.ntmps164
    go_wp2_with (at_builtin; refine wpList_append_own_none rfl _ _ 87 rfl w.heap.size 54 i0 3 Tryz.underlying87 hi (.slice (some ⟨w.heap.size, 0, none⟩) 0 0) 0 [] rfl own0.out rfl ?_)
    go_ret
    exact ⟨w.heap.size, 0, rfl, Nat.le_refl _, own0.out, hb0⟩
  | some ad =>
    go_enter Tryz.func164, Tryz.ntmps164
    go_wp2_with (at_builtin; refine wpList_append_own _ rfl _ _ 87 rfl w.heap.size 54 i0 (.agg #[.int .i64 0, .int .i64 0, .string ⟨#[]⟩]) 3 32 Tryz.underlying87 hi hz0 hz1 hz2 rfl (by decide) (.slice (some ⟨w.heap.size, 0, none⟩) 0 0) 0 [] rfl own0.out ad l.length cap (flat l) rfl (flat_length l) ?c1 (flat_one l) ?c3 ?c4 ?c5 ?_)
    case c1 => intro j u hj; exact flat_cells (hR.out.below hb0) j u hj
    case c3 => unfold maxLen; omega
    case c4 => omega
    case c5 => simp
    intro v' w1 hown hgrow hnn
    have hx : Below w.heap.size w w1 := hb0.grown hgrow (by simp) (by intro k hk; simp [Value.ownBlock] at hk; omega)
    rcases hown.2 with ⟨h', _⟩ | ⟨g, c, cur, h', hbg, hr⟩
    · exact absurd h' hnn
    · subst h'
      go_wp2
      go_ret
      exact ⟨g, c, rfl, hbg, hown, hx⟩

end Go.Proofs.YtfokdblojlmnlabGreatDoor

/-
  Rows that are drawn: the contracts of the model's draws of a row, and of two rows that are held against each other.
-/
namespace Go.Proofs.YtfokdblojlmnlabGreatDoor
open Go.ChangeShapes Go.WideShapes Go.ChangeAt Go.RowKit
attribute [local go_sem ↓] Go.wp_at_zero Go.wp_at_succ
attribute [local simp] World.cell?_alloc_past World.cell?_alloc_at World.frozen?_alloc_at cell_far cell_off cell_here World.frozen?_alloc_past

theorem Cur.far {w w' : World} {c B : Nat} {a : Option Addr} {len cap : Nat} (h : Cur w c a len cap) (hb : Below B w w') (hB : c < B) : Cur w' c a len cap := by
  refine ⟨?_, ?_, ?_, ?_, ?_, ?_, Nat.lt_of_lt_of_le h.lt hb.size, h.hlen, ?_⟩
  · rw [hb.cell (p := ⟨c, 0, none⟩) hB]; exact h.c0
  · rw [hb.cell (p := ⟨c, 1, none⟩) hB]; exact h.c1
  · rw [hb.cell (p := ⟨c, 2, none⟩) hB]; exact h.c2
  · rw [hb.frozen (p := ⟨c, 0, none⟩) hB]; exact h.f0
  · rw [hb.frozen (p := ⟨c, 1, none⟩) hB]; exact h.f1
  · rw [hb.frozen (p := ⟨c, 2, none⟩) hB]; exact h.f2
  · intro j hj
    obtain ⟨rb, ro, v, ha, hrb, hc, hv⟩ := h.row j hj
    exact ⟨rb, ro, v, ha, hrb, by rw [hb.cell (p := ⟨rb, _, none⟩) (by show rb < B; omega)]; exact hc, hv⟩
theorem Keep.far {c B : Nat} {w w1 w2 : World} (h : Keep c w w1) (hb : Below B w1 w2) (hB : w.heap.size ≤ B) : Keep c w w2 :=
  ⟨hb.os.trans h.os, hb.tape.trans h.tape, hb.output.trans h.output, Nat.le_trans h.size hb.size, fun k hk hc => (hb.block k (by omega)).trans (h.block k hk hc)⟩
theorem own_keep {w w' : World} {c base : Nat} {e : TypeId} {size n : Nat} {v : Value} {xs : List Value} (h : w.ownsRow base e size v n xs) (hk : Keep c w w') (hc : c < base) : w'.ownsRow base e size v n xs := by
  refine ⟨h.1, ?_⟩
  rcases h.2 with h' | ⟨g, cap, cur, h', hbg, hg, hr⟩
  · exact .inl h'
  · refine .inr ⟨g, cap, cur, h', hbg, ?_, hr⟩
    have hlt : g < w.heap.size := by
      by_cases hl : g < w.heap.size
      · exact hl
      · rw [Array.getElem?_eq_none (by omega)] at hg; cases hg
    rw [hk.block g hlt (by omega)]; exact hg
theorem Fit.append {l : List CT} {x : CT} (h : Fit l) (hx : x.2.2.size ≤ maxLen) : Fit (l ++ [x]) := by
  intro j hj
  by_cases e : j < l.length
  · rw [List.getElem_append_left e]; exact h j e
  · rw [List.getElem_append_right (by omega)]; simpa using hx

theorem infoCellD : (Tryz.prog.info? 54).map (fun i => (i.zero, i.size, i.bytes)) = some (some (.agg #[.int .i64 0, .int .i64 0, .string ⟨#[]⟩]), 3, 32) := by kernel_rfl

set_option maxRecDepth 100000 in
set_option maxHeartbeats 2000000 in
theorem row_draw {w : World} {c : Nat} {a : Option Addr} {len cap : Nat} (h : Cur w c a len cap) (n : Nat) (hn : n ≤ 1000) :
    Calls Tryz.prog 96 #[.pointer (some ⟨c, 0, none⟩), .int .i64 n] w fun e w' => ∃ v l, e = .returned v ∧ l.length = n ∧ Fit l ∧ v ≠ .slice none 0 0 ∧ w'.ownsRow w.heap.size 54 3 v l.length (flat l) ∧ Cur w' c a len cap ∧ Keep c w w' := by
  obtain ⟨i0, hi, hz0, hz1, hz2⟩ := info_parts infoCellD
  have hcw := h.lt
  have own0 : Hid ((w.alloc (.cells #[] 54)).ownsRow w.heap.size 54 3 (.slice (some ⟨w.heap.size, 0, none⟩) 0 0) 0 [] ∧ Cur (w.alloc (.cells #[] 54)) c a len cap) :=
    ⟨⟨rfl, .inr ⟨w.heap.size, 0, #[], rfl, Nat.le_refl _, by show (w.heap.push _)[w.heap.size]? = _; simp, Nat.le_refl _, by unfold maxLen; omega, rfl, rfl⟩⟩, h.alloc _⟩
  clear h
  go_enter Tryz.func96, Tryz.ntmps96
  go_wp2
  go_loopw [1, 5] (fun x v wr => ∃ m : Nat, x = .int .i64 m ∧ m ≤ n ∧ v ≠ .slice none 0 0 ∧ Hid (∃ l : List CT, l.length + m = n ∧ Fit l ∧ wr.ownsRow w.heap.size 54 3 v l.length (flat l) ∧ Cur wr c a len cap) ∧ Keep c w wr) (fun x _ _ => (intOf x).toNat)
  case atStart => exact ⟨n, rfl, Nat.le_refl _, by simp, ⟨[], by simp, fun j hj => by simp at hj, own0.out.1, own0.out.2⟩, (Keep.refl c w).alloc _⟩
  case round =>
    obtain ⟨m, rfl, hmn, hvn, hP, hk⟩ := hrel
    obtain ⟨l, hl, hfit, own, hcur⟩ := hP.out
    have hF : Hid (Fit l) := hfit
    have OW : Hid (wr.ownsRow w.heap.size 54 3 _ l.length (flat l)) := own
    have CU : Hid (Cur wr c a len cap) := hcur
    have hsz := hk.size
    clear own hcur hP hfit
    by_cases hm0 : m = 0
    · subst hm0
      go_wp2
      go_ret
      exact ⟨_, l, rfl, by omega, hF.out, hvn, OW.out, CU.out, hk⟩
    · obtain ⟨j, rfl⟩ : ∃ j, m = j + 1 := ⟨m - 1, by omega⟩
      have q3 : (0 : Int) < ((j + 1 : Nat) : Int) := by omega
      have q4 : ((j + 1 : Nat) : Int) - 1 = (j : Int) := by omega
      go_wp2_with fail
      refine (cell_draw CU.out).mono ?_
      rintro e w1 ⟨k1, n1, t1, rfl, ht1, hc1, hk1⟩
      have own1 := own_keep OW.out hk1 hcw
      have hk1' := hk.trans hk1
      have hsz1 := hk1'.size
      have C1 : Hid (Cur w1 c a len cap) := hc1
      go_wp2_with (at_builtin; refine wpList_append_own _ rfl _ _ 87 rfl w.heap.size 54 i0 (.agg #[.int .i64 0, .int .i64 0, .string ⟨#[]⟩]) 3 32 Tryz.underlying87 hi hz0 hz1 hz2 rfl (by decide) _ _ _ rfl (own1.alloc _) ⟨w1.heap.size, 0, none⟩ 1 1 [.int .i64 k1, .int .i64 n1, .string t1] rfl rfl ?c1 ?c2 ?c3 ?c4 ?c5 ?_)
      case c1 =>
        intro j u hj
        match j, hj with
        | 0, hj => simp at hj; subst hj; simp [Addr.add]
        | 1, hj => simp at hj; subst hj; simp [Addr.add]
        | 2, hj => simp at hj; subst hj; simp [Addr.add]
      case c2 => intro u hu; simp at hu; rcases hu with rfl | rfl | rfl <;> rfl
      case c3 => unfold maxLen; omega
      case c4 => omega
      case c5 => simp; omega
      intro v' w2 own2 hgrow hnn
      have hb2 : Below w.heap.size w1 w2 := by
        refine (((Below.refl w.heap.size w1).alloc hsz1 _).grown hgrow (by simp; omega) ?_)
        intro k hkk
        exact (own1.lt k hkk).1
      have hv2 : v' ≠ .slice none 0 0 := by first | exact hnn | exact fun e => hvn (hnn.1 e).1
      have fin : Hid (∃ l : List CT, l.length + j = n ∧ Fit l ∧ w2.ownsRow w.heap.size 54 3 v' l.length (flat l) ∧ Cur w2 c a len cap) := by
        refine ⟨l ++ [(k1, n1, t1)], by simp; omega, hF.out.append ht1, ?_, C1.out.far hb2 hcw⟩
        rw [flat_append, List.length_append]
        exact own2
      have hk2 : Keep c w w2 := hk1'.far hb2 (Nat.le_refl _)
      clear own2 hgrow hnn own1 C1 OW CU hc1 hk1
      go_wp2
      go_roundw
      case rel => exact ⟨j, rfl, by omega, hv2, fin, hk2⟩
      case measure => simp [intOf]

end Go.Proofs.YtfokdblojlmnlabGreatDoor
