/-
  A part of the proof: ItmMath, Lists3, Tok1, Itm1, TokS, SumS, Box5, Names2, TabI1, KeyVar, KeyI.
-/
import Derived.Test.YtfokdblojlmnlabDoorPart3
import Derived.Test.YtfokdblojlmnlabDoorPart1
import Derived.Test.YtfokdblojlmnlabDoorPart2
import Derived.Test.YtfokdblojlmnlabDoorShelf

/-
  Sums without any program: right items, what a sum is, its tree, its text in tokens, what tokens are read as, and that a sum is read from its text.
-/
namespace Go.Proofs.YtfokdblojlmnlabDoor

/-- An item: kind, cell, name. -/
abbrev TI := Int × CK × ByteArray
/-- The item of a sign. -/
def opI (k : Int) : TI := (k, zeroC, ⟨#[]⟩)
/-- Is the item right? -/
def itemB (x : TI) : Bool :=
  if x.1 = 1 then okC x.2.1 && decide (x.2.2 = ⟨#[]⟩) else if x.1 = 2 then nameK x.2.2 && decide (x.2.1 = zeroC) else (decide (3 ≤ x.1) && decide (x.1 ≤ 12)) && decide (x = opI x.1)
/-- How many it reckons with. -/
def needsI (k : Int) : Nat := if k ≤ 2 then 0 else if 11 ≤ k then 1 else 2
/-- How many lie there behind these items, from n on; none where there are too few, or one is not right. -/
def heapN : List TI → Nat → Option Nat
  | [], n => some n
  | x :: l, n => if itemB x = true ∧ needsI x.1 ≤ n then heapN l (n + 1 - needsI x.1) else none
/-- Is it a sum? -/
def sumB (l : List TI) : Bool := decide (heapN l 0 = some 1) && decide (l.length ≤ 40)

/-- The tree of a sum. -/
inductive Tr where
  | leaf (x : TI)
  | one (k : Int) (t : Tr)
  | two (k : Int) (a b : Tr)
def Tr.post : Tr → List TI
  | .leaf x => [x]
  | .one k t => t.post ++ [opI k]
  | .two k a b => a.post ++ (b.post ++ [opI k])
def Tr.ok : Tr → Prop
  | .leaf x => itemB x = true ∧ (x.1 = 1 ∨ x.1 = 2)
  | .one k t => (k = 11 ∨ k = 12) ∧ t.ok
  | .two k a b => (3 ≤ k ∧ k ≤ 10) ∧ a.ok ∧ b.ok
/-- Trees that lie one on the other, the last one first. -/
def pileP : List Tr → List TI
  | [] => []
  | t :: ts => pileP ts ++ t.post
theorem item_op {x : TI} (h : itemB x = true) (h1 : x.1 ≠ 1) (h2 : x.1 ≠ 2) : 3 ≤ x.1 ∧ x.1 ≤ 12 ∧ x = opI x.1 := by
  unfold itemB at h
  rw [if_neg h1, if_neg h2] at h
  simp only [Bool.and_eq_true, decide_eq_true_eq] at h
  exact ⟨h.1.1, h.1.2, h.2⟩
/-- What is reckoned through has its trees. -/
theorem heap_trees : ∀ (l : List TI) (ts : List Tr) (n : Nat), (∀ t ∈ ts, t.ok) → heapN l ts.length = some n → ∃ us : List Tr, us.length = n ∧ (∀ t ∈ us, t.ok) ∧ pileP us = pileP ts ++ l
  | [], ts, n, hok, h => by
    simp only [heapN, Option.some.injEq] at h
    exact ⟨ts, h, hok, by simp⟩
  | x :: l, ts, n, hok, h => by
    unfold heapN at h
    split at h
    · rename_i hc
      obtain ⟨hx, hn⟩ := hc
      by_cases h1 : x.1 = 1 ∨ x.1 = 2
      · have e : needsI x.1 = 0 := by unfold needsI; rw [if_pos (by omega)]
        rw [e] at h
        obtain ⟨us, e1, e2, e3⟩ := heap_trees l (.leaf x :: ts) n (fun t ht => by
          rcases List.mem_cons.1 ht with rfl | ht
          · exact ⟨hx, h1⟩
          · exact hok t ht) (by simpa using h)
        exact ⟨us, e1, e2, by rw [e3]; simp [pileP, Tr.post]⟩
      · obtain ⟨h3, h4, h5⟩ := item_op hx (fun e => h1 (.inl e)) (fun e => h1 (.inr e))
        by_cases h6 : 11 ≤ x.1
        · have e : needsI x.1 = 1 := by unfold needsI; rw [if_neg (by omega), if_pos h6]
          rw [e] at h hn
          match ts, hn with
          | t :: ts, _ =>
            obtain ⟨us, e1, e2, e3⟩ := heap_trees l (.one x.1 t :: ts) n (fun u hu => by
              rcases List.mem_cons.1 hu with rfl | hu
              · exact ⟨by omega, hok t (by simp)⟩
              · exact hok u (by simp [hu])) (by simpa using h)
            exact ⟨us, e1, e2, by rw [e3]; simp only [pileP, Tr.post]; rw [← h5]; simp⟩
        · have e : needsI x.1 = 2 := by unfold needsI; rw [if_neg (by omega), if_neg h6]
          rw [e] at h hn
          match ts, hn with
          | b :: a :: ts, _ =>
            obtain ⟨us, e1, e2, e3⟩ := heap_trees l (.two x.1 a b :: ts) n (fun u hu => by
              rcases List.mem_cons.1 hu with rfl | hu
              · exact ⟨by omega, hok a (by simp), hok b (by simp)⟩
              · exact hok u (by simp [hu])) (by simpa using h)
            exact ⟨us, e1, e2, by rw [e3]; simp only [pileP, Tr.post]; rw [← h5]; simp⟩
    · cases h
/-- A sum is a tree's. -/
theorem sum_tree {l : List TI} (h : sumB l = true) : ∃ t : Tr, t.ok ∧ t.post = l := by
  unfold sumB at h
  simp only [Bool.and_eq_true, decide_eq_true_eq] at h
  obtain ⟨us, e1, e2, e3⟩ := heap_trees l [] 1 (by simp) h.1
  match us, e1 with
  | [t], _ => exact ⟨t, e2 t (by simp), by simpa [pileP] using e3⟩
theorem itemB_op (k : Int) (h1 : 3 ≤ k) (h2 : k ≤ 12) : itemB (opI k) = true := by
  unfold itemB opI
  dsimp only
  rw [if_neg (by omega), if_neg (by omega)]
  simp [h1, h2]
theorem heapN_append (l m : List TI) (n : Nat) : heapN (l ++ m) n = (heapN l n).bind (heapN m) := by
  induction l generalizing n with
  | nil => rfl
  | cons x l ih =>
    rw [List.cons_append]
    unfold heapN
    split
    · exact ih _
    · rfl
/-- And a tree's items are a sum, but for their number. -/
theorem tree_sum {t : Tr} (h : t.ok) : ∀ n, heapN t.post n = some (n + 1) := by
  induction t with
  | leaf x =>
    intro n
    have e : needsI x.1 = 0 := by unfold needsI; rw [if_pos (by rcases h.2 with h | h <;> omega)]
    simp only [Tr.post, heapN]
    rw [if_pos ⟨h.1, by omega⟩, e]
    rfl
  | one k t ih =>
    intro n
    have hk : needsI k = 1 := by unfold needsI; rw [if_neg (by rcases h.1 with h | h <;> omega), if_pos (by rcases h.1 with h | h <;> omega)]
    simp only [Tr.post]
    rw [heapN_append, ih h.2]
    simp only [Option.bind_some, heapN]
    rw [if_pos ⟨itemB_op k (by rcases h.1 with h | h <;> omega) (by rcases h.1 with h | h <;> omega), by rw [show (opI k).1 = k from rfl, hk]; omega⟩, show (opI k).1 = k from rfl, hk]
    rfl
  | two k a b iha ihb =>
    intro n
    have hk : needsI k = 2 := by unfold needsI; rw [if_neg (by have := h.1; omega), if_neg (by have := h.1; omega)]
    simp only [Tr.post]
    rw [heapN_append, iha h.2.1]
    simp only [Option.bind_some]
    rw [heapN_append, ihb h.2.2]
    simp only [Option.bind_some, heapN]
    rw [if_pos ⟨itemB_op k (by have := h.1; omega) (by have := h.1; omega), by rw [show (opI k).1 = k from rfl, hk]; omega⟩, show (opI k).1 = k from rfl, hk]
    rfl
/-- The signs of the kinds. -/
def sgn (k : Int) : ByteArray :=
  if k = 3 then ⟨#[43]⟩ else if k = 4 then ⟨#[45]⟩ else if k = 5 then ⟨#[42]⟩ else if k = 6 then ⟨#[47]⟩ else if k = 7 then ⟨#[61]⟩ else if k = 8 then ⟨#[60]⟩ else if k = 9 then ⟨#[97, 110, 100]⟩ else if k = 10 then ⟨#[111, 114]⟩ else if k = 11 then ⟨#[110, 111, 116]⟩ else ⟨#[108, 97, 99, 107, 115]⟩
def sgnT (k : Int) : TT := (3, sgn k, zeroC)
def parO : TT := (3, ⟨#[40]⟩, zeroC)
def parC : TT := (3, ⟨#[41]⟩, zeroC)
/-- The token of an item that is one alone. -/
def tkOf (x : TI) : TT := if x.1 = 1 then (2, ⟨#[]⟩, x.2.1) else (1, x.2.2, zeroC)
def Tr.toks : Tr → List TT
  | .leaf x => [tkOf x]
  | .one k t => parO :: sgnT k :: (t.toks ++ [parC])
  | .two k a b => parO :: (a.toks ++ sgnT k :: (b.toks ++ [parC]))
def Tr.text : Tr → List UInt8
  | .leaf x => tokT (tkOf x)
  | .one k t => 40 :: ((sgn k).data.toList ++ 32 :: (t.text ++ [41]))
  | .two k a b => 40 :: (a.text ++ 32 :: ((sgn k).data.toList ++ 32 :: (b.text ++ [41])))
theorem sgn_ok (k : Int) (h1 : 3 ≤ k) (h2 : k ≤ 12) : tokB (sgnT k) = true := by
  have : k = 3 ∨ k = 4 ∨ k = 5 ∨ k = 6 ∨ k = 7 ∨ k = 8 ∨ k = 9 ∨ k = 10 ∨ k = 11 ∨ k = 12 := by omega
  rcases this with rfl | rfl | rfl | rfl | rfl | rfl | rfl | rfl | rfl | rfl <;> decide +kernel
theorem tkOf_ok {x : TI} (h : itemB x = true) (hx : x.1 = 1 ∨ x.1 = 2) : tokB (tkOf x) = true := by
  unfold tkOf
  unfold itemB at h
  rcases hx with e | e
  · rw [if_pos e] at h ⊢
    simp only [Bool.and_eq_true, decide_eq_true_eq] at h
    rw [tokB_2, h.1]; simp
  · rw [if_neg (by omega), if_pos e] at h
    rw [if_neg (by omega)]
    simp only [Bool.and_eq_true, decide_eq_true_eq] at h
    rw [tokB_1, h.1]; simp

theorem toksL_nextI {c : UInt8} {l : List UInt8} {t : TT} {e : Nat} (hc : c ≠ 32) (h : nextT (c :: l) = some (t, e)) : toksL (c :: l) = (toksL ((c :: l).drop e)).map (t :: ·) := by
  rw [toksL_next c l hc, h]
theorem toksL_tok {t : TT} {r : List UInt8} (ht : tokB t = true) (hr : Ends r) : toksL (tokT t ++ r) = (toksL r).map (t :: ·) := by
  obtain ⟨b, x, hb, h32⟩ := tokT_head ht
  have hn := next_tok ht hr
  rw [hb, List.cons_append] at hn ⊢
  rw [toksL_nextI h32 hn]
  congr 2
  simp
theorem toksL_par (r : List UInt8) : toksL (40 :: r) = (toksL r).map (parO :: ·) := by
  rw [toksL_nextI (by decide) (next_paren r)]
  rfl
/-- The tokens of a sum's text. -/
theorem toksL_text {t : Tr} (h : t.ok) : ∀ {r : List UInt8}, Ends r → toksL (t.text ++ r) = (toksL r).map (t.toks ++ ·) := by
  induction t with
  | leaf x =>
    intro r hr
    simp only [Tr.text, Tr.toks]
    rw [toksL_tok (tkOf_ok h.1 h.2) hr]
    rfl
  | one k t ih =>
    intro r hr
    have hk := sgn_ok k (by rcases h.1 with h | h <;> omega) (by rcases h.1 with h | h <;> omega)
    simp only [Tr.text, Tr.toks, List.cons_append, List.append_assoc]
    rw [toksL_par]
    have e1 := toksL_tok (r := 32 :: (t.text ++ (41 :: r))) hk (Ends.blank _)
    rw [show tokT (sgnT k) = (sgn k).data.toList from tokT_3 _ _] at e1
    rw [List.nil_append, e1, toksL_blank, ih h.2 (Ends.paren r)]
    have e2 := toksL_tok (t := parC) (r := r) (by decide +kernel) hr
    rw [show tokT parC = [41] from rfl, List.singleton_append] at e2
    rw [e2]
    cases toksL r <;> simp
  | two k a b iha ihb =>
    intro r hr
    have hk := sgn_ok k (by have := h.1; omega) (by have := h.1; omega)
    simp only [Tr.text, Tr.toks, List.cons_append, List.append_assoc]
    rw [toksL_par, iha h.2.1 (Ends.blank _), toksL_blank]
    have e1 := toksL_tok (r := 32 :: (b.text ++ (41 :: r))) hk (Ends.blank _)
    rw [show tokT (sgnT k) = (sgn k).data.toList from tokT_3 _ _] at e1
    rw [List.nil_append, e1, toksL_blank, ihb h.2.2 (Ends.paren r)]
    have e2 := toksL_tok (t := parC) (r := r) (by decide +kernel) hr
    rw [show tokT parC = [41] from rfl, List.singleton_append] at e2
    rw [e2]
    cases toksL r <;> simp
theorem toksB_sum {t : Tr} (h : t.ok) (s : ByteArray) (hs : s.data.toList = t.text) (hm : s.size ≤ 2000) : toksB s = some t.toks := by
  unfold toksB
  rw [if_pos hm, hs, Lib.size_eq, hs]
  have := toksL_text h (r := []) (.inl rfl)
  rw [List.append_nil, toksL_nil] at this
  simpa [toksL] using this
end Go.Proofs.YtfokdblojlmnlabDoor

/-
  The contract of the law's helper that holds two lists of cells against each other: of two that are one it answers true.
-/
namespace Go.Proofs.YtfokdblojlmnlabDoor
open Go.ChangeShapes Go.WideShapes Go.ChangeAt Go.RowKit
attribute [local go_sem ↓] Go.wp_at_zero Go.wp_at_succ

end Go.Proofs.YtfokdblojlmnlabDoor

/-
  Lists of Tokens: how one lies in memory, and the contracts of the law's helpers that measure, take over and compare.
-/
namespace Go.Proofs.YtfokdblojlmnlabDoor
open Go.ChangeShapes Go.WideShapes Go.ChangeAt Go.RowKit
attribute [local go_sem ↓] Go.wp_at_zero Go.wp_at_succ
attribute [local simp] World.cell?_alloc_past World.cell?_alloc_at World.frozen?_alloc_at cell_far cell_off cell_here World.frozen?_alloc_past

/-- The Tokens of a slice lie where it says. -/
def TokAt (w : World) (a : Option Addr) (l : List TT) : Prop :=
  ∀ j (h : j < l.length), ∃ b o, a = some ⟨b, o, none⟩ ∧ b < w.heap.size ∧ w.cell? ⟨b, o + j * 5, none⟩ = some (.int .i64 l[j].1) ∧ w.cell? ⟨b, o + j * 5 + 1, none⟩ = some (.string l[j].2.1) ∧ w.cell? ⟨b, o + j * 5 + 2, none⟩ = some (.int .i64 l[j].2.2.1) ∧ w.cell? ⟨b, o + j * 5 + 3, none⟩ = some (.int .i64 l[j].2.2.2.1) ∧ w.cell? ⟨b, o + j * 5 + 4, none⟩ = some (.string l[j].2.2.2.2)
theorem TokAt.below {w w' : World} {a : Option Addr} {l : List TT} (h : TokAt w a l) (hb : Below w.heap.size w w') : TokAt w' a l := by
  intro j hj
  obtain ⟨b, o, ha, hlt, c0, c1, c2, c3, c4⟩ := h j hj
  refine ⟨b, o, ha, Nat.lt_of_lt_of_le hlt hb.size, ?_, ?_, ?_, ?_, ?_⟩
  · rw [hb.cell (p := ⟨b, _, none⟩) hlt]; exact c0
  · rw [hb.cell (p := ⟨b, _, none⟩) hlt]; exact c1
  · rw [hb.cell (p := ⟨b, _, none⟩) hlt]; exact c2
  · rw [hb.cell (p := ⟨b, _, none⟩) hlt]; exact c3
  · rw [hb.cell (p := ⟨b, _, none⟩) hlt]; exact c4
/-- No text is longer than a text can be. -/
def FitTok (l : List TT) : Prop := ∀ j (h : j < l.length), ((l[j]).2.1).size ≤ maxLen ∧ ((l[j]).2.2.2.2).size ≤ maxLen
def oneTok (x : TT) : Nat := x.2.1.size + x.2.2.2.2.size
def weightTok (l : List TT) : Nat := (l.map oneTok).sum
theorem weightTok_take (l : List TT) (k : Nat) (h : k < l.length) : weightTok (l.take (k + 1)) = weightTok (l.take k) + oneTok l[k] := by
  unfold weightTok
  rw [List.take_succ_eq_append_getElem h, List.map_append, List.sum_append]; simp
theorem weightTok_le (l : List TT) (k : Nat) : weightTok (l.take k) ≤ weightTok l := by
  unfold weightTok
  conv => rhs; rw [← List.take_append_drop k l, List.map_append, List.sum_append]
  omega
/-- The cells of a list, one behind the other. -/
def flatTok : List TT → List Value
  | [] => []
  | x :: l => .int .i64 x.1 :: .string x.2.1 :: .int .i64 x.2.2.1 :: .int .i64 x.2.2.2.1 :: .string x.2.2.2.2 :: flatTok l
theorem flatTok_length (l : List TT) : (flatTok l).length = l.length * 5 := by
  induction l with
  | nil => rfl
  | cons x l ih => simp only [flatTok, List.length_cons, ih]; omega
theorem flatTok_append (l m : List TT) : flatTok (l ++ m) = flatTok l ++ flatTok m := by
  induction l with
  | nil => rfl
  | cons x l ih => simp only [List.cons_append, flatTok, ih]
theorem flatTok_at (l : List TT) (j : Nat) (h : j < l.length) : (flatTok l)[j * 5]? = some (.int .i64 l[j].1) ∧ (flatTok l)[j * 5 + 1]? = some (.string l[j].2.1) ∧ (flatTok l)[j * 5 + 2]? = some (.int .i64 l[j].2.2.1) ∧ (flatTok l)[j * 5 + 3]? = some (.int .i64 l[j].2.2.2.1) ∧ (flatTok l)[j * 5 + 4]? = some (.string l[j].2.2.2.2) := by
  induction l generalizing j with
  | nil => simp at h
  | cons x l ih =>
    cases j with
    | zero => exact ⟨rfl, rfl, rfl, rfl, rfl⟩
    | succ j =>
      have := ih j (by simpa using h)
      have e0 : (j + 1) * 5 = j * 5 + 1 + 1 + 1 + 1 + 1 := by omega
      have e1 : (j + 1) * 5 + 1 = j * 5 + 1 + 1 + 1 + 1 + 1 + 1 := by omega
      have e2 : (j + 1) * 5 + 2 = j * 5 + 2 + 1 + 1 + 1 + 1 + 1 := by omega
      have e3 : (j + 1) * 5 + 3 = j * 5 + 3 + 1 + 1 + 1 + 1 + 1 := by omega
      have e4 : (j + 1) * 5 + 4 = j * 5 + 4 + 1 + 1 + 1 + 1 + 1 := by omega
      rw [e1, e2, e3, e4, e0]
      simpa only [flatTok, List.getElem?_cons_succ, List.getElem_cons_succ] using this
theorem flatTok_step (l : List TT) (k : Nat) (h : k < l.length) (z : List Value) (hz : z.length = l.length * 5) :
    ((((((flatTok (l.take k) ++ z.drop (k * 5)).set (k * 5) (.int .i64 l[k].1)).set (k * 5 + 1) (.string l[k].2.1)).set (k * 5 + 2) (.int .i64 l[k].2.2.1)).set (k * 5 + 3) (.int .i64 l[k].2.2.2.1)).set (k * 5 + 4) (.string l[k].2.2.2.2)) = flatTok (l.take (k + 1)) ++ z.drop ((k + 1) * 5) := by
  have hl : (flatTok (l.take k)).length = k * 5 := by rw [flatTok_length, List.length_take]; congr 1; omega
  obtain ⟨a0, a1, a2, a3, a4, r, hr⟩ : ∃ a0 a1 a2 a3 a4 r, z.drop (k * 5) = a0 :: a1 :: a2 :: a3 :: a4 :: r := by
    have hd : (z.drop (k * 5)).length ≥ 5 := by rw [List.length_drop]; omega
    match hm : z.drop (k * 5), hd with
    | a0 :: a1 :: a2 :: a3 :: a4 :: r, _ => exact ⟨a0, a1, a2, a3, a4, r, rfl⟩
  have hr3 : z.drop ((k + 1) * 5) = r := by
    rw [show (k + 1) * 5 = k * 5 + 5 by omega, ← List.drop_drop, hr]; rfl
  rw [List.take_succ_eq_append_getElem h, flatTok_append, hr, hr3]
  rw [List.set_append_right _ _ (by omega), List.set_append_right _ _ (by omega), List.set_append_right _ _ (by omega), List.set_append_right _ _ (by omega), List.set_append_right _ _ (by omega), hl]
  rw [show k * 5 - k * 5 = 0 by omega, show k * 5 + 1 - k * 5 = 1 by omega, show k * 5 + 2 - k * 5 = 2 by omega, show k * 5 + 3 - k * 5 = 3 by omega, show k * 5 + 4 - k * 5 = 4 by omega]
  simp [flatTok]
/-- What is owned lies there. -/
theorem ownTok {w : World} {base g cap : Nat} {e : TypeId} {l : List TT} (h : w.ownsRow base e 5 (.slice (some ⟨g, 0, none⟩) l.length cap) l.length (flatTok l)) : TokAt w (some ⟨g, 0, none⟩) l := by
  have hlt : g < w.heap.size := (h.lt g rfl).2
  intro j hj
  obtain ⟨f0, f1, f2, f3, f4⟩ := flatTok_at l j hj
  refine ⟨g, 0, rfl, hlt, ?_, ?_, ?_, ?_, ?_⟩
  · rw [show 0 + j * 5 = j * 5 by omega, h.cellAt _ (by omega)]; exact f0
  · rw [show 0 + j * 5 + 1 = j * 5 + 1 by omega, h.cellAt _ (by omega)]; exact f1
  · rw [show 0 + j * 5 + 2 = j * 5 + 2 by omega, h.cellAt _ (by omega)]; exact f2
  · rw [show 0 + j * 5 + 3 = j * 5 + 3 by omega, h.cellAt _ (by omega)]; exact f3
  · rw [show 0 + j * 5 + 4 = j * 5 + 4 by omega, h.cellAt _ (by omega)]; exact f4

/-- Five cells of a block are written. -/
theorem five {w : World} {b : Nat} {a0 a1 a2 a3 a4 : Value} (v0 v1 v2 v3 v4 : Value) (h0 : w.cell? ⟨b, 0, none⟩ = some a0) (h1 : w.cell? ⟨b, 1, none⟩ = some a1) (h2 : w.cell? ⟨b, 2, none⟩ = some a2) (h3 : w.cell? ⟨b, 3, none⟩ = some a3) (h4 : w.cell? ⟨b, 4, none⟩ = some a4) :
    (((((w.setCell ⟨b, 0, none⟩ v0).setCell ⟨b, 1, none⟩ v1).setCell ⟨b, 2, none⟩ v2).setCell ⟨b, 3, none⟩ v3).setCell ⟨b, 4, none⟩ v4).cell? ⟨b, 0, none⟩ = some v0 ∧ (((((w.setCell ⟨b, 0, none⟩ v0).setCell ⟨b, 1, none⟩ v1).setCell ⟨b, 2, none⟩ v2).setCell ⟨b, 3, none⟩ v3).setCell ⟨b, 4, none⟩ v4).cell? ⟨b, 1, none⟩ = some v1 ∧ (((((w.setCell ⟨b, 0, none⟩ v0).setCell ⟨b, 1, none⟩ v1).setCell ⟨b, 2, none⟩ v2).setCell ⟨b, 3, none⟩ v3).setCell ⟨b, 4, none⟩ v4).cell? ⟨b, 2, none⟩ = some v2 ∧ (((((w.setCell ⟨b, 0, none⟩ v0).setCell ⟨b, 1, none⟩ v1).setCell ⟨b, 2, none⟩ v2).setCell ⟨b, 3, none⟩ v3).setCell ⟨b, 4, none⟩ v4).cell? ⟨b, 3, none⟩ = some v3 ∧ (((((w.setCell ⟨b, 0, none⟩ v0).setCell ⟨b, 1, none⟩ v1).setCell ⟨b, 2, none⟩ v2).setCell ⟨b, 3, none⟩ v3).setCell ⟨b, 4, none⟩ v4).cell? ⟨b, 4, none⟩ = some v4 := by
  refine ⟨?_, ?_, ?_, ?_, ?_⟩
  · rw [cell_off _ _ _ _ _ (by omega), cell_off _ _ _ _ _ (by omega), cell_off _ _ _ _ _ (by omega), cell_off _ _ _ _ _ (by omega), cell_here _ _ _ _ (by rw [h0]; rfl)]
  · rw [cell_off _ _ _ _ _ (by omega), cell_off _ _ _ _ _ (by omega), cell_off _ _ _ _ _ (by omega), cell_here _ _ _ _ (by rw [cell_off _ _ _ _ _ (by omega), h1]; rfl)]
  · rw [cell_off _ _ _ _ _ (by omega), cell_off _ _ _ _ _ (by omega), cell_here _ _ _ _ (by rw [cell_off _ _ _ _ _ (by omega), cell_off _ _ _ _ _ (by omega), h2]; rfl)]
  · rw [cell_off _ _ _ _ _ (by omega), cell_here _ _ _ _ (by rw [cell_off _ _ _ _ _ (by omega), cell_off _ _ _ _ _ (by omega), cell_off _ _ _ _ _ (by omega), h3]; rfl)]
  · rw [cell_here _ _ _ _ (by rw [cell_off _ _ _ _ _ (by omega), cell_off _ _ _ _ _ (by omega), cell_off _ _ _ _ _ (by omega), cell_off _ _ _ _ _ (by omega), h4]; rfl)]
end Go.Proofs.YtfokdblojlmnlabDoor

/-
  Lists of Items: how one lies in memory, and the contracts of the law's helpers that measure, take over and compare.
-/
namespace Go.Proofs.YtfokdblojlmnlabDoor
open Go.ChangeShapes Go.WideShapes Go.ChangeAt Go.RowKit
attribute [local go_sem ↓] Go.wp_at_zero Go.wp_at_succ
attribute [local simp] World.cell?_alloc_past World.cell?_alloc_at World.frozen?_alloc_at cell_far cell_off cell_here World.frozen?_alloc_past

/-- The Items of a slice lie where it says. -/
def ItmAt (w : World) (a : Option Addr) (l : List TI) : Prop :=
  ∀ j (h : j < l.length), ∃ b o, a = some ⟨b, o, none⟩ ∧ b < w.heap.size ∧ w.cell? ⟨b, o + j * 5, none⟩ = some (.int .i64 l[j].1) ∧ w.cell? ⟨b, o + j * 5 + 1, none⟩ = some (.int .i64 l[j].2.1.1) ∧ w.cell? ⟨b, o + j * 5 + 2, none⟩ = some (.int .i64 l[j].2.1.2.1) ∧ w.cell? ⟨b, o + j * 5 + 3, none⟩ = some (.string l[j].2.1.2.2) ∧ w.cell? ⟨b, o + j * 5 + 4, none⟩ = some (.string l[j].2.2)
theorem ItmAt.below {w w' : World} {a : Option Addr} {l : List TI} (h : ItmAt w a l) (hb : Below w.heap.size w w') : ItmAt w' a l := by
  intro j hj
  obtain ⟨b, o, ha, hlt, c0, c1, c2, c3, c4⟩ := h j hj
  refine ⟨b, o, ha, Nat.lt_of_lt_of_le hlt hb.size, ?_, ?_, ?_, ?_, ?_⟩
  · rw [hb.cell (p := ⟨b, _, none⟩) hlt]; exact c0
  · rw [hb.cell (p := ⟨b, _, none⟩) hlt]; exact c1
  · rw [hb.cell (p := ⟨b, _, none⟩) hlt]; exact c2
  · rw [hb.cell (p := ⟨b, _, none⟩) hlt]; exact c3
  · rw [hb.cell (p := ⟨b, _, none⟩) hlt]; exact c4
/-- No text is longer than a text can be. -/
def FitItm (l : List TI) : Prop := ∀ j (h : j < l.length), ((l[j]).2.1.2.2).size ≤ maxLen ∧ ((l[j]).2.2).size ≤ maxLen
def oneItm (x : TI) : Nat := x.2.1.2.2.size + x.2.2.size
def weightItm (l : List TI) : Nat := (l.map oneItm).sum
theorem weightItm_take (l : List TI) (k : Nat) (h : k < l.length) : weightItm (l.take (k + 1)) = weightItm (l.take k) + oneItm l[k] := by
  unfold weightItm
  rw [List.take_succ_eq_append_getElem h, List.map_append, List.sum_append]; simp
theorem weightItm_le (l : List TI) (k : Nat) : weightItm (l.take k) ≤ weightItm l := by
  unfold weightItm
  conv => rhs; rw [← List.take_append_drop k l, List.map_append, List.sum_append]
  omega
/-- The cells of a list, one behind the other. -/
def flatItm : List TI → List Value
  | [] => []
  | x :: l => .int .i64 x.1 :: .int .i64 x.2.1.1 :: .int .i64 x.2.1.2.1 :: .string x.2.1.2.2 :: .string x.2.2 :: flatItm l
theorem flatItm_length (l : List TI) : (flatItm l).length = l.length * 5 := by
  induction l with
  | nil => rfl
  | cons x l ih => simp only [flatItm, List.length_cons, ih]; omega
theorem flatItm_append (l m : List TI) : flatItm (l ++ m) = flatItm l ++ flatItm m := by
  induction l with
  | nil => rfl
  | cons x l ih => simp only [List.cons_append, flatItm, ih]
theorem flatItm_at (l : List TI) (j : Nat) (h : j < l.length) : (flatItm l)[j * 5]? = some (.int .i64 l[j].1) ∧ (flatItm l)[j * 5 + 1]? = some (.int .i64 l[j].2.1.1) ∧ (flatItm l)[j * 5 + 2]? = some (.int .i64 l[j].2.1.2.1) ∧ (flatItm l)[j * 5 + 3]? = some (.string l[j].2.1.2.2) ∧ (flatItm l)[j * 5 + 4]? = some (.string l[j].2.2) := by
  induction l generalizing j with
  | nil => simp at h
  | cons x l ih =>
    cases j with
    | zero => exact ⟨rfl, rfl, rfl, rfl, rfl⟩
    | succ j =>
      have := ih j (by simpa using h)
      have e0 : (j + 1) * 5 = j * 5 + 1 + 1 + 1 + 1 + 1 := by omega
      have e1 : (j + 1) * 5 + 1 = j * 5 + 1 + 1 + 1 + 1 + 1 + 1 := by omega
      have e2 : (j + 1) * 5 + 2 = j * 5 + 2 + 1 + 1 + 1 + 1 + 1 := by omega
      have e3 : (j + 1) * 5 + 3 = j * 5 + 3 + 1 + 1 + 1 + 1 + 1 := by omega
      have e4 : (j + 1) * 5 + 4 = j * 5 + 4 + 1 + 1 + 1 + 1 + 1 := by omega
      rw [e1, e2, e3, e4, e0]
      simpa only [flatItm, List.getElem?_cons_succ, List.getElem_cons_succ] using this
theorem flatItm_step (l : List TI) (k : Nat) (h : k < l.length) (z : List Value) (hz : z.length = l.length * 5) :
    ((((((flatItm (l.take k) ++ z.drop (k * 5)).set (k * 5) (.int .i64 l[k].1)).set (k * 5 + 1) (.int .i64 l[k].2.1.1)).set (k * 5 + 2) (.int .i64 l[k].2.1.2.1)).set (k * 5 + 3) (.string l[k].2.1.2.2)).set (k * 5 + 4) (.string l[k].2.2)) = flatItm (l.take (k + 1)) ++ z.drop ((k + 1) * 5) := by
  have hl : (flatItm (l.take k)).length = k * 5 := by rw [flatItm_length, List.length_take]; congr 1; omega
  obtain ⟨a0, a1, a2, a3, a4, r, hr⟩ : ∃ a0 a1 a2 a3 a4 r, z.drop (k * 5) = a0 :: a1 :: a2 :: a3 :: a4 :: r := by
    have hd : (z.drop (k * 5)).length ≥ 5 := by rw [List.length_drop]; omega
    match hm : z.drop (k * 5), hd with
    | a0 :: a1 :: a2 :: a3 :: a4 :: r, _ => exact ⟨a0, a1, a2, a3, a4, r, rfl⟩
  have hr3 : z.drop ((k + 1) * 5) = r := by
    rw [show (k + 1) * 5 = k * 5 + 5 by omega, ← List.drop_drop, hr]; rfl
  rw [List.take_succ_eq_append_getElem h, flatItm_append, hr, hr3]
  rw [List.set_append_right _ _ (by omega), List.set_append_right _ _ (by omega), List.set_append_right _ _ (by omega), List.set_append_right _ _ (by omega), List.set_append_right _ _ (by omega), hl]
  rw [show k * 5 - k * 5 = 0 by omega, show k * 5 + 1 - k * 5 = 1 by omega, show k * 5 + 2 - k * 5 = 2 by omega, show k * 5 + 3 - k * 5 = 3 by omega, show k * 5 + 4 - k * 5 = 4 by omega]
  simp [flatItm]
/-- What is owned lies there. -/
theorem ownItm {w : World} {base g cap : Nat} {e : TypeId} {l : List TI} (h : w.ownsRow base e 5 (.slice (some ⟨g, 0, none⟩) l.length cap) l.length (flatItm l)) : ItmAt w (some ⟨g, 0, none⟩) l := by
  have hlt : g < w.heap.size := (h.lt g rfl).2
  intro j hj
  obtain ⟨f0, f1, f2, f3, f4⟩ := flatItm_at l j hj
  refine ⟨g, 0, rfl, hlt, ?_, ?_, ?_, ?_, ?_⟩
  · rw [show 0 + j * 5 = j * 5 by omega, h.cellAt _ (by omega)]; exact f0
  · rw [show 0 + j * 5 + 1 = j * 5 + 1 by omega, h.cellAt _ (by omega)]; exact f1
  · rw [show 0 + j * 5 + 2 = j * 5 + 2 by omega, h.cellAt _ (by omega)]; exact f2
  · rw [show 0 + j * 5 + 3 = j * 5 + 3 by omega, h.cellAt _ (by omega)]; exact f3
  · rw [show 0 + j * 5 + 4 = j * 5 + 4 by omega, h.cellAt _ (by omega)]; exact f4

end Go.Proofs.YtfokdblojlmnlabDoor

/-
  The contracts of the model's questions for a token: a sign, a name that is no other word, a right token.
-/
namespace Go.Proofs.YtfokdblojlmnlabDoor
open Go.ChangeShapes Go.WideShapes Go.ChangeAt Go.RowKit
attribute [local go_sem ↓] Go.wp_at_zero Go.wp_at_succ
attribute [local simp] World.cell?_alloc_past World.cell?_alloc_at World.frozen?_alloc_at cell_far cell_off cell_here World.frozen?_alloc_past

theorem signs_spec (w : World) :
    Calls Tryd.prog 35 #[] w fun e w' => ∃ g, e = .returned (.slice (some ⟨g, 0, none⟩) 4 4) ∧ StrsAt w' (some ⟨g, 0, none⟩) signW ∧ Below w.heap.size w w' := by
  go_enter Tryd.func35, Tryd.ntmps35
  go_wp2
  go_ret
  refine ⟨w.heap.size, rfl, ?_, (Below.refl _ _).alloc (Nat.le_refl _) _⟩
  intro j hj
  simp only [signW, List.length_cons, List.length_nil] at hj
  refine ⟨w.heap.size, 0, rfl, by simp, ?_⟩
  match j, hj with
  | 0, _ => simp [signW]
  | 1, _ => simp [signW]
  | 2, _ => simp [signW]
  | 3, _ => simp [signW]
theorem at_specT (n : Nat) (a : Option Addr) (cap : Nat) (l : List ByteArray) (hn : l.length = n) (s : ByteArray) (w : World) (hrow : StrsAt w a l) (hm : n ≤ maxLen) :
    Calls Tryd.prog 34 #[.slice a n cap, .string s] w fun e w' => ∃ r, e = .returned (.int .i64 r) ∧ AtIs l s r ∧ Below w.heap.size w w' := by
  subst hn; exact at_spec a cap l s w hrow hm
set_option maxHeartbeats 1000000 in
theorem sign_spec (s : ByteArray) (w : World) (b : Bool) (hb : signB s = b) :
    Calls Tryd.prog 15 #[.string s] w fun e w' => e = .returned (.bool b) ∧ Below w.heap.size w w' := by
  have HB : Hid (signB s = b) := hb
  clear hb
  go_enter Tryd.func15, Tryd.ntmps15
  go_wp2_with fail
  refine (signs_spec w).mono ?_
  rintro e w1 ⟨g, rfl, hst, hb1⟩
  go_wp2_with fail
  refine (at_specT 4 _ _ signW rfl s _ hst (by unfold maxLen; omega)).mono ?_
  rintro e w2 ⟨r, rfl, hat, hb2⟩
  have hx := chain hb1 hb2
  have hrr := hat.neg
  by_cases hr : 0 ≤ r
  · have hin : inB signW s = true := inB_iff.2 (hrr.1 hr)
    obtain rfl : b = true := by rw [← HB.out]; unfold signB; rw [hin, Bool.true_or]
    clear hat hst hrr
    go_wp2
    go_ret
    exact ⟨rfl, hx⟩
  · have hin : inB signW s = false := inB_no.2 (fun h => hr (hrr.2 h))
    have HB2 : Hid (inB signO s = b) := by
      have : inB signO s = b := by rw [← HB.out]; unfold signB; rw [hin, Bool.false_or]
      exact this
    have hr' : r < 0 := by omega
    clear hat hst hrr hin HB
    go_wp2_with fail
    obtain ⟨V, hV⟩ : ∃ V, V = (w2.alloc (.cells #[.string ⟨#[43]⟩, .string ⟨#[45]⟩, .string ⟨#[42]⟩, .string ⟨#[47]⟩, .string ⟨#[61]⟩, .string ⟨#[60]⟩, .string ⟨#[40]⟩, .string ⟨#[41]⟩] 9)) := ⟨_, rfl⟩
    rw [← hV]
    have hA : Below w2.heap.size w2 V := by rw [hV]; exact (Below.refl _ _).alloc (Nat.le_refl _) _
    have hso : StrsAt V (some ⟨w2.heap.size, 0, none⟩) signO := by
      intro j hj
      simp only [signO, List.length_cons, List.length_nil] at hj
      refine ⟨w2.heap.size, 0, rfl, by rw [hV]; simp, ?_⟩
      rw [hV]
      match j, hj with
      | 0, _ => simp [signO]
      | 1, _ => simp [signO]
      | 2, _ => simp [signO]
      | 3, _ => simp [signO]
      | 4, _ => simp [signO]
      | 5, _ => simp [signO]
      | 6, _ => simp [signO]
      | 7, _ => simp [signO]
    clear hV
    refine (at_specT 8 _ _ signO rfl s _ hso (by unfold maxLen; omega)).mono ?_
    rintro e w3 ⟨r3, rfl, hat3, hb3⟩
    have hx3 := chain (chain hx hA) hb3
    have hrr3 := hat3.neg
    cases b
    · have h3 : ¬ 0 ≤ r3 := fun h => inB_no.1 HB2.out (hrr3.1 h)
      have h3' : r3 < 0 := by omega
      clear hat3 hrr3
      go_wp2
      go_ret
      exact ⟨ret_bool (by rw [decide_eq_false (by omega), decide_eq_false (by omega)]; rfl), hx3⟩
    · have h3 : 0 ≤ r3 := hrr3.2 (inB_iff.1 HB2.out)
      clear hat3 hrr3
      go_wp2
      go_ret
      exact ⟨rfl, hx3⟩
theorem word_lit (s : ByteArray) (l : List UInt8) (b : Bool) (h : decide (s.data.toList ≠ l) = b) : (s.toList == l) = !b := by
  rw [Lib.toList_data, ← h]
  by_cases e : s.data.toList = l
  · rw [e]; simp
  · rw [decide_eq_true e]; simpa using e
set_option maxHeartbeats 1000000 in
theorem namek_spec (s : ByteArray) (w : World) (hs : s.size ≤ maxLen) (b : Bool) (hb : nameK s = b) :
    Calls Tryd.prog 16 #[.string s] w fun e w' => e = .returned (.bool b) ∧ Below w.heap.size w w' := by
  have HB : Hid (nameK s = b) := hb
  clear hb
  obtain ⟨n1, hn1⟩ : ∃ x, nameB s = x := ⟨_, rfl⟩
  have HN1 : Hid (nameB s = n1) := hn1
  go_enter Tryd.func16, Tryd.ntmps16
  go_wp2_with fail
  refine (name_spec s w hs n1 hn1).mono ?_
  rintro e w1 ⟨rfl, rfl⟩
  cases n1
  · obtain rfl : b = false := by rw [← HB.out]; unfold nameK; rw [hn1, Bool.false_and]
    clear hn1
    go_wp2
    go_ret
    exact ⟨rfl, Below.refl _ _⟩
  clear hn1
  go_wp2_with fail
  refine (signs_spec w1).mono ?_
  rintro e w2 ⟨g, rfl, hst, hb2⟩
  go_wp2_with fail
  refine (at_specT 4 _ _ signW rfl s _ hst (by unfold maxLen; omega)).mono ?_
  rintro e w3 ⟨r, rfl, hat, hb3⟩
  have hx := chain hb2 hb3
  have hrr := hat.neg
  by_cases hr : 0 ≤ r
  · have hin : inB signW s = true := inB_iff.2 (hrr.1 hr)
    obtain rfl : b = false := by rw [← HB.out]; unfold nameK; rw [HN1.out, hin]; rfl
    have hr' : ¬ r < 0 := by omega
    clear hat hst hrr
    go_wp2
    go_ret
    exact ⟨rfl, hx⟩
  · have hin : inB signW s = false := inB_no.2 (fun h => hr (hrr.2 h))
    have HB2 : Hid ((decide (s.data.toList ≠ wNone) && (decide (s.data.toList ≠ wYes) && decide (s.data.toList ≠ wNo))) = b) := by
      have : (decide (s.data.toList ≠ wNone) && (decide (s.data.toList ≠ wYes) && decide (s.data.toList ≠ wNo))) = b := by
        rw [← HB.out]; unfold nameK; rw [HN1.out, hin]; rfl
      exact this
    have hr' : r < 0 := by omega
    obtain ⟨b1, h1⟩ : ∃ x, decide (s.data.toList ≠ wNone) = x := ⟨_, rfl⟩
    obtain ⟨b2, h2⟩ : ∃ x, decide (s.data.toList ≠ wYes) = x := ⟨_, rfl⟩
    obtain ⟨b3, h3⟩ : ∃ x, decide (s.data.toList ≠ wNo) = x := ⟨_, rfl⟩
    have e1 := word_lit s wNone b1 h1
    have e2 := word_lit s wYes b2 h2
    have e3 := word_lit s wNo b3 h3
    have HBB : Hid ((b1 && (b2 && b3)) = b) := by
      have : (b1 && (b2 && b3)) = b := by rw [← HB2.out, h1, h2, h3]
      exact this
    unfold wNone at e1
    unfold wYes at e2
    unfold wNo at e3
    clear hat hst hrr hin HB HB2 h1 h2 h3
    cases b1
    · obtain rfl : false = b := HBB.out
      go_wp2
      go_ret
      exact ⟨rfl, hx⟩
    cases b2
    · obtain rfl : false = b := HBB.out
      go_wp2
      go_ret
      exact ⟨rfl, hx⟩
    cases b3
    · obtain rfl : false = b := HBB.out
      go_wp2
      go_ret
      exact ⟨rfl, hx⟩
    · obtain rfl : true = b := HBB.out
      go_wp2
      go_ret
      exact ⟨rfl, hx⟩
theorem zeroC_same (c : CK) (b : Bool) (h : decide (c = zeroC) = b) : sameB c.1 c.2.1 c.2.2 0 0 ⟨#[]⟩ = b := by
  rw [← h]
  rw [Bool.eq_iff_iff, sameB_eq, decide_eq_true_eq]
  obtain ⟨x, y, z⟩ := c
  unfold zeroC
  simp
end Go.Proofs.YtfokdblojlmnlabDoor

/-
  The contracts of the model's questions for an item and for a sum.
-/
namespace Go.Proofs.YtfokdblojlmnlabDoor
open Go.ChangeShapes Go.WideShapes Go.ChangeAt Go.RowKit
attribute [local go_sem ↓] Go.wp_at_zero Go.wp_at_succ
attribute [local simp] World.cell?_alloc_past World.cell?_alloc_at World.frozen?_alloc_at cell_far cell_off cell_here World.frozen?_alloc_past

theorem zero_txt (s : ByteArray) (b : Bool) (h : decide (s = ⟨#[]⟩) = b) : (s.toList == []) = b := by
  rw [← h]
  by_cases e : s = ⟨#[]⟩
  · rw [decide_eq_true e, e]; simp [Lib.toList_data]
  · rw [decide_eq_false e]
    have := txt_other e
    rw [show (⟨#[]⟩ : ByteArray).toList = [] from by rw [Lib.toList_data]] at this
    exact this
theorem run_eqlI (k ck cn : Int) (ct s : ByteArray) (w : World) :
    (binOp .eql 46 (.agg #[.int .i64 k, .int .i64 ck, .int .i64 cn, .string ct, .string s]) (.agg #[.int .i64 k, .int .i64 0, .int .i64 0, .string ⟨#[]⟩, .string ⟨#[]⟩])).run Tryd.prog w = .ok (.bool ((ck == 0 && cn == 0) && (ct.toList == [] && s.toList == []))) w := by
  by_cases h1 : ck = 0
  · by_cases h2 : cn = 0
    · subst h1 h2
      by_cases h3 : ct.toList = []
      · by_cases h4 : s.toList = []
        · go_simp
        · go_simp
      · go_simp
    · go_simp
  · go_simp
theorem heap_step (l : List TI) (k : Nat) (h : k < l.length) (c : Nat) (hc : heapN (l.take k) 0 = some c) : heapN (l.take (k + 1)) 0 = if itemB l[k] = true ∧ needsI l[k].1 ≤ c then some (c + 1 - needsI l[k].1) else none := by
  rw [List.take_succ_eq_append_getElem h, heapN_append, hc]
  simp only [Option.bind_some, heapN]
theorem heap_no (l : List TI) (k : Nat) (h : heapN (l.take k) 0 = none) : sumB l = false := by
  unfold sumB
  have : heapN l 0 = none := by
    conv => lhs; rw [← List.take_append_drop k l]
    rw [heapN_append, h]; rfl
  rw [this]; simp
end Go.Proofs.YtfokdblojlmnlabDoor

/-
  A block of five cells that was laid, behind what came later.
-/
namespace Go.Proofs.YtfokdblojlmnlabDoor
open Go.ChangeShapes Go.WideShapes Go.ChangeAt Go.RowKit

theorem box5 {w w1 : World} {a b c d e : Value} {T : TypeId} (h : Below (w.alloc (.cells #[a, b, c, d, e] T)).heap.size (w.alloc (.cells #[a, b, c, d, e] T)) w1) :
    w1.cell? ⟨w.heap.size, 0, none⟩ = some a ∧ w1.cell? ⟨w.heap.size, 1, none⟩ = some b ∧ w1.cell? ⟨w.heap.size, 2, none⟩ = some c ∧ w1.cell? ⟨w.heap.size, 3, none⟩ = some d ∧ w1.cell? ⟨w.heap.size, 4, none⟩ = some e ∧ w.heap.size < w1.heap.size := by
  have hs := h.size
  have key : ∀ o, w1.cell? ⟨w.heap.size, o, none⟩ = (w.alloc (.cells #[a, b, c, d, e] T)).cell? ⟨w.heap.size, o, none⟩ := fun o => h.cell (p := ⟨w.heap.size, o, none⟩) (by simp)
  simp only [key]
  refine ⟨?_, ?_, ?_, ?_, ?_, by simp at hs; omega⟩ <;> simp [World.cell?_alloc_at]

theorem later5 {w w' : World} {B : Nat} {a b c d e : Value} (hb : Below w.heap.size w w') (h : w.cell? ⟨B, 0, none⟩ = some a ∧ w.cell? ⟨B, 1, none⟩ = some b ∧ w.cell? ⟨B, 2, none⟩ = some c ∧ w.cell? ⟨B, 3, none⟩ = some d ∧ w.cell? ⟨B, 4, none⟩ = some e ∧ B < w.heap.size) :
    w'.cell? ⟨B, 0, none⟩ = some a ∧ w'.cell? ⟨B, 1, none⟩ = some b ∧ w'.cell? ⟨B, 2, none⟩ = some c ∧ w'.cell? ⟨B, 3, none⟩ = some d ∧ w'.cell? ⟨B, 4, none⟩ = some e ∧ B < w'.heap.size := by
  obtain ⟨h0, h1, h2, h3, h4, hB⟩ := h
  have key : ∀ o, w'.cell? ⟨B, o, none⟩ = w.cell? ⟨B, o, none⟩ := fun o => hb.cell (p := ⟨B, o, none⟩) hB
  have hs := hb.size
  exact ⟨(key _).trans h0, (key _).trans h1, (key _).trans h2, (key _).trans h3, (key _).trans h4, by omega⟩

end Go.Proofs.YtfokdblojlmnlabDoor

/-
  The contract of the model's question whether texts are names, no two alike, and not too many.
-/
namespace Go.Proofs.YtfokdblojlmnlabDoor
open Go.ChangeShapes Go.WideShapes Go.ChangeAt Go.RowKit
attribute [local go_sem ↓] Go.wp_at_zero Go.wp_at_succ
attribute [local simp] World.cell?_alloc_past World.cell?_alloc_at World.frozen?_alloc_at cell_far cell_off cell_here World.frozen?_alloc_past

theorem StrsAt.take {w : World} {a : Option Addr} {l : List ByteArray} (h : StrsAt w a l) (k : Nat) : StrsAt w a (l.take k) := by
  intro j hj
  have hj' : j < l.length := by rw [List.length_take] at hj; omega
  rw [List.getElem_take]
  exact h j hj'
theorem at_specN (n : Nat) (a : Option Addr) (cap : Nat) (l : List ByteArray) (hn : l.length = n) (s : ByteArray) (w : World) (hrow : StrsAt w a l) (hm : n ≤ maxLen) :
    Calls Tryd.prog 34 #[.slice a n cap, .string s] w fun e w' => ∃ r, e = .returned (.int .i64 r) ∧ AtIs l s r ∧ Below w.heap.size w w' := by
  subst hn; exact at_spec a cap l s w hrow hm

end Go.Proofs.YtfokdblojlmnlabDoor

/-
  The contracts of the program's questions on names: whether a text is one, whether all of a list are, whether no two are alike.
-/
namespace Go.Proofs.YtfokdblojlmnlabDoor
open Go.ChangeShapes Go.WideShapes Go.ChangeAt Go.RowKit
attribute [local go_sem ↓] Go.wp_at_zero Go.wp_at_succ
attribute [local simp] World.cell?_alloc_past World.cell?_alloc_at World.frozen?_alloc_at cell_far cell_off cell_here World.frozen?_alloc_past

theorem nameB_short {s : ByteArray} (h : ¬ (1 : Int) ≤ (s.size : Int)) : nameB s = false := by
  have : s = ⟨#[]⟩ := by
    apply ByteArray.ext
    apply Array.eq_empty_of_size_eq_zero
    have : s.size = 0 := by omega
    exact this
  rw [this]; rfl
theorem nameB_long {s : ByteArray} (h : ¬ (s.size : Int) ≤ 6) : nameB s = false := by
  unfold nameB
  rw [decide_eq_false h, Bool.and_false, Bool.and_false]
theorem nameB_mid {s : ByteArray} (h : (1 : Int) ≤ (s.size : Int)) (h6 : (s.size : Int) ≤ 6) : nameB s = (lets s.data.toList && decide ((s.size : Int) ≤ 12)) := by
  unfold nameB
  rw [decide_eq_true h6, decide_eq_true (by omega : (s.size : Int) ≤ 12), decide_eq_true, Bool.true_and]
  intro e
  rw [e] at h
  exact absurd h (by decide)

theorem name_impl (s : ByteArray) (w : World) (hs : s.size ≤ maxLen) (b : Bool) (hb : nameB s = b) :
    Calls Tryd.prog 38 #[.string s] w fun e w' => e = .returned (.bool b) ∧ w' = w := by
  have hm := hs
  unfold maxLen at hm
  by_cases h1 : (1 : Int) ≤ (s.size : Int)
  · by_cases h6 : (s.size : Int) ≤ 6
    · rw [nameB_mid h1 h6] at hb
      have HB : Hid ((lets s.data.toList && decide ((s.size : Int) ≤ 12)) = b) := hb
      clear hb
      go_enter Tryd.func38, Tryd.ntmps38
      go_wp2_with fail
      refine (textFits_impl s _ hs).mono ?_
      rintro e w' ⟨rfl, rfl⟩
      rw [HB.out]
      go_wp2
      go_ret
      exact ⟨rfl, rfl⟩
    · rw [nameB_long h6] at hb
      subst hb
      go_enter Tryd.func38, Tryd.ntmps38
      go_wp2
      go_ret
      exact ⟨rfl, rfl⟩
  · rw [nameB_short h1] at hb
    subst hb
    go_enter Tryd.func38, Tryd.ntmps38
    go_wp2
    go_ret
    exact ⟨rfl, rfl⟩

end Go.Proofs.YtfokdblojlmnlabDoor

/-
  Package-level variables of the library in later worlds: the table of powers of ten, the two sentinels.
-/
namespace Go.Proofs.YtfokdblojlmnlabDoor
open Go.ChangeShapes Go.WideShapes Go.ChangeAt Go.RowKit

theorem var_below {P : Program} {w w' : World} {name : String} {v : Array Value} (h : w.var? P name = some v) (hb : Below w.heap.size w w') : w'.var? P name = some v := by
  unfold World.var? at h ⊢
  cases hg : P.globalNamed name with
  | none => rw [hg] at h; cases h
  | some g =>
    rw [hg] at h
    have h2 : (match w.heap[g]? with | some (.cells cs _ _) => some cs | _ => none) = some v := h
    have hlt : g < w.heap.size := by
      by_cases hl : g < w.heap.size
      · exact hl
      · rw [Array.getElem?_eq_none (by omega)] at h2; cases h2
    show (match w'.heap[g]? with | some (.cells cs _ _) => some cs | _ => none) = some v
    rw [hb.block g hlt]; exact h2
/-- The table of powers of ten holds them. -/
def PowAt (w : World) : Prop := Lib.TabIs Tryd.prog w "internal/strconv.uint64pow10" .u64 Lib.pow10Tab
theorem PowAt.below {w w' : World} (h : PowAt w) (hb : Below w.heap.size w w') : PowAt w' := var_below h hb
/-- The two sentinels hold something. -/
def ErrAt (w : World) : Prop := (∃ tp p, w.var? Tryd.prog "strconv.ErrSyntax" = some #[.iface tp p]) ∧ (∃ tp p, w.var? Tryd.prog "strconv.ErrRange" = some #[.iface tp p])
theorem ErrAt.below {w w' : World} (h : ErrAt w) (hb : Below w.heap.size w w') : ErrAt w' := by
  obtain ⟨⟨a, b, h1⟩, ⟨c, d, h2⟩⟩ := h
  exact ⟨⟨a, b, var_below h1 hb⟩, ⟨c, d, var_below h2 hb⟩⟩
theorem grow_below (w : World) (os : Array Obj) : Below w.heap.size w (Sort.grow w os) :=
  ⟨rfl, rfl, rfl, by unfold Sort.grow; simp, fun k hk => by
    unfold Sort.grow
    show (w.heap ++ os)[k]? = w.heap[k]?
    rw [Array.getElem?_append_left hk]⟩

theorem format_lib (n : Int) (h0 : -9223372036854775808 ≤ n) (h1 : n ≤ 9223372036854775807) (w : World) (hp : PowAt w) :
    Calls Tryd.prog 64 #[.int .i64 n, .int .i64 10] w fun e w' => e = .returned (.string ⟨(Lib.itoa n).toArray⟩) ∧ Below w.heap.size w w' := by
  refine (Tryd.strconv_FormatInt_10 n h0 h1 w hp).mono ?_
  rintro e w' ⟨rfl, k, os, rfl⟩
  exact ⟨rfl, (belowN (Below.refl _ _) k).trans (grow_below (w.drewN k) os)⟩

end Go.Proofs.YtfokdblojlmnlabDoor

/-
  The contracts of the program's texts of cells.
-/
namespace Go.Proofs.YtfokdblojlmnlabDoor
open Go.ChangeShapes Go.WideShapes Go.ChangeAt Go.RowKit

theorem joined_impl (bk c : Nat) (xs : List ByteArray) (sep : ByteArray) (w : World) (hcells : ∀ (j : Nat) x, xs[j]? = some x → w.cell? ⟨bk, 0 + j, none⟩ = some (.string x)) (hbk : bk < w.heap.size) (hN : xs.length ≤ 140737488355328) (hcap : xs.length ≤ c) (hlen : (Lib.join (xs.map (·.data.toList)) sep.data.toList).length ≤ 140737488355328) (y : ByteArray) (hy : (⟨(Lib.join (xs.map (·.data.toList)) sep.data.toList).toArray⟩ : ByteArray) = y) :
    Calls Tryd.prog 65 #[.string sep, .slice (some ⟨bk, 0, none⟩) xs.length c] w fun e w' => e = .returned (.string y) ∧ Below w.heap.size w w' := by
  subst hy
  go_enter Tryd.func65, Tryd.ntmps65
  go_wp2_with fail
  refine (Tryd.strings_Join bk 0 c xs sep _ hcells hbk hN hcap hlen).mono ?_
  rintro e w1 ⟨rfl, hb⟩
  go_wp2
  go_ret
  exact ⟨rfl, hb⟩

theorem joined_none (a : Option Addr) (c : Nat) (sep : ByteArray) (w : World) :
    Calls Tryd.prog 65 #[.string sep, .slice a 0 c] w fun e w' => e = .returned (.string ⟨#[]⟩) ∧ w' = w := by
  go_enter Tryd.func65, Tryd.ntmps65
  go_wp2_with fail
  refine (Tryd.strings_Join_none a c sep _).mono ?_
  rintro e w1 ⟨rfl, rfl⟩
  go_wp2
  go_ret
  exact ⟨rfl, rfl⟩

theorem st0 (w : World) :
    Calls Tryd.prog 57 #[.iface 74 (.agg #[])] w fun e w' => e = .returned (.string ⟨wNone.toArray⟩) ∧ Below w.heap.size w w' := by
  have h1 := asserts_noneShape
  go_enter Tryd.func57, Tryd.ntmps57
  go_wp2
  go_ret
  exact ⟨rfl, by go_grown⟩
theorem st1 (n : Int) (h0 : -9223372036854775808 ≤ n) (h1 : n ≤ 9223372036854775807) (w : World) (hp : PowAt w) :
    Calls Tryd.prog 57 #[.iface 76 (.agg #[.int .i64 n])] w fun e w' => e = .returned (.string ⟨(Lib.itoa n).toArray⟩) ∧ Below w.heap.size w w' := by
  obtain ⟨a1, a2⟩ := asserts_numberShape
  have HP : Hid (PowAt w) := hp
  clear hp
  go_enter Tryd.func57, Tryd.ntmps57
  go_wp2_with fail
  refine (format_lib n h0 h1 _ (HP.out.below (by go_grown))).mono ?_
  rintro e w1 ⟨rfl, hb⟩
  go_wp2
  go_ret
  exact ⟨rfl, chainA hb⟩
theorem st3 (n : Int) (w : World) :
    Calls Tryd.prog 57 #[.iface 79 (.agg #[.int .i64 n])] w fun e w' => e = .returned (.string ⟨(if n = 1 then wYes else wNo).toArray⟩) ∧ Below w.heap.size w w' := by
  obtain ⟨a1, a2, a3, a4⟩ := asserts_truthShape
  by_cases hn : n = 1
  · subst hn
    go_enter Tryd.func57, Tryd.ntmps57
    go_wp2
    go_ret
    exact ⟨rfl, by go_grown⟩
  · rw [if_neg hn]
    go_enter Tryd.func57, Tryd.ntmps57
    go_wp2
    go_ret
    exact ⟨rfl, by go_grown⟩
theorem st3b (n : Int) (y : ByteArray) (hy : (⟨(if n = 1 then wYes else wNo).toArray⟩ : ByteArray) = y) (w : World) :
    Calls Tryd.prog 57 #[.iface 79 (.agg #[.int .i64 n])] w fun e w' => e = .returned (.string y) ∧ Below w.heap.size w w' := by
  subst hy; exact st3 n w
theorem st2 (t : ByteArray) (ht : t.size ≤ 1000) (w : World) :
    Calls Tryd.prog 57 #[.iface 78 (.agg #[.string t])] w fun e w' => e = .returned (.string ⟨(39 :: (t.data.toList ++ [39])).toArray⟩) ∧ Below w.heap.size w w' := by
  obtain ⟨a1, a2, a3⟩ := asserts_textShape
  obtain ⟨y, hy⟩ : ∃ y : ByteArray, (⟨(39 :: (t.data.toList ++ [39])).toArray⟩ : ByteArray) = y := ⟨_, rfl⟩
  rw [hy]
  go_enter Tryd.func57, Tryd.ntmps57
  go_wp2_with fail
  refine (joined_impl _ _ [⟨#[39]⟩, t, ⟨#[39]⟩] ⟨#[]⟩ _ ?_ (by simp) (by simp) (by simp) ?_ y (by rw [← hy]; simp [Lib.join_cons, Lib.joinTail])).mono ?_
  · intro j x hj
    match j, hj with
    | 0, hj => simp at hj; subst hj; simp [go_sem]
    | 1, hj => simp at hj; subst hj; simp [go_sem]
    | 2, hj => simp at hj; subst hj; simp [go_sem]
  · have hsz := Lib.size_eq t
    simp [Lib.join_cons, Lib.joinTail]
    omega
  rintro e w1 ⟨rfl, hb⟩
  go_wp2
  go_ret
  exact ⟨rfl, chainAA hb⟩

theorem ctext_impl (k n : Int) (t : ByteArray) (w : World) (ht : t.size ≤ maxLen) (hp : PowAt w) :
    Calls Tryd.prog 46 #[.agg #[.int .i64 k, .int .i64 n, .string t]] w fun e w' => e = .returned (.string (cellT k n t)) ∧ Below w.heap.size w w' := by
  have HP : Hid (PowAt w) := hp
  clear hp
  cases ho : okB k n t with
  | false =>
    rw [cellT_no ho]
    go_enter Tryd.func46, Tryd.ntmps46
    go_wp2_with fail
    refine (ok_implb _ _ _ _ ho _ ht).mono ?_
    rintro e w1 ⟨rfl, hb⟩
    go_wp2
    go_ret
    exact ⟨rfl, by first | exact hb | exact chainA hb⟩
  | true =>
    have hc : cellT k n t = ⟨(l4T k n t.data.toList).toArray⟩ := by unfold cellT; rw [if_pos ho]
    rw [hc]
    clear hc
    rcases okB_kind ho with rfl | rfl | rfl | rfl
    · go_enter Tryd.func46, Tryd.ntmps46
      go_wp2_with fail
      refine (ok_implb _ _ _ _ ho _ ht).mono ?_
      rintro e w1 ⟨rfl, hb⟩
      obtain ⟨a1, b1, c1, d1⟩ := box3 hb
      go_wp2_with fail
      refine (shape0 _ _ _).mono ?_
      rintro e w2 ⟨rfl, hb2⟩
      go_wp2_with fail
      refine (st0 _).mono ?_
      rintro e w3 ⟨rfl, hb3⟩
      go_wp2
      go_ret
      exact ⟨rfl, chain (chain (chainA hb) hb2) hb3⟩
    · have hb := numB_iff.1 (okB_1 ho).1
      go_enter Tryd.func46, Tryd.ntmps46
      go_wp2_with fail
      refine (ok_implb _ _ _ _ ho _ ht).mono ?_
      rintro e w1 ⟨rfl, hb1⟩
      obtain ⟨a1, b1, c1, d1⟩ := box3 hb1
      go_wp2_with fail
      refine (shape1 _ _ _).mono ?_
      rintro e w2 ⟨rfl, hb2⟩
      go_wp2_with fail
      refine (st1 n (by omega) (by omega) _ (HP.out.below (chain (chainA hb1) hb2))).mono ?_
      rintro e w3 ⟨rfl, hb3⟩
      go_wp2
      go_ret
      exact ⟨rfl, chain (chain (chainA hb1) hb2) hb3⟩
    · have h12 : t.size ≤ 1000 := by
        have := (okB_2 ho).2
        unfold textB at this
        rw [Bool.and_eq_true, decide_eq_true_eq] at this
        omega
      go_enter Tryd.func46, Tryd.ntmps46
      go_wp2_with fail
      refine (ok_implb _ _ _ _ ho _ ht).mono ?_
      rintro e w1 ⟨rfl, hb1⟩
      obtain ⟨a1, b1, c1, d1⟩ := box3 hb1
      go_wp2_with fail
      refine (shape2 _ _ _).mono ?_
      rintro e w2 ⟨rfl, hb2⟩
      go_wp2_with fail
      refine (st2 t h12 _).mono ?_
      rintro e w3 ⟨rfl, hb3⟩
      go_wp2
      go_ret
      exact ⟨rfl, chain (chain (chainA hb1) hb2) hb3⟩
    · obtain ⟨y, hy⟩ : ∃ y : ByteArray, (⟨(l4T 3 n t.data.toList).toArray⟩ : ByteArray) = y := ⟨_, rfl⟩
      rw [hy]
      go_enter Tryd.func46, Tryd.ntmps46
      go_wp2_with fail
      refine (ok_implb _ _ _ _ ho _ ht).mono ?_
      rintro e w1 ⟨rfl, hb1⟩
      obtain ⟨a1, b1, c1, d1⟩ := box3 hb1
      go_wp2_with fail
      refine (shape3 _ _ _).mono ?_
      rintro e w2 ⟨rfl, hb2⟩
      go_wp2_with fail
      refine (st3b n y hy _).mono ?_
      rintro e w3 ⟨rfl, hb3⟩
      go_wp2
      go_ret
      exact ⟨rfl, chain (chain (chainA hb1) hb2) hb3⟩

theorem ctext_implb (k n : Int) (t : ByteArray) (y : ByteArray) (hy : cellT k n t = y) (w : World) (ht : t.size ≤ maxLen) (hp : PowAt w) :
    Calls Tryd.prog 46 #[.agg #[.int .i64 k, .int .i64 n, .string t]] w fun e w' => e = .returned (.string y) ∧ Below w.heap.size w w' := by
  subst hy; exact ctext_impl k n t w ht hp

end Go.Proofs.YtfokdblojlmnlabDoor
