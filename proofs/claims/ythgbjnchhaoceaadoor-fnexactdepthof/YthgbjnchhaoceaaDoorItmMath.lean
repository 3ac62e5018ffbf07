/-
  Sums without any program: right items, what a sum is, its tree, its text in tokens, what tokens are read as, and that a sum is read from its text.
-/
import Derived.Test.YthgbjnchhaoceaaDoorPieceMath
namespace Go.Proofs.YthgbjnchhaoceaaDoor

/-- An item: kind, cell, name. -/
abbrev TI := Int × CK × ByteArray
/-- The item of a sign. -/
def opI (k : Int) : TI := (k, zeroC, ⟨#[]⟩)
/-- Is the item right? -/
def itemB (x : TI) : Bool :=
  if x.1 = 1 then okC x.2.1 && decide (x.2.2 = ⟨#[]⟩) else if x.1 = 2 then nameK x.2.2 && decide (x.2.1 = zeroC) else (decide (3 ≤ x.1) && decide (x.1 ≤ 12)) && decide (x = opI x.1)
/-- How many it reckons with. -/
def needsI (k : Int) : Nat := if k ≤ 2 then 0 else if 11 ≤ k then 1 else 2
/-- How many lie there behind these items, from n on; none where there are too few, or one is not right. -/
def heapN : List TI → Nat → Option Nat
  | [], n => some n
  | x :: l, n => if itemB x = true ∧ needsI x.1 ≤ n then heapN l (n + 1 - needsI x.1) else none
/-- Is it a sum? -/
def sumB (l : List TI) : Bool := decide (heapN l 0 = some 1) && decide (l.length ≤ 40)

/-- The tree of a sum. -/
inductive Tr where
  | leaf (x : TI)
  | one (k : Int) (t : Tr)
  | two (k : Int) (a b : Tr)
def Tr.post : Tr → List TI
  | .leaf x => [x]
  | .one k t => t.post ++ [opI k]
  | .two k a b => a.post ++ (b.post ++ [opI k])
def Tr.ok : Tr → Prop
  | .leaf x => itemB x = true ∧ (x.1 = 1 ∨ x.1 = 2)
  | .one k t => (k = 11 ∨ k = 12) ∧ t.ok
  | .two k a b => (3 ≤ k ∧ k ≤ 10) ∧ a.ok ∧ b.ok
/-- Trees that lie one on the other, the last one first. -/
def pileP : List Tr → List TI
  | [] => []
  | t :: ts => pileP ts ++ t.post
theorem item_op {x : TI} (h : itemB x = true) (h1 : x.1 ≠ 1) (h2 : x.1 ≠ 2) : 3 ≤ x.1 ∧ x.1 ≤ 12 ∧ x = opI x.1 := by
  unfold itemB at h
  rw [if_neg h1, if_neg h2] at h
  simp only [Bool.and_eq_true, decide_eq_true_eq] at h
  exact ⟨h.1.1, h.1.2, h.2⟩
/-- What is reckoned through has its trees. -/
theorem heap_trees : ∀ (l : List TI) (ts : List Tr) (n : Nat), (∀ t ∈ ts, t.ok) → heapN l ts.length = some n → ∃ us : List Tr, us.length = n ∧ (∀ t ∈ us, t.ok) ∧ pileP us = pileP ts ++ l
  | [], ts, n, hok, h => by
    simp only [heapN, Option.some.injEq] at h
    exact ⟨ts, h, hok, by simp⟩
  | x :: l, ts, n, hok, h => by
    unfold heapN at h
    split at h
    · rename_i hc
      obtain ⟨hx, hn⟩ := hc
      by_cases h1 : x.1 = 1 ∨ x.1 = 2
      · have e : needsI x.1 = 0 := by unfold needsI; rw [if_pos (by omega)]
        rw [e] at h
        obtain ⟨us, e1, e2, e3⟩ := heap_trees l (.leaf x :: ts) n (fun t ht => by
          rcases List.mem_cons.1 ht with rfl | ht
          · exact ⟨hx, h1⟩
          · exact hok t ht) (by simpa using h)
        exact ⟨us, e1, e2, by rw [e3]; simp [pileP, Tr.post]⟩
      · obtain ⟨h3, h4, h5⟩ := item_op hx (fun e => h1 (.inl e)) (fun e => h1 (.inr e))
        by_cases h6 : 11 ≤ x.1
        · have e : needsI x.1 = 1 := by unfold needsI; rw [if_neg (by omega), if_pos h6]
          rw [e] at h hn
          match ts, hn with
          | t :: ts, _ =>
            obtain ⟨us, e1, e2, e3⟩ := heap_trees l (.one x.1 t :: ts) n (fun u hu => by
              rcases List.mem_cons.1 hu with rfl | hu
              · exact ⟨by omega, hok t (by simp)⟩
              · exact hok u (by simp [hu])) (by simpa using h)
            exact ⟨us, e1, e2, by rw [e3]; simp only [pileP, Tr.post]; rw [← h5]; simp⟩
        · have e : needsI x.1 = 2 := by unfold needsI; rw [if_neg (by omega), if_neg h6]
          rw [e] at h hn
          match ts, hn with
          | b :: a :: ts, _ =>
            obtain ⟨us, e1, e2, e3⟩ := heap_trees l (.two x.1 a b :: ts) n (fun u hu => by
              rcases List.mem_cons.1 hu with rfl | hu
              · exact ⟨by omega, hok a (by simp), hok b (by simp)⟩
              · exact hok u (by simp [hu])) (by simpa using h)
            exact ⟨us, e1, e2, by rw [e3]; simp only [pileP, Tr.post]; rw [← h5]; simp⟩
    · cases h
/-- A sum is a tree's. -/
theorem sum_tree {l : List TI} (h : sumB l = true) : ∃ t : Tr, t.ok ∧ t.post = l := by
  unfold sumB at h
  simp only [Bool.and_eq_true, decide_eq_true_eq] at h
  obtain ⟨us, e1, e2, e3⟩ := heap_trees l [] 1 (by simp) h.1
  match us, e1 with
  | [t], _ => exact ⟨t, e2 t (by simp), by simpa [pileP] using e3⟩
theorem itemB_op (k : Int) (h1 : 3 ≤ k) (h2 : k ≤ 12) : itemB (opI k) = true := by
  unfold itemB opI
  dsimp only
  rw [if_neg (by omega), if_neg (by omega)]
  simp [h1, h2]
theorem heapN_append (l m : List TI) (n : Nat) : heapN (l ++ m) n = (heapN l n).bind (heapN m) := by
  induction l generalizing n with
  | nil => rfl
  | cons x l ih =>
    rw [List.cons_append]
    unfold heapN
    split
    · exact ih _
    · rfl
/-- And a tree's items are a sum, but for their number. -/
theorem tree_sum {t : Tr} (h : t.ok) : ∀ n, heapN t.post n = some (n + 1) := by
  induction t with
  | leaf x =>
    intro n
    have e : needsI x.1 = 0 := by unfold needsI; rw [if_pos (by rcases h.2 with h | h <;> omega)]
    simp only [Tr.post, heapN]
    rw [if_pos ⟨h.1, by omega⟩, e]
    rfl
  | one k t ih =>
    intro n
    have hk : needsI k = 1 := by unfold needsI; rw [if_neg (by rcases h.1 with h | h <;> omega), if_pos (by rcases h.1 with h | h <;> omega)]
    simp only [Tr.post]
    rw [heapN_append, ih h.2]
    simp only [Option.bind_some, heapN]
    rw [if_pos ⟨itemB_op k (by rcases h.1 with h | h <;> omega) (by rcases h.1 with h | h <;> omega), by rw [show (opI k).1 = k from rfl, hk]; omega⟩, show (opI k).1 = k from rfl, hk]
    rfl
  | two k a b iha ihb =>
    intro n
    have hk : needsI k = 2 := by unfold needsI; rw [if_neg (by have := h.1; omega), if_neg (by have := h.1; omega)]
    simp only [Tr.post]
    rw [heapN_append, iha h.2.1]
    simp only [Option.bind_some]
    rw [heapN_append, ihb h.2.2]
    simp only [Option.bind_some, heapN]
    rw [if_pos ⟨itemB_op k (by have := h.1; omega) (by have := h.1; omega), by rw [show (opI k).1 = k from rfl, hk]; omega⟩, show (opI k).1 = k from rfl, hk]
    rfl
/-- The signs of the kinds. -/
def sgn (k : Int) : ByteArray :=
  if k = 3 then ⟨#[43]⟩ else if k = 4 then ⟨#[45]⟩ else if k = 5 then ⟨#[42]⟩ else if k = 6 then ⟨#[47]⟩ else if k = 7 then ⟨#[61]⟩ else if k = 8 then ⟨#[60]⟩ else if k = 9 then ⟨#[97, 110, 100]⟩ else if k = 10 then ⟨#[111, 114]⟩ else if k = 11 then ⟨#[110, 111, 116]⟩ else ⟨#[108, 97, 99, 107, 115]⟩
def sgnT (k : Int) : TT := (3, sgn k, zeroC)
def parO : TT := (3, ⟨#[40]⟩, zeroC)
def parC : TT := (3, ⟨#[41]⟩, zeroC)
/-- The token of an item that is one alone. -/
def tkOf (x : TI) : TT := if x.1 = 1 then (2, ⟨#[]⟩, x.2.1) else (1, x.2.2, zeroC)
def Tr.toks : Tr → List TT
  | .leaf x => [tkOf x]
  | .one k t => parO :: sgnT k :: (t.toks ++ [parC])
  | .two k a b => parO :: (a.toks ++ sgnT k :: (b.toks ++ [parC]))
def Tr.text : Tr → List UInt8
  | .leaf x => tokT (tkOf x)
  | .one k t => 40 :: ((sgn k).data.toList ++ 32 :: (t.text ++ [41]))
  | .two k a b => 40 :: (a.text ++ 32 :: ((sgn k).data.toList ++ 32 :: (b.text ++ [41])))
theorem sgn_ok (k : Int) (h1 : 3 ≤ k) (h2 : k ≤ 12) : tokB (sgnT k) = true := by
  have : k = 3 ∨ k = 4 ∨ k = 5 ∨ k = 6 ∨ k = 7 ∨ k = 8 ∨ k = 9 ∨ k = 10 ∨ k = 11 ∨ k = 12 := by omega
  rcases this with rfl | rfl | rfl | rfl | rfl | rfl | rfl | rfl | rfl | rfl <;> decide +kernel
theorem tkOf_ok {x : TI} (h : itemB x = true) (hx : x.1 = 1 ∨ x.1 = 2) : tokB (tkOf x) = true := by
  unfold tkOf
  unfold itemB at h
  rcases hx with e | e
  · rw [if_pos e] at h ⊢
    simp only [Bool.and_eq_true, decide_eq_true_eq] at h
    rw [tokB_2, h.1]; simp
  · rw [if_neg (by omega), if_pos e] at h
    rw [if_neg (by omega)]
    simp only [Bool.and_eq_true, decide_eq_true_eq] at h
    rw [tokB_1, h.1]; simp

theorem toksL_nextI {c : UInt8} {l : List UInt8} {t : TT} {e : Nat} (hc : c ≠ 32) (h : nextT (c :: l) = some (t, e)) : toksL (c :: l) = (toksL ((c :: l).drop e)).map (t :: ·) := by
  rw [toksL_next c l hc, h]
theorem toksL_tok {t : TT} {r : List UInt8} (ht : tokB t = true) (hr : Ends r) : toksL (tokT t ++ r) = (toksL r).map (t :: ·) := by
  obtain ⟨b, x, hb, h32⟩ := tokT_head ht
  have hn := next_tok ht hr
  rw [hb, List.cons_append] at hn ⊢
  rw [toksL_nextI h32 hn]
  congr 2
  simp
theorem toksL_par (r : List UInt8) : toksL (40 :: r) = (toksL r).map (parO :: ·) := by
  rw [toksL_nextI (by decide) (next_paren r)]
  rfl
/-- The tokens of a sum's text. -/
theorem toksL_text {t : Tr} (h : t.ok) : ∀ {r : List UInt8}, Ends r → toksL (t.text ++ r) = (toksL r).map (t.toks ++ ·) := by
  induction t with
  | leaf x =>
    intro r hr
    simp only [Tr.text, Tr.toks]
    rw [toksL_tok (tkOf_ok h.1 h.2) hr]
    rfl
  | one k t ih =>
    intro r hr
    have hk := sgn_ok k (by rcases h.1 with h | h <;> omega) (by rcases h.1 with h | h <;> omega)
    simp only [Tr.text, Tr.toks, List.cons_append, List.append_assoc]
    rw [toksL_par]
    have e1 := toksL_tok (r := 32 :: (t.text ++ (41 :: r))) hk (Ends.blank _)
    rw [show tokT (sgnT k) = (sgn k).data.toList from tokT_3 _ _] at e1
    rw [List.nil_append, e1, toksL_blank, ih h.2 (Ends.paren r)]
    have e2 := toksL_tok (t := parC) (r := r) (by decide +kernel) hr
    rw [show tokT parC = [41] from rfl, List.singleton_append] at e2
    rw [e2]
    cases toksL r <;> simp
  | two k a b iha ihb =>
    intro r hr
    have hk := sgn_ok k (by have := h.1; omega) (by have := h.1; omega)
    simp only [Tr.text, Tr.toks, List.cons_append, List.append_assoc]
    rw [toksL_par, iha h.2.1 (Ends.blank _), toksL_blank]
    have e1 := toksL_tok (r := 32 :: (b.text ++ (41 :: r))) hk (Ends.blank _)
    rw [show tokT (sgnT k) = (sgn k).data.toList from tokT_3 _ _] at e1
    rw [List.nil_append, e1, toksL_blank, ihb h.2.2 (Ends.paren r)]
    have e2 := toksL_tok (t := parC) (r := r) (by decide +kernel) hr
    rw [show tokT parC = [41] from rfl, List.singleton_append] at e2
    rw [e2]
    cases toksL r <;> simp
theorem toksB_sum {t : Tr} (h : t.ok) (s : ByteArray) (hs : s.data.toList = t.text) (hm : s.size ≤ 2000) : toksB s = some t.toks := by
  unfold toksB
  rw [if_pos hm, hs, Lib.size_eq, hs]
  have := toksL_text h (r := []) (.inl rfl)
  rw [List.append_nil, toksL_nil] at this
  simpa [toksL] using this
end Go.Proofs.YthgbjnchhaoceaaDoor
