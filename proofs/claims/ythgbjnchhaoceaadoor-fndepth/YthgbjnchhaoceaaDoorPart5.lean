/-
  A part of the proof: ItmMath, Lists3, Tok1, Itm1, TokS, ItmOwn, Rank1, Rank2, Rank3.
-/
import Derived.Test.YthgbjnchhaoceaaDoorPart4
import Derived.Test.YthgbjnchhaoceaaDoorPart2
import Derived.Test.YthgbjnchhaoceaaDoorPart1
import Derived.Laws.AppendOwnNone

/-
  Sums without any program: right items, what a sum is, its tree, its text in tokens, what tokens are read as, and that a sum is read from its text.
-/
namespace Go.Proofs.YthgbjnchhaoceaaDoor

/-- An item: kind, cell, name. -/
abbrev TI := Int × CK × ByteArray
/-- The item of a sign. -/
def opI (k : Int) : TI := (k, zeroC, ⟨#[]⟩)
/-- Is the item right? -/
def itemB (x : TI) : Bool :=
  if x.1 = 1 then okC x.2.1 && decide (x.2.2 = ⟨#[]⟩) else if x.1 = 2 then nameK x.2.2 && decide (x.2.1 = zeroC) else (decide (3 ≤ x.1) && decide (x.1 ≤ 12)) && decide (x = opI x.1)
/-- How many it reckons with. -/
def needsI (k : Int) : Nat := if k ≤ 2 then 0 else if 11 ≤ k then 1 else 2
/-- How many lie there behind these items, from n on; none where there are too few, or one is not right. -/
def heapN : List TI → Nat → Option Nat
  | [], n => some n
  | x :: l, n => if itemB x = true ∧ needsI x.1 ≤ n then heapN l (n + 1 - needsI x.1) else none
/-- Is it a sum? -/
def sumB (l : List TI) : Bool := decide (heapN l 0 = some 1) && decide (l.length ≤ 40)

/-- The tree of a sum. -/
inductive Tr where
  | leaf (x : TI)
  | one (k : Int) (t : Tr)
  | two (k : Int) (a b : Tr)
def Tr.post : Tr → List TI
  | .leaf x => [x]
  | .one k t => t.post ++ [opI k]
  | .two k a b => a.post ++ (b.post ++ [opI k])
def Tr.ok : Tr → Prop
  | .leaf x => itemB x = true ∧ (x.1 = 1 ∨ x.1 = 2)
  | .one k t => (k = 11 ∨ k = 12) ∧ t.ok
  | .two k a b => (3 ≤ k ∧ k ≤ 10) ∧ a.ok ∧ b.ok
/-- Trees that lie one on the other, the last one first. -/
def pileP : List Tr → List TI
  | [] => []
  | t :: ts => pileP ts ++ t.post
theorem item_op {x : TI} (h : itemB x = true) (h1 : x.1 ≠ 1) (h2 : x.1 ≠ 2) : 3 ≤ x.1 ∧ x.1 ≤ 12 ∧ x = opI x.1 := by
  unfold itemB at h
  rw [if_neg h1, if_neg h2] at h
  simp only [Bool.and_eq_true, decide_eq_true_eq] at h
  exact ⟨h.1.1, h.1.2, h.2⟩
/-- What is reckoned through has its trees. -/
theorem heap_trees : ∀ (l : List TI) (ts : List Tr) (n : Nat), (∀ t ∈ ts, t.ok) → heapN l ts.length = some n → ∃ us : List Tr, us.length = n ∧ (∀ t ∈ us, t.ok) ∧ pileP us = pileP ts ++ l
  | [], ts, n, hok, h => by
    simp only [heapN, Option.some.injEq] at h
    exact ⟨ts, h, hok, by simp⟩
  | x :: l, ts, n, hok, h => by
    unfold heapN at h
    split at h
    · rename_i hc
      obtain ⟨hx, hn⟩ := hc
      by_cases h1 : x.1 = 1 ∨ x.1 = 2
      · have e : needsI x.1 = 0 := by unfold needsI; rw [if_pos (by omega)]
        rw [e] at h
        obtain ⟨us, e1, e2, e3⟩ := heap_trees l (.leaf x :: ts) n (fun t ht => by
          rcases List.mem_cons.1 ht with rfl | ht
          · exact ⟨hx, h1⟩
          · exact hok t ht) (by simpa using h)
        exact ⟨us, e1, e2, by rw [e3]; simp [pileP, Tr.post]⟩
      · obtain ⟨h3, h4, h5⟩ := item_op hx (fun e => h1 (.inl e)) (fun e => h1 (.inr e))
        by_cases h6 : 11 ≤ x.1
        · have e : needsI x.1 = 1 := by unfold needsI; rw [if_neg (by omega), if_pos h6]
          rw [e] at h hn
          match ts, hn with
          | t :: ts, _ =>
            obtain ⟨us, e1, e2, e3⟩ := heap_trees l (.one x.1 t :: ts) n (fun u hu => by
              rcases List.mem_cons.1 hu with rfl | hu
              · exact ⟨by omega, hok t (by simp)⟩
              · exact hok u (by simp [hu])) (by simpa using h)
            exact ⟨us, e1, e2, by rw [e3]; simp only [pileP, Tr.post]; rw [← h5]; simp⟩
        · have e : needsI x.1 = 2 := by unfold needsI; rw [if_neg (by omega), if_neg h6]
          rw [e] at h hn
          match ts, hn with
          | b :: a :: ts, _ =>
            obtain ⟨us, e1, e2, e3⟩ := heap_trees l (.two x.1 a b :: ts) n (fun u hu => by
              rcases List.mem_cons.1 hu with rfl | hu
              · exact ⟨by omega, hok a (by simp), hok b (by simp)⟩
              · exact hok u (by simp [hu])) (by simpa using h)
            exact ⟨us, e1, e2, by rw [e3]; simp only [pileP, Tr.post]; rw [← h5]; simp⟩
    · cases h
/-- A sum is a tree's. -/
theorem sum_tree {l : List TI} (h : sumB l = true) : ∃ t : Tr, t.ok ∧ t.post = l := by
  unfold sumB at h
  simp only [Bool.and_eq_true, decide_eq_true_eq] at h
  obtain ⟨us, e1, e2, e3⟩ := heap_trees l [] 1 (by simp) h.1
  match us, e1 with
  | [t], _ => exact ⟨t, e2 t (by simp), by simpa [pileP] using e3⟩
theorem itemB_op (k : Int) (h1 : 3 ≤ k) (h2 : k ≤ 12) : itemB (opI k) = true := by
  unfold itemB opI
  dsimp only
  rw [if_neg (by omega), if_neg (by omega)]
  simp [h1, h2]
theorem heapN_append (l m : List TI) (n : Nat) : heapN (l ++ m) n = (heapN l n).bind (heapN m) := by
  induction l generalizing n with
  | nil => rfl
  | cons x l ih =>
    rw [List.cons_append]
    unfold heapN
    split
    · exact ih _
    · rfl
/-- And a tree's items are a sum, but for their number. -/
theorem tree_sum {t : Tr} (h : t.ok) : ∀ n, heapN t.post n = some (n + 1) := by
  induction t with
  | leaf x =>
    intro n
    have e : needsI x.1 = 0 := by unfold needsI; rw [if_pos (by rcases h.2 with h | h <;> omega)]
    simp only [Tr.post, heapN]
    rw [if_pos ⟨h.1, by omega⟩, e]
    rfl
  | one k t ih =>
    intro n
    have hk : needsI k = 1 := by unfold needsI; rw [if_neg (by rcases h.1 with h | h <;> omega), if_pos (by rcases h.1 with h | h <;> omega)]
    simp only [Tr.post]
    rw [heapN_append, ih h.2]
    simp only [Option.bind_some, heapN]
    rw [if_pos ⟨itemB_op k (by rcases h.1 with h | h <;> omega) (by rcases h.1 with h | h <;> omega), by rw [show (opI k).1 = k from rfl, hk]; omega⟩, show (opI k).1 = k from rfl, hk]
    rfl
  | two k a b iha ihb =>
    intro n
    have hk : needsI k = 2 := by unfold needsI; rw [if_neg (by have := h.1; omega), if_neg (by have := h.1; omega)]
    simp only [Tr.post]
    rw [heapN_append, iha h.2.1]
    simp only [Option.bind_some]
    rw [heapN_append, ihb h.2.2]
    simp only [Option.bind_some, heapN]
    rw [if_pos ⟨itemB_op k (by have := h.1; omega) (by have := h.1; omega), by rw [show (opI k).1 = k from rfl, hk]; omega⟩, show (opI k).1 = k from rfl, hk]
    rfl
/-- The signs of the kinds. -/
def sgn (k : Int) : ByteArray :=
  if k = 3 then ⟨#[43]⟩ else if k = 4 then ⟨#[45]⟩ else if k = 5 then ⟨#[42]⟩ else if k = 6 then ⟨#[47]⟩ else if k = 7 then ⟨#[61]⟩ else if k = 8 then ⟨#[60]⟩ else if k = 9 then ⟨#[97, 110, 100]⟩ else if k = 10 then ⟨#[111, 114]⟩ else if k = 11 then ⟨#[110, 111, 116]⟩ else ⟨#[108, 97, 99, 107, 115]⟩
def sgnT (k : Int) : TT := (3, sgn k, zeroC)
def parO : TT := (3, ⟨#[40]⟩, zeroC)
def parC : TT := (3, ⟨#[41]⟩, zeroC)
/-- The token of an item that is one alone. -/
def tkOf (x : TI) : TT := if x.1 = 1 then (2, ⟨#[]⟩, x.2.1) else (1, x.2.2, zeroC)
def Tr.toks : Tr → List TT
  | .leaf x => [tkOf x]
  | .one k t => parO :: sgnT k :: (t.toks ++ [parC])
  | .two k a b => parO :: (a.toks ++ sgnT k :: (b.toks ++ [parC]))
def Tr.text : Tr → List UInt8
  | .leaf x => tokT (tkOf x)
  | .one k t => 40 :: ((sgn k).data.toList ++ 32 :: (t.text ++ [41]))
  | .two k a b => 40 :: (a.text ++ 32 :: ((sgn k).data.toList ++ 32 :: (b.text ++ [41])))
theorem sgn_ok (k : Int) (h1 : 3 ≤ k) (h2 : k ≤ 12) : tokB (sgnT k) = true := by
  have : k = 3 ∨ k = 4 ∨ k = 5 ∨ k = 6 ∨ k = 7 ∨ k = 8 ∨ k = 9 ∨ k = 10 ∨ k = 11 ∨ k = 12 := by omega
  rcases this with rfl | rfl | rfl | rfl | rfl | rfl | rfl | rfl | rfl | rfl <;> decide +kernel
theorem tkOf_ok {x : TI} (h : itemB x = true) (hx : x.1 = 1 ∨ x.1 = 2) : tokB (tkOf x) = true := by
  unfold tkOf
  unfold itemB at h
  rcases hx with e | e
  · rw [if_pos e] at h ⊢
    simp only [Bool.and_eq_true, decide_eq_true_eq] at h
    rw [tokB_2, h.1]; simp
  · rw [if_neg (by omega), if_pos e] at h
    rw [if_neg (by omega)]
    simp only [Bool.and_eq_true, decide_eq_true_eq] at h
    rw [tokB_1, h.1]; simp

theorem toksL_nextI {c : UInt8} {l : List UInt8} {t : TT} {e : Nat} (hc : c ≠ 32) (h : nextT (c :: l) = some (t, e)) : toksL (c :: l) = (toksL ((c :: l).drop e)).map (t :: ·) := by
  rw [toksL_next c l hc, h]
theorem toksL_tok {t : TT} {r : List UInt8} (ht : tokB t = true) (hr : Ends r) : toksL (tokT t ++ r) = (toksL r).map (t :: ·) := by
  obtain ⟨b, x, hb, h32⟩ := tokT_head ht
  have hn := next_tok ht hr
  rw [hb, List.cons_append] at hn ⊢
  rw [toksL_nextI h32 hn]
  congr 2
  simp
theorem toksL_par (r : List UInt8) : toksL (40 :: r) = (toksL r).map (parO :: ·) := by
  rw [toksL_nextI (by decide) (next_paren r)]
  rfl
/-- The tokens of a sum's text. -/
theorem toksL_text {t : Tr} (h : t.ok) : ∀ {r : List UInt8}, Ends r → toksL (t.text ++ r) = (toksL r).map (t.toks ++ ·) := by
  induction t with
  | leaf x =>
    intro r hr
    simp only [Tr.text, Tr.toks]
    rw [toksL_tok (tkOf_ok h.1 h.2) hr]
    rfl
  | one k t ih =>
    intro r hr
    have hk := sgn_ok k (by rcases h.1 with h | h <;> omega) (by rcases h.1 with h | h <;> omega)
    simp only [Tr.text, Tr.toks, List.cons_append, List.append_assoc]
    rw [toksL_par]
    have e1 := toksL_tok (r := 32 :: (t.text ++ (41 :: r))) hk (Ends.blank _)
    rw [show tokT (sgnT k) = (sgn k).data.toList from tokT_3 _ _] at e1
    rw [List.nil_append, e1, toksL_blank, ih h.2 (Ends.paren r)]
    have e2 := toksL_tok (t := parC) (r := r) (by decide +kernel) hr
    rw [show tokT parC = [41] from rfl, List.singleton_append] at e2
    rw [e2]
    cases toksL r <;> simp
  | two k a b iha ihb =>
    intro r hr
    have hk := sgn_ok k (by have := h.1; omega) (by have := h.1; omega)
    simp only [Tr.text, Tr.toks, List.cons_append, List.append_assoc]
    rw [toksL_par, iha h.2.1 (Ends.blank _), toksL_blank]
    have e1 := toksL_tok (r := 32 :: (b.text ++ (41 :: r))) hk (Ends.blank _)
    rw [show tokT (sgnT k) = (sgn k).data.toList from tokT_3 _ _] at e1
    rw [List.nil_append, e1, toksL_blank, ihb h.2.2 (Ends.paren r)]
    have e2 := toksL_tok (t := parC) (r := r) (by decide +kernel) hr
    rw [show tokT parC = [41] from rfl, List.singleton_append] at e2
    rw [e2]
    cases toksL r <;> simp
theorem toksB_sum {t : Tr} (h : t.ok) (s : ByteArray) (hs : s.data.toList = t.text) (hm : s.size ≤ 2000) : toksB s = some t.toks := by
  unfold toksB
  rw [if_pos hm, hs, Lib.size_eq, hs]
  have := toksL_text h (r := []) (.inl rfl)
  rw [List.append_nil, toksL_nil] at this
  simpa [toksL] using this
end Go.Proofs.YthgbjnchhaoceaaDoor

/-
  The contract of the law's helper that holds two lists of cells against each other: of two that are one it answers true.
-/
namespace Go.Proofs.YthgbjnchhaoceaaDoor
open Go.ChangeShapes Go.WideShapes Go.ChangeAt Go.RowKit
attribute [local go_sem ↓] Go.wp_at_zero Go.wp_at_succ

end Go.Proofs.YthgbjnchhaoceaaDoor

/-
  Lists of Tokens: how one lies in memory, and the contracts of the law's helpers that measure, take over and compare.
-/
namespace Go.Proofs.YthgbjnchhaoceaaDoor
open Go.ChangeShapes Go.WideShapes Go.ChangeAt Go.RowKit
attribute [local go_sem ↓] Go.wp_at_zero Go.wp_at_succ
attribute [local simp] World.cell?_alloc_past World.cell?_alloc_at World.frozen?_alloc_at cell_far cell_off cell_here World.frozen?_alloc_past

/-- The Tokens of a slice lie where it says. -/
def TokAt (w : World) (a : Option Addr) (l : List TT) : Prop :=
  ∀ j (h : j < l.length), ∃ b o, a = some ⟨b, o, none⟩ ∧ b < w.heap.size ∧ w.cell? ⟨b, o + j * 5, none⟩ = some (.int .i64 l[j].1) ∧ w.cell? ⟨b, o + j * 5 + 1, none⟩ = some (.string l[j].2.1) ∧ w.cell? ⟨b, o + j * 5 + 2, none⟩ = some (.int .i64 l[j].2.2.1) ∧ w.cell? ⟨b, o + j * 5 + 3, none⟩ = some (.int .i64 l[j].2.2.2.1) ∧ w.cell? ⟨b, o + j * 5 + 4, none⟩ = some (.string l[j].2.2.2.2)
theorem TokAt.below {w w' : World} {a : Option Addr} {l : List TT} (h : TokAt w a l) (hb : Below w.heap.size w w') : TokAt w' a l := by
  intro j hj
  obtain ⟨b, o, ha, hlt, c0, c1, c2, c3, c4⟩ := h j hj
  refine ⟨b, o, ha, Nat.lt_of_lt_of_le hlt hb.size, ?_, ?_, ?_, ?_, ?_⟩
  · rw [hb.cell (p := ⟨b, _, none⟩) hlt]; exact c0
  · rw [hb.cell (p := ⟨b, _, none⟩) hlt]; exact c1
  · rw [hb.cell (p := ⟨b, _, none⟩) hlt]; exact c2
  · rw [hb.cell (p := ⟨b, _, none⟩) hlt]; exact c3
  · rw [hb.cell (p := ⟨b, _, none⟩) hlt]; exact c4
/-- No text is longer than a text can be. -/
def FitTok (l : List TT) : Prop := ∀ j (h : j < l.length), ((l[j]).2.1).size ≤ maxLen ∧ ((l[j]).2.2.2.2).size ≤ maxLen
def oneTok (x : TT) : Nat := x.2.1.size + x.2.2.2.2.size
def weightTok (l : List TT) : Nat := (l.map oneTok).sum
theorem weightTok_take (l : List TT) (k : Nat) (h : k < l.length) : weightTok (l.take (k + 1)) = weightTok (l.take k) + oneTok l[k] := by
  unfold weightTok
  rw [List.take_succ_eq_append_getElem h, List.map_append, List.sum_append]; simp
theorem weightTok_le (l : List TT) (k : Nat) : weightTok (l.take k) ≤ weightTok l := by
  unfold weightTok
  conv => rhs; rw [← List.take_append_drop k l, List.map_append, List.sum_append]
  omega
/-- The cells of a list, one behind the other. -/
def flatTok : List TT → List Value
  | [] => []
  | x :: l => .int .i64 x.1 :: .string x.2.1 :: .int .i64 x.2.2.1 :: .int .i64 x.2.2.2.1 :: .string x.2.2.2.2 :: flatTok l
theorem flatTok_length (l : List TT) : (flatTok l).length = l.length * 5 := by
  induction l with
  | nil => rfl
  | cons x l ih => simp only [flatTok, List.length_cons, ih]; omega
theorem flatTok_append (l m : List TT) : flatTok (l ++ m) = flatTok l ++ flatTok m := by
  induction l with
  | nil => rfl
  | cons x l ih => simp only [List.cons_append, flatTok, ih]
theorem flatTok_at (l : List TT) (j : Nat) (h : j < l.length) : (flatTok l)[j * 5]? = some (.int .i64 l[j].1) ∧ (flatTok l)[j * 5 + 1]? = some (.string l[j].2.1) ∧ (flatTok l)[j * 5 + 2]? = some (.int .i64 l[j].2.2.1) ∧ (flatTok l)[j * 5 + 3]? = some (.int .i64 l[j].2.2.2.1) ∧ (flatTok l)[j * 5 + 4]? = some (.string l[j].2.2.2.2) := by
  induction l generalizing j with
  | nil => simp at h
  | cons x l ih =>
    cases j with
    | zero => exact ⟨rfl, rfl, rfl, rfl, rfl⟩
    | succ j =>
      have := ih j (by simpa using h)
      have e0 : (j + 1) * 5 = j * 5 + 1 + 1 + 1 + 1 + 1 := by omega
      have e1 : (j + 1) * 5 + 1 = j * 5 + 1 + 1 + 1 + 1 + 1 + 1 := by omega
      have e2 : (j + 1) * 5 + 2 = j * 5 + 2 + 1 + 1 + 1 + 1 + 1 := by omega
      have e3 : (j + 1) * 5 + 3 = j * 5 + 3 + 1 + 1 + 1 + 1 + 1 := by omega
      have e4 : (j + 1) * 5 + 4 = j * 5 + 4 + 1 + 1 + 1 + 1 + 1 := by omega
      rw [e1, e2, e3, e4, e0]
      simpa only [flatTok, List.getElem?_cons_succ, List.getElem_cons_succ] using this
theorem flatTok_step (l : List TT) (k : Nat) (h : k < l.length) (z : List Value) (hz : z.length = l.length * 5) :
    ((((((flatTok (l.take k) ++ z.drop (k * 5)).set (k * 5) (.int .i64 l[k].1)).set (k * 5 + 1) (.string l[k].2.1)).set (k * 5 + 2) (.int .i64 l[k].2.2.1)).set (k * 5 + 3) (.int .i64 l[k].2.2.2.1)).set (k * 5 + 4) (.string l[k].2.2.2.2)) = flatTok (l.take (k + 1)) ++ z.drop ((k + 1) * 5) := by
  have hl : (flatTok (l.take k)).length = k * 5 := by rw [flatTok_length, List.length_take]; congr 1; omega
  obtain ⟨a0, a1, a2, a3, a4, r, hr⟩ : ∃ a0 a1 a2 a3 a4 r, z.drop (k * 5) = a0 :: a1 :: a2 :: a3 :: a4 :: r := by
    have hd : (z.drop (k * 5)).length ≥ 5 := by rw [List.length_drop]; omega
    match hm : z.drop (k * 5), hd with
    | a0 :: a1 :: a2 :: a3 :: a4 :: r, _ => exact ⟨a0, a1, a2, a3, a4, r, rfl⟩
  have hr3 : z.drop ((k + 1) * 5) = r := by
    rw [show (k + 1) * 5 = k * 5 + 5 by omega, ← List.drop_drop, hr]; rfl
  rw [List.take_succ_eq_append_getElem h, flatTok_append, hr, hr3]
  rw [List.set_append_right _ _ (by omega), List.set_append_right _ _ (by omega), List.set_append_right _ _ (by omega), List.set_append_right _ _ (by omega), List.set_append_right _ _ (by omega), hl]
  rw [show k * 5 - k * 5 = 0 by omega, show k * 5 + 1 - k * 5 = 1 by omega, show k * 5 + 2 - k * 5 = 2 by omega, show k * 5 + 3 - k * 5 = 3 by omega, show k * 5 + 4 - k * 5 = 4 by omega]
  simp [flatTok]
/-- What is owned lies there. -/
theorem ownTok {w : World} {base g cap : Nat} {e : TypeId} {l : List TT} (h : w.ownsRow base e 5 (.slice (some ⟨g, 0, none⟩) l.length cap) l.length (flatTok l)) : TokAt w (some ⟨g, 0, none⟩) l := by
  have hlt : g < w.heap.size := (h.lt g rfl).2
  intro j hj
  obtain ⟨f0, f1, f2, f3, f4⟩ := flatTok_at l j hj
  refine ⟨g, 0, rfl, hlt, ?_, ?_, ?_, ?_, ?_⟩
  · rw [show 0 + j * 5 = j * 5 by omega, h.cellAt _ (by omega)]; exact f0
  · rw [show 0 + j * 5 + 1 = j * 5 + 1 by omega, h.cellAt _ (by omega)]; exact f1
  · rw [show 0 + j * 5 + 2 = j * 5 + 2 by omega, h.cellAt _ (by omega)]; exact f2
  · rw [show 0 + j * 5 + 3 = j * 5 + 3 by omega, h.cellAt _ (by omega)]; exact f3
  · rw [show 0 + j * 5 + 4 = j * 5 + 4 by omega, h.cellAt _ (by omega)]; exact f4

/-- Five cells of a block are written. -/
theorem five {w : World} {b : Nat} {a0 a1 a2 a3 a4 : Value} (v0 v1 v2 v3 v4 : Value) (h0 : w.cell? ⟨b, 0, none⟩ = some a0) (h1 : w.cell? ⟨b, 1, none⟩ = some a1) (h2 : w.cell? ⟨b, 2, none⟩ = some a2) (h3 : w.cell? ⟨b, 3, none⟩ = some a3) (h4 : w.cell? ⟨b, 4, none⟩ = some a4) :
    (((((w.setCell ⟨b, 0, none⟩ v0).setCell ⟨b, 1, none⟩ v1).setCell ⟨b, 2, none⟩ v2).setCell ⟨b, 3, none⟩ v3).setCell ⟨b, 4, none⟩ v4).cell? ⟨b, 0, none⟩ = some v0 ∧ (((((w.setCell ⟨b, 0, none⟩ v0).setCell ⟨b, 1, none⟩ v1).setCell ⟨b, 2, none⟩ v2).setCell ⟨b, 3, none⟩ v3).setCell ⟨b, 4, none⟩ v4).cell? ⟨b, 1, none⟩ = some v1 ∧ (((((w.setCell ⟨b, 0, none⟩ v0).setCell ⟨b, 1, none⟩ v1).setCell ⟨b, 2, none⟩ v2).setCell ⟨b, 3, none⟩ v3).setCell ⟨b, 4, none⟩ v4).cell? ⟨b, 2, none⟩ = some v2 ∧ (((((w.setCell ⟨b, 0, none⟩ v0).setCell ⟨b, 1, none⟩ v1).setCell ⟨b, 2, none⟩ v2).setCell ⟨b, 3, none⟩ v3).setCell ⟨b, 4, none⟩ v4).cell? ⟨b, 3, none⟩ = some v3 ∧ (((((w.setCell ⟨b, 0, none⟩ v0).setCell ⟨b, 1, none⟩ v1).setCell ⟨b, 2, none⟩ v2).setCell ⟨b, 3, none⟩ v3).setCell ⟨b, 4, none⟩ v4).cell? ⟨b, 4, none⟩ = some v4 := by
  refine ⟨?_, ?_, ?_, ?_, ?_⟩
  · rw [cell_off _ _ _ _ _ (by omega), cell_off _ _ _ _ _ (by omega), cell_off _ _ _ _ _ (by omega), cell_off _ _ _ _ _ (by omega), cell_here _ _ _ _ (by rw [h0]; rfl)]
  · rw [cell_off _ _ _ _ _ (by omega), cell_off _ _ _ _ _ (by omega), cell_off _ _ _ _ _ (by omega), cell_here _ _ _ _ (by rw [cell_off _ _ _ _ _ (by omega), h1]; rfl)]
  · rw [cell_off _ _ _ _ _ (by omega), cell_off _ _ _ _ _ (by omega), cell_here _ _ _ _ (by rw [cell_off _ _ _ _ _ (by omega), cell_off _ _ _ _ _ (by omega), h2]; rfl)]
  · rw [cell_off _ _ _ _ _ (by omega), cell_here _ _ _ _ (by rw [cell_off _ _ _ _ _ (by omega), cell_off _ _ _ _ _ (by omega), cell_off _ _ _ _ _ (by omega), h3]; rfl)]
  · rw [cell_here _ _ _ _ (by rw [cell_off _ _ _ _ _ (by omega), cell_off _ _ _ _ _ (by omega), cell_off _ _ _ _ _ (by omega), cell_off _ _ _ _ _ (by omega), h4]; rfl)]
end Go.Proofs.YthgbjnchhaoceaaDoor

/-
  Lists of Items: how one lies in memory, and the contracts of the law's helpers that measure, take over and compare.
-/
namespace Go.Proofs.YthgbjnchhaoceaaDoor
open Go.ChangeShapes Go.WideShapes Go.ChangeAt Go.RowKit
attribute [local go_sem ↓] Go.wp_at_zero Go.wp_at_succ
attribute [local simp] World.cell?_alloc_past World.cell?_alloc_at World.frozen?_alloc_at cell_far cell_off cell_here World.frozen?_alloc_past

/-- The Items of a slice lie where it says. -/
def ItmAt (w : World) (a : Option Addr) (l : List TI) : Prop :=
  ∀ j (h : j < l.length), ∃ b o, a = some ⟨b, o, none⟩ ∧ b < w.heap.size ∧ w.cell? ⟨b, o + j * 5, none⟩ = some (.int .i64 l[j].1) ∧ w.cell? ⟨b, o + j * 5 + 1, none⟩ = some (.int .i64 l[j].2.1.1) ∧ w.cell? ⟨b, o + j * 5 + 2, none⟩ = some (.int .i64 l[j].2.1.2.1) ∧ w.cell? ⟨b, o + j * 5 + 3, none⟩ = some (.string l[j].2.1.2.2) ∧ w.cell? ⟨b, o + j * 5 + 4, none⟩ = some (.string l[j].2.2)
theorem ItmAt.below {w w' : World} {a : Option Addr} {l : List TI} (h : ItmAt w a l) (hb : Below w.heap.size w w') : ItmAt w' a l := by
  intro j hj
  obtain ⟨b, o, ha, hlt, c0, c1, c2, c3, c4⟩ := h j hj
  refine ⟨b, o, ha, Nat.lt_of_lt_of_le hlt hb.size, ?_, ?_, ?_, ?_, ?_⟩
  · rw [hb.cell (p := ⟨b, _, none⟩) hlt]; exact c0
  · rw [hb.cell (p := ⟨b, _, none⟩) hlt]; exact c1
  · rw [hb.cell (p := ⟨b, _, none⟩) hlt]; exact c2
  · rw [hb.cell (p := ⟨b, _, none⟩) hlt]; exact c3
  · rw [hb.cell (p := ⟨b, _, none⟩) hlt]; exact c4
/-- No text is longer than a text can be. -/
def FitItm (l : List TI) : Prop := ∀ j (h : j < l.length), ((l[j]).2.1.2.2).size ≤ maxLen ∧ ((l[j]).2.2).size ≤ maxLen
def oneItm (x : TI) : Nat := x.2.1.2.2.size + x.2.2.size
def weightItm (l : List TI) : Nat := (l.map oneItm).sum
theorem weightItm_take (l : List TI) (k : Nat) (h : k < l.length) : weightItm (l.take (k + 1)) = weightItm (l.take k) + oneItm l[k] := by
  unfold weightItm
  rw [List.take_succ_eq_append_getElem h, List.map_append, List.sum_append]; simp
theorem weightItm_le (l : List TI) (k : Nat) : weightItm (l.take k) ≤ weightItm l := by
  unfold weightItm
  conv => rhs; rw [← List.take_append_drop k l, List.map_append, List.sum_append]
  omega
/-- The cells of a list, one behind the other. -/
def flatItm : List TI → List Value
  | [] => []
  | x :: l => .int .i64 x.1 :: .int .i64 x.2.1.1 :: .int .i64 x.2.1.2.1 :: .string x.2.1.2.2 :: .string x.2.2 :: flatItm l
theorem flatItm_length (l : List TI) : (flatItm l).length = l.length * 5 := by
  induction l with
  | nil => rfl
  | cons x l ih => simp only [flatItm, List.length_cons, ih]; omega
theorem flatItm_append (l m : List TI) : flatItm (l ++ m) = flatItm l ++ flatItm m := by
  induction l with
  | nil => rfl
  | cons x l ih => simp only [List.cons_append, flatItm, ih]
theorem flatItm_at (l : List TI) (j : Nat) (h : j < l.length) : (flatItm l)[j * 5]? = some (.int .i64 l[j].1) ∧ (flatItm l)[j * 5 + 1]? = some (.int .i64 l[j].2.1.1) ∧ (flatItm l)[j * 5 + 2]? = some (.int .i64 l[j].2.1.2.1) ∧ (flatItm l)[j * 5 + 3]? = some (.string l[j].2.1.2.2) ∧ (flatItm l)[j * 5 + 4]? = some (.string l[j].2.2) := by
  induction l generalizing j with
  | nil => simp at h
  | cons x l ih =>
    cases j with
    | zero => exact ⟨rfl, rfl, rfl, rfl, rfl⟩
    | succ j =>
      have := ih j (by simpa using h)
      have e0 : (j + 1) * 5 = j * 5 + 1 + 1 + 1 + 1 + 1 := by omega
      have e1 : (j + 1) * 5 + 1 = j * 5 + 1 + 1 + 1 + 1 + 1 + 1 := by omega
      have e2 : (j + 1) * 5 + 2 = j * 5 + 2 + 1 + 1 + 1 + 1 + 1 := by omega
      have e3 : (j + 1) * 5 + 3 = j * 5 + 3 + 1 + 1 + 1 + 1 + 1 := by omega
      have e4 : (j + 1) * 5 + 4 = j * 5 + 4 + 1 + 1 + 1 + 1 + 1 := by omega
      rw [e1, e2, e3, e4, e0]
      simpa only [flatItm, List.getElem?_cons_succ, List.getElem_cons_succ] using this
theorem flatItm_step (l : List TI) (k : Nat) (h : k < l.length) (z : List Value) (hz : z.length = l.length * 5) :
    ((((((flatItm (l.take k) ++ z.drop (k * 5)).set (k * 5) (.int .i64 l[k].1)).set (k * 5 + 1) (.int .i64 l[k].2.1.1)).set (k * 5 + 2) (.int .i64 l[k].2.1.2.1)).set (k * 5 + 3) (.string l[k].2.1.2.2)).set (k * 5 + 4) (.string l[k].2.2)) = flatItm (l.take (k + 1)) ++ z.drop ((k + 1) * 5) := by
  have hl : (flatItm (l.take k)).length = k * 5 := by rw [flatItm_length, List.length_take]; congr 1; omega
  obtain ⟨a0, a1, a2, a3, a4, r, hr⟩ : ∃ a0 a1 a2 a3 a4 r, z.drop (k * 5) = a0 :: a1 :: a2 :: a3 :: a4 :: r := by
    have hd : (z.drop (k * 5)).length ≥ 5 := by rw [List.length_drop]; omega
    match hm : z.drop (k * 5), hd with
    | a0 :: a1 :: a2 :: a3 :: a4 :: r, _ => exact ⟨a0, a1, a2, a3, a4, r, rfl⟩
  have hr3 : z.drop ((k + 1) * 5) = r := by
    rw [show (k + 1) * 5 = k * 5 + 5 by omega, ← List.drop_drop, hr]; rfl
  rw [List.take_succ_eq_append_getElem h, flatItm_append, hr, hr3]
  rw [List.set_append_right _ _ (by omega), List.set_append_right _ _ (by omega), List.set_append_right _ _ (by omega), List.set_append_right _ _ (by omega), List.set_append_right _ _ (by omega), hl]
  rw [show k * 5 - k * 5 = 0 by omega, show k * 5 + 1 - k * 5 = 1 by omega, show k * 5 + 2 - k * 5 = 2 by omega, show k * 5 + 3 - k * 5 = 3 by omega, show k * 5 + 4 - k * 5 = 4 by omega]
  simp [flatItm]
/-- What is owned lies there. -/
theorem ownItm {w : World} {base g cap : Nat} {e : TypeId} {l : List TI} (h : w.ownsRow base e 5 (.slice (some ⟨g, 0, none⟩) l.length cap) l.length (flatItm l)) : ItmAt w (some ⟨g, 0, none⟩) l := by
  have hlt : g < w.heap.size := (h.lt g rfl).2
  intro j hj
  obtain ⟨f0, f1, f2, f3, f4⟩ := flatItm_at l j hj
  refine ⟨g, 0, rfl, hlt, ?_, ?_, ?_, ?_, ?_⟩
  · rw [show 0 + j * 5 = j * 5 by omega, h.cellAt _ (by omega)]; exact f0
  · rw [show 0 + j * 5 + 1 = j * 5 + 1 by omega, h.cellAt _ (by omega)]; exact f1
  · rw [show 0 + j * 5 + 2 = j * 5 + 2 by omega, h.cellAt _ (by omega)]; exact f2
  · rw [show 0 + j * 5 + 3 = j * 5 + 3 by omega, h.cellAt _ (by omega)]; exact f3
  · rw [show 0 + j * 5 + 4 = j * 5 + 4 by omega, h.cellAt _ (by omega)]; exact f4

theorem szItm_one (x : TI) (l : Int) (w : World) (h1 : x.2.2.size ≤ maxLen) (h2 : x.2.1.2.2.size ≤ maxLen) (h0 : 0 ≤ l) (hl : l ≤ 1048576) :
    Calls Tryd.prog 21 #[.agg #[.int .i64 x.1, .int .i64 x.2.1.1, .int .i64 x.2.1.2.1, .string x.2.1.2.2, .string x.2.2], .int .i64 l] w fun e w' => e = .returned (.int .i64 (if l < (oneItm x : Int) then -1 else l - oneItm x)) ∧ Below w.heap.size w w' := by
  have e1 : (oneItm x : Int) = (x.2.2.size : Int) + (x.2.1.2.2.size : Int) := by unfold oneItm; omega
  rw [e1]
  clear e1
  obtain ⟨k, ⟨ck, cn, ct⟩, s⟩ := x
  dsimp only at h1 h2 ⊢
  have h1' := h1
  unfold maxLen at h1'
  by_cases ha : l < (ct.size : Int)
  · rw [if_pos (by omega)]
    go_enter Tryd.func21, Tryd.ntmps21
    go_wp2_with fail
    refine (sz_laws ck cn ct l _ h2 h0 hl).mono ?_
    rw [if_pos ha]
    rintro e w1 ⟨rfl, hb1⟩
    go_wp2
    go_ret
    exact ⟨rfl, chain ((Below.refl _ _).alloc (Nat.le_refl _) _) hb1⟩
  have hp : 0 ≤ l - (ct.size : Int) := by omega
  by_cases hb : l - (ct.size : Int) < (s.size : Int)
  · rw [if_pos (by omega)]
    have hn : l - (ct.size : Int) - (s.size : Int) < 0 := by omega
    go_enter Tryd.func21, Tryd.ntmps21
    go_wp2_with fail
    refine (sz_laws ck cn ct l _ h2 h0 hl).mono ?_
    rw [if_neg (by omega)]
    rintro e w1 ⟨rfl, hb1⟩
    obtain ⟨hc, hf⟩ := bcell hb1
    have c4 : w1.cell? ⟨w.heap.size, 4, none⟩ = some (.string s) := by rw [hc _ _ (by simp)]; simp
    clear hc hf
    go_wp2
    go_ret
    exact ⟨rfl, chain ((Below.refl _ _).alloc (Nat.le_refl _) _) hb1⟩
  · rw [if_neg (by omega)]
    have hn : 0 ≤ l - (ct.size : Int) - (s.size : Int) := by omega
    go_enter Tryd.func21, Tryd.ntmps21
    go_wp2_with fail
    refine (sz_laws ck cn ct l _ h2 h0 hl).mono ?_
    rw [if_neg (by omega)]
    rintro e w1 ⟨rfl, hb1⟩
    obtain ⟨hc, hf⟩ := bcell hb1
    have c4 : w1.cell? ⟨w.heap.size, 4, none⟩ = some (.string s) := by rw [hc _ _ (by simp)]; simp
    clear hc hf
    go_wp2
    go_ret
    exact ⟨ret_int (by omega), chain ((Below.refl _ _).alloc (Nat.le_refl _) _) hb1⟩

/-- What is left of a measure behind a list; -1 where it does not last. -/
def leftOfItm (l : List TI) (left : Int) : Int := if left < (l.length : Int) + (weightItm l : Int) then -1 else left - l.length - weightItm l
set_option maxHeartbeats 1000000 in
theorem szsItm (a : Option Addr) (cap : Nat) (l : List TI) (left : Int) (w : World) (hrow : ItmAt w a l) (hfit : FitItm l) (hm : l.length ≤ maxLen) (h0 : 0 ≤ left) (h1 : left ≤ 1048576) :
    Calls Tryd.prog 11 #[.slice a l.length cap, .int .i64 left] w fun e w' => e = .returned (.int .i64 (leftOfItm l left)) ∧ Below w.heap.size w w' := by
  have hR : Hid (ItmAt w a l) := hrow
  have hF : Hid (FitItm l) := hfit
  clear hrow hfit
  by_cases hlen : left < (l.length : Int)
  · have hneg : left - (l.length : Int) < 0 := by omega
    rw [show leftOfItm l left = -1 from if_pos (by omega)]
    unfold maxLen at hm
    go_enter Tryd.func11, Tryd.ntmps11
    go_wp2
    go_ret
    exact ⟨rfl, Below.refl _ _⟩
  have hneg : 0 ≤ left - (l.length : Int) := by omega
  go_enter Tryd.func11, Tryd.ntmps11
  go_wp2
  go_loopw [1, 5] (fun s i wr => ∃ k : Nat, k ≤ l.length ∧ i = .int .i64 k ∧ s = .int .i64 (left - l.length - weightItm (l.take k)) ∧ 0 ≤ left - l.length - weightItm (l.take k) ∧ Below w.heap.size w wr)
    (fun _ i _ => l.length - (intOf i).toNat)
  case atStart => exact ⟨0, Nat.zero_le _, rfl, by simp [weightItm], by simp [weightItm]; omega, Below.refl _ _⟩
  case round =>
    obtain ⟨k, hk, rfl, rfl, hpos, hb⟩ := hrel
    by_cases hlt : k < l.length
    · obtain ⟨b, o, rfl, hbw, c0, c1, c2, c3, c4⟩ := hR.out.below hb k hlt
      have hi0 : (0 : Int) ≤ (k : Int) := by omega
      have hi1 : (k : Int) < (l.length : Int) := by omega
      have hwt := weightItm_take l k hlt
      obtain ⟨hf1, hf2⟩ := hF.out k hlt
      generalize l[k] = x at c0 c1 c2 c3 c4 hwt hf1 hf2
      generalize weightItm (l.take k) = W at *
      by_cases hs : left - (l.length : Int) - (W : Int) < (oneItm x : Int)
      · go_wp2_with fail
        refine (szItm_one x _ _ hf2 hf1 (by omega) (by omega)).mono ?_
        rw [if_pos (by omega)]
        rintro e w1 ⟨rfl, hb1⟩
        go_wp2
        go_ret
        have hwl := weightItm_le l (k + 1)
        exact ⟨ret_int (by rw [leftOfItm, if_pos (by omega)]), chain hb hb1⟩
      · have hp2 : 0 ≤ left - (l.length : Int) - (W : Int) - (oneItm x : Int) := by omega
        go_wp2_with fail
        refine (szItm_one x _ _ hf2 hf1 (by omega) (by omega)).mono ?_
        rw [if_neg (by omega)]
        rintro e w1 ⟨rfl, hb1⟩
        go_wp2
        go_roundw
        case rel => exact ⟨k + 1, by omega, by go_num, by rw [hwt]; congr 1; omega, by rw [hwt]; omega, chain hb hb1⟩
        case measure => simp [intOf]; omega
    · have hkl : k = l.length := by omega
      subst hkl
      rw [List.take_length] at hpos ⊢
      go_wp2
      go_ret
      exact ⟨ret_int (by rw [leftOfItm, if_neg (by omega)]), hb⟩

set_option maxHeartbeats 2000000 in
theorem toItm_one (x : TI) (w : World) :
    Calls Tryd.prog 22 #[.agg #[.int .i64 x.1, .int .i64 x.2.1.1, .int .i64 x.2.1.2.1, .string x.2.1.2.2, .string x.2.2]] w fun e w' => e = .returned (.agg #[.int .i64 x.1, .int .i64 x.2.1.1, .int .i64 x.2.1.2.1, .string x.2.1.2.2, .string x.2.2]) ∧ Below w.heap.size w w' := by
  obtain ⟨k, ⟨ck, cn, ct⟩, s⟩ := x
  dsimp only
  go_enter Tryd.func22, Tryd.ntmps22
  go_wp2_with fail
  refine (to_laws ck cn ct _).mono ?_
  rintro e w1 ⟨rfl, hb1⟩
  have hb0 := hb1
  obtain ⟨hc, hf⟩ := bcell hb1
  have hx : Below w.heap.size w w1 := by
    refine Below.trans ?_ (hb0.mono (by first | (simp; done) | (simp; omega)))
    repeat (first | exact Below.refl _ _ | refine Below.alloc ?_ (by first | exact Nat.le_refl _ | (simp; done) | (simp; omega)) _)
  have q : (w1.cell? ⟨w.heap.size + 1, 0, none⟩ = some (.int .i64 0) ∧ w1.cell? ⟨w.heap.size + 1, 1, none⟩ = some (.int .i64 0) ∧ w1.cell? ⟨w.heap.size + 1, 2, none⟩ = some (.int .i64 0) ∧ w1.cell? ⟨w.heap.size + 1, 3, none⟩ = some (.string ⟨#[]⟩) ∧ w1.cell? ⟨w.heap.size + 1, 4, none⟩ = some (.string ⟨#[]⟩)) ∧ (w1.frozen? ⟨w.heap.size + 1, 0, none⟩ = false ∧ w1.frozen? ⟨w.heap.size + 1, 1, none⟩ = false ∧ w1.frozen? ⟨w.heap.size + 1, 2, none⟩ = false ∧ w1.frozen? ⟨w.heap.size + 1, 3, none⟩ = false ∧ w1.frozen? ⟨w.heap.size + 1, 4, none⟩ = false) := by
    refine ⟨⟨?_, ?_, ?_, ?_, ?_⟩, ?_, ?_, ?_, ?_, ?_⟩ <;> first | (rw [hc _ _ (by first | (simp; done) | (simp; omega))]; simp) | (rw [hf _ _ (by first | (simp; done) | (simp; omega))]; simp)
  have p : (w1.cell? ⟨w.heap.size + 1 + 1, 0, none⟩ = some (.int .i64 k) ∧ w1.cell? ⟨w.heap.size + 1 + 1, 1, none⟩ = some (.int .i64 0) ∧ w1.cell? ⟨w.heap.size + 1 + 1, 2, none⟩ = some (.int .i64 0) ∧ w1.cell? ⟨w.heap.size + 1 + 1, 3, none⟩ = some (.string ⟨#[]⟩) ∧ w1.cell? ⟨w.heap.size + 1 + 1, 4, none⟩ = some (.string ⟨#[]⟩)) ∧ (w1.frozen? ⟨w.heap.size + 1 + 1, 0, none⟩ = false ∧ w1.frozen? ⟨w.heap.size + 1 + 1, 1, none⟩ = false ∧ w1.frozen? ⟨w.heap.size + 1 + 1, 2, none⟩ = false ∧ w1.frozen? ⟨w.heap.size + 1 + 1, 3, none⟩ = false ∧ w1.frozen? ⟨w.heap.size + 1 + 1, 4, none⟩ = false) := by
    refine ⟨⟨?_, ?_, ?_, ?_, ?_⟩, ?_, ?_, ?_, ?_, ?_⟩ <;> first | (rw [hc _ _ (by first | (simp; done) | (simp; omega))]; simp) | (rw [hf _ _ (by first | (simp; done) | (simp; omega))]; simp)
  obtain ⟨⟨q0, q1, q2, q3, q4⟩, f0, f1, f2, f3, f4⟩ := q
  obtain ⟨⟨p0, p1, p2, p3, p4⟩, e0, e1, e2, e3, e4⟩ := p
  have z4 : w1.cell? ⟨w.heap.size, 4, none⟩ = some (.string s) := by rw [hc _ _ (by first | (simp; done) | (simp; omega))]; first | (simp; done) | (rw [World.cell?_alloc_past _ _ _ (by first | (simp; done) | (simp; omega)), World.cell?_alloc_past _ _ _ (by first | (simp; done) | (simp; omega))]; simp)
  clear hc hf hb0 hb1
  go_wp2
  obtain ⟨t0, t1, t2, t3, t4⟩ := five (w := ((((w1.setCell ⟨w.heap.size + 1 + 1, 1, none⟩ (.int .i64 ck)).setCell ⟨w.heap.size + 1 + 1, 2, none⟩ (.int .i64 cn)).setCell ⟨w.heap.size + 1 + 1, 3, none⟩ (.string ct)).setCell ⟨w.heap.size + 1 + 1, 4, none⟩ (.string s))) (b := w.heap.size + 1) (.int .i64 k) (.int .i64 ck) (.int .i64 cn) (.string ct) (.string s) (by rw [cell_far _ _ _ _ _ _ (by omega), cell_far _ _ _ _ _ _ (by omega), cell_far _ _ _ _ _ _ (by omega), cell_far _ _ _ _ _ _ (by omega)]; exact q0) (by rw [cell_far _ _ _ _ _ _ (by omega), cell_far _ _ _ _ _ _ (by omega), cell_far _ _ _ _ _ _ (by omega), cell_far _ _ _ _ _ _ (by omega)]; exact q1) (by rw [cell_far _ _ _ _ _ _ (by omega), cell_far _ _ _ _ _ _ (by omega), cell_far _ _ _ _ _ _ (by omega), cell_far _ _ _ _ _ _ (by omega)]; exact q2) (by rw [cell_far _ _ _ _ _ _ (by omega), cell_far _ _ _ _ _ _ (by omega), cell_far _ _ _ _ _ _ (by omega), cell_far _ _ _ _ _ _ (by omega)]; exact q3) (by rw [cell_far _ _ _ _ _ _ (by omega), cell_far _ _ _ _ _ _ (by omega), cell_far _ _ _ _ _ _ (by omega), cell_far _ _ _ _ _ _ (by omega)]; exact q4)
  obtain ⟨WF, hWF⟩ : ∃ W, W = (((((((((w1.setCell ⟨w.heap.size + 1 + 1, 1, none⟩ (.int .i64 ck)).setCell ⟨w.heap.size + 1 + 1, 2, none⟩ (.int .i64 cn)).setCell ⟨w.heap.size + 1 + 1, 3, none⟩ (.string ct)).setCell ⟨w.heap.size + 1 + 1, 4, none⟩ (.string s)).setCell ⟨w.heap.size + 1, 0, none⟩ (.int .i64 k)).setCell ⟨w.heap.size + 1, 1, none⟩ (.int .i64 ck)).setCell ⟨w.heap.size + 1, 2, none⟩ (.int .i64 cn)).setCell ⟨w.heap.size + 1, 3, none⟩ (.string ct)).setCell ⟨w.heap.size + 1, 4, none⟩ (.string s)) := ⟨_, rfl⟩
  rw [← hWF] at t0 t1 t2 t3 t4 ⊢
  have hxF : Below w.heap.size w WF := by
    rw [hWF]
    exact (((((((((hx.setCell (p := ⟨w.heap.size + 1 + 1, 1, none⟩) (show w.heap.size ≤ w.heap.size + 1 + 1 by omega) _).setCell (p := ⟨w.heap.size + 1 + 1, 2, none⟩) (show w.heap.size ≤ w.heap.size + 1 + 1 by omega) _).setCell (p := ⟨w.heap.size + 1 + 1, 3, none⟩) (show w.heap.size ≤ w.heap.size + 1 + 1 by omega) _).setCell (p := ⟨w.heap.size + 1 + 1, 4, none⟩) (show w.heap.size ≤ w.heap.size + 1 + 1 by omega) _).setCell (p := ⟨w.heap.size + 1, 0, none⟩) (show w.heap.size ≤ w.heap.size + 1 by omega) _).setCell (p := ⟨w.heap.size + 1, 1, none⟩) (show w.heap.size ≤ w.heap.size + 1 by omega) _).setCell (p := ⟨w.heap.size + 1, 2, none⟩) (show w.heap.size ≤ w.heap.size + 1 by omega) _).setCell (p := ⟨w.heap.size + 1, 3, none⟩) (show w.heap.size ≤ w.heap.size + 1 by omega) _).setCell (p := ⟨w.heap.size + 1, 4, none⟩) (show w.heap.size ≤ w.heap.size + 1 by omega) _)
  clear hWF
  exact bodyPost_ret (v := .agg #[.int .i64 k, .int .i64 ck, .int .i64 cn, .string ct, .string s]) (by simp [results, Tryd.results22, go_sem, t0, t1, t2, t3, t4]) rfl ⟨rfl, hxF⟩

set_option maxHeartbeats 2000000 in
theorem eqItm_one (x : TI) (w : World) :
    Calls Tryd.prog 23 #[.agg #[.int .i64 x.1, .int .i64 x.2.1.1, .int .i64 x.2.1.2.1, .string x.2.1.2.2, .string x.2.2], .agg #[.int .i64 x.1, .int .i64 x.2.1.1, .int .i64 x.2.1.2.1, .string x.2.1.2.2, .string x.2.2]] w fun e w' => e = .returned (.bool true) ∧ Below w.heap.size w w' := by
  obtain ⟨k, ⟨ck, cn, ct⟩, s⟩ := x
  dsimp only
  go_enter Tryd.func23, Tryd.ntmps23
  go_wp2_with fail
  refine (eq_laws ck cn ct _).mono ?_
  rintro e w1 ⟨rfl, hb1⟩
  have hx : Below w.heap.size w w1 := by
    refine Below.trans ?_ (hb1.mono (by first | (simp; done) | (simp; omega)))
    repeat (first | exact Below.refl _ _ | refine Below.alloc ?_ (by first | exact Nat.le_refl _ | (simp; done) | (simp; omega)) _)
  obtain ⟨hc, hf⟩ := bcell hb1
  have z4 : w1.cell? ⟨w.heap.size, 4, none⟩ = some (.string s) := by rw [hc _ _ (by first | (simp; done) | (simp; omega))]; simp
  have z5 : w1.cell? ⟨w.heap.size + 1, 4, none⟩ = some (.string s) := by rw [hc _ _ (by first | (simp; done) | (simp; omega))]; simp
  clear hc hf
  go_wp2
  go_ret
  exact ⟨rfl, hx⟩

theorem infoItm : (Tryd.prog.info? 31).map (fun i => (i.zero, i.size, i.bytes)) = some (some (.agg #[.int .i64 0, .int .i64 0, .int .i64 0, .string ⟨#[]⟩, .string ⟨#[]⟩]), 5, 56) := by kernel_rfl
set_option maxRecDepth 100000 in
set_option maxHeartbeats 2000000 in
theorem tosItm (a : Option Addr) (cap : Nat) (l : List TI) (w : World) (hrow : ItmAt w a l) (hm : l.length ≤ 1048576) :
    Calls Tryd.prog 12 #[.slice a l.length cap] w fun e w' => e = .returned (.slice (some ⟨w.heap.size, 0, none⟩) l.length l.length) ∧
      w'.ownsRow w.heap.size 31 5 (.slice (some ⟨w.heap.size, 0, none⟩) l.length l.length) l.length (flatItm l) ∧ Below w.heap.size w w' := by
  obtain ⟨i0, hi, hz0, hz1, hz2⟩ := info_parts infoItm
  have hR : Hid (ItmAt w a l) := hrow
  clear hrow
  go_enter Tryd.func12, Tryd.ntmps12
  go_wp2_with (at_make; refine wpList_make_full _ rfl _ _ 24 rfl w.heap.size 31 i0 (.agg #[.int .i64 0, .int .i64 0, .int .i64 0, .string ⟨#[]⟩, .string ⟨#[]⟩]) 5 Tryd.underlying24 hi hz0 hz1 .i64 .i64 _ _ l.length rfl rfl rfl rfl ?b2 ?b3 (Nat.le_refl _) ?_)
  case b2 => rw [hz2]; omega
  case b3 => unfold maxLen; omega
  intro w1 hown hgrow
  have hb1 : Below w.heap.size w w1 := (Below.refl _ _).grown hgrow (Nat.le_refl _) (by intro k h; cases h)
  generalize (madeCells _ _).toList = z at hown
  have hzl : z.length = l.length * 5 := hown.1
  have hO : Hid (w1.ownsRow w.heap.size 31 5 (.slice (some ⟨w.heap.size, 0, none⟩) l.length l.length) l.length z) := hown
  clear hown hgrow
  go_wp2
  go_loopw [4] (fun i wr => ∃ k : Nat, k ≤ l.length ∧ i = .int .i64 k ∧ wr.ownsRow w.heap.size 31 5 (.slice (some ⟨w.heap.size, 0, none⟩) l.length l.length) l.length (flatItm (l.take k) ++ z.drop (k * 5)) ∧ Below w.heap.size w wr)
    (fun i _ => l.length - (intOf i).toNat)
  case atStart => exact ⟨0, Nat.zero_le _, rfl, by simpa [flatItm] using hO.out, hb1⟩
  case round =>
    obtain ⟨k, hk, rfl, hown, hb⟩ := hrel
    by_cases hlt : k < l.length
    · obtain ⟨b, o, rfl, hbw, c0, c1, c2, c3, c4⟩ := hR.out.below hb k hlt
      have hi0 : (0 : Int) ≤ (k : Int) := by omega
      have hi1 : (k : Int) < (l.length : Int) := by omega
      have hst := flatItm_step l k hlt z hzl
      have hown' : Hid (wr.ownsRow w.heap.size 31 5 (.slice (some ⟨w.heap.size, 0, none⟩) l.length l.length) l.length (flatItm (l.take k) ++ z.drop (k * 5))) := hown
      clear hown
      generalize l[k] = x at c0 c1 c2 c3 c4 hst
      go_wp2_with fail
      refine (toItm_one x _).mono ?_
      rintro e w2 ⟨rfl, hb2⟩
      have own2 := own_below hown'.out hb2
      have hx := chain hb hb2
      obtain ⟨u0, g0⟩ : ∃ u, w2.cell? ⟨w.heap.size, k * 5, none⟩ = some u := ⟨_, (own2.cellAt (k * 5) (by omega)).trans (List.getElem?_eq_getElem (by rw [own2.1]; omega))⟩
      have f0 := own2.frozenAt (k * 5)
      obtain ⟨u1, g1⟩ : ∃ u, w2.cell? ⟨w.heap.size, k * 5 + 1, none⟩ = some u := ⟨_, (own2.cellAt (k * 5 + 1) (by omega)).trans (List.getElem?_eq_getElem (by rw [own2.1]; omega))⟩
      have f1 := own2.frozenAt (k * 5 + 1)
      obtain ⟨u2, g2⟩ : ∃ u, w2.cell? ⟨w.heap.size, k * 5 + 2, none⟩ = some u := ⟨_, (own2.cellAt (k * 5 + 2) (by omega)).trans (List.getElem?_eq_getElem (by rw [own2.1]; omega))⟩
      have f2 := own2.frozenAt (k * 5 + 2)
      obtain ⟨u3, g3⟩ : ∃ u, w2.cell? ⟨w.heap.size, k * 5 + 3, none⟩ = some u := ⟨_, (own2.cellAt (k * 5 + 3) (by omega)).trans (List.getElem?_eq_getElem (by rw [own2.1]; omega))⟩
      have f3 := own2.frozenAt (k * 5 + 3)
      obtain ⟨u4, g4⟩ : ∃ u, w2.cell? ⟨w.heap.size, k * 5 + 4, none⟩ = some u := ⟨_, (own2.cellAt (k * 5 + 4) (by omega)).trans (List.getElem?_eq_getElem (by rw [own2.1]; omega))⟩
      have f4 := own2.frozenAt (k * 5 + 4)
      have hO2 : Hid (w2.ownsRow w.heap.size 31 5 (.slice (some ⟨w.heap.size, 0, none⟩) l.length l.length) l.length (flatItm (l.take k) ++ z.drop (k * 5))) := own2
      clear own2 hown' hb2
      go_wp2
      go_roundw
      case rel =>
        refine ⟨k + 1, by omega, by go_num, ?_, ?_⟩
        · have r := (((((hO2.out.stored (k * 5) (.int .i64 x.1)).1.stored (k * 5 + 1) (.int .i64 x.2.1.1)).1.stored (k * 5 + 2) (.int .i64 x.2.1.2.1)).1.stored (k * 5 + 3) (.string x.2.1.2.2)).1.stored (k * 5 + 4) (.string x.2.2))
          rw [hst] at r; exact r.1
        · exact (((((hx.setCell (Nat.le_refl _) _).setCell (Nat.le_refl _) _).setCell (Nat.le_refl _) _).setCell (Nat.le_refl _) _).setCell (Nat.le_refl _) _)
      case measure => simp [intOf]; omega
    · have hkl : k = l.length := by omega
      subst hkl
      rw [List.take_length, List.drop_of_length_le (by omega), List.append_nil] at hown
      go_wp2
      go_ret
      exact ⟨rfl, hown, hb⟩

set_option maxRecDepth 100000 in
set_option maxHeartbeats 2000000 in
theorem eqsItm (a b : Option Addr) (ca cb : Nat) (l : List TI) (w : World) (ha : ItmAt w a l) (hb : ItmAt w b l) (hm : l.length ≤ maxLen) :
    Calls Tryd.prog 13 #[.slice a l.length ca, .slice b l.length cb] w fun e w' => e = .returned (.bool true) ∧ Below w.heap.size w w' := by
  have hA : Hid (ItmAt w a l) := ha
  have hB : Hid (ItmAt w b l) := hb
  clear ha hb
  unfold maxLen at hm
  go_enter Tryd.func13, Tryd.ntmps13
  go_wp2
  go_loopw [5] (fun i wr => ∃ k : Nat, k ≤ l.length ∧ i = .int .i64 k ∧ Below w.heap.size w wr) (fun i _ => l.length - (intOf i).toNat)
  case atStart => exact ⟨0, Nat.zero_le _, rfl, Below.refl _ _⟩
  case round =>
    obtain ⟨k, hk, rfl, hx⟩ := hrel
    by_cases hlt : k < l.length
    · obtain ⟨b1, o1, rfl, hbw, c0, c1, c2, c3, c4⟩ := hA.out.below hx k hlt
      obtain ⟨b2, o2, rfl, hbw2, d0, d1, d2, d3, d4⟩ := hB.out.below hx k hlt
      have hi0 : (0 : Int) ≤ (k : Int) := by omega
      have hi1 : (k : Int) < (l.length : Int) := by omega
      generalize l[k] = x at c0 c1 c2 c3 c4 d0 d1 d2 d3 d4
      go_wp2_with fail
      refine wp_region_held_drew (S := (fun w' => (w'.cell? ⟨b1, o1 + k * 5, none⟩ = some (.int .i64 x.1) ∧ w'.cell? ⟨b1, o1 + k * 5 + 1, none⟩ = some (.int .i64 x.2.1.1) ∧ w'.cell? ⟨b1, o1 + k * 5 + 2, none⟩ = some (.int .i64 x.2.1.2.1) ∧ w'.cell? ⟨b1, o1 + k * 5 + 3, none⟩ = some (.string x.2.1.2.2) ∧ w'.cell? ⟨b1, o1 + k * 5 + 4, none⟩ = some (.string x.2.2)) ∧ (w'.cell? ⟨b2, o2 + k * 5, none⟩ = some (.int .i64 x.1) ∧ w'.cell? ⟨b2, o2 + k * 5 + 1, none⟩ = some (.int .i64 x.2.1.1) ∧ w'.cell? ⟨b2, o2 + k * 5 + 2, none⟩ = some (.int .i64 x.2.1.2.1) ∧ w'.cell? ⟨b2, o2 + k * 5 + 3, none⟩ = some (.string x.2.1.2.2) ∧ w'.cell? ⟨b2, o2 + k * 5 + 4, none⟩ = some (.string x.2.2)))) (by kernel_rfl) ?_ (fun hHeld => ?_)
      · exact ⟨⟨c0, c1, c2, c3, c4⟩, ⟨d0, d1, d2, d3, d4⟩⟩
      refine wpAnyH_take (i := 0) (by simp only [List.getElem?_toArray, List.getElem?_cons_zero]; rfl) (by kernel_rfl) (by kernel_rfl) (by kernel_rfl) (by intro _ _ _ h; exact h) (Or.inl ⟨by rfl, fun w hSw => by (dsimp only at hSw; go_simp; (try with_reducible rfl))⟩) (by assumption) ?_
      simp only [Act.put, List.setIfInBounds_toArray, List.set_cons_zero, List.set_cons_succ]
      refine wpAnyH_take (i := 1) (by simp only [List.getElem?_toArray, List.getElem?_cons_zero, List.getElem?_cons_succ]; rfl) (by kernel_rfl) (by kernel_rfl) (by kernel_rfl) (by intro _ _ _ h; exact h) (Or.inl ⟨by rfl, fun w hSw => by (dsimp only at hSw; go_simp; (try with_reducible rfl))⟩) (by assumption) ?_
      simp only [Act.put, List.setIfInBounds_toArray, List.set_cons_zero, List.set_cons_succ]
      refine wpAnyH_take (i := 2) (by simp only [List.getElem?_toArray, List.getElem?_cons_zero, List.getElem?_cons_succ]; rfl) (by kernel_rfl) (by kernel_rfl) (by kernel_rfl) (by intro _ _ _ h; exact h) (Or.inl ⟨by rfl, fun w hSw => by (dsimp only at hSw; go_simp; (try with_reducible rfl))⟩) (by assumption) ?_
      simp only [Act.put, List.setIfInBounds_toArray, List.set_cons_zero, List.set_cons_succ]
      refine wpAnyH_take (i := 3) (by simp only [List.getElem?_toArray, List.getElem?_cons_zero, List.getElem?_cons_succ]; rfl) (by kernel_rfl) (by kernel_rfl) (by kernel_rfl) (by intro _ _ _ h; exact h) (Or.inl ⟨by rfl, fun w hSw => by (dsimp only at hSw; go_simp; (try with_reducible rfl))⟩) (by assumption) ?_
      simp only [Act.put, List.setIfInBounds_toArray, List.set_cons_zero, List.set_cons_succ]
      refine wpAnyH_take (i := 4) (by simp only [List.getElem?_toArray, List.getElem?_cons_zero, List.getElem?_cons_succ]; rfl) (by kernel_rfl) (by kernel_rfl) (by kernel_rfl) (by intro _ _ _ h; exact h) (Or.inl ⟨by rfl, fun w hSw => by (dsimp only at hSw; go_simp; (try with_reducible rfl))⟩) (by assumption) ?_
      simp only [Act.put, List.setIfInBounds_toArray, List.set_cons_zero, List.set_cons_succ]
      refine wpAnyH_take (i := 5) (by simp only [List.getElem?_toArray, List.getElem?_cons_zero, List.getElem?_cons_succ]; rfl) (by kernel_rfl) (by kernel_rfl) (by kernel_rfl) (by intro _ _ _ h; exact h) (Or.inl ⟨by rfl, fun w hSw => by (dsimp only at hSw; go_simp; (try with_reducible rfl))⟩) (by assumption) ?_
      simp only [Act.put, List.setIfInBounds_toArray, List.set_cons_zero, List.set_cons_succ]
      refine wpAnyH_take (i := 6) (by simp only [List.getElem?_toArray, List.getElem?_cons_zero, List.getElem?_cons_succ]; rfl) (by kernel_rfl) (by kernel_rfl) (by kernel_rfl) (by intro _ _ _ h; exact h) (Or.inl ⟨by rfl, fun w hSw => by (dsimp only at hSw; go_simp; (try with_reducible rfl))⟩) (by assumption) ?_
      simp only [Act.put, List.setIfInBounds_toArray, List.set_cons_zero, List.set_cons_succ]
      refine wpAnyH_take (i := 7) (by simp only [List.getElem?_toArray, List.getElem?_cons_zero, List.getElem?_cons_succ]; rfl) (by kernel_rfl) (by kernel_rfl) (by kernel_rfl) (by intro _ _ _ h; exact h) (Or.inl ⟨by rfl, fun w hSw => by (dsimp only at hSw; go_simp; (try with_reducible rfl))⟩) (by assumption) ?_
      simp only [Act.put, List.setIfInBounds_toArray, List.set_cons_zero, List.set_cons_succ]
      refine wpAnyH_ready (rs := [8]) (by kernel_rfl) (by simp) ?_
      refine AllReadyH.cons (by simp only [List.getElem?_toArray, List.getElem?_cons_zero, List.getElem?_cons_succ]; rfl) ?_ AllReadyH.nil
      intro K hK
      go_simp
      refine (eqItm_one x _).mono ?_
      rintro e w1 ⟨rfl, hb1'⟩
      have hb1 : Below wr.heap.size wr w1 := undrew hb1'
      rw [← hb1.cell (p := ⟨b1, _, none⟩) hbw] at c0 c1 c2 c3 c4
      rw [← hb1.cell (p := ⟨b2, _, none⟩) hbw2] at d0 d1 d2 d3 d4
      go_wp2_with fail
      refine hK.out _ _ ⟨⟨c0, c1, c2, c3, c4⟩, ⟨d0, d1, d2, d3, d4⟩⟩ (fun hHeld => ?_)
      clear hK K
      try simp only [Act.put, List.setIfInBounds_toArray, List.set_cons_zero, List.set_cons_succ]
      refine wpAnyH_take (i := 9) (by simp only [List.getElem?_toArray, List.getElem?_cons_zero, List.getElem?_cons_succ]; rfl) (by kernel_rfl) (by kernel_rfl) (by kernel_rfl) (by intro _ _ _ h; exact h) (Or.inl ⟨by rfl, fun w hSw => by (dsimp only at hSw; go_simp; (try with_reducible rfl))⟩) (by assumption) ?_
      simp only [Act.put, List.setIfInBounds_toArray, List.set_cons_zero, List.set_cons_succ]
      refine wpAnyH_done (by kernel_rfl) ?_ _
      clear c0 c1 c2 c3 c4 d0 d1 d2 d3 d4
      go_wp2
      go_roundw
      case rel => exact ⟨k + 1, by omega, by go_num, chain hx hb1⟩
      case measure => simp [intOf]; omega
    · go_wp2
      go_ret
      exact ⟨rfl, hx⟩

end Go.Proofs.YthgbjnchhaoceaaDoor

/-
  The contracts of the model's questions for a token: a sign, a name that is no other word, a right token.
-/
namespace Go.Proofs.YthgbjnchhaoceaaDoor
open Go.ChangeShapes Go.WideShapes Go.ChangeAt Go.RowKit
attribute [local go_sem ↓] Go.wp_at_zero Go.wp_at_succ
attribute [local simp] World.cell?_alloc_past World.cell?_alloc_at World.frozen?_alloc_at cell_far cell_off cell_here World.frozen?_alloc_past

theorem signs_spec (w : World) :
    Calls Tryd.prog 45 #[] w fun e w' => ∃ g, e = .returned (.slice (some ⟨g, 0, none⟩) 4 4) ∧ StrsAt w' (some ⟨g, 0, none⟩) signW ∧ Below w.heap.size w w' := by
  go_enter Tryd.func45, Tryd.ntmps45
  go_wp2
  go_ret
  refine ⟨w.heap.size, rfl, ?_, (Below.refl _ _).alloc (Nat.le_refl _) _⟩
  intro j hj
  simp only [signW, List.length_cons, List.length_nil] at hj
  refine ⟨w.heap.size, 0, rfl, by simp, ?_⟩
  match j, hj with
  | 0, _ => simp [signW]
  | 1, _ => simp [signW]
  | 2, _ => simp [signW]
  | 3, _ => simp [signW]
theorem at_specT (n : Nat) (a : Option Addr) (cap : Nat) (l : List ByteArray) (hn : l.length = n) (s : ByteArray) (w : World) (hrow : StrsAt w a l) (hm : n ≤ maxLen) :
    Calls Tryd.prog 44 #[.slice a n cap, .string s] w fun e w' => ∃ r, e = .returned (.int .i64 r) ∧ AtIs l s r ∧ Below w.heap.size w w' := by
  subst hn; exact at_spec a cap l s w hrow hm
theorem word_lit (s : ByteArray) (l : List UInt8) (b : Bool) (h : decide (s.data.toList ≠ l) = b) : (s.toList == l) = !b := by
  rw [Lib.toList_data, ← h]
  by_cases e : s.data.toList = l
  · rw [e]; simp
  · rw [decide_eq_true e]; simpa using e
set_option maxHeartbeats 1000000 in
theorem namek_spec (s : ByteArray) (w : World) (hs : s.size ≤ maxLen) (b : Bool) (hb : nameK s = b) :
    Calls Tryd.prog 31 #[.string s] w fun e w' => e = .returned (.bool b) ∧ Below w.heap.size w w' := by
  have HB : Hid (nameK s = b) := hb
  clear hb
  obtain ⟨n1, hn1⟩ : ∃ x, nameB s = x := ⟨_, rfl⟩
  have HN1 : Hid (nameB s = n1) := hn1
  go_enter Tryd.func31, Tryd.ntmps31
  go_wp2_with fail
  refine (name_spec s w hs n1 hn1).mono ?_
  rintro e w1 ⟨rfl, rfl⟩
  cases n1
  · obtain rfl : b = false := by rw [← HB.out]; unfold nameK; rw [hn1, Bool.false_and]
    clear hn1
    go_wp2
    go_ret
    exact ⟨rfl, Below.refl _ _⟩
  clear hn1
  go_wp2_with fail
  refine (signs_spec w1).mono ?_
  rintro e w2 ⟨g, rfl, hst, hb2⟩
  go_wp2_with fail
  refine (at_specT 4 _ _ signW rfl s _ hst (by unfold maxLen; omega)).mono ?_
  rintro e w3 ⟨r, rfl, hat, hb3⟩
  have hx := chain hb2 hb3
  have hrr := hat.neg
  by_cases hr : 0 ≤ r
  · have hin : inB signW s = true := inB_iff.2 (hrr.1 hr)
    obtain rfl : b = false := by rw [← HB.out]; unfold nameK; rw [HN1.out, hin]; rfl
    have hr' : ¬ r < 0 := by omega
    clear hat hst hrr
    go_wp2
    go_ret
    exact ⟨rfl, hx⟩
  · have hin : inB signW s = false := inB_no.2 (fun h => hr (hrr.2 h))
    have HB2 : Hid ((decide (s.data.toList ≠ wNone) && (decide (s.data.toList ≠ wYes) && decide (s.data.toList ≠ wNo))) = b) := by
      have : (decide (s.data.toList ≠ wNone) && (decide (s.data.toList ≠ wYes) && decide (s.data.toList ≠ wNo))) = b := by
        rw [← HB.out]; unfold nameK; rw [HN1.out, hin]; rfl
      exact this
    have hr' : r < 0 := by omega
    obtain ⟨b1, h1⟩ : ∃ x, decide (s.data.toList ≠ wNone) = x := ⟨_, rfl⟩
    obtain ⟨b2, h2⟩ : ∃ x, decide (s.data.toList ≠ wYes) = x := ⟨_, rfl⟩
    obtain ⟨b3, h3⟩ : ∃ x, decide (s.data.toList ≠ wNo) = x := ⟨_, rfl⟩
    have e1 := word_lit s wNone b1 h1
    have e2 := word_lit s wYes b2 h2
    have e3 := word_lit s wNo b3 h3
    have HBB : Hid ((b1 && (b2 && b3)) = b) := by
      have : (b1 && (b2 && b3)) = b := by rw [← HB2.out, h1, h2, h3]
      exact this
    unfold wNone at e1
    unfold wYes at e2
    unfold wNo at e3
    clear hat hst hrr hin HB HB2 h1 h2 h3
    cases b1
    · obtain rfl : false = b := HBB.out
      go_wp2
      go_ret
      exact ⟨rfl, hx⟩
    cases b2
    · obtain rfl : false = b := HBB.out
      go_wp2
      go_ret
      exact ⟨rfl, hx⟩
    cases b3
    · obtain rfl : false = b := HBB.out
      go_wp2
      go_ret
      exact ⟨rfl, hx⟩
    · obtain rfl : true = b := HBB.out
      go_wp2
      go_ret
      exact ⟨rfl, hx⟩
theorem zeroC_same (c : CK) (b : Bool) (h : decide (c = zeroC) = b) : sameB c.1 c.2.1 c.2.2 0 0 ⟨#[]⟩ = b := by
  rw [← h]
  rw [Bool.eq_iff_iff, sameB_eq, decide_eq_true_eq]
  obtain ⟨x, y, z⟩ := c
  unfold zeroC
  simp
end Go.Proofs.YthgbjnchhaoceaaDoor

/-
  Rows of items in memory of one's own: where they lie.
-/
namespace Go.Proofs.YthgbjnchhaoceaaDoor
open Go.ChangeShapes Go.WideShapes Go.ChangeAt Go.RowKit
attribute [local simp] World.cell?_alloc_past World.cell?_alloc_at World.frozen?_alloc_at cell_far cell_off cell_here World.frozen?_alloc_past

theorem infoItm5 : (Tryd.prog.info? 31).map (fun i => (i.zero, i.size, i.bytes)) = some (some (.agg #[.int .i64 0, .int .i64 0, .int .i64 0, .string ⟨#[]⟩, .string ⟨#[]⟩]), 5, 56) := by kernel_rfl
theorem cells5I (w : World) (a b c d e : Value) : ∀ (j : Nat) u, [a, b, c, d, e][j]? = some u → (w.alloc (.cells #[a, b, c, d, e] 31)).cell? ((⟨w.heap.size, 0, none⟩ : Addr).add j) = some u := by
  intro j u hj
  match j, hj with
  | 0, hj => simp at hj; subst hj; simp [Addr.add, go_sem]
  | 1, hj => simp at hj; subst hj; simp [Addr.add, go_sem]
  | 2, hj => simp at hj; subst hj; simp [Addr.add, go_sem]
  | 3, hj => simp at hj; subst hj; simp [Addr.add, go_sem]
  | 4, hj => simp at hj; subst hj; simp [Addr.add, go_sem]
theorem allT_snoc (l : List TT) (k : Nat) (h : k < l.length) : (l.take (k + 1)).all tokB = ((l.take k).all tokB && tokB l[k]) := by
  rw [List.take_succ_eq_append_getElem h, List.all_append]; simp
theorem own_itm {w : World} {base : Nat} {v : Value} {o : List TI} (h : w.ownsRow base 31 5 v o.length (flatItm o)) : ∃ a' c', v = .slice a' o.length c' ∧ ItmAt w a' o := by
  rcases h.2 with ⟨h', h''⟩ | ⟨g, c, cur, h', _⟩
  · subst h'
    have e : o = [] := List.length_eq_zero_iff.1 (by omega)
    subst e
    exact ⟨none, 0, rfl, fun j hj => by simp at hj⟩
  · subst h'
    exact ⟨_, c, rfl, ownItm h⟩
theorem itmAt_nil (w : World) (a : Option Addr) : ItmAt w a [] := fun j hj => by simp at hj
end Go.Proofs.YthgbjnchhaoceaaDoor

/-
  The contracts of the model's order on cells.
-/
namespace Go.Proofs.YthgbjnchhaoceaaDoor
open Go.ChangeShapes Go.WideShapes Go.ChangeAt Go.RowKit
attribute [local go_sem ↓] Go.wp_at_zero Go.wp_at_succ

/-- Is the one cell less than the other? By kind, then by number, then by text. -/
def lessB (k1 n1 : Int) (t1 : ByteArray) (k2 n2 : Int) (t2 : ByteArray) : Bool :=
  if (k1 != k2) = true then decide (k1 < k2) else if (n1 != n2) = true then decide (n1 < n2) else Op.bytesLess t1.toList t2.toList

end Go.Proofs.YthgbjnchhaoceaaDoor

/-
  The contracts of the model's SameAs and Below.
-/
namespace Go.Proofs.YthgbjnchhaoceaaDoor
open Go.ChangeShapes Go.WideShapes Go.ChangeAt Go.RowKit
attribute [local go_sem ↓] Go.wp_at_zero Go.wp_at_succ

/-- Are both right, and is one none? -/
def nonesB (k1 n1 : Int) (t1 : ByteArray) (k2 n2 : Int) (t2 : ByteArray) : Bool := (okB k1 n1 t1 && okB k2 n2 t2) && (k1 == 0 || k2 == 0)
/-- Are both right, and of one kind, or is one none? -/
def likeB (k1 n1 : Int) (t1 : ByteArray) (k2 n2 : Int) (t2 : ByteArray) : Bool := (okB k1 n1 t1 && okB k2 n2 t2) && ((k1 == 0 || k2 == 0) || k1 == k2)
/-- What comes of two cells that are held against each other: kind, number, fault. -/
def heldR (like none yes : Bool) : Int × Int × Int := if like = false then (0, 0, 3) else if none = true then (0, 0, 0) else (3, if yes = true then 1 else 0, 0)
/-- What SameAs comes to: kind, number, fault. -/
def sameR (k1 n1 : Int) (t1 : ByteArray) (k2 n2 : Int) (t2 : ByteArray) : Int × Int × Int := heldR (likeB k1 n1 t1 k2 n2 t2) (nonesB k1 n1 t1 k2 n2 t2) (sameB k1 n1 t1 k2 n2 t2)
/-- What Below comes to: kind, number, fault. -/
def belowR (k1 n1 : Int) (t1 : ByteArray) (k2 n2 : Int) (t2 : ByteArray) : Int × Int × Int := heldR (likeB k1 n1 t1 k2 n2 t2) (nonesB k1 n1 t1 k2 n2 t2) (lessB k1 n1 t1 k2 n2 t2)

end Go.Proofs.YthgbjnchhaoceaaDoor

/-
  The contract of the model's helper that takes a row over: new memory.
-/
namespace Go.Proofs.YthgbjnchhaoceaaDoor
open Go.ChangeShapes Go.WideShapes Go.ChangeAt Go.RowKit
attribute [local go_sem ↓] Go.wp_at_zero Go.wp_at_succ

/-- The cells of a row, one behind the other, lie there. -/
theorem flat_cells {w : World} {ad : Addr} {l : List CT} (h : RowAt w (some ad) l) (j : Nat) (u : Value) (hj : (flat l)[j]? = some u) : w.cell? (ad.add j) = some u := by
  have hlt : j < l.length * 3 := by
    have := (List.getElem?_eq_some_iff.1 hj).1
    rwa [flat_length] at this
  obtain ⟨b, o, e, _, c0, c1, c2⟩ := h (j / 3) (by omega)
  cases e
  obtain ⟨f0, f1, f2⟩ := flat_at l (j / 3) (by omega)
  have hadd : ∀ q, ((⟨b, o, none⟩ : Addr).add q) = ⟨b, o + q, none⟩ := by
    intro q
    unfold Addr.add
    by_cases hq : q = 0 <;> simp [hq]
  rw [hadd]
  rcases (show j = j / 3 * 3 ∨ j = j / 3 * 3 + 1 ∨ j = j / 3 * 3 + 2 by omega) with e | e | e
  · rw [e] at hj ⊢
    rw [f0] at hj
    rw [← hj]; exact c0
  · rw [e] at hj
    rw [f1] at hj
    rw [e, ← hj, ← Nat.add_assoc]; exact c1
  · rw [e] at hj
    rw [f2] at hj
    rw [e, ← hj, ← Nat.add_assoc]; exact c2

theorem flat_one (l : List CT) : ∀ u ∈ flat l, u.oneCell' = true := by
  induction l with
  | nil => intro u hu; cases hu
  | cons x l ih =>
    intro u hu
    simp only [flat, List.mem_cons] at hu
    rcases hu with rfl | rfl | rfl | hu
    · rfl
    · rfl
    · rfl
    · exact ih u hu

end Go.Proofs.YthgbjnchhaoceaaDoor
