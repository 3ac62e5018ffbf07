/-
  A part of the proof: TextS, ShowMathS, ShowSumS, RdS.
-/
import Derived.Test.YtfokdblojlmnlamGreatDoorPart5
import Derived.Test.YtfokdblojlmnlamGreatDoorPart4
import Derived.Test.YtfokdblojlmnlamGreatDoorPart9
import Derived.Test.YtfokdblojlmnlamGreatDoorPart8
import Derived.Test.YtfokdblojlmnlamGreatDoorPart7

/-
  The contract of the model's TextOf.
-/
namespace Go.Proofs.YtfokdblojlmnlamGreatDoor
open Go.ChangeShapes Go.WideShapes Go.ChangeAt Go.RowKit
attribute [local go_sem ↓] Go.wp_at_zero Go.wp_at_succ
attribute [local simp] World.cell?_alloc_past World.cell?_alloc_at World.frozen?_alloc_at cell_far cell_off cell_here World.frozen?_alloc_past

theorem tokT_len {t : TT} (ht : tokB t = true) : (tokT t).length ≤ 14 := by
  rcases tokB_kind ht with ⟨s, rfl, hn⟩ | ⟨c, rfl, hc⟩ | ⟨s, rfl, hs⟩
  · unfold nameK nameB at hn
    simp only [Bool.and_eq_true, Bool.not_eq_true', decide_eq_true_eq] at hn
    obtain ⟨⟨h1, h2, h3⟩, _⟩ := hn
    rw [tokT_1, ← Lib.size_eq]
    omega
  · rw [tokT_2]
    obtain ⟨k, n, x⟩ := c
    exact l4T_len hc
  · rw [tokT_3]
    unfold signB at hs
    rw [Bool.or_eq_true] at hs
    rcases hs with hs | hs
    · have hm := inB_iff.1 hs
      simp only [signW, List.mem_cons, List.not_mem_nil, or_false] at hm
      rcases hm with rfl | rfl | rfl | rfl <;> decide
    · have hm := inB_iff.1 hs
      simp only [signO, List.mem_cons, List.not_mem_nil, or_false] at hm
      rcases hm with rfl | rfl | rfl | rfl | rfl | rfl | rfl | rfl <;> decide
def textsK (l : List TT) : List ByteArray := l.map fun t => ⟨(tokT t).toArray⟩
theorem textsK_snoc (l : List TT) (k : Nat) (h : k < l.length) : textsK (l.take (k + 1)) = textsK (l.take k) ++ [⟨(tokT l[k]).toArray⟩] := by
  unfold textsK; rw [List.take_succ_eq_append_getElem h, List.map_append]; rfl
theorem rawT_textsK (l : List TT) : rawT (textsK l) = l.map tokT := by
  unfold rawT textsK; rw [List.map_map]; rfl
theorem toksT_texts {l : List TT} (h : l.all tokB = true) : toksT l = ⟨(Lib.join (rawT (textsK l)) [32]).toArray⟩ := by
  unfold toksT; rw [if_pos h, rawT_textsK]
theorem textsK_14 {l : List TT} (h : l.all tokB = true) : ∀ x ∈ textsK l, x.size ≤ 14 := by
  intro x hx
  unfold textsK at hx
  obtain ⟨c, hc, rfl⟩ := List.mem_map.1 hx
  rw [Lib.size_eq, bytes_mk]
  exact tokT_len (List.all_eq_true.1 h c hc)
theorem textsK_length (l : List TT) : (textsK l).length = l.length := by unfold textsK; rw [List.length_map]
theorem allK_snoc (l : List TT) (k : Nat) (h : k < l.length) : (l.take (k + 1)).all tokB = ((l.take k).all tokB && tokB l[k]) := by
  rw [List.take_succ_eq_append_getElem h, List.all_append]; simp
end Go.Proofs.YtfokdblojlmnlamGreatDoor

/-
  The text of a sum without any program: a pile of texts, item by item, and the text of its tree.
-/
namespace Go.Proofs.YtfokdblojlmnlamGreatDoor

def bytesOf (l : List UInt8) : ByteArray := ⟨l.toArray⟩
/-- The text of one alone. -/
def leafX (x : TI) : ByteArray := bytesOf (tokT (tkOf x))
def oneX (k : Int) (s : ByteArray) : ByteArray := bytesOf (40 :: ((sgn k).data.toList ++ 32 :: (s.data.toList ++ [41])))
def twoX (k : Int) (s u : ByteArray) : ByteArray := bytesOf (40 :: (s.data.toList ++ 32 :: ((sgn k).data.toList ++ 32 :: (u.data.toList ++ [41]))))
/-- One item more: the pile of texts, the last one at the end. -/
def showStep (P : List ByteArray) (x : TI) : List ByteArray :=
  if needsI x.1 = 0 then P ++ [leafX x]
  else if needsI x.1 = 1 then P.set (P.length - 1) (oneX x.1 (P.getD (P.length - 1) ⟨#[]⟩))
  else (P.set (P.length - 2) (twoX x.1 (P.getD (P.length - 2) ⟨#[]⟩) (P.getD (P.length - 1) ⟨#[]⟩))).take (P.length - 1)
def showP (l : List TI) (P : List ByteArray) : List ByteArray := l.foldl showStep P
theorem showP_nil (P : List ByteArray) : showP [] P = P := rfl
theorem showP_append (l m : List TI) (P : List ByteArray) : showP (l ++ m) P = showP m (showP l P) := List.foldl_append
theorem showP_one (x : TI) (P : List ByteArray) : showP [x] P = showStep P x := rfl
theorem needs_012 (k : Int) : needsI k = 0 ∨ needsI k = 1 ∨ needsI k = 2 := by
  unfold needsI
  split
  · exact .inl rfl
  · split
    · exact .inr (.inl rfl)
    · exact .inr (.inr rfl)
theorem showStep_len (P : List ByteArray) (x : TI) (h : needsI x.1 ≤ P.length) : (showStep P x).length = P.length + 1 - needsI x.1 := by
  unfold showStep
  rcases needs_012 x.1 with e | e | e
  · rw [if_pos e, e, List.length_append]; rfl
  · rw [if_neg (by omega), if_pos e, List.length_set, e]; omega
  · rw [if_neg (by omega), if_neg (by omega), List.length_take, List.length_set, e]
    omega
theorem showP_len : ∀ (l : List TI) (P : List ByteArray) (m : Nat), heapN l P.length = some m → (showP l P).length = m
  | [], P, m, h => by simp only [heapN, Option.some.injEq] at h; exact h
  | x :: l, P, m, h => by
    unfold heapN at h
    split at h
    · rename_i hc
      show (showP l (showStep P x)).length = m
      exact showP_len l _ m (by rw [showStep_len P x hc.2]; exact h)
    · cases h
theorem heapN_le : ∀ (l : List TI) (n m : Nat), heapN l n = some m → m ≤ n + l.length
  | [], n, m, h => by simp only [heapN, Option.some.injEq] at h; simp; omega
  | x :: l, n, m, h => by
    unfold heapN at h
    split at h
    · have := heapN_le l _ m h
      simp only [List.length_cons]
      omega
    · cases h
/-- A sum's pile on the way. -/
theorem heapN_take {l : List TI} {m : Nat} (h : heapN l 0 = some m) (k : Nat) (hk : k < l.length) : ∃ p, heapN (l.take k) 0 = some p ∧ itemB l[k] = true ∧ needsI l[k].1 ≤ p := by
  have e : l = l.take k ++ (l[k] :: l.drop (k + 1)) := by
    rw [← List.drop_eq_getElem_cons hk, List.take_append_drop]
  rw [e, heapN_append] at h
  cases hp : heapN (l.take k) 0 with
  | none => rw [hp] at h; cases h
  | some p =>
    rw [hp] at h
    simp only [Option.bind_some] at h
    unfold heapN at h
    split at h
    · rename_i hc
      exact ⟨p, rfl, hc.1, hc.2⟩
    · cases h
theorem needs_op1 {k : Int} (h : k = 11 ∨ k = 12) : needsI k = 1 := by rcases h with rfl | rfl <;> rfl
theorem needs_op2 {k : Int} (h : 3 ≤ k ∧ k ≤ 10) : needsI k = 2 := by unfold needsI; rw [if_neg (by omega), if_neg (by omega)]
theorem needs_leaf {k : Int} (h : k = 1 ∨ k = 2) : needsI k = 0 := by rcases h with rfl | rfl <;> rfl
/-- The pile of a tree is its text. -/
theorem showP_tree {t : Tr} (h : t.ok) : ∀ P, showP t.post P = P ++ [bytesOf t.text] := by
  induction t with
  | leaf x =>
    intro P
    simp only [Tr.post, Tr.text]
    rw [showP_one]
    unfold showStep
    rw [if_pos (needs_leaf h.2)]
    rfl
  | one k t ih =>
    intro P
    simp only [Tr.post, Tr.text]
    rw [showP_append, ih h.2, showP_one]
    unfold showStep
    rw [show (opI k).1 = k from rfl, needs_op1 h.1, if_neg (by decide), if_pos rfl]
    simp only [List.length_append, List.length_singleton, Nat.add_sub_cancel]
    rw [List.set_append_right _ _ (Nat.le_refl _), Nat.sub_self]
    simp [List.getD, oneX, bytesOf]
  | two k a b iha ihb =>
    intro P
    simp only [Tr.post, Tr.text]
    rw [showP_append, iha h.2.1, showP_append, ihb h.2.2, showP_one]
    unfold showStep
    rw [show (opI k).1 = k from rfl, needs_op2 h.1, if_neg (by decide), if_neg (by decide)]
    have e1 : (P ++ [bytesOf a.text] ++ [bytesOf b.text]).length = P.length + 2 := by simp
    rw [e1, show P.length + 2 - 2 = P.length by omega, show P.length + 2 - 1 = P.length + 1 by omega]
    have g1 : (P ++ [bytesOf a.text] ++ [bytesOf b.text]).getD P.length ⟨#[]⟩ = bytesOf a.text := by simp [List.getD]
    have g2 : (P ++ [bytesOf a.text] ++ [bytesOf b.text]).getD (P.length + 1) ⟨#[]⟩ = bytesOf b.text := by simp [List.getD]
    rw [g1, g2, List.append_assoc, List.set_append_right _ _ (Nat.le_refl _), Nat.sub_self]
    rw [List.take_append, show P.length + 1 - P.length = 1 by omega, List.take_of_length_le (by omega)]
    rfl
/-- All bytes of a pile. -/
def sizesP (P : List ByteArray) : Nat := (P.map ByteArray.size).sum
theorem bytesOf_size (l : List UInt8) : (bytesOf l).size = l.length := rfl
theorem sizesP_append (P R : List ByteArray) : sizesP (P ++ R) = sizesP P + sizesP R := by unfold sizesP; rw [List.map_append, List.sum_append]
theorem sizesP_one (u : ByteArray) : sizesP [u] = u.size := by simp [sizesP]
theorem sizesP_get (P : List ByteArray) (m : Nat) (h : m < P.length) : P[m].size ≤ sizesP P := by
  have e : P = P.take m ++ (P[m] :: P.drop (m + 1)) := by rw [← List.drop_eq_getElem_cons h, List.take_append_drop]
  have h2 : sizesP P = sizesP (P.take m) + (sizesP [P[m]] + sizesP (P.drop (m + 1))) := by
    conv => lhs; rw [e]
    rw [sizesP_append, ← sizesP_append [P[m]]]; rfl
  rw [sizesP_one] at h2
  omega
theorem sgn_size (k : Int) : (sgn k).size ≤ 5 := by
  unfold sgn
  repeat' split
  all_goals decide
theorem snoc_of {P : List ByteArray} {m : Nat} (h : P.length = m + 1) : ∃ R u, P = R ++ [u] ∧ R.length = m := by
  rcases List.eq_nil_or_concat P with rfl | ⟨R, u, e⟩
  · simp at h
  · rw [List.concat_eq_append] at e
    subst e
    exact ⟨R, u, rfl, by simpa using h⟩
theorem showStep_one {R : List ByteArray} {u : ByteArray} {x : TI} (h : needsI x.1 = 1) : showStep (R ++ [u]) x = R ++ [oneX x.1 u] := by
  unfold showStep
  rw [h, if_neg (by decide), if_pos rfl]
  simp only [List.length_append, List.length_singleton, Nat.add_sub_cancel]
  rw [List.set_append_right _ _ (Nat.le_refl _), Nat.sub_self]
  simp [List.getD]
theorem showStep_two {R : List ByteArray} {u v : ByteArray} {x : TI} (h : needsI x.1 = 2) : showStep (R ++ [u] ++ [v]) x = R ++ [twoX x.1 u v] := by
  unfold showStep
  rw [h, if_neg (by decide), if_neg (by decide)]
  have e1 : (R ++ [u] ++ [v]).length = R.length + 2 := by simp
  rw [e1, show R.length + 2 - 2 = R.length by omega, show R.length + 2 - 1 = R.length + 1 by omega]
  have g1 : (R ++ [u] ++ [v]).getD R.length ⟨#[]⟩ = u := by simp [List.getD]
  have g2 : (R ++ [u] ++ [v]).getD (R.length + 1) ⟨#[]⟩ = v := by simp [List.getD]
  rw [g1, g2, List.append_assoc, List.set_append_right _ _ (Nat.le_refl _), Nat.sub_self]
  rw [List.take_append, show R.length + 1 - R.length = 1 by omega, List.take_of_length_le (by omega)]
  rfl
theorem leafX_size {x : TI} (h : itemB x = true) (h0 : needsI x.1 = 0) : (x.1 = 1 ∨ x.1 = 2) ∧ (leafX x).size ≤ 14 := by
  have hx : x.1 = 1 ∨ x.1 = 2 := by
    by_cases h1 : x.1 = 1
    · exact .inl h1
    by_cases h2 : x.1 = 2
    · exact .inr h2
    have := item_op h h1 h2
    unfold needsI at h0
    rw [if_neg (by omega)] at h0
    split at h0 <;> cases h0
  exact ⟨hx, tokT_len (tkOf_ok h hx)⟩
theorem showStep_size {P : List ByteArray} {x : TI} (h : itemB x = true) (hn : needsI x.1 ≤ P.length) : sizesP (showStep P x) ≤ sizesP P + 14 := by
  rcases needs_012 x.1 with e | e | e
  · unfold showStep
    rw [if_pos e, sizesP_append, sizesP_one]
    have := (leafX_size h e).2
    omega
  · obtain ⟨m, hm⟩ : ∃ m, P.length = m + 1 := ⟨P.length - 1, by omega⟩
    obtain ⟨R, u, rfl, _⟩ := snoc_of hm
    rw [showStep_one e, sizesP_append, sizesP_one, sizesP_append, sizesP_one]
    have := sgn_size x.1
    rw [Lib.size_eq] at this
    unfold oneX
    rw [bytesOf_size]
    simp only [List.length_cons, List.length_append, List.length_nil]
    rw [← Lib.size_eq u]
    omega
  · obtain ⟨m, hm⟩ : ∃ m, P.length = m + 1 + 1 := ⟨P.length - 2, by omega⟩
    obtain ⟨R, v, rfl, hR⟩ := snoc_of hm
    obtain ⟨R, u, rfl, _⟩ := snoc_of hR
    rw [showStep_two e, sizesP_append, sizesP_one, sizesP_append, sizesP_append, sizesP_one, sizesP_one]
    have := sgn_size x.1
    rw [Lib.size_eq] at this
    unfold twoX
    rw [bytesOf_size]
    simp only [List.length_cons, List.length_append, List.length_nil]
    rw [← Lib.size_eq u, ← Lib.size_eq v]
    omega
/-- The text of a sum; empty where it is none. -/
def sumT (l : List TI) : ByteArray := if sumB l = true then (showP l []).headD ⟨#[]⟩ else ⟨#[]⟩
theorem sumT_tree {t : Tr} (h : t.ok) (hs : sumB t.post = true) : sumT t.post = bytesOf t.text := by
  unfold sumT
  rw [if_pos hs, showP_tree h []]
  rfl
end Go.Proofs.YtfokdblojlmnlamGreatDoor

/-
  The contract of the model's ShowSum.
-/
namespace Go.Proofs.YtfokdblojlmnlamGreatDoor
open Go.ChangeShapes Go.WideShapes Go.ChangeAt Go.RowKit
attribute [local go_sem ↓] Go.wp_at_zero Go.wp_at_succ
attribute [local simp] World.cell?_alloc_past World.cell?_alloc_at World.frozen?_alloc_at cell_far cell_off cell_here World.frozen?_alloc_past

def signL : List ByteArray := [sgn 3, sgn 4, sgn 5, sgn 6, sgn 7, sgn 8, sgn 9, sgn 10, sgn 11, sgn 12]
theorem signs8_spec (w : World) :
    Calls Tryz.prog 72 #[] w fun e w' => ∃ g, e = .returned (.slice (some ⟨g, 0, none⟩) 10 10) ∧ (∀ k : Int, 3 ≤ k → k ≤ 12 → w'.cell? ⟨g, (k - 3).toNat, none⟩ = some (.string (sgn k))) ∧ g < w'.heap.size ∧ Below w.heap.size w w' := by
  go_enter Tryz.func72, Tryz.ntmps72
  go_wp2
  go_ret
  refine ⟨w.heap.size, rfl, ?_, by simp, (Below.refl _ _).alloc (Nat.le_refl _) _⟩
  intro k h1 h2
  have : k = 3 ∨ k = 4 ∨ k = 5 ∨ k = 6 ∨ k = 7 ∨ k = 8 ∨ k = 9 ∨ k = 10 ∨ k = 11 ∨ k = 12 := by omega
  rcases this with rfl | rfl | rfl | rfl | rfl | rfl | rfl | rfl | rfl | rfl <;> simp [sgn]
theorem own_shrink {w : World} {base g c n : Nat} {e : TypeId} {P : List ByteArray} (h : w.ownsRow base e 1 (.slice (some ⟨g, 0, none⟩) n c) n (P.map Value.string)) (m : Nat) (hm : m ≤ n) : w.ownsRow base e 1 (.slice (some ⟨g, 0, none⟩) m c) m ((P.take m).map Value.string) := by
  have hl : P.length = n := by have := h.1; rw [List.length_map, Nat.mul_one] at this; exact this
  rcases h.2 with ⟨h', _⟩ | ⟨g', c', cur, h', hb', hg', hc', hm', hz', ht'⟩
  · simp at h'
  · simp only [Value.slice.injEq, Option.some.injEq, Addr.mk.injEq, and_true, true_and] at h'
    obtain ⟨rfl, rfl⟩ := h'
    refine ⟨by rw [List.length_map, List.length_take]; omega, .inr ⟨g, c, cur, rfl, hb', hg', by omega, hm', hz', ?_⟩⟩
    have e2 : cur.toList.take (m * 1) = (cur.toList.take (n * 1)).take (m * 1) := by rw [List.take_take]; congr 1; omega
    rw [e2, ht', Nat.mul_one, List.map_take]
theorem cells1S (w : World) (x : Value) : ∀ j u, [x][j]? = some u → (w.alloc (.cells #[x] 9)).cell? ((⟨w.heap.size, 0, none⟩ : Addr).add j) = some u := by
  intro j u hj
  match j, hj with
  | 0, hj => simp at hj; subst hj; simp [Addr.add]
end Go.Proofs.YtfokdblojlmnlamGreatDoor

/-
  The model's reader of tokens: where it lies, and the contracts of its small steps.
-/
namespace Go.Proofs.YtfokdblojlmnlamGreatDoor
open Go.ChangeShapes Go.WideShapes Go.ChangeAt Go.RowKit
attribute [local go_sem ↓] Go.wp_at_zero Go.wp_at_succ
attribute [local simp] World.cell?_alloc_past World.cell?_alloc_at World.frozen?_alloc_at cell_far cell_off cell_here World.frozen?_alloc_past

/-- The four fields of a reader in block R. -/
def RBox (w : World) (R : Nat) (v0 : Value) (k : Int) (vo : Value) (bad : Bool) : Prop := w.heap[R]? = some (.cells #[v0, .int .i64 k, vo, .bool bad] 53 (0, 0))
theorem RBox.lt {w : World} {R : Nat} {v0 : Value} {k : Int} {vo : Value} {bad : Bool} (h : RBox w R v0 k vo bad) : R < w.heap.size := by
  by_cases hl : R < w.heap.size
  · exact hl
  · unfold RBox at h; rw [Array.getElem?_eq_none (by omega)] at h; cases h
theorem RBox.cells {w : World} {R : Nat} {v0 : Value} {k : Int} {vo : Value} {bad : Bool} (h : RBox w R v0 k vo bad) : w.cell? ⟨R, 0, none⟩ = some v0 ∧ w.cell? ⟨R, 1, none⟩ = some (.int .i64 k) ∧ w.cell? ⟨R, 2, none⟩ = some vo ∧ w.cell? ⟨R, 3, none⟩ = some (.bool bad) := by
  unfold RBox at h
  refine ⟨?_, ?_, ?_, ?_⟩ <;> simp [World.cell?, h]
theorem RBox.free {w : World} {R : Nat} {v0 : Value} {k : Int} {vo : Value} {bad : Bool} (h : RBox w R v0 k vo bad) : w.frozen? ⟨R, 1, none⟩ = false ∧ w.frozen? ⟨R, 2, none⟩ = false ∧ w.frozen? ⟨R, 3, none⟩ = false := by
  unfold RBox at h
  refine ⟨?_, ?_, ?_⟩ <;> simp [World.frozen?, h]
theorem RBox.of {w w' : World} {R : Nat} {v0 : Value} {k : Int} {vo : Value} {bad : Bool} (h : RBox w R v0 k vo bad) (e : w'.heap[R]? = w.heap[R]?) : RBox w' R v0 k vo bad := by unfold RBox at h ⊢; rw [e]; exact h
theorem RBox.below {w w' : World} {R : Nat} {v0 : Value} {k : Int} {vo : Value} {bad : Bool} (h : RBox w R v0 k vo bad) (hb : Below w.heap.size w w') : RBox w' R v0 k vo bad := h.of (hb.block R h.lt)
theorem RBox.set1 {w : World} {R : Nat} {v0 : Value} {k : Int} {vo : Value} {bad : Bool} (h : RBox w R v0 k vo bad) (u : Int) : RBox (w.setCell ⟨R, 1, none⟩ (.int .i64 u)) R v0 u vo bad := by
  have := heap_setCell_same w R 1 #[v0, .int .i64 k, vo, .bool bad] 53 (.int .i64 u) h
  unfold RBox; rw [this]; rfl
theorem RBox.set2 {w : World} {R : Nat} {v0 : Value} {k : Int} {vo : Value} {bad : Bool} (h : RBox w R v0 k vo bad) (u : Value) : RBox (w.setCell ⟨R, 2, none⟩ u) R v0 k u bad := by
  have := heap_setCell_same w R 2 #[v0, .int .i64 k, vo, .bool bad] 53 u h
  unfold RBox; rw [this]; rfl
theorem RBox.set3 {w : World} {R : Nat} {v0 : Value} {k : Int} {vo : Value} {bad : Bool} (h : RBox w R v0 k vo bad) (u : Bool) : RBox (w.setCell ⟨R, 3, none⟩ (.bool u)) R v0 k vo u := by
  have := heap_setCell_same w R 3 #[v0, .int .i64 k, vo, .bool bad] 53 (.bool u) h
  unfold RBox; rw [this]; rfl
theorem RBox.notOwn {w : World} {R : Nat} {v0 : Value} {k : Int} {vo : Value} {bad : Bool} (h : RBox w R v0 k vo bad) {base : Nat} {size n : Nat} {v : Value} {xs : List Value} (ho : w.ownsRow base 63 size v n xs) : v.ownBlock ≠ some R := by
  rcases ho.2 with ⟨rfl, _⟩ | ⟨g, cap, cur, rfl, _, hg, _⟩
  · simp [Value.ownBlock]
  · intro hh
    simp only [Value.ownBlock, Option.some.injEq] at hh
    subst hh
    unfold RBox at h
    rw [h] at hg
    simp at hg
/-- A reader of these tokens: how far it has come, what it made, whether something was wrong; all that was there before w0 is as it was. -/
structure Rd (w0 w : World) (R : Nat) (a : Option Addr) (n c : Nat) (toks : List TT) (k : Nat) (vo : Value) (out : List TI) (bad : Bool) : Prop where
  box : RBox w R (.slice a n c) k vo bad
  own : w.ownsRow w0.heap.size 63 5 vo out.length (flatItm out)
  kept : Below w0.heap.size w0 w
  hR : w0.heap.size ≤ R
  row : TokAt w0 a toks
  hn : toks.length = n
  hk : k ≤ n
  hout : out.length ≤ k
theorem Rd.below {w0 w w' : World} {R : Nat} {a : Option Addr} {n c : Nat} {toks : List TT} {k : Nat} {vo : Value} {out : List TI} {bad : Bool} (h : Rd w0 w R a n c toks k vo out bad) (hb : Below w.heap.size w w') : Rd w0 w' R a n c toks k vo out bad :=
  ⟨h.box.below hb, own_below h.own hb, chain h.kept hb, h.hR, h.row, h.hn, h.hk, h.hout⟩
theorem Rd.drew {w0 w : World} {R : Nat} {a : Option Addr} {n c : Nat} {toks : List TT} {k : Nat} {vo : Value} {out : List TI} {bad : Bool} (h : Rd w0 w R a n c toks k vo out bad) : Rd w0 w.drew R a n c toks k vo out bad := h.below (Below.refl _ _).drew
theorem Rd.at {w0 w : World} {R : Nat} {a : Option Addr} {n c : Nat} {toks : List TT} {k : Nat} {vo : Value} {out : List TI} {bad : Bool} (h : Rd w0 w R a n c toks k vo out bad) (j : Nat) (hj : j ≤ n) (hjk : out.length ≤ j) : Rd w0 (w.setCell ⟨R, 1, none⟩ (.int .i64 (j : Int))) R a n c toks j vo out bad :=
  ⟨h.box.set1 j, ownsRow_setCell_other h.own (h.box.notOwn h.own) _, h.kept.setCell h.hR _, h.hR, h.row, h.hn, hj, hjk⟩
theorem Rd.wrong {w0 w : World} {R : Nat} {a : Option Addr} {n c : Nat} {toks : List TT} {k : Nat} {vo : Value} {out : List TI} {bad : Bool} (h : Rd w0 w R a n c toks k vo out bad) (b : Bool) : Rd w0 (w.setCell ⟨R, 3, none⟩ (.bool b)) R a n c toks k vo out b :=
  ⟨h.box.set3 b, ownsRow_setCell_other h.own (h.box.notOwn h.own) _, h.kept.setCell h.hR _, h.hR, h.row, h.hn, h.hk, h.hout⟩
theorem drop_at {toks : List TT} {k : Nat} (h : k < toks.length) : toks.drop k = toks[k] :: toks.drop (k + 1) := List.drop_eq_getElem_cons h
set_option maxRecDepth 100000 in
set_option maxHeartbeats 4000000 in
theorem sees_spec {w0 w : World} {R : Nat} {a : Option Addr} {n c : Nat} {toks : List TT} {k : Nat} {vo : Value} {out : List TI} {bad : Bool} (h : Rd w0 w R a n c toks k vo out bad) (hm : n ≤ 1048576) (s : ByteArray) :
    Calls Tryz.prog 44 #[.pointer (some ⟨R, 0, none⟩), .string s] w fun e w' => ∃ b k', e = .returned (.bool b) ∧ Rd w0 w' R a n c toks k' vo out bad ∧ (b = true → k' = k + 1 ∧ seesT s (toks.drop k) = some (toks.drop (k + 1))) ∧ (b = false → k' = k ∧ seesT s (toks.drop k) = none) ∧ Keep R w w' := by
  have H : Hid (Rd w0 w R a n c toks k vo out bad) := h
  have hkn := h.hk
  have hln := h.hn
  obtain ⟨r0, r1, r2, r3⟩ := h.box.cells
  obtain ⟨f1, f2, f3⟩ := h.box.free
  have hrow := h.row.below h.kept
  clear h
  by_cases hk : k < n
  · have hk' : k < toks.length := by omega
    obtain ⟨g, o, rfl, hgw, c0, c1, _, _, _⟩ := hrow k hk'
    have hd := drop_at hk'
    have hi0 : (0 : Int) ≤ (k : Int) := by omega
    have hi1 : (k : Int) < (n : Int) := by omega
    generalize toks[k] = t at c0 c1 hd
    obtain ⟨tk, ts, tc⟩ := t
    dsimp only at c0 c1
    have HD : Hid (toks.drop k = (tk, ts, tc) :: toks.drop (k + 1)) := hd
    clear hd hrow
    by_cases h3 : tk = 3
    · subst h3
      by_cases hs : ts = s
      · subst hs
        have hss : (ts.toList == ts.toList) = true := by simp
        go_enter Tryz.func44, Tryz.ntmps44
        go_wp2_with fail
        go_quiet (fail)
        rename_i nq _
        have H2 : Hid (Rd w0 (w.drewN nq) R (some ⟨g, o, none⟩) n c toks k vo out bad) := H.out.below (belowN (Below.refl _ _) nq)
        have fin : Hid (Rd w0 ((w.drewN nq).setCell ⟨R, 1, none⟩ (.int .i64 (k + 1 : Int))) R (some ⟨g, o, none⟩) n c toks (k + 1) vo out bad) := H2.out.at (k + 1) (by omega) (by have := H.out.hout; omega)
        clear H2
        go_wp2
        go_ret
        exact ⟨true, k + 1, rfl, fin.out, fun _ => ⟨rfl, by rw [HD.out]; exact sees_this _ _ _⟩, (fun h => by cases h), (((Keep.refl R w).drewN nq).setCell (.inl rfl) _)⟩
      · have hss : (ts.toList == s.toList) = false := txt_other hs
        go_enter Tryz.func44, Tryz.ntmps44
        go_wp2_with fail
        go_quiet (fail)
        rename_i nq _
        have fin : Hid (Rd w0 (w.drewN nq) R (some ⟨g, o, none⟩) n c toks k vo out bad) := H.out.below (belowN (Below.refl _ _) nq)
        go_wp2
        go_ret
        exact ⟨false, k, rfl, fin.out, (fun h => by cases h), fun _ => ⟨rfl, by rw [HD.out, seesT_cons, if_neg]; rintro ⟨_, e⟩; exact hs e⟩, (Keep.refl R w).drewN nq⟩
    · have h33 : (tk == 3) = false := by simpa using h3
      go_enter Tryz.func44, Tryz.ntmps44
      go_wp2_with fail
      go_quiet (fail)
      rename_i nq _
      have fin : Hid (Rd w0 (w.drewN nq) R (some ⟨g, o, none⟩) n c toks k vo out bad) := H.out.below (belowN (Below.refl _ _) nq)
      go_wp2
      go_ret
      exact ⟨false, k, rfl, fin.out, (fun h => by cases h), fun _ => ⟨rfl, by rw [HD.out, seesT_cons, if_neg]; rintro ⟨e, _⟩; exact h3 e⟩, (Keep.refl R w).drewN nq⟩
  · have hi1 : ¬ (k : Int) < (n : Int) := by omega
    clear hrow
    go_enter Tryz.func44, Tryz.ntmps44
    go_wp2_with fail
    go_quiet (fail)
    rename_i nq _
    have fin : Hid (Rd w0 (w.drewN nq) R a n c toks k vo out bad) := H.out.below (belowN (Below.refl _ _) nq)
    go_wp2
    go_ret
    exact ⟨false, k, rfl, fin.out, (fun h => by cases h), fun _ => ⟨rfl, by rw [List.drop_eq_nil_of_le (by omega)]; rfl⟩, (Keep.refl R w).drewN nq⟩
set_option maxRecDepth 100000 in
set_option maxHeartbeats 4000000 in
theorem make_spec {w0 w : World} {R : Nat} {a : Option Addr} {n c : Nat} {toks : List TT} {k : Nat} {vo : Value} {out : List TI} {bad : Bool} (h : Rd w0 w R a n c toks k vo out bad) (hm : n ≤ 1048576) (hs : out.length < k) (kd : Int) :
    Calls Tryz.prog 43 #[.pointer (some ⟨R, 0, none⟩), .int .i64 kd] w fun e w' => ∃ v', e = .returned (.tuple #[]) ∧ Rd w0 w' R a n c toks k v' (out ++ [opI kd]) bad := by
  obtain ⟨i0, hti, hz0, hz1, hz2⟩ := info_parts infoItm5
  have H : Hid (Rd w0 w R a n c toks k vo out bad) := h
  have hkn := h.hk
  obtain ⟨r0, r1, r2, r3⟩ := h.box.cells
  obtain ⟨f1, f2, f3⟩ := h.box.free
  have hlt := h.box.lt
  clear h
  go_enter Tryz.func43, Tryz.ntmps43
  go_wp2_with (at_builtin; refine wpList_append_own _ rfl _ _ 24 rfl w0.heap.size 63 i0 (.agg #[.int .i64 0, .int .i64 0, .int .i64 0, .string ⟨#[]⟩, .string ⟨#[]⟩]) 5 56 Tryz.underlying24 hti hz0 hz1 hz2 rfl (by decide) _ _ _ rfl (H.out.own.alloc _) ⟨w.heap.size, 0, none⟩ 1 1 [.int .i64 kd, .int .i64 0, .int .i64 0, .string ⟨#[]⟩, .string ⟨#[]⟩] rfl rfl (cells5I w _ _ _ _ _) (by intro u hu; simp at hu; rcases hu with rfl | rfl | rfl | rfl | rfl <;> rfl) (by unfold maxLen; omega) (by omega) (by have := H.out.kept.size; simp; omega) ?_)
  intro v' w2 own2 hgrow hnn
  have hbox2 : RBox w2 R (.slice a n c) k vo bad := by
    have hb1 : RBox (w.alloc (.cells #[.int .i64 kd, .int .i64 0, .int .i64 0, .string ⟨#[]⟩, .string ⟨#[]⟩] 63)) R (.slice a n c) k vo bad := H.out.box.below ((Below.refl _ _).alloc (Nat.le_refl _) _)
    exact hb1.of (hgrow.block R hb1.lt (fun e => H.out.box.notOwn H.out.own e.symm))
  have hk2 : Below w0.heap.size w0 w2 := by
    refine (H.out.kept.alloc H.out.kept.size _).grown hgrow (by have := H.out.kept.size; simp; omega) ?_
    intro kk hkk
    exact (H.out.own.lt kk hkk).1
  have own3 : w2.ownsRow w0.heap.size 63 5 v' (out ++ [opI kd]).length (flatItm (out ++ [opI kd])) := by
    rw [flatItm_append, List.length_append]
    exact own2
  obtain ⟨gv, cv, rfl⟩ : ∃ gv cv, v' = .slice (some ⟨gv, 0, none⟩) (out ++ [opI kd]).length cv := by
    rcases own3.2 with ⟨h', h''⟩ | ⟨gv, cv, cur, h', _⟩
    · exfalso; rw [List.length_append] at h''; simp at h''
    · exact ⟨gv, cv, h'⟩
  obtain ⟨L, hL⟩ : ∃ L, (out ++ [opI kd]).length = L := ⟨_, rfl⟩
  have fin : Hid (Rd w0 (w2.setCell ⟨R, 2, none⟩ (.slice (some ⟨gv, 0, none⟩) L cv)) R a n c toks k (.slice (some ⟨gv, 0, none⟩) L cv) (out ++ [opI kd]) bad) := by
    rw [hL] at own3
    have o4 : w2.ownsRow w0.heap.size 63 5 (.slice (some ⟨gv, 0, none⟩) L cv) (out ++ [opI kd]).length (flatItm (out ++ [opI kd])) := by rw [hL]; exact own3
    exact ⟨hbox2.set2 _, ownsRow_setCell_other o4 (hbox2.notOwn o4) _, hk2.setCell H.out.hR _, H.out.hR, H.out.row, H.out.hn, H.out.hk, by rw [List.length_append]; show out.length + 1 ≤ k; omega⟩
  obtain ⟨s0, s1, s2, s3⟩ := hbox2.cells
  obtain ⟨g1, g2, g3⟩ := hbox2.free
  rw [hL]
  clear own2 own3 hgrow hnn hbox2 hk2 hL
  go_wp2_with fail
  exact bodyPost_end (v := .tuple #[]) (by first | rfl | kernel_rfl) rfl ⟨_, rfl, fin.out⟩
end Go.Proofs.YtfokdblojlmnlamGreatDoor
