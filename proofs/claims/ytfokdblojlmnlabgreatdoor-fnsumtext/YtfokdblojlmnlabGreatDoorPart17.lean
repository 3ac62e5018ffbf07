/-
  A part of the proof: TextI, ShowMathS, SgnVar, ShowI8, Until.
-/
import Derived.Test.YtfokdblojlmnlabGreatDoorPart11
import Derived.Test.YtfokdblojlmnlabGreatDoorPart16
import Derived.Test.YtfokdblojlmnlabGreatDoorPart9
import Derived.Test.YtfokdblojlmnlabGreatDoorPart5
import Derived.Deep.RegionHeld3

/-
  The contract of the program's text of tokens.
-/
namespace Go.Proofs.YtfokdblojlmnlabGreatDoor
open Go.ChangeShapes Go.WideShapes Go.ChangeAt Go.RowKit
attribute [local go_sem ↓] Go.wp_at_zero Go.wp_at_succ

theorem toksT_no {l : List TT} {k : Nat} (h : k < l.length) (ho : tokB l[k] = false) : toksT l = ⟨#[]⟩ := by
  unfold toksT
  rw [if_neg]
  intro e
  rw [List.all_eq_true.1 e _ (List.getElem_mem h)] at ho
  cases ho
theorem toktext_impl (t : TT) (ht : tokB t = true) (y : ByteArray) (hy : (⟨(tokT t).toArray⟩ : ByteArray) = y) (w : World) (hs : t.2.2.2.2.size ≤ maxLen) (hp : PowAt w) :
    Calls Tryz.prog 68 #[.agg #[.int .i64 t.1, .string t.2.1, .int .i64 t.2.2.1, .int .i64 t.2.2.2.1, .string t.2.2.2.2]] w fun e w' => e = .returned (.string y) ∧ Below w.heap.size w w' := by
  have HP : Hid (PowAt w) := hp
  clear hp
  rcases tokB_kind ht with ⟨s, rfl, hn⟩ | ⟨⟨ck, cn, ct⟩, rfl, hc⟩ | ⟨s, rfl, hs⟩
  · rw [tokT_1] at hy
    obtain rfl : s = y := hy
    unfold zeroC
    dsimp only
    go_enter Tryz.func68, Tryz.ntmps68
    go_wp2
    go_ret
    exact ⟨rfl, by go_grown⟩
  · rw [tokT_2] at hy
    have hy2 : cellT ck cn ct = y := by
      rw [← hy]
      exact bytes_ext (cellT_ok hc)
    have HY : Hid (cellT ck cn ct = y) := hy2
    clear hy hy2
    dsimp only at hs ⊢
    have hA : Below w.heap.size w (w.alloc (.cells #[.int .i64 2, .string ⟨#[]⟩, .int .i64 ck, .int .i64 cn, .string ct] 56)) := (Below.refl _ _).alloc (Nat.le_refl _) _
    go_enter Tryz.func68, Tryz.ntmps68
    go_wp2_with fail
    refine (ctext_implb ck cn ct y HY.out _ hs (HP.out.below hA)).mono ?_
    rintro e w1 ⟨rfl, hb1⟩
    have hx := chain hA hb1
    go_wp2
    go_ret
    exact ⟨rfl, hx⟩
  · rw [tokT_3] at hy
    obtain rfl : s = y := hy
    unfold zeroC
    dsimp only
    go_enter Tryz.func68, Tryz.ntmps68
    go_wp2
    go_ret
    exact ⟨rfl, by go_grown⟩
set_option maxRecDepth 100000 in
set_option maxHeartbeats 2000000 in
theorem textof_impl (a : Option Addr) (cap : Nat) (l : List TT) (w : World) (hrow : TokAt w a l) (hfit : ∀ x ∈ l, x.2.1.size ≤ 1048576 ∧ x.2.2.2.2.size ≤ maxLen) (hm : l.length ≤ 1048576) (hp : PowAt w) (he : ErrAt w) (y : ByteArray) (hy : toksT l = y) :
    Calls Tryz.prog 26 #[.slice a l.length cap] w fun e w' => e = .returned (.string y) ∧ Below w.heap.size w w' := by
  obtain ⟨i0, hti, hz0, hz1, hz2⟩ := info_parts infoStr
  have HR : Hid (TokAt w a l) := hrow
  have HF : Hid (∀ x ∈ l, x.2.1.size ≤ 1048576 ∧ x.2.2.2.2.size ≤ maxLen) := hfit
  have HY : Hid (toksT l = y) := hy
  have HP : Hid (PowAt w) := hp
  have HE : Hid (ErrAt w) := he
  clear hrow hfit hy hp he
  go_enter Tryz.func26, Tryz.ntmps26
  go_wp2_with (at_make; refine wpList_make_own _ rfl _ _ 25 rfl w.heap.size 9 i0 (.string ⟨#[]⟩) 1 Tryz.underlying25 hti hz0 hz1 .i64 .i64 _ l.length rfl rfl rfl (by rw [hz2]; omega) (by unfold maxLen; omega) (Nat.le_refl _) ?_)
  intro w0 hown0 hgrow0
  have hb0 : Below w.heap.size w w0 := (Below.refl _ _).grown hgrow0 (Nat.le_refl _) (by intro k h; cases h)
  have own0 : Hid (w0.ownsRow w.heap.size 9 1 (.slice (some ⟨w.heap.size, 0, none⟩) 0 l.length) (textsK (l.take 0)).length ((textsK (l.take 0)).map Value.string)) := hown0
  clear hown0 hgrow0
  go_wp2
  go_loopw [3, 11] (fun v kk wr => ∃ k : Nat, k ≤ l.length ∧ kk = .int .i64 k ∧ Hid ((l.take k).all tokB = true) ∧ Hid (wr.ownsRow w.heap.size 9 1 v (textsK (l.take k)).length ((textsK (l.take k)).map Value.string)) ∧ Below w.heap.size w wr ∧ v ≠ .slice none 0 0) (fun _ kk _ => l.length - (intOf kk).toNat)
  case atStart => exact ⟨0, Nat.zero_le _, rfl, rfl, own0, hb0, by simp⟩
  case round =>
    obtain ⟨k, hk, rfl, hall, hO, hb, hvn⟩ := hrel
    by_cases hlt : k < l.length
    · obtain ⟨g, o, rfl, hgw, c0, c1, c2, c3, c4⟩ := HR.out.below hb k hlt
      have hi0 : (0 : Int) ≤ (k : Int) := by omega
      have hi1 : (k : Int) < (l.length : Int) := by omega
      obtain ⟨hf1, hf2⟩ := HF.out _ (List.getElem_mem hlt)
      have hsa := allK_snoc l k hlt
      rw [hall.out, Bool.true_and] at hsa
      have HS0 : Hid ((l.take (k + 1)).all tokB = tokB l[k]) := hsa
      obtain ⟨r, hr⟩ : ∃ r, tokB l[k] = r := ⟨_, rfl⟩
      have HRR : Hid (tokB l[k] = r) := hr
      have hno : Hid (tokB l[k] = false → y = ⟨#[]⟩) := by
        have : tokB l[k] = false → y = ⟨#[]⟩ := fun e => by rw [← HY.out]; exact toksT_no hlt e
        exact this
      have hsn := textsK_snoc l k hlt
      have hlen : (textsK (l.take k)).length = k := by rw [textsK_length, List.length_take]; omega
      obtain ⟨z, hz⟩ : ∃ z : ByteArray, (⟨(tokT l[k]).toArray⟩ : ByteArray) = z := ⟨_, rfl⟩
      have hsn2 : r = true → textsK (l.take (k + 1)) = textsK (l.take k) ++ [z] := by
        intro _
        rw [hsn, ← hz]
      have HS : Hid (r = true → textsK (l.take (k + 1)) = textsK (l.take k) ++ [z]) := hsn2
      clear hsn hsn2 hsa
      have hOO := hO.out
      rw [hlen] at hOO
      generalize textsK (l.take k) = xs at HS hOO hlen
      have HZ : Hid ((⟨(tokT l[k]).toArray⟩ : ByteArray) = z) := hz
      clear hz hr
      generalize l[k] = x at c0 c1 c2 c3 c4 hf1 hf2 HZ HS0 HRR hno
      go_wp2_with fail
      refine (tok_impl x _ hf1 hf2 ?hp ?he r HRR.out).mono ?_
      case hp => exact (HP.out.below hb).below ((Below.refl _ _).alloc (Nat.le_refl _) _)
      case he => exact (HE.out.below hb).below ((Below.refl _ _).alloc (Nat.le_refl _) _)
      rintro e w1 ⟨rfl, hb1⟩
      obtain ⟨d0, d1, d2, d3, d4, d5⟩ := box5 hb1
      clear c0 c1 c2 c3 c4
      cases r
      · have e := hno.out HRR.out
        subst e
        clear d0 d1 d2 d3 d4
        go_wp2
        go_ret
        exact ⟨rfl, chain hb (chainA hb1)⟩
      · have hbx := chain hb (chainA hb1)
        go_wp2_with fail
        refine (toktext_impl x HRR.out z HZ.out _ hf2 (HP.out.below hbx)).mono ?_
        rintro e w2 ⟨rfl, hb2⟩
        clear d0 d1 d2 d3 d4
        have O1 := own_below hOO (chain (chainA hb1) hb2)
        have hx := chain hbx hb2
        go_wp2_with (at_builtin; refine wpList_append_own _ rfl _ _ 25 rfl w.heap.size 9 i0 (.string ⟨#[]⟩) 1 16 Tryz.underlying25 hti hz0 hz1 hz2 rfl (by decide) _ _ _ rfl (O1.alloc _) ⟨w2.heap.size, 0, none⟩ 1 1 [.string z] rfl rfl ?c1 ?c2 ?c3 ?c4 ?c5 ?_)
        case c1 =>
          intro j u hj
          match j, hj with
          | 0, hj => simp at hj; subst hj; simp [Addr.add]
        case c2 => intro u hu; simp at hu; subst hu; rfl
        case c3 => unfold maxLen; omega
        case c4 => omega
        case c5 => have := hx.size; simp; omega
        intro v' w3 own2 hgrow hnn
        have hx2 : Below w.heap.size w w3 := by
          refine (hx.alloc hx.size _).grown hgrow (by have := hx.size; simp; omega) ?_
          intro kk hkk
          exact (O1.lt kk hkk).1
        have hvn2 : v' ≠ .slice none 0 0 := by first | exact hnn | exact fun e => hvn (hnn.1 e).1
        have SS : Hid (w3.ownsRow w.heap.size 9 1 v' (textsK (l.take (k + 1))).length ((textsK (l.take (k + 1))).map Value.string)) := by
          have : w3.ownsRow w.heap.size 9 1 v' (textsK (l.take (k + 1))).length ((textsK (l.take (k + 1))).map Value.string) := by
            rw [HS.out (by trivial), List.length_append, hlen, List.map_append]; exact own2
          exact this
        clear own2 hgrow hnn O1 hOO hO
        go_wp2
        go_roundw
        case rel => exact ⟨k + 1, by omega, by go_num, HS0.out.trans HRR.out, SS, hx2, hvn2⟩
        case measure => simp [intOf]; omega
    · have hkl : k = l.length := by omega
      subst hkl
      have hi1 : ¬ (l.length : Int) < (l.length : Int) := by omega
      have hAll : l.all tokB = true := by have := hall.out; rwa [List.take_length] at this
      have hOO := hO.out
      rw [List.take_length] at hOO
      rcases hOO.2 with ⟨h', _⟩ | ⟨g, c, cur, h', hbg, _, hcap, _⟩
      · exact absurd h' hvn
      subst h'
      have hT := texts_own hOO
      have h14 := textsK_14 hAll
      have hl2 := textsK_length l
      have hjl := join_len (rawT (textsK l)) (by
        intro z hz
        unfold rawT at hz
        obtain ⟨u, hu, rfl⟩ := List.mem_map.1 hz
        have := h14 u hu
        rw [Lib.size_eq] at this
        exact this)
      have hrl : (rawT (textsK l)).length = l.length := by unfold rawT; rw [List.length_map, hl2]
      have HY2 : Hid ((⟨(Lib.join (rawT (textsK l)) [32]).toArray⟩ : ByteArray) = y) := by
        have : (⟨(Lib.join (rawT (textsK l)) [32]).toArray⟩ : ByteArray) = y := by rw [← HY.out, toksT_texts hAll]
        exact this
      have HT : Hid (TextsAt wr g (textsK l)) := hT
      by_cases hn0 : (textsK l).length = 0
      · have hl0 : l = [] := List.length_eq_zero_iff.1 (by omega)
        subst hl0
        have e : y = ⟨#[]⟩ := by rw [← HY.out]; rfl
        subst e
        clear hT h14 hl2 hjl hrl hOO hO hn0 hcap HT HY2 hAll
        go_wp2_with fail
        refine (joined_none _ _ _ _).mono ?_
        rintro e w2 ⟨rfl, rfl⟩
        go_wp2
        go_ret
        exact ⟨rfl, hb⟩
      · have hg : g < wr.heap.size := (hT 0 (by omega)).2
        have HJ : Hid ((Lib.join (rawT (textsK l)) [32]).length ≤ 140737488355328) := by
          have : (Lib.join (rawT (textsK l)) [32]).length ≤ 140737488355328 := by omega
          exact this
        have HL : Hid ((textsK l).length ≤ 140737488355328) := by
          have : (textsK l).length ≤ 140737488355328 := by omega
          exact this
        have HC : Hid ((textsK l).length ≤ c) := hcap
        clear hT h14 hl2 hjl hrl hOO hO hn0 hcap
        go_wp2_with fail
        refine (joined_impl g c (textsK l) ⟨#[32]⟩ _ (fun j x hj => ?_) hg HL.out HC.out HJ.out y HY2.out).mono ?_
        · obtain ⟨hlt, rfl⟩ := List.getElem?_eq_some_iff.1 hj
          rw [Nat.zero_add]
          exact (HT.out j hlt).1
        rintro e w2 ⟨rfl, hb2⟩
        go_wp2
        go_ret
        exact ⟨rfl, chain hb hb2⟩

end Go.Proofs.YtfokdblojlmnlabGreatDoor

/-
  The text of a sum without any program: a pile of texts, item by item, and the text of its tree.
-/
namespace Go.Proofs.YtfokdblojlmnlabGreatDoor

def bytesOf (l : List UInt8) : ByteArray := ⟨l.toArray⟩
/-- The text of one alone. -/
def leafX (x : TI) : ByteArray := bytesOf (tokT (tkOf x))
def oneX (k : Int) (s : ByteArray) : ByteArray := bytesOf (40 :: ((sgn k).data.toList ++ 32 :: (s.data.toList ++ [41])))
def twoX (k : Int) (s u : ByteArray) : ByteArray := bytesOf (40 :: (s.data.toList ++ 32 :: ((sgn k).data.toList ++ 32 :: (u.data.toList ++ [41]))))
/-- One item more: the pile of texts, the last one at the end. -/
def showStep (P : List ByteArray) (x : TI) : List ByteArray :=
  if needsI x.1 = 0 then P ++ [leafX x]
  else if needsI x.1 = 1 then P.set (P.length - 1) (oneX x.1 (P.getD (P.length - 1) ⟨#[]⟩))
  else (P.set (P.length - 2) (twoX x.1 (P.getD (P.length - 2) ⟨#[]⟩) (P.getD (P.length - 1) ⟨#[]⟩))).take (P.length - 1)
def showP (l : List TI) (P : List ByteArray) : List ByteArray := l.foldl showStep P
theorem showP_nil (P : List ByteArray) : showP [] P = P := rfl
theorem showP_append (l m : List TI) (P : List ByteArray) : showP (l ++ m) P = showP m (showP l P) := List.foldl_append
theorem showP_one (x : TI) (P : List ByteArray) : showP [x] P = showStep P x := rfl
theorem needs_012 (k : Int) : needsI k = 0 ∨ needsI k = 1 ∨ needsI k = 2 := by
  unfold needsI
  split
  · exact .inl rfl
  · split
    · exact .inr (.inl rfl)
    · exact .inr (.inr rfl)
theorem showStep_len (P : List ByteArray) (x : TI) (h : needsI x.1 ≤ P.length) : (showStep P x).length = P.length + 1 - needsI x.1 := by
  unfold showStep
  rcases needs_012 x.1 with e | e | e
  · rw [if_pos e, e, List.length_append]; rfl
  · rw [if_neg (by omega), if_pos e, List.length_set, e]; omega
  · rw [if_neg (by omega), if_neg (by omega), List.length_take, List.length_set, e]
    omega
theorem showP_len : ∀ (l : List TI) (P : List ByteArray) (m : Nat), heapN l P.length = some m → (showP l P).length = m
  | [], P, m, h => by simp only [heapN, Option.some.injEq] at h; exact h
  | x :: l, P, m, h => by
    unfold heapN at h
    split at h
    · rename_i hc
      show (showP l (showStep P x)).length = m
      exact showP_len l _ m (by rw [showStep_len P x hc.2]; exact h)
    · cases h
theorem heapN_le : ∀ (l : List TI) (n m : Nat), heapN l n = some m → m ≤ n + l.length
  | [], n, m, h => by simp only [heapN, Option.some.injEq] at h; simp; omega
  | x :: l, n, m, h => by
    unfold heapN at h
    split at h
    · have := heapN_le l _ m h
      simp only [List.length_cons]
      omega
    · cases h
/-- A sum's pile on the way. -/
theorem heapN_take {l : List TI} {m : Nat} (h : heapN l 0 = some m) (k : Nat) (hk : k < l.length) : ∃ p, heapN (l.take k) 0 = some p ∧ itemB l[k] = true ∧ needsI l[k].1 ≤ p := by
  have e : l = l.take k ++ (l[k] :: l.drop (k + 1)) := by
    rw [← List.drop_eq_getElem_cons hk, List.take_append_drop]
  rw [e, heapN_append] at h
  cases hp : heapN (l.take k) 0 with
  | none => rw [hp] at h; cases h
  | some p =>
    rw [hp] at h
    simp only [Option.bind_some] at h
    unfold heapN at h
    split at h
    · rename_i hc
      exact ⟨p, rfl, hc.1, hc.2⟩
    · cases h
theorem needs_op1 {k : Int} (h : k = 11 ∨ k = 12) : needsI k = 1 := by rcases h with rfl | rfl <;> rfl
theorem needs_op2 {k : Int} (h : 3 ≤ k ∧ k ≤ 10) : needsI k = 2 := by unfold needsI; rw [if_neg (by omega), if_neg (by omega)]
theorem needs_leaf {k : Int} (h : k = 1 ∨ k = 2) : needsI k = 0 := by rcases h with rfl | rfl <;> rfl
/-- The pile of a tree is its text. -/
theorem showP_tree {t : Tr} (h : t.ok) : ∀ P, showP t.post P = P ++ [bytesOf t.text] := by
  induction t with
  | leaf x =>
    intro P
    simp only [Tr.post, Tr.text]
    rw [showP_one]
    unfold showStep
    rw [if_pos (needs_leaf h.2)]
    rfl
  | one k t ih =>
    intro P
    simp only [Tr.post, Tr.text]
    rw [showP_append, ih h.2, showP_one]
    unfold showStep
    rw [show (opI k).1 = k from rfl, needs_op1 h.1, if_neg (by decide), if_pos rfl]
    simp only [List.length_append, List.length_singleton, Nat.add_sub_cancel]
    rw [List.set_append_right _ _ (Nat.le_refl _), Nat.sub_self]
    simp [List.getD, oneX, bytesOf]
  | two k a b iha ihb =>
    intro P
    simp only [Tr.post, Tr.text]
    rw [showP_append, iha h.2.1, showP_append, ihb h.2.2, showP_one]
    unfold showStep
    rw [show (opI k).1 = k from rfl, needs_op2 h.1, if_neg (by decide), if_neg (by decide)]
    have e1 : (P ++ [bytesOf a.text] ++ [bytesOf b.text]).length = P.length + 2 := by simp
    rw [e1, show P.length + 2 - 2 = P.length by omega, show P.length + 2 - 1 = P.length + 1 by omega]
    have g1 : (P ++ [bytesOf a.text] ++ [bytesOf b.text]).getD P.length ⟨#[]⟩ = bytesOf a.text := by simp [List.getD]
    have g2 : (P ++ [bytesOf a.text] ++ [bytesOf b.text]).getD (P.length + 1) ⟨#[]⟩ = bytesOf b.text := by simp [List.getD]
    rw [g1, g2, List.append_assoc, List.set_append_right _ _ (Nat.le_refl _), Nat.sub_self]
    rw [List.take_append, show P.length + 1 - P.length = 1 by omega, List.take_of_length_le (by omega)]
    rfl
/-- All bytes of a pile. -/
def sizesP (P : List ByteArray) : Nat := (P.map ByteArray.size).sum
theorem bytesOf_size (l : List UInt8) : (bytesOf l).size = l.length := rfl
theorem sizesP_append (P R : List ByteArray) : sizesP (P ++ R) = sizesP P + sizesP R := by unfold sizesP; rw [List.map_append, List.sum_append]
theorem sizesP_one (u : ByteArray) : sizesP [u] = u.size := by simp [sizesP]
theorem sizesP_get (P : List ByteArray) (m : Nat) (h : m < P.length) : P[m].size ≤ sizesP P := by
  have e : P = P.take m ++ (P[m] :: P.drop (m + 1)) := by rw [← List.drop_eq_getElem_cons h, List.take_append_drop]
  have h2 : sizesP P = sizesP (P.take m) + (sizesP [P[m]] + sizesP (P.drop (m + 1))) := by
    conv => lhs; rw [e]
    rw [sizesP_append, ← sizesP_append [P[m]]]; rfl
  rw [sizesP_one] at h2
  omega
theorem sgn_size (k : Int) : (sgn k).size ≤ 5 := by
  unfold sgn
  repeat' split
  all_goals decide
theorem snoc_of {P : List ByteArray} {m : Nat} (h : P.length = m + 1) : ∃ R u, P = R ++ [u] ∧ R.length = m := by
  rcases List.eq_nil_or_concat P with rfl | ⟨R, u, e⟩
  · simp at h
  · rw [List.concat_eq_append] at e
    subst e
    exact ⟨R, u, rfl, by simpa using h⟩
theorem showStep_one {R : List ByteArray} {u : ByteArray} {x : TI} (h : needsI x.1 = 1) : showStep (R ++ [u]) x = R ++ [oneX x.1 u] := by
  unfold showStep
  rw [h, if_neg (by decide), if_pos rfl]
  simp only [List.length_append, List.length_singleton, Nat.add_sub_cancel]
  rw [List.set_append_right _ _ (Nat.le_refl _), Nat.sub_self]
  simp [List.getD]
theorem showStep_two {R : List ByteArray} {u v : ByteArray} {x : TI} (h : needsI x.1 = 2) : showStep (R ++ [u] ++ [v]) x = R ++ [twoX x.1 u v] := by
  unfold showStep
  rw [h, if_neg (by decide), if_neg (by decide)]
  have e1 : (R ++ [u] ++ [v]).length = R.length + 2 := by simp
  rw [e1, show R.length + 2 - 2 = R.length by omega, show R.length + 2 - 1 = R.length + 1 by omega]
  have g1 : (R ++ [u] ++ [v]).getD R.length ⟨#[]⟩ = u := by simp [List.getD]
  have g2 : (R ++ [u] ++ [v]).getD (R.length + 1) ⟨#[]⟩ = v := by simp [List.getD]
  rw [g1, g2, List.append_assoc, List.set_append_right _ _ (Nat.le_refl _), Nat.sub_self]
  rw [List.take_append, show R.length + 1 - R.length = 1 by omega, List.take_of_length_le (by omega)]
  rfl
theorem leafX_size {x : TI} (h : itemB x = true) (h0 : needsI x.1 = 0) : (x.1 = 1 ∨ x.1 = 2) ∧ (leafX x).size ≤ 14 := by
  have hx : x.1 = 1 ∨ x.1 = 2 := by
    by_cases h1 : x.1 = 1
    · exact .inl h1
    by_cases h2 : x.1 = 2
    · exact .inr h2
    have := item_op h h1 h2
    unfold needsI at h0
    rw [if_neg (by omega)] at h0
    split at h0 <;> cases h0
  exact ⟨hx, tokT_len (tkOf_ok h hx)⟩
theorem showStep_size {P : List ByteArray} {x : TI} (h : itemB x = true) (hn : needsI x.1 ≤ P.length) : sizesP (showStep P x) ≤ sizesP P + 14 := by
  rcases needs_012 x.1 with e | e | e
  · unfold showStep
    rw [if_pos e, sizesP_append, sizesP_one]
    have := (leafX_size h e).2
    omega
  · obtain ⟨m, hm⟩ : ∃ m, P.length = m + 1 := ⟨P.length - 1, by omega⟩
    obtain ⟨R, u, rfl, _⟩ := snoc_of hm
    rw [showStep_one e, sizesP_append, sizesP_one, sizesP_append, sizesP_one]
    have := sgn_size x.1
    rw [Lib.size_eq] at this
    unfold oneX
    rw [bytesOf_size]
    simp only [List.length_cons, List.length_append, List.length_nil]
    rw [← Lib.size_eq u]
    omega
  · obtain ⟨m, hm⟩ : ∃ m, P.length = m + 1 + 1 := ⟨P.length - 2, by omega⟩
    obtain ⟨R, v, rfl, hR⟩ := snoc_of hm
    obtain ⟨R, u, rfl, _⟩ := snoc_of hR
    rw [showStep_two e, sizesP_append, sizesP_one, sizesP_append, sizesP_append, sizesP_one, sizesP_one]
    have := sgn_size x.1
    rw [Lib.size_eq] at this
    unfold twoX
    rw [bytesOf_size]
    simp only [List.length_cons, List.length_append, List.length_nil]
    rw [← Lib.size_eq u, ← Lib.size_eq v]
    omega
/-- The text of a sum; empty where it is none. -/
def sumT (l : List TI) : ByteArray := if sumB l = true then (showP l []).headD ⟨#[]⟩ else ⟨#[]⟩
theorem sumT_tree {t : Tr} (h : t.ok) (hs : sumB t.post = true) : sumT t.post = bytesOf t.text := by
  unfold sumT
  rw [if_pos hs, showP_tree h []]
  rfl
end Go.Proofs.YtfokdblojlmnlabGreatDoor

/-
  The program's own table of signs, a package variable, in later worlds.
-/
namespace Go.Proofs.YtfokdblojlmnlabGreatDoor
open Go.ChangeShapes Go.WideShapes Go.ChangeAt Go.RowKit

/-- The sign at each kind; what stands alone has none. -/
def sgn0 (k : Nat) : ByteArray := if k < 3 then ⟨#[]⟩ else sgn k
def sgnArr : Array Value := ((List.range 13).map (fun k => Value.string (sgn0 k))).toArray
theorem gSgn : Tryz.prog.globalNamed "loop.example/g00536/impl.itemSigns" = some 0 := by kernel_rfl
/-- The table of signs holds them. -/
def SgnAt (w : World) : Prop := w.var? Tryz.prog "loop.example/g00536/impl.itemSigns" = some sgnArr
theorem SgnAt.below {w w' : World} (h : SgnAt w) (hb : Below w.heap.size w w') : SgnAt w' := var_below h hb
theorem SgnAt.cell {w : World} (h : SgnAt w) (k : Nat) (hk : k < 13) : w.cell? ⟨0, k, none⟩ = some (.string (sgn0 k)) := by
  rw [World.var?_cell gSgn h k]
  unfold sgnArr
  simp [hk]
theorem SgnAt.lt {w : World} (h : SgnAt w) : 0 < w.heap.size := World.block_lt_of_cell? w _ (h.cell 0 (by omega))
end Go.Proofs.YtfokdblojlmnlabGreatDoor

/-
  The contracts of the program's text of an item and of a sum.
-/
namespace Go.Proofs.YtfokdblojlmnlabGreatDoor
open Go.ChangeShapes Go.WideShapes Go.ChangeAt Go.RowKit
attribute [local go_sem ↓] Go.wp_at_zero Go.wp_at_succ
attribute [local simp] World.cell?_alloc_past World.cell?_alloc_at World.frozen?_alloc_at cell_far cell_off cell_here World.frozen?_alloc_past

theorem tkOf_fits {x : TI} (h : itemB x = true) : (tkOf x).2.1.size ≤ 12 ∧ (tkOf x).2.2.2.2.size ≤ 12 := by
  have := itemB_fits h
  unfold tkOf
  split
  · exact ⟨Nat.zero_le _, this.1⟩
  · exact ⟨this.2, Nat.zero_le _⟩
theorem tok_one (w : World) (t : TT) : TokAt (w.alloc (.cells #[.int .i64 t.1, .string t.2.1, .int .i64 t.2.2.1, .int .i64 t.2.2.2.1, .string t.2.2.2.2] 56)) (some ⟨w.heap.size, 0, none⟩) [t] := by
  intro j hj
  have e : j = 0 := by simp at hj; omega
  subst e
  refine ⟨w.heap.size, 0, rfl, by simp, ?_, ?_, ?_, ?_, ?_⟩ <;> simp [World.cell?_alloc_at]
theorem agg5 (x : TI) : Value.agg #[.int .i64 x.1, .int .i64 x.2.1.1, .int .i64 x.2.1.2.1, .string x.2.1.2.2, .string x.2.2] = .agg #[.int .i64 x.1, .int .i64 x.2.1.1, .int .i64 x.2.1.2.1, .string x.2.1.2.2, .string x.2.2] := rfl
set_option maxHeartbeats 1000000 in
theorem alone_impl (x : TI) (hx : x.1 = 1 ∨ x.1 = 2) (hi : itemB x = true) (t : TT) (ht : tkOf x = t) (w : World) :
    Calls Tryz.prog 136 #[.agg #[.int .i64 x.1, .int .i64 x.2.1.1, .int .i64 x.2.1.2.1, .string x.2.1.2.2, .string x.2.2]] w fun e w' => e = .returned (.agg #[.int .i64 t.1, .string t.2.1, .int .i64 t.2.2.1, .int .i64 t.2.2.2.1, .string t.2.2.2.2]) ∧ Below w.heap.size w w' := by
  obtain ⟨k, ⟨ck, cn, ct⟩, s⟩ := x
  dsimp only at hx ⊢
  rcases hx with rfl | rfl
  · obtain rfl : ((2, ⟨#[]⟩, ck, cn, ct) : TT) = t := ht
    dsimp only
    go_enter Tryz.func136, Tryz.ntmps136
    go_wp2
    exact bodyPost_ret (v := .agg #[.int .i64 2, .string ⟨#[]⟩, .int .i64 ck, .int .i64 cn, .string ct]) (by simp [results, Tryz.results136, go_sem, World.cell?_alloc_at]) rfl ⟨rfl, by go_grown⟩
  · obtain rfl : ((1, s, zeroC) : TT) = t := ht
    unfold zeroC
    dsimp only
    go_enter Tryz.func136, Tryz.ntmps136
    go_wp2
    exact bodyPost_ret (v := .agg #[.int .i64 1, .string s, .int .i64 0, .int .i64 0, .string ⟨#[]⟩]) (by simp [results, Tryz.results136, go_sem, World.cell?_alloc_at]) rfl ⟨rfl, by go_grown⟩
theorem joined2 (w0 : World) (b : Nat) (hb : b = w0.heap.size) (x z sep : ByteArray) (hsz : x.size + z.size + sep.size ≤ 1099511627776) (y : ByteArray) (hy : bytesOf (x.data.toList ++ (sep.data.toList ++ z.data.toList)) = y) :
    Calls Tryz.prog 60 #[.string sep, .slice (some ⟨b, 0, none⟩) 2 2] (w0.alloc (.cells #[.string x, .string z] 9)) fun e w' => e = .returned (.string y) ∧ Below (w0.alloc (.cells #[.string x, .string z] 9)).heap.size (w0.alloc (.cells #[.string x, .string z] 9)) w' := by
  subst hb
  have ej : Lib.join ([x, z].map (·.data.toList)) sep.data.toList = x.data.toList ++ (sep.data.toList ++ z.data.toList) := by simp [Lib.join]
  refine joined_impl w0.heap.size 2 [x, z] sep _ (fun j u hj => ?_) (by simp) (by simp) (by simp) ?_ y (by rw [ej]; exact hy)
  · match j, hj with
    | 0, hj => simp at hj; subst hj; simp [World.cell?_alloc_at]
    | 1, hj => simp at hj; subst hj; simp [World.cell?_alloc_at]
  · rw [ej]
    simp only [List.length_append]
    rw [← Lib.size_eq, ← Lib.size_eq, ← Lib.size_eq]
    omega
theorem joined3 (w0 : World) (b : Nat) (hb : b = w0.heap.size) (x z u sep : ByteArray) (hsz : x.size + z.size + u.size + 2 * sep.size ≤ 1099511627776) (y : ByteArray) (hy : bytesOf (x.data.toList ++ (sep.data.toList ++ (z.data.toList ++ (sep.data.toList ++ u.data.toList)))) = y) :
    Calls Tryz.prog 60 #[.string sep, .slice (some ⟨b, 0, none⟩) 3 3] (w0.alloc (.cells #[.string x, .string z, .string u] 9)) fun e w' => e = .returned (.string y) ∧ Below (w0.alloc (.cells #[.string x, .string z, .string u] 9)).heap.size (w0.alloc (.cells #[.string x, .string z, .string u] 9)) w' := by
  subst hb
  have ej : Lib.join ([x, z, u].map (·.data.toList)) sep.data.toList = x.data.toList ++ (sep.data.toList ++ (z.data.toList ++ (sep.data.toList ++ u.data.toList))) := by simp [Lib.join]
  refine joined_impl w0.heap.size 3 [x, z, u] sep _ (fun j v hj => ?_) (by simp) (by simp) (by simp) ?_ y (by rw [ej]; exact hy)
  · match j, hj with
    | 0, hj => simp at hj; subst hj; simp [World.cell?_alloc_at]
    | 1, hj => simp at hj; subst hj; simp [World.cell?_alloc_at]
    | 2, hj => simp at hj; subst hj; simp [World.cell?_alloc_at]
  · rw [ej]
    simp only [List.length_append]
    rw [← Lib.size_eq, ← Lib.size_eq, ← Lib.size_eq, ← Lib.size_eq]
    omega
theorem joined3c (w : World) (b : Nat) (hb : b < w.heap.size) (x z u sep : ByteArray) (h0 : w.cell? ⟨b, 0, none⟩ = some (.string x)) (h1 : w.cell? ⟨b, 1, none⟩ = some (.string z)) (h2 : w.cell? ⟨b, 2, none⟩ = some (.string u)) (hsz : x.size + z.size + u.size + 2 * sep.size ≤ 1099511627776) (y : ByteArray) (hy : bytesOf (x.data.toList ++ (sep.data.toList ++ (z.data.toList ++ (sep.data.toList ++ u.data.toList)))) = y) :
    Calls Tryz.prog 60 #[.string sep, .slice (some ⟨b, 0, none⟩) 3 3] w fun e w' => e = .returned (.string y) ∧ Below w.heap.size w w' := by
  have ej : Lib.join ([x, z, u].map (·.data.toList)) sep.data.toList = x.data.toList ++ (sep.data.toList ++ (z.data.toList ++ (sep.data.toList ++ u.data.toList))) := by simp [Lib.join]
  refine joined_impl b 3 [x, z, u] sep _ (fun j v hj => ?_) hb (by simp) (by simp) ?_ y (by rw [ej]; exact hy)
  · match j, hj with
    | 0, hj => simp at hj; subst hj; exact h0
    | 1, hj => simp at hj; subst hj; exact h1
    | 2, hj => simp at hj; subst hj; exact h2
  · rw [ej]
    simp only [List.length_append]
    rw [← Lib.size_eq, ← Lib.size_eq, ← Lib.size_eq, ← Lib.size_eq]
    omega
theorem leaf_text {x : TI} (h : itemB x = true) (hx : x.1 = 1 ∨ x.1 = 2) : toksT [tkOf x] = leafX x := by
  unfold toksT leafX
  rw [if_pos (by simp [tkOf_ok h hx])]
  first | rfl | simp [Lib.join, bytesOf]
set_option maxRecDepth 100000 in
set_option maxHeartbeats 4000000 in
theorem text0_impl (x : TI) (hi : itemB x = true) (hx : x.1 = 1 ∨ x.1 = 2) (pa : Option Addr) (pc : Nat) (w : World) (hp : PowAt w) (he : ErrAt w) (hs : SgnAt w) (y : ByteArray) (hy : leafX x = y) :
    Calls Tryz.prog 83 #[.agg #[.int .i64 x.1, .int .i64 x.2.1.1, .int .i64 x.2.1.2.1, .string x.2.1.2.2, .string x.2.2], .slice pa 0 pc] w fun e w' => e = .returned (.string y) ∧ Below w.heap.size w w' := by
  obtain ⟨k, ⟨ck, cn, ct⟩, s⟩ := x
  dsimp only at hx ⊢
  obtain ⟨m, rfl⟩ : ∃ m : Nat, k = (m : Int) := ⟨k.toNat, by omega⟩
  obtain ⟨t, ht⟩ : ∃ t, tkOf ((m : Int), (ck, cn, ct), s) = t := ⟨_, rfl⟩
  have HT : Hid (tkOf ((m : Int), (ck, cn, ct), s) = t) := ht
  have HI : Hid (itemB ((m : Int), (ck, cn, ct), s) = true) := hi
  have HX : Hid ((m : Int) = 1 ∨ (m : Int) = 2) := hx
  have HY : Hid (toksT [t] = y) := by
    have : toksT [t] = y := by rw [← ht, leaf_text hi hx]; exact hy
    exact this
  have hfit : t.2.1.size ≤ 1048576 ∧ t.2.2.2.2.size ≤ maxLen := by
    have := tkOf_fits hi
    rw [ht] at this
    unfold maxLen; omega
  clear hi ht hy
  have hc := hs.cell m (by omega)
  have hg0 := hs.lt
  have HP : Hid (PowAt w) := hp
  have HE : Hid (ErrAt w) := he
  have hi0 : (0 : Int) ≤ (m : Int) := by omega
  have hi1 : (m : Int) < 13 := by omega
  clear hp he hx
  go_enter Tryz.func83, Tryz.ntmps83
  go_wp2_with fail
  have hA : Below w.heap.size w (w.alloc (.cells #[.int .i64 (m : Int), .int .i64 ck, .int .i64 cn, .string ct, .string s] 102)) := (Below.refl _ _).alloc (Nat.le_refl _) _
  refine (alone_impl (m, (ck, cn, ct), s) HX.out HI.out t HT.out _).mono ?_
  rintro e w1 ⟨rfl, hb1⟩
  have hx1 := chain hA hb1
  clear hc hg0 hA hb1
  go_wp2_with fail
  have hx2 : Below w.heap.size w (w1.alloc (.cells #[.int .i64 t.1, .string t.2.1, .int .i64 t.2.2.1, .int .i64 t.2.2.2.1, .string t.2.2.2.2] 56)) := hx1.alloc hx1.size _
  refine (textof_impl (some ⟨w1.heap.size, 0, none⟩) 1 [t] _ (tok_one _ t) (by simpa using hfit) (by simp) (HP.out.below hx2) (HE.out.below hx2) y HY.out).mono ?_
  rintro e w2 ⟨rfl, hb2⟩
  have hx3 := chain hx2 hb2
  go_wp2
  go_ret
  exact ⟨rfl, hx3⟩
set_option maxRecDepth 100000 in
set_option maxHeartbeats 4000000 in
theorem text1_impl (x : TI) (hx : x.1 = 11 ∨ x.1 = 12) (g o pc : Nat) (u : ByteArray) (w : World) (hu : w.cell? ⟨g, o, none⟩ = some (.string u)) (hsz : u.size ≤ 1048576) (hs : SgnAt w) (y : ByteArray) (hy : oneX x.1 u = y) :
    Calls Tryz.prog 83 #[.agg #[.int .i64 x.1, .int .i64 x.2.1.1, .int .i64 x.2.1.2.1, .string x.2.1.2.2, .string x.2.2], .slice (some ⟨g, o, none⟩) 1 pc] w fun e w' => e = .returned (.string y) ∧ Below w.heap.size w w' := by
  obtain ⟨k, ⟨ck, cn, ct⟩, s⟩ := x
  dsimp only at hx hy ⊢
  obtain ⟨m, rfl⟩ : ∃ m : Nat, k = (m : Int) := ⟨k.toNat, by omega⟩
  have hc := hs.cell m (by omega)
  have hg0 := hs.lt
  have hgu := World.block_lt_of_cell? w _ hu
  have hi0 : (0 : Int) ≤ (m : Int) := by omega
  have hi1 : (m : Int) < 13 := by omega
  have hsg : sgn0 m = sgn (m : Int) := by unfold sgn0; rw [if_neg (by omega)]
  rw [hsg] at hc
  obtain ⟨q, hq⟩ : ∃ q, sgn (m : Int) = q := ⟨_, rfl⟩
  rw [hq] at hc
  have hqs := sgn_size (m : Int)
  rw [hq] at hqs
  obtain ⟨p1, hp1⟩ : ∃ p1, bytesOf (q.data.toList ++ (32 :: u.data.toList)) = p1 := ⟨_, rfl⟩
  have HP1 : Hid (bytesOf (q.data.toList ++ (([32] : List UInt8) ++ u.data.toList)) = p1) := hp1
  have HS1 : Hid ((⟨#[40]⟩ : ByteArray).size + p1.size + (⟨#[41]⟩ : ByteArray).size + 2 * (⟨#[]⟩ : ByteArray).size ≤ 1099511627776) := by
    have e1 : p1.size = (q.data.toList ++ (32 :: u.data.toList)).length := by rw [← hp1, bytesOf_size]
    have : (⟨#[40]⟩ : ByteArray).size + p1.size + (⟨#[41]⟩ : ByteArray).size + 2 * (⟨#[]⟩ : ByteArray).size ≤ 1099511627776 := by
      rw [e1]
      simp only [List.length_append, List.length_cons]
      rw [← Lib.size_eq, ← Lib.size_eq]
      have h1 : (⟨#[40]⟩ : ByteArray).size = 1 := rfl
      have h2 : (⟨#[41]⟩ : ByteArray).size = 1 := rfl
      have h3 : (⟨#[]⟩ : ByteArray).size = 0 := rfl
      omega
    exact this
  have HP2 : Hid (bytesOf (([40] : List UInt8) ++ (([] : List UInt8) ++ (p1.data.toList ++ (([] : List UInt8) ++ ([41] : List UInt8))))) = y) := by
    have : bytesOf (([40] : List UInt8) ++ (([] : List UInt8) ++ (p1.data.toList ++ (([] : List UInt8) ++ ([41] : List UInt8))))) = y := by
      rw [← hy, ← hp1]
      unfold oneX bytesOf
      rw [hq]
      simp
    exact this
  clear hs hx hsg hp1 hq hy
  go_enter Tryz.func83, Tryz.ntmps83
  go_wp2_with fail
  have hA : Below w.heap.size w ((w.alloc (.cells #[.int .i64 (m : Int), .int .i64 ck, .int .i64 cn, .string ct, .string s] 102)).alloc (.cells #[.string q, .string u] 9)) := by go_grown
  refine (joined2 (w.alloc (.cells #[.int .i64 (m : Int), .int .i64 ck, .int .i64 cn, .string ct, .string s] 102)) _ (by simp) q u ⟨#[32]⟩ (by have h : (⟨#[32]⟩ : ByteArray).size = 1 := rfl; omega) p1 HP1.out).mono ?_
  rintro e w1 ⟨rfl, hb1⟩
  have hx1 := chain hA hb1
  clear hc hu hA hb1
  go_wp2_with fail
  have hA2 : Below w.heap.size w (w1.alloc (.cells #[.string ⟨#[40]⟩, .string p1, .string ⟨#[41]⟩] 9)) := hx1.alloc hx1.size _
  refine (joined3 w1 _ rfl ⟨#[40]⟩ p1 ⟨#[41]⟩ ⟨#[]⟩ HS1.out y HP2.out).mono ?_
  rintro e w2 ⟨rfl, hb2⟩
  have hx2 := chain hA2 hb2
  go_wp2
  go_ret
  exact ⟨rfl, hx2⟩
set_option maxRecDepth 100000 in
set_option maxHeartbeats 4000000 in
theorem text2_impl (x : TI) (hx : 3 ≤ x.1 ∧ x.1 ≤ 10) (g o pc : Nat) (u v : ByteArray) (w : World) (hu : w.cell? ⟨g, o, none⟩ = some (.string u)) (hv : w.cell? ⟨g, o + 1, none⟩ = some (.string v)) (hsz : u.size ≤ 1048576) (hsv : v.size ≤ 1048576) (hs : SgnAt w) (y : ByteArray) (hy : twoX x.1 u v = y) :
    Calls Tryz.prog 83 #[.agg #[.int .i64 x.1, .int .i64 x.2.1.1, .int .i64 x.2.1.2.1, .string x.2.1.2.2, .string x.2.2], .slice (some ⟨g, o, none⟩) 2 pc] w fun e w' => e = .returned (.string y) ∧ Below w.heap.size w w' := by
  obtain ⟨k, ⟨ck, cn, ct⟩, s⟩ := x
  dsimp only at hx hy ⊢
  obtain ⟨m, rfl⟩ : ∃ m : Nat, k = (m : Int) := ⟨k.toNat, by omega⟩
  have hc := hs.cell m (by omega)
  have hg0 := hs.lt
  have hgu := World.block_lt_of_cell? w _ hu
  have hi0 : (0 : Int) ≤ (m : Int) := by omega
  have hi1 : (m : Int) < 13 := by omega
  have hsg : sgn0 m = sgn (m : Int) := by unfold sgn0; rw [if_neg (by omega)]
  rw [hsg] at hc
  have hqs := sgn_size (m : Int)
  obtain ⟨q, hq⟩ : ∃ q, sgn (m : Int) = q := ⟨_, rfl⟩
  rw [hq] at hc hqs
  obtain ⟨p1, hp1⟩ : ∃ p1, bytesOf (u.data.toList ++ (32 :: (q.data.toList ++ (32 :: v.data.toList)))) = p1 := ⟨_, rfl⟩
  have HP1 : Hid (bytesOf (u.data.toList ++ (([32] : List UInt8) ++ (q.data.toList ++ (([32] : List UInt8) ++ v.data.toList)))) = p1) := hp1
  have HS1 : Hid ((⟨#[40]⟩ : ByteArray).size + p1.size + (⟨#[41]⟩ : ByteArray).size + 2 * (⟨#[]⟩ : ByteArray).size ≤ 1099511627776) := by
    have e1 : p1.size = (u.data.toList ++ (32 :: (q.data.toList ++ (32 :: v.data.toList)))).length := by rw [← hp1, bytesOf_size]
    have : (⟨#[40]⟩ : ByteArray).size + p1.size + (⟨#[41]⟩ : ByteArray).size + 2 * (⟨#[]⟩ : ByteArray).size ≤ 1099511627776 := by
      rw [e1]
      simp only [List.length_append, List.length_cons]
      rw [← Lib.size_eq, ← Lib.size_eq, ← Lib.size_eq]
      have h1 : (⟨#[40]⟩ : ByteArray).size = 1 := rfl
      have h2 : (⟨#[41]⟩ : ByteArray).size = 1 := rfl
      have h3 : (⟨#[]⟩ : ByteArray).size = 0 := rfl
      omega
    exact this
  have HP2 : Hid (bytesOf (([40] : List UInt8) ++ (([] : List UInt8) ++ (p1.data.toList ++ (([] : List UInt8) ++ ([41] : List UInt8))))) = y) := by
    have : bytesOf (([40] : List UInt8) ++ (([] : List UInt8) ++ (p1.data.toList ++ (([] : List UInt8) ++ ([41] : List UInt8))))) = y := by
      rw [← hy, ← hp1]
      unfold twoX bytesOf
      rw [hq]
      simp
    exact this
  clear hs hx hsg hp1 hq hy
  go_enter Tryz.func83, Tryz.ntmps83
  go_wp2_with fail
  obtain ⟨V, hV⟩ : ∃ V, V = w.alloc (.cells #[.int .i64 (m : Int), .int .i64 ck, .int .i64 cn, .string ct, .string s] 102) := ⟨_, rfl⟩
  have hxV : Below w.heap.size w V := by rw [hV]; exact (Below.refl _ _).alloc (Nat.le_refl _) _
  rw [← hV]
  rw [← hxV.cell (p := ⟨g, _, none⟩) hgu] at hu hv
  have hgV : g < V.heap.size := by have := hxV.size; omega
  clear hV hc
  refine wp_region_held_drew (S := (fun w' => w'.cell? ⟨g, o, none⟩ = some (.string u) ∧ w'.cell? ⟨g, o + 1, none⟩ = some (.string v))) (by kernel_rfl) ?_ (fun hHeld => ?_)
  · (((try dsimp only); (repeat' apply And.intro) <;> first | (go_keep; done) | (simp (disch := first | omega | (simp <;> omega) | fail) [*]; done) | fail))
  refine wpAnyH_take (i := 0) (by simp only [List.getElem?_toArray, List.getElem?_cons_zero]; rfl) (by kernel_rfl) (by kernel_rfl) (by kernel_rfl) (by intro _ _ _ h; exact h) (Or.inl ⟨by rfl, fun w hSw => by (dsimp only at hSw; go_simp; (try with_reducible rfl))⟩) (by assumption) ?_
  simp only [Act.put, List.setIfInBounds_toArray, List.set_cons_zero, List.set_cons_succ]
  refine wpAnyH_take (i := 1) (by simp only [List.getElem?_toArray, List.getElem?_cons_zero, List.getElem?_cons_succ]; rfl) (by kernel_rfl) (by kernel_rfl) (by kernel_rfl) (by intro _ _ _ h; exact h) (Or.inl ⟨by rfl, fun w hSw => by (dsimp only at hSw; go_simp; (try with_reducible rfl))⟩) (by assumption) ?_
  simp only [Act.put, List.setIfInBounds_toArray, List.set_cons_zero, List.set_cons_succ]
  refine wpAnyH_take (i := 2) (by simp only [List.getElem?_toArray, List.getElem?_cons_zero, List.getElem?_cons_succ]; rfl) (by kernel_rfl) (by kernel_rfl) (by kernel_rfl) (by intro _ _ _ h; exact h) (Or.inl ⟨by rfl, fun w hSw => by (dsimp only at hSw; go_simp; (try with_reducible rfl))⟩) (by assumption) ?_
  simp only [Act.put, List.setIfInBounds_toArray, List.set_cons_zero, List.set_cons_succ]
  refine wpAnyH_take (i := 3) (by simp only [List.getElem?_toArray, List.getElem?_cons_zero, List.getElem?_cons_succ]; rfl) (by kernel_rfl) (by kernel_rfl) (by kernel_rfl) (by intro _ _ _ h; exact h) (Or.inl ⟨by rfl, fun w hSw => by (dsimp only at hSw; go_simp; (try with_reducible rfl))⟩) (by assumption) ?_
  simp only [Act.put, List.setIfInBounds_toArray, List.set_cons_zero, List.set_cons_succ]
  refine wpAnyH_take (i := 4) (by simp only [List.getElem?_toArray, List.getElem?_cons_zero, List.getElem?_cons_succ]; rfl) (by kernel_rfl) (by kernel_rfl) (by kernel_rfl) (by intro _ _ _ h; exact h) (Or.inl ⟨by rfl, fun w hSw => by (dsimp only at hSw; go_simp; (try with_reducible rfl))⟩) (by assumption) ?_
  simp only [Act.put, List.setIfInBounds_toArray, List.set_cons_zero, List.set_cons_succ]
  refine wpAnyH_take (i := 5) (by simp only [List.getElem?_toArray, List.getElem?_cons_zero, List.getElem?_cons_succ]; rfl) (by kernel_rfl) (by kernel_rfl) (by kernel_rfl) (by intro _ _ _ h; exact h) (Or.inl ⟨by rfl, fun w hSw => by (dsimp only at hSw; go_simp; (try with_reducible rfl))⟩) (by assumption) ?_
  simp only [Act.put, List.setIfInBounds_toArray, List.set_cons_zero, List.set_cons_succ]
  refine wpAnyH_take (i := 6) (by simp only [List.getElem?_toArray, List.getElem?_cons_zero, List.getElem?_cons_succ]; rfl) (by kernel_rfl) (by kernel_rfl) (by kernel_rfl) (by intro _ _ _ h; exact h) (Or.inl ⟨by rfl, fun w hSw => by (dsimp only at hSw; go_simp; (try with_reducible rfl))⟩) (by assumption) ?_
  simp only [Act.put, List.setIfInBounds_toArray, List.set_cons_zero, List.set_cons_succ]
  refine wpAnyH_ready (rs := [7]) (by kernel_rfl) (by simp) ?_
  refine AllReadyH.cons (by simp only [List.getElem?_toArray, List.getElem?_cons_zero, List.getElem?_cons_succ]; rfl) ?_ AllReadyH.nil
  intro K hK
  go_simp
  obtain ⟨V2, hV2⟩ : ∃ V2, V2 = (V.alloc (.cells #[.string u, .string q, .string v] 9)).drew := ⟨_, rfl⟩
  have hb2 : Below V.heap.size V V2 := by rw [hV2]; exact ((Below.refl _ _).alloc (Nat.le_refl _) _).drew
  have z0 : V2.cell? ⟨V.heap.size, 0, none⟩ = some (.string u) := by rw [hV2, World.cell?_drew]; simp
  have z1 : V2.cell? ⟨V.heap.size, 1, none⟩ = some (.string q) := by rw [hV2, World.cell?_drew]; simp
  have z2 : V2.cell? ⟨V.heap.size, 2, none⟩ = some (.string v) := by rw [hV2, World.cell?_drew]; simp
  have hu2 : V2.cell? ⟨g, o, none⟩ = some (.string u) := by rw [hb2.cell (p := ⟨g, o, none⟩) hgV]; exact hu
  have hv2 : V2.cell? ⟨g, o + 1, none⟩ = some (.string v) := by rw [hb2.cell (p := ⟨g, o + 1, none⟩) hgV]; exact hv
  have hx2 : Below w.heap.size w V2 := hxV.trans (hb2.mono hxV.size)
  have hg2 : V.heap.size < V2.heap.size := World.block_lt_of_cell? V2 _ z0
  have hgg : g < V2.heap.size := by omega
  rw [← hV2]
  obtain ⟨B, hB⟩ : ∃ B, V.heap.size = B := ⟨_, rfl⟩
  rw [hB] at z0 z1 z2 hg2 ⊢
  clear hV2 hu hv hgV hxV hb2 hB
  refine hK.out _ _ ?_ (fun hHeld => ?_)
  · exact ⟨hu2, hv2⟩
  clear hK K
  try simp only [Act.put, List.setIfInBounds_toArray, List.set_cons_zero, List.set_cons_succ]
  refine wpAnyH_ready (rs := [8]) (by kernel_rfl) (by simp) ?_
  refine AllReadyH.cons (by simp only [List.getElem?_toArray, List.getElem?_cons_zero, List.getElem?_cons_succ]; rfl) ?_ AllReadyH.nil
  intro K hK
  go_simp
  refine (joined3c V2 B hg2 u q v ⟨#[32]⟩ z0 z1 z2 (by have h : (⟨#[32]⟩ : ByteArray).size = 1 := rfl; omega) p1 HP1.out).mono ?_
  rintro e w3 ⟨rfl, hb3⟩
  have hx3 := chain hx2 hb3
  have hu3 : w3.cell? ⟨g, o, none⟩ = some (.string u) := by rw [hb3.cell (p := ⟨g, o, none⟩) hgg]; exact hu2
  have hv3 : w3.cell? ⟨g, o + 1, none⟩ = some (.string v) := by rw [hb3.cell (p := ⟨g, o + 1, none⟩) hgg]; exact hv2
  have hg3 : g < w3.heap.size := World.block_lt_of_cell? w3 _ hu3
  clear z0 z1 z2 hu2 hv2 hgg hx2 hg2 hb3
  go_wp2_with fail
  refine hK.out _ _ ?_ (fun hHeld => ?_)
  · exact ⟨hu3, hv3⟩
  clear hK K
  try simp only [Act.put, List.setIfInBounds_toArray, List.set_cons_zero, List.set_cons_succ]
  refine wpAnyH_ready (rs := [9]) (by kernel_rfl) (by simp) ?_
  refine AllReadyH.cons (by simp only [List.getElem?_toArray, List.getElem?_cons_zero, List.getElem?_cons_succ]; rfl) ?_ AllReadyH.nil
  intro K hK
  go_simp
  obtain ⟨V4, hV4⟩ : ∃ V4, V4 = w3.alloc (.cells #[.string ⟨#[40]⟩, .string p1, .string ⟨#[41]⟩] 9) := ⟨_, rfl⟩
  have hb4 : Below w3.heap.size w3 V4 := by rw [hV4]; exact (Below.refl _ _).alloc (Nat.le_refl _) _
  have z0 : V4.cell? ⟨w3.heap.size, 0, none⟩ = some (.string ⟨#[40]⟩) := by rw [hV4]; simp
  have z1 : V4.cell? ⟨w3.heap.size, 1, none⟩ = some (.string p1) := by rw [hV4]; simp
  have z2 : V4.cell? ⟨w3.heap.size, 2, none⟩ = some (.string ⟨#[41]⟩) := by rw [hV4]; simp
  have hu4 : V4.cell? ⟨g, o, none⟩ = some (.string u) := by rw [hb4.cell (p := ⟨g, o, none⟩) hg3]; exact hu3
  have hv4 : V4.cell? ⟨g, o + 1, none⟩ = some (.string v) := by rw [hb4.cell (p := ⟨g, o + 1, none⟩) hg3]; exact hv3
  have hx4 : Below w.heap.size w V4 := chain hx3 hb4
  have hg4 : w3.heap.size < V4.heap.size := World.block_lt_of_cell? V4 _ z0
  have hgg : g < V4.heap.size := by omega
  rw [← hV4]
  obtain ⟨B2, hB2⟩ : ∃ B, w3.heap.size = B := ⟨_, rfl⟩
  rw [hB2] at z0 z1 z2 hg4 ⊢
  clear hV4 hu3 hv3 hg3 hx3 hb4 hB2
  refine hK.out _ _ ?_ (fun hHeld => ?_)
  · exact ⟨hu4, hv4⟩
  clear hK K
  try simp only [Act.put, List.setIfInBounds_toArray, List.set_cons_zero, List.set_cons_succ]
  refine wpAnyH_ready (rs := [10]) (by kernel_rfl) (by simp) ?_
  refine AllReadyH.cons (by simp only [List.getElem?_toArray, List.getElem?_cons_zero, List.getElem?_cons_succ]; rfl) ?_ AllReadyH.nil
  intro K hK
  go_simp
  refine (joined3c V4 B2 hg4 ⟨#[40]⟩ p1 ⟨#[41]⟩ ⟨#[]⟩ z0 z1 z2 HS1.out y HP2.out).mono ?_
  rintro e w5 ⟨rfl, hb5⟩
  have hx5 := chain hx4 hb5
  have hu5 : w5.cell? ⟨g, o, none⟩ = some (.string u) := by rw [hb5.cell (p := ⟨g, o, none⟩) hgg]; exact hu4
  have hv5 : w5.cell? ⟨g, o + 1, none⟩ = some (.string v) := by rw [hb5.cell (p := ⟨g, o + 1, none⟩) hgg]; exact hv4
  clear z0 z1 z2 hu4 hv4 hgg hx4 hg4 hb5
  go_wp2_with fail
  refine hK.out _ _ ?_ (fun hHeld => ?_)
  · exact ⟨hu5, hv5⟩
  clear hK K
  try simp only [Act.put, List.setIfInBounds_toArray, List.set_cons_zero, List.set_cons_succ]
  refine wpAnyH_take (i := 11) (by simp only [List.getElem?_toArray, List.getElem?_cons_zero, List.getElem?_cons_succ]; rfl) (by kernel_rfl) (by kernel_rfl) (by kernel_rfl) (by intro _ _ _ h; exact h) (Or.inl ⟨by rfl, fun w hSw => by (dsimp only at hSw; go_simp; (try with_reducible rfl))⟩) (by assumption) ?_
  simp only [Act.put, List.setIfInBounds_toArray, List.set_cons_zero, List.set_cons_succ]
  refine wpAnyH_done (by kernel_rfl) ?_ _
  clear hu5 hv5 hHeld
  go_wp2
  go_ret
  exact ⟨rfl, hx5⟩
end Go.Proofs.YtfokdblojlmnlabGreatDoor

/-
  A region that draws its order and whose last operation writes what the others read: a condition on the world that holds until that one comes up.
-/
namespace Go.Proofs.YtfokdblojlmnlabGreatDoor

section
variable {P : Program} {ops : Array Oper} {Q : Exit → Act → World → Prop} {md : Region.Mode} {S : World → Prop} {z : Nat}

/-- Whatever order is picked: behind each operation but z the condition S holds. -/
def wpAnyU (P : Program) (md : Region.Mode) (ops : Array Oper) (Q : Exit → Act → World → Prop) (S : World → Prop) (z : Nat) : Nat → Array Bool → Act → World → Prop
  | 0, listed, a, w => Region.ready md ops listed = [] ∧ Q .normal a w
  | n + 1, listed, a, w => (Region.ready md ops listed = [] → Q .normal a w) ∧ ∀ i ∈ Region.ready md ops listed, wpOp P ops Q i (fun a' w' => (i = z ∨ S w') ∧ wpAnyU P md ops Q S z n (listed.setIfInBounds i true) a' w') a w

theorem wpAnyU.any : ∀ {n : Nat} {listed : Array Bool} {a : Act} {w : World}, wpAnyU P md ops Q S z n listed a w → wpAny P md ops Q n listed a w
  | 0, _, _, _, h => h
  | _ + 1, _, _, _, h => ⟨h.1, fun i hi => wpOp_mono (fun _ _ h' => wpAnyU.any h'.2) (h.2 i hi)⟩

/-- Does z wait for i? -/
def waits (md : Region.Mode) (ops : Array Oper) (z i : Nat) : Bool := match ops[z]? with
  | some o => o.after.any (fun e => Region.binds md e && e.on == i)
  | none => false
theorem waits_some {i : Nat} {o : Oper} (h : waits md ops z i = true) (ho : ops[z]? = some o) : ∃ e ∈ o.after, Region.binds md e = true ∧ e.on = i := by
  unfold waits at h
  rw [ho] at h
  obtain ⟨k, hk, he⟩ := Array.any_eq_true.1 h
  simp only [Bool.and_eq_true, beq_iff_eq] at he
  exact ⟨o.after[k], Array.getElem_mem hk, he.1, he.2⟩

theorem wpAnyU_first {i : Nat} {oi : Oper} {v : Value} (hi : ops[i]? = some oi) (hz : waits md ops z i = true) (hsel : ∀ (j : Nat) (o : Oper) cs b, ops[j]? = some o → o.op ≠ .select cs b)
    (hQ : ∀ c a w, Q (.panic c) (a.put oi.dst v) w → Q (.panic c) a w) : ∀ (n : Nat) (listed : Array Bool) (a : Act) (w : World),
      (∀ j oj, ops[j]? = some oj → j ≠ i → listed.getD j true = false → (∀ e ∈ oj.after, Region.binds md e = true → e.on ≠ i) → oi.apart ops oj = true) →
      i ∈ Region.ready md ops listed → YieldsIf P ops S oi v a → S w →
      wpAnyU P md ops Q S z n (listed.setIfInBounds i true) (a.put oi.dst v) w → wpAnyU P md ops Q S z (n + 1) listed a w
  | 0, listed, a, w, _, hr, hy, hS, H => ⟨fun h => (by rw [h] at hr; cases hr), fun j hj => by
      by_cases e : j = i
      · subst e; exact hy.wpOp hi hS ⟨.inr hS, H⟩
      · have := ready_mono hj e
        rw [H.1] at this
        cases this⟩
  | n + 1, listed, a, w, hfree, hr, hy, hS, H => ⟨fun h => (by rw [h] at hr; cases hr), fun j hj => by
      by_cases e : j = i
      · subst e; exact hy.wpOp hi hS ⟨.inr hS, H⟩
      · have h1 := H.2 j (ready_mono hj e)
        obtain ⟨hun, oj, hoj, hall⟩ := mem_ready.1 hj
        have hnot : ∀ x ∈ oj.after, Region.binds md x = true → x.on ≠ i := by
          intro x hx hb heq
          have k1 := hall x hx hb
          have k0 := (mem_ready.1 hr).1
          rw [heq] at k1
          rcases Nat.lt_or_ge i listed.size with h' | h'
          · simp [h'] at k0 k1; rw [k0] at k1; cases k1
          · simp [Array.getElem?_eq_none h'] at k1
        have hjz : j ≠ z := by
          intro ez
          subst ez
          obtain ⟨x, hx, hb, heq⟩ := waits_some hz hoj
          exact hnot x hx hb heq
        have h2 := wpOp_putIf hoj (hfree j oj hoj e hun hnot) (fun cs b => hsel i oi cs b hi) (fun cs b => hsel j oj cs b hoj) hQ hy h1
        refine wpOp_mono (fun a' w' h3 => ?_) h2
        have hSw : S w' := by rcases h3.2.1 with h4 | h4; exact absurd h4 hjz; exact h4
        refine ⟨.inr hSw, wpAnyU_first hi hz hsel hQ n (listed.setIfInBounds j true) a' w' ?_ (ready_mono hr (Ne.symm e)) h3.1 hSw ?_⟩
        · intro k ok hk hki hku hno
          refine hfree k ok hk hki ?_ hno
          by_cases hjk : j = k
          · subst hjk; exact hun
          · rw [getD_set_ne true hjk] at hku; exact hku
        · rw [Array.setIfInBounds_comm _ _ e]; exact h3.2.2⟩
theorem wpAnyU_take {i : Nat} {oi : Oper} {v : Value} {n : Nat} {listed : Array Bool} {a : Act} {w : World} (hi : ops[i]? = some oi) (hz : waits md ops z i = true)
    (hs : Region.noSelect ops = true) (hf : Region.free md ops listed i = true) (hr : (Region.ready md ops listed).contains i = true)
    (hQ : ∀ c a w, Q (.panic c) (a.put oi.dst v) w → Q (.panic c) a w) (hy : YieldsIf P ops S oi v a) (hS : S w)
    (h : wpAnyU P md ops Q S z n (listed.setIfInBounds i true) (a.put oi.dst v) w) : wpAnyU P md ops Q S z (n + 1) listed a w :=
  wpAnyU_first hi hz (Region.noSelect_spec hs) hQ n listed a w (Region.free_spec hi hf) (by simpa using hr) hy hS h
/-- The one that is ready is carried out; behind it S is shown anew. -/
theorem wpAnyU_one {i : Nat} {o : Oper} {n : Nat} {listed : Array Bool} {a : Act} {w : World} (hr : Region.ready md ops listed = [i]) (ho : ops[i]? = some o)
    (h : ∀ K' : Act → World → Prop, Shut (∀ a w, S w → (S w → wpAnyU P md ops Q S z n (listed.setIfInBounds i true) a w) → K' a w) → if Region.wanted o (yielded ops a.tmps) = true then Oper.wp P o a w K' Q else K' (a.put o.dst undef) w) :
    wpAnyU P md ops Q S z (n + 1) listed a w :=
  ⟨fun h0 => (by rw [hr] at h0; cases h0), fun j hj => by
    rw [hr] at hj
    obtain rfl : j = i := by simpa using hj
    exact wpOp_step ho (fun K' hK => h K' (fun a w hS hW => hK a w ⟨.inr hS, hW hS⟩))⟩
/-- The last one is carried out: S is asked no more. -/
theorem wpAnyU_last {o : Oper} {n : Nat} {listed : Array Bool} {a : Act} {w : World} (hr : Region.ready md ops listed = [z]) (ho : ops[z]? = some o)
    (h : ∀ K' : Act → World → Prop, Shut (∀ a w, wpAnyU P md ops Q S z n (listed.setIfInBounds z true) a w → K' a w) → if Region.wanted o (yielded ops a.tmps) = true then Oper.wp P o a w K' Q else K' (a.put o.dst undef) w) :
    wpAnyU P md ops Q S z (n + 1) listed a w :=
  ⟨fun h0 => (by rw [hr] at h0; cases h0), fun j hj => by
    rw [hr] at hj
    obtain rfl : j = z := by simpa using hj
    exact wpOp_step ho (fun K' hK => h K' (fun a w hW => hK a w ⟨.inl rfl, hW⟩))⟩
theorem wp_region_until {id : Nat} {a : Act} {w : World} (hm : P.follows .mixedOrders = true) (hS : S w.drew)
    (h : S w.drew → wpAnyU P .any ops Q S z ops.size (Array.replicate ops.size false) a w.drew) : (Code.region id ops true).wp P Q a w :=
  wp_region_any hm (h hS).any
theorem wpAnyU_done {listed : Array Bool} {a : Act} {w : World} (hr : Region.ready md ops listed = []) (h : Q .normal a w) : ∀ n, wpAnyU P md ops Q S z n listed a w
  | 0 => ⟨hr, h⟩
  | _ + 1 => ⟨fun _ => h, by rw [hr]; simp⟩
end
end Go.Proofs.YtfokdblojlmnlabGreatDoor
