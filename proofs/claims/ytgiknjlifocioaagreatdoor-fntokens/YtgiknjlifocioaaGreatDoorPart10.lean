/-
  A part of the proof: TokensS, Lists4, Lists5, Lists6, Lists7, Tok2, TokDraw2, TokDraw3, TextS.
-/
import Derived.Test.YtgiknjlifocioaaGreatDoorPart9
import Derived.Test.YtgiknjlifocioaaGreatDoorPart5
import Derived.Laws.IdiomStrings
import Derived.Laws.Concat
import Derived.Test.YtgiknjlifocioaaGreatDoorPart6
import Derived.Test.YtgiknjlifocioaaGreatDoorPart3

/-
  The contract of the model's TokensOf.
-/
namespace Go.Proofs.YtgiknjlifocioaaGreatDoor
open Go.ChangeShapes Go.WideShapes Go.ChangeAt Go.RowKit
attribute [local go_sem ↓] Go.wp_at_zero Go.wp_at_succ

theorem Rest.one {s : ByteArray} {k : Nat} {out : List TT} (h : Rest s k out) (hk : k < s.size) (h32 : (s[k]'hk).toNat = 32) : Rest s (k + 1) out := by
  unfold Rest at h ⊢
  have e : s.data.toList.drop k = s[k] :: s.data.toList.drop (k + 1) := by rw [List.drop_eq_getElem_cons (by simpa using hk)]; rfl
  rw [h, e, byteIs h32 (by decide)]
  exact congrArg (Option.map (out ++ ·)) (toksL_blank _)
theorem Rest.next {s : ByteArray} {k : Nat} {out : List TT} (h : Rest s k out) (hs : s.size ≤ 2000) (hk : k < s.size) (h32 : ¬ (s[k]'hk).toNat = 32) {t : TT} {r : Nat} (hr : nextR s k = (t, r)) :
    (r = k ∧ toksR s = ([], false)) ∨ (k < r ∧ r ≤ s.size ∧ Rest s r (out ++ [t])) := by
  have e : s.data.toList.drop k = s[k] :: s.data.toList.drop (k + 1) := by rw [List.drop_eq_getElem_cons (by simpa using hk)]; rfl
  have hx := toksL_next s[k] (s.data.toList.drop (k + 1)) (fun e => h32 (by rw [e]; rfl))
  rw [← e] at hx
  unfold Rest at h
  unfold nextR at hr
  cases hn : nextT (s.data.toList.drop k) with
  | none =>
    rw [hn] at hr hx
    injection hr with _ h2
    refine .inl ⟨h2.symm, ?_⟩
    rw [hx] at h
    unfold toksR
    rw [toksB_L hs, h]
    rfl
  | some p =>
    obtain ⟨u, m⟩ := p
    rw [hn] at hr hx
    injection hr with h1 h2
    subst h1 h2
    obtain ⟨_, hm, hml, _⟩ := nextT_ok (by rw [e]; simp) hn
    rw [List.length_drop, ← Lib.size_eq] at hml
    refine .inr ⟨by omega, by omega, ?_⟩
    unfold Rest
    rw [h, hx]
    simp only []
    rw [List.drop_drop, Option.map_map]
    congr 1
    funext x
    simp
set_option maxRecDepth 100000 in
set_option maxHeartbeats 4000000 in
theorem tokensof_spec (s : ByteArray) (w : World) (l : List TT) (b : Bool) (hR : toksR s = (l, b)) (hm : s.size ≤ 1048576) :
    Calls Tryz.prog 10 #[.string s] w fun e w' => ∃ v, e = .returned (.tuple #[v, .bool b]) ∧ AnsTok w' w.heap.size v l ∧ Below w.heap.size w w' := by
  obtain ⟨i0, hti, hz0, hz1, hz2⟩ := info_parts infoTok5
  have own0 : Hid (AnsTok (w.alloc (.cells #[] 33)) w.heap.size (.slice (some ⟨w.heap.size, 0, none⟩) 0 0) []) := ansTok_none w _ (Nat.le_refl _)
  have hb0 : Below w.heap.size w (w.alloc (.cells #[] 33)) := (Below.refl _ _).alloc (Nat.le_refl _) _
  have HR : Hid (toksR s = (l, b)) := hR
  clear hR
  by_cases hs : (2000 : Int) < (s.size : Int)
  · have hf := HR.out
    unfold toksR at hf
    rw [toksB_long (by omega)] at hf
    injection hf with e1 e2
    subst e1 e2
    have hs1 : ¬ (s.size : Int) ≤ 2000 := by omega
    have hs0 : (0 : Int) < (s.size : Int) := by omega
    have hs3 : ((0 : Int) == (s.size : Int)) = false := by simpa using (show ¬ (0 : Int) = (s.size : Int) by omega)
    go_enter Tryz.func10, Tryz.ntmps10
    go_wp2
    go_loopw [4, 5] (fun v kk wr => v = .slice (some ⟨w.heap.size, 0, none⟩) 0 0 ∧ kk = .int .i64 0 ∧ wr = w.alloc (.cells #[] 33)) (fun _ _ _ => 0)
    case atStart => exact ⟨rfl, rfl, rfl⟩
    case round =>
      obtain ⟨rfl, rfl, rfl⟩ := hrel
      go_wp2
      go_ret2
      exact ⟨_, rfl, own0.out, hb0⟩
  have hs2 : s.size ≤ 2000 := by omega
  have hs1 : (s.size : Int) ≤ 2000 := by omega
  clear hs
  go_enter Tryz.func10, Tryz.ntmps10
  go_wp2
  go_loopw [4, 5] (fun v kk wr => ∃ (k : Nat) (out : List TT), k ≤ s.size ∧ kk = .int .i64 k ∧ Hid (Rest s k out) ∧ Hid (AnsTok wr w.heap.size v out) ∧ out.length ≤ k ∧ Below w.heap.size w wr) (fun _ kk _ => s.size - (intOf kk).toNat)
  case atStart => exact ⟨0, [], Nat.zero_le _, rfl, Rest.start s, own0, Nat.le_refl _, hb0⟩
  case round =>
    obtain ⟨k, out, hk, rfl, hRd, hO, hol, hb⟩ := hrel
    by_cases hlt : k < s.size
    · have hi0 : (0 : Int) ≤ (k : Int) := by omega
      have hi1 : (k : Int) < (s.size : Int) := by omega
      obtain ⟨x, hx⟩ : ∃ x, (s[k]'hlt).toNat = x := ⟨_, rfl⟩
      by_cases h32 : x = 32
      · subst h32
        have hRd2 : Hid (Rest s (k + 1) out) := hRd.out.one hlt hx
        go_wp2
        go_roundw
        case rel => exact ⟨k + 1, out, by omega, by go_num, hRd2, hO, by omega, hb⟩
        case measure => simp [intOf]; omega
      have g32 : ((x : Int) == 32) = false := by simpa using (show ¬ (x : Int) = 32 by omega)
      obtain ⟨t, r, hN⟩ : ∃ t r, nextR s k = (t, r) := ⟨_, _, rfl⟩
      have hst := hRd.out.next hs2 hlt (by rw [hx]; exact h32) hN
      have HN : Hid (nextR s k = (t, r)) := hN
      clear hN
      go_wp2_with fail
      refine (next_spec s hs2 k hlt t r HN.out _).mono ?_
      rintro e w2 ⟨rfl, hb2⟩
      have hbx2 := chain hb hb2
      have O1 := own_below hO.out.1 hb2
      have hvn := hO.out.2
      obtain ⟨tk, ts, ck, cn, ct⟩ := t
      dsimp only
      rcases hst with ⟨hrk, hno⟩ | ⟨hkr, hrs, hyes⟩
      · have hf := HR.out
        rw [hno] at hf
        injection hf with e1 e2
        subst e1 e2 hrk
        clear O1 hO hx hno
        have hA : Hid (AnsTok ((w2.alloc (.cells #[.int .i64 tk, .string ts, .int .i64 ck, .int .i64 cn, .string ct] 33)).alloc (.cells #[] 33)) w.heap.size (.slice (some ⟨w2.heap.size + 1, 0, none⟩) 0 0) []) := by
          have := ansTok_none (w2.alloc (.cells #[.int .i64 tk, .string ts, .int .i64 ck, .int .i64 cn, .string ct] 33)) w.heap.size (by have := hbx2.size; simp; omega)
          have e : (w2.alloc (.cells #[.int .i64 tk, .string ts, .int .i64 ck, .int .i64 cn, .string ct] 33)).heap.size = w2.heap.size + 1 := by simp
          rw [e] at this
          exact this
        have hbe : Below w.heap.size w ((w2.alloc (.cells #[.int .i64 tk, .string ts, .int .i64 ck, .int .i64 cn, .string ct] 33)).alloc (.cells #[] 33)) := (hbx2.alloc hbx2.size _).alloc (by have := hbx2.size; simp; omega) _
        go_wp2
        go_ret2
        exact ⟨_, rfl, hA.out, hbe⟩
      · have hrk : ((r : Int) == (k : Int)) = false := by simpa using (show ¬ (r : Int) = (k : Int) by omega)
        have hYes : Hid (Rest s r (out ++ [(tk, ts, ck, cn, ct)])) := hyes
        clear hyes hx
        have O2 := (O1.alloc (.cells #[.int .i64 tk, .string ts, .int .i64 ck, .int .i64 cn, .string ct] 33))
        clear O1 hO
        go_wp2_with (at_builtin; refine wpList_append_own _ rfl _ _ 24 rfl w.heap.size 33 i0 (.agg #[.int .i64 0, .string ⟨#[]⟩, .int .i64 0, .int .i64 0, .string ⟨#[]⟩]) 5 56 Tryz.underlying24 hti hz0 hz1 hz2 rfl (by decide) _ _ _ rfl (O2.alloc _) ⟨w2.heap.size + 1, 0, none⟩ 1 1 [.int .i64 tk, .string ts, .int .i64 ck, .int .i64 cn, .string ct] rfl rfl (cells5 w2 _ _ _ _ _ _ _ _ _ _) ?c2 ?c3 ?c4 ?c5 ?_)
        case c2 => intro u hu; simp at hu; rcases hu with rfl | rfl | rfl | rfl | rfl <;> rfl
        case c3 => unfold maxLen; omega
        case c4 => omega
        case c5 => have := hbx2.size; simp; omega
        intro v' w3 own3 hgrow hnn
        have hx2 : Below w.heap.size w w3 := by
          have hbA := hbx2.alloc hbx2.size (.cells #[.int .i64 tk, .string ts, .int .i64 ck, .int .i64 cn, .string ct] 33)
          refine (hbA.alloc hbA.size _).grown hgrow (by have := hbA.size; simp at this ⊢; omega) ?_
          intro kk hkk
          exact (O2.lt kk hkk).1
        have hvn2 : v' ≠ .slice none 0 0 := by first | exact hnn | exact fun e => hvn (hnn.1 e).1
        have SS : Hid (AnsTok w3 w.heap.size v' (out ++ [(tk, ts, ck, cn, ct)])) := by
          refine ⟨?_, hvn2⟩
          rw [flatTok_snoc, List.length_append]
          exact own3
        clear own3 hgrow hnn O2
        go_wp2
        go_roundw
        case rel => exact ⟨r, _, hrs, rfl, hYes, SS, by rw [List.length_append, List.length_singleton]; omega, hx2⟩
        case measure => simp [intOf]; omega
    · have hkl : k = s.size := by omega
      subst hkl
      have hi1 : ¬ (s.size : Int) < (s.size : Int) := by omega
      have hf := HR.out
      rw [hRd.out.done (Nat.le_refl _) hs2] at hf
      injection hf with e1 e2
      subst e1 e2
      go_wp2
      go_ret2
      exact ⟨_, by simp, hO.out, hb⟩
end Go.Proofs.YtgiknjlifocioaaGreatDoor

/-
  Lists of lists of cells: how they lie in memory, and the contracts of the law's helpers that measure them and hold two of them against each other.
-/
namespace Go.Proofs.YtgiknjlifocioaaGreatDoor
open Go.ChangeShapes Go.WideShapes Go.ChangeAt Go.RowKit
attribute [local go_sem ↓] Go.wp_at_zero Go.wp_at_succ

/-- The lists of a slice of slices lie where it says. -/
def RowsAt (w : World) (a : Option Addr) (L : List (List CT)) : Prop :=
  ∀ i (h : i < L.length), ∃ b o ai ci, a = some ⟨b, o, none⟩ ∧ b < w.heap.size ∧ w.cell? ⟨b, o + i, none⟩ = some (.slice ai L[i].length ci) ∧ RowAt w ai L[i] ∧ Fit L[i] ∧ L[i].length ≤ maxLen ∧ (ai = none → ci = 0)
theorem RowsAt.below {w w' : World} {a : Option Addr} {L : List (List CT)} (h : RowsAt w a L) (hb : Below w.heap.size w w') : RowsAt w' a L := by
  intro i hi
  obtain ⟨b, o, ai, ci, ha, hlt, h0, h1, h2⟩ := h i hi
  refine ⟨b, o, ai, ci, ha, Nat.lt_of_lt_of_le hlt hb.size, ?_, h1.below hb, h2⟩
  rw [hb.cell (p := ⟨b, _, none⟩) hlt]; exact h0
/-- How much a list of lists takes of a measure. -/
def total (L : List (List CT)) : Nat := (L.map fun l => l.length + weight l).sum
theorem total_take (L : List (List CT)) (k : Nat) (h : k < L.length) : total (L.take (k + 1)) = total (L.take k) + ((L[k]).length + weight L[k]) := by
  unfold total
  rw [List.take_succ_eq_append_getElem h, List.map_append, List.sum_append]; simp
theorem total_le (L : List (List CT)) (k : Nat) : total (L.take k) ≤ total L := by
  unfold total
  conv => rhs; rw [← List.take_append_drop k L, List.map_append, List.sum_append]
  omega

end Go.Proofs.YtgiknjlifocioaaGreatDoor

/-
  The text that the law's helper writes to mark a cell: what it is hangs on its number alone.
-/
namespace Go.Proofs.YtgiknjlifocioaaGreatDoor
open Go.ChangeShapes Go.WideShapes Go.ChangeAt Go.RowKit
attribute [local go_sem ↓] Go.wp_at_zero Go.wp_at_succ

/-- The last digit of k, as a byte. -/
def dig (k : Nat) : UInt8 := UInt8.ofNat (48 + k % 10)
theorem dig_nat (k : Nat) : (dig k).toNat = 48 + k % 10 := by unfold dig; rw [UInt8.toNat_ofNat']; omega
/-- The digits of k ahead of what is there. -/
def digs : Nat → Nat → ByteArray → ByteArray
  | 0, _, out => out
  | f + 1, k, out => if k = 0 then out else digs f (k / 10) (⟨#[dig k]⟩ ++ out)
/-- The text that marks k. -/
def mt (k : Nat) : ByteArray := ⟨#[109]⟩ ++ digs k k ⟨#[]⟩

theorem digs_step (m : Nat) (out : ByteArray) (h : 0 < m) : digs m m out = digs (m / 10) (m / 10) (⟨#[dig m]⟩ ++ out) := by
  have fuel : ∀ (k f g : Nat) (out : ByteArray), k ≤ f → k ≤ g → digs f k out = digs g k out := by
    intro k
    induction k using Nat.strongRecOn with
    | _ k ih =>
      intro f g out hf hg
      cases f with
      | zero =>
        have : k = 0 := by omega
        subst this
        cases g <;> simp [digs]
      | succ f =>
        cases g with
        | zero =>
          have : k = 0 := by omega
          subst this
          simp [digs]
        | succ g =>
          by_cases hk : k = 0
          · simp [digs, hk]
          · rw [digs, digs, if_neg hk, if_neg hk]
            exact ih (k / 10) (by omega) f g _ (by omega) (by omega)
  cases m with
  | zero => omega
  | succ m =>
    rw [digs, if_neg (by omega)]
    exact fuel _ _ _ _ (by omega) (by omega)

end Go.Proofs.YtgiknjlifocioaaGreatDoor

/-
  The contracts of the law's helpers that mark the cells of a list, one number behind the other, and that look whether the marks are still there.
-/
namespace Go.Proofs.YtgiknjlifocioaaGreatDoor
open Go.ChangeShapes Go.WideShapes Go.ChangeAt Go.RowKit
attribute [local go_sem ↓] Go.wp_at_zero Go.wp_at_succ

/-- The i-th mark from k on. -/
def mark1 (k i : Nat) : CT := (((k + 3 * i : Nat) : Int), ((k + 3 * i + 1 : Nat) : Int), mt (k + 3 * i + 2))
/-- The marks of a list of n cells. -/
def marks (k n : Nat) : List CT := (List.range n).map (mark1 k)
theorem marks_length (k n : Nat) : (marks k n).length = n := by simp [marks]
theorem marks_at (k n i : Nat) (h : i < (marks k n).length) : (marks k n)[i] = mark1 k i := by simp [marks]
theorem marks_step (k : Nat) (l : List CT) (i : Nat) (h : i < l.length) : (marks k i ++ l.drop i).set i (mark1 k i) = marks k (i + 1) ++ l.drop (i + 1) := by
  rw [List.set_append_right _ _ (by rw [marks_length]; omega), marks_length, Nat.sub_self]
  have e : l.drop i = l[i] :: l.drop (i + 1) := List.drop_eq_getElem_cons h
  rw [e, List.set_cons_zero]
  simp [marks, List.range_succ]

/-- The cells of a slice may be written. -/
def Free (w : World) (a : Option Addr) (n : Nat) : Prop := ∀ b o, a = some ⟨b, o, none⟩ → ∀ j, j < n * 3 → w.frozen? ⟨b, o + j, none⟩ = false
/-- The block in which a slice of n cells lies, where it has one. -/
def inBlk (a : Option Addr) (n b : Nat) : Prop := 0 < n ∧ ∃ o, a = some ⟨b, o, none⟩

theorem RowAt.upd {w w' : World} {b o : Nat} {l : List CT} {i : Nat} {x : CT} (h : RowAt w (some ⟨b, o, none⟩) l) (hs : w.heap.size ≤ w'.heap.size)
    (hfar : ∀ q, q ≠ o + i * 3 → q ≠ o + i * 3 + 1 → q ≠ o + i * 3 + 2 → w'.cell? ⟨b, q, none⟩ = w.cell? ⟨b, q, none⟩)
    (h0 : w'.cell? ⟨b, o + i * 3, none⟩ = some (.int .i64 x.1)) (h1 : w'.cell? ⟨b, o + i * 3 + 1, none⟩ = some (.int .i64 x.2.1)) (h2 : w'.cell? ⟨b, o + i * 3 + 2, none⟩ = some (.string x.2.2)) :
    RowAt w' (some ⟨b, o, none⟩) (l.set i x) := by
  intro j hj
  have hj' : j < l.length := by simpa using hj
  obtain ⟨b', o', e, hlt, c0, c1, c2⟩ := h j hj'
  cases e
  refine ⟨b, o, rfl, Nat.lt_of_lt_of_le hlt hs, ?_⟩
  by_cases hij : i = j
  · subst hij
    rw [List.getElem_set_self]
    exact ⟨h0, h1, h2⟩
  · rw [List.getElem_set_ne hij]
    refine ⟨?_, ?_, ?_⟩
    · rw [hfar _ (by omega) (by omega) (by omega)]; exact c0
    · rw [hfar _ (by omega) (by omega) (by omega)]; exact c1
    · rw [hfar _ (by omega) (by omega) (by omega)]; exact c2

theorem Free.upd {w w' : World} {a : Option Addr} {n : Nat} (h : Free w a n) (hf : ∀ b o q, a = some ⟨b, o, none⟩ → w'.frozen? ⟨b, q, none⟩ = w.frozen? ⟨b, q, none⟩) : Free w' a n :=
  fun b o e j hj => by rw [hf b o _ e]; exact h b o e j hj

end Go.Proofs.YtgiknjlifocioaaGreatDoor

/-
  The contract of the law's helper that looks whether the marks of a list of cells are still there.
-/
namespace Go.Proofs.YtgiknjlifocioaaGreatDoor
open Go.ChangeShapes Go.WideShapes Go.ChangeAt Go.RowKit
attribute [local go_sem ↓] Go.wp_at_zero Go.wp_at_succ

end Go.Proofs.YtgiknjlifocioaaGreatDoor

/-
  The contracts of the law's helpers that mark the Tokens of a list, one number behind the other, and that look whether the marks are still there.
-/
namespace Go.Proofs.YtgiknjlifocioaaGreatDoor
open Go.ChangeShapes Go.WideShapes Go.ChangeAt Go.RowKit
attribute [local go_sem ↓] Go.wp_at_zero Go.wp_at_succ

/-- The i-th mark from k on. -/
def mark1Tok (k i : Nat) : TT := (((k + 5 * i : Nat) : Int), mt (k + 5 * i + 1), ((k + 5 * i + 2 : Nat) : Int), ((k + 5 * i + 3 : Nat) : Int), mt (k + 5 * i + 4))
def marksTok (k n : Nat) : List TT := (List.range n).map (mark1Tok k)
theorem marksTok_length (k n : Nat) : (marksTok k n).length = n := by simp [marksTok]
theorem marksTok_at (k n i : Nat) (h : i < (marksTok k n).length) : (marksTok k n)[i] = mark1Tok k i := by simp [marksTok]
theorem marksTok_step (k : Nat) (l : List TT) (i : Nat) (h : i < l.length) : (marksTok k i ++ l.drop i).set i (mark1Tok k i) = marksTok k (i + 1) ++ l.drop (i + 1) := by
  rw [List.set_append_right _ _ (by rw [marksTok_length]; omega), marksTok_length, Nat.sub_self]
  have e : l.drop i = l[i] :: l.drop (i + 1) := List.drop_eq_getElem_cons h
  rw [e, List.set_cons_zero]
  simp [marksTok, List.range_succ]
/-- The cells of a slice may be written. -/
def FreeTok (w : World) (a : Option Addr) (n : Nat) : Prop := ∀ b o, a = some ⟨b, o, none⟩ → ∀ j, j < n * 5 → w.frozen? ⟨b, o + j, none⟩ = false
theorem TokAt.upd {w w' : World} {b o : Nat} {l : List TT} {i : Nat} {x : TT} (h : TokAt w (some ⟨b, o, none⟩) l) (hs : w.heap.size ≤ w'.heap.size)
    (hfar : ∀ q, q ≠ o + i * 5 → q ≠ o + i * 5 + 1 → q ≠ o + i * 5 + 2 → q ≠ o + i * 5 + 3 → q ≠ o + i * 5 + 4 → w'.cell? ⟨b, q, none⟩ = w.cell? ⟨b, q, none⟩)
    (h0 : w'.cell? ⟨b, o + i * 5, none⟩ = some (.int .i64 x.1)) (h1 : w'.cell? ⟨b, o + i * 5 + 1, none⟩ = some (.string x.2.1)) (h2 : w'.cell? ⟨b, o + i * 5 + 2, none⟩ = some (.int .i64 x.2.2.1)) (h3 : w'.cell? ⟨b, o + i * 5 + 3, none⟩ = some (.int .i64 x.2.2.2.1)) (h4 : w'.cell? ⟨b, o + i * 5 + 4, none⟩ = some (.string x.2.2.2.2)) :
    TokAt w' (some ⟨b, o, none⟩) (l.set i x) := by
  intro j hj
  have hj' : j < l.length := by simpa using hj
  obtain ⟨b', o', e, hlt, c0, c1, c2, c3, c4⟩ := h j hj'
  cases e
  refine ⟨b, o, rfl, Nat.lt_of_lt_of_le hlt hs, ?_⟩
  by_cases hij : i = j
  · subst hij
    rw [List.getElem_set_self]
    exact ⟨h0, h1, h2, h3, h4⟩
  · rw [List.getElem_set_ne hij]
    refine ⟨?_, ?_, ?_, ?_, ?_⟩
    · rw [hfar _ (by omega) (by omega) (by omega) (by omega) (by omega)]; exact c0
    · rw [hfar _ (by omega) (by omega) (by omega) (by omega) (by omega)]; exact c1
    · rw [hfar _ (by omega) (by omega) (by omega) (by omega) (by omega)]; exact c2
    · rw [hfar _ (by omega) (by omega) (by omega) (by omega) (by omega)]; exact c3
    · rw [hfar _ (by omega) (by omega) (by omega) (by omega) (by omega)]; exact c4
theorem FreeTok.upd {w w' : World} {a : Option Addr} {n : Nat} (h : FreeTok w a n) (hf : ∀ b o q, a = some ⟨b, o, none⟩ → w'.frozen? ⟨b, q, none⟩ = w.frozen? ⟨b, q, none⟩) : FreeTok w' a n :=
  fun b o e j hj => by rw [hf b o _ e]; exact h b o e j hj
theorem TokAt.keepS {P : Nat → Prop} {w w' : World} {a : Option Addr} {l : List TT} (h : TokAt w a l) (hk : KeepS P w w') (hP : ∀ b, inBlk a l.length b → ¬ P b) : TokAt w' a l := by
  intro j hj
  obtain ⟨b, o, ha, hlt, c0, c1, c2, c3, c4⟩ := h j hj
  have hn := hP b ⟨by omega, o, ha⟩
  refine ⟨b, o, ha, Nat.lt_of_lt_of_le hlt hk.size, ?_, ?_, ?_, ?_, ?_⟩
  · rw [hk.cell hlt hn]; exact c0
  · rw [hk.cell hlt hn]; exact c1
  · rw [hk.cell hlt hn]; exact c2
  · rw [hk.cell hlt hn]; exact c3
  · rw [hk.cell hlt hn]; exact c4

end Go.Proofs.YtgiknjlifocioaaGreatDoor

/-
  The contracts of the model's draws of tokens: short lists in new memory, the cursor as it lay.
-/
namespace Go.Proofs.YtgiknjlifocioaaGreatDoor
open Go.ChangeShapes Go.WideShapes Go.ChangeAt Go.RowKit
attribute [local go_sem ↓] Go.wp_at_zero Go.wp_at_succ
attribute [local simp] World.cell?_alloc_past World.cell?_alloc_at World.frozen?_alloc_at cell_far cell_off cell_here World.frozen?_alloc_past

/-- Tokens that were drawn: few, and their texts are short. -/
def FewTok (l : List TT) : Prop := l.length ≤ 100 ∧ ∀ x ∈ l, x.2.1.size ≤ 1048576 ∧ x.2.2.2.2.size ≤ maxLen
/-- A list of tokens from that place on. -/
def DrawnTok (w : World) (base : Nat) (v : Value) (l : List TT) : Prop := ∃ g cap, v = .slice (some ⟨g, 0, none⟩) l.length cap ∧ base ≤ g ∧ TokAt w (some ⟨g, 0, none⟩) l
theorem fewTok {s : ByteArray} {l : List TT} {b : Bool} (h : toksR s = (l, b)) (hs : s.size ≤ 100) : FewTok l := by
  refine ⟨by have := toksR_size h; omega, fun x hx => ?_⟩
  have := tokB_fits (List.all_eq_true.1 (toksR_all h) x hx)
  unfold maxLen
  omega
theorem FewTok.set {l : List TT} (h : FewTok l) (k : Nat) (x : TT) (h1 : x.2.1.size ≤ 1048576) (h2 : x.2.2.2.2.size ≤ maxLen) : FewTok (l.set k x) := by
  refine ⟨by rw [List.length_set]; exact h.1, fun y hy => ?_⟩
  rcases List.mem_or_eq_of_mem_set hy with hy | rfl
  · exact h.2 y hy
  · exact ⟨h1, h2⟩
theorem DrawnTok.of {w : World} {base : Nat} {v : Value} {l : List TT} (h : AnsTok w base v l) : DrawnTok w base v l := by
  rcases h.1.2 with ⟨h', _⟩ | ⟨g, c, cur, h', hb, _⟩
  · exact absurd h' h.2
  · subst h'
    exact ⟨g, c, rfl, hb, ownTok h.1⟩
theorem TokAt.set0 {w : World} {g : Nat} {l : List TT} {k : Nat} (h : TokAt w (some ⟨g, 0, none⟩) l) (hk : k < l.length) (z : Int) : TokAt (w.setCell ⟨g, k * 5, none⟩ (.int .i64 z)) (some ⟨g, 0, none⟩) (l.set k (z, l[k].2)) := by
  obtain ⟨b, o, e, hlt, c0, c1, c2, c3, c4⟩ := h k hk
  simp only [Option.some.injEq, Addr.mk.injEq, and_true] at e
  obtain ⟨rfl, rfl⟩ := e
  refine h.upd (i := k) (x := (z, l[k].2)) (by simp) (fun q h0 _ _ _ _ => cell_off _ _ _ _ _ (by omega)) ?_ ?_ ?_ ?_ ?_
  · rw [Nat.zero_add]; exact cell_here _ _ _ _ (by rw [Nat.zero_add] at c0; rw [c0]; rfl)
  · rw [cell_off _ _ _ _ _ (by omega)]; exact c1
  · rw [cell_off _ _ _ _ _ (by omega)]; exact c2
  · rw [cell_off _ _ _ _ _ (by omega)]; exact c3
  · rw [cell_off _ _ _ _ _ (by omega)]; exact c4
theorem TokAt.set1 {w : World} {g : Nat} {l : List TT} {k : Nat} (h : TokAt w (some ⟨g, 0, none⟩) l) (hk : k < l.length) (z : ByteArray) : TokAt (w.setCell ⟨g, k * 5 + 1, none⟩ (.string z)) (some ⟨g, 0, none⟩) (l.set k (l[k].1, z, l[k].2.2)) := by
  obtain ⟨b, o, e, hlt, c0, c1, c2, c3, c4⟩ := h k hk
  simp only [Option.some.injEq, Addr.mk.injEq, and_true] at e
  obtain ⟨rfl, rfl⟩ := e
  refine h.upd (i := k) (x := (l[k].1, z, l[k].2.2)) (by simp) (fun q _ h0 _ _ _ => cell_off _ _ _ _ _ (by omega)) ?_ ?_ ?_ ?_ ?_
  · rw [cell_off _ _ _ _ _ (by omega)]; exact c0
  · rw [Nat.zero_add]; exact cell_here _ _ _ _ (by rw [Nat.zero_add] at c1; rw [c1]; rfl)
  · rw [cell_off _ _ _ _ _ (by omega)]; exact c2
  · rw [cell_off _ _ _ _ _ (by omega)]; exact c3
  · rw [cell_off _ _ _ _ _ (by omega)]; exact c4
theorem TokAt.set2 {w : World} {g : Nat} {l : List TT} {k : Nat} (h : TokAt w (some ⟨g, 0, none⟩) l) (hk : k < l.length) (x y : Int) (z : ByteArray) :
    TokAt (((w.setCell ⟨g, k * 5 + 2, none⟩ (.int .i64 x)).setCell ⟨g, k * 5 + 3, none⟩ (.int .i64 y)).setCell ⟨g, k * 5 + 4, none⟩ (.string z)) (some ⟨g, 0, none⟩) (l.set k (l[k].1, l[k].2.1, x, y, z)) := by
  obtain ⟨b, o, e, hlt, c0, c1, c2, c3, c4⟩ := h k hk
  simp only [Option.some.injEq, Addr.mk.injEq, and_true] at e
  obtain ⟨rfl, rfl⟩ := e
  refine h.upd (i := k) (x := (l[k].1, l[k].2.1, x, y, z)) (by simp) (fun q _ _ h2 h3 h4 => by rw [cell_off _ _ _ _ _ (by omega), cell_off _ _ _ _ _ (by omega), cell_off _ _ _ _ _ (by omega)]) ?_ ?_ ?_ ?_ ?_
  · rw [cell_off _ _ _ _ _ (by omega), cell_off _ _ _ _ _ (by omega), cell_off _ _ _ _ _ (by omega)]; exact c0
  · rw [cell_off _ _ _ _ _ (by omega), cell_off _ _ _ _ _ (by omega), cell_off _ _ _ _ _ (by omega)]; exact c1
  · rw [cell_off _ _ _ _ _ (by omega), cell_off _ _ _ _ _ (by omega), Nat.zero_add]; exact cell_here _ _ _ _ (by rw [Nat.zero_add] at c2; rw [c2]; rfl)
  · rw [cell_off _ _ _ _ _ (by omega), Nat.zero_add]; exact cell_here _ _ _ _ (by rw [cell_off _ _ _ _ _ (by omega)]; rw [Nat.zero_add] at c3; rw [c3]; rfl)
  · rw [Nat.zero_add]; exact cell_here _ _ _ _ (by rw [cell_off _ _ _ _ _ (by omega), cell_off _ _ _ _ _ (by omega)]; rw [Nat.zero_add] at c4; rw [c4]; rfl)
def tokX : List ByteArray := [⟨#[]⟩, ⟨#[97]⟩, ⟨#[97, 110, 100]⟩, ⟨#[65]⟩, ⟨#[97, 98, 99, 100, 101, 102, 103]⟩]
theorem tokX_len : tokX.length = 5 := rfl
theorem tokX_size : ∀ x ∈ tokX, x.size ≤ 7 := by
  have h : tokX.all (fun x => decide (x.size ≤ 7)) = true := by decide +kernel
  intro x hx
  exact of_decide_eq_true (List.all_eq_true.1 h x hx)
theorem from04_draw {w : World} {c : Nat} {a : Option Addr} {len cap : Nat} (h : Cur w c a len cap) :
    Calls Tryz.prog 32 #[.pointer (some ⟨c, 0, none⟩), .int .i64 0, .int .i64 4] w fun e w' => ∃ x : Int, e = .returned (.int .i64 x) ∧ Cur w' c a len cap ∧ Keep c w w' := by
  have HC : Hid (Cur w c a len cap) := h
  clear h
  go_enter Tryz.func32, Tryz.ntmps32
  go_wp2_with fail
  refine (below_draw HC.out 5 (by omega) (by omega)).mono ?_
  rintro e w1 ⟨x, rfl, hx0, hx1, hc1, hk1⟩
  have C1 : Hid (Cur w1 c a len cap) := hc1
  go_wp2
  go_ret
  exact ⟨_, rfl, C1.out, hk1⟩
set_option maxRecDepth 100000 in
set_option maxHeartbeats 4000000 in
theorem toks_draw {w : World} {c : Nat} {a : Option Addr} {len cap : Nat} (h : Cur w c a len cap) :
    Calls Tryz.prog 16 #[.pointer (some ⟨c, 0, none⟩)] w fun e w' => ∃ v l, e = .returned v ∧ FewTok l ∧ DrawnTok w' w.heap.size v l ∧ Cur w' c a len cap ∧ Keep c w w' := by
  have hcw := h.lt
  have HC : Hid (Cur w c a len cap) := h
  clear h
  go_enter Tryz.func16, Tryz.ntmps16
  go_wp2_with fail
  refine (text_draw7 HC.out).mono ?_
  rintro e w1 ⟨t, rfl, ht, hc1, hk1⟩
  have C1 : Hid (Cur w1 c a len cap) := hc1
  clear hc1
  obtain ⟨l, b, hR⟩ : ∃ l b, toksR t = (l, b) := ⟨_, _, rfl⟩
  have HR : Hid (toksR t = (l, b)) := hR
  have HFew : Hid (FewTok l) := fewTok hR ht
  clear hR
  have hs1 := hk1.size
  go_wp2_with fail
  refine (tokensof_spec t _ l b HR.out (by omega)).mono ?_
  rintro e w2 ⟨v, rfl, hA, hb2⟩
  have hk2 : Keep c w w2 := hk1.trans (Keep.ofBelow hb2)
  have C2 : Hid (Cur w2 c a len cap) := C1.out.below hb2
  have hvn := hA.2
  have hcb : c < w1.heap.size := by omega
  obtain ⟨g, cq, rfl⟩ : ∃ g cq, v = .slice (some ⟨g, 0, none⟩) l.length cq := by
    rcases hA.1.2 with ⟨h', _⟩ | ⟨g, cq, cur, h', _⟩
    · exact absurd h' hvn
    · exact ⟨g, cq, h'⟩
  have O2 : Hid (w2.ownsRow w1.heap.size 33 5 (.slice (some ⟨g, 0, none⟩) l.length cq) l.length (flatTok l)) := hA.1
  have hgb := (hA.1.lt g rfl).1
  obtain ⟨n, hn⟩ : ∃ n, l.length = n := ⟨_, rfl⟩
  have HN : Hid (l.length = n) := hn
  have hn100 : n ≤ 100 := by rw [← hn]; exact HFew.out.1
  rw [hn]
  clear hA hb2 C1 hk1 HC hvn hn
  by_cases hn0 : n = 0
  · subst hn0
    have fin : Hid (DrawnTok w2 w.heap.size (.slice (some ⟨g, 0, none⟩) 0 cq) l) := ⟨g, cq, by rw [HN.out], by omega, ownTok O2.out⟩
    go_wp2
    go_ret
    exact ⟨_, l, rfl, HFew.out, fin.out, C2.out, hk2⟩
  have hnp : (0 : Int) < (n : Int) := by omega
  have hk02 : Keep c w w2 := hk2
  clear hk2
  go_wp2_with fail
  refine (once_draw C2.out 8 (by omega) (by omega)).mono ?_
  rintro e w3 ⟨bb, rfl, hc3, hk3⟩
  have C3 : Hid (Cur w3 c a len cap) := hc3
  have hk03 := hk02.trans hk3
  have O3 : Hid (w3.ownsRow w1.heap.size 33 5 (.slice (some ⟨g, 0, none⟩) l.length cq) l.length (flatTok l)) := own_keep O2.out hk3 hcb
  clear hc3 hk3 C2 O2
  cases bb
  · have fin : Hid (DrawnTok w3 w.heap.size (.slice (some ⟨g, 0, none⟩) n cq) l) := ⟨g, cq, by rw [HN.out], by omega, ownTok O3.out⟩
    go_wp2
    go_ret
    exact ⟨_, l, rfl, HFew.out, fin.out, C3.out, hk03⟩
  have hnw : wrap64 (n : Int) = (n : Int) := by unfold wrap64; omega
  go_wp2_with fail
  refine (below_draw C3.out (n : Int) (by omega) (by omega)).mono ?_
  rintro e w4 ⟨k, rfl, hkz, hkn, hc4, hk4⟩
  have C4 : Hid (Cur w4 c a len cap) := hc4
  have hk04 := hk03.trans hk4
  have O4 : Hid (w4.ownsRow w1.heap.size 33 5 (.slice (some ⟨g, 0, none⟩) l.length cq) l.length (flatTok l)) := own_keep O3.out hk4 hcb
  clear hc4 hk4 C3 O3
  obtain ⟨k, rfl⟩ : ∃ m : Nat, k = m := ⟨k.toNat, by omega⟩
  have hkl : Hid (k < l.length) := by have := HN.out; exact (show k < l.length by omega)
  go_wp2_with fail
  refine (below_draw C4.out 3 (by omega) (by omega)).mono ?_
  rintro e w5 ⟨x, rfl, hx0, hx1, hc5, hk5⟩
  have C5 : Hid (Cur w5 c a len cap) := hc5
  have hk05 := hk04.trans hk5
  have O5 : Hid (w5.ownsRow w1.heap.size 33 5 (.slice (some ⟨g, 0, none⟩) l.length cq) l.length (flatTok l)) := own_keep O4.out hk5 hcb
  clear hc5 hk5 C4 O4
  rcases (by omega : x = 0 ∨ x = 1 ∨ x = 2) with rfl | rfl | rfl
  · go_wp2_with fail
    refine (from04_draw C5.out).mono ?_
    rintro e w6 ⟨z, rfl, hc6, hk6⟩
    have C6 : Hid (Cur w6 c a len cap) := hc6
    have hk06 := hk05.trans hk6
    have O6 : Hid (w6.ownsRow w1.heap.size 33 5 (.slice (some ⟨g, 0, none⟩) l.length cq) l.length (flatTok l)) := own_keep O5.out hk6 hcb
    clear hc6 hk6 C5 O5
    have R6 : Hid (TokAt w6 (some ⟨g, 0, none⟩) l) := ownTok O6.out
    obtain ⟨b', o', eq, hgl, c0, c1, c2, c3, c4⟩ := R6.out k hkl.out
    simp only [Option.some.injEq, Addr.mk.injEq, and_true] at eq
    obtain ⟨rfl, rfl⟩ := eq
    rw [Nat.zero_add] at c0 c1 c2 c3 c4
    have f0 := O6.out.frozenAt (k * 5)
    have f1 := O6.out.frozenAt (k * 5 + 1)
    have f2 := O6.out.frozenAt (k * 5 + 2)
    have f3 := O6.out.frozenAt (k * 5 + 3)
    have f4 := O6.out.frozenAt (k * 5 + 4)
    clear O6
    have fin : Hid (DrawnTok (w6.setCell ⟨g, k * 5, none⟩ (.int .i64 z)) w.heap.size (.slice (some ⟨g, 0, none⟩) n cq) (l.set k (z, (l[k]'hkl.out).2))) := ⟨g, cq, by rw [List.length_set, HN.out], by omega, R6.out.set0 hkl.out z⟩
    have ff : Hid (FewTok (l.set k (z, (l[k]'hkl.out).2))) := HFew.out.set k _ (HFew.out.2 _ (List.getElem_mem hkl.out)).1 (HFew.out.2 _ (List.getElem_mem hkl.out)).2
    have cf : Hid (Cur (w6.setCell ⟨g, k * 5, none⟩ (.int .i64 z)) c a len cap) := C6.out.setAbove (by omega) _
    have kf : Hid (Keep c w (w6.setCell ⟨g, k * 5, none⟩ (.int .i64 z))) := hk06.setCell (.inr (show w.heap.size ≤ g by omega)) _
    clear R6 C6 hk06
    go_wp2
    go_ret
    exact ⟨_, _, rfl, ff.out, fin.out, cf.out, kf.out⟩
  · go_wp2_with fail
    refine (below_draw (C5.out.alloc (.cells (tokX.map Value.string).toArray 9)) 5 (by omega) (by omega)).mono ?_
    rintro e w6 ⟨z, rfl, hz0, hz1, hc6, hk6⟩
    have hcell : ∀ j, w6.cell? ⟨w5.heap.size, j, none⟩ = (w5.alloc (.cells (tokX.map Value.string).toArray 9)).cell? ⟨w5.heap.size, j, none⟩ := fun j => hk6.cell (by simp) (by have := C5.out.lt; omega)
    replace hk6 := ((Keep.refl c w5).alloc (.cells (tokX.map Value.string).toArray 9)).trans hk6
    have hs5 := hk6.size
    have C6 : Hid (Cur w6 c a len cap) := hc6
    have hk06 := hk05.trans hk6
    have O6 : Hid (w6.ownsRow w1.heap.size 33 5 (.slice (some ⟨g, 0, none⟩) l.length cq) l.length (flatTok l)) := own_keep O5.out hk6 hcb
    clear hc6 hk6 C5 O5
    have R6 : Hid (TokAt w6 (some ⟨g, 0, none⟩) l) := ownTok O6.out
    obtain ⟨b', o', eq, hgl, c0, c1, c2, c3, c4⟩ := R6.out k hkl.out
    simp only [Option.some.injEq, Addr.mk.injEq, and_true] at eq
    obtain ⟨rfl, rfl⟩ := eq
    rw [Nat.zero_add] at c0 c1 c2 c3 c4
    have f0 := O6.out.frozenAt (k * 5)
    have f1 := O6.out.frozenAt (k * 5 + 1)
    have f2 := O6.out.frozenAt (k * 5 + 2)
    have f3 := O6.out.frozenAt (k * 5 + 3)
    have f4 := O6.out.frozenAt (k * 5 + 4)
    clear O6
    obtain ⟨z, rfl⟩ : ∃ m : Nat, z = m := ⟨z.toNat, by omega⟩
    have hz : z < tokX.length := by rw [tokX_len]; omega
    have hu := tokX_size _ (List.getElem_mem hz)
    have hcz : w6.cell? ⟨w5.heap.size, z, none⟩ = some (.string (tokX[z]'hz)) := by
      rw [hcell]
      simp [hz]
    generalize (tokX[z]'hz) = u at hu hcz
    have hz5 : (z : Int) < 5 := by omega
    have hz00 : (0 : Int) ≤ (z : Int) := by omega
    clear hcell hz hz0 hz1
    have fin : Hid (DrawnTok (w6.setCell ⟨g, k * 5 + 1, none⟩ (.string u)) w.heap.size (.slice (some ⟨g, 0, none⟩) n cq) (l.set k ((l[k]'hkl.out).1, u, (l[k]'hkl.out).2.2))) := ⟨g, cq, by rw [List.length_set, HN.out], by omega, R6.out.set1 hkl.out u⟩
    have ff : Hid (FewTok (l.set k ((l[k]'hkl.out).1, u, (l[k]'hkl.out).2.2))) := HFew.out.set k _ (show u.size ≤ 1048576 by omega) (HFew.out.2 _ (List.getElem_mem hkl.out)).2
    have cf : Hid (Cur (w6.setCell ⟨g, k * 5 + 1, none⟩ (.string u)) c a len cap) := C6.out.setAbove (by omega) _
    have kf : Hid (Keep c w (w6.setCell ⟨g, k * 5 + 1, none⟩ (.string u))) := hk06.setCell (.inr (show w.heap.size ≤ g by omega)) _
    clear R6 C6 hk06
    go_wp2
    go_ret
    exact ⟨_, _, rfl, ff.out, fin.out, cf.out, kf.out⟩
  · go_wp2_with fail
    refine (any_draw C5.out).mono ?_
    rintro e w6 ⟨ck, cn, ct, rfl, hct, hc6, hk6⟩
    have C6 : Hid (Cur w6 c a len cap) := hc6
    have hk06 := hk05.trans hk6
    have O6 : Hid (w6.ownsRow w1.heap.size 33 5 (.slice (some ⟨g, 0, none⟩) l.length cq) l.length (flatTok l)) := own_keep O5.out hk6 hcb
    clear hc6 hk6 C5 O5
    have R6 : Hid (TokAt w6 (some ⟨g, 0, none⟩) l) := ownTok O6.out
    obtain ⟨b', o', eq, hgl, c0, c1, c2, c3, c4⟩ := R6.out k hkl.out
    simp only [Option.some.injEq, Addr.mk.injEq, and_true] at eq
    obtain ⟨rfl, rfl⟩ := eq
    rw [Nat.zero_add] at c0 c1 c2 c3 c4
    have f0 := O6.out.frozenAt (k * 5)
    have f1 := O6.out.frozenAt (k * 5 + 1)
    have f2 := O6.out.frozenAt (k * 5 + 2)
    have f3 := O6.out.frozenAt (k * 5 + 3)
    have f4 := O6.out.frozenAt (k * 5 + 4)
    clear O6
    have hw : w.heap.size ≤ g := by omega
    have fin : Hid (DrawnTok (((w6.setCell ⟨g, k * 5 + 2, none⟩ (.int .i64 ck)).setCell ⟨g, k * 5 + 3, none⟩ (.int .i64 cn)).setCell ⟨g, k * 5 + 4, none⟩ (.string ct)) w.heap.size (.slice (some ⟨g, 0, none⟩) n cq) (l.set k ((l[k]'hkl.out).1, (l[k]'hkl.out).2.1, ck, cn, ct))) := ⟨g, cq, by rw [List.length_set, HN.out], by omega, R6.out.set2 hkl.out ck cn ct⟩
    have ff : Hid (FewTok (l.set k ((l[k]'hkl.out).1, (l[k]'hkl.out).2.1, ck, cn, ct))) := HFew.out.set k _ (HFew.out.2 _ (List.getElem_mem hkl.out)).1 hct
    have cf : Hid (Cur (((w6.setCell ⟨g, k * 5 + 2, none⟩ (.int .i64 ck)).setCell ⟨g, k * 5 + 3, none⟩ (.int .i64 cn)).setCell ⟨g, k * 5 + 4, none⟩ (.string ct)) c a len cap) := ((C6.out.setAbove (by omega) _).setAbove (by omega) _).setAbove (by omega) _
    have kf : Hid (Keep c w (((w6.setCell ⟨g, k * 5 + 2, none⟩ (.int .i64 ck)).setCell ⟨g, k * 5 + 3, none⟩ (.int .i64 cn)).setCell ⟨g, k * 5 + 4, none⟩ (.string ct))) := ((hk06.setCell (.inr hw) _).setCell (.inr hw) _).setCell (.inr hw) _
    clear R6 C6 hk06
    go_wp2
    go_ret
    exact ⟨_, _, rfl, ff.out, fin.out, cf.out, kf.out⟩
end Go.Proofs.YtgiknjlifocioaaGreatDoor

/-
  The contracts of the model's three draws of stage 7.
-/
namespace Go.Proofs.YtgiknjlifocioaaGreatDoor
open Go.ChangeShapes Go.WideShapes Go.ChangeAt Go.RowKit
attribute [local go_sem ↓] Go.wp_at_zero Go.wp_at_succ
attribute [local simp] World.cell?_alloc_past World.cell?_alloc_at World.frozen?_alloc_at cell_far cell_off cell_here World.frozen?_alloc_past

theorem Tok5.keep {w w' : World} {B c : Nat} (h : Tok5 w B) (hk : Keep c w w') (hc : B ≠ c) : Tok5 w' B := by
  obtain ⟨h0, h1, h2, h3, h4, hB, f0, f1, f2, f3, f4⟩ := h
  have key : ∀ o, w'.cell? ⟨B, o, none⟩ = w.cell? ⟨B, o, none⟩ := fun o => hk.cell hB hc
  have fro : ∀ o, w'.frozen? ⟨B, o, none⟩ = w.frozen? ⟨B, o, none⟩ := fun o => hk.frozen hB hc
  have hs := hk.size
  exact ⟨(key _).trans h0, (key _).trans h1, (key _).trans h2, (key _).trans h3, (key _).trans h4, by omega, (fro _).trans f0, (fro _).trans f1, (fro _).trans f2, (fro _).trans f3, (fro _).trans f4⟩
theorem DrawnTok.lower {w : World} {base base' : Nat} {v : Value} {l : List TT} (h : DrawnTok w base v l) (hb : base' ≤ base) : DrawnTok w base' v l := by
  obtain ⟨g, cap, e, h1, h2⟩ := h
  exact ⟨g, cap, e, Nat.le_trans hb h1, h2⟩
theorem TokAt.keepC {w w' : World} {c g : Nat} {l : List TT} (h : TokAt w (some ⟨g, 0, none⟩) l) (hk : Keep c w w') (hg : g ≠ c) : TokAt w' (some ⟨g, 0, none⟩) l := by
  intro j hj
  obtain ⟨b, o, ha, hlt, c0, c1, c2, c3, c4⟩ := h j hj
  simp only [Option.some.injEq, Addr.mk.injEq, and_true] at ha
  obtain ⟨rfl, rfl⟩ := ha
  have key : ∀ q, w'.cell? ⟨g, q, none⟩ = w.cell? ⟨g, q, none⟩ := fun q => hk.cell hlt hg
  exact ⟨g, 0, rfl, Nat.lt_of_lt_of_le hlt hk.size, by rw [key]; exact c0, by rw [key]; exact c1, by rw [key]; exact c2, by rw [key]; exact c3, by rw [key]; exact c4⟩
theorem textof_draw {w : World} {a : Option Addr} {len cap : Nat} (hlen : len ≤ 4096)
    (row : ∀ j, j < len → ∃ (rb ro : Nat) (v : Int), a = some ⟨rb, ro, none⟩ ∧ rb < w.heap.size ∧ w.cell? ⟨rb, ro + j, none⟩ = some (.int .u8 v) ∧ 0 ≤ v ∧ v ≤ 255) :
    Calls Tryz.prog 5 #[.slice a len cap] w fun e w' => ∃ v l, e = .returned v ∧ FewTok l ∧ DrawnTok w' w.heap.size v l ∧ Below w.heap.size w w' := by
  have hR : Hid (∀ j, j < len → ∃ (rb ro : Nat) (v : Int), a = some ⟨rb, ro, none⟩ ∧ rb < w.heap.size ∧ w.cell? ⟨rb, ro + j, none⟩ = some (.int .u8 v) ∧ 0 ≤ v ∧ v ≤ 255) := row
  clear row
  go_enter Tryz.func5, Tryz.ntmps5
  go_wp2_with fail
  refine (new_draw hlen hR.out).mono ?_
  rintro e w1 ⟨c, rfl, hcs, hc1, hb1⟩
  go_wp2_with fail
  refine (toks_draw hc1).mono ?_
  rintro e w2 ⟨v, l, rfl, hf, hd, hc2, hk2⟩
  have hx2 : Below w.heap.size w w2 := hb1.trans (hk2.below hcs hb1.size)
  have HF : Hid (FewTok l) := hf
  have HD : Hid (DrawnTok w2 w.heap.size v l) := hd.lower hb1.size
  clear hf hd hc2 hk2 hc1 hb1
  go_wp2
  go_ret
  exact ⟨_, l, rfl, HF.out, HD.out, hx2⟩
set_option maxRecDepth 100000 in
set_option maxHeartbeats 2000000 in
theorem tokenok_draw {w : World} {a : Option Addr} {len cap : Nat} (hlen : len ≤ 4096)
    (row : ∀ j, j < len → ∃ (rb ro : Nat) (v : Int), a = some ⟨rb, ro, none⟩ ∧ rb < w.heap.size ∧ w.cell? ⟨rb, ro + j, none⟩ = some (.int .u8 v) ∧ 0 ≤ v ∧ v ≤ 255) :
    Calls Tryz.prog 9 #[.slice a len cap] w fun e w' => ∃ t : TT, e = .returned (.agg #[.int .i64 t.1, .string t.2.1, .int .i64 t.2.2.1, .int .i64 t.2.2.2.1, .string t.2.2.2.2]) ∧ t.2.1.size ≤ 1048576 ∧ t.2.2.2.2.size ≤ maxLen ∧ Below w.heap.size w w' := by
  have hR : Hid (∀ j, j < len → ∃ (rb ro : Nat) (v : Int), a = some ⟨rb, ro, none⟩ ∧ rb < w.heap.size ∧ w.cell? ⟨rb, ro + j, none⟩ = some (.int .u8 v) ∧ 0 ≤ v ∧ v ≤ 255) := row
  clear row
  obtain ⟨V, hV⟩ : ∃ V, V = w.alloc (.cells #[.int .i64 0, .string ⟨#[]⟩, .int .i64 0, .int .i64 0, .string ⟨#[]⟩] 33) := ⟨_, rfl⟩
  have hxV : Below w.heap.size w V := by rw [hV]; exact (Below.refl _ _).alloc (Nat.le_refl _) _
  have hT : Tok5 V w.heap.size := by rw [hV]; exact Tok5.new w
  have hBV : w.heap.size < V.heap.size := by rw [hV]; simp
  go_enter Tryz.func9, Tryz.ntmps9
  go_wp2_with fail
  rw [← hV]
  obtain ⟨B, hB⟩ : ∃ B, w.heap.size = B := ⟨_, rfl⟩
  have hw : w.heap.size ≤ B := by omega
  rw [hB] at hT hBV
  have HT : Hid (Tok5 V B) := hT
  have hR2 : Hid (∀ j, j < len → ∃ (rb ro : Nat) (v : Int), a = some ⟨rb, ro, none⟩ ∧ rb < V.heap.size ∧ V.cell? ⟨rb, ro + j, none⟩ = some (.int .u8 v) ∧ 0 ≤ v ∧ v ≤ 255) := by
    intro j hj
    obtain ⟨rb, ro, v, ha, hrb, hcell, hv⟩ := hR.out j hj
    exact ⟨rb, ro, v, ha, by omega, by rw [hxV.cell (p := ⟨rb, ro + j, none⟩) hrb]; exact hcell, hv⟩
  rw [hB]
  clear hT hV hB hR
  refine (new_draw hlen hR2.out).mono ?_
  rintro e w1 ⟨c, rfl, hcs, hc1, hb1⟩
  have T1 : Hid (Tok5 w1 B) := HT.out.below hb1
  have hx1 := hxV.trans (hb1.mono (by omega))
  have C1 : Hid (Cur w1 c a len cap) := hc1
  clear hc1 hb1 HT
  go_wp2_with fail
  refine (toks_draw C1.out).mono ?_
  rintro e w2 ⟨v, l, rfl, hf, hd, hc2, hk2⟩
  have T2 : Hid (Tok5 w2 B) := T1.out.keep hk2 (by omega)
  have hx2 : Below w.heap.size w w2 := hx1.trans (hk2.below (by omega) hx1.size)
  have C2 : Hid (Cur w2 c a len cap) := hc2
  have HF : Hid (FewTok l) := hf
  obtain ⟨g, cq, rfl, hgb, hrow⟩ := hd
  have HRW : Hid (TokAt w2 (some ⟨g, 0, none⟩) l) := hrow
  have hcl := C1.out.lt
  obtain ⟨n, hn⟩ : ∃ n, l.length = n := ⟨_, rfl⟩
  have HN : Hid (l.length = n) := hn
  have hn100 : n ≤ 100 := by rw [← hn]; exact hf.1
  rw [hn]
  clear hf hc2 hk2 T1 C1 hrow hn hx1
  by_cases hn0 : n = 0
  · subst hn0
    go_wp2_with fail
    refine (below_draw C2.out 3 (by omega) (by omega)).mono ?_
    rintro e w3 ⟨x, rfl, hx0, hx1, hc3, hk3⟩
    have T3 : Hid (Tok5 w3 B) := T2.out.keep hk3 (by omega)
    have hx3 : Below w.heap.size w w3 := hx2.trans (hk3.below (by omega) hx2.size)
    clear hc3 hk3 T2 C2 HRW
    obtain ⟨a0, a1, a2, a3, a4, aB, a5, a6, a7, a8, a9⟩ := T3.out
    go_wp2_with fail
    generalize hZ : (((((w3.setCell ⟨B, 0, none⟩ _).setCell ⟨B, 1, none⟩ _).setCell ⟨B, 2, none⟩ _).setCell ⟨B, 3, none⟩ _).setCell ⟨B, 4, none⟩ _) = Z
    obtain ⟨y0, y1, y2, y3, y4, yB⟩ := out5 _ _ _ _ _ ⟨a0, a1, a2, a3, a4, aB⟩ Z hZ.symm
    have hbZ : Below w.heap.size w Z := by rw [← hZ]; exact ((((hx3.setCell hw _).setCell hw _).setCell hw _).setCell hw _).setCell hw _
    refine bodyPost_ret (by simp [results, Tryz.results9, go_sem, y0, y1, y2, y3, y4]; try rfl) rfl ?_
    exact ⟨(_, ⟨#[]⟩, 0, 0, ⟨#[]⟩), rfl, Nat.zero_le _, Nat.zero_le _, hbZ⟩
  have hnp : ((n : Int) == 0) = false := by simpa using (show ¬ (n : Int) = 0 by omega)
  have hnw : wrap64 (n : Int) = (n : Int) := by unfold wrap64; omega
  go_wp2_with fail
  refine (below_draw C2.out (n : Int) (by omega) (by omega)).mono ?_
  rintro e w3 ⟨k, rfl, hkz, hkn, hc3, hk3⟩
  have T3 : Hid (Tok5 w3 B) := T2.out.keep hk3 (by omega)
  have hx3 : Below w.heap.size w w3 := hx2.trans (hk3.below (by omega) hx2.size)
  have R3 : Hid (TokAt w3 (some ⟨g, 0, none⟩) l) := HRW.out.keepC hk3 (by omega)
  obtain ⟨k, rfl⟩ : ∃ m : Nat, k = m := ⟨k.toNat, by omega⟩
  have hkl : k < l.length := by have := HN.out; omega
  obtain ⟨hf1, hf2⟩ := HF.out.2 _ (List.getElem_mem hkl)
  obtain ⟨b', o', eq, hgl, c0, c1, c2, c3, c4⟩ := R3.out k hkl
  simp only [Option.some.injEq, Addr.mk.injEq, and_true] at eq
  obtain ⟨rfl, rfl⟩ := eq
  rw [Nat.zero_add] at c0 c1 c2 c3 c4
  generalize l[k] = x at c0 c1 c2 c3 c4 hf1 hf2
  obtain ⟨xk, xs, xa, xb, xc⟩ := x
  dsimp only at c0 c1 c2 c3 c4 hf1 hf2
  have hkn' : (k : Int) < (n : Int) := hkn
  clear hc3 hk3 T2 C2 HRW R3 HN HF hkl
  obtain ⟨a0, a1, a2, a3, a4, aB, a5, a6, a7, a8, a9⟩ := T3.out
  go_wp2_with fail
  generalize hZ : (((((w3.setCell ⟨B, 0, none⟩ _).setCell ⟨B, 1, none⟩ _).setCell ⟨B, 2, none⟩ _).setCell ⟨B, 3, none⟩ _).setCell ⟨B, 4, none⟩ _) = Z
  obtain ⟨y0, y1, y2, y3, y4, yB⟩ := out5 _ _ _ _ _ ⟨a0, a1, a2, a3, a4, aB⟩ Z hZ.symm
  have hbZ : Below w.heap.size w Z := by rw [← hZ]; exact ((((hx3.setCell hw _).setCell hw _).setCell hw _).setCell hw _).setCell hw _
  refine bodyPost_ret (by simp [results, Tryz.results9, go_sem, y0, y1, y2, y3, y4]; try rfl) rfl ?_
  exact ⟨(xk, xs, xa, xb, xc), rfl, hf1, hf2, hbZ⟩
set_option maxRecDepth 100000 in
set_option maxHeartbeats 2000000 in
theorem tokensof_draw {w : World} {a : Option Addr} {len cap : Nat} (hlen : len ≤ 4096)
    (row : ∀ j, j < len → ∃ (rb ro : Nat) (v : Int), a = some ⟨rb, ro, none⟩ ∧ rb < w.heap.size ∧ w.cell? ⟨rb, ro + j, none⟩ = some (.int .u8 v) ∧ 0 ≤ v ∧ v ≤ 255) :
    Calls Tryz.prog 7 #[.slice a len cap] w fun e w' => ∃ t : ByteArray, e = .returned (.string t) ∧ t.size ≤ 3000 ∧ Below w.heap.size w w' := by
  have hR : Hid (∀ j, j < len → ∃ (rb ro : Nat) (v : Int), a = some ⟨rb, ro, none⟩ ∧ rb < w.heap.size ∧ w.cell? ⟨rb, ro + j, none⟩ = some (.int .u8 v) ∧ 0 ≤ v ∧ v ≤ 255) := row
  clear row
  go_enter Tryz.func7, Tryz.ntmps7
  go_wp2_with fail
  refine (new_draw hlen hR.out).mono ?_
  rintro e w1 ⟨c, rfl, hcs, hc1, hb1⟩
  go_wp2_with fail
  refine (once_draw hc1 40 (by omega) (by omega)).mono ?_
  rintro e w2 ⟨bb, rfl, hc2, hk2⟩
  have hx2 : Below w.heap.size w w2 := hb1.trans (hk2.below hcs hb1.size)
  have C2 : Hid (Cur w2 c a len cap) := hc2
  clear hc2 hk2 hc1 hb1
  cases bb
  · go_wp2_with fail
    refine (text_draw7 C2.out).mono ?_
    rintro e w3 ⟨t, rfl, ht, hc3, hk3⟩
    have hx3 : Below w.heap.size w w3 := hx2.trans (hk3.below hcs hx2.size)
    clear hc3 hk3
    go_wp2
    go_ret
    exact ⟨_, rfl, by omega, hx3⟩
  · go_wp2_with fail
    refine (below_draw C2.out 2 (by omega) (by omega)).mono ?_
    rintro e w3 ⟨x, rfl, hx0, hx1, hc3, hk3⟩
    have hx3 : Below w.heap.size w w3 := hx2.trans (hk3.below hcs hx2.size)
    clear hc3 hk3
    obtain ⟨x, rfl⟩ : ∃ m : Nat, x = m := ⟨x.toNat, by omega⟩
    obtain ⟨n, hn⟩ : ∃ n, 2000 + x = n := ⟨_, rfl⟩
    have hnI : 2000 + (x : Int) = (n : Int) := by omega
    have hn3 : n ≤ 3000 := by omega
    obtain ⟨i0, hti, hz0, hz1, hz2⟩ := info_parts infoByte
    clear hn hx0 hx1
    go_wp2_with (at_make; refine wpList_make_full _ rfl _ _ 22 rfl w.heap.size 5 i0 (.int .u8 0) 1 Tryz.underlying22 hti hz0 hz1 .i64 .i64 _ _ n rfl rfl (by omega) (by omega) (by rw [hz2]; omega) (by unfold maxLen; omega) hx3.size ?_)
    intro w4 hown hgrow
    have hx4 : Below w.heap.size w w4 := hx3.grown hgrow hx3.size (by intro k h; cases h)
    have e1 : (madeCells #[Value.int .u8 0] n).toList = u8s (List.replicate n 0) := by
      rw [toList_madeCells_one]
      unfold u8s
      rw [List.map_replicate]
      rfl
    rw [e1] at hown
    have hlen' : (List.replicate n (0 : UInt8)).length = n := List.length_replicate
    obtain ⟨g, cq, hv, hB⟩ := BRow.ofOwn (l := List.replicate n 0) (by rw [hlen']; exact hown) (by simp)
    simp only [Value.slice.injEq, Option.some.injEq, Addr.mk.injEq, and_true] at hv
    have hconv := back_bytes hB
    rw [hlen'] at hconv hv
    obtain ⟨rfl, _, rfl⟩ := hv
    have hts : (⟨(List.replicate n (0 : UInt8)).toArray⟩ : ByteArray).size ≤ 3000 := by
      show (List.replicate n (0 : UInt8)).toArray.size ≤ 3000
      rw [List.size_toArray, hlen']; exact hn3
    generalize (⟨(List.replicate n (0 : UInt8)).toArray⟩ : ByteArray) = t at hconv hts
    clear hown hgrow hB e1 hlen'
    go_wp2
    go_ret
    exact ⟨_, rfl, hts, hx4⟩
end Go.Proofs.YtgiknjlifocioaaGreatDoor

/-
  The contract of the model's TextOf.
-/
namespace Go.Proofs.YtgiknjlifocioaaGreatDoor
open Go.ChangeShapes Go.WideShapes Go.ChangeAt Go.RowKit
attribute [local go_sem ↓] Go.wp_at_zero Go.wp_at_succ
attribute [local simp] World.cell?_alloc_past World.cell?_alloc_at World.frozen?_alloc_at cell_far cell_off cell_here World.frozen?_alloc_past

theorem tokT_len {t : TT} (ht : tokB t = true) : (tokT t).length ≤ 14 := by
  rcases tokB_kind ht with ⟨s, rfl, hn⟩ | ⟨c, rfl, hc⟩ | ⟨s, rfl, hs⟩
  · unfold nameK nameB at hn
    simp only [Bool.and_eq_true, Bool.not_eq_true', decide_eq_true_eq] at hn
    obtain ⟨⟨h1, h2, h3⟩, _⟩ := hn
    rw [tokT_1, ← Lib.size_eq]
    omega
  · rw [tokT_2]
    obtain ⟨k, n, x⟩ := c
    exact l4T_len hc
  · rw [tokT_3]
    unfold signB at hs
    rw [Bool.or_eq_true] at hs
    rcases hs with hs | hs
    · have hm := inB_iff.1 hs
      simp only [signW, List.mem_cons, List.not_mem_nil, or_false] at hm
      rcases hm with rfl | rfl | rfl | rfl <;> decide
    · have hm := inB_iff.1 hs
      simp only [signO, List.mem_cons, List.not_mem_nil, or_false] at hm
      rcases hm with rfl | rfl | rfl | rfl | rfl | rfl | rfl | rfl <;> decide
def textsK (l : List TT) : List ByteArray := l.map fun t => ⟨(tokT t).toArray⟩
theorem textsK_snoc (l : List TT) (k : Nat) (h : k < l.length) : textsK (l.take (k + 1)) = textsK (l.take k) ++ [⟨(tokT l[k]).toArray⟩] := by
  unfold textsK; rw [List.take_succ_eq_append_getElem h, List.map_append]; rfl
theorem rawT_textsK (l : List TT) : rawT (textsK l) = l.map tokT := by
  unfold rawT textsK; rw [List.map_map]; rfl
theorem toksT_texts {l : List TT} (h : l.all tokB = true) : toksT l = ⟨(Lib.join (rawT (textsK l)) [32]).toArray⟩ := by
  unfold toksT; rw [if_pos h, rawT_textsK]
theorem textsK_14 {l : List TT} (h : l.all tokB = true) : ∀ x ∈ textsK l, x.size ≤ 14 := by
  intro x hx
  unfold textsK at hx
  obtain ⟨c, hc, rfl⟩ := List.mem_map.1 hx
  rw [Lib.size_eq, bytes_mk]
  exact tokT_len (List.all_eq_true.1 h c hc)
theorem textsK_length (l : List TT) : (textsK l).length = l.length := by unfold textsK; rw [List.length_map]
theorem l7_spec (t : TT) (ht : tokB t = true) (y : ByteArray) (hy : (⟨(tokT t).toArray⟩ : ByteArray) = y) (w : World) :
    Calls Tryz.prog 24 #[.agg #[.int .i64 t.1, .string t.2.1, .int .i64 t.2.2.1, .int .i64 t.2.2.2.1, .string t.2.2.2.2]] w fun e w' => e = .returned (.string y) ∧ Below w.heap.size w w' := by
  rcases tokB_kind ht with ⟨s, rfl, hn⟩ | ⟨⟨ck, cn, ct⟩, rfl, hc⟩ | ⟨s, rfl, hs⟩
  · rw [tokT_1] at hy
    obtain rfl : s = y := hy
    unfold zeroC
    dsimp only
    go_enter Tryz.func24, Tryz.ntmps24
    go_wp2
    go_ret
    exact ⟨rfl, by go_grown⟩
  · rw [tokT_2] at hy
    dsimp only
    have hA : Below w.heap.size w (w.alloc (.cells #[.int .i64 2, .string ⟨#[]⟩, .int .i64 ck, .int .i64 cn, .string ct] 33)) := (Below.refl _ _).alloc (Nat.le_refl _) _
    go_enter Tryz.func24, Tryz.ntmps24
    go_wp2_with fail
    refine (l4_spec ck cn ct hc y hy _).mono ?_
    rintro e w1 ⟨rfl, hb1⟩
    have hx := chain hA hb1
    go_wp2
    go_ret
    exact ⟨rfl, hx⟩
  · rw [tokT_3] at hy
    obtain rfl : s = y := hy
    unfold zeroC
    dsimp only
    go_enter Tryz.func24, Tryz.ntmps24
    go_wp2
    go_ret
    exact ⟨rfl, by go_grown⟩
theorem allK_snoc (l : List TT) (k : Nat) (h : k < l.length) : (l.take (k + 1)).all tokB = ((l.take k).all tokB && tokB l[k]) := by
  rw [List.take_succ_eq_append_getElem h, List.all_append]; simp
set_option maxRecDepth 100000 in
set_option maxHeartbeats 2000000 in
theorem textof_spec (a : Option Addr) (cap : Nat) (l : List TT) (n : Nat) (hn : l.length = n) (w : World) (hrow : TokAt w a l) (hfit : FitTok l) (hm : n ≤ 1048576) (y : ByteArray) (hy : toksT l = y) :
    Calls Tryz.prog 12 #[.slice a n cap] w fun e w' => e = .returned (.string y) ∧ Below w.heap.size w w' := by
  subst hn
  obtain ⟨i0, hti, hz0, hz1, hz2⟩ := info_parts infoStr
  have HR : Hid (TokAt w a l) := hrow
  have HF : Hid (FitTok l) := hfit
  have HY : Hid (toksT l = y) := hy
  clear hrow hfit hy
  have own0 : Hid ((w.alloc (.cells #[] 9)).ownsRow w.heap.size 9 1 (.slice (some ⟨w.heap.size, 0, none⟩) 0 0) (textsK (l.take 0)).length ((textsK (l.take 0)).map Value.string)) :=
    ⟨rfl, .inr ⟨w.heap.size, 0, #[], rfl, Nat.le_refl _, by show (w.heap.push _)[w.heap.size]? = _; simp, Nat.le_refl _, by unfold maxLen; omega, rfl, rfl⟩⟩
  have hb0 : Below w.heap.size w (w.alloc (.cells #[] 9)) := (Below.refl _ _).alloc (Nat.le_refl _) _
  go_enter Tryz.func12, Tryz.ntmps12
  go_wp2
  go_loopw [3, 4] (fun v kk wr => ∃ k : Nat, k ≤ l.length ∧ kk = .int .i64 k ∧ Hid ((l.take k).all tokB = true) ∧ Hid (wr.ownsRow w.heap.size 9 1 v (textsK (l.take k)).length ((textsK (l.take k)).map Value.string)) ∧ Below w.heap.size w wr ∧ v ≠ .slice none 0 0) (fun _ kk _ => l.length - (intOf kk).toNat)
  case atStart => exact ⟨0, Nat.zero_le _, rfl, rfl, own0, hb0, by simp⟩
  case round =>
    obtain ⟨k, hk, rfl, hall, hO, hb, hvn⟩ := hrel
    by_cases hlt : k < l.length
    · obtain ⟨g, o, rfl, hgw, c0, c1, c2, c3, c4⟩ := HR.out.below hb k hlt
      have hi0 : (0 : Int) ≤ (k : Int) := by omega
      have hi1 : (k : Int) < (l.length : Int) := by omega
      obtain ⟨hf1, hf2⟩ := HF.out k hlt
      have hsn := textsK_snoc l k hlt
      have hlen : (textsK (l.take k)).length = k := by rw [textsK_length, List.length_take]; omega
      obtain ⟨z, hz⟩ : ∃ z : ByteArray, (⟨(tokT l[k]).toArray⟩ : ByteArray) = z := ⟨_, rfl⟩
      have hsn2 : textsK (l.take (k + 1)) = textsK (l.take k) ++ [z] := by rw [hsn, ← hz]
      have HS : Hid (textsK (l.take (k + 1)) = textsK (l.take k) ++ [z]) := hsn2
      have hal := allK_snoc l k hlt
      rw [hall.out, Bool.true_and] at hal
      have HAL : Hid ((l.take (k + 1)).all tokB = tokB l[k]) := hal
      have hno : Hid (tokB l[k] = false → y = ⟨#[]⟩) := by
        have : tokB l[k] = false → y = ⟨#[]⟩ := by
          intro e
          rw [← HY.out]
          unfold toksT
          rw [if_neg]
          intro h
          rw [List.all_eq_true.1 h _ (List.getElem_mem hlt)] at e
          cases e
        exact this
      clear hsn hsn2 hal
      have hOO := hO.out
      rw [hlen] at hOO
      generalize textsK (l.take k) = xs at HS hOO hlen
      obtain ⟨r, hr⟩ : ∃ r, tokB l[k] = r := ⟨_, rfl⟩
      have HZ : Hid ((⟨(tokT l[k]).toArray⟩ : ByteArray) = z) := hz
      have HRR : Hid (tokB l[k] = r) := hr
      clear hz hr
      generalize l[k] = x at c0 c1 c2 c3 c4 hf1 hf2 HZ HRR HAL hno
      go_wp2_with fail
      refine (tok_spec x _ hf1 hf2 r HRR.out).mono ?_
      rintro e w0 ⟨rfl, hb0'⟩
      cases r
      · obtain rfl : y = ⟨#[]⟩ := hno.out HRR.out
        have hx0 := chain hb hb0'
        clear c0 c1 c2 c3 c4
        go_wp2
        go_ret
        exact ⟨rfl, hx0⟩
      rw [← hb0'.cell (p := ⟨g, _, none⟩) hgw] at c0 c1 c2 c3 c4
      have hx0 := chain hb hb0'
      have hOO0 := own_below hOO hb0'
      clear hb0' hOO hO hno
      go_wp2_with fail
      refine (l7_spec x HRR.out z HZ.out _).mono ?_
      rintro e w1 ⟨rfl, hb1⟩
      clear c0 c1 c2 c3 c4
      have O1 := own_below hOO0 hb1
      have hx := chain hx0 hb1
      clear hOO0 hx0
      go_wp2_with (at_builtin; refine wpList_append_own _ rfl _ _ 40 rfl w.heap.size 9 i0 (.string ⟨#[]⟩) 1 16 Tryz.underlying40 hti hz0 hz1 hz2 rfl (by decide) _ _ _ rfl (O1.alloc _) ⟨w1.heap.size, 0, none⟩ 1 1 [.string z] rfl rfl ?c1 ?c2 ?c3 ?c4 ?c5 ?_)
      case c1 =>
        intro j u hj
        match j, hj with
        | 0, hj => simp at hj; subst hj; simp [Addr.add]
      case c2 => intro u hu; simp at hu; subst hu; rfl
      case c3 => unfold maxLen; omega
      case c4 => omega
      case c5 => have := hx.size; simp; omega
      intro v' w2 own2 hgrow hnn
      have hx2 : Below w.heap.size w w2 := by
        refine (hx.alloc hx.size _).grown hgrow (by have := hx.size; simp; omega) ?_
        intro kk hkk
        exact (O1.lt kk hkk).1
      have hvn2 : v' ≠ .slice none 0 0 := by first | exact hnn | exact fun e => hvn (hnn.1 e).1
      have SS : Hid (w2.ownsRow w.heap.size 9 1 v' (textsK (l.take (k + 1))).length ((textsK (l.take (k + 1))).map Value.string)) := by
        have : w2.ownsRow w.heap.size 9 1 v' (textsK (l.take (k + 1))).length ((textsK (l.take (k + 1))).map Value.string) := by
          rw [HS.out, List.length_append, hlen, List.map_append]; exact own2
        exact this
      clear own2 hgrow hnn O1
      go_wp2
      go_roundw
      case rel => exact ⟨k + 1, by omega, by go_num, HAL.out.trans HRR.out, SS, hx2, hvn2⟩
      case measure => simp [intOf]; omega
    · have hkl : k = l.length := by omega
      subst hkl
      have hi1 : ¬ (l.length : Int) < (l.length : Int) := by omega
      have hA := hall.out
      rw [List.take_length] at hA
      have hOO := hO.out
      rw [List.take_length] at hOO
      rcases hOO.2 with ⟨h', _⟩ | ⟨g, c, cur, h', hbg, _⟩
      · exact absurd h' hvn
      subst h'
      have HT : Hid (TextsAt wr g (textsK l)) := texts_own hOO
      have H14 : Hid (∀ x ∈ textsK l, x.size ≤ 14) := textsK_14 hA
      have HY2 : Hid ((⟨(Lib.join (rawT (textsK l)) [32]).toArray⟩ : ByteArray) = y) := by
        have : (⟨(Lib.join (rawT (textsK l)) [32]).toArray⟩ : ByteArray) = y := by rw [← HY.out, toksT_texts hA]
        exact this
      have HL : Hid ((textsK l).length ≤ 1048576) := by
        have : (textsK l).length ≤ 1048576 := by rw [textsK_length]; omega
        exact this
      clear hOO hO hA
      go_wp2_with fail
      refine (words_spec g c (textsK l) _ HT.out HL.out H14.out y HY2.out).mono ?_
      rintro e w2 ⟨rfl, rfl⟩
      go_wp2
      go_ret
      exact ⟨rfl, hb⟩
end Go.Proofs.YtgiknjlifocioaaGreatDoor
