/-
  A part of the proof: Rank4, Lists5, Lists6, Lists7, Lists8, Rank5, Lists9, TakenX, ShHas, Tab3.
-/
import Derived.Test.YtjiaciikbnpicaaGreatDoorPart7
import Derived.Test.YtjiaciikbnpicaaGreatDoorPart4
import Derived.Laws.IdiomStrings
import Derived.Laws.Concat

/-
  The contract of the model's helper that takes rows over: new memory, a block for each row.
-/
namespace Go.Proofs.YtjiaciikbnpicaaGreatDoor
open Go.ChangeShapes Go.WideShapes Go.ChangeAt Go.RowKit
attribute [local go_sem ↓] Go.wp_at_zero Go.wp_at_succ

/-- The head of the i-th row. -/
def headOf (G C : Nat → Nat) (L : List (List CT)) (i : Nat) : Value := .slice (some ⟨G i, 0, none⟩) (L.getD i []).length (C i)
/-- Rows that lie in memory of their own: the heads in one block, each row in another. -/
structure OwnRows (w : World) (base : Nat) (v : Value) (L : List (List CT)) (G C : Nat → Nat) : Prop where
  outer : w.ownsRow base 112 1 v L.length ((List.range L.length).map (headOf G C L))
  inner : ∀ i, i < L.length → w.ownsRow base 114 3 (headOf G C L i) (L.getD i []).length (flat (L.getD i []))
  apart : ∀ i j, i < L.length → j < L.length → i ≠ j → G i ≠ G j

theorem OwnRows.below {w w' : World} {base : Nat} {v : Value} {L : List (List CT)} {G C : Nat → Nat} (h : OwnRows w base v L G C) (hb : Below w.heap.size w w') : OwnRows w' base v L G C :=
  ⟨own_below h.outer hb, fun i hi => own_below (h.inner i hi) hb, h.apart⟩

/-- The block of a row is none of the heads'. -/
theorem own_other {w : World} {base b2 n m sz sz2 : Nat} {e e2 : TypeId} {v : Value} {g c : Nat} {xs ys : List Value} (h : w.ownsRow base e sz v n xs) (k : w.ownsRow b2 e2 sz2 (.slice (some ⟨g, 0, none⟩) m c) m ys) (he : e ≠ e2) : v.ownBlock ≠ some g := by
  rcases h.2 with ⟨rfl, _⟩ | ⟨g1, c1, cur, rfl, _, hg, _⟩
  · simp [Value.ownBlock]
  · rcases k.2 with ⟨h', _⟩ | ⟨g2, c2, cur2, h', _, hg2, _⟩
    · simp at h'
    · simp only [Value.slice.injEq, Option.some.injEq, Addr.mk.injEq, and_true, true_and] at h'
      obtain ⟨rfl, rfl⟩ := h'
      intro hh
      simp only [Value.ownBlock, Option.some.injEq] at hh
      subst hh
      rw [hg] at hg2
      simp at hg2
      exact he hg2.2

theorem own_base {w : World} {b1 b2 n sz : Nat} {e : TypeId} {v : Value} {xs : List Value} (h : w.ownsRow b1 e sz v n xs) (hle : b2 ≤ b1) : w.ownsRow b2 e sz v n xs := by
  refine ⟨h.1, ?_⟩
  rcases h.2 with h' | ⟨g, cap, cur, h', hbg, hr⟩
  · exact .inl h'
  · exact .inr ⟨g, cap, cur, h', Nat.le_trans hle hbg, hr⟩

/-- One row more: its head is appended. -/
theorem OwnRows.step {w w1 w2 : World} {base : Nat} {v v' : Value} {L : List (List CT)} {G C : Nat → Nat} {x : List CT} {g c : Nat} {o : Obj} (h : OwnRows w base v L G C) (hb : Below w.heap.size w w1) (hg : w.heap.size ≤ g)
    (own : w1.ownsRow base 114 3 (.slice (some ⟨g, 0, none⟩) x.length c) x.length (flat x))
    (own2 : w2.ownsRow base 112 1 v' (L.length + 1) ((List.range L.length).map (headOf G C L) ++ [.slice (some ⟨g, 0, none⟩) x.length c])) (hgr : (w1.alloc o).grownBy w2 v.ownBlock) :
    ∃ G' C', OwnRows w2 base v' (L ++ [x]) G' C' := by
  have h1 := h.below hb
  have hlt : ∀ i, i < L.length → G i < w.heap.size := by
    intro i hi
    rcases (h.inner i hi).2 with ⟨h', _⟩ | ⟨g2, c2, cur2, h', _, hg2, _⟩
    · simp [headOf] at h'
    · simp only [headOf, Value.slice.injEq, Option.some.injEq, Addr.mk.injEq, and_true, true_and] at h'
      obtain ⟨rfl, rfl⟩ := h'
      by_cases hl : G i < w.heap.size
      · exact hl
      · rw [Array.getElem?_eq_none (by omega)] at hg2; cases hg2
  have he : (112 : TypeId) ≠ 114 := by decide
  have hd : ∀ i, i < L.length → (L ++ [x]).getD i [] = L.getD i [] := by
    intro i hi
    simp [List.getD, List.getElem?_append_left hi]
  have hdl : (L ++ [x]).getD L.length [] = x := by simp [List.getD]
  refine ⟨fun i => if i = L.length then g else G i, fun i => if i = L.length then c else C i, ?_, ?_, ?_⟩
  · have e1 : (L ++ [x]).length = L.length + 1 := by simp
    rw [e1, List.range_succ, List.map_append]
    have e2 : (List.range L.length).map (headOf (fun i => if i = L.length then g else G i) (fun i => if i = L.length then c else C i) (L ++ [x])) = (List.range L.length).map (headOf G C L) := by
      refine List.map_congr_left fun i hi => ?_
      have hi' : i < L.length := by simpa using hi
      have hne : i ≠ L.length := by omega
      simp only [headOf, if_neg hne, hd i hi']
    have e3 : [L.length].map (headOf (fun i => if i = L.length then g else G i) (fun i => if i = L.length then c else C i) (L ++ [x])) = [.slice (some ⟨g, 0, none⟩) x.length c] := by
      simp only [List.map_cons, List.map_nil, headOf, if_true, hdl]
    rw [e2, e3]; exact own2
  · intro i hi
    by_cases hil : i = L.length
    · subst hil
      rw [hdl]
      have := own.alloc o
      have k := this.kept hgr (.inr (by simp only [Value.ownBlock]; exact (own_other (h1.outer.alloc o) this he).symm))
      simpa only [headOf, if_true, hdl] using k
    · have hi' : i < L.length := by simp at hi; omega
      rw [hd i hi']
      have := (h1.inner i hi').alloc o
      have k := this.kept hgr (.inr (by simp only [headOf, Value.ownBlock]; exact (own_other (h1.outer.alloc o) this he).symm))
      simpa only [headOf, if_neg hil, hd i hi'] using k
  · intro i j hi hj hij
    have hi2 : i < L.length + 1 := by simpa using hi
    have hj2 : j < L.length + 1 := by simpa using hj
    by_cases e1 : i = L.length
    · have e2 : j ≠ L.length := by omega
      have := hlt j (by omega)
      simp only [if_pos e1, if_neg e2]; omega
    · by_cases e2 : j = L.length
      · have := hlt i (by omega)
        simp only [if_neg e1, if_pos e2]; omega
      · simp only [if_neg e1, if_neg e2]; exact h.apart i j (by omega) (by omega) hij

end Go.Proofs.YtjiaciikbnpicaaGreatDoor

/-
  The text that the law's helper writes to mark a cell: what it is hangs on its number alone.
-/
namespace Go.Proofs.YtjiaciikbnpicaaGreatDoor
open Go.ChangeShapes Go.WideShapes Go.ChangeAt Go.RowKit
attribute [local go_sem ↓] Go.wp_at_zero Go.wp_at_succ

/-- The last digit of k, as a byte. -/
def dig (k : Nat) : UInt8 := UInt8.ofNat (48 + k % 10)
theorem dig_nat (k : Nat) : (dig k).toNat = 48 + k % 10 := by unfold dig; rw [UInt8.toNat_ofNat']; omega
/-- The digits of k ahead of what is there. -/
def digs : Nat → Nat → ByteArray → ByteArray
  | 0, _, out => out
  | f + 1, k, out => if k = 0 then out else digs f (k / 10) (⟨#[dig k]⟩ ++ out)
/-- The text that marks k. -/
def mt (k : Nat) : ByteArray := ⟨#[109]⟩ ++ digs k k ⟨#[]⟩

theorem digs_step (m : Nat) (out : ByteArray) (h : 0 < m) : digs m m out = digs (m / 10) (m / 10) (⟨#[dig m]⟩ ++ out) := by
  have fuel : ∀ (k f g : Nat) (out : ByteArray), k ≤ f → k ≤ g → digs f k out = digs g k out := by
    intro k
    induction k using Nat.strongRecOn with
    | _ k ih =>
      intro f g out hf hg
      cases f with
      | zero =>
        have : k = 0 := by omega
        subst this
        cases g <;> simp [digs]
      | succ f =>
        cases g with
        | zero =>
          have : k = 0 := by omega
          subst this
          simp [digs]
        | succ g =>
          by_cases hk : k = 0
          · simp [digs, hk]
          · rw [digs, digs, if_neg hk, if_neg hk]
            exact ih (k / 10) (by omega) f g _ (by omega) (by omega)
  cases m with
  | zero => omega
  | succ m =>
    rw [digs, if_neg (by omega)]
    exact fuel _ _ _ _ (by omega) (by omega)

set_option maxRecDepth 100000 in
set_option maxHeartbeats 1000000 in
theorem text_laws (k : Nat) (w : World) (h0 : 0 < k) (h1 : k ≤ 1099511627776) :
    Calls Tryz.prog 52 #[.int .i64 k] w fun e w' => e = .returned (.string (mt k)) ∧ Below w.heap.size w w' := by
  go_enter Tryz.func52, Tryz.ntmps52
  go_wp2
  go_loopw [0, 3] (fun s o wr => ∃ (m : Nat) (out : ByteArray), s = .int .i64 m ∧ o = .string out ∧ m ≤ k ∧ out.size + m ≤ k ∧ digs m m out = digs k k ⟨#[]⟩ ∧ Below w.heap.size w wr)
    (fun s _ _ => (intOf s).toNat)
  case atStart => exact ⟨k, ⟨#[]⟩, rfl, rfl, Nat.le_refl _, by show 0 + k ≤ k; omega, rfl, Below.refl _ _⟩
  case round =>
    obtain ⟨m, out, rfl, rfl, hmk, hsz, hd, hb⟩ := hrel
    by_cases hm : 0 < m
    · have hcv : (convert 22 9 (.slice (some ⟨wr.heap.size, 0, none⟩) 1 1)).run Tryz.prog (wr.alloc (.cells #[.int .u8 (48 + (m : Int) % 10)] 5)) = .ok (.string ⟨#[dig m]⟩) (wr.alloc (.cells #[.int .u8 (48 + (m : Int) % 10)] 5)) := by
        refine run_convert_bytes_back _ _ _ 5 _ 1 [dig m] Tryz.underlying22 Tryz.underlying5 Tryz.underlying9 ?_
        intro j hj
        have hj0 : j = 0 := by simpa using hj
        subst hj0
        have hn := dig_nat m
        simp only [List.getElem_cons_zero, hn]
        simp [Addr.add, go_sem]
      have hadd : ∀ (x : UInt8) (w : World), (Op.stringOp .add ⟨#[x]⟩ out).run Tryz.prog w = .ok (.string (⟨#[x]⟩ ++ out)) w := fun x w => run_string_add_sum w _ _ (by show 1 + out.size ≤ 9223372036854775807; omega)
      have hbs := hb.size
      go_wp2
      go_roundw
      case rel =>
        refine ⟨m / 10, ⟨#[dig m]⟩ ++ out, by go_num, rfl, by omega, ?_, ?_, by go_grown⟩
        · rw [ByteArray.size_append]; show 1 + out.size + m / 10 ≤ k; omega
        · rw [← digs_step m out hm]; exact hd
      case measure => simp [intOf]; omega
    · have hm0 : m = 0 := by omega
      subst hm0
      have hadd : ∀ (w : World), (Op.stringOp .add ⟨#[109]⟩ out).run Tryz.prog w = .ok (.string (⟨#[109]⟩ ++ out)) w := fun w => run_string_add_sum w _ _ (by show 1 + out.size ≤ 9223372036854775807; omega)
      go_wp2
      go_ret
      refine ⟨?_, hb⟩
      rw [mt, ← hd]; rfl

theorem text_lawsN (k : Nat) (n : Int) (hn : n = (k : Int)) (w : World) (h0 : 0 < k) (h1 : k ≤ 1099511627776) :
    Calls Tryz.prog 52 #[.int .i64 n] w fun e w' => e = .returned (.string (mt k)) ∧ Below w.heap.size w w' := by
  subst hn; exact text_laws k w h0 h1

end Go.Proofs.YtjiaciikbnpicaaGreatDoor

/-
  The contracts of the law's helpers that mark the cells of a list, one number behind the other, and that look whether the marks are still there.
-/
namespace Go.Proofs.YtjiaciikbnpicaaGreatDoor
open Go.ChangeShapes Go.WideShapes Go.ChangeAt Go.RowKit
attribute [local go_sem ↓] Go.wp_at_zero Go.wp_at_succ

/-- The i-th mark from k on. -/
def mark1 (k i : Nat) : CT := (((k + 3 * i : Nat) : Int), ((k + 3 * i + 1 : Nat) : Int), mt (k + 3 * i + 2))
/-- The marks of a list of n cells. -/
def marks (k n : Nat) : List CT := (List.range n).map (mark1 k)
theorem marks_length (k n : Nat) : (marks k n).length = n := by simp [marks]
theorem marks_step (k : Nat) (l : List CT) (i : Nat) (h : i < l.length) : (marks k i ++ l.drop i).set i (mark1 k i) = marks k (i + 1) ++ l.drop (i + 1) := by
  rw [List.set_append_right _ _ (by rw [marks_length]; omega), marks_length, Nat.sub_self]
  have e : l.drop i = l[i] :: l.drop (i + 1) := List.drop_eq_getElem_cons h
  rw [e, List.set_cons_zero]
  simp [marks, List.range_succ]

/-- The cells of a slice may be written. -/
def Free (w : World) (a : Option Addr) (n : Nat) : Prop := ∀ b o, a = some ⟨b, o, none⟩ → ∀ j, j < n * 3 → w.frozen? ⟨b, o + j, none⟩ = false
/-- The block in which a slice of n cells lies, where it has one. -/
def inBlk (a : Option Addr) (n b : Nat) : Prop := 0 < n ∧ ∃ o, a = some ⟨b, o, none⟩

theorem RowAt.upd {w w' : World} {b o : Nat} {l : List CT} {i : Nat} {x : CT} (h : RowAt w (some ⟨b, o, none⟩) l) (hs : w.heap.size ≤ w'.heap.size)
    (hfar : ∀ q, q ≠ o + i * 3 → q ≠ o + i * 3 + 1 → q ≠ o + i * 3 + 2 → w'.cell? ⟨b, q, none⟩ = w.cell? ⟨b, q, none⟩)
    (h0 : w'.cell? ⟨b, o + i * 3, none⟩ = some (.int .i64 x.1)) (h1 : w'.cell? ⟨b, o + i * 3 + 1, none⟩ = some (.int .i64 x.2.1)) (h2 : w'.cell? ⟨b, o + i * 3 + 2, none⟩ = some (.string x.2.2)) :
    RowAt w' (some ⟨b, o, none⟩) (l.set i x) := by
  intro j hj
  have hj' : j < l.length := by simpa using hj
  obtain ⟨b', o', e, hlt, c0, c1, c2⟩ := h j hj'
  cases e
  refine ⟨b, o, rfl, Nat.lt_of_lt_of_le hlt hs, ?_⟩
  by_cases hij : i = j
  · subst hij
    rw [List.getElem_set_self]
    exact ⟨h0, h1, h2⟩
  · rw [List.getElem_set_ne hij]
    refine ⟨?_, ?_, ?_⟩
    · rw [hfar _ (by omega) (by omega) (by omega)]; exact c0
    · rw [hfar _ (by omega) (by omega) (by omega)]; exact c1
    · rw [hfar _ (by omega) (by omega) (by omega)]; exact c2

theorem Free.upd {w w' : World} {a : Option Addr} {n : Nat} (h : Free w a n) (hf : ∀ b o q, a = some ⟨b, o, none⟩ → w'.frozen? ⟨b, q, none⟩ = w.frozen? ⟨b, q, none⟩) : Free w' a n :=
  fun b o e j hj => by rw [hf b o _ e]; exact h b o e j hj

set_option maxHeartbeats 2000000 in
theorem mark_laws (a : Option Addr) (cap : Nat) (l : List CT) (k : Nat) (w : World) (hrow : RowAt w a l) (hfree : Free w a l.length) (h0 : 0 < k) (h1 : k + 3 * l.length ≤ 1099511627776) :
    Calls Tryz.prog 79 #[.slice a l.length cap, .int .i64 k] w fun e w' => e = .returned (.int .i64 ((k + 3 * l.length : Nat) : Int)) ∧ RowAt w' a (marks k l.length) ∧ Free w' a l.length ∧ KeepS (inBlk a l.length) w w' := by
  have hR : Hid (RowAt w a l) := hrow
  have hF : Hid (Free w a l.length) := hfree
  clear hrow hfree
  go_enter Tryz.func79, Tryz.ntmps79
  go_wp2
  go_loopw [1, 5] (fun s i wr => ∃ m : Nat, m ≤ l.length ∧ i = .int .i64 m ∧ s = .int .i64 ((k + 3 * m : Nat) : Int) ∧ Hid (RowAt wr a (marks k m ++ l.drop m)) ∧ Hid (Free wr a l.length) ∧ KeepS (inBlk a l.length) w wr)
    (fun _ i _ => l.length - (intOf i).toNat)
  case atStart => exact ⟨0, Nat.zero_le _, rfl, by simp, by simpa [marks] using hR, hF, KeepS.refl _ _⟩
  case round =>
    obtain ⟨m, hm, rfl, rfl, hr, hf, hkp⟩ := hrel
    by_cases hlt : m < l.length
    · have hl2 : m < (marks k m ++ l.drop m).length := by rw [List.length_append, marks_length, List.length_drop]; omega
      obtain ⟨b, o, rfl, hbw, c0, c1, c2⟩ := hr.out m hl2
      generalize (marks k m ++ l.drop m)[m] = x at c0 c1 c2
      have hi0 : (0 : Int) ≤ (m : Int) := by omega
      have hi1 : (m : Int) < (l.length : Int) := by omega
      have f0 := hf.out b o rfl (m * 3) (by omega)
      have f1 := hf.out b o rfl (m * 3 + 1) (by omega)
      have f2 := hf.out b o rfl (m * 3 + 2) (by omega)
      rw [← Nat.add_assoc] at f1 f2
      go_wp2_with fail
      refine (text_lawsN (k + 3 * m + 2) _ (by omega) _ (by omega) (by omega)).mono ?_
      rintro e w2 ⟨rfl, hb2⟩
      have g2 : w2.cell? ⟨b, o + m * 3 + 2, none⟩ = some (.string x.2.2) := by
        rw [hb2.cell (p := ⟨b, o + m * 3 + 2, none⟩) (by simpa using hbw), cell_off _ _ _ _ _ (by omega), cell_off _ _ _ _ _ (by omega)]; exact c2
      have e2 : w2.frozen? ⟨b, o + m * 3 + 2, none⟩ = false := by
        rw [hb2.frozen (p := ⟨b, o + m * 3 + 2, none⟩) (by simpa using hbw)]; simpa using f2
      go_wp2
      go_roundw
      case rel =>
        have hsz : wr.heap.size ≤ w2.heap.size := by have := hb2.size; simpa using this
        refine ⟨m + 1, by omega, by go_num, by go_num, ?_, ?_, ?_⟩
        · show RowAt _ _ _
          rw [← marks_step k l m hlt]
          refine hr.out.upd (by simpa using hsz) ?_ ?_ ?_ ?_
          · intro q q0 q1 q2
            rw [cell_off _ _ _ _ _ q2, hb2.cell (p := ⟨b, q, none⟩) (by simpa using hbw), cell_off _ _ _ _ _ q1, cell_off _ _ _ _ _ q0]
          · rw [cell_off _ _ _ _ _ (by omega), hb2.cell (p := ⟨b, _, none⟩) (by simpa using hbw), cell_off _ _ _ _ _ (by omega), cell_here _ _ _ _ (by rw [c0]; rfl)]
            simp [mark1]
          · rw [cell_off _ _ _ _ _ (by omega), hb2.cell (p := ⟨b, _, none⟩) (by simpa using hbw), cell_here _ _ _ _ (by rw [cell_off _ _ _ _ _ (by omega), c1]; rfl)]
            simp [mark1]
          · rw [cell_here _ _ _ _ (by rw [g2]; rfl)]
            simp [mark1]
        · show Free _ _ _
          refine hf.out.upd ?_
          intro b' o' q e
          cases e
          rw [World.frozen?_setCell, hb2.frozen (p := ⟨b, q, none⟩) (by simpa using hbw), World.frozen?_setCell, World.frozen?_setCell]
        · have r := (hkp.setCell (p := ⟨b, o + m * 3, none⟩) ⟨by omega, o, rfl⟩ (.int .i64 ((k : Int) + 3 * (m : Int)))).setCell (p := ⟨b, o + m * 3 + 1, none⟩) ⟨by omega, o, rfl⟩ (.int .i64 ((k : Int) + 3 * (m : Int) + 1))
          exact (r.trans (KeepS.ofBelow hb2)).setCell (p := ⟨b, o + m * 3 + 2, none⟩) ⟨by omega, o, rfl⟩ _
      case measure => simp [intOf]; omega
    · have hkl : m = l.length := by omega
      subst hkl
      rw [List.drop_length, List.append_nil] at hr
      go_wp2
      go_ret
      exact ⟨rfl, hr.out, hf.out, hkp⟩

end Go.Proofs.YtjiaciikbnpicaaGreatDoor

/-
  The contract of the law's helper that looks whether the marks of a list of cells are still there.
-/
namespace Go.Proofs.YtjiaciikbnpicaaGreatDoor
open Go.ChangeShapes Go.WideShapes Go.ChangeAt Go.RowKit
attribute [local go_sem ↓] Go.wp_at_zero Go.wp_at_succ

end Go.Proofs.YtjiaciikbnpicaaGreatDoor

/-
  The contracts of the law's helpers that mark the cells of a list of lists, and that look whether the marks are still there.
-/
namespace Go.Proofs.YtjiaciikbnpicaaGreatDoor
open Go.ChangeShapes Go.WideShapes Go.ChangeAt Go.RowKit
attribute [local go_sem ↓] Go.wp_at_zero Go.wp_at_succ

/-- How many cells lie ahead of the i-th list. -/
def offs (L : List (List CT)) (i : Nat) : Nat := ((L.take i).map List.length).sum
theorem offs_step (L : List (List CT)) (i : Nat) (h : i < L.length) : offs L (i + 1) = offs L i + L[i].length := by
  unfold offs
  rw [List.take_succ_eq_append_getElem h, List.map_append, List.sum_append]; simp
theorem offs_le (L : List (List CT)) (i : Nat) : offs L i ≤ offs L L.length := by
  unfold offs
  rw [List.take_length]
  conv => rhs; rw [← List.take_append_drop i L, List.map_append, List.sum_append]
  omega

/-- The heads of the lists lie where the slice says. -/
def HeadsAt (w : World) (a : Option Addr) (L : List (List CT)) (A : Nat → Option Addr) (C : Nat → Nat) : Prop :=
  ∀ i (h : i < L.length), ∃ b o, a = some ⟨b, o, none⟩ ∧ b < w.heap.size ∧ w.cell? ⟨b, o + i, none⟩ = some (.slice (A i) L[i].length (C i))
/-- No two lists that have cells share a block, and none shares one with the heads. -/
structure Apart (a : Option Addr) (L : List (List CT)) (A : Nat → Option Addr) : Prop where
  heads : ∀ i (h : i < L.length) b o, a = some ⟨b, o, none⟩ → ¬ inBlk (A i) L[i].length b
  rows : ∀ i j (hi : i < L.length) (hj : j < L.length) b, i ≠ j → inBlk (A i) L[i].length b → ¬ inBlk (A j) L[j].length b

theorem RowAt.keepS {P : Nat → Prop} {w w' : World} {a : Option Addr} {l : List CT} (h : RowAt w a l) (hk : KeepS P w w') (hP : ∀ b, inBlk a l.length b → ¬ P b) : RowAt w' a l := by
  intro j hj
  obtain ⟨b, o, ha, hlt, h0, h1, h2⟩ := h j hj
  have hn := hP b ⟨by omega, o, ha⟩
  exact ⟨b, o, ha, Nat.lt_of_lt_of_le hlt hk.size, by rw [hk.cell hlt hn]; exact h0, by rw [hk.cell hlt hn]; exact h1, by rw [hk.cell hlt hn]; exact h2⟩
theorem Free.keepS {P : Nat → Prop} {w w' : World} {a : Option Addr} {l : List CT} (hf : Free w a l.length) (h : RowAt w a l) (hk : KeepS P w w') (hP : ∀ b, inBlk a l.length b → ¬ P b) : Free w' a l.length := by
  intro b o ha j hj
  obtain ⟨b', o', ha', hlt, _⟩ := h 0 (by omega)
  rw [ha] at ha'
  cases ha'
  rw [hk.frozen hlt (hP b ⟨by omega, o, ha⟩)]
  exact hf b o ha j hj
theorem HeadsAt.keepS {P : Nat → Prop} {w w' : World} {a : Option Addr} {L : List (List CT)} {A : Nat → Option Addr} {C : Nat → Nat} (h : HeadsAt w a L A C) (hk : KeepS P w w') (hP : ∀ b o, a = some ⟨b, o, none⟩ → ¬ P b) : HeadsAt w' a L A C := by
  intro i hi
  obtain ⟨b, o, ha, hlt, h0⟩ := h i hi
  exact ⟨b, o, ha, Nat.lt_of_lt_of_le hlt hk.size, by rw [hk.cell hlt (hP b o ha)]; exact h0⟩

/-- The lists are marked up to the i-th; the others are as they were. -/
def Marked (w : World) (L : List (List CT)) (A : Nat → Option Addr) (k i : Nat) : Prop :=
  ∀ j (h : j < L.length), (j < i → RowAt w (A j) (marks (k + 3 * offs L j) L[j].length)) ∧ (i ≤ j → RowAt w (A j) L[j]) ∧ Free w (A j) L[j].length
/-- The blocks of all lists. -/
def rowBlks (L : List (List CT)) (A : Nat → Option Addr) (b : Nat) : Prop := ∃ i, ∃ h : i < L.length, inBlk (A i) L[i].length b

theorem Marked.step {w w' : World} {a : Option Addr} {L : List (List CT)} {A : Nat → Option Addr} {k i : Nat} (hi : i < L.length) (h : Marked w L A k i) (ap : Apart a L A) (hk : KeepS (inBlk (A i) L[i].length) w w')
    (hr : RowAt w' (A i) (marks (k + 3 * offs L i) L[i].length)) (hf : Free w' (A i) L[i].length) : Marked w' L A k (i + 1) := by
  intro j hj
  by_cases hij : j = i
  · subst hij
    exact ⟨fun _ => hr, fun hle => by omega, hf⟩
  · obtain ⟨h1, h2, h3⟩ := h j hj
    have hP : ∀ b, inBlk (A j) L[j].length b → ¬ inBlk (A i) L[i].length b := fun b hb => ap.rows j i hj hi b hij hb
    refine ⟨fun hlt => ?_, fun hle => (h2 (by omega)).keepS hk hP, ?_⟩
    · exact (h1 (by omega)).keepS hk (by rw [marks_length]; exact hP)
    · by_cases hlt : j < i
      · have hm := h1 hlt
        have := Free.keepS (l := marks (k + 3 * offs L j) L[j].length) (by rw [marks_length]; exact h3) hm hk (by rw [marks_length]; exact hP)
        rwa [marks_length] at this
      · exact h3.keepS (h2 (by omega)) hk hP

set_option maxHeartbeats 2000000 in
theorem markss_laws (a : Option Addr) (cap : Nat) (L : List (List CT)) (A : Nat → Option Addr) (C : Nat → Nat) (k : Nat) (w : World) (hh : HeadsAt w a L A C) (hm : Marked w L A k 0) (ap : Apart a L A) (h0 : 0 < k) (h1 : k + 3 * offs L L.length ≤ 1099511627776) (hlen : L.length ≤ maxLen) :
    Calls Tryz.prog 53 #[.slice a L.length cap, .int .i64 k] w fun e w' => e = .returned (.int .i64 ((k + 3 * offs L L.length : Nat) : Int)) ∧ HeadsAt w' a L A C ∧ Marked w' L A k L.length ∧ KeepS (rowBlks L A) w w' := by
  have hH : Hid (HeadsAt w a L A C) := hh
  have hM : Hid (Marked w L A k 0) := hm
  have hA : Hid (Apart a L A) := ap
  clear hh hm ap
  unfold maxLen at hlen
  go_enter Tryz.func53, Tryz.ntmps53
  go_wp2
  go_loopw [1, 5] (fun s i wr => ∃ m : Nat, m ≤ L.length ∧ i = .int .i64 m ∧ s = .int .i64 ((k + 3 * offs L m : Nat) : Int) ∧ Hid (HeadsAt wr a L A C) ∧ Hid (Marked wr L A k m) ∧ KeepS (rowBlks L A) w wr)
    (fun _ i _ => L.length - (intOf i).toNat)
  case atStart => exact ⟨0, Nat.zero_le _, rfl, by simp [offs], hH, hM, KeepS.refl _ _⟩
  case round =>
    obtain ⟨m, hmL, rfl, rfl, hd, hmk, hkp⟩ := hrel
    by_cases hlt : m < L.length
    · obtain ⟨b, o, ha, hbw, c0⟩ := hd.out m hlt
      have hst := offs_step L m hlt
      have hle := offs_le L (m + 1)
      obtain ⟨_, hrow, hfree⟩ := hmk.out m hlt
      have hrow := hrow (Nat.le_refl _)
      have hRW : Hid (RowAt wr (A m) L[m]) := hrow
      have hFR : Hid (Free wr (A m) L[m].length) := hfree
      clear hrow hfree
      have hi0 : (0 : Int) ≤ (m : Int) := by omega
      have hi1 : (m : Int) < (L.length : Int) := by omega
      have FIN : Hid (∀ w1, RowAt w1 (A m) (marks (k + 3 * offs L m) L[m].length) → Free w1 (A m) L[m].length → KeepS (inBlk (A m) L[m].length) wr w1 → HeadsAt w1 a L A C ∧ Marked w1 L A k (m + 1) ∧ KeepS (rowBlks L A) w w1) := by
        intro w1 r f kp
        exact ⟨hd.out.keepS kp (fun b o e => hA.out.heads m hlt b o e), hmk.out.step hlt hA.out kp r f, hkp.trans (kp.mono fun b hb => ⟨m, hlt, hb⟩)⟩
      clear hmk hkp
      generalize L[m] = x at c0 hst hRW hFR FIN
      subst ha
      go_wp2_with fail
      refine (mark_laws _ _ _ (k + 3 * offs L m) _ hRW.out hFR.out (by omega) (by omega)).mono ?_
      rintro e w1 ⟨rfl, r, f, kp⟩
      obtain ⟨q1, q2, q3⟩ := FIN.out w1 r f kp
      clear r f kp FIN
      go_wp2
      go_roundw
      case rel => exact ⟨m + 1, by omega, by go_num, by rw [hst]; congr 1; omega, q1, q2, q3⟩
      case measure => simp [intOf]; omega
    · have hkl : m = L.length := by omega
      subst hkl
      go_wp2
      go_ret
      exact ⟨rfl, hd.out, hmk.out, hkp⟩

end Go.Proofs.YtjiaciikbnpicaaGreatDoor

/-
  Rows that lie in memory of their own may be marked: their heads lie there, no two share a block, and all may be written.
-/
namespace Go.Proofs.YtjiaciikbnpicaaGreatDoor
open Go.ChangeShapes Go.WideShapes Go.ChangeAt Go.RowKit

theorem own_lt {w : World} {base g n c sz : Nat} {e : TypeId} {xs : List Value} (h : w.ownsRow base e sz (.slice (some ⟨g, 0, none⟩) n c) n xs) : g < w.heap.size := by
  rcases h.2 with ⟨h', _⟩ | ⟨g', cap', cur, h', _, hg, _⟩
  · simp at h'
  · simp only [Value.slice.injEq, Option.some.injEq, Addr.mk.injEq, and_true, true_and] at h'
    obtain ⟨rfl, rfl⟩ := h'
    by_cases hl : g < w.heap.size
    · exact hl
    · rw [Array.getElem?_eq_none (by omega)] at hg; cases hg

theorem getD_at {L : List (List CT)} {i : Nat} (h : i < L.length) : L.getD i [] = L[i] := by simp [List.getD, List.getElem?_eq_getElem h]

/-- The heads lie in one block. -/
theorem OwnRows.head {w : World} {base : Nat} {v : Value} {L : List (List CT)} {G C : Nat → Nat} (h : OwnRows w base v L G C) (hn : v ≠ .slice none 0 0) : ∃ g c, v = .slice (some ⟨g, 0, none⟩) L.length c ∧ base ≤ g := by
  rcases h.outer.2 with ⟨h', _⟩ | ⟨g, c, cur, h', hb, _⟩
  · exact absurd h' hn
  · exact ⟨g, c, h', hb⟩

theorem OwnRows.heads {w : World} {base g c : Nat} {L : List (List CT)} {G C : Nat → Nat} (h : OwnRows w base (.slice (some ⟨g, 0, none⟩) L.length c) L G C) : HeadsAt w (some ⟨g, 0, none⟩) L (fun i => some ⟨G i, 0, none⟩) C := by
  intro i hi
  refine ⟨g, 0, rfl, own_lt h.outer, ?_⟩
  rw [show 0 + i = i by omega, h.outer.cellAt i (by omega)]
  rw [List.getElem?_map, List.getElem?_range hi]
  simp only [Option.map_some, headOf, getD_at hi]

theorem OwnRows.apartA {w : World} {base g c : Nat} {L : List (List CT)} {G C : Nat → Nat} (h : OwnRows w base (.slice (some ⟨g, 0, none⟩) L.length c) L G C) : Apart (some ⟨g, 0, none⟩) L (fun i => some ⟨G i, 0, none⟩) where
  heads i hi b o e := by
    cases e
    rintro ⟨_, o', e'⟩
    cases e'
    exact own_other h.outer (h.inner i hi) (by decide) rfl
  rows i j hi hj b hij := by
    rintro ⟨_, o1, e1⟩ ⟨_, o2, e2⟩
    cases e1
    simp only [Option.some.injEq, Addr.mk.injEq] at e2
    exact h.apart i j hi hj hij e2.1.symm

theorem OwnRows.unmarked {w : World} {base : Nat} {v : Value} {L : List (List CT)} {G C : Nat → Nat} (h : OwnRows w base v L G C) (k : Nat) : Marked w L (fun i => some ⟨G i, 0, none⟩) k 0 := by
  intro j hj
  have hin := h.inner j hj
  rw [headOf, getD_at hj] at hin
  refine ⟨fun hlt => by omega, fun _ => own_row hin, ?_⟩
  intro b o e q hq
  cases e
  exact hin.frozenAt _

end Go.Proofs.YtjiaciikbnpicaaGreatDoor

/-
  The contract of the law's helper that takes a list of lists over: new memory, a block for each list.
-/
namespace Go.Proofs.YtjiaciikbnpicaaGreatDoor
open Go.ChangeShapes Go.WideShapes Go.ChangeAt Go.RowKit
attribute [local go_sem ↓] Go.wp_at_zero Go.wp_at_succ

/-- The first m lists are taken over, each into a block of its own behind block g. -/
structure Taken (w : World) (g : Nat) (L : List (List CT)) (G : Nat → Nat) (m : Nat) : Prop where
  lt : g < w.heap.size
  there : ∀ i, i < L.length → ∃ u, w.cell? ⟨g, i, none⟩ = some u
  free : ∀ i, i < L.length → w.frozen? ⟨g, i, none⟩ = false
  bounds : ∀ i, i < m → g < G i ∧ G i < w.heap.size
  rises : ∀ i j, i < j → j < m → G i < G j
  rows : ∀ i (h : i < L.length), i < m → w.cell? ⟨g, i, none⟩ = some (.slice (some ⟨G i, 0, none⟩) L[i].length L[i].length) ∧ RowAt w (some ⟨G i, 0, none⟩) L[i] ∧ Free w (some ⟨G i, 0, none⟩) L[i].length

theorem Taken.below {w w' : World} {g : Nat} {L : List (List CT)} {G : Nat → Nat} {m : Nat} (h : Taken w g L G m) (hb : Below w.heap.size w w') : Taken w' g L G m where
  lt := Nat.lt_of_lt_of_le h.lt hb.size
  there i hi := by obtain ⟨u, hu⟩ := h.there i hi; exact ⟨u, by rw [hb.cell (p := ⟨g, i, none⟩) h.lt]; exact hu⟩
  free i hi := by rw [hb.frozen (p := ⟨g, i, none⟩) h.lt]; exact h.free i hi
  bounds i hi := ⟨(h.bounds i hi).1, Nat.lt_of_lt_of_le (h.bounds i hi).2 hb.size⟩
  rises := h.rises
  rows i hi hm := by
    obtain ⟨h1, h2, h3⟩ := h.rows i hi hm
    refine ⟨by rw [hb.cell (p := ⟨g, i, none⟩) h.lt]; exact h1, h2.below hb, ?_⟩
    intro b o e j hj
    cases e
    rw [hb.frozen (p := ⟨G i, _, none⟩) (h.bounds i hm).2]; exact h3 _ _ rfl j hj

/-- One list more is taken over: its head is written. -/
theorem Taken.step {w : World} {g : Nat} {L : List (List CT)} {G : Nat → Nat} {m B : Nat} (h : Taken w g L G m) (hm : m < L.length) (hB : B < w.heap.size) (hgB : g < B) (hup : ∀ i, i < m → G i < B)
    (hr : RowAt w (some ⟨B, 0, none⟩) L[m]) (hf : Free w (some ⟨B, 0, none⟩) L[m].length) :
    Taken (w.setCell ⟨g, m, none⟩ (.slice (some ⟨B, 0, none⟩) L[m].length L[m].length)) g L (fun i => if i = m then B else G i) (m + 1) where
  lt := by simpa using h.lt
  there i hi := by
    by_cases e : i = m
    · subst e
      obtain ⟨u, hu⟩ := h.there i hi
      exact ⟨_, cell_here _ _ _ _ (by rw [hu]; rfl)⟩
    · obtain ⟨u, hu⟩ := h.there i hi
      exact ⟨u, by rw [cell_off _ _ _ _ _ e]; exact hu⟩
  free i hi := by rw [World.frozen?_setCell]; exact h.free i hi
  bounds i hi := by
    by_cases e : i = m
    · simpa [e] using ⟨hgB, hB⟩
    · simpa [e] using h.bounds i (by omega)
  rises i j hij hj := by
    by_cases e : j = m
    · have ei : i ≠ m := by omega
      simpa [e, ei] using hup i (by omega)
    · have ei : i ≠ m := by omega
      simpa [e, ei] using h.rises i j hij (by omega)
  rows i hi hlt := by
    have far : ∀ b q, b ≠ g → (w.setCell ⟨g, m, none⟩ (.slice (some ⟨B, 0, none⟩) L[m].length L[m].length)).cell? ⟨b, q, none⟩ = w.cell? ⟨b, q, none⟩ := fun b q hb => cell_far _ _ _ _ _ _ hb
    have rowFar : ∀ b l, b ≠ g → RowAt w (some ⟨b, 0, none⟩) l → RowAt (w.setCell ⟨g, m, none⟩ (.slice (some ⟨B, 0, none⟩) L[m].length L[m].length)) (some ⟨b, 0, none⟩) l := by
      intro b l hb hr j hj
      obtain ⟨b', o', e, hlt, c0, c1, c2⟩ := hr j hj
      cases e
      exact ⟨b, 0, rfl, by simpa using hlt, by rw [far _ _ hb]; exact c0, by rw [far _ _ hb]; exact c1, by rw [far _ _ hb]; exact c2⟩
    have freeFar : ∀ b n, Free w (some ⟨b, 0, none⟩) n → Free (w.setCell ⟨g, m, none⟩ (.slice (some ⟨B, 0, none⟩) L[m].length L[m].length)) (some ⟨b, 0, none⟩) n := by
      intro b n hf b' o' e j hj
      rw [World.frozen?_setCell]; exact hf b' o' e j hj
    by_cases e : i = m
    · subst e
      obtain ⟨u, hu⟩ := h.there i hi
      simp only [if_true]
      exact ⟨cell_here _ _ _ _ (by rw [hu]; rfl), rowFar _ _ (by omega) hr, freeFar _ _ hf⟩
    · obtain ⟨h1, h2, h3⟩ := h.rows i hi (by omega)
      have hb := (h.bounds i (by omega)).1
      simp only [if_neg e]
      exact ⟨by rw [cell_off _ _ _ _ _ e]; exact h1, rowFar _ _ (by omega) h2, freeFar _ _ h3⟩

theorem infoS : (Tryz.prog.info? 112).map (fun i => (i.zero, i.size, i.bytes)) = some (some (.slice none 0 0), 1, 24) := by kernel_rfl

set_option maxHeartbeats 2000000 in
theorem toss_laws (a : Option Addr) (cap : Nat) (L : List (List CT)) (w : World) (hrow : RowsAt w a L) (hm : L.length ≤ 1048576) (hms : ∀ i (h : i < L.length), L[i].length ≤ 1048576) :
    Calls Tryz.prog 77 #[.slice a L.length cap] w fun e w' => e = .returned (.slice (some ⟨w.heap.size, 0, none⟩) L.length L.length) ∧
      (∃ G, Taken w' w.heap.size L G L.length) ∧ Below w.heap.size w w' := by
  obtain ⟨i0, hi, hz0, hz1, hz2⟩ := info_parts infoS
  have hR : Hid (RowsAt w a L) := hrow
  have hMS : Hid (∀ i (h : i < L.length), L[i].length ≤ 1048576) := hms
  clear hrow hms
  go_enter Tryz.func77, Tryz.ntmps77
  go_wp2_with (at_make; refine wpList_make_full _ rfl _ _ 38 rfl w.heap.size 112 i0 (.slice none 0 0) 1 Tryz.underlying38 hi hz0 hz1 .i64 .i64 _ _ L.length rfl rfl rfl rfl ?b2 ?b3 (Nat.le_refl _) ?_)
  case b2 => rw [hz2]; omega
  case b3 => unfold maxLen; omega
  intro w1 hown hgrow
  have hb1 : Below w.heap.size w w1 := (Below.refl _ _).grown hgrow (Nat.le_refl _) (by intro k h; cases h)
  generalize (madeCells _ _).toList = z at hown
  have hT : Hid (∃ G, Taken w1 w.heap.size L G 0) := by
    refine ⟨fun _ => 0, ?_, ?_, fun i _ => hown.frozenAt i, fun i h => by omega, fun i j _ h => by omega, fun i _ h => by omega⟩
    · rcases hown.2 with ⟨h', _⟩ | ⟨g', cap', cur, h', _, hg, _⟩
      · simp at h'
      · simp only [Value.slice.injEq, Option.some.injEq, Addr.mk.injEq, and_true, true_and] at h'
        obtain ⟨rfl, rfl⟩ := h'
        by_cases hl : w.heap.size < w1.heap.size
        · exact hl
        · rw [Array.getElem?_eq_none (by omega)] at hg; cases hg
    · intro i hi
      exact ⟨_, (hown.cellAt i (by omega)).trans (List.getElem?_eq_getElem (by rw [hown.1]; omega))⟩
  clear hown hgrow
  go_wp2
  go_loopw [4] (fun i wr => ∃ m : Nat, m ≤ L.length ∧ i = .int .i64 m ∧ Hid (∃ G, Taken wr w.heap.size L G m) ∧ Below w.heap.size w wr)
    (fun i _ => L.length - (intOf i).toNat)
  case atStart => exact ⟨0, Nat.zero_le _, rfl, hT, hb1⟩
  case round =>
    obtain ⟨m, hmL, rfl, hT2, hb⟩ := hrel
    by_cases hlt : m < L.length
    · obtain ⟨b, o, ai, ci, ha, hbw, c0, hra, _, _⟩ := hR.out.below hb m hlt
      have hi0 : (0 : Int) ≤ (m : Int) := by omega
      have hi1 : (m : Int) < (L.length : Int) := by omega
      have hRA : Hid (RowAt wr ai L[m]) := hra
      have hml := hMS.out m hlt
      have FIN : Hid (∀ w2, Below wr.heap.size wr w2 → w2.ownsRow wr.heap.size 114 3 (.slice (some ⟨wr.heap.size, 0, none⟩) L[m].length L[m].length) L[m].length (flat L[m]) →
          (∃ u, w2.cell? ⟨w.heap.size, m, none⟩ = some u) ∧ w2.frozen? ⟨w.heap.size, m, none⟩ = false ∧ ∃ G, Taken (w2.setCell ⟨w.heap.size, m, none⟩ (.slice (some ⟨wr.heap.size, 0, none⟩) L[m].length L[m].length)) w.heap.size L G (m + 1)) := by
        intro w2 hb2 own
        obtain ⟨G, T⟩ := hT2.out
        have T2 := T.below hb2
        refine ⟨T2.there m hlt, T2.free m hlt, _, T2.step hlt ?_ T.lt (fun i hi => (T.bounds i hi).2) (own_row own) ?_⟩
        · rcases own.2 with ⟨h', _⟩ | ⟨g', cap', cur, h', _, hg, _⟩
          · simp at h'
          · simp only [Value.slice.injEq, Option.some.injEq, Addr.mk.injEq, and_true, true_and] at h'
            obtain ⟨rfl, rfl⟩ := h'
            by_cases hl : wr.heap.size < w2.heap.size
            · exact hl
            · rw [Array.getElem?_eq_none (by omega)] at hg; cases hg
        · intro b' o' e j hj
          cases e
          exact own.frozenAt _
      clear hra hT2
      generalize L[m] = x at c0 hRA hml FIN
      subst ha
      go_wp2_with fail
      refine (tos_laws _ _ _ _ hRA.out hml).mono ?_
      rintro e w2 ⟨rfl, own, hb2⟩
      obtain ⟨⟨u, g0⟩, f0, hG⟩ := FIN.out w2 hb2 own
      have hGG : Hid (∃ G, Taken (w2.setCell ⟨w.heap.size, m, none⟩ (.slice (some ⟨wr.heap.size, 0, none⟩) x.length x.length)) w.heap.size L G (m + 1)) := hG
      have hx := chain hb hb2
      clear own hG FIN hb2
      go_wp2
      go_roundw
      case rel => exact ⟨m + 1, by omega, by go_num, hGG, hx.setCell (Nat.le_refl _) _⟩
      case measure => simp [intOf]; omega
    · have hkl : m = L.length := by omega
      subst hkl
      go_wp2
      go_ret
      exact ⟨rfl, hT2.out, hb⟩

end Go.Proofs.YtjiaciikbnpicaaGreatDoor

/-
  Rows that were taken over, or that lie in memory of their own: what the marks want of them.
-/
namespace Go.Proofs.YtjiaciikbnpicaaGreatDoor
open Go.ChangeShapes Go.WideShapes Go.ChangeAt Go.RowKit

theorem Taken.heads {w : World} {g : Nat} {L : List (List CT)} {G : Nat → Nat} (h : Taken w g L G L.length) : HeadsAt w (some ⟨g, 0, none⟩) L (fun i => some ⟨G i, 0, none⟩) (fun i => (L.getD i []).length) := by
  intro i hi
  refine ⟨g, 0, rfl, h.lt, ?_⟩
  rw [show 0 + i = i by omega, (h.rows i hi hi).1]
  dsimp only; rw [getD_at hi]
theorem Taken.apartA {w : World} {g : Nat} {L : List (List CT)} {G : Nat → Nat} (h : Taken w g L G L.length) : Apart (some ⟨g, 0, none⟩) L (fun i => some ⟨G i, 0, none⟩) where
  heads i hi b o e := by
    cases e
    rintro ⟨_, o', e'⟩
    simp only [Option.some.injEq, Addr.mk.injEq] at e'
    have := (h.bounds i hi).1; omega
  rows i j hi hj b hij := by
    rintro ⟨_, o1, e1⟩ ⟨_, o2, e2⟩
    simp only [Option.some.injEq, Addr.mk.injEq] at e1 e2
    rcases Nat.lt_or_gt_of_ne hij with hl | hl
    · have := h.rises i j hl hj; omega
    · have := h.rises j i hl hi; omega
theorem Taken.unmarked {w : World} {g : Nat} {L : List (List CT)} {G : Nat → Nat} (h : Taken w g L G L.length) (k : Nat) : Marked w L (fun i => some ⟨G i, 0, none⟩) k 0 :=
  fun j hj => ⟨fun hlt => by omega, fun _ => (h.rows j hj hj).2.1, (h.rows j hj hj).2.2⟩
theorem Taken.blks {w : World} {g : Nat} {L : List (List CT)} {G : Nat → Nat} (h : Taken w g L G L.length) (b : Nat) (hb : rowBlks L (fun i => some ⟨G i, 0, none⟩) b) : g < b ∧ b < w.heap.size := by
  obtain ⟨i, hi, _, o, e⟩ := hb
  simp only [Option.some.injEq, Addr.mk.injEq] at e
  have := h.bounds i hi; omega

theorem own_keepS {w w' : World} {P : Nat → Prop} {base : Nat} {e : TypeId} {size n : Nat} {v : Value} {xs : List Value} (h : w.ownsRow base e size v n xs) (hk : KeepS P w w') (hP : ∀ b, P b → b < base) : w'.ownsRow base e size v n xs := by
  refine ⟨h.1, ?_⟩
  rcases h.2 with h' | ⟨g, cap, cur, h', hbg, hg, hr⟩
  · exact .inl h'
  · refine .inr ⟨g, cap, cur, h', hbg, ?_, hr⟩
    have hlt : g < w.heap.size := by
      by_cases hl : g < w.heap.size
      · exact hl
      · rw [Array.getElem?_eq_none (by omega)] at hg; cases hg
    rw [hk.block g hlt (fun hp => by have := hP g hp; omega)]; exact hg
theorem OwnRows.keepS {w w' : World} {P : Nat → Prop} {base : Nat} {v : Value} {L : List (List CT)} {G C : Nat → Nat} (h : OwnRows w base v L G C) (hk : KeepS P w w') (hP : ∀ b, P b → b < base) : OwnRows w' base v L G C :=
  ⟨own_keepS h.outer hk hP, fun i hi => own_keepS (h.inner i hi) hk hP, h.apart⟩

theorem HeadsAt.below {w w' : World} {a : Option Addr} {L : List (List CT)} {A : Nat → Option Addr} {C : Nat → Nat} (h : HeadsAt w a L A C) (hb : Below w.heap.size w w') : HeadsAt w' a L A C := by
  intro i hi
  obtain ⟨b, o, ha, hlt, h0⟩ := h i hi
  exact ⟨b, o, ha, Nat.lt_of_lt_of_le hlt hb.size, by rw [hb.cell (p := ⟨b, _, none⟩) hlt]; exact h0⟩
theorem Marked.below {w w' : World} {L : List (List CT)} {A : Nat → Option Addr} {k : Nat} (h : Marked w L A k L.length) (hb : Below w.heap.size w w') : Marked w' L A k L.length := by
  intro j hj
  obtain ⟨h1, _, h3⟩ := h j hj
  refine ⟨fun hlt => (h1 hlt).below hb, fun hle => by omega, ?_⟩
  intro b o e q hq
  have hlt : b < w.heap.size := by
    obtain ⟨b', o', e', hlt, _⟩ := h1 hj 0 (by rw [marks_length]; omega)
    rw [e] at e'
    simp only [Option.some.injEq, Addr.mk.injEq] at e'
    omega
  rw [hb.frozen (p := ⟨b, _, none⟩) hlt]; exact h3 b o e q hq

/-- The blocks of rows in memory of their own. -/
theorem OwnRows.blks {w : World} {base : Nat} {v : Value} {L : List (List CT)} {G C : Nat → Nat} (h : OwnRows w base v L G C) (b : Nat) (hb : rowBlks L (fun i => some ⟨G i, 0, none⟩) b) : base ≤ b := by
  obtain ⟨i, hi, _, o, e⟩ := hb
  simp only [Option.some.injEq, Addr.mk.injEq] at e
  rcases (h.inner i hi).2 with ⟨h', _⟩ | ⟨g2, c2, cur2, h', hle, _⟩
  · simp [headOf] at h'
  · simp only [headOf, Value.slice.injEq, Option.some.injEq, Addr.mk.injEq, and_true, true_and] at h'
    omega


end Go.Proofs.YtjiaciikbnpicaaGreatDoor

/-
  The contracts of a shelf that is asked for a name.
-/
namespace Go.Proofs.YtjiaciikbnpicaaGreatDoor
open Go.ChangeShapes Go.WideShapes Go.ChangeAt Go.RowKit Go.Maps
attribute [local go_sem ↓] Go.wp_at_zero Go.wp_at_succ

theorem zeroTab (w : World) : (zeroValue 40).run Tryz.prog w = .ok (.agg #[.string ⟨#[]⟩, .slice none 0 0, .slice none 0 0]) w := by kernel_rfl
/-- A name that is there: what stands at it. -/
theorem ShelfAt.found {w : World} {B n : Nat} {ks : List ByteArray} {f : ByteArray → Value} (h : ShelfAt w B n ks f) (s : ByteArray) (hs : s.size ≤ maxLen) (hm : s ∈ ks) :
    (Instr.lookup 129 (.map (some B)) (.string s) false).run Tryz.prog w = .ok (f s) w ∧ (Instr.lookup 129 (.map (some B)) (.string s) true).run Tryz.prog w = .ok (.tuple #[f s, .bool true]) w := by
  obtain ⟨D, hown, S⟩ := h
  constructor
  · obtain ⟨v, ps, hrun, hv⟩ := hown.lookup str_keyed Tryz.underlying129 (zeroTab w) (zd := .held (.agg #[.string ⟨#[]⟩, .slice none 0 0, .slice none 0 0])) rfl (keyOf_txt s hs)
    rw [S.holds s hm] at hv
    simp only [tokR, Option.some.injEq, Prod.mk.injEq, DataW.held.injEq] at hv
    rw [← hv.1]; exact hrun
  · obtain ⟨v, ps, hrun, hv⟩ := hown.look_ok str_keyed Tryz.underlying129 (zeroTab w) (zd := .held (.agg #[.string ⟨#[]⟩, .slice none 0 0, .slice none 0 0])) rfl (keyOf_txt s hs)
    rw [S.holds s hm] at hv
    simp only [tokR, Option.some.injEq, Prod.mk.injEq, DataW.held.injEq] at hv
    rw [S.has s, decide_eq_true hm] at hrun
    rw [← hv.1]; exact hrun
/-- A name that is not there. -/
theorem ShelfAt.lacks {w : World} {B n : Nat} {ks : List ByteArray} {f : ByteArray → Value} (h : ShelfAt w B n ks f) (s : ByteArray) (hs : s.size ≤ maxLen) (hm : s ∉ ks) :
    (Instr.lookup 129 (.map (some B)) (.string s) true).run Tryz.prog w = .ok (.tuple #[.agg #[.string ⟨#[]⟩, .slice none 0 0, .slice none 0 0], .bool false]) w := by
  obtain ⟨D, hown, S⟩ := h
  obtain ⟨v, ps, hrun, hv⟩ := hown.look_ok str_keyed Tryz.underlying129 (zeroTab w) (zd := .held (.agg #[.string ⟨#[]⟩, .slice none 0 0, .slice none 0 0])) rfl (keyOf_txt s hs)
  have hh := S.has s
  rw [decide_eq_false hm] at hh
  rw [atKey_of_not_has hh] at hv
  simp only [tokR, Option.some.injEq, Prod.mk.injEq, DataW.held.injEq] at hv
  rw [hh] at hrun
  rw [← hv.1]; exact hrun
theorem ShelfAt.len {w : World} {B n : Nat} {ks : List ByteArray} {f : ByteArray → Value} (h : ShelfAt w B n ks f) (ty : TypeId) : (Builtin.len_ #[129] ty #[.map (some B)]).run Tryz.prog w = .ok (.int .i64 ks.length) w := by
  obtain ⟨D, hown, S⟩ := h
  rw [hown.len Tryz.underlying129 ty, size_keys hown S]

/-- A shelf is asked for a name. -/
theorem has_at (B n : Nat) (ks : List ByteArray) (f : ByteArray → Value) (w : World) (h : ShelfAt w B n ks f) (hf : ∀ s, s ∈ ks → ∃ ca nc cc ra nr cr, f s = .agg #[.string s, .slice ca nc cc, .slice ra nr cr]) (s : ByteArray) (hs : s.size ≤ maxLen) (b : Bool) (hb : decide (s ∈ ks) = b) :
    Calls Tryz.prog 127 #[.map (some B), .string s] w fun e w' => e = .returned (.bool b) ∧ Below w.heap.size w w' := by
  cases b
  · have hm : s ∉ ks := of_decide_eq_false hb
    have hrun := h.lacks s hs hm
    clear hb h hf hm
    go_enter Tryz.func127, Tryz.ntmps127
    go_wp2
    go_ret
    exact ⟨rfl, (Below.refl _ _).alloc (Nat.le_refl _) _⟩
  · have hm : s ∈ ks := of_decide_eq_true hb
    have hrun := (h.found s hs hm).2
    obtain ⟨ca, nc, cc, ra, nr, cr, ef⟩ := hf s hm
    rw [ef] at hrun
    clear hb h hf hm ef
    go_enter Tryz.func127, Tryz.ntmps127
    go_wp2
    go_ret
    exact ⟨rfl, (Below.refl _ _).alloc (Nat.le_refl _) _⟩

end Go.Proofs.YtjiaciikbnpicaaGreatDoor

/-
  The contract of the law's helper that takes a table over: all of it lies in new memory.
-/
namespace Go.Proofs.YtjiaciikbnpicaaGreatDoor
open Go.ChangeShapes Go.WideShapes Go.ChangeAt Go.RowKit
attribute [local go_sem ↓] Go.wp_at_zero Go.wp_at_succ
attribute [local simp] World.cell?_alloc_past World.cell?_alloc_at World.frozen?_alloc_at cell_far cell_off cell_here World.frozen?_alloc_past

theorem Taken.lies {w : World} {g : Nat} {L : List (List CT)} {G : Nat → Nat} (h : Taken w g L G L.length) (hf : ∀ i (hi : i < L.length), Fit L[i]) (hm : ∀ i (hi : i < L.length), L[i].length ≤ maxLen) : RowsAt w (some ⟨g, 0, none⟩) L := by
  intro i hi
  obtain ⟨h1, h2, _⟩ := h.rows i hi hi
  exact ⟨g, 0, _, _, rfl, h.lt, by rw [Nat.zero_add]; exact h1, h2, hf i hi, hm i hi, fun e => by cases e⟩

theorem tostrN (n : Nat) (a : Option Addr) (cap : Nat) (l : List ByteArray) (hn : l.length = n) (w : World) (H : Nat) (hH : w.heap.size = H) (hrow : StrsAt w a l) (hm : n ≤ 1048576) :
    Calls Tryz.prog 29 #[.slice a n cap] w fun e w' => e = .returned (.slice (some ⟨H, 0, none⟩) n n) ∧
      w'.ownsRow H 9 1 (.slice (some ⟨H, 0, none⟩) l.length l.length) l.length (strV l) ∧ Below w.heap.size w w' := by
  subst hn hH; exact tostr_laws a cap l w hrow hm
theorem tossN (n : Nat) (a : Option Addr) (cap : Nat) (L : List (List CT)) (hn : L.length = n) (w : World) (H : Nat) (hH : w.heap.size = H) (hrow : RowsAt w a L) (hm : n ≤ 1048576) (hms : ∀ i (h : i < L.length), L[i].length ≤ 1048576) :
    Calls Tryz.prog 77 #[.slice a n cap] w fun e w' => e = .returned (.slice (some ⟨H, 0, none⟩) n n) ∧
      (∃ G, Taken w' H L G L.length) ∧ Below w.heap.size w w' := by
  subst hn hH; exact toss_laws a cap L w hrow hm hms
theorem own_keepG {w w' : World} {base base' g c : Nat} {e : TypeId} {size n : Nat} {xs : List Value} (h : w.ownsRow base e size (.slice (some ⟨g, 0, none⟩) n c) n xs) (hb : base' ≤ base) (hk : w'.heap[g]? = w.heap[g]?) : w'.ownsRow base' e size (.slice (some ⟨g, 0, none⟩) n c) n xs := by
  refine ⟨h.1, ?_⟩
  rcases h.2 with h' | ⟨g', cap, cur, h', hbg, hg, hr⟩
  · exact .inl h'
  · refine .inr ⟨g', cap, cur, h', by omega, ?_, hr⟩
    simp only [Value.slice.injEq, Option.some.injEq, Addr.mk.injEq, and_true, true_and] at h'
    obtain ⟨rfl, _⟩ := h'
    rw [hk]; exact hg
theorem Taken.low {w w' : World} {g : Nat} {L : List (List CT)} {G : Nat → Nat} (h : Taken w g L G L.length) (hs : w.heap.size ≤ w'.heap.size) (hk : ∀ k, g ≤ k → k < w.heap.size → w'.heap[k]? = w.heap[k]?) : Taken w' g L G L.length where
  lt := Nat.lt_of_lt_of_le h.lt hs
  there := fun i hi => by rw [World.cell?_of_block (a := ⟨g, i, none⟩) (hk g (Nat.le_refl _) h.lt)]; exact h.there i hi
  free := fun i hi => by rw [World.frozen?_of_block (a := ⟨g, i, none⟩) (hk g (Nat.le_refl _) h.lt)]; exact h.free i hi
  bounds := fun i hi => ⟨(h.bounds i hi).1, Nat.lt_of_lt_of_le (h.bounds i hi).2 hs⟩
  rises := h.rises
  rows := fun i hi hm => by
    obtain ⟨h1, h2, h3⟩ := h.rows i hi hm
    have hb := h.bounds i hm
    have e := hk (G i) (by omega) hb.2
    refine ⟨by rw [World.cell?_of_block (a := ⟨g, i, none⟩) (hk g (Nat.le_refl _) h.lt)]; exact h1, ?_, ?_⟩
    · intro j hj
      obtain ⟨b, o, ha, hlt, c0, c1, c2⟩ := h2 j hj
      simp only [Option.some.injEq, Addr.mk.injEq, and_true] at ha
      obtain ⟨rfl, rfl⟩ := ha
      exact ⟨_, _, rfl, Nat.lt_of_lt_of_le hlt hs, by rw [World.cell?_of_block (a := ⟨G i, _, none⟩) e]; exact c0, by rw [World.cell?_of_block (a := ⟨G i, _, none⟩) e]; exact c1, by rw [World.cell?_of_block (a := ⟨G i, _, none⟩) e]; exact c2⟩
    · intro b o ha j hj
      cases ha
      rw [World.frozen?_of_block (a := ⟨G i, _, none⟩) e]
      exact h3 _ _ rfl j hj

/-- A table that was taken over: its columns in block g, its rows in block g2 and those behind. -/
structure NewTab (w : World) (base g g2 : Nat) (t : TB) : Prop where
  lo : base ≤ g
  cols : w.ownsRow base 9 1 (.slice (some ⟨g, 0, none⟩) t.2.1.length t.2.1.length) t.2.1.length (strV t.2.1)
  apart : g < g2
  rows : ∃ G, Taken w g2 t.2.2 G t.2.2.length
theorem NewTab.below {w w' : World} {base g g2 : Nat} {t : TB} (h : NewTab w base g g2 t) (hb : Below w.heap.size w w') : NewTab w' base g g2 t :=
  ⟨h.lo, own_below h.cols hb, h.apart, by obtain ⟨G, hG⟩ := h.rows; exact ⟨G, hG.below hb⟩⟩
theorem NewTab.lies {w : World} {base g g2 : Nat} {t : TB} (h : NewTab w base g g2 t) (hf : FitS t.2.1) (hn : t.1.size ≤ maxLen) (hc : t.2.1.length ≤ maxLen) (hr : t.2.2.length ≤ maxLen) (hfr : ∀ i (hi : i < t.2.2.length), Fit t.2.2[i]) (hmr : ∀ i (hi : i < t.2.2.length), t.2.2[i].length ≤ maxLen) :
    TabAt w (some ⟨g, 0, none⟩) t.2.1.length (some ⟨g2, 0, none⟩) t :=
  ⟨own_strs h.cols, hf, hc, Nat.le_refl _, (fun e => by cases e), by obtain ⟨G, hG⟩ := h.rows; exact hG.lies hfr hmr, hr, hn⟩

theorem NewTab.keepS {w w' : World} {base g g2 : Nat} {t : TB} {P : Nat → Prop} (h : NewTab w base g g2 t) (hk : KeepS P w w') (hP : ∀ b, P b → b < g) : NewTab w' base g g2 t := by
  have hg := (h.cols.lt g rfl).2
  obtain ⟨G, hG⟩ := h.rows
  have ha := h.apart
  exact ⟨h.lo, own_keepG h.cols (Nat.le_refl _) (hk.block g hg (fun hp => by have := hP g hp; omega)), h.apart, G, hG.low hk.size (fun k hgk hl => hk.block k hl (fun hp => by have := hP k hp; omega))⟩

set_option maxHeartbeats 4000000 in
theorem totab_laws (ca : Option Addr) (cc : Nat) (ra : Option Addr) (cr : Nat) (t : TB) (nc nr : Nat) (hnc : t.2.1.length = nc) (hnr : t.2.2.length = nr) (w : World) (ht : TabAt w ca cc ra t) (hc1 : nc ≤ 1048576) (hr1 : nr ≤ 1048576) (hms : ∀ i (h : i < t.2.2.length), t.2.2[i].length ≤ 1048576) :
    Calls Tryz.prog 50 #[.agg #[.string t.1, .slice ca nc cc, .slice ra nr cr]] w fun e w' => ∃ g g2, e = .returned (.agg #[.string t.1, .slice (some ⟨g, 0, none⟩) nc nc, .slice (some ⟨g2, 0, none⟩) nr nr]) ∧ NewTab w' w.heap.size g g2 t ∧ Below w.heap.size w w' := by
  obtain ⟨nm, C, L⟩ := t
  dsimp only at hnc hnr hms ⊢
  have HT : Hid (TabAt w ca cc ra (nm, C, L)) := ht
  have HNC : Hid (C.length = nc) := hnc
  have HNR : Hid (L.length = nr) := hnr
  have HMS : Hid (∀ i (h : i < L.length), L[i].length ≤ 1048576) := hms
  clear ht hnc hnr hms
  have hA : Below w.heap.size w (((w.alloc (.cells #[.string nm, .slice ca nc cc, .slice ra nr cr] 85)).alloc (.cells #[.string ⟨#[]⟩, .slice none 0 0, .slice none 0 0] 40)).alloc (.cells #[.string nm, .slice none 0 0, .slice none 0 0] 40)) :=
    (((Below.refl _ _).alloc (Nat.le_refl _) _).alloc (by simp) _).alloc (by simp; omega) _
  go_enter Tryz.func50, Tryz.ntmps50
  go_wp2_with fail
  refine (tostrN nc ca cc C HNC.out _ (w.heap.size + 1 + 1 + 1) (by simp) (HT.out.below hA).cols hc1).mono ?_
  rintro e w1 ⟨rfl, own1, hb1⟩
  have hx1 := chain hA hb1
  obtain ⟨⟨_, _, p2, pw⟩, ⟨q0, q1, q2, qw⟩, ⟨r0, r1, r2, rw_⟩, f0, f1, f2⟩ := three3 hb1
  have hs1 : w.heap.size + 1 + 1 + 1 < w1.heap.size := (own1.lt _ rfl).2
  obtain ⟨_, hf⟩ := bcell hb1
  have e0 : w1.frozen? ⟨w.heap.size + 1, 0, none⟩ = false := by rw [hf _ _ (by simp)]; simp
  have e1 : w1.frozen? ⟨w.heap.size + 1, 1, none⟩ = false := by rw [hf _ _ (by simp)]; simp
  have e2 : w1.frozen? ⟨w.heap.size + 1, 2, none⟩ = false := by rw [hf _ _ (by simp)]; simp
  have OW1 : Hid (w1.ownsRow (w.heap.size + 1 + 1 + 1) 9 1 (.slice (some ⟨w.heap.size + 1 + 1 + 1, 0, none⟩) C.length C.length) C.length (strV C)) := own1
  clear hf hb1 own1 hA
  obtain ⟨v1, hv1⟩ : ∃ v, v = Value.slice (some ⟨w.heap.size + 1 + 1 + 1, 0, none⟩) nc nc := ⟨_, rfl⟩
  have hxW : Below w.heap.size w (w1.setCell ⟨w.heap.size + 1 + 1, 1, none⟩ v1) := hx1.setCell (p := ⟨w.heap.size + 1 + 1, 1, none⟩) (by show _ ≤ w.heap.size + 1 + 1; omega) _
  go_wp2_with fail
  rw [← hv1]
  refine (tossN nr ra cr L HNR.out _ w1.heap.size (by simp) (HT.out.below hxW).rows hr1 HMS.out).mono ?_
  rintro e w2 ⟨rfl, ⟨G, hG⟩, hb2⟩
  have hx2 := chain hxW hb2
  have hs2 := hb2.size
  simp at hs2
  obtain ⟨hc, hf⟩ := bcell hb2
  have s0 : w2.cell? ⟨w.heap.size + 1 + 1, 0, none⟩ = some (.string nm) := by rw [hc _ _ (by simp; omega), cell_off _ _ _ _ _ (by omega)]; exact r0
  have s1 : w2.cell? ⟨w.heap.size + 1 + 1, 1, none⟩ = some v1 := by rw [hc _ _ (by simp; omega), cell_here _ _ _ _ (by rw [r1]; rfl)]
  have s2 : w2.cell? ⟨w.heap.size + 1 + 1, 2, none⟩ = some (.slice none 0 0) := by rw [hc _ _ (by simp; omega), cell_off _ _ _ _ _ (by omega)]; exact r2
  have t0 : w2.cell? ⟨w.heap.size + 1, 0, none⟩ = some (.string ⟨#[]⟩) := by rw [hc _ _ (by simp; omega), cell_far _ _ _ _ _ _ (by omega)]; exact q0
  have t1 : w2.cell? ⟨w.heap.size + 1, 1, none⟩ = some (.slice none 0 0) := by rw [hc _ _ (by simp; omega), cell_far _ _ _ _ _ _ (by omega)]; exact q1
  have t2 : w2.cell? ⟨w.heap.size + 1, 2, none⟩ = some (.slice none 0 0) := by rw [hc _ _ (by simp; omega), cell_far _ _ _ _ _ _ (by omega)]; exact q2
  have g0 : w2.frozen? ⟨w.heap.size + 1 + 1, 0, none⟩ = false := by rw [hf _ _ (by simp; omega)]; simpa using f0
  have g1 : w2.frozen? ⟨w.heap.size + 1 + 1, 1, none⟩ = false := by rw [hf _ _ (by simp; omega)]; simpa using f1
  have g2 : w2.frozen? ⟨w.heap.size + 1 + 1, 2, none⟩ = false := by rw [hf _ _ (by simp; omega)]; simpa using f2
  have h0 : w2.frozen? ⟨w.heap.size + 1, 0, none⟩ = false := by rw [hf _ _ (by simp; omega)]; simpa using e0
  have h1 : w2.frozen? ⟨w.heap.size + 1, 1, none⟩ = false := by rw [hf _ _ (by simp; omega)]; simpa using e1
  have h2 : w2.frozen? ⟨w.heap.size + 1, 2, none⟩ = false := by rw [hf _ _ (by simp; omega)]; simpa using e2
  have K1 : Keep (w.heap.size + 1 + 1) w1 (w1.setCell ⟨w.heap.size + 1 + 1, 1, none⟩ v1) := (Keep.refl (w.heap.size + 1 + 1) w1).setCell (p := ⟨w.heap.size + 1 + 1, 1, none⟩) (Or.inl rfl) _
  have OW2 : Hid (w2.ownsRow (w.heap.size + 1 + 1 + 1) 9 1 (.slice (some ⟨w.heap.size + 1 + 1 + 1, 0, none⟩) C.length C.length) C.length (strV C)) :=
    own_keepG OW1.out (Nat.le_refl _) ((hb2.block _ (by simp; exact hs1)).trans (K1.block _ hs1 (by omega)))
  have TG : Hid (Taken w2 w1.heap.size L G L.length) := hG
  clear hc hf hb2 hG OW1 K1 q0 q1 q2 r0 r1 r2 f0 f1 f2 e0 e1 e2 p2
  have hw12 : w1.heap.size < w2.heap.size := TG.out.lt
  have N2 : Hid (NewTab w2 w.heap.size (w.heap.size + 1 + 1 + 1) w1.heap.size (nm, C, L)) := by
    have : NewTab w2 w.heap.size (w.heap.size + 1 + 1 + 1) w1.heap.size (nm, C, L) := ⟨by omega, own_keepG OW2.out (by omega) rfl, hs1, G, TG.out⟩
    exact this
  clear OW2 TG
  go_wp2
  refine bodyPost_ret (v := .agg #[.string nm, .slice (some ⟨w.heap.size + 1 + 1 + 1, 0, none⟩) nc nc, .slice (some ⟨w1.heap.size, 0, none⟩) nr nr]) (by simp [results, Tryz.results50, go_sem, t0, t1, t2]) rfl ⟨_, _, rfl, ?_, ?_⟩
  · refine N2.out.keepS (P := fun b => b = w.heap.size + 1 ∨ b = w.heap.size + 1 + 1) ?_ (fun b hb => by omega)
    repeat (first | exact KeepS.refl _ _ | refine KeepS.setCell ?_ (by simp) _)
  · repeat (first | exact hx2 | refine Below.setCell ?_ (by first | (simp; done) | (simp; omega)) _)

end Go.Proofs.YtjiaciikbnpicaaGreatDoor
