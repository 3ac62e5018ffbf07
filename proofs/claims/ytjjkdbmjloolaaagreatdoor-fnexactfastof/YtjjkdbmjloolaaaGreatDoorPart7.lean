/-
  A part of the proof: Itm1, TokS.
-/
import Derived.Test.YtjjkdbmjloolaaaGreatDoorPart1
import Derived.Test.YtjjkdbmjloolaaaGreatDoorPart6
import Derived.Test.YtjjkdbmjloolaaaGreatDoorPart2

namespace Go.Proofs.YtjjkdbmjloolaaaGreatDoor
open Go.ChangeShapes Go.WideShapes Go.ChangeAt Go.RowKit
attribute [local go_sem ↓] Go.wp_at_zero Go.wp_at_succ
attribute [local simp] World.cell?_alloc_past World.cell?_alloc_at World.frozen?_alloc_at cell_far cell_off cell_here World.frozen?_alloc_past
def ItmAt (w : World) (a : Option Addr) (l : List TI) : Prop :=
 ∀ j (h : j < l.length), ∃ b o, a = some ⟨b, o, none⟩ ∧ b < w.heap.size ∧ w.cell? ⟨b, o + j * 5, none⟩ = some (.int .i64 l[j].1) ∧ w.cell? ⟨b, o + j * 5 + 1, none⟩ = some (.int .i64 l[j].2.1.1) ∧ w.cell? ⟨b, o + j * 5 + 2, none⟩ = some (.int .i64 l[j].2.1.2.1) ∧ w.cell? ⟨b, o + j * 5 + 3, none⟩ = some (.string l[j].2.1.2.2) ∧ w.cell? ⟨b, o + j * 5 + 4, none⟩ = some (.string l[j].2.2)
theorem ItmAt.below {w w' : World} {a : Option Addr} {l : List TI} (h : ItmAt w a l) (hb : Below w.heap.size w w') : ItmAt w' a l := by
 intro j hj
 obtain ⟨b, o, ha, hlt, c0, c1, c2, c3, c4⟩ := h j hj
 refine ⟨b, o, ha, Nat.lt_of_lt_of_le hlt hb.size, ?_, ?_, ?_, ?_, ?_⟩
 · rw [hb.cell (p := ⟨b, _, none⟩) hlt]; exact c0
 · rw [hb.cell (p := ⟨b, _, none⟩) hlt]; exact c1
 · rw [hb.cell (p := ⟨b, _, none⟩) hlt]; exact c2
 · rw [hb.cell (p := ⟨b, _, none⟩) hlt]; exact c3
 · rw [hb.cell (p := ⟨b, _, none⟩) hlt]; exact c4
def FitItm (l : List TI) : Prop := ∀ j (h : j < l.length), ((l[j]).2.1.2.2).size ≤ maxLen ∧ ((l[j]).2.2).size ≤ maxLen
def oneItm (x : TI) : Nat := x.2.1.2.2.size + x.2.2.size
def weightItm (l : List TI) : Nat := (l.map oneItm).sum
theorem weightItm_take (l : List TI) (k : Nat) (h : k < l.length) : weightItm (l.take (k + 1)) = weightItm (l.take k) + oneItm l[k] := by
 unfold weightItm
 rw [List.take_succ_eq_append_getElem h, List.map_append, List.sum_append]; simp
theorem weightItm_le (l : List TI) (k : Nat) : weightItm (l.take k) ≤ weightItm l := by
 unfold weightItm
 conv => rhs; rw [← List.take_append_drop k l, List.map_append, List.sum_append]
 omega
def flatItm : List TI → List Value
 | [] => []
 | x :: l => .int .i64 x.1 :: .int .i64 x.2.1.1 :: .int .i64 x.2.1.2.1 :: .string x.2.1.2.2 :: .string x.2.2 :: flatItm l
theorem flatItm_length (l : List TI) : (flatItm l).length = l.length * 5 := by
 induction l with
 | nil => rfl
 | cons x l ih => simp only [flatItm, List.length_cons, ih]; omega
theorem flatItm_append (l m : List TI) : flatItm (l ++ m) = flatItm l ++ flatItm m := by
 induction l with
 | nil => rfl
 | cons x l ih => simp only [List.cons_append, flatItm, ih]
theorem flatItm_at (l : List TI) (j : Nat) (h : j < l.length) : (flatItm l)[j * 5]? = some (.int .i64 l[j].1) ∧ (flatItm l)[j * 5 + 1]? = some (.int .i64 l[j].2.1.1) ∧ (flatItm l)[j * 5 + 2]? = some (.int .i64 l[j].2.1.2.1) ∧ (flatItm l)[j * 5 + 3]? = some (.string l[j].2.1.2.2) ∧ (flatItm l)[j * 5 + 4]? = some (.string l[j].2.2) := by
 induction l generalizing j with
 | nil => simp at h
 | cons x l ih =>
  cases j with
  | zero => exact ⟨rfl, rfl, rfl, rfl, rfl⟩
  | succ j =>
   have := ih j (by simpa using h)
   have e0 : (j + 1) * 5 = j * 5 + 1 + 1 + 1 + 1 + 1 := by omega
   have e1 : (j + 1) * 5 + 1 = j * 5 + 1 + 1 + 1 + 1 + 1 + 1 := by omega
   have e2 : (j + 1) * 5 + 2 = j * 5 + 2 + 1 + 1 + 1 + 1 + 1 := by omega
   have e3 : (j + 1) * 5 + 3 = j * 5 + 3 + 1 + 1 + 1 + 1 + 1 := by omega
   have e4 : (j + 1) * 5 + 4 = j * 5 + 4 + 1 + 1 + 1 + 1 + 1 := by omega
   rw [e1, e2, e3, e4, e0]
   simpa only [flatItm, List.getElem?_cons_succ, List.getElem_cons_succ] using this
theorem flatItm_step (l : List TI) (k : Nat) (h : k < l.length) (z : List Value) (hz : z.length = l.length * 5) :
  ((((((flatItm (l.take k) ++ z.drop (k * 5)).set (k * 5) (.int .i64 l[k].1)).set (k * 5 + 1) (.int .i64 l[k].2.1.1)).set (k * 5 + 2) (.int .i64 l[k].2.1.2.1)).set (k * 5 + 3) (.string l[k].2.1.2.2)).set (k * 5 + 4) (.string l[k].2.2)) = flatItm (l.take (k + 1)) ++ z.drop ((k + 1) * 5) := by
 have hl : (flatItm (l.take k)).length = k * 5 := by rw [flatItm_length, List.length_take]; congr 1; omega
 obtain ⟨a0, a1, a2, a3, a4, r, hr⟩ : ∃ a0 a1 a2 a3 a4 r, z.drop (k * 5) = a0 :: a1 :: a2 :: a3 :: a4 :: r := by
  have hd : (z.drop (k * 5)).length ≥ 5 := by rw [List.length_drop]; omega
  match hm : z.drop (k * 5), hd with
  | a0 :: a1 :: a2 :: a3 :: a4 :: r, _ => exact ⟨a0, a1, a2, a3, a4, r, rfl⟩
 have hr3 : z.drop ((k + 1) * 5) = r := by
  rw [show (k + 1) * 5 = k * 5 + 5 by omega, ← List.drop_drop, hr]; rfl
 rw [List.take_succ_eq_append_getElem h, flatItm_append, hr, hr3]
 rw [List.set_append_right _ _ (by omega), List.set_append_right _ _ (by omega), List.set_append_right _ _ (by omega), List.set_append_right _ _ (by omega), List.set_append_right _ _ (by omega), hl]
 rw [show k * 5 - k * 5 = 0 by omega, show k * 5 + 1 - k * 5 = 1 by omega, show k * 5 + 2 - k * 5 = 2 by omega, show k * 5 + 3 - k * 5 = 3 by omega, show k * 5 + 4 - k * 5 = 4 by omega]
 simp [flatItm]
theorem ownItm {w : World} {base g cap : Nat} {e : TypeId} {l : List TI} (h : w.ownsRow base e 5 (.slice (some ⟨g, 0, none⟩) l.length cap) l.length (flatItm l)) : ItmAt w (some ⟨g, 0, none⟩) l := by
 have hlt : g < w.heap.size := (h.lt g rfl).2
 intro j hj
 obtain ⟨f0, f1, f2, f3, f4⟩ := flatItm_at l j hj
 refine ⟨g, 0, rfl, hlt, ?_, ?_, ?_, ?_, ?_⟩
 · rw [show 0 + j * 5 = j * 5 by omega, h.cellAt _ (by omega)]; exact f0
 · rw [show 0 + j * 5 + 1 = j * 5 + 1 by omega, h.cellAt _ (by omega)]; exact f1
 · rw [show 0 + j * 5 + 2 = j * 5 + 2 by omega, h.cellAt _ (by omega)]; exact f2
 · rw [show 0 + j * 5 + 3 = j * 5 + 3 by omega, h.cellAt _ (by omega)]; exact f3
 · rw [show 0 + j * 5 + 4 = j * 5 + 4 by omega, h.cellAt _ (by omega)]; exact f4
theorem szItm_one (x : TI) (l : Int) (w : World) (h1 : x.2.2.size ≤ maxLen) (h2 : x.2.1.2.2.size ≤ maxLen) (h0 : 0 ≤ l) (hl : l ≤ 1048576) :
  Calls Tryz.prog 50 #[.agg #[.int .i64 x.1, .int .i64 x.2.1.1, .int .i64 x.2.1.2.1, .string x.2.1.2.2, .string x.2.2], .int .i64 l] w fun e w' => e = .returned (.int .i64 (if l < (oneItm x : Int) then -1 else l - oneItm x)) ∧ Below w.heap.size w w' := by
 have e1 : (oneItm x : Int) = (x.2.2.size : Int) + (x.2.1.2.2.size : Int) := by unfold oneItm; omega
 rw [e1]
 clear e1
 obtain ⟨k, ⟨ck, cn, ct⟩, s⟩ := x
 dsimp only at h1 h2 ⊢
 have h1' := h1
 unfold maxLen at h1'
 by_cases ha : l < (ct.size : Int)
 · rw [if_pos (by omega)]
  go_enter Tryz.func50, Tryz.ntmps50
  go_wp2_with fail
  refine (sz_laws ck cn ct l _ h2 h0 hl).mono ?_
  rw [if_pos ha]
  rintro e w1 ⟨rfl, hb1⟩
  go_wp2
  go_ret
  exact ⟨rfl, chain ((Below.refl _ _).alloc (Nat.le_refl _) _) hb1⟩
 have hp : 0 ≤ l - (ct.size : Int) := by omega
 by_cases hb : l - (ct.size : Int) < (s.size : Int)
 · rw [if_pos (by omega)]
  have hn : l - (ct.size : Int) - (s.size : Int) < 0 := by omega
  go_enter Tryz.func50, Tryz.ntmps50
  go_wp2_with fail
  refine (sz_laws ck cn ct l _ h2 h0 hl).mono ?_
  rw [if_neg (by omega)]
  rintro e w1 ⟨rfl, hb1⟩
  obtain ⟨hc, hf⟩ := bcell hb1
  have c4 : w1.cell? ⟨w.heap.size, 4, none⟩ = some (.string s) := by rw [hc _ _ (by simp)]; simp
  clear hc hf
  go_wp2
  go_ret
  exact ⟨rfl, chain ((Below.refl _ _).alloc (Nat.le_refl _) _) hb1⟩
 · rw [if_neg (by omega)]
  have hn : 0 ≤ l - (ct.size : Int) - (s.size : Int) := by omega
  go_enter Tryz.func50, Tryz.ntmps50
  go_wp2_with fail
  refine (sz_laws ck cn ct l _ h2 h0 hl).mono ?_
  rw [if_neg (by omega)]
  rintro e w1 ⟨rfl, hb1⟩
  obtain ⟨hc, hf⟩ := bcell hb1
  have c4 : w1.cell? ⟨w.heap.size, 4, none⟩ = some (.string s) := by rw [hc _ _ (by simp)]; simp
  clear hc hf
  go_wp2
  go_ret
  exact ⟨ret_int (by omega), chain ((Below.refl _ _).alloc (Nat.le_refl _) _) hb1⟩
def leftOfItm (l : List TI) (left : Int) : Int := if left < (l.length : Int) + (weightItm l : Int) then -1 else left - l.length - weightItm l
set_option maxHeartbeats 1000000 in
theorem szsItm (a : Option Addr) (cap : Nat) (l : List TI) (left : Int) (w : World) (hrow : ItmAt w a l) (hfit : FitItm l) (hm : l.length ≤ maxLen) (h0 : 0 ≤ left) (h1 : left ≤ 1048576) :
  Calls Tryz.prog 33 #[.slice a l.length cap, .int .i64 left] w fun e w' => e = .returned (.int .i64 (leftOfItm l left)) ∧ Below w.heap.size w w' := by
 have hR := hid hrow
 have hF := hid hfit
 clear hrow hfit
 by_cases hlen : left < (l.length : Int)
 · have hneg : left - (l.length : Int) < 0 := by omega
  rw [show leftOfItm l left = -1 from if_pos (by omega)]
  unfold maxLen at hm
  go_enter Tryz.func33, Tryz.ntmps33
  go_wp2
  go_ret
  exact ⟨rfl, Below.refl _ _⟩
 have hneg : 0 ≤ left - (l.length : Int) := by omega
 go_enter Tryz.func33, Tryz.ntmps33
 go_wp2
 go_loopw [1, 5] (fun s i wr => ∃ k : Nat, k ≤ l.length ∧ i = .int .i64 k ∧ s = .int .i64 (left - l.length - weightItm (l.take k)) ∧ 0 ≤ left - l.length - weightItm (l.take k) ∧ Below w.heap.size w wr)
  (fun _ i _ => l.length - (intOf i).toNat)
 case atStart => exact ⟨0, Nat.zero_le _, rfl, by simp [weightItm], by simp [weightItm]; omega, Below.refl _ _⟩
 case round =>
  obtain ⟨k, hk, rfl, rfl, hpos, hb⟩ := hrel
  by_cases hlt : k < l.length
  · obtain ⟨b, o, rfl, hbw, c0, c1, c2, c3, c4⟩ := hR.out.below hb k hlt
   have hi0 : (0 : Int) ≤ (k : Int) := by omega
   have hi1 : (k : Int) < (l.length : Int) := by omega
   have hwt := weightItm_take l k hlt
   obtain ⟨hf1, hf2⟩ := hF.out k hlt
   generalize l[k] = x at c0 c1 c2 c3 c4 hwt hf1 hf2
   generalize weightItm (l.take k) = W at *
   by_cases hs : left - (l.length : Int) - (W : Int) < (oneItm x : Int)
   · go_wp2_with fail
    refine (szItm_one x _ _ hf2 hf1 (by omega) (by omega)).mono ?_
    rw [if_pos (by omega)]
    rintro e w1 ⟨rfl, hb1⟩
    go_wp2
    go_ret
    have hwl := weightItm_le l (k + 1)
    exact ⟨ret_int (by rw [leftOfItm, if_pos (by omega)]), chain hb hb1⟩
   · have hp2 : 0 ≤ left - (l.length : Int) - (W : Int) - (oneItm x : Int) := by omega
    go_wp2_with fail
    refine (szItm_one x _ _ hf2 hf1 (by omega) (by omega)).mono ?_
    rw [if_neg (by omega)]
    rintro e w1 ⟨rfl, hb1⟩
    go_wp2
    go_roundw
    case rel => exact ⟨k + 1, by omega, by go_num, by rw [hwt]; congr 1; omega, by rw [hwt]; omega, chain hb hb1⟩
    case measure => simp [intOf]; omega
  · have hkl : k = l.length := by omega
   subst hkl
   rw [List.take_length] at hpos ⊢
   go_wp2
   go_ret
   exact ⟨ret_int (by rw [leftOfItm, if_neg (by omega)]), hb⟩
set_option maxHeartbeats 2000000 in
theorem toItm_one (x : TI) (w : World) :
  Calls Tryz.prog 56 #[.agg #[.int .i64 x.1, .int .i64 x.2.1.1, .int .i64 x.2.1.2.1, .string x.2.1.2.2, .string x.2.2]] w fun e w' => e = .returned (.agg #[.int .i64 x.1, .int .i64 x.2.1.1, .int .i64 x.2.1.2.1, .string x.2.1.2.2, .string x.2.2]) ∧ Below w.heap.size w w' := by
 obtain ⟨k, ⟨ck, cn, ct⟩, s⟩ := x
 dsimp only
 go_enter Tryz.func56, Tryz.ntmps56
 go_wp2_with fail
 refine (to_laws ck cn ct _).mono ?_
 rintro e w1 ⟨rfl, hb1⟩
 have hb0 := hb1
 obtain ⟨hc, hf⟩ := bcell hb1
 have hx : Below w.heap.size w w1 := by
  refine Below.trans ?_ (hb0.mono (by first | (simp; done) | (simp; omega)))
  repeat (first | exact Below.refl _ _ | refine Below.alloc ?_ (by first | exact Nat.le_refl _ | (simp; done) | (simp; omega)) _)
 have q : (w1.cell? ⟨w.heap.size + 1, 0, none⟩ = some (.int .i64 0) ∧ w1.cell? ⟨w.heap.size + 1, 1, none⟩ = some (.int .i64 0) ∧ w1.cell? ⟨w.heap.size + 1, 2, none⟩ = some (.int .i64 0) ∧ w1.cell? ⟨w.heap.size + 1, 3, none⟩ = some (.string ⟨#[]⟩) ∧ w1.cell? ⟨w.heap.size + 1, 4, none⟩ = some (.string ⟨#[]⟩)) ∧ (w1.frozen? ⟨w.heap.size + 1, 0, none⟩ = false ∧ w1.frozen? ⟨w.heap.size + 1, 1, none⟩ = false ∧ w1.frozen? ⟨w.heap.size + 1, 2, none⟩ = false ∧ w1.frozen? ⟨w.heap.size + 1, 3, none⟩ = false ∧ w1.frozen? ⟨w.heap.size + 1, 4, none⟩ = false) := by
  refine ⟨⟨?_, ?_, ?_, ?_, ?_⟩, ?_, ?_, ?_, ?_, ?_⟩ <;> first | (rw [hc _ _ (by first | (simp; done) | (simp; omega))]; simp) | (rw [hf _ _ (by first | (simp; done) | (simp; omega))]; simp)
 have p : (w1.cell? ⟨w.heap.size + 1 + 1, 0, none⟩ = some (.int .i64 k) ∧ w1.cell? ⟨w.heap.size + 1 + 1, 1, none⟩ = some (.int .i64 0) ∧ w1.cell? ⟨w.heap.size + 1 + 1, 2, none⟩ = some (.int .i64 0) ∧ w1.cell? ⟨w.heap.size + 1 + 1, 3, none⟩ = some (.string ⟨#[]⟩) ∧ w1.cell? ⟨w.heap.size + 1 + 1, 4, none⟩ = some (.string ⟨#[]⟩)) ∧ (w1.frozen? ⟨w.heap.size + 1 + 1, 0, none⟩ = false ∧ w1.frozen? ⟨w.heap.size + 1 + 1, 1, none⟩ = false ∧ w1.frozen? ⟨w.heap.size + 1 + 1, 2, none⟩ = false ∧ w1.frozen? ⟨w.heap.size + 1 + 1, 3, none⟩ = false ∧ w1.frozen? ⟨w.heap.size + 1 + 1, 4, none⟩ = false) := by
  refine ⟨⟨?_, ?_, ?_, ?_, ?_⟩, ?_, ?_, ?_, ?_, ?_⟩ <;> first | (rw [hc _ _ (by first | (simp; done) | (simp; omega))]; simp) | (rw [hf _ _ (by first | (simp; done) | (simp; omega))]; simp)
 obtain ⟨⟨q0, q1, q2, q3, q4⟩, f0, f1, f2, f3, f4⟩ := q
 obtain ⟨⟨p0, p1, p2, p3, p4⟩, e0, e1, e2, e3, e4⟩ := p
 have z4 : w1.cell? ⟨w.heap.size, 4, none⟩ = some (.string s) := by rw [hc _ _ (by first | (simp; done) | (simp; omega))]; first | (simp; done) | (rw [World.cell?_alloc_past _ _ _ (by first | (simp; done) | (simp; omega)), World.cell?_alloc_past _ _ _ (by first | (simp; done) | (simp; omega))]; simp)
 clear hc hf hb0 hb1
 go_wp2
 obtain ⟨t0, t1, t2, t3, t4⟩ := five (w := ((((w1.setCell ⟨w.heap.size + 1 + 1, 1, none⟩ (.int .i64 ck)).setCell ⟨w.heap.size + 1 + 1, 2, none⟩ (.int .i64 cn)).setCell ⟨w.heap.size + 1 + 1, 3, none⟩ (.string ct)).setCell ⟨w.heap.size + 1 + 1, 4, none⟩ (.string s))) (b := w.heap.size + 1) (.int .i64 k) (.int .i64 ck) (.int .i64 cn) (.string ct) (.string s) (by rw [cell_far _ _ _ _ _ _ (by omega), cell_far _ _ _ _ _ _ (by omega), cell_far _ _ _ _ _ _ (by omega), cell_far _ _ _ _ _ _ (by omega)]; exact q0) (by rw [cell_far _ _ _ _ _ _ (by omega), cell_far _ _ _ _ _ _ (by omega), cell_far _ _ _ _ _ _ (by omega), cell_far _ _ _ _ _ _ (by omega)]; exact q1) (by rw [cell_far _ _ _ _ _ _ (by omega), cell_far _ _ _ _ _ _ (by omega), cell_far _ _ _ _ _ _ (by omega), cell_far _ _ _ _ _ _ (by omega)]; exact q2) (by rw [cell_far _ _ _ _ _ _ (by omega), cell_far _ _ _ _ _ _ (by omega), cell_far _ _ _ _ _ _ (by omega), cell_far _ _ _ _ _ _ (by omega)]; exact q3) (by rw [cell_far _ _ _ _ _ _ (by omega), cell_far _ _ _ _ _ _ (by omega), cell_far _ _ _ _ _ _ (by omega), cell_far _ _ _ _ _ _ (by omega)]; exact q4)
 obtain ⟨WF, hWF⟩ : ∃ W, W = (((((((((w1.setCell ⟨w.heap.size + 1 + 1, 1, none⟩ (.int .i64 ck)).setCell ⟨w.heap.size + 1 + 1, 2, none⟩ (.int .i64 cn)).setCell ⟨w.heap.size + 1 + 1, 3, none⟩ (.string ct)).setCell ⟨w.heap.size + 1 + 1, 4, none⟩ (.string s)).setCell ⟨w.heap.size + 1, 0, none⟩ (.int .i64 k)).setCell ⟨w.heap.size + 1, 1, none⟩ (.int .i64 ck)).setCell ⟨w.heap.size + 1, 2, none⟩ (.int .i64 cn)).setCell ⟨w.heap.size + 1, 3, none⟩ (.string ct)).setCell ⟨w.heap.size + 1, 4, none⟩ (.string s)) := ⟨_, rfl⟩
 rw [← hWF] at t0 t1 t2 t3 t4 ⊢
 have hxF : Below w.heap.size w WF := by
  rw [hWF]
  exact (((((((((hx.setCell (p := ⟨w.heap.size + 1 + 1, 1, none⟩) (show w.heap.size ≤ w.heap.size + 1 + 1 by omega) _).setCell (p := ⟨w.heap.size + 1 + 1, 2, none⟩) (show w.heap.size ≤ w.heap.size + 1 + 1 by omega) _).setCell (p := ⟨w.heap.size + 1 + 1, 3, none⟩) (show w.heap.size ≤ w.heap.size + 1 + 1 by omega) _).setCell (p := ⟨w.heap.size + 1 + 1, 4, none⟩) (show w.heap.size ≤ w.heap.size + 1 + 1 by omega) _).setCell (p := ⟨w.heap.size + 1, 0, none⟩) (show w.heap.size ≤ w.heap.size + 1 by omega) _).setCell (p := ⟨w.heap.size + 1, 1, none⟩) (show w.heap.size ≤ w.heap.size + 1 by omega) _).setCell (p := ⟨w.heap.size + 1, 2, none⟩) (show w.heap.size ≤ w.heap.size + 1 by omega) _).setCell (p := ⟨w.heap.size + 1, 3, none⟩) (show w.heap.size ≤ w.heap.size + 1 by omega) _).setCell (p := ⟨w.heap.size + 1, 4, none⟩) (show w.heap.size ≤ w.heap.size + 1 by omega) _)
 clear hWF
 exact bodyPost_ret (v := .agg #[.int .i64 k, .int .i64 ck, .int .i64 cn, .string ct, .string s]) (by simp [results, Tryz.results56, go_sem, t0, t1, t2, t3, t4]) rfl ⟨rfl, hxF⟩
set_option maxHeartbeats 2000000 in
theorem eqItm_one (x : TI) (w : World) :
  Calls Tryz.prog 64 #[.agg #[.int .i64 x.1, .int .i64 x.2.1.1, .int .i64 x.2.1.2.1, .string x.2.1.2.2, .string x.2.2], .agg #[.int .i64 x.1, .int .i64 x.2.1.1, .int .i64 x.2.1.2.1, .string x.2.1.2.2, .string x.2.2]] w fun e w' => e = .returned (.bool true) ∧ Below w.heap.size w w' := by
 obtain ⟨k, ⟨ck, cn, ct⟩, s⟩ := x
 dsimp only
 go_enter Tryz.func64, Tryz.ntmps64
 go_wp2_with fail
 refine (eq_laws ck cn ct _).mono ?_
 rintro e w1 ⟨rfl, hb1⟩
 have hx : Below w.heap.size w w1 := by
  refine Below.trans ?_ (hb1.mono (by first | (simp; done) | (simp; omega)))
  repeat (first | exact Below.refl _ _ | refine Below.alloc ?_ (by first | exact Nat.le_refl _ | (simp; done) | (simp; omega)) _)
 obtain ⟨hc, hf⟩ := bcell hb1
 have z4 : w1.cell? ⟨w.heap.size, 4, none⟩ = some (.string s) := by rw [hc _ _ (by first | (simp; done) | (simp; omega))]; simp
 have z5 : w1.cell? ⟨w.heap.size + 1, 4, none⟩ = some (.string s) := by rw [hc _ _ (by first | (simp; done) | (simp; omega))]; simp
 clear hc hf
 go_wp2
 go_ret
 exact ⟨rfl, hx⟩
theorem infoItm : (Tryz.prog.info? 97).map (fun i => (i.zero, i.size, i.bytes)) = some (some (.agg #[.int .i64 0, .int .i64 0, .int .i64 0, .string ⟨#[]⟩, .string ⟨#[]⟩]), 5, 56) := by kernel_rfl
set_option maxRecDepth 100000 in
set_option maxHeartbeats 2000000 in
theorem tosItm (a : Option Addr) (cap : Nat) (l : List TI) (w : World) (hrow : ItmAt w a l) (hm : l.length ≤ 1048576) :
  Calls Tryz.prog 39 #[.slice a l.length cap] w fun e w' => e = .returned (.slice (some ⟨w.heap.size, 0, none⟩) l.length l.length) ∧
   w'.ownsRow w.heap.size 97 5 (.slice (some ⟨w.heap.size, 0, none⟩) l.length l.length) l.length (flatItm l) ∧ Below w.heap.size w w' := by
 obtain ⟨i0, hi, hz0, hz1, hz2⟩ := info_parts infoItm
 have hR := hid hrow
 clear hrow
 go_enter Tryz.func39, Tryz.ntmps39
 go_wp2_with (at_make; refine wpList_make_full _ rfl _ _ 53 rfl w.heap.size 97 i0 (.agg #[.int .i64 0, .int .i64 0, .int .i64 0, .string ⟨#[]⟩, .string ⟨#[]⟩]) 5 Tryz.underlying53 hi hz0 hz1 .i64 .i64 _ _ l.length rfl rfl rfl rfl ?b2 ?b3 (Nat.le_refl _) ?_)
 case b2 => rw [hz2]; omega
 case b3 => unfold maxLen; omega
 intro w1 hown hgrow
 have hb1 : Below w.heap.size w w1 := (Below.refl _ _).grown hgrow (Nat.le_refl _) (by intro k h; cases h)
 generalize (madeCells _ _).toList = z at hown
 have hzl : z.length = l.length * 5 := hown.1
 have hO := hid hown
 clear hown hgrow
 go_wp2
 go_loopw [4] (fun i wr => ∃ k : Nat, k ≤ l.length ∧ i = .int .i64 k ∧ wr.ownsRow w.heap.size 97 5 (.slice (some ⟨w.heap.size, 0, none⟩) l.length l.length) l.length (flatItm (l.take k) ++ z.drop (k * 5)) ∧ Below w.heap.size w wr)
  (fun i _ => l.length - (intOf i).toNat)
 case atStart => exact ⟨0, Nat.zero_le _, rfl, by simpa [flatItm] using hO.out, hb1⟩
 case round =>
  obtain ⟨k, hk, rfl, hown, hb⟩ := hrel
  by_cases hlt : k < l.length
  · obtain ⟨b, o, rfl, hbw, c0, c1, c2, c3, c4⟩ := hR.out.below hb k hlt
   have hi0 : (0 : Int) ≤ (k : Int) := by omega
   have hi1 : (k : Int) < (l.length : Int) := by omega
   have hst := flatItm_step l k hlt z hzl
   have hown' : Hid (wr.ownsRow w.heap.size 97 5 (.slice (some ⟨w.heap.size, 0, none⟩) l.length l.length) l.length (flatItm (l.take k) ++ z.drop (k * 5))) := hown
   clear hown
   generalize l[k] = x at c0 c1 c2 c3 c4 hst
   go_wp2_with fail
   refine (toItm_one x _).mono ?_
   rintro e w2 ⟨rfl, hb2⟩
   have own2 := own_below hown'.out hb2
   have hx := chain hb hb2
   obtain ⟨u0, g0⟩ : ∃ u, w2.cell? ⟨w.heap.size, k * 5, none⟩ = some u := ⟨_, (own2.cellAt (k * 5) (by omega)).trans (List.getElem?_eq_getElem (by rw [own2.1]; omega))⟩
   have f0 := own2.frozenAt (k * 5)
   obtain ⟨u1, g1⟩ : ∃ u, w2.cell? ⟨w.heap.size, k * 5 + 1, none⟩ = some u := ⟨_, (own2.cellAt (k * 5 + 1) (by omega)).trans (List.getElem?_eq_getElem (by rw [own2.1]; omega))⟩
   have f1 := own2.frozenAt (k * 5 + 1)
   obtain ⟨u2, g2⟩ : ∃ u, w2.cell? ⟨w.heap.size, k * 5 + 2, none⟩ = some u := ⟨_, (own2.cellAt (k * 5 + 2) (by omega)).trans (List.getElem?_eq_getElem (by rw [own2.1]; omega))⟩
   have f2 := own2.frozenAt (k * 5 + 2)
   obtain ⟨u3, g3⟩ : ∃ u, w2.cell? ⟨w.heap.size, k * 5 + 3, none⟩ = some u := ⟨_, (own2.cellAt (k * 5 + 3) (by omega)).trans (List.getElem?_eq_getElem (by rw [own2.1]; omega))⟩
   have f3 := own2.frozenAt (k * 5 + 3)
   obtain ⟨u4, g4⟩ : ∃ u, w2.cell? ⟨w.heap.size, k * 5 + 4, none⟩ = some u := ⟨_, (own2.cellAt (k * 5 + 4) (by omega)).trans (List.getElem?_eq_getElem (by rw [own2.1]; omega))⟩
   have f4 := own2.frozenAt (k * 5 + 4)
   have hO2 := hid own2
   clear own2 hown' hb2
   go_wp2
   go_roundw
   case rel =>
    refine ⟨k + 1, by omega, by go_num, ?_, ?_⟩
    · have r := (((((hO2.out.stored (k * 5) (.int .i64 x.1)).1.stored (k * 5 + 1) (.int .i64 x.2.1.1)).1.stored (k * 5 + 2) (.int .i64 x.2.1.2.1)).1.stored (k * 5 + 3) (.string x.2.1.2.2)).1.stored (k * 5 + 4) (.string x.2.2))
     rw [hst] at r; exact r.1
    · exact (((((hx.setCell (Nat.le_refl _) _).setCell (Nat.le_refl _) _).setCell (Nat.le_refl _) _).setCell (Nat.le_refl _) _).setCell (Nat.le_refl _) _)
   case measure => simp [intOf]; omega
  · have hkl : k = l.length := by omega
   subst hkl
   rw [List.take_length, List.drop_of_length_le (by omega), List.append_nil] at hown
   go_wp2
   go_ret
   exact ⟨rfl, hown, hb⟩
set_option maxRecDepth 100000 in
set_option maxHeartbeats 2000000 in
theorem eqsItm (a b : Option Addr) (ca cb : Nat) (l : List TI) (w : World) (ha : ItmAt w a l) (hb : ItmAt w b l) (hm : l.length ≤ maxLen) :
  Calls Tryz.prog 49 #[.slice a l.length ca, .slice b l.length cb] w fun e w' => e = .returned (.bool true) ∧ Below w.heap.size w w' := by
 have hA := hid ha
 have hB := hid hb
 clear ha hb
 unfold maxLen at hm
 go_enter Tryz.func49, Tryz.ntmps49
 go_wp2
 go_loopw [5] (fun i wr => ∃ k : Nat, k ≤ l.length ∧ i = .int .i64 k ∧ Below w.heap.size w wr) (fun i _ => l.length - (intOf i).toNat)
 case atStart => exact ⟨0, Nat.zero_le _, rfl, Below.refl _ _⟩
 case round =>
  obtain ⟨k, hk, rfl, hx⟩ := hrel
  by_cases hlt : k < l.length
  · obtain ⟨b1, o1, rfl, hbw, c0, c1, c2, c3, c4⟩ := hA.out.below hx k hlt
   obtain ⟨b2, o2, rfl, hbw2, d0, d1, d2, d3, d4⟩ := hB.out.below hx k hlt
   have hi0 : (0 : Int) ≤ (k : Int) := by omega
   have hi1 : (k : Int) < (l.length : Int) := by omega
   generalize l[k] = x at c0 c1 c2 c3 c4 d0 d1 d2 d3 d4
   go_wp2_with fail
   refine wp_region_held_drew (S := (fun w' => (w'.cell? ⟨b1, o1 + k * 5, none⟩ = some (.int .i64 x.1) ∧ w'.cell? ⟨b1, o1 + k * 5 + 1, none⟩ = some (.int .i64 x.2.1.1) ∧ w'.cell? ⟨b1, o1 + k * 5 + 2, none⟩ = some (.int .i64 x.2.1.2.1) ∧ w'.cell? ⟨b1, o1 + k * 5 + 3, none⟩ = some (.string x.2.1.2.2) ∧ w'.cell? ⟨b1, o1 + k * 5 + 4, none⟩ = some (.string x.2.2)) ∧ (w'.cell? ⟨b2, o2 + k * 5, none⟩ = some (.int .i64 x.1) ∧ w'.cell? ⟨b2, o2 + k * 5 + 1, none⟩ = some (.int .i64 x.2.1.1) ∧ w'.cell? ⟨b2, o2 + k * 5 + 2, none⟩ = some (.int .i64 x.2.1.2.1) ∧ w'.cell? ⟨b2, o2 + k * 5 + 3, none⟩ = some (.string x.2.1.2.2) ∧ w'.cell? ⟨b2, o2 + k * 5 + 4, none⟩ = some (.string x.2.2)))) (by kernel_rfl) ?_ (fun hHeld => ?_)
   · exact ⟨⟨c0, c1, c2, c3, c4⟩, ⟨d0, d1, d2, d3, d4⟩⟩
   refine tkH 0 ?_
   simp only [Act.put, ptT, ptZ, ptS]
   refine tkH 1 ?_
   simp only [Act.put, ptT, ptZ, ptS]
   refine tkH 2 ?_
   simp only [Act.put, ptT, ptZ, ptS]
   refine tkH 3 ?_
   simp only [Act.put, ptT, ptZ, ptS]
   refine tkH 4 ?_
   simp only [Act.put, ptT, ptZ, ptS]
   refine tkH 5 ?_
   simp only [Act.put, ptT, ptZ, ptS]
   refine tkH 6 ?_
   simp only [Act.put, ptT, ptZ, ptS]
   refine tkH 7 ?_
   simp only [Act.put, ptT, ptZ, ptS]
   refine oneH 8 ?_
   intro K hK
   go_simp
   refine (eqItm_one x _).mono ?_
   rintro e w1 ⟨rfl, hb1'⟩
   have hb1 : Below wr.heap.size wr w1 := undrew hb1'
   rw [← hb1.cell (p := ⟨b1, _, none⟩) hbw] at c0 c1 c2 c3 c4
   rw [← hb1.cell (p := ⟨b2, _, none⟩) hbw2] at d0 d1 d2 d3 d4
   go_wp2_with fail
   refine hK.out _ _ ⟨⟨c0, c1, c2, c3, c4⟩, ⟨d0, d1, d2, d3, d4⟩⟩ (fun hHeld => ?_)
   clear hK K
   try simp only [Act.put, ptT, ptZ, ptS]
   refine tkH 9 ?_
   simp only [Act.put, ptT, ptZ, ptS]
   refine wpAnyH_done (by kernel_rfl) ?_ _
   clear c0 c1 c2 c3 c4 d0 d1 d2 d3 d4
   go_wp2
   go_roundw
   case rel => exact ⟨k + 1, by omega, by go_num, chain hx hb1⟩
   case measure => simp [intOf]; omega
  · go_wp2
   go_ret
   exact ⟨rfl, hx⟩
theorem signs_spec (w : World) :
  Calls Tryz.prog 116 #[] w fun e w' => ∃ g, e = .returned (.slice (some ⟨g, 0, none⟩) 4 4) ∧ StrsAt w' (some ⟨g, 0, none⟩) signW ∧ Below w.heap.size w w' := by
 go_enter Tryz.func116, Tryz.ntmps116
 go_wp2
 go_ret
 refine ⟨w.heap.size, rfl, ?_, (Below.refl _ _).alloc (Nat.le_refl _) _⟩
 intro j hj
 simp only [signW, List.length_cons, List.length_nil] at hj
 refine ⟨w.heap.size, 0, rfl, by simp, ?_⟩
 match j, hj with
 | 0, _ => simp [signW]
 | 1, _ => simp [signW]
 | 2, _ => simp [signW]
 | 3, _ => simp [signW]
theorem at_specT (n : Nat) (a : Option Addr) (cap : Nat) (l : List ByteArray) (hn : l.length = n) (s : ByteArray) (w : World) (hrow : StrsAt w a l) (hm : n ≤ maxLen) :
  Calls Tryz.prog 38 #[.slice a n cap, .string s] w fun e w' => ∃ r, e = .returned (.int .i64 r) ∧ AtIs l s r ∧ Below w.heap.size w w' := by
 subst hn; exact at_spec a cap l s w hrow hm
theorem word_lit (s : ByteArray) (l : List UInt8) (b : Bool) (h : decide (s.data.toList ≠ l) = b) : (s.toList == l) = !b := by
 rw [Lib.toList_data, ← h]
 by_cases e : s.data.toList = l
 · rw [e]; simp
 · rw [decide_eq_true e]; simpa using e
set_option maxHeartbeats 1000000 in
theorem namek_spec (s : ByteArray) (w : World) (hs : s.size ≤ maxLen) (b : Bool) (hb : nameK s = b) :
  Calls Tryz.prog 91 #[.string s] w fun e w' => e = .returned (.bool b) ∧ Below w.heap.size w w' := by
 have HB := hid hb
 clear hb
 obtain ⟨n1, hn1⟩ : ∃ x, nameB s = x := ⟨_, rfl⟩
 have HN1 := hid hn1
 go_enter Tryz.func91, Tryz.ntmps91
 go_wp2_with fail
 refine (name_spec s w hs n1 hn1).mono ?_
 rintro e w1 ⟨rfl, rfl⟩
 cases n1
 · obtain rfl : b = false := by rw [← HB.out]; unfold nameK; rw [hn1, Bool.false_and]
  clear hn1
  go_wp2
  go_ret
  exact ⟨rfl, Below.refl _ _⟩
 clear hn1
 go_wp2_with fail
 refine (signs_spec w1).mono ?_
 rintro e w2 ⟨g, rfl, hst, hb2⟩
 go_wp2_with fail
 refine (at_specT 4 _ _ signW rfl s _ hst (by unfold maxLen; omega)).mono ?_
 rintro e w3 ⟨r, rfl, hat, hb3⟩
 have hx := chain hb2 hb3
 have hrr := hat.neg
 by_cases hr : 0 ≤ r
 · have hin : inB signW s = true := inB_iff.2 (hrr.1 hr)
  obtain rfl : b = false := by rw [← HB.out]; unfold nameK; rw [HN1.out, hin]; rfl
  have hr' : ¬ r < 0 := by omega
  clear hat hst hrr
  go_wp2
  go_ret
  exact ⟨rfl, hx⟩
 · have hin : inB signW s = false := inB_no.2 (fun h => hr (hrr.2 h))
  have HB2 : Hid ((decide (s.data.toList ≠ wNone) && (decide (s.data.toList ≠ wYes) && decide (s.data.toList ≠ wNo))) = b) := by
   have : (decide (s.data.toList ≠ wNone) && (decide (s.data.toList ≠ wYes) && decide (s.data.toList ≠ wNo))) = b := by
    rw [← HB.out]; unfold nameK; rw [HN1.out, hin]; rfl
   exact this
  have hr' : r < 0 := by omega
  obtain ⟨b1, h1⟩ : ∃ x, decide (s.data.toList ≠ wNone) = x := ⟨_, rfl⟩
  obtain ⟨b2, h2⟩ : ∃ x, decide (s.data.toList ≠ wYes) = x := ⟨_, rfl⟩
  obtain ⟨b3, h3⟩ : ∃ x, decide (s.data.toList ≠ wNo) = x := ⟨_, rfl⟩
  have e1 := word_lit s wNone b1 h1
  have e2 := word_lit s wYes b2 h2
  have e3 := word_lit s wNo b3 h3
  have HBB : Hid ((b1 && (b2 && b3)) = b) := by
   have : (b1 && (b2 && b3)) = b := by rw [← HB2.out, h1, h2, h3]
   exact this
  unfold wNone at e1
  unfold wYes at e2
  unfold wNo at e3
  clear hat hst hrr hin HB HB2 h1 h2 h3
  cases b1
  · obtain rfl : false = b := HBB.out
   go_wp2
   go_ret
   exact ⟨rfl, hx⟩
  cases b2
  · obtain rfl : false = b := HBB.out
   go_wp2
   go_ret
   exact ⟨rfl, hx⟩
  cases b3
  · obtain rfl : false = b := HBB.out
   go_wp2
   go_ret
   exact ⟨rfl, hx⟩
  · obtain rfl : true = b := HBB.out
   go_wp2
   go_ret
   exact ⟨rfl, hx⟩
theorem zeroC_same (c : CK) (b : Bool) (h : decide (c = zeroC) = b) : sameB c.1 c.2.1 c.2.2 0 0 ⟨#[]⟩ = b := by
 rw [← h]
 rw [Bool.eq_iff_iff, sameB_eq, decide_eq_true_eq]
 obtain ⟨x, y, z⟩ := c
 unfold zeroC
 simp
end Go.Proofs.YtjjkdbmjloolaaaGreatDoor
