/-
  A part of the proof: Three1, Three2, Three3, Sure, Kept, NamesMath, Until, ShowSumS.
-/
import Derived.Test.YtegnekbbbfncgaaGreatDoorPart14
import Derived.Test.YtegnekbbbfncgaaGreatDoorPart16
import Derived.Test.YtegnekbbbfncgaaGreatDoorPart8
import Derived.Test.YtegnekbbbfncgaaGreatDoorPart13
import Derived.Test.YtegnekbbbfncgaaGreatDoorPart4
import Derived.Deep.RegionHeld3

/-
  The contracts of the program's own small functions on truths: what an answer's rank is, what the lesser, the greater and the turned one of ranks is, and the cell of a rank.
-/
namespace Go.Proofs.YtegnekbbbfncgaaGreatDoor
open Go.ChangeShapes Go.WideShapes Go.ChangeAt Go.RowKit

/-- A right cell that is a truth or none. -/
def threeB (k n : Int) (t : ByteArray) : Bool := okB k n t && (k == 3 || k == 0)
/-- Where an answer stands: no, nobody knows, yes. -/
def rankI (k n : Int) : Int := if k = 0 then 1 else if n = 1 then 2 else 0
set_option maxHeartbeats 400000 in
theorem answer_wrong (k n : Int) (t : ByteArray) (h : okB k n t = false) (w : World) (ht : t.size ≤ maxLen) :
    Calls Tryz.prog 204 #[.agg #[.int .i64 k, .int .i64 n, .string t]] w fun e w' => e = .returned (.tuple #[.int .i64 0, .bool false]) ∧ Below w.heap.size w w' := by
  go_enter Tryz.func204, Tryz.ntmps204
  go_wp2_with fail
  refine (ok_implb _ _ _ _ h _ ht).mono ?_
  rintro e w1 ⟨rfl, hb1⟩
  have hx := chainA hb1
  go_wp2
  go_ret2
  exact ⟨rfl, by go_grown⟩

set_option maxHeartbeats 400000 in
theorem answer_none (n : Int) (t : ByteArray) (h : okB 0 n t = true) (w : World) (ht : t.size ≤ maxLen) :
    Calls Tryz.prog 204 #[.agg #[.int .i64 0, .int .i64 n, .string t]] w fun e w' => e = .returned (.tuple #[.int .i64 1, .bool true]) ∧ Below w.heap.size w w' := by
  have q0 := asserts_noneShape
  go_enter Tryz.func204, Tryz.ntmps204
  go_wp2_with fail
  refine (ok_implb _ _ _ _ h _ ht).mono ?_
  rintro e w1 ⟨rfl, hb1⟩
  obtain ⟨a1, b1, c1, d1⟩ := box3 hb1
  go_wp2_with fail
  refine (shape0 _ _ _).mono ?_
  rintro e w2 ⟨rfl, hb2⟩
  have hx := chain (chainA hb1) hb2
  have hxs := hx.size
  go_wp2
  go_ret2
  exact ⟨rfl, by go_grown⟩

set_option maxHeartbeats 400000 in
theorem answer_num (n : Int) (t : ByteArray) (h : okB 1 n t = true) (w : World) (ht : t.size ≤ maxLen) :
    Calls Tryz.prog 204 #[.agg #[.int .i64 1, .int .i64 n, .string t]] w fun e w' => e = .returned (.tuple #[.int .i64 0, .bool false]) ∧ Below w.heap.size w w' := by
  have q0 := asserts_numberShape.1
  have q1 : (∀ (v : Value) (w : World), (Instr.typeAssert (.iface 204 v) 230 267 true).run Tryz.prog w = .ok (.tuple #[.agg #[.int .i64 0], .bool false]) w) := fun v w => by kernel_rfl
  go_enter Tryz.func204, Tryz.ntmps204
  go_wp2_with fail
  refine (ok_implb _ _ _ _ h _ ht).mono ?_
  rintro e w1 ⟨rfl, hb1⟩
  obtain ⟨a1, b1, c1, d1⟩ := box3 hb1
  go_wp2_with fail
  refine (shape1 _ _ _).mono ?_
  rintro e w2 ⟨rfl, hb2⟩
  have hx := chain (chainA hb1) hb2
  have hxs := hx.size
  go_wp2
  go_ret2
  exact ⟨rfl, by go_grown⟩

set_option maxHeartbeats 400000 in
theorem answer_text (n : Int) (t : ByteArray) (h : okB 2 n t = true) (w : World) (ht : t.size ≤ maxLen) :
    Calls Tryz.prog 204 #[.agg #[.int .i64 2, .int .i64 n, .string t]] w fun e w' => e = .returned (.tuple #[.int .i64 0, .bool false]) ∧ Below w.heap.size w w' := by
  have q0 := asserts_textShape.1
  have q1 : (∀ (v : Value) (w : World), (Instr.typeAssert (.iface 285 v) 230 267 true).run Tryz.prog w = .ok (.tuple #[.agg #[.int .i64 0], .bool false]) w) := fun v w => by kernel_rfl
  go_enter Tryz.func204, Tryz.ntmps204
  go_wp2_with fail
  refine (ok_implb _ _ _ _ h _ ht).mono ?_
  rintro e w1 ⟨rfl, hb1⟩
  obtain ⟨a1, b1, c1, d1⟩ := box3 hb1
  go_wp2_with fail
  refine (shape2 _ _ _).mono ?_
  rintro e w2 ⟨rfl, hb2⟩
  have hx := chain (chainA hb1) hb2
  have hxs := hx.size
  go_wp2
  go_ret2
  exact ⟨rfl, by go_grown⟩

set_option maxHeartbeats 400000 in
theorem answer_truth (n : Int) (t : ByteArray) (h : okB 3 n t = true) (w : World) (ht : t.size ≤ maxLen) :
    Calls Tryz.prog 204 #[.agg #[.int .i64 3, .int .i64 n, .string t]] w fun e w' => e = .returned (.tuple #[.int .i64 (if n = 1 then 2 else 0), .bool true]) ∧ Below w.heap.size w w' := by
  have q0 := asserts_truthShape.1
  have q3 := asserts_truthShape.2.2.2
  by_cases hn : n = 1
  · subst hn
    go_enter Tryz.func204, Tryz.ntmps204
    go_wp2_with fail
    refine (ok_implb _ _ _ _ h _ ht).mono ?_
    rintro e w1 ⟨rfl, hb1⟩
    obtain ⟨a1, b1, c1, d1⟩ := box3 hb1
    go_wp2_with fail
    refine (shape3 _ _ _).mono ?_
    rintro e w2 ⟨rfl, hb2⟩
    have hx := chain (chainA hb1) hb2
    have hxs := hx.size
    go_wp2
    go_ret2
    exact ⟨rfl, by go_grown⟩
  · rw [if_neg hn]
    go_enter Tryz.func204, Tryz.ntmps204
    go_wp2_with fail
    refine (ok_implb _ _ _ _ h _ ht).mono ?_
    rintro e w1 ⟨rfl, hb1⟩
    obtain ⟨a1, b1, c1, d1⟩ := box3 hb1
    go_wp2_with fail
    refine (shape3 _ _ _).mono ?_
    rintro e w2 ⟨rfl, hb2⟩
    have hx := chain (chainA hb1) hb2
    have hxs := hx.size
    go_wp2
    go_ret2
    exact ⟨rfl, by go_grown⟩

/-- What the program makes of a cell to answer with. -/
theorem answer_impl (k n : Int) (t : ByteArray) (x : Int) (rt : Bool) (hr : threeB k n t = rt) (hx : (if rt = true then rankI k n else 0) = x) (w : World) (ht : t.size ≤ maxLen) :
    Calls Tryz.prog 204 #[.agg #[.int .i64 k, .int .i64 n, .string t]] w fun e w' => e = .returned (.tuple #[.int .i64 x, .bool rt]) ∧ Below w.heap.size w w' := by
  subst hr hx
  cases h : okB k n t
  · have h2 : threeB k n t = false := by simp [threeB, h]
    rw [h2]; exact answer_wrong k n t h w ht
  by_cases k0 : k = 0
  · subst k0
    have h2 : threeB 0 n t = true := by simp [threeB, h]
    rw [h2]; exact answer_none n t h w ht
  by_cases k3 : k = 3
  · subst k3
    have h2 : threeB 3 n t = true := by simp [threeB, h]
    rw [h2]; exact answer_truth n t h w ht
  have h2 : threeB k n t = false := by simp [threeB, k0, k3]
  rw [h2]
  by_cases k1 : k = 1
  · subst k1; exact answer_num n t h w ht
  by_cases k2 : k = 2
  · subst k2; exact answer_text n t h w ht
  · exact absurd h (by simp [okB, k0, k1, k2, k3])

end Go.Proofs.YtegnekbbbfncgaaGreatDoor

/-
  The contracts of the program's Both, Either, Not, IsNone and Holds: what comes of right answers, and what else.
-/
namespace Go.Proofs.YtegnekbbbfncgaaGreatDoor
open Go.ChangeShapes Go.WideShapes Go.ChangeAt Go.RowKit
attribute [local go_sem ↓] Go.wp_at_zero Go.wp_at_succ

end Go.Proofs.YtegnekbbbfncgaaGreatDoor

/-
  The contracts of the model's Not, IsNone and Holds: they come to what the program's come to.
-/
namespace Go.Proofs.YtegnekbbbfncgaaGreatDoor
open Go.ChangeShapes Go.WideShapes Go.ChangeAt Go.RowKit
attribute [local go_sem ↓] Go.wp_at_zero Go.wp_at_succ

set_option maxHeartbeats 400000 in
theorem three_specb (k n : Int) (t : ByteArray) (b : Bool) (hb : threeB k n t = b) (w : World) (ht : t.size ≤ maxLen) :
    Calls Tryz.prog 130 #[.agg #[.int .i64 k, .int .i64 n, .string t]] w fun e w' => e = .returned (.bool b) ∧ Below w.heap.size w w' := by
  subst hb
  cases h : okB k n t
  · rw [show threeB k n t = false from by simp [threeB, h]]
    go_enter Tryz.func130, Tryz.ntmps130
    go_wp2_with fail
    refine (ok_specb _ _ _ _ h _ ht).mono ?_
    rintro e w1 ⟨rfl, hb1⟩
    go_wp2
    go_ret
    exact ⟨rfl, chainA hb1⟩
  · rw [show threeB k n t = (k == 3 || k == 0) from by simp [threeB, h]]
    by_cases k3 : k = 3
    · subst k3
      go_enter Tryz.func130, Tryz.ntmps130
      go_wp2_with fail
      refine (ok_specb _ _ _ _ h _ ht).mono ?_
      rintro e w1 ⟨rfl, hb1⟩
      obtain ⟨a1, b1, c1, d1⟩ := box3 hb1
      go_wp2
      go_ret
      exact ⟨rfl, chainA hb1⟩
    · rw [show (k == 3) = false from by simp [k3], Bool.false_or]
      go_enter Tryz.func130, Tryz.ntmps130
      go_wp2_with fail
      refine (ok_specb _ _ _ _ h _ ht).mono ?_
      rintro e w1 ⟨rfl, hb1⟩
      obtain ⟨a1, b1, c1, d1⟩ := box3 hb1
      go_wp2
      go_ret
      exact ⟨ret_bool (by first | rfl | simp [*]), chainA hb1⟩

end Go.Proofs.YtegnekbbbfncgaaGreatDoor

/-
  IsSure, of the model and of the program.
-/
namespace Go.Proofs.YtegnekbbbfncgaaGreatDoor
open Go.ChangeShapes Go.WideShapes Go.ChangeAt Go.RowKit
attribute [local go_sem ↓] Go.wp_at_zero Go.wp_at_succ
attribute [local simp] World.cell?_alloc_past World.cell?_alloc_at World.frozen?_alloc_at cell_far cell_off cell_here World.frozen?_alloc_past

/-- Is this, as the last item of a sum that may not fail, one that answers true, false or nothing? -/
def lastB (x : TI) : Bool := decide (x.1 = 12) || (decide (x.1 = 1) && threeB x.2.1.1 x.2.1.2.1 x.2.1.2.2)
/-- What IsSure answers. -/
def sureR (l : List TI) : Bool := !mayR l && (match l.getLast? with | some x => lastB x | none => false)
theorem may_pos {l : List TI} (h : mayR l = false) : 0 < l.length := by
  cases l with
  | nil => exact absurd (show mayR [] = true from rfl) (by rw [h]; simp)
  | cons x l => simp
theorem sure_may {l : List TI} (h : mayR l = true) : sureR l = false := by unfold sureR; rw [h]; rfl
theorem sure_at {l : List TI} {k : Nat} (hk : l.length = k + 1) (h : mayR l = false) : sureR l = lastB (l[k]'(by omega)) := by
  unfold sureR
  have e : l.getLast? = some (l[k]'(by omega)) := by
    rw [List.getLast?_eq_getElem?]
    have e2 : l.length - 1 = k := by omega
    rw [e2]
    exact List.getElem?_eq_getElem _
  rw [h, e]
  rfl
set_option maxHeartbeats 1000000 in
theorem sure_spec (a : Option Addr) (cap : Nat) (l : List TI) (n : Nat) (hn : l.length = n) (w : World) (hrow : ItmAt w a l) (hfit : FitItm l) (hm : n ≤ maxLen) (b : Bool) (hb : sureR l = b) :
    Calls Tryz.prog 68 #[.slice a n cap] w fun e w' => e = .returned (.bool b) ∧ Below w.heap.size w w' := by
  have HN : Hid (l.length = n) := hn
  have HR : Hid (ItmAt w a l) := hrow
  have HF : Hid (FitItm l) := hfit
  have HB : Hid (sureR l = b) := hb
  obtain ⟨y, hy⟩ : ∃ y, mayR l = y := ⟨_, rfl⟩
  have HY : Hid (mayR l = y) := hy
  clear hrow hfit hb hy
  go_enter Tryz.func68, Tryz.ntmps68
  go_wp2_with fail
  refine (may_specb a cap l n HN.out _ HR.out HF.out hm y HY.out).mono ?_
  rintro e w1 ⟨rfl, hb1⟩
  cases y
  · obtain ⟨k, rfl⟩ : ∃ k, n = k + 1 := ⟨n - 1, by have := may_pos HY.out; omega⟩
    have hk : k < l.length := by omega
    obtain ⟨g, o, rfl, hgw, c0, c1, c2, c3, c4⟩ := HR.out.below hb1 k hk
    have hL : lastB l[k] = b := (sure_at hn HY.out).symm.trans HB.out
    have hft := (HF.out k hk).1
    clear hn HB HY
    generalize l[k] = x at c0 c1 c2 c3 c4 hL hft
    obtain ⟨kd, ⟨ck, cn, ct⟩, nm⟩ := x
    simp only at c0 c1 c2 c3 c4 hft
    have hj : ((k + 1 : Nat) : Int) - 1 = (k : Int) := by omega
    have hi0 : (0 : Int) ≤ (k : Int) := by omega
    have hi1 : (k : Int) < ((k + 1 : Nat) : Int) := by omega
    unfold maxLen at hm
    obtain ⟨r, hr⟩ : ∃ r, threeB ck cn ct = r := ⟨_, rfl⟩
    have HRr : Hid (threeB ck cn ct = r) := hr
    by_cases h12 : kd = 12
    · subst h12
      obtain rfl : true = b := by rw [← hL]; rfl
      clear hL hr
      go_wp2
      go_ret
      exact ⟨rfl, chain hb1 ((Below.refl _ _).alloc (Nat.le_refl _) _)⟩
    · by_cases h1 : kd = 1
      · subst h1
        have HL : Hid (r = b) := by rw [← hL]; simp [lastB, hr]; exact ⟨⟩
        clear hL hr
        go_wp2_with fail
        refine (three_specb ck cn ct r HRr.out _ hft).mono ?_
        rintro e w2 ⟨rfl, hb2⟩
        have hx := chain (chain hb1 ((Below.refl _ _).alloc (Nat.le_refl _) _)) hb2
        obtain rfl := HL.out
        go_wp2
        go_ret
        exact ⟨rfl, hx⟩
      · obtain rfl : false = b := by rw [← hL]; simp [lastB, h12, h1]
        clear hL hr
        have hf12 : (kd == 12) = false := by simp [h12]
        go_wp2
        go_ret
        exact ⟨rfl, chain hb1 ((Below.refl _ _).alloc (Nat.le_refl _) _)⟩
  · obtain rfl : false = b := (sure_may HY.out).symm.trans HB.out
    go_wp2
    go_ret
    exact ⟨rfl, hb1⟩
set_option maxHeartbeats 1000000 in
theorem isanswer_impl (kd ck cn : Int) (ct nm : ByteArray) (w : World) (hct : ct.size ≤ maxLen) (b : Bool) (hb : lastB (kd, (ck, cn, ct), nm) = b) :
    Calls Tryz.prog 140 #[.agg #[.int .i64 kd, .int .i64 ck, .int .i64 cn, .string ct, .string nm]] w fun e w' => e = .returned (.bool b) ∧ Below w.heap.size w w' := by
  obtain ⟨r, hr⟩ : ∃ r, threeB ck cn ct = r := ⟨_, rfl⟩
  have HRr : Hid (threeB ck cn ct = r) := hr
  obtain ⟨x, hx⟩ : ∃ x, (if r = true then rankI ck cn else 0) = x := ⟨_, rfl⟩
  have HX : Hid ((if r = true then rankI ck cn else 0) = x) := hx
  clear hx
  by_cases h12 : kd = 12
  · subst h12
    obtain rfl : true = b := by rw [← hb]; rfl
    clear hb hr
    go_enter Tryz.func140, Tryz.ntmps140
    go_wp2
    go_ret
    exact ⟨rfl, (Below.refl _ _).alloc (Nat.le_refl _) _⟩
  · by_cases h1 : kd = 1
    · subst h1
      have HL : Hid (r = b) := by rw [← hb]; simp [lastB, hr]; exact ⟨⟩
      clear hb hr
      go_enter Tryz.func140, Tryz.ntmps140
      go_wp2_with fail
      refine (answer_impl ck cn ct x r HRr.out HX.out _ hct).mono ?_
      rintro e w2 ⟨rfl, hb2⟩
      obtain rfl := HL.out
      go_wp2
      go_ret
      exact ⟨rfl, chainA hb2⟩
    · obtain rfl : false = b := by rw [← hb]; simp [lastB, h12, h1]
      clear hb hr
      go_enter Tryz.func140, Tryz.ntmps140
      go_wp2
      go_ret
      exact ⟨rfl, (Below.refl _ _).alloc (Nat.le_refl _) _⟩
set_option maxHeartbeats 1000000 in
theorem sure_impl (a : Option Addr) (cap : Nat) (l : List TI) (n : Nat) (hn : l.length = n) (w : World) (hrow : ItmAt w a l) (hfit : FitI l) (hm : n ≤ maxLen) (hp : PowAt w) (he : ErrAt w) (b : Bool) (hb : sureR l = b) :
    Calls Tryz.prog 74 #[.slice a n cap] w fun e w' => e = .returned (.bool b) ∧ Below w.heap.size w w' := by
  have HN : Hid (l.length = n) := hn
  have HR : Hid (ItmAt w a l) := hrow
  have HF : Hid (FitI l) := hfit
  have HB : Hid (sureR l = b) := hb
  have HP : Hid (PowAt w) := hp
  have HE : Hid (ErrAt w) := he
  obtain ⟨y, hy⟩ : ∃ y, mayR l = y := ⟨_, rfl⟩
  have HY : Hid (mayR l = y) := hy
  clear hrow hfit hb hy hp he
  go_enter Tryz.func74, Tryz.ntmps74
  go_wp2_with fail
  refine (may_impl a cap l n HN.out _ HR.out HF.out hm HP.out HE.out y HY.out).mono ?_
  rintro e w1 ⟨rfl, hb1⟩
  cases y
  · obtain ⟨k, rfl⟩ : ∃ k, n = k + 1 := ⟨n - 1, by have := may_pos HY.out; omega⟩
    have hk : k < l.length := by omega
    obtain ⟨g, o, rfl, hgw, c0, c1, c2, c3, c4⟩ := HR.out.below hb1 k hk
    have hL : lastB l[k] = b := (sure_at hn HY.out).symm.trans HB.out
    have hft : l[k].2.1.2.2.size ≤ maxLen := (HF.out _ (List.getElem_mem hk)).1
    clear hn HB HY
    generalize l[k] = x at c0 c1 c2 c3 c4 hL hft
    obtain ⟨kd, ⟨ck, cn, ct⟩, nm⟩ := x
    simp only at c0 c1 c2 c3 c4 hft
    have HL : Hid (lastB (kd, (ck, cn, ct), nm) = b) := hL
    have hj : ((k + 1 : Nat) : Int) - 1 = (k : Int) := by omega
    have hi0 : (0 : Int) ≤ (k : Int) := by omega
    have hi1 : (k : Int) < ((k + 1 : Nat) : Int) := by omega
    unfold maxLen at hm
    clear hL
    go_wp2_with fail
    refine (isanswer_impl kd ck cn ct nm _ hft b HL.out).mono ?_
    rintro e w2 ⟨rfl, hb2⟩
    have hx := chain hb1 hb2
    go_wp2
    go_ret
    exact ⟨rfl, hx⟩
  · obtain rfl : false = b := (sure_may HY.out).symm.trans HB.out
    go_wp2
    go_ret
    exact ⟨rfl, hb1⟩
end Go.Proofs.YtegnekbbbfncgaaGreatDoor

/-
  Blocks that are as they were from a world on (Kept); the cells of a box.
-/
namespace Go.Proofs.YtegnekbbbfncgaaGreatDoor
open Go.ChangeShapes Go.WideShapes Go.ChangeAt Go.RowKit

/-- Blocks from lo up that V had are as they were. -/
structure Kept (lo : Nat) (V W : World) : Prop where
  size : V.heap.size ≤ W.heap.size
  same : ∀ g, lo ≤ g → g < V.heap.size → W.heap[g]? = V.heap[g]?
theorem Kept.refl (lo : Nat) (V : World) : Kept lo V V := ⟨Nat.le_refl _, fun _ _ _ => rfl⟩
theorem Kept.below {lo : Nat} {V W W' : World} (h : Kept lo V W) (hb : Below W.heap.size W W') : Kept lo V W' :=
  ⟨Nat.le_trans h.size hb.size, fun g h1 h2 => (hb.block g (Nat.lt_of_lt_of_le h2 h.size)).trans (h.same g h1 h2)⟩
theorem Kept.keepS {lo : Nat} {V W W' : World} {P : Nat → Prop} (h : Kept lo V W) (hk : KeepS P W W') (hP : ∀ b, P b → lo ≤ b → V.heap.size ≤ b) : Kept lo V W' :=
  ⟨Nat.le_trans h.size hk.size, fun g h1 h2 => (hk.block g (Nat.lt_of_lt_of_le h2 h.size) (fun hp => by have := hP g hp h1; omega)).trans (h.same g h1 h2)⟩
theorem Kept.box {lo B : Nat} {V W : World} {x : Obj} (h : Kept lo V W) (hlo : lo ≤ B) (hB : V.heap[B]? = some x) : W.heap[B]? = some x := by
  have hlt : B < V.heap.size := by
    by_cases hl : B < V.heap.size
    · exact hl
    · rw [Array.getElem?_eq_none (by omega)] at hB; cases hB
  exact (h.same B hlo hlt).trans hB
theorem cells7 {w : World} {B : Nat} {a b c d e f g : Value} {T : TypeId} (h : w.heap[B]? = some (.cells #[a, b, c, d, e, f, g] T)) : w.cell? ⟨B, 0, none⟩ = some (a) ∧ w.cell? ⟨B, 1, none⟩ = some (b) ∧ w.cell? ⟨B, 2, none⟩ = some (c) ∧ w.cell? ⟨B, 3, none⟩ = some (d) ∧ w.cell? ⟨B, 4, none⟩ = some (e) ∧ w.cell? ⟨B, 5, none⟩ = some (f) ∧ w.cell? ⟨B, 6, none⟩ = some (g) :=
  ⟨cell_of_row _ _ _ _ _ _ h, cell_of_row _ _ _ _ _ _ h, cell_of_row _ _ _ _ _ _ h, cell_of_row _ _ _ _ _ _ h, cell_of_row _ _ _ _ _ _ h, cell_of_row _ _ _ _ _ _ h, cell_of_row _ _ _ _ _ _ h⟩
end Go.Proofs.YtegnekbbbfncgaaGreatDoor

/-
  Names put in where they belong, each once, without any program: they rise, and they are those that were put.
-/
namespace Go.Proofs.YtegnekbbbfncgaaGreatDoor

def blt (x y : ByteArray) : Bool := Op.bytesLess x.toList y.toList
/-- One name more, where it belongs, once. -/
def putN : List ByteArray → ByteArray → List ByteArray
  | [], s => [s]
  | x :: L, s => if blt x s = true then x :: putN L s else if x = s then x :: L else s :: x :: L
theorem putN_at : ∀ {L : List ByteArray} {s : ByteArray} {k : Nat}, k ≤ L.length → (∀ j (hj : j < L.length), j < k → blt L[j] s = true) → (∀ hk : k < L.length, blt L[k] s = false) →
    putN L s = if h : k < L.length then (if L[k] = s then L else L.take k ++ s :: L.drop k) else L ++ [s]
  | [], s, k, hk, _, _ => by
    have : k = 0 := by simpa using hk
    subst this
    rfl
  | x :: L, s, 0, _, _, hge => by
    have h0 := hge (by simp)
    rw [List.getElem_cons_zero] at h0
    unfold putN
    rw [if_neg (by rw [h0]; decide), dif_pos (by simp)]
    rfl
  | x :: L, s, k + 1, hk, hlt, hge => by
    have h0 := hlt 0 (by simp) (by omega)
    rw [List.getElem_cons_zero] at h0
    unfold putN
    rw [if_pos h0, putN_at (k := k) (by simpa using hk) (fun j hj hjk => by have := hlt (j + 1) (by simpa using hj) (by omega); rwa [List.getElem_cons_succ] at this) (fun hk' => by have := hge (by simpa using hk'); rwa [List.getElem_cons_succ] at this)]
    by_cases hkl : k < L.length
    · rw [dif_pos hkl, dif_pos (by simpa using hkl), List.getElem_cons_succ]
      split <;> rfl
    · rw [dif_neg hkl, dif_neg (by simpa using hkl)]
      rfl
theorem mem_putN {L : List ByteArray} {s y : ByteArray} : y ∈ putN L s ↔ y = s ∨ y ∈ L := by
  induction L with
  | nil => simp [putN]
  | cons x L ih =>
    unfold putN
    split
    · rw [List.mem_cons, ih, List.mem_cons]
      exact ⟨fun h => by rcases h with h | h | h <;> simp [h], fun h => by rcases h with h | h | h <;> simp [h]⟩
    · split
      · rename_i h
        rw [List.mem_cons, ← h]
        exact ⟨fun h => .inr h, fun h => by rcases h with h | h; exact .inl h; exact h⟩
      · rw [List.mem_cons]
/-- What rises goes on rising. -/
theorem putN_rises {L : List ByteArray} {s : ByteArray} (h : L.Pairwise (fun x y => blt x y = true)) : (putN L s).Pairwise (fun x y => blt x y = true) := by
  induction L with
  | nil => exact List.pairwise_singleton _ _
  | cons x L ih =>
    rw [List.pairwise_cons] at h
    unfold putN
    split
    · rename_i hx
      rw [List.pairwise_cons]
      refine ⟨fun y hy => ?_, ih h.2⟩
      rcases mem_putN.1 hy with rfl | hy
      · exact hx
      · exact h.1 y hy
    · rename_i hx
      split
      · rw [List.pairwise_cons]; exact h
      · rename_i hne
        have hsx : blt s x = true := by
          cases hq : blt s x with
          | true => rfl
          | false =>
            exfalso
            have h1 : blt x s = false := by
              cases hz : blt x s with
              | true => exact absurd hz hx
              | false => rfl
            exact hne (bl_tri h1 hq)
        rw [List.pairwise_cons, List.pairwise_cons]
        refine ⟨fun y hy => ?_, h⟩
        rcases List.mem_cons.1 hy with rfl | hy
        · exact hsx
        · exact bl_trans hsx (h.1 y hy)
/-- The names of items, put in one by one. -/
def namesN (l : List TI) : List ByteArray := l.foldl (fun L x => if x.1 = 2 then putN L x.2.2 else L) []
theorem namesN_snoc (l : List TI) (x : TI) : namesN (l ++ [x]) = if x.1 = 2 then putN (namesN l) x.2.2 else namesN l := by
  unfold namesN; rw [List.foldl_append]; rfl
theorem putN_length (L : List ByteArray) (s : ByteArray) : (putN L s).length ≤ L.length + 1 := by
  induction L with
  | nil => exact Nat.le_refl _
  | cons x L ih =>
    unfold putN
    split
    · simp only [List.length_cons]; omega
    · split
      · simp
      · simp
/-- What NamesOf answers. -/
def namesR (l : List TI) : List ByteArray := if sumB l = true then namesN l else []
theorem namesN_rises (l : List TI) : (namesN l).Pairwise (fun x y => blt x y = true) := by
  suffices h : ∀ (l : List TI) (L : List ByteArray), L.Pairwise (fun x y => blt x y = true) → (l.foldl (fun L x => if x.1 = 2 then putN L x.2.2 else L) L).Pairwise (fun x y => blt x y = true) from h l [] List.Pairwise.nil
  intro l
  induction l with
  | nil => intro L h; exact h
  | cons x l ih =>
    intro L h
    rw [List.foldl_cons]
    apply ih
    split
    · exact putN_rises h
    · exact h
theorem mem_namesN (l : List TI) (y : ByteArray) : y ∈ namesN l ↔ ∃ x ∈ l, x.1 = 2 ∧ x.2.2 = y := by
  suffices h : ∀ (l : List TI) (L : List ByteArray), y ∈ (l.foldl (fun L x => if x.1 = 2 then putN L x.2.2 else L) L) ↔ y ∈ L ∨ ∃ x ∈ l, x.1 = 2 ∧ x.2.2 = y by
    have := h l []
    simpa [namesN] using this
  intro l
  induction l with
  | nil => intro L; simp
  | cons x l ih =>
    intro L
    rw [List.foldl_cons, ih]
    by_cases h2 : x.1 = 2
    · rw [if_pos h2, mem_putN]
      constructor
      · rintro ((rfl | h) | ⟨z, hz, h⟩)
        · exact .inr ⟨x, by simp, h2, rfl⟩
        · exact .inl h
        · exact .inr ⟨z, by simp [hz], h⟩
      · rintro (h | ⟨z, hz, h⟩)
        · exact .inl (.inr h)
        · rcases List.mem_cons.1 hz with rfl | hz
          · exact .inl (.inl h.2.symm)
          · exact .inr ⟨z, hz, h⟩
    · rw [if_neg h2]
      constructor
      · rintro (h | ⟨z, hz, h⟩)
        · exact .inl h
        · exact .inr ⟨z, by simp [hz], h⟩
      · rintro (h | ⟨z, hz, h⟩)
        · exact .inl h
        · rcases List.mem_cons.1 hz with rfl | hz
          · exact absurd h.1 h2
          · exact .inr ⟨z, hz, h⟩
end Go.Proofs.YtegnekbbbfncgaaGreatDoor

/-
  A region that draws its order and whose last operation writes what the others read: a condition on the world that holds until that one comes up.
-/
namespace Go.Proofs.YtegnekbbbfncgaaGreatDoor

section
variable {P : Program} {ops : Array Oper} {Q : Exit → Act → World → Prop} {md : Region.Mode} {S : World → Prop} {z : Nat}

/-- Whatever order is picked: behind each operation but z the condition S holds. -/
def wpAnyU (P : Program) (md : Region.Mode) (ops : Array Oper) (Q : Exit → Act → World → Prop) (S : World → Prop) (z : Nat) : Nat → Array Bool → Act → World → Prop
  | 0, listed, a, w => Region.ready md ops listed = [] ∧ Q .normal a w
  | n + 1, listed, a, w => (Region.ready md ops listed = [] → Q .normal a w) ∧ ∀ i ∈ Region.ready md ops listed, wpOp P ops Q i (fun a' w' => (i = z ∨ S w') ∧ wpAnyU P md ops Q S z n (listed.setIfInBounds i true) a' w') a w

theorem wpAnyU.any : ∀ {n : Nat} {listed : Array Bool} {a : Act} {w : World}, wpAnyU P md ops Q S z n listed a w → wpAny P md ops Q n listed a w
  | 0, _, _, _, h => h
  | _ + 1, _, _, _, h => ⟨h.1, fun i hi => wpOp_mono (fun _ _ h' => wpAnyU.any h'.2) (h.2 i hi)⟩

/-- Does z wait for i? -/
def waits (md : Region.Mode) (ops : Array Oper) (z i : Nat) : Bool := match ops[z]? with
  | some o => o.after.any (fun e => Region.binds md e && e.on == i)
  | none => false
theorem waits_some {i : Nat} {o : Oper} (h : waits md ops z i = true) (ho : ops[z]? = some o) : ∃ e ∈ o.after, Region.binds md e = true ∧ e.on = i := by
  unfold waits at h
  rw [ho] at h
  obtain ⟨k, hk, he⟩ := Array.any_eq_true.1 h
  simp only [Bool.and_eq_true, beq_iff_eq] at he
  exact ⟨o.after[k], Array.getElem_mem hk, he.1, he.2⟩

theorem wpAnyU_first {i : Nat} {oi : Oper} {v : Value} (hi : ops[i]? = some oi) (hz : waits md ops z i = true) (hsel : ∀ (j : Nat) (o : Oper) cs b, ops[j]? = some o → o.op ≠ .select cs b)
    (hQ : ∀ c a w, Q (.panic c) (a.put oi.dst v) w → Q (.panic c) a w) : ∀ (n : Nat) (listed : Array Bool) (a : Act) (w : World),
      (∀ j oj, ops[j]? = some oj → j ≠ i → listed.getD j true = false → (∀ e ∈ oj.after, Region.binds md e = true → e.on ≠ i) → oi.apart ops oj = true) →
      i ∈ Region.ready md ops listed → YieldsIf P ops S oi v a → S w →
      wpAnyU P md ops Q S z n (listed.setIfInBounds i true) (a.put oi.dst v) w → wpAnyU P md ops Q S z (n + 1) listed a w
  | 0, listed, a, w, _, hr, hy, hS, H => ⟨fun h => (by rw [h] at hr; cases hr), fun j hj => by
      by_cases e : j = i
      · subst e; exact hy.wpOp hi hS ⟨.inr hS, H⟩
      · have := ready_mono hj e
        rw [H.1] at this
        cases this⟩
  | n + 1, listed, a, w, hfree, hr, hy, hS, H => ⟨fun h => (by rw [h] at hr; cases hr), fun j hj => by
      by_cases e : j = i
      · subst e; exact hy.wpOp hi hS ⟨.inr hS, H⟩
      · have h1 := H.2 j (ready_mono hj e)
        obtain ⟨hun, oj, hoj, hall⟩ := mem_ready.1 hj
        have hnot : ∀ x ∈ oj.after, Region.binds md x = true → x.on ≠ i := by
          intro x hx hb heq
          have k1 := hall x hx hb
          have k0 := (mem_ready.1 hr).1
          rw [heq] at k1
          rcases Nat.lt_or_ge i listed.size with h' | h'
          · simp [h'] at k0 k1; rw [k0] at k1; cases k1
          · simp [Array.getElem?_eq_none h'] at k1
        have hjz : j ≠ z := by
          intro ez
          subst ez
          obtain ⟨x, hx, hb, heq⟩ := waits_some hz hoj
          exact hnot x hx hb heq
        have h2 := wpOp_putIf hoj (hfree j oj hoj e hun hnot) (fun cs b => hsel i oi cs b hi) (fun cs b => hsel j oj cs b hoj) hQ hy h1
        refine wpOp_mono (fun a' w' h3 => ?_) h2
        have hSw : S w' := by rcases h3.2.1 with h4 | h4; exact absurd h4 hjz; exact h4
        refine ⟨.inr hSw, wpAnyU_first hi hz hsel hQ n (listed.setIfInBounds j true) a' w' ?_ (ready_mono hr (Ne.symm e)) h3.1 hSw ?_⟩
        · intro k ok hk hki hku hno
          refine hfree k ok hk hki ?_ hno
          by_cases hjk : j = k
          · subst hjk; exact hun
          · rw [getD_set_ne true hjk] at hku; exact hku
        · rw [Array.setIfInBounds_comm _ _ e]; exact h3.2.2⟩
theorem wpAnyU_take {i : Nat} {oi : Oper} {v : Value} {n : Nat} {listed : Array Bool} {a : Act} {w : World} (hi : ops[i]? = some oi) (hz : waits md ops z i = true)
    (hs : Region.noSelect ops = true) (hf : Region.free md ops listed i = true) (hr : (Region.ready md ops listed).contains i = true)
    (hQ : ∀ c a w, Q (.panic c) (a.put oi.dst v) w → Q (.panic c) a w) (hy : YieldsIf P ops S oi v a) (hS : S w)
    (h : wpAnyU P md ops Q S z n (listed.setIfInBounds i true) (a.put oi.dst v) w) : wpAnyU P md ops Q S z (n + 1) listed a w :=
  wpAnyU_first hi hz (Region.noSelect_spec hs) hQ n listed a w (Region.free_spec hi hf) (by simpa using hr) hy hS h
/-- The one that is ready is carried out; behind it S is shown anew. -/
theorem wpAnyU_one {i : Nat} {o : Oper} {n : Nat} {listed : Array Bool} {a : Act} {w : World} (hr : Region.ready md ops listed = [i]) (ho : ops[i]? = some o)
    (h : ∀ K' : Act → World → Prop, Shut (∀ a w, S w → (S w → wpAnyU P md ops Q S z n (listed.setIfInBounds i true) a w) → K' a w) → if Region.wanted o (yielded ops a.tmps) = true then Oper.wp P o a w K' Q else K' (a.put o.dst undef) w) :
    wpAnyU P md ops Q S z (n + 1) listed a w :=
  ⟨fun h0 => (by rw [hr] at h0; cases h0), fun j hj => by
    rw [hr] at hj
    obtain rfl : j = i := by simpa using hj
    exact wpOp_step ho (fun K' hK => h K' (fun a w hS hW => hK a w ⟨.inr hS, hW hS⟩))⟩
/-- The last one is carried out: S is asked no more. -/
theorem wpAnyU_last {o : Oper} {n : Nat} {listed : Array Bool} {a : Act} {w : World} (hr : Region.ready md ops listed = [z]) (ho : ops[z]? = some o)
    (h : ∀ K' : Act → World → Prop, Shut (∀ a w, wpAnyU P md ops Q S z n (listed.setIfInBounds z true) a w → K' a w) → if Region.wanted o (yielded ops a.tmps) = true then Oper.wp P o a w K' Q else K' (a.put o.dst undef) w) :
    wpAnyU P md ops Q S z (n + 1) listed a w :=
  ⟨fun h0 => (by rw [hr] at h0; cases h0), fun j hj => by
    rw [hr] at hj
    obtain rfl : j = z := by simpa using hj
    exact wpOp_step ho (fun K' hK => h K' (fun a w hW => hK a w ⟨.inl rfl, hW⟩))⟩
theorem wp_region_until {id : Nat} {a : Act} {w : World} (hm : P.follows .mixedOrders = true) (hS : S w.drew)
    (h : S w.drew → wpAnyU P .any ops Q S z ops.size (Array.replicate ops.size false) a w.drew) : (Code.region id ops true).wp P Q a w :=
  wp_region_any hm (h hS).any
theorem wpAnyU_done {listed : Array Bool} {a : Act} {w : World} (hr : Region.ready md ops listed = []) (h : Q .normal a w) : ∀ n, wpAnyU P md ops Q S z n listed a w
  | 0 => ⟨hr, h⟩
  | _ + 1 => ⟨fun _ => h, by rw [hr]; simp⟩
end
end Go.Proofs.YtegnekbbbfncgaaGreatDoor

/-
  The contract of the model's ShowSum.
-/
namespace Go.Proofs.YtegnekbbbfncgaaGreatDoor
open Go.ChangeShapes Go.WideShapes Go.ChangeAt Go.RowKit
attribute [local go_sem ↓] Go.wp_at_zero Go.wp_at_succ
attribute [local simp] World.cell?_alloc_past World.cell?_alloc_at World.frozen?_alloc_at cell_far cell_off cell_here World.frozen?_alloc_past

theorem cells1S (w : World) (x : Value) : ∀ j u, [x][j]? = some u → (w.alloc (.cells #[x] 9)).cell? ((⟨w.heap.size, 0, none⟩ : Addr).add j) = some u := by
  intro j u hj
  match j, hj with
  | 0, hj => simp at hj; subst hj; simp [Addr.add]
end Go.Proofs.YtegnekbbbfncgaaGreatDoor
