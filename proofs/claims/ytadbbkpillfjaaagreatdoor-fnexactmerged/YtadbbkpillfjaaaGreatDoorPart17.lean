/-
  A part of the proof: Three1, Three2, Three3, Sure, Kept, NamesMath, Until, ShowSumS, NamesS, NameMath2, NamesI, ErrVar, ErrIs, ErrAs, ConcatI, ColOf, Tabs1, Base1.
-/
import Derived.Test.YtadbbkpillfjaaaGreatDoorPart14
import Derived.Test.YtadbbkpillfjaaaGreatDoorPart13
import Derived.Test.YtadbbkpillfjaaaGreatDoorPart16
import Derived.Test.YtadbbkpillfjaaaGreatDoorPart8
import Derived.Test.YtadbbkpillfjaaaGreatDoorPart4
import Derived.Deep.RegionHeld3
import Derived.Test.YtadbbkpillfjaaaGreatDoorPart11
import Derived.Lib.SlicesCompact
import Derived.Sort.OwnSorted
import Derived.Lib.OwnBridge
import Derived.Lib.RowBridge
import Derived.WalkKit
import Derived.LaidEql
import Derived.Stop.Asserts
import Derived.RowKitTokens
import Derived.Test.YtadbbkpillfjaaaGreatDoorPart2
import Derived.Test.YtadbbkpillfjaaaGreatDoorPart12

/-
  The contracts of the program's own small functions on truths: what an answer's rank is, what the lesser, the greater and the turned one of ranks is, and the cell of a rank.
-/
namespace Go.Proofs.YtadbbkpillfjaaaGreatDoor
open Go.ChangeShapes Go.WideShapes Go.ChangeAt Go.RowKit

/-- A right cell that is a truth or none. -/
def threeB (k n : Int) (t : ByteArray) : Bool := okB k n t && (k == 3 || k == 0)
/-- Where an answer stands: no, nobody knows, yes. -/
def rankI (k n : Int) : Int := if k = 0 then 1 else if n = 1 then 2 else 0
set_option maxHeartbeats 400000 in
theorem answer_wrong (k n : Int) (t : ByteArray) (h : okB k n t = false) (w : World) (ht : t.size ≤ maxLen) :
    Calls Tryz.prog 81 #[.agg #[.int .i64 k, .int .i64 n, .string t]] w fun e w' => e = .returned (.tuple #[.int .i64 0, .bool false]) ∧ Below w.heap.size w w' := by
  go_enter Tryz.func81, Tryz.ntmps81
  go_wp2_with fail
  refine (ok_implb _ _ _ _ h _ ht).mono ?_
  rintro e w1 ⟨rfl, hb1⟩
  have hx := chainA hb1
  go_wp2
  go_ret2
  exact ⟨rfl, by go_grown⟩

set_option maxHeartbeats 400000 in
theorem answer_none (n : Int) (t : ByteArray) (h : okB 0 n t = true) (w : World) (ht : t.size ≤ maxLen) :
    Calls Tryz.prog 81 #[.agg #[.int .i64 0, .int .i64 n, .string t]] w fun e w' => e = .returned (.tuple #[.int .i64 1, .bool true]) ∧ Below w.heap.size w w' := by
  have q0 := asserts_noneShape
  go_enter Tryz.func81, Tryz.ntmps81
  go_wp2_with fail
  refine (ok_implb _ _ _ _ h _ ht).mono ?_
  rintro e w1 ⟨rfl, hb1⟩
  obtain ⟨a1, b1, c1, d1⟩ := box3 hb1
  go_wp2_with fail
  refine (shape0 _ _ _).mono ?_
  rintro e w2 ⟨rfl, hb2⟩
  have hx := chain (chainA hb1) hb2
  have hxs := hx.size
  go_wp2
  go_ret2
  exact ⟨rfl, by go_grown⟩

set_option maxHeartbeats 400000 in
theorem answer_num (n : Int) (t : ByteArray) (h : okB 1 n t = true) (w : World) (ht : t.size ≤ maxLen) :
    Calls Tryz.prog 81 #[.agg #[.int .i64 1, .int .i64 n, .string t]] w fun e w' => e = .returned (.tuple #[.int .i64 0, .bool false]) ∧ Below w.heap.size w w' := by
  have q0 := asserts_numberShape.1
  have q1 : (∀ (v : Value) (w : World), (Instr.typeAssert (.iface 118 v) 107 112 true).run Tryz.prog w = .ok (.tuple #[.agg #[.int .i64 0], .bool false]) w) := fun v w => by kernel_rfl
  go_enter Tryz.func81, Tryz.ntmps81
  go_wp2_with fail
  refine (ok_implb _ _ _ _ h _ ht).mono ?_
  rintro e w1 ⟨rfl, hb1⟩
  obtain ⟨a1, b1, c1, d1⟩ := box3 hb1
  go_wp2_with fail
  refine (shape1 _ _ _).mono ?_
  rintro e w2 ⟨rfl, hb2⟩
  have hx := chain (chainA hb1) hb2
  have hxs := hx.size
  go_wp2
  go_ret2
  exact ⟨rfl, by go_grown⟩

set_option maxHeartbeats 400000 in
theorem answer_text (n : Int) (t : ByteArray) (h : okB 2 n t = true) (w : World) (ht : t.size ≤ maxLen) :
    Calls Tryz.prog 81 #[.agg #[.int .i64 2, .int .i64 n, .string t]] w fun e w' => e = .returned (.tuple #[.int .i64 0, .bool false]) ∧ Below w.heap.size w w' := by
  have q0 := asserts_textShape.1
  have q1 : (∀ (v : Value) (w : World), (Instr.typeAssert (.iface 120 v) 107 112 true).run Tryz.prog w = .ok (.tuple #[.agg #[.int .i64 0], .bool false]) w) := fun v w => by kernel_rfl
  go_enter Tryz.func81, Tryz.ntmps81
  go_wp2_with fail
  refine (ok_implb _ _ _ _ h _ ht).mono ?_
  rintro e w1 ⟨rfl, hb1⟩
  obtain ⟨a1, b1, c1, d1⟩ := box3 hb1
  go_wp2_with fail
  refine (shape2 _ _ _).mono ?_
  rintro e w2 ⟨rfl, hb2⟩
  have hx := chain (chainA hb1) hb2
  have hxs := hx.size
  go_wp2
  go_ret2
  exact ⟨rfl, by go_grown⟩

set_option maxHeartbeats 400000 in
theorem answer_truth (n : Int) (t : ByteArray) (h : okB 3 n t = true) (w : World) (ht : t.size ≤ maxLen) :
    Calls Tryz.prog 81 #[.agg #[.int .i64 3, .int .i64 n, .string t]] w fun e w' => e = .returned (.tuple #[.int .i64 (if n = 1 then 2 else 0), .bool true]) ∧ Below w.heap.size w w' := by
  have q0 := asserts_truthShape.1
  have q3 := asserts_truthShape.2.2.2
  by_cases hn : n = 1
  · subst hn
    go_enter Tryz.func81, Tryz.ntmps81
    go_wp2_with fail
    refine (ok_implb _ _ _ _ h _ ht).mono ?_
    rintro e w1 ⟨rfl, hb1⟩
    obtain ⟨a1, b1, c1, d1⟩ := box3 hb1
    go_wp2_with fail
    refine (shape3 _ _ _).mono ?_
    rintro e w2 ⟨rfl, hb2⟩
    have hx := chain (chainA hb1) hb2
    have hxs := hx.size
    go_wp2
    go_ret2
    exact ⟨rfl, by go_grown⟩
  · rw [if_neg hn]
    go_enter Tryz.func81, Tryz.ntmps81
    go_wp2_with fail
    refine (ok_implb _ _ _ _ h _ ht).mono ?_
    rintro e w1 ⟨rfl, hb1⟩
    obtain ⟨a1, b1, c1, d1⟩ := box3 hb1
    go_wp2_with fail
    refine (shape3 _ _ _).mono ?_
    rintro e w2 ⟨rfl, hb2⟩
    have hx := chain (chainA hb1) hb2
    have hxs := hx.size
    go_wp2
    go_ret2
    exact ⟨rfl, by go_grown⟩

/-- What the program makes of a cell to answer with. -/
theorem answer_impl (k n : Int) (t : ByteArray) (x : Int) (rt : Bool) (hr : threeB k n t = rt) (hx : (if rt = true then rankI k n else 0) = x) (w : World) (ht : t.size ≤ maxLen) :
    Calls Tryz.prog 81 #[.agg #[.int .i64 k, .int .i64 n, .string t]] w fun e w' => e = .returned (.tuple #[.int .i64 x, .bool rt]) ∧ Below w.heap.size w w' := by
  subst hr hx
  cases h : okB k n t
  · have h2 : threeB k n t = false := by simp [threeB, h]
    rw [h2]; exact answer_wrong k n t h w ht
  by_cases k0 : k = 0
  · subst k0
    have h2 : threeB 0 n t = true := by simp [threeB, h]
    rw [h2]; exact answer_none n t h w ht
  by_cases k3 : k = 3
  · subst k3
    have h2 : threeB 3 n t = true := by simp [threeB, h]
    rw [h2]; exact answer_truth n t h w ht
  have h2 : threeB k n t = false := by simp [threeB, k0, k3]
  rw [h2]
  by_cases k1 : k = 1
  · subst k1; exact answer_num n t h w ht
  by_cases k2 : k = 2
  · subst k2; exact answer_text n t h w ht
  · exact absurd h (by simp [okB, k0, k1, k2, k3])

end Go.Proofs.YtadbbkpillfjaaaGreatDoor

/-
  The contracts of the program's Both, Either, Not, IsNone and Holds: what comes of right answers, and what else.
-/
namespace Go.Proofs.YtadbbkpillfjaaaGreatDoor
open Go.ChangeShapes Go.WideShapes Go.ChangeAt Go.RowKit
attribute [local go_sem ↓] Go.wp_at_zero Go.wp_at_succ

end Go.Proofs.YtadbbkpillfjaaaGreatDoor

/-
  The contracts of the model's Not, IsNone and Holds: they come to what the program's come to.
-/
namespace Go.Proofs.YtadbbkpillfjaaaGreatDoor
open Go.ChangeShapes Go.WideShapes Go.ChangeAt Go.RowKit
attribute [local go_sem ↓] Go.wp_at_zero Go.wp_at_succ

set_option maxHeartbeats 400000 in
theorem three_specb (k n : Int) (t : ByteArray) (b : Bool) (hb : threeB k n t = b) (w : World) (ht : t.size ≤ maxLen) :
    Calls Tryz.prog 45 #[.agg #[.int .i64 k, .int .i64 n, .string t]] w fun e w' => e = .returned (.bool b) ∧ Below w.heap.size w w' := by
  subst hb
  cases h : okB k n t
  · rw [show threeB k n t = false from by simp [threeB, h]]
    go_enter Tryz.func45, Tryz.ntmps45
    go_wp2_with fail
    refine (ok_specb _ _ _ _ h _ ht).mono ?_
    rintro e w1 ⟨rfl, hb1⟩
    go_wp2
    go_ret
    exact ⟨rfl, chainA hb1⟩
  · rw [show threeB k n t = (k == 3 || k == 0) from by simp [threeB, h]]
    by_cases k3 : k = 3
    · subst k3
      go_enter Tryz.func45, Tryz.ntmps45
      go_wp2_with fail
      refine (ok_specb _ _ _ _ h _ ht).mono ?_
      rintro e w1 ⟨rfl, hb1⟩
      obtain ⟨a1, b1, c1, d1⟩ := box3 hb1
      go_wp2
      go_ret
      exact ⟨rfl, chainA hb1⟩
    · rw [show (k == 3) = false from by simp [k3], Bool.false_or]
      go_enter Tryz.func45, Tryz.ntmps45
      go_wp2_with fail
      refine (ok_specb _ _ _ _ h _ ht).mono ?_
      rintro e w1 ⟨rfl, hb1⟩
      obtain ⟨a1, b1, c1, d1⟩ := box3 hb1
      go_wp2
      go_ret
      exact ⟨ret_bool (by first | rfl | simp [*]), chainA hb1⟩

end Go.Proofs.YtadbbkpillfjaaaGreatDoor

/-
  IsSure, of the model and of the program.
-/
namespace Go.Proofs.YtadbbkpillfjaaaGreatDoor
open Go.ChangeShapes Go.WideShapes Go.ChangeAt Go.RowKit
attribute [local go_sem ↓] Go.wp_at_zero Go.wp_at_succ
attribute [local simp] World.cell?_alloc_past World.cell?_alloc_at World.frozen?_alloc_at cell_far cell_off cell_here World.frozen?_alloc_past

/-- Is this, as the last item of a sum that may not fail, one that answers true, false or nothing? -/
def lastB (x : TI) : Bool := decide (x.1 = 12) || (decide (x.1 = 1) && threeB x.2.1.1 x.2.1.2.1 x.2.1.2.2)
/-- What IsSure answers. -/
def sureR (l : List TI) : Bool := !mayR l && (match l.getLast? with | some x => lastB x | none => false)
theorem may_pos {l : List TI} (h : mayR l = false) : 0 < l.length := by
  cases l with
  | nil => exact absurd (show mayR [] = true from rfl) (by rw [h]; simp)
  | cons x l => simp
theorem sure_may {l : List TI} (h : mayR l = true) : sureR l = false := by unfold sureR; rw [h]; rfl
theorem sure_at {l : List TI} {k : Nat} (hk : l.length = k + 1) (h : mayR l = false) : sureR l = lastB (l[k]'(by omega)) := by
  unfold sureR
  have e : l.getLast? = some (l[k]'(by omega)) := by
    rw [List.getLast?_eq_getElem?]
    have e2 : l.length - 1 = k := by omega
    rw [e2]
    exact List.getElem?_eq_getElem _
  rw [h, e]
  rfl
set_option maxHeartbeats 1000000 in
theorem sure_spec (a : Option Addr) (cap : Nat) (l : List TI) (n : Nat) (hn : l.length = n) (w : World) (hrow : ItmAt w a l) (hfit : FitItm l) (hm : n ≤ maxLen) (b : Bool) (hb : sureR l = b) :
    Calls Tryz.prog 29 #[.slice a n cap] w fun e w' => e = .returned (.bool b) ∧ Below w.heap.size w w' := by
  have HN : Hid (l.length = n) := hn
  have HR : Hid (ItmAt w a l) := hrow
  have HF : Hid (FitItm l) := hfit
  have HB : Hid (sureR l = b) := hb
  obtain ⟨y, hy⟩ : ∃ y, mayR l = y := ⟨_, rfl⟩
  have HY : Hid (mayR l = y) := hy
  clear hrow hfit hb hy
  go_enter Tryz.func29, Tryz.ntmps29
  go_wp2_with fail
  refine (may_specb a cap l n HN.out _ HR.out HF.out hm y HY.out).mono ?_
  rintro e w1 ⟨rfl, hb1⟩
  cases y
  · obtain ⟨k, rfl⟩ : ∃ k, n = k + 1 := ⟨n - 1, by have := may_pos HY.out; omega⟩
    have hk : k < l.length := by omega
    obtain ⟨g, o, rfl, hgw, c0, c1, c2, c3, c4⟩ := HR.out.below hb1 k hk
    have hL : lastB l[k] = b := (sure_at hn HY.out).symm.trans HB.out
    have hft := (HF.out k hk).1
    clear hn HB HY
    generalize l[k] = x at c0 c1 c2 c3 c4 hL hft
    obtain ⟨kd, ⟨ck, cn, ct⟩, nm⟩ := x
    simp only at c0 c1 c2 c3 c4 hft
    have hj : ((k + 1 : Nat) : Int) - 1 = (k : Int) := by omega
    have hi0 : (0 : Int) ≤ (k : Int) := by omega
    have hi1 : (k : Int) < ((k + 1 : Nat) : Int) := by omega
    unfold maxLen at hm
    obtain ⟨r, hr⟩ : ∃ r, threeB ck cn ct = r := ⟨_, rfl⟩
    have HRr : Hid (threeB ck cn ct = r) := hr
    by_cases h12 : kd = 12
    · subst h12
      obtain rfl : true = b := by rw [← hL]; rfl
      clear hL hr
      go_wp2
      go_ret
      exact ⟨rfl, chain hb1 ((Below.refl _ _).alloc (Nat.le_refl _) _)⟩
    · by_cases h1 : kd = 1
      · subst h1
        have HL : Hid (r = b) := by rw [← hL]; simp [lastB, hr]; exact ⟨⟩
        clear hL hr
        go_wp2_with fail
        refine (three_specb ck cn ct r HRr.out _ hft).mono ?_
        rintro e w2 ⟨rfl, hb2⟩
        have hx := chain (chain hb1 ((Below.refl _ _).alloc (Nat.le_refl _) _)) hb2
        obtain rfl := HL.out
        go_wp2
        go_ret
        exact ⟨rfl, hx⟩
      · obtain rfl : false = b := by rw [← hL]; simp [lastB, h12, h1]
        clear hL hr
        have hf12 : (kd == 12) = false := by simp [h12]
        go_wp2
        go_ret
        exact ⟨rfl, chain hb1 ((Below.refl _ _).alloc (Nat.le_refl _) _)⟩
  · obtain rfl : false = b := (sure_may HY.out).symm.trans HB.out
    go_wp2
    go_ret
    exact ⟨rfl, hb1⟩
set_option maxHeartbeats 1000000 in
theorem isanswer_impl (kd ck cn : Int) (ct nm : ByteArray) (w : World) (hct : ct.size ≤ maxLen) (b : Bool) (hb : lastB (kd, (ck, cn, ct), nm) = b) :
    Calls Tryz.prog 64 #[.agg #[.int .i64 kd, .int .i64 ck, .int .i64 cn, .string ct, .string nm]] w fun e w' => e = .returned (.bool b) ∧ Below w.heap.size w w' := by
  obtain ⟨r, hr⟩ : ∃ r, threeB ck cn ct = r := ⟨_, rfl⟩
  have HRr : Hid (threeB ck cn ct = r) := hr
  obtain ⟨x, hx⟩ : ∃ x, (if r = true then rankI ck cn else 0) = x := ⟨_, rfl⟩
  have HX : Hid ((if r = true then rankI ck cn else 0) = x) := hx
  clear hx
  by_cases h12 : kd = 12
  · subst h12
    obtain rfl : true = b := by rw [← hb]; rfl
    clear hb hr
    go_enter Tryz.func64, Tryz.ntmps64
    go_wp2
    go_ret
    exact ⟨rfl, (Below.refl _ _).alloc (Nat.le_refl _) _⟩
  · by_cases h1 : kd = 1
    · subst h1
      have HL : Hid (r = b) := by rw [← hb]; simp [lastB, hr]; exact ⟨⟩
      clear hb hr
      go_enter Tryz.func64, Tryz.ntmps64
      go_wp2_with fail
      refine (answer_impl ck cn ct x r HRr.out HX.out _ hct).mono ?_
      rintro e w2 ⟨rfl, hb2⟩
      obtain rfl := HL.out
      go_wp2
      go_ret
      exact ⟨rfl, chainA hb2⟩
    · obtain rfl : false = b := by rw [← hb]; simp [lastB, h12, h1]
      clear hb hr
      go_enter Tryz.func64, Tryz.ntmps64
      go_wp2
      go_ret
      exact ⟨rfl, (Below.refl _ _).alloc (Nat.le_refl _) _⟩
set_option maxHeartbeats 1000000 in
theorem sure_impl (a : Option Addr) (cap : Nat) (l : List TI) (n : Nat) (hn : l.length = n) (w : World) (hrow : ItmAt w a l) (hfit : FitI l) (hm : n ≤ maxLen) (hp : PowAt w) (he : ErrAt w) (b : Bool) (hb : sureR l = b) :
    Calls Tryz.prog 52 #[.slice a n cap] w fun e w' => e = .returned (.bool b) ∧ Below w.heap.size w w' := by
  have HN : Hid (l.length = n) := hn
  have HR : Hid (ItmAt w a l) := hrow
  have HF : Hid (FitI l) := hfit
  have HB : Hid (sureR l = b) := hb
  have HP : Hid (PowAt w) := hp
  have HE : Hid (ErrAt w) := he
  obtain ⟨y, hy⟩ : ∃ y, mayR l = y := ⟨_, rfl⟩
  have HY : Hid (mayR l = y) := hy
  clear hrow hfit hb hy hp he
  go_enter Tryz.func52, Tryz.ntmps52
  go_wp2_with fail
  refine (may_impl a cap l n HN.out _ HR.out HF.out hm HP.out HE.out y HY.out).mono ?_
  rintro e w1 ⟨rfl, hb1⟩
  cases y
  · obtain ⟨k, rfl⟩ : ∃ k, n = k + 1 := ⟨n - 1, by have := may_pos HY.out; omega⟩
    have hk : k < l.length := by omega
    obtain ⟨g, o, rfl, hgw, c0, c1, c2, c3, c4⟩ := HR.out.below hb1 k hk
    have hL : lastB l[k] = b := (sure_at hn HY.out).symm.trans HB.out
    have hft : l[k].2.1.2.2.size ≤ maxLen := (HF.out _ (List.getElem_mem hk)).1
    clear hn HB HY
    generalize l[k] = x at c0 c1 c2 c3 c4 hL hft
    obtain ⟨kd, ⟨ck, cn, ct⟩, nm⟩ := x
    simp only at c0 c1 c2 c3 c4 hft
    have HL : Hid (lastB (kd, (ck, cn, ct), nm) = b) := hL
    have hj : ((k + 1 : Nat) : Int) - 1 = (k : Int) := by omega
    have hi0 : (0 : Int) ≤ (k : Int) := by omega
    have hi1 : (k : Int) < ((k + 1 : Nat) : Int) := by omega
    unfold maxLen at hm
    clear hL
    go_wp2_with fail
    refine (isanswer_impl kd ck cn ct nm _ hft b HL.out).mono ?_
    rintro e w2 ⟨rfl, hb2⟩
    have hx := chain hb1 hb2
    go_wp2
    go_ret
    exact ⟨rfl, hx⟩
  · obtain rfl : false = b := (sure_may HY.out).symm.trans HB.out
    go_wp2
    go_ret
    exact ⟨rfl, hb1⟩
end Go.Proofs.YtadbbkpillfjaaaGreatDoor

/-
  Blocks that are as they were from a world on (Kept); the cells of a box.
-/
namespace Go.Proofs.YtadbbkpillfjaaaGreatDoor
open Go.ChangeShapes Go.WideShapes Go.ChangeAt Go.RowKit

/-- Blocks from lo up that V had are as they were. -/
structure Kept (lo : Nat) (V W : World) : Prop where
  size : V.heap.size ≤ W.heap.size
  same : ∀ g, lo ≤ g → g < V.heap.size → W.heap[g]? = V.heap[g]?
theorem Kept.refl (lo : Nat) (V : World) : Kept lo V V := ⟨Nat.le_refl _, fun _ _ _ => rfl⟩
theorem Kept.below {lo : Nat} {V W W' : World} (h : Kept lo V W) (hb : Below W.heap.size W W') : Kept lo V W' :=
  ⟨Nat.le_trans h.size hb.size, fun g h1 h2 => (hb.block g (Nat.lt_of_lt_of_le h2 h.size)).trans (h.same g h1 h2)⟩
theorem Kept.keepS {lo : Nat} {V W W' : World} {P : Nat → Prop} (h : Kept lo V W) (hk : KeepS P W W') (hP : ∀ b, P b → lo ≤ b → V.heap.size ≤ b) : Kept lo V W' :=
  ⟨Nat.le_trans h.size hk.size, fun g h1 h2 => (hk.block g (Nat.lt_of_lt_of_le h2 h.size) (fun hp => by have := hP g hp h1; omega)).trans (h.same g h1 h2)⟩
theorem Kept.box {lo B : Nat} {V W : World} {x : Obj} (h : Kept lo V W) (hlo : lo ≤ B) (hB : V.heap[B]? = some x) : W.heap[B]? = some x := by
  have hlt : B < V.heap.size := by
    by_cases hl : B < V.heap.size
    · exact hl
    · rw [Array.getElem?_eq_none (by omega)] at hB; cases hB
  exact (h.same B hlo hlt).trans hB
theorem cells7 {w : World} {B : Nat} {a b c d e f g : Value} {T : TypeId} (h : w.heap[B]? = some (.cells #[a, b, c, d, e, f, g] T)) : w.cell? ⟨B, 0, none⟩ = some (a) ∧ w.cell? ⟨B, 1, none⟩ = some (b) ∧ w.cell? ⟨B, 2, none⟩ = some (c) ∧ w.cell? ⟨B, 3, none⟩ = some (d) ∧ w.cell? ⟨B, 4, none⟩ = some (e) ∧ w.cell? ⟨B, 5, none⟩ = some (f) ∧ w.cell? ⟨B, 6, none⟩ = some (g) :=
  ⟨cell_of_row _ _ _ _ _ _ h, cell_of_row _ _ _ _ _ _ h, cell_of_row _ _ _ _ _ _ h, cell_of_row _ _ _ _ _ _ h, cell_of_row _ _ _ _ _ _ h, cell_of_row _ _ _ _ _ _ h, cell_of_row _ _ _ _ _ _ h⟩
end Go.Proofs.YtadbbkpillfjaaaGreatDoor

/-
  Names put in where they belong, each once, without any program: they rise, and they are those that were put.
-/
namespace Go.Proofs.YtadbbkpillfjaaaGreatDoor

def blt (x y : ByteArray) : Bool := Op.bytesLess x.toList y.toList
/-- One name more, where it belongs, once. -/
def putN : List ByteArray → ByteArray → List ByteArray
  | [], s => [s]
  | x :: L, s => if blt x s = true then x :: putN L s else if x = s then x :: L else s :: x :: L
/-- The names of items, put in one by one. -/
def namesN (l : List TI) : List ByteArray := l.foldl (fun L x => if x.1 = 2 then putN L x.2.2 else L) []
/-- What NamesOf answers. -/
def namesR (l : List TI) : List ByteArray := if sumB l = true then namesN l else []
end Go.Proofs.YtadbbkpillfjaaaGreatDoor

/-
  A region that draws its order and whose last operation writes what the others read: a condition on the world that holds until that one comes up.
-/
namespace Go.Proofs.YtadbbkpillfjaaaGreatDoor

section
variable {P : Program} {ops : Array Oper} {Q : Exit → Act → World → Prop} {md : Region.Mode} {S : World → Prop} {z : Nat}

/-- Whatever order is picked: behind each operation but z the condition S holds. -/
def wpAnyU (P : Program) (md : Region.Mode) (ops : Array Oper) (Q : Exit → Act → World → Prop) (S : World → Prop) (z : Nat) : Nat → Array Bool → Act → World → Prop
  | 0, listed, a, w => Region.ready md ops listed = [] ∧ Q .normal a w
  | n + 1, listed, a, w => (Region.ready md ops listed = [] → Q .normal a w) ∧ ∀ i ∈ Region.ready md ops listed, wpOp P ops Q i (fun a' w' => (i = z ∨ S w') ∧ wpAnyU P md ops Q S z n (listed.setIfInBounds i true) a' w') a w

theorem wpAnyU.any : ∀ {n : Nat} {listed : Array Bool} {a : Act} {w : World}, wpAnyU P md ops Q S z n listed a w → wpAny P md ops Q n listed a w
  | 0, _, _, _, h => h
  | _ + 1, _, _, _, h => ⟨h.1, fun i hi => wpOp_mono (fun _ _ h' => wpAnyU.any h'.2) (h.2 i hi)⟩

/-- Does z wait for i? -/
def waits (md : Region.Mode) (ops : Array Oper) (z i : Nat) : Bool := match ops[z]? with
  | some o => o.after.any (fun e => Region.binds md e && e.on == i)
  | none => false
theorem waits_some {i : Nat} {o : Oper} (h : waits md ops z i = true) (ho : ops[z]? = some o) : ∃ e ∈ o.after, Region.binds md e = true ∧ e.on = i := by
  unfold waits at h
  rw [ho] at h
  obtain ⟨k, hk, he⟩ := Array.any_eq_true.1 h
  simp only [Bool.and_eq_true, beq_iff_eq] at he
  exact ⟨o.after[k], Array.getElem_mem hk, he.1, he.2⟩

theorem wpAnyU_first {i : Nat} {oi : Oper} {v : Value} (hi : ops[i]? = some oi) (hz : waits md ops z i = true) (hsel : ∀ (j : Nat) (o : Oper) cs b, ops[j]? = some o → o.op ≠ .select cs b)
    (hQ : ∀ c a w, Q (.panic c) (a.put oi.dst v) w → Q (.panic c) a w) : ∀ (n : Nat) (listed : Array Bool) (a : Act) (w : World),
      (∀ j oj, ops[j]? = some oj → j ≠ i → listed.getD j true = false → (∀ e ∈ oj.after, Region.binds md e = true → e.on ≠ i) → oi.apart ops oj = true) →
      i ∈ Region.ready md ops listed → YieldsIf P ops S oi v a → S w →
      wpAnyU P md ops Q S z n (listed.setIfInBounds i true) (a.put oi.dst v) w → wpAnyU P md ops Q S z (n + 1) listed a w
  | 0, listed, a, w, _, hr, hy, hS, H => ⟨fun h => (by rw [h] at hr; cases hr), fun j hj => by
      by_cases e : j = i
      · subst e; exact hy.wpOp hi hS ⟨.inr hS, H⟩
      · have := ready_mono hj e
        rw [H.1] at this
        cases this⟩
  | n + 1, listed, a, w, hfree, hr, hy, hS, H => ⟨fun h => (by rw [h] at hr; cases hr), fun j hj => by
      by_cases e : j = i
      · subst e; exact hy.wpOp hi hS ⟨.inr hS, H⟩
      · have h1 := H.2 j (ready_mono hj e)
        obtain ⟨hun, oj, hoj, hall⟩ := mem_ready.1 hj
        have hnot : ∀ x ∈ oj.after, Region.binds md x = true → x.on ≠ i := by
          intro x hx hb heq
          have k1 := hall x hx hb
          have k0 := (mem_ready.1 hr).1
          rw [heq] at k1
          rcases Nat.lt_or_ge i listed.size with h' | h'
          · simp [h'] at k0 k1; rw [k0] at k1; cases k1
          · simp [Array.getElem?_eq_none h'] at k1
        have hjz : j ≠ z := by
          intro ez
          subst ez
          obtain ⟨x, hx, hb, heq⟩ := waits_some hz hoj
          exact hnot x hx hb heq
        have h2 := wpOp_putIf hoj (hfree j oj hoj e hun hnot) (fun cs b => hsel i oi cs b hi) (fun cs b => hsel j oj cs b hoj) hQ hy h1
        refine wpOp_mono (fun a' w' h3 => ?_) h2
        have hSw : S w' := by rcases h3.2.1 with h4 | h4; exact absurd h4 hjz; exact h4
        refine ⟨.inr hSw, wpAnyU_first hi hz hsel hQ n (listed.setIfInBounds j true) a' w' ?_ (ready_mono hr (Ne.symm e)) h3.1 hSw ?_⟩
        · intro k ok hk hki hku hno
          refine hfree k ok hk hki ?_ hno
          by_cases hjk : j = k
          · subst hjk; exact hun
          · rw [getD_set_ne true hjk] at hku; exact hku
        · rw [Array.setIfInBounds_comm _ _ e]; exact h3.2.2⟩
theorem wpAnyU_take {i : Nat} {oi : Oper} {v : Value} {n : Nat} {listed : Array Bool} {a : Act} {w : World} (hi : ops[i]? = some oi) (hz : waits md ops z i = true)
    (hs : Region.noSelect ops = true) (hf : Region.free md ops listed i = true) (hr : (Region.ready md ops listed).contains i = true)
    (hQ : ∀ c a w, Q (.panic c) (a.put oi.dst v) w → Q (.panic c) a w) (hy : YieldsIf P ops S oi v a) (hS : S w)
    (h : wpAnyU P md ops Q S z n (listed.setIfInBounds i true) (a.put oi.dst v) w) : wpAnyU P md ops Q S z (n + 1) listed a w :=
  wpAnyU_first hi hz (Region.noSelect_spec hs) hQ n listed a w (Region.free_spec hi hf) (by simpa using hr) hy hS h
/-- The one that is ready is carried out; behind it S is shown anew. -/
theorem wpAnyU_one {i : Nat} {o : Oper} {n : Nat} {listed : Array Bool} {a : Act} {w : World} (hr : Region.ready md ops listed = [i]) (ho : ops[i]? = some o)
    (h : ∀ K' : Act → World → Prop, Shut (∀ a w, S w → (S w → wpAnyU P md ops Q S z n (listed.setIfInBounds i true) a w) → K' a w) → if Region.wanted o (yielded ops a.tmps) = true then Oper.wp P o a w K' Q else K' (a.put o.dst undef) w) :
    wpAnyU P md ops Q S z (n + 1) listed a w :=
  ⟨fun h0 => (by rw [hr] at h0; cases h0), fun j hj => by
    rw [hr] at hj
    obtain rfl : j = i := by simpa using hj
    exact wpOp_step ho (fun K' hK => h K' (fun a w hS hW => hK a w ⟨.inr hS, hW hS⟩))⟩
/-- The last one is carried out: S is asked no more. -/
theorem wpAnyU_last {o : Oper} {n : Nat} {listed : Array Bool} {a : Act} {w : World} (hr : Region.ready md ops listed = [z]) (ho : ops[z]? = some o)
    (h : ∀ K' : Act → World → Prop, Shut (∀ a w, wpAnyU P md ops Q S z n (listed.setIfInBounds z true) a w → K' a w) → if Region.wanted o (yielded ops a.tmps) = true then Oper.wp P o a w K' Q else K' (a.put o.dst undef) w) :
    wpAnyU P md ops Q S z (n + 1) listed a w :=
  ⟨fun h0 => (by rw [hr] at h0; cases h0), fun j hj => by
    rw [hr] at hj
    obtain rfl : j = z := by simpa using hj
    exact wpOp_step ho (fun K' hK => h K' (fun a w hW => hK a w ⟨.inl rfl, hW⟩))⟩
theorem wp_region_until {id : Nat} {a : Act} {w : World} (hm : P.follows .mixedOrders = true) (hS : S w.drew)
    (h : S w.drew → wpAnyU P .any ops Q S z ops.size (Array.replicate ops.size false) a w.drew) : (Code.region id ops true).wp P Q a w :=
  wp_region_any hm (h hS).any
theorem wpAnyU_done {listed : Array Bool} {a : Act} {w : World} (hr : Region.ready md ops listed = []) (h : Q .normal a w) : ∀ n, wpAnyU P md ops Q S z n listed a w
  | 0 => ⟨hr, h⟩
  | _ + 1 => ⟨fun _ => h, by rw [hr]; simp⟩
end
end Go.Proofs.YtadbbkpillfjaaaGreatDoor

/-
  The contract of the model's ShowSum.
-/
namespace Go.Proofs.YtadbbkpillfjaaaGreatDoor
open Go.ChangeShapes Go.WideShapes Go.ChangeAt Go.RowKit
attribute [local go_sem ↓] Go.wp_at_zero Go.wp_at_succ
attribute [local simp] World.cell?_alloc_past World.cell?_alloc_at World.frozen?_alloc_at cell_far cell_off cell_here World.frozen?_alloc_past

end Go.Proofs.YtadbbkpillfjaaaGreatDoor

/-
  The contracts of the model's l8Put and NamesOf.
-/
namespace Go.Proofs.YtadbbkpillfjaaaGreatDoor
open Go.ChangeShapes Go.WideShapes Go.ChangeAt Go.RowKit
attribute [local go_sem ↓] Go.wp_at_zero Go.wp_at_succ
attribute [local simp] World.cell?_alloc_past World.cell?_alloc_at World.frozen?_alloc_at cell_far cell_off cell_here World.frozen?_alloc_past

theorem own_strs1 {w : World} {base g c n : Nat} {e : TypeId} {L : List ByteArray} (h : w.ownsRow base e 1 (.slice (some ⟨g, 0, none⟩) n c) n (strV L)) (hn : L.length = n) : StrsAt w (some ⟨g, 0, none⟩) L := fun j hj => by
  refine ⟨g, 0, rfl, (h.lt g rfl).2, ?_⟩
  rw [Nat.zero_add]
  have := h.cellAt j (by omega)
  rw [this]
  unfold strV
  rw [List.getElem?_map, List.getElem?_eq_getElem hj]
  rfl
end Go.Proofs.YtadbbkpillfjaaaGreatDoor

/-
  Texts sorted, then each once, without any program: they are the names put in one by one.
-/
namespace Go.Proofs.YtadbbkpillfjaaaGreatDoor

end Go.Proofs.YtadbbkpillfjaaaGreatDoor

/-
  The contract of the program's NamesOf.
-/
namespace Go.Proofs.YtadbbkpillfjaaaGreatDoor
open Go.ChangeShapes Go.WideShapes Go.ChangeAt Go.RowKit
attribute [local go_sem ↓] Go.wp_at_zero Go.wp_at_succ
attribute [local simp] World.cell?_alloc_past World.cell?_alloc_at World.frozen?_alloc_at cell_far cell_off cell_here World.frozen?_alloc_past

end Go.Proofs.YtadbbkpillfjaaaGreatDoor

/-
  The program's five sentinels, errors' own handle and the library's variables in later worlds; what an error of the program is.
-/
namespace Go.Proofs.YtadbbkpillfjaaaGreatDoor
open Go.ChangeShapes Go.WideShapes Go.ChangeAt Go.RowKit

end Go.Proofs.YtadbbkpillfjaaaGreatDoor

/-
  The library's errors.Is at the program's errors: Go's own text is walked.
-/
namespace Go.Proofs.YtadbbkpillfjaaaGreatDoor
open Go.ChangeShapes Go.WideShapes Go.ChangeAt Go.RowKit Go.Extern.Stop Go.Stop Go.Extern
attribute [local simp] World.cell?_alloc_past World.cell?_alloc_at World.frozen?_alloc_at World.frozen?_alloc_past

end Go.Proofs.YtadbbkpillfjaaaGreatDoor

/-
  The library's errors.As at a nil error and at a notThere, the target a notThere: Go's own text is walked.
-/
namespace Go.Proofs.YtadbbkpillfjaaaGreatDoor
open Go.ChangeShapes Go.WideShapes Go.ChangeAt Go.RowKit Go.Extern.Stop Go.Stop Go.Extern

end Go.Proofs.YtadbbkpillfjaaaGreatDoor

/-
  The library's slices.Grow of nothing and slices.Concat of two lists of texts: Go's own text is walked.
-/
namespace Go.Proofs.YtadbbkpillfjaaaGreatDoor
open Go.ChangeShapes Go.WideShapes Go.ChangeAt Go.RowKit
attribute [local go_sem ↓] Go.wp_at_zero Go.wp_at_succ

/-- An append whose run is known, as one operation of a list. -/
theorem wpList_app {P : Program} {w : World} {ops : Array Oper} {rest : List Oper} {o : Oper} {a : Act} {Q : Exit → Act → World → Prop} (hgd : o.guard = none) (s x : Operand) (t u : TypeId)
    (ho : o.op = .call { callee := .builtin .append, args := #[s, x], argTypes := #[t, u] }) (vs vx : Value) (hs : a.eval s = vs) (hx : a.eval x = vx) (v' : Value) (w' : World)
    (hr : (Builtin.append_ #[t, u] o.type #[vs, vx]).run P w = .ok v' w') (h : wpList P ops Q rest (a.put o.dst v') w') : wpList P ops Q (o :: rest) a w := by
  refine wpList_plain hgd fun K hK => ?_
  unfold Oper.wp execOp
  simp only [ho, resolve, invoke, builtin, Sem.run_bind, Sem.run_pure, Result.andThen_ok, List.map_toArray, List.map_cons, List.map_nil, hs, hx, hr]
  exact hK _ _ h
end Go.Proofs.YtadbbkpillfjaaaGreatDoor

/-
  The contracts of the program's and the model's ColumnOf.
-/
namespace Go.Proofs.YtadbbkpillfjaaaGreatDoor
open Go.ChangeShapes Go.WideShapes Go.ChangeAt Go.RowKit
attribute [local go_sem ↓] Go.wp_at_zero Go.wp_at_succ

end Go.Proofs.YtadbbkpillfjaaaGreatDoor

/-
  Lists of tables: how a slice of tables lies in memory, and the contracts of the law's helpers that measure one and hold two that are one against each other.
-/
namespace Go.Proofs.YtadbbkpillfjaaaGreatDoor
open Go.ChangeShapes Go.WideShapes Go.ChangeAt Go.RowKit
attribute [local go_sem ↓] Go.wp_at_zero Go.wp_at_succ

/-- The tables of a slice lie where it says. -/
def TabsAt (w : World) (a : Option Addr) (T : List TB) : Prop :=
  ∀ i (h : i < T.length), ∃ b o ca cc ra cr, a = some ⟨b, o, none⟩ ∧ b < w.heap.size ∧ w.cell? ⟨b, o + i * 3, none⟩ = some (.string T[i].1) ∧ w.cell? ⟨b, o + i * 3 + 1, none⟩ = some (.slice ca T[i].2.1.length cc) ∧ w.cell? ⟨b, o + i * 3 + 2, none⟩ = some (.slice ra T[i].2.2.length cr) ∧ TabAt w ca cc ra T[i]
theorem TabsAt.below {w w' : World} {a : Option Addr} {T : List TB} (h : TabsAt w a T) (hb : Below w.heap.size w w') : TabsAt w' a T := by
  intro i hi
  obtain ⟨b, o, ca, cc, ra, cr, ha, hlt, h0, h1, h2, h3⟩ := h i hi
  refine ⟨b, o, ca, cc, ra, cr, ha, Nat.lt_of_lt_of_le hlt hb.size, ?_, ?_, ?_, h3.below hb⟩
  · rw [hb.cell (p := ⟨b, _, none⟩) hlt]; exact h0
  · rw [hb.cell (p := ⟨b, _, none⟩) hlt]; exact h1
  · rw [hb.cell (p := ⟨b, _, none⟩) hlt]; exact h2

end Go.Proofs.YtadbbkpillfjaaaGreatDoor

/-
  Bases: what a right one is, and the contracts of the model's question for it and of its search by name.
-/
namespace Go.Proofs.YtadbbkpillfjaaaGreatDoor
open Go.ChangeShapes Go.WideShapes Go.ChangeAt Go.RowKit
attribute [local go_sem ↓] Go.wp_at_zero Go.wp_at_succ

/-- The names of tables. -/
def namesT (T : List TB) : List ByteArray := T.map (·.1)
end Go.Proofs.YtadbbkpillfjaaaGreatDoor
