/-
  A part of the proof: ErrVar, ErrIs, ErrAs, ShpI1, ShpI2, ShpI3, ShpI4, ShpI5, ShpLaw, ColVar.
-/
import Derived.Test.YtegnekbbbfncgaaGreatDoorPart2
import Derived.WalkKit
import Derived.LaidEql
import Derived.Stop.Asserts
import Derived.RowKitTokens
import Derived.Test.YtegnekbbbfncgaaGreatDoorPart4
import Derived.Test.YtegnekbbbfncgaaGreatDoorPart7
import Derived.Test.YtegnekbbbfncgaaGreatDoorPart12
import Derived.Test.YtegnekbbbfncgaaGreatDoorPart13
import Derived.BigQuiet
import Derived.Test.YtegnekbbbfncgaaGreatDoorPart15
import Derived.Deep.RegionHeld3
import Derived.Test.YtegnekbbbfncgaaGreatDoorPart17
import Derived.Test.YtegnekbbbfncgaaGreatDoorPart19

/-
  The program's five sentinels, errors' own handle and the library's variables in later worlds; what an error of the program is.
-/
namespace Go.Proofs.YtegnekbbbfncgaaGreatDoor
open Go.ChangeShapes Go.WideShapes Go.ChangeAt Go.RowKit

/-- Where the sentinels lie: no table, twice, no column, too many, not right. -/
structure Sen where
  e1 : Addr
  e2 : Addr
  e3 : Addr
  e4 : Addr
  e5 : Addr
/-- A block that is a variable's. -/
def Blk (w : World) (a : Addr) : Prop := ∃ c t, w.heap[a.block]? = some (.cells c t (0, 0))
theorem Blk.below {w w' : World} {a : Addr} (h : Blk w a) (hb : Below w.heap.size w w') : Blk w' a := by
  obtain ⟨c, t, h⟩ := h
  have hl : a.block < w.heap.size := by
    by_cases hl : a.block < w.heap.size
    · exact hl
    · rw [Array.getElem?_eq_none (by omega)] at h; cases h
  exact ⟨c, t, by rw [hb.block _ hl]; exact h⟩
structure SenAt (w : World) (A : Sen) : Prop where
  lt : 2 < w.heap.size ∧ 3 < w.heap.size ∧ 1 < w.heap.size ∧ 4 < w.heap.size ∧ 0 < w.heap.size ∧ 5 < w.heap.size
  v1 : w.cell? ⟨2, 0, none⟩ = some (.iface 398 (.pointer (some A.e1)))
  v2 : w.cell? ⟨3, 0, none⟩ = some (.iface 398 (.pointer (some A.e2)))
  v3 : w.cell? ⟨1, 0, none⟩ = some (.iface 398 (.pointer (some A.e3)))
  v4 : w.cell? ⟨4, 0, none⟩ = some (.iface 398 (.pointer (some A.e4)))
  v5 : w.cell? ⟨0, 0, none⟩ = some (.iface 398 (.pointer (some A.e5)))
  b1 : Blk w A.e1
  b2 : Blk w A.e2
  b3 : Blk w A.e3
  b4 : Blk w A.e4
  b5 : Blk w A.e5
  n12 : A.e1 ≠ A.e2
  n13 : A.e1 ≠ A.e3
  n14 : A.e1 ≠ A.e4
  n15 : A.e1 ≠ A.e5
  n23 : A.e2 ≠ A.e3
  n24 : A.e2 ≠ A.e4
  n25 : A.e2 ≠ A.e5
  n34 : A.e3 ≠ A.e4
  n35 : A.e3 ≠ A.e5
  n45 : A.e4 ≠ A.e5
  et : w.cell? ⟨5, 0, none⟩ = some (.iface 308 (.agg #[.pointer (some ⟨12, 99, none⟩)]))
  pow : PowAt w
  err : ErrAt w
theorem SenAt.below {w w' : World} {A : Sen} (h : SenAt w A) (hb : Below w.heap.size w w') : SenAt w' A := by
  obtain ⟨l1, l2, l3, l4, l5, l6⟩ := h.lt
  have hs := hb.size
  exact ⟨⟨by omega, by omega, by omega, by omega, by omega, by omega⟩,
    by rw [hb.cell (p := ⟨_, _, none⟩) l1]; exact h.v1, by rw [hb.cell (p := ⟨_, _, none⟩) l2]; exact h.v2, by rw [hb.cell (p := ⟨_, _, none⟩) l3]; exact h.v3,
    by rw [hb.cell (p := ⟨_, _, none⟩) l4]; exact h.v4, by rw [hb.cell (p := ⟨_, _, none⟩) l5]; exact h.v5,
    h.b1.below hb, h.b2.below hb, h.b3.below hb, h.b4.below hb, h.b5.below hb, h.n12, h.n13, h.n14, h.n15, h.n23, h.n24, h.n25, h.n34, h.n35, h.n45,
    by rw [hb.cell (p := ⟨_, _, none⟩) l6]; exact h.et, h.pow.below hb, h.err.below hb⟩

end Go.Proofs.YtegnekbbbfncgaaGreatDoor

/-
  The library's errors.Is at the program's errors: Go's own text is walked.
-/
namespace Go.Proofs.YtegnekbbbfncgaaGreatDoor
open Go.ChangeShapes Go.WideShapes Go.ChangeAt Go.RowKit Go.Extern.Stop Go.Stop Go.Extern
attribute [local simp] World.cell?_alloc_past World.cell?_alloc_at World.frozen?_alloc_at World.frozen?_alloc_past

end Go.Proofs.YtegnekbbbfncgaaGreatDoor

/-
  The library's errors.As at a nil error and at a notThere, the target a notThere: Go's own text is walked.
-/
namespace Go.Proofs.YtegnekbbbfncgaaGreatDoor
open Go.ChangeShapes Go.WideShapes Go.ChangeAt Go.RowKit Go.Extern.Stop Go.Stop Go.Extern

end Go.Proofs.YtegnekbbbfncgaaGreatDoor

/-
  The program's lookedUp, isFree, allThere and tableColumns.
-/
namespace Go.Proofs.YtegnekbbbfncgaaGreatDoor
open Go.ChangeShapes Go.WideShapes Go.ChangeAt Go.RowKit
attribute [local go_sem ↓] Go.wp_at_zero Go.wp_at_succ
attribute [local simp] World.cell?_alloc_past World.cell?_alloc_at World.frozen?_alloc_at cell_far cell_off cell_here World.frozen?_alloc_past

theorem InR.cols {T : List TB} {s : ByteArray} {u : TB} (h : InR T s u true) : inB (namesT T) s = true ∧ colsOf T s = u.2.1 ∧ u ∈ T := by
  rcases h with ⟨h, _⟩ | ⟨_, k, hk, e1, e2, hf⟩
  · cases h
  · have hfd := findT_at hk (e1 ▸ e2) (fun j hj hjk => hf j hj hjk)
    refine ⟨inB_iff.2 ?_, ?_, ?_⟩
    · rw [← e2, ← e1]; exact List.mem_map_of_mem (List.getElem_mem hk)
    · unfold colsOf; rw [hfd, e1]; rfl
    · rw [← e1]; exact List.getElem_mem hk
theorem InR.none {T : List TB} {s : ByteArray} {u : TB} (h : InR T s u false) : inB (namesT T) s = false := by
  rcases h with ⟨_, _, h⟩ | ⟨h, _⟩
  · exact inB_no.2 h
  · cases h
end Go.Proofs.YtegnekbbbfncgaaGreatDoor

/-
  The program's widened and grouped.
-/
namespace Go.Proofs.YtegnekbbbfncgaaGreatDoor
open Go.ChangeShapes Go.WideShapes Go.ChangeAt Go.RowKit
attribute [local go_sem ↓] Go.wp_at_zero Go.wp_at_succ
attribute [local simp] World.cell?_alloc_past World.cell?_alloc_at World.frozen?_alloc_at cell_far cell_off cell_here World.frozen?_alloc_past

end Go.Proofs.YtegnekbbbfncgaaGreatDoor

/-
  The program's grouped, besideTable and stepped, kind by kind.
-/
namespace Go.Proofs.YtegnekbbbfncgaaGreatDoor
open Go.ChangeShapes Go.WideShapes Go.ChangeAt Go.RowKit
attribute [local go_sem ↓] Go.wp_at_zero Go.wp_at_succ
attribute [local simp] World.cell?_alloc_past World.cell?_alloc_at World.frozen?_alloc_at cell_far cell_off cell_here World.frozen?_alloc_past

end Go.Proofs.YtegnekbbbfncgaaGreatDoor

/-
  The program's stepped of every kind, shapeCode, shape, stepColumns and StepShape.
-/
namespace Go.Proofs.YtegnekbbbfncgaaGreatDoor
open Go.ChangeShapes Go.WideShapes Go.ChangeAt Go.RowKit
attribute [local go_sem ↓] Go.wp_at_zero Go.wp_at_succ
attribute [local simp] World.cell?_alloc_past World.cell?_alloc_at World.frozen?_alloc_at cell_far cell_off cell_here World.frozen?_alloc_past

theorem mild_fitI {s : SV} (h : MildV s) : FitI s.sum := by
  intro x hx
  have h1 := oneI_le hx
  have h3 : weightItm s.sum ≤ 1048576 := h.2.2.2.2
  unfold oneItm at h1
  unfold maxLen
  exact ⟨by omega, by omega⟩
end Go.Proofs.YtegnekbbbfncgaaGreatDoor

/-
  The program's askColumns and ShapeOf.
-/
namespace Go.Proofs.YtegnekbbbfncgaaGreatDoor
open Go.ChangeShapes Go.WideShapes Go.ChangeAt Go.RowKit
attribute [local go_sem ↓] Go.wp_at_zero Go.wp_at_succ
attribute [local simp] World.cell?_alloc_past World.cell?_alloc_at World.frozen?_alloc_at cell_far cell_off cell_here World.frozen?_alloc_past

end Go.Proofs.YtegnekbbbfncgaaGreatDoor

/-
  What the exact laws of chapter 11 ask beside the walks: how many marks, the answer's list through marks and later worlds.
-/
namespace Go.Proofs.YtegnekbbbfncgaaGreatDoor
open Go.ChangeShapes Go.WideShapes Go.ChangeAt Go.RowKit

/-- The answer: a list of texts in memory of its own. -/
def Own (w : World) (base g n c : Nat) (D : List ByteArray) : Prop := D.length = n ∧ w.ownsRow base 9 1 (.slice (some ⟨g, 0, none⟩) n c) n (strV D)
theorem Own.free {w : World} {base g n c : Nat} {D : List ByteArray} (h : Own w base g n c D) : FreeS w (some ⟨g, 0, none⟩) D.length := by
  obtain ⟨rfl, h⟩ := h
  exact own_freeS h
theorem Own.below {w w' : World} {base g n c : Nat} {D : List ByteArray} (h : Own w base g n c D) (hb : Below w.heap.size w w') : Own w' base g n c D := ⟨h.1, own_below h.2 hb⟩
theorem Own.lo {w : World} {base g n c : Nat} {D : List ByteArray} (h : Own w base g n c D) : base ≤ g := (h.2.lt g rfl).1
theorem Own.keepS {P : Nat → Prop} {w w' : World} {base g n c : Nat} {D : List ByteArray} (h : Own w base g n c D) (hk : KeepS P w w') (hP : ∀ b, P b → b < base) : Own w' base g n c D := by
  have hg := h.2.lt g rfl
  exact ⟨h.1, own_keepW h.2 (Nat.le_refl _) (hk.block g hg.2 (fun hp => by have := hP g hp; omega))⟩
theorem ShpOut.own {w w' : World} {D : List ByteArray} {k : Int} {e : Ending} (h : ShpOut w D k e w') : ∃ g n c, e = .returned (.tuple #[.slice (some ⟨g, 0, none⟩) n c, .int .i64 k]) ∧ Own w' w.heap.size g n c D ∧ Below w.heap.size w w' := by
  obtain ⟨g, n, c, hn, he, _, ho, hb⟩ := h
  exact ⟨g, n, c, he, ⟨hn, ho⟩, hb⟩
end Go.Proofs.YtegnekbbbfncgaaGreatDoor

/-
  The program's sentinel for a column that is not there, in later worlds; lookedUp and allThere where no other sentinel is known.
-/
namespace Go.Proofs.YtegnekbbbfncgaaGreatDoor
open Go.ChangeShapes Go.WideShapes Go.ChangeAt Go.RowKit
attribute [local go_sem ↓] Go.wp_at_zero Go.wp_at_succ

def ColAt (w : World) : Prop := 1 < w.heap.size ∧ ∃ e : Addr, w.cell? ⟨1, 0, none⟩ = some (.iface 398 (.pointer (some e)))
theorem ColAt.below {w w' : World} (h : ColAt w) (hb : Below w.heap.size w w') : ColAt w' := by
  obtain ⟨l, e, h⟩ := h
  exact ⟨Nat.lt_of_lt_of_le l hb.size, e, by rw [hb.cell (p := ⟨_, _, none⟩) l]; exact h⟩
/-- No error, or the one of a column that is not there. -/
def ErrC (b : Bool) (v : Value) : Prop := (b = true ∧ v = .nilIface) ∨ (b = false ∧ ∃ nm e, v = .iface 215 (.agg #[.string nm, .iface 398 (.pointer (some e))]))
theorem ErrC.yes {v : Value} (h : ErrC true v) : v = .nilIface := by
  rcases h with ⟨_, h⟩ | ⟨h, _⟩
  · exact h
  · cases h
theorem ErrC.no {v : Value} (h : ErrC false v) : ∃ nm e, v = .iface 215 (.agg #[.string nm, .iface 398 (.pointer (some e))]) := by
  rcases h with ⟨h, _⟩ | ⟨_, h⟩
  · cases h
  · exact h
set_option maxRecDepth 100000 in
set_option maxHeartbeats 4000000 in
theorem looked_col (n : Nat) (a : Option Addr) (cap : Nat) (l : List ByteArray) (hn : l.length = n) (s : ByteArray) (w : World) (hrow : StrsAt w a l) (hm : n ≤ maxLen) (hS : ColAt w) (b : Bool) (hb : inB l s = b) :
    Calls Tryz.prog 139 #[.slice a n cap, .string s] w fun e w' => ∃ v, e = .returned v ∧ ErrC b v ∧ Below w.heap.size w w' := by
  have HC : Hid (Calls Tryz.prog 111 #[.slice a n cap, .string s] w fun e w' => ∃ r, e = .returned (.int .i64 r) ∧ AtIs l s r ∧ Below w.heap.size w w') := columnof_impl n a cap l hn s w hrow hm
  have HS : Hid (ColAt w) := hS
  have HB : Hid (inB l s = b) := hb
  clear hrow hn hb hS
  go_enter Tryz.func139, Tryz.ntmps139
  go_wp2_with fail
  refine HC.out.mono ?_
  rintro e w1 ⟨r, rfl, hat, hb1⟩
  have HAT : Hid (AtIs l s r) := hat
  clear hat HC
  by_cases hr : 0 ≤ r
  · have e : b = true := by rw [← HB.out]; exact inB_iff.2 (HAT.out.neg.1 hr)
    subst e
    have hr2 : ¬ r < 0 := by omega
    go_wp2
    go_ret
    exact ⟨_, rfl, .inl ⟨rfl, rfl⟩, hb1⟩
  · have e : b = false := by rw [← HB.out]; exact inB_no.2 (fun h => hr (HAT.out.neg.2 h))
    subst e
    have hr2 : r < 0 := by omega
    obtain ⟨_, ea, hv⟩ := HS.out.below hb1
    go_wp2
    go_ret
    exact ⟨_, rfl, .inr ⟨rfl, _, _, rfl⟩, hb1⟩
set_option maxRecDepth 100000 in
set_option maxHeartbeats 4000000 in
theorem all_there_col (n : Nat) (a : Option Addr) (cap : Nat) (C : List ByteArray) (hn : C.length = n) (m : Nat) (a2 : Option Addr) (cap2 : Nat) (N : List ByteArray) (hm2 : N.length = m) (w : World) (hrow : StrsAt w a C) (hrow2 : StrsAt w a2 N) (hm : n ≤ maxLen) (hmm : m ≤ maxLen) (hS : ColAt w) (b : Bool) (hb : N.all (inB C) = b) :
    Calls Tryz.prog 73 #[.slice a n cap, .slice a2 m cap2] w fun e w' => ∃ v, e = .returned v ∧ ErrC b v ∧ Below w.heap.size w w' := by
  have HR : Hid (StrsAt w a C) := hrow
  have HR2 : Hid (StrsAt w a2 N) := hrow2
  have HS : Hid (ColAt w) := hS
  have HB : Hid (N.all (inB C) = b) := hb
  have HN : Hid (C.length = n) := hn
  subst hm2
  clear hrow hrow2 hS hb hn
  unfold maxLen at hm hmm
  go_enter Tryz.func73, Tryz.ntmps73
  go_wp2
  go_loopw [10] (fun kk wr => ∃ k : Nat, k ≤ N.length ∧ kk = .int .i64 k ∧ Hid ((N.take k).all (inB C) = true) ∧ Below w.heap.size w wr) (fun kk _ => N.length - (intOf kk).toNat)
  case atStart => exact ⟨0, Nat.zero_le _, rfl, rfl, Below.refl _ _⟩
  case round =>
    obtain ⟨k, hk, rfl, hall, hbw⟩ := hrel
    by_cases hlt : k < N.length
    · obtain ⟨g, o, rfl, hgw, c0⟩ := HR2.out.below hbw k hlt
      have hi0 : (0 : Int) ≤ (k : Int) := by omega
      have hi1 : (k : Int) < (N.length : Int) := by omega
      have HT : Hid ((N.take (k + 1)).all (inB C) = inB C N[k]) := by
        have : (N.take (k + 1)).all (inB C) = inB C N[k] := by
          rw [List.take_succ_eq_append_getElem hlt, List.all_append, hall.out, Bool.true_and, List.all_cons, List.all_nil, Bool.and_true]
        exact this
      have hno : Hid (inB C N[k] = false → b = false) := by
        have : inB C N[k] = false → b = false := by
          intro e
          rw [← HB.out, Bool.eq_false_iff]
          intro h
          rw [List.all_eq_true.1 h _ (List.getElem_mem hlt)] at e
          cases e
        exact this
      obtain ⟨r, hr⟩ : ∃ r, inB C N[k] = r := ⟨_, rfl⟩
      generalize N[k] = x at c0 HT hr hno
      have HRR : Hid (inB C x = r) := hr
      clear hr
      go_wp2_with fail
      refine (looked_col n a cap C HN.out x _ (HR.out.below hbw) (by unfold maxLen; omega) (HS.out.below hbw) r HRR.out).mono ?_
      rintro e wA ⟨v, rfl, hv, hbA⟩
      cases r
      · have e := hno.out HRR.out
        subst e
        obtain ⟨nm, ea, rfl⟩ := hv.no
        clear hv
        go_wp2
        go_ret
        exact ⟨_, rfl, .inr ⟨rfl, _, _, rfl⟩, chain hbw hbA⟩
      · obtain rfl := hv.yes
        clear hv
        go_wp2
        go_roundw
        case rel => exact ⟨k + 1, by omega, by go_num, by rw [HT.out]; exact HRR.out, chain hbw hbA⟩
        case measure => simp [intOf]; omega
    · have hkl : k = N.length := by omega
      subst hkl
      have hnn : ¬ (N.length : Int) < (N.length : Int) := by omega
      have e : b = true := by
        rw [← HB.out]
        have := hall.out
        rw [List.take_length] at this
        exact this
      subst e
      go_wp2
      go_ret
      exact ⟨_, rfl, .inl ⟨rfl, rfl⟩, hbw⟩
end Go.Proofs.YtegnekbbbfncgaaGreatDoor
