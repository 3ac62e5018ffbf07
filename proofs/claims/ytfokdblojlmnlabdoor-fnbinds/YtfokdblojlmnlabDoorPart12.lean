/-
  A part of the proof: LikeItm, Draw1, Draw2, Draw3, Draw4, Draw5, Draw6, Law1, BindWalk, Laid, LaidSg.
-/
import Derived.Test.YtfokdblojlmnlabDoorPart4
import Derived.Test.YtfokdblojlmnlabDoorPart1
import Derived.Deep.RegionHeld3
import Derived.Test.YtfokdblojlmnlabDoorPart11
import Derived.LaidMore
import Derived.Stop.LaidErr
import Derived.Lib.LaidTab
import Derived.Stop.Joined
import Derived.ProofKit
import Derived.LaidLaws
import Derived.Test.YtfokdblojlmnlabDoorPart8
import Derived.OpenVars
import Derived.ChangeVars

/-
  The contract of the law's helper that holds lists of items against each other: of two that are one it answers true.
-/
namespace Go.Proofs.YtfokdblojlmnlabDoor
open Go.ChangeShapes Go.WideShapes Go.ChangeAt Go.RowKit
attribute [local go_sem ↓] Go.wp_at_zero Go.wp_at_succ
attribute [local simp] World.cell?_alloc_past World.cell?_alloc_at World.frozen?_alloc_at cell_far cell_off cell_here World.frozen?_alloc_past

theorem neqItm_one (k : Int) (a b : Int) (t s : ByteArray) (w : World) :
    (binOp .neq 46 (.agg #[.int .i64 k, .int .i64 a, .int .i64 b, .string t, .string s]) (.agg #[.int .i64 k, .int .i64 a, .int .i64 b, .string t, .string s])).run Tryd.prog w = .ok (.bool false) w := by
  go_simp
set_option maxHeartbeats 1000000 in
theorem like_sum (a b : Option Addr) (ca cb : Nat) (l : List TI) (w : World) (ha : ItmAt w a l) (hb : ItmAt w b l) (hm : l.length ≤ maxLen) :
    Calls Tryd.prog 8 #[.slice a l.length ca, .slice b l.length cb] w fun e w' => e = .returned (.bool true) ∧ Below w.heap.size w w' := by
  have hA : Hid (ItmAt w a l) := ha
  have hB : Hid (ItmAt w b l) := hb
  clear ha hb
  have hq := neqItm_one
  unfold maxLen at hm
  go_enter Tryd.func8, Tryd.ntmps8
  go_wp2
  go_loopw [5] (fun i wr => ∃ k : Nat, k ≤ l.length ∧ i = .int .i64 k ∧ Below w.heap.size w wr) (fun i _ => l.length - (intOf i).toNat)
  case atStart => exact ⟨0, Nat.zero_le _, rfl, Below.refl _ _⟩
  case round =>
    obtain ⟨k, hk, rfl, hx⟩ := hrel
    by_cases hlt : k < l.length
    · obtain ⟨b1, o1, rfl, hbw, c0, c1, c2, c3, c4⟩ := hA.out.below hx k hlt
      obtain ⟨b2, o2, rfl, hbw2, d0, d1, d2, d3, d4⟩ := hB.out.below hx k hlt
      have hi0 : (0 : Int) ≤ (k : Int) := by omega
      have hi1 : (k : Int) < (l.length : Int) := by omega
      generalize l[k] = x at c0 c1 c2 c3 c4 d0 d1 d2 d3 d4
      go_wp2_with fail
      go_quiet (fail)
      go_wp2
      go_roundw
      case rel => exact ⟨k + 1, by omega, by go_num, belowN hx _⟩
      case measure => simp [intOf]; omega
    · have hnn : ¬ (k : Int) < (l.length : Int) := by omega
      go_wp2
      go_ret
      exact ⟨rfl, hx⟩
end Go.Proofs.YtfokdblojlmnlabDoor

/-
  The contracts of the drawing cursor: where it lies in memory, and that a byte drawn is from 0 to 255.
-/
namespace Go.Proofs.YtfokdblojlmnlabDoor
open Go.ChangeShapes Go.WideShapes Go.ChangeAt Go.RowKit

/-- A cursor lies at block c: its bytes, how far it has come, its number. -/
structure Cur (w : World) (c : Nat) (a : Option Addr) (len cap : Nat) : Prop where
  c0 : w.cell? ⟨c, 0, none⟩ = some (.slice a len cap)
  c1 : ∃ i : Nat, w.cell? ⟨c, 1, none⟩ = some (.int .i64 (i : Int)) ∧ i ≤ len
  c2 : ∃ h : Int, w.cell? ⟨c, 2, none⟩ = some (.int .i64 h)
  f0 : w.frozen? ⟨c, 0, none⟩ = false
  f1 : w.frozen? ⟨c, 1, none⟩ = false
  f2 : w.frozen? ⟨c, 2, none⟩ = false
  lt : c < w.heap.size
  hlen : len ≤ maxLen
  row : ∀ j, j < len → ∃ (rb ro : Nat) (v : Int), a = some ⟨rb, ro, none⟩ ∧ rb < c ∧ w.cell? ⟨rb, ro + j, none⟩ = some (.int .u8 v) ∧ 0 ≤ v ∧ v ≤ 255

theorem Cur.below {w w' : World} {c : Nat} {a : Option Addr} {len cap : Nat} (h : Cur w c a len cap) (hb : Below w.heap.size w w') : Cur w' c a len cap := by
  have hc : ∀ o, w'.cell? ⟨c, o, none⟩ = w.cell? ⟨c, o, none⟩ := fun o => hb.cell (p := ⟨c, o, none⟩) h.lt
  have hf : ∀ o, w'.frozen? ⟨c, o, none⟩ = w.frozen? ⟨c, o, none⟩ := fun o => hb.frozen (p := ⟨c, o, none⟩) h.lt
  refine ⟨by rw [hc]; exact h.c0, by rw [hc]; exact h.c1, by rw [hc]; exact h.c2, by rw [hf]; exact h.f0, by rw [hf]; exact h.f1, by rw [hf]; exact h.f2, Nat.lt_of_lt_of_le h.lt hb.size, h.hlen, ?_⟩
  intro j hj
  obtain ⟨rb, ro, v, ha, hlt, hcell, hv⟩ := h.row j hj
  exact ⟨rb, ro, v, ha, hlt, by rw [hb.cell (p := ⟨rb, ro + j, none⟩) (Nat.lt_trans hlt h.lt)]; exact hcell, hv⟩

theorem Cur.drewN {w : World} {c : Nat} {a : Option Addr} {len cap : Nat} (h : Cur w c a len cap) (n : Nat) : Cur (w.drewN n) c a len cap :=
  ⟨h.c0, h.c1, h.c2, h.f0, h.f1, h.f2, h.lt, h.hlen, h.row⟩
theorem Cur.drew {w : World} {c : Nat} {a : Option Addr} {len cap : Nat} (h : Cur w c a len cap) : Cur w.drew c a len cap :=
  ⟨h.c0, h.c1, h.c2, h.f0, h.f1, h.f2, h.lt, h.hlen, h.row⟩

theorem set_row {w : World} {c : Nat} {a : Option Addr} {len o : Nat} {u : Value} (row : ∀ j, j < len → ∃ (rb ro : Nat) (v : Int), a = some ⟨rb, ro, none⟩ ∧ rb < c ∧ w.cell? ⟨rb, ro + j, none⟩ = some (.int .u8 v) ∧ 0 ≤ v ∧ v ≤ 255) :
    ∀ j, j < len → ∃ (rb ro : Nat) (v : Int), a = some ⟨rb, ro, none⟩ ∧ rb < c ∧ (w.setCell ⟨c, o, none⟩ u).cell? ⟨rb, ro + j, none⟩ = some (.int .u8 v) ∧ 0 ≤ v ∧ v ≤ 255 := by
  intro j hj
  obtain ⟨rb, ro, v, ha, hlt, hcell, hv⟩ := row j hj
  exact ⟨rb, ro, v, ha, hlt, by rw [World.cell?_of_block (w := w) (Below.heap_setCell w _ u rb (Nat.ne_of_lt hlt))]; exact hcell, hv⟩

theorem Cur.set2 {w : World} {c : Nat} {a : Option Addr} {len cap : Nat} (h : Cur w c a len cap) (v : Int) : Cur (w.setCell ⟨c, 2, none⟩ (.int .i64 v)) c a len cap := by
  obtain ⟨c0, ⟨i, c1, hi⟩, ⟨hh, c2⟩, f0, f1, f2, lt, hlen, row⟩ := h
  refine ⟨?_, ⟨i, ?_, hi⟩, ⟨v, ?_⟩, by rw [World.frozen?_setCell]; exact f0, by rw [World.frozen?_setCell]; exact f1, by rw [World.frozen?_setCell]; exact f2, by simpa using lt, hlen, set_row row⟩
  · rw [World.cell?_setCell_other _ _ _ _ (by simp)]; exact c0
  · rw [World.cell?_setCell_other _ _ _ _ (by simp)]; exact c1
  · exact World.cell?_setCell_same _ _ _ c2

theorem Cur.set1 {w : World} {c : Nat} {a : Option Addr} {len cap : Nat} (h : Cur w c a len cap) (i : Nat) (hi : i ≤ len) (v : Int) (hv : v = (i : Int)) : Cur (w.setCell ⟨c, 1, none⟩ (.int .i64 v)) c a len cap := by
  subst hv
  obtain ⟨c0, ⟨i', c1, _⟩, ⟨hh, c2⟩, f0, f1, f2, lt, hlen, row⟩ := h
  refine ⟨?_, ⟨i, ?_, hi⟩, ⟨hh, ?_⟩, by rw [World.frozen?_setCell]; exact f0, by rw [World.frozen?_setCell]; exact f1, by rw [World.frozen?_setCell]; exact f2, by simpa using lt, hlen, set_row row⟩
  · rw [World.cell?_setCell_other _ _ _ _ (by simp)]; exact c0
  · exact World.cell?_setCell_same _ _ _ c1
  · rw [World.cell?_setCell_other _ _ _ _ (by simp)]; exact c2

/-- A store into a block that was made behind the cursor. -/
theorem Cur.setAbove {w : World} {c : Nat} {a : Option Addr} {len cap : Nat} (h : Cur w c a len cap) {b o : Nat} (hb : c < b) (u : Value) : Cur (w.setCell ⟨b, o, none⟩ u) c a len cap := by
  have hc : ∀ k q, k ≤ c → (w.setCell ⟨b, o, none⟩ u).cell? ⟨k, q, none⟩ = w.cell? ⟨k, q, none⟩ := fun k q hk => World.cell?_of_block (w := w) (Below.heap_setCell w _ u k (by simp; omega))
  obtain ⟨c0, c1, c2, f0, f1, f2, lt, hlen, row⟩ := h
  refine ⟨by rw [hc _ _ (Nat.le_refl _)]; exact c0, by rw [hc _ _ (Nat.le_refl _)]; exact c1, by rw [hc _ _ (Nat.le_refl _)]; exact c2, by rw [World.frozen?_setCell]; exact f0, by rw [World.frozen?_setCell]; exact f1, by rw [World.frozen?_setCell]; exact f2, by simpa using lt, hlen, ?_⟩
  intro j hj
  obtain ⟨rb, ro, v, ha, hlt, hcell, hv⟩ := row j hj
  exact ⟨rb, ro, v, ha, hlt, by rw [hc _ _ (Nat.le_of_lt hlt)]; exact hcell, hv⟩

theorem Cur.alloc {w : World} {c : Nat} {a : Option Addr} {len cap : Nat} (h : Cur w c a len cap) (o : Obj) : Cur (w.alloc o) c a len cap :=
  h.below ((Below.refl _ _).alloc (Nat.le_refl _) o)

theorem i64_and255 (n : Int) : bits .and .i64 n 255 = n % 256 := by
  have h255 : (BitVec.ofInt 64 255).toNat = 2 ^ 8 - 1 := by decide
  have key : (BitVec.ofInt 64 n &&& BitVec.ofInt 64 255).toNat = (n % ((2 ^ 64 : Nat) : Int)).toNat % 2 ^ 8 := by
    rw [BitVec.toNat_and, BitVec.toNat_ofInt, h255, Nat.and_two_pow_sub_one_eq_mod]
  show IntKind.i64.wrap ((BitVec.ofInt 64 n &&& BitVec.ofInt 64 255).toNat : Nat) = n % 256
  rw [key, IntKind.wrap_i64]
  omega

theorem and255 (n : Int) : 0 ≤ bits .and .i64 n 255 ∧ bits .and .i64 n 255 ≤ 255 := by
  rw [i64_and255]; omega

end Go.Proofs.YtfokdblojlmnlabDoor

/-
  The contracts of the cursor's making and of a drawn cell: whatever is drawn, it is a cell whose text is no longer than a text may be.
-/
namespace Go.Proofs.YtfokdblojlmnlabDoor
open Go.ChangeShapes Go.WideShapes Go.ChangeAt Go.RowKit

end Go.Proofs.YtfokdblojlmnlabDoor

/-
  The contract of a drawn cell.
-/
namespace Go.Proofs.YtfokdblojlmnlabDoor
open Go.ChangeShapes Go.WideShapes Go.ChangeAt Go.RowKit

/-- A cell handed back by a draw. -/
def DrawnCell (c : Nat) (a : Option Addr) (len cap : Nat) (w : World) (e : Ending) (w' : World) : Prop :=
  ∃ (k n : Int) (t : ByteArray), e = .returned (.agg #[.int .i64 k, .int .i64 n, .string t]) ∧ t.size ≤ maxLen ∧ Cur w' c a len cap ∧ Keep c w w'

theorem keep4 {c : Nat} {w1 w2 : World} {v0 v1 v2 v3 : Value} {T : TypeId} (hk : Keep c (w1.alloc (.cells #[v0, v1, v2, v3] T)) w2) (hne : w1.heap.size ≠ c) :
    w2.cell? ⟨w1.heap.size, 0, none⟩ = some v0 ∧ w2.cell? ⟨w1.heap.size, 1, none⟩ = some v1 ∧ w2.cell? ⟨w1.heap.size, 2, none⟩ = some v2 ∧ w2.cell? ⟨w1.heap.size, 3, none⟩ = some v3 := by
  refine ⟨?_, ?_, ?_, ?_⟩
  · rw [hk.cell (by simp) hne]; simp [go_sem]
  · rw [hk.cell (by simp) hne]; simp [go_sem]
  · rw [hk.cell (by simp) hne]; simp [go_sem]
  · rw [hk.cell (by simp) hne]; simp [go_sem]

theorem new3 {c : Nat} {w w1 : World} {x y z : Value} {T : TypeId} (hk : Keep c (w.alloc (.cells #[x, y, z] T)) w1) (hne : w.heap.size ≠ c) :
    (w1.cell? ⟨w.heap.size, 0, none⟩ = some x ∧ w1.cell? ⟨w.heap.size, 1, none⟩ = some y ∧ w1.cell? ⟨w.heap.size, 2, none⟩ = some z ∧ w.heap.size < w1.heap.size) ∧
    (w1.frozen? ⟨w.heap.size, 0, none⟩ = false ∧ w1.frozen? ⟨w.heap.size, 1, none⟩ = false ∧ w1.frozen? ⟨w.heap.size, 2, none⟩ = false) :=
  ⟨keep3 hk hne ⟨by simp [go_sem], by simp [go_sem], by simp [go_sem], by simp⟩, keepF hk hne (by simp) ⟨by simp [go_sem], by simp [go_sem], by simp [go_sem]⟩⟩

theorem old3 {w : World} {B : Nat} {x y z : Value} (o : Obj) (h : w.cell? ⟨B, 0, none⟩ = some x ∧ w.cell? ⟨B, 1, none⟩ = some y ∧ w.cell? ⟨B, 2, none⟩ = some z ∧ B < w.heap.size) :
    (w.alloc o).cell? ⟨B, 0, none⟩ = some x ∧ (w.alloc o).cell? ⟨B, 1, none⟩ = some y ∧ (w.alloc o).cell? ⟨B, 2, none⟩ = some z ∧ B < (w.alloc o).heap.size :=
  later3 ((Below.refl _ _).alloc (Nat.le_refl _) o) h
theorem oldF {w : World} {B : Nat} (o : Obj) (hB : B < w.heap.size) (h : w.frozen? ⟨B, 0, none⟩ = false ∧ w.frozen? ⟨B, 1, none⟩ = false ∧ w.frozen? ⟨B, 2, none⟩ = false) :
    (w.alloc o).frozen? ⟨B, 0, none⟩ = false ∧ (w.alloc o).frozen? ⟨B, 1, none⟩ = false ∧ (w.alloc o).frozen? ⟨B, 2, none⟩ = false :=
  frozen3 ((Below.refl _ _).alloc (Nat.le_refl _) o) hB h

end Go.Proofs.YtfokdblojlmnlabDoor

/-
  The contract of a drawn cell that may be wrong.
-/
namespace Go.Proofs.YtfokdblojlmnlabDoor
open Go.ChangeShapes Go.WideShapes Go.ChangeAt Go.RowKit

theorem keepN {c : Nat} {w1 w2 : World} {v0 v1 v2 : Value} {T : TypeId} (hk : Keep c (w1.alloc (.cells #[v0, v1, v2] T)) w2) (hne : w1.heap.size ≠ c) :
    w2.cell? ⟨w1.heap.size, 0, none⟩ = some v0 ∧ w2.cell? ⟨w1.heap.size, 1, none⟩ = some v1 ∧ w2.cell? ⟨w1.heap.size, 2, none⟩ = some v2 := by
  refine ⟨?_, ?_, ?_⟩
  · rw [hk.cell (by simp) hne]; simp [go_sem]
  · rw [hk.cell (by simp) hne]; simp [go_sem]
  · rw [hk.cell (by simp) hne]; simp [go_sem]

end Go.Proofs.YtfokdblojlmnlabDoor

/-
  The contract of two drawn cells.
-/
namespace Go.Proofs.YtfokdblojlmnlabDoor
open Go.ChangeShapes Go.WideShapes Go.ChangeAt Go.RowKit

/-- Three cells of a block, and that they may be written. -/
def Has3 (w : World) (B : Nat) (x y z : Value) : Prop :=
  (w.cell? ⟨B, 0, none⟩ = some x ∧ w.cell? ⟨B, 1, none⟩ = some y ∧ w.cell? ⟨B, 2, none⟩ = some z ∧ B < w.heap.size) ∧
  (w.frozen? ⟨B, 0, none⟩ = false ∧ w.frozen? ⟨B, 1, none⟩ = false ∧ w.frozen? ⟨B, 2, none⟩ = false)

theorem Has3.keep {c B : Nat} {w w' : World} {x y z : Value} (h : Has3 w B x y z) (hk : Keep c w w') (hne : B ≠ c) : Has3 w' B x y z :=
  ⟨keep3 hk hne h.1, keepF hk hne h.1.2.2.2 h.2⟩
theorem Has3.alloc {B : Nat} {w : World} {x y z : Value} (h : Has3 w B x y z) (o : Obj) : Has3 (w.alloc o) B x y z := ⟨old3 o h.1, oldF o h.1.2.2.2 h.2⟩
theorem Has3.new (w : World) (x y z : Value) (T : TypeId) : Has3 (w.alloc (.cells #[x, y, z] T)) w.heap.size x y z :=
  ⟨⟨by simp [go_sem], by simp [go_sem], by simp [go_sem], by simp⟩, by simp [go_sem], by simp [go_sem], by simp [go_sem]⟩
theorem Has3.drew {B : Nat} {w : World} {x y z : Value} (h : Has3 w B x y z) : Has3 w.drew B x y z := h
theorem Has3.setFar {B b o : Nat} {w : World} {x y z : Value} (h : Has3 w B x y z) (hne : B ≠ b) (u : Value) : Has3 (w.setCell ⟨b, o, none⟩ u) B x y z := by
  obtain ⟨⟨h0, h1, h2, h3⟩, f0, f1, f2⟩ := h
  have hc : ∀ q, (w.setCell ⟨b, o, none⟩ u).cell? ⟨B, q, none⟩ = w.cell? ⟨B, q, none⟩ := fun q => World.cell?_of_block (w := w) (Below.heap_setCell w _ u B hne)
  exact ⟨⟨by rw [hc]; exact h0, by rw [hc]; exact h1, by rw [hc]; exact h2, by simpa using h3⟩, by rw [World.frozen?_setCell]; exact f0, by rw [World.frozen?_setCell]; exact f1, by rw [World.frozen?_setCell]; exact f2⟩
theorem Has3.setAll {B : Nat} {w : World} {x y z : Value} (h : Has3 w B x y z) (a b c : Value) : Has3 (((w.setCell ⟨B, 0, none⟩ a).setCell ⟨B, 1, none⟩ b).setCell ⟨B, 2, none⟩ c) B a b c := by
  obtain ⟨⟨h0, h1, h2, h3⟩, f0, f1, f2⟩ := h
  refine ⟨⟨?_, ?_, ?_, by simpa using h3⟩, by simp only [World.frozen?_setCell]; exact f0, by simp only [World.frozen?_setCell]; exact f1, by simp only [World.frozen?_setCell]; exact f2⟩
  · rw [World.cell?_setCell_other _ _ _ _ (by simp), World.cell?_setCell_other _ _ _ _ (by simp)]; exact World.cell?_setCell_same _ _ _ h0
  · rw [World.cell?_setCell_other _ _ _ _ (by simp)]; exact World.cell?_setCell_same _ _ _ (by rw [World.cell?_setCell_other _ _ _ _ (by simp)]; exact h1)
  · exact World.cell?_setCell_same _ _ _ (by rw [World.cell?_setCell_other _ _ _ _ (by simp), World.cell?_setCell_other _ _ _ _ (by simp)]; exact h2)

/-- Two cells handed back by a draw. -/
def DrawnTwo (c : Nat) (a : Option Addr) (len cap : Nat) (w : World) (e : Ending) (w' : World) : Prop :=
  ∃ (k1 n1 : Int) (t1 : ByteArray) (k2 n2 : Int) (t2 : ByteArray), e = .returned (.tuple #[.agg #[.int .i64 k1, .int .i64 n1, .string t1], .agg #[.int .i64 k2, .int .i64 n2, .string t2]]) ∧ t1.size ≤ maxLen ∧ t2.size ≤ maxLen ∧ Cur w' c a len cap ∧ Keep c w w'

end Go.Proofs.YtfokdblojlmnlabDoor

/-
  The contracts of a drawn answer, of two drawn answers and of one drawn cell: of every code that is not too long.
-/
namespace Go.Proofs.YtfokdblojlmnlabDoor
open Go.ChangeShapes Go.WideShapes Go.ChangeAt Go.RowKit
attribute [local go_sem ↓] Go.wp_at_zero Go.wp_at_succ

theorem keep9 {c : Nat} {w1 w2 : World} {v0 v1 v2 v3 v4 v5 v6 v7 v8 : Value} {T : TypeId} (hk : Keep c (w1.alloc (.cells #[v0, v1, v2, v3, v4, v5, v6, v7, v8] T)) w2) (hne : w1.heap.size ≠ c) :
    (w2.cell? ⟨w1.heap.size, 0, none⟩ = some v0 ∧ w2.cell? ⟨w1.heap.size, 1, none⟩ = some v1 ∧ w2.cell? ⟨w1.heap.size, 2, none⟩ = some v2) ∧
    (w2.cell? ⟨w1.heap.size, 3, none⟩ = some v3 ∧ w2.cell? ⟨w1.heap.size, 4, none⟩ = some v4 ∧ w2.cell? ⟨w1.heap.size, 5, none⟩ = some v5) ∧
    (w2.cell? ⟨w1.heap.size, 6, none⟩ = some v6 ∧ w2.cell? ⟨w1.heap.size, 7, none⟩ = some v7 ∧ w2.cell? ⟨w1.heap.size, 8, none⟩ = some v8) := by
  refine ⟨⟨?_, ?_, ?_⟩, ⟨?_, ?_, ?_⟩, ⟨?_, ?_, ?_⟩⟩
  all_goals (rw [hk.cell (by simp) hne]; simp [go_sem])

end Go.Proofs.YtfokdblojlmnlabDoor

/-
  What every law over a drawn code uses: cells that lie in blocks, from world to world; a code that reads the same later; a cell held against itself.
-/
namespace Go.Proofs.YtfokdblojlmnlabDoor
open Go.ChangeShapes Go.WideShapes Go.ChangeAt Go.RowKit

/-- A cell lies in block B. -/
def C3 (w : World) (B : Nat) (k n : Int) (t : ByteArray) : Prop :=
  w.cell? ⟨B, 0, none⟩ = some (.int .i64 k) ∧ w.cell? ⟨B, 1, none⟩ = some (.int .i64 n) ∧ w.cell? ⟨B, 2, none⟩ = some (.string t) ∧ B < w.heap.size
theorem C3.below {w w' : World} {B : Nat} {k n : Int} {t : ByteArray} (h : C3 w B k n t) (hb : Below w.heap.size w w') : C3 w' B k n t := later3 hb h
theorem C3.step {w w' : World} {B : Nat} {k n : Int} {t : ByteArray} {o : Obj} (h : C3 w B k n t) (hb : Below (w.alloc o).heap.size (w.alloc o) w') : C3 w' B k n t := h.below (chainA hb)
theorem C3.fresh {w w' : World} {k n : Int} {t : ByteArray} {T : TypeId} (hb : Below (w.alloc (.cells #[.int .i64 k, .int .i64 n, .string t] T)).heap.size (w.alloc (.cells #[.int .i64 k, .int .i64 n, .string t] T)) w') : C3 w' w.heap.size k n t := box3 hb

/-- The code that a law is handed, byte by byte. -/
def Code0 (w : World) (a : Option Addr) (len : Nat) : Prop :=
  ∀ j, j < len → ∃ (rb ro : Nat) (v : Int), a = some ⟨rb, ro, none⟩ ∧ rb < w.heap.size ∧ w.cell? ⟨rb, ro + j, none⟩ = some (.int .u8 v) ∧ 0 ≤ v ∧ v ≤ 255
theorem Code0.below {w w' : World} {a : Option Addr} {len : Nat} (h : Code0 w a len) (hb : Below w.heap.size w w') : Code0 w' a len := by
  intro j hj
  obtain ⟨rb, ro, v, ha, hrb, hcell, hv⟩ := h j hj
  exact ⟨rb, ro, v, ha, Nat.lt_of_lt_of_le hrb hb.size, by rw [hb.cell (p := ⟨rb, ro + j, none⟩) hrb]; exact hcell, hv⟩
theorem Code0.alloc {w : World} {a : Option Addr} {len : Nat} (h : Code0 w a len) (o : Obj) : Code0 (w.alloc o) a len := h.below ((Below.refl _ _).alloc (Nat.le_refl _) o)

theorem neq_same (a b : Int) (s : ByteArray) (w : World) :
    (binOp .neq 34 (.agg #[.int .i64 a, .int .i64 b, .string s]) (.agg #[.int .i64 a, .int .i64 b, .string s])).run Tryd.prog w = .ok (.bool false) w := by
  rw [run_neq, sameB_refl]; rfl
theorem eql_same (a b : Int) (s : ByteArray) (w : World) :
    (binOp .eql 34 (.agg #[.int .i64 a, .int .i64 b, .string s]) (.agg #[.int .i64 a, .int .i64 b, .string s])).run Tryd.prog w = .ok (.bool true) w := by
  rw [run_eql, sameB_refl]

theorem big_laws (a : Option Addr) (len cap : Nat) (w : World) :
    Calls Tryd.prog 4 #[.slice a len cap] w fun e w' => e = .returned (.bool (decide (4096 < (len : Int)))) ∧ w = w' := by
  go_enter Tryd.func4, Tryd.ntmps4
  go_wp2
  go_ret
  exact ⟨rfl, rfl⟩

end Go.Proofs.YtfokdblojlmnlabDoor

/-
  The walk of the law FnBinds.
-/
namespace Go.Proofs.YtfokdblojlmnlabDoor
open Go.ChangeShapes Go.WideShapes Go.ChangeAt Go.RowKit
attribute [local go_sem ↓] Go.wp_at_zero Go.wp_at_succ
attribute [local simp] World.cell?_alloc_past World.cell?_alloc_at World.frozen?_alloc_at cell_far cell_off cell_here World.frozen?_alloc_past

set_option maxRecDepth 100000 in
set_option maxHeartbeats 4000000 in
theorem pick_laws (a : Option Addr) (len cap : Nat) (hl : len ≤ 4096) (seed n : Int) (hs : 1 ≤ seed ∧ seed ≤ 3) (hn : 1 ≤ n ∧ n ≤ 5) (w : World) (hc : Code0 w a len) :
    Calls Tryd.prog 5 #[.slice a len cap, .int .i64 seed, .int .i64 n] w fun e w' => ∃ r : Nat, e = .returned (.int .i64 (r : Int)) ∧ (r : Int) < n ∧ w' = w := by
  have HC : Hid (Code0 w a len) := hc
  clear hc
  go_enter Tryd.func5, Tryd.ntmps5
  go_wp2
  go_loopw [7, 8] (fun kv iv wr => ∃ (j : Nat) (k : Int), j ≤ len ∧ iv = .int .i64 j ∧ kv = .int .i64 k ∧ 0 ≤ k ∧ k ≤ 1000003 ∧ wr = w) (fun _ iv _ => len - (intOf iv).toNat)
  case atStart => exact ⟨0, (len : Int) + 7919 * seed, Nat.zero_le _, rfl, by first | rfl | go_num, by omega, by omega, rfl⟩
  case round =>
    obtain ⟨j, k, hj, rfl, rfl, hk0, hk1, hwr⟩ := hrel
    obtain rfl : w = wr := hwr.symm
    by_cases hlt : j < len
    · obtain ⟨rb, ro, v, rfl, hrb, hcell, hv0, hv1⟩ := HC.out j hlt
      have hi0 : (0 : Int) ≤ (j : Int) := by omega
      have hi1 : (j : Int) < (len : Int) := by omega
      go_wp2
      exact ⟨⟨j + 1, (k * 281 + v + seed) % 1000003, by omega, by go_num, rfl, by omega, by omega, trivial⟩, by simp [intOf]; omega⟩
    · have hi1 : ¬ (j : Int) < (len : Int) := by omega
      obtain ⟨r, hr⟩ : ∃ r : Nat, k % n = (r : Int) := ⟨(k % n).toNat, by have := Int.emod_nonneg k (show n ≠ 0 by omega); omega⟩
      have hrn : (r : Int) < n := by rw [← hr]; exact Int.emod_lt_of_pos k (by omega)
      have HR : Hid (k % n = (r : Int)) := hr
      clear hr
      go_wp2
      rw [HR.out]
      go_ret
      exact ⟨r, rfl, hrn, rfl⟩
namespace bindLaw
theorem lit_at {w : World} (l : List ByteArray) {o : Obj} (ho : o = .cells (l.map Value.string).toArray 9 (0, 0)) (r : Nat) (hr : r < l.length) : ∃ s ∈ l, (w.alloc o).cell? ⟨w.heap.size, r, none⟩ = some (.string s) := by
  subst ho
  exact ⟨l[r], List.getElem_mem hr, by simp [hr]⟩
theorem ans_formB {w : World} {B : Nat} {v : Value} {l : List TT} (h : AnsTok w B v l) : ∃ g c, v = .slice (some ⟨g, 0, none⟩) l.length c := by
  rcases h.1.2 with ⟨h', _⟩ | ⟨g, c, cur, h', _⟩
  · exact absurd h' h.2
  · exact ⟨g, c, h'⟩
theorem ans_formI {w : World} {B : Nat} {v : Value} {l : List TI} (h : AnsItm w B v l) : ∃ g c, v = .slice (some ⟨g, 0, none⟩) l.length c := by
  rcases h.1.2 with ⟨h', _⟩ | ⟨g, c, cur, h', _⟩
  · exact absurd h' h.2
  · exact ⟨g, c, h'⟩
theorem fits_of {s : ByteArray} {x : List TT} {b : Bool} (h : toksR s = (x, b)) : ∀ t ∈ x, t.2.1.size ≤ 1048576 ∧ t.2.2.2.2.size ≤ maxLen := fun t ht => by
  have := tokB_fits (List.all_eq_true.1 (toksR_all h) t ht)
  unfold maxLen
  omega
theorem sumR_40 {toks : List TT} {L : List TI} {b : Bool} (h : sumR toks = (L, b)) : L.length ≤ 40 := by
  unfold sumR at h
  split at h
  · split at h
    · split at h
      · rename_i hs
        injection h with e1 _
        subst e1
        unfold sumB at hs
        simp only [Bool.and_eq_true, decide_eq_true_eq] at hs
        omega
      · injection h with e1 _
        subst e1
        simp
    · injection h with e1 _
      subst e1
      simp
  · injection h with e1 _
    subst e1
    simp
theorem likeI (n : Nat) (a b : Option Addr) (ca cb : Nat) (l : List TI) (hn : l.length = n) (w : World) (ha : ItmAt w a l) (hb : ItmAt w b l) (hm : n ≤ maxLen) :
    Calls Tryd.prog 8 #[.slice a n ca, .slice b n cb] w fun e w' => e = .returned (.bool true) ∧ Below w.heap.size w w' := by
  subst hn; exact like_sum a b ca cb l w ha hb hm
theorem tu_facts {sa sb sc : ByteArray} (hchk : chkB sa sb sc = true) : ∀ j (_h1 : j < (textsB sa sb sc).length) (_h2 : j < (wantsB sa sb sc).length), alikeY (textsB sa sb sc)[j] (wantsB sa sb sc)[j] = true ∧ (textsB sa sb sc)[j].size ≤ 200 ∧ (wantsB sa sb sc)[j].size ≤ 200 := fun j h1 h2 => by
  unfold chkB at hchk
  rw [Bool.and_eq_true, Bool.and_eq_true, Bool.and_eq_true] at hchk
  obtain ⟨k1, _, k3, _⟩ := hchk
  have k4 := List.all_eq_true.1 k3
  refine ⟨?_, of_decide_eq_true (k4 _ (List.mem_append_left _ (List.getElem_mem h1))), of_decide_eq_true (k4 _ (List.mem_append_right _ (List.getElem_mem h2)))⟩
  have hz : j < (List.zipWith alikeY (textsB sa sb sc) (wantsB sa sb sc)).length := by rw [List.length_zipWith]; omega
  have := List.all_eq_true.1 k1 _ (List.getElem_mem hz)
  rw [List.getElem_zipWith] at this
  exact this
theorem no_facts {sa sb sc : ByteArray} (hchk : chkB sa sb sc = true) : notY (noB sa sc) = true ∧ (noB sa sc).size ≤ 200 := by
  unfold chkB at hchk
  rw [Bool.and_eq_true, Bool.and_eq_true, Bool.and_eq_true] at hchk
  exact ⟨hchk.2.1, of_decide_eq_true hchk.2.2.2⟩
theorem lit_get {w : World} (l : List ByteArray) {o : Obj} (ho : o = .cells (l.map Value.string).toArray 9 (0, 0)) (r : Nat) (hr : r < l.length) : (w.alloc o).cell? ⟨w.heap.size, r, none⟩ = some (.string l[r]) := by
  subst ho
  simp [hr]
set_option maxRecDepth 100000 in
set_option maxHeartbeats 8000000 in
theorem walk (a : Option Addr) (len cap : Nat) (w : World) (hc : Code0 w a len) (hp : PowAt w) (he : ErrAt w) (hs : SgnAt w) :
    Calls Tryd.prog 3 #[.slice a len cap] w fun e w' => e = .returned (.bool true) ∧ Below w.heap.size w w' := by
  have HC : Hid (Code0 w a len) := hc
  have HP : Hid (PowAt w) := hp
  have HE : Hid (ErrAt w) := he
  have HSg : Hid (SgnAt w) := hs
  clear hc hp he hs
  by_cases hbig : (4096 : Int) < (len : Int)
  · go_enter Tryd.func3, Tryd.ntmps3
    go_wp2_with fail
    refine (big_laws a len cap _).mono ?_
    rintro e w1 ⟨rfl, rfl⟩
    rw [decide_eq_true hbig]
    go_wp2
    go_ret
    exact ⟨rfl, Below.refl _ _⟩
  have hlen : len ≤ 4096 := by omega
  go_enter Tryd.func3, Tryd.ntmps3
  go_wp2_with fail
  refine (big_laws a len cap _).mono ?_
  rintro e w1 ⟨rfl, rfl⟩
  rw [decide_eq_false (by omega)]
  go_wp2_with fail
  obtain ⟨V1, hV1⟩ : ∃ V1, V1 = w.alloc (.cells #[.string ⟨#[97]⟩, .string ⟨#[55]⟩, .string ⟨#[39, 104, 97, 121, 39]⟩, .string ⟨#[110, 111, 110, 101]⟩, .string ⟨#[45, 51]⟩] 9) := ⟨_, rfl⟩
  have hx1 : Below w.heap.size w V1 := by rw [hV1]; exact (Below.refl _ _).alloc (Nat.le_refl _) _
  have L1 : Hid (∀ r : Nat, (r : Int) < 5 → ∃ s ∈ bA, V1.cell? ⟨w.heap.size, r, none⟩ = some (.string s)) := by
    have : ∀ r : Nat, (r : Int) < 5 → ∃ s ∈ bA, V1.cell? ⟨w.heap.size, r, none⟩ = some (.string s) := fun r hr => by
      rw [hV1]
      refine lit_at bA ?_ r (by show r < 5; omega)
      rfl
    exact this
  rw [← hV1]
  obtain ⟨B1, hB1⟩ : ∃ B, w.heap.size = B := ⟨_, rfl⟩
  simp only [hB1] at L1 ⊢
  clear hV1
  refine (pick_laws a len cap hlen 1 5 (by omega) (by omega) V1 (HC.out.below hx1)).mono ?_
  rintro e w2 ⟨r1, rfl, hr1, hw2⟩
  obtain rfl : V1 = w2 := hw2.symm
  obtain ⟨sa, hsa, ca⟩ := L1.out r1 hr1
  have hr10 : (0 : Int) ≤ (r1 : Int) := by omega
  have HSA : Hid (sa ∈ bA) := hsa
  clear L1 hsa
  go_wp2_with fail
  obtain ⟨V2, hV2⟩ : ∃ V, V = V1.alloc (.cells #[.string ⟨#[98]⟩, .string ⟨#[48]⟩, .string ⟨#[121, 101, 115]⟩, .string ⟨#[108, 97, 99, 107, 115, 32, 98]⟩] 9) := ⟨_, rfl⟩
  have hx2 : Below w.heap.size w V2 := by rw [hV2]; exact hx1.alloc hx1.size _
  have L2 : Hid (∀ r : Nat, (r : Int) < 4 → ∃ s ∈ bB, V2.cell? ⟨V1.heap.size, r, none⟩ = some (.string s)) := by
    have : ∀ r : Nat, (r : Int) < 4 → ∃ s ∈ bB, V2.cell? ⟨V1.heap.size, r, none⟩ = some (.string s) := fun r hr => by
      rw [hV2]
      refine lit_at bB ?_ r (by show r < 4; omega)
      rfl
    exact this
  rw [← hV2]
  obtain ⟨B2, hB2⟩ : ∃ B, V1.heap.size = B := ⟨_, rfl⟩
  simp only [hB2] at L2 ⊢
  clear hV2
  refine (pick_laws a len cap hlen 2 4 (by omega) (by omega) V2 (HC.out.below hx2)).mono ?_
  rintro e w2 ⟨r2, rfl, hr2, hw2⟩
  obtain rfl : V2 = w2 := hw2.symm
  obtain ⟨sb, hsb, cb⟩ := L2.out r2 hr2
  have hr20 : (0 : Int) ≤ (r2 : Int) := by omega
  have HSB : Hid (sb ∈ bB) := hsb
  clear L2 hsb ca hB2
  go_wp2_with fail
  obtain ⟨V3, hV3⟩ : ∃ V, V = V2.alloc (.cells #[.string ⟨#[99]⟩, .string ⟨#[49, 50]⟩, .string ⟨#[40, 97, 32, 43, 32, 49, 41]⟩] 9) := ⟨_, rfl⟩
  have hx3 : Below w.heap.size w V3 := by rw [hV3]; exact hx2.alloc hx2.size _
  have L3 : Hid (∀ r : Nat, (r : Int) < 3 → ∃ s ∈ bC, V3.cell? ⟨V2.heap.size, r, none⟩ = some (.string s)) := by
    have : ∀ r : Nat, (r : Int) < 3 → ∃ s ∈ bC, V3.cell? ⟨V2.heap.size, r, none⟩ = some (.string s) := fun r hr => by
      rw [hV3]
      refine lit_at bC ?_ r (by show r < 3; omega)
      rfl
    exact this
  rw [← hV3]
  obtain ⟨B3, hB3⟩ : ∃ B, V2.heap.size = B := ⟨_, rfl⟩
  simp only [hB3] at L3 ⊢
  clear hV3
  refine (pick_laws a len cap hlen 3 3 (by omega) (by omega) V3 (HC.out.below hx3)).mono ?_
  rintro e w2 ⟨r3, rfl, hr3, hw2⟩
  obtain rfl : V3 = w2 := hw2.symm
  obtain ⟨sc, hsc, cc⟩ := L3.out r3 hr3
  have hr30 : (0 : Int) ≤ (r3 : Int) := by omega
  have HSC : Hid (sc ∈ bC) := hsc
  clear L3 hsc cb hB3
  have za : sa.size ≤ 7 := (by decide : ∀ s ∈ bA, s.size ≤ 7) sa HSA.out
  have zb : sb.size ≤ 7 := (by decide : ∀ s ∈ bB, s.size ≤ 7) sb HSB.out
  have zc : sc.size ≤ 7 := (by decide : ∀ s ∈ bC, s.size ≤ 7) sc HSC.out
  go_wp2_with fail
  obtain ⟨V4, hV4⟩ : ∃ V, V = V3.alloc (.cells #[.string ((((sa ++ ⟨#[32, 43, 32]⟩) ++ sb) ++ ⟨#[32, 42, 32]⟩) ++ sc), .string ((((sa ++ ⟨#[32, 45, 32]⟩) ++ sb) ++ ⟨#[32, 45, 32]⟩) ++ sc), .string ((((((sa ++ ⟨#[32, 61, 32]⟩) ++ sb) ++ ⟨#[32, 97, 110, 100, 32, 110, 111, 116, 32]⟩) ++ sc) ++ ⟨#[32, 60, 32]⟩) ++ sa), .string ((((sa ++ ⟨#[32, 111, 114, 32]⟩) ++ sb) ++ ⟨#[32, 97, 110, 100, 32]⟩) ++ sc), .string ((((⟨#[110, 111, 116, 32]⟩ : ByteArray) ++ sa) ++ ⟨#[32, 61, 32]⟩) ++ sb), .string ((((sa ++ ⟨#[32, 47, 32]⟩) ++ sb) ++ ⟨#[32, 42, 32]⟩) ++ sc)] 9) := ⟨_, rfl⟩
  rw [← hV4]
  obtain ⟨V5, hV5⟩ : ∃ V, V = V4.alloc (.cells #[.string (((((((⟨#[40]⟩ : ByteArray) ++ sa) ++ ⟨#[32, 43, 32, 40]⟩) ++ sb) ++ ⟨#[32, 42, 32]⟩) ++ sc) ++ ⟨#[41, 41]⟩), .string (((((((⟨#[40, 40]⟩ : ByteArray) ++ sa) ++ ⟨#[32, 45, 32]⟩) ++ sb) ++ ⟨#[41, 32, 45, 32]⟩) ++ sc) ++ ⟨#[41]⟩), .string (((((((((⟨#[40, 40]⟩ : ByteArray) ++ sa) ++ ⟨#[32, 61, 32]⟩) ++ sb) ++ ⟨#[41, 32, 97, 110, 100, 32, 40, 110, 111, 116, 32, 40]⟩) ++ sc) ++ ⟨#[32, 60, 32]⟩) ++ sa) ++ ⟨#[41, 41, 41]⟩), .string (((((((⟨#[40]⟩ : ByteArray) ++ sa) ++ ⟨#[32, 111, 114, 32, 40]⟩) ++ sb) ++ ⟨#[32, 97, 110, 100, 32]⟩) ++ sc) ++ ⟨#[41, 41]⟩), .string (((((⟨#[40, 110, 111, 116, 32, 40]⟩ : ByteArray) ++ sa) ++ ⟨#[32, 61, 32]⟩) ++ sb) ++ ⟨#[41, 41]⟩), .string (((((((⟨#[40, 40]⟩ : ByteArray) ++ sa) ++ ⟨#[32, 47, 32]⟩) ++ sb) ++ ⟨#[41, 32, 42, 32]⟩) ++ sc) ++ ⟨#[41]⟩)] 9) := ⟨_, rfl⟩
  rw [← hV5]
  have hb34 : Below V3.heap.size V3 V4 := by rw [hV4]; exact (Below.refl _ _).alloc (Nat.le_refl _) _
  have hb45 : Below V4.heap.size V4 V5 := by rw [hV5]; exact (Below.refl _ _).alloc (Nat.le_refl _) _
  have hx4 := chain hx3 hb34
  have hx5 := chain hx4 hb45
  have hchk := chk_at HSA.out HSB.out HSC.out
  have T4 : ∀ j (hj : j < (textsB sa sb sc).length), V4.cell? ⟨V3.heap.size, j, none⟩ = some (.string (textsB sa sb sc)[j]) := fun j hj => by
    rw [hV4]
    exact lit_get (textsB sa sb sc) rfl j hj
  have hl3 : V3.heap.size < V4.heap.size := World.block_lt_of_cell? V4 _ (T4 0 (by show 0 < 6; omega))
  have HT : Hid (∀ j (hj : j < (textsB sa sb sc).length), V5.cell? ⟨V3.heap.size, j, none⟩ = some (.string (textsB sa sb sc)[j])) := by
    have : ∀ j (hj : j < (textsB sa sb sc).length), V5.cell? ⟨V3.heap.size, j, none⟩ = some (.string (textsB sa sb sc)[j]) := fun j hj => by
      rw [hb45.cell (p := ⟨V3.heap.size, j, none⟩) hl3]; exact T4 j hj
    exact this
  have HU : Hid (∀ j (hj : j < (wantsB sa sb sc).length), V5.cell? ⟨V4.heap.size, j, none⟩ = some (.string (wantsB sa sb sc)[j])) := by
    have : ∀ j (hj : j < (wantsB sa sb sc).length), V5.cell? ⟨V4.heap.size, j, none⟩ = some (.string (wantsB sa sb sc)[j]) := fun j hj => by
      rw [hV5]
      exact lit_get (wantsB sa sb sc) rfl j hj
    exact this
  have hl4 : V4.heap.size < V5.heap.size := World.block_lt_of_cell? V5 _ (HU.out 0 (by show 0 < 6; omega))
  have HN : Hid (notY (noB sa sc) = true ∧ (noB sa sc).size ≤ 200) := by
    have : notY (noB sa sc) = true ∧ (noB sa sc).size ≤ 200 := no_facts hchk
    exact this
  obtain ⟨BT, hBT⟩ : ∃ B, V3.heap.size = B := ⟨_, rfl⟩
  have hBU : V4.heap.size = BT + 1 := by rw [hV4, ← hBT]; simp
  rw [hBT] at HT
  rw [hBU] at HU hl4
  obtain ⟨TT', UU, lT', lU', HT', HU', HTU'⟩ : ∃ l m : List ByteArray, l.length = 6 ∧ m.length = 6 ∧ (∀ j (hj : j < l.length), V5.cell? ⟨BT, j, none⟩ = some (.string l[j])) ∧ (∀ j (hj : j < m.length), V5.cell? ⟨BT + 1, j, none⟩ = some (.string m[j])) ∧ (∀ j (h1 : j < l.length) (h2 : j < m.length), alikeY l[j] m[j] = true ∧ l[j].size ≤ 200 ∧ m[j].size ≤ 200) := ⟨textsB sa sb sc, wantsB sa sb sc, rfl, rfl, HT.out, HU.out, tu_facts hchk⟩
  have lT : Hid (TT'.length = 6) := lT'
  have lU : Hid (UU.length = 6) := lU'
  have HTT : Hid (∀ j (hj : j < TT'.length), V5.cell? ⟨BT, j, none⟩ = some (.string TT'[j])) := HT'
  have HUU : Hid (∀ j (hj : j < UU.length), V5.cell? ⟨BT + 1, j, none⟩ = some (.string UU[j])) := HU'
  have HTU : Hid (∀ j (h1 : j < TT'.length) (h2 : j < UU.length), alikeY TT'[j] UU[j] = true ∧ TT'[j].size ≤ 200 ∧ UU[j].size ≤ 200) := HTU'
  simp only [hBT]
  clear hV4 hV5 hb34 hb45 T4 hchk hl3 hBT hBU cc HT HU lT' lU' HT' HU' HTU'
  go_loopw [8] (fun iv wr => ∃ j : Nat, j ≤ 6 ∧ iv = .int .i64 j ∧ Below V5.heap.size V5 wr) (fun iv _ => 6 - (intOf iv).toNat)
  case atStart => exact ⟨0, by omega, rfl, Below.refl _ _⟩
  case round =>
    obtain ⟨j, hj6, rfl, hbr⟩ := hrel
    have hxr := hx5.trans (hbr.mono hx5.size)
    by_cases hlt : j < 6
    · have hi0 : (0 : Int) ≤ (j : Int) := by omega
      have hi1 : (j : Int) < 6 := by omega
      have hjT : j < TT'.length := by rw [lT.out]; exact hlt
      have hjU : j < UU.length := by rw [lU.out]; exact hlt
      have c1 := HTT.out j hjT
      have c2 := HUU.out j hjU
      rw [← hbr.cell (p := ⟨BT, j, none⟩) (show BT < V5.heap.size by omega)] at c1
      rw [← hbr.cell (p := ⟨BT + 1, j, none⟩) hl4] at c2
      obtain ⟨hal, hs1, hs2⟩ := HTU.out j hjT hjU
      obtain ⟨x, y, o, hx, hy, hsx, hsy⟩ := alike_of hal
      generalize TT'[j] = s at c1 hs1 hx hal
      generalize UU[j] = u at c2 hs2 hy hal
      have HX : Hid (toksR s = (x, true)) := hx
      have HY : Hid (toksR u = (y, true)) := hy
      have HSX : Hid (sumR x = (o, true)) := hsx
      have HSY : Hid (sumR y = (o, true)) := hsy
      obtain ⟨nx, hnx⟩ : ∃ n, x.length = n := ⟨_, rfl⟩
      obtain ⟨ny, hny⟩ : ∃ n, y.length = n := ⟨_, rfl⟩
      obtain ⟨no, hno⟩ : ∃ n, o.length = n := ⟨_, rfl⟩
      have HNX : Hid (x.length = nx) := hnx
      have HNY : Hid (y.length = ny) := hny
      have HNO : Hid (o.length = no) := hno
      have lx := toksR_len s x true hx
      have ly := toksR_len u y true hy
      rw [hnx] at lx
      rw [hny] at ly
      have HFX : Hid (∀ t ∈ x, t.2.1.size ≤ 1048576 ∧ t.2.2.2.2.size ≤ maxLen) := fits_of hx
      have HFY : Hid (∀ t ∈ y, t.2.1.size ≤ 1048576 ∧ t.2.2.2.2.size ≤ maxLen) := fits_of hy
      have lo : no ≤ maxLen := by
        have := sumR_40 hsx
        rw [hno] at this
        unfold maxLen
        omega
      clear hx hy hsx hsy hal hnx hny hno
      go_wp2_with fail
      refine (tokensof_spec s _ x true HX.out (by omega)).mono ?_
      rintro e w1 ⟨v1, rfl, A1, hb1⟩
      obtain ⟨g1, k1, rfl⟩ := ans_formB A1
      rw [HNX.out]
      have T1 : Hid (TokAt w1 (some ⟨g1, 0, none⟩) x) := ownTok A1.1
      have hbr1 := hbr.trans (hb1.mono hbr.size)
      have hx1 := chain hxr hb1
      rw [← hb1.cell (p := ⟨BT + 1, j, none⟩) (show BT + 1 < wr.heap.size by have := hbr.size; omega)] at c2
      clear A1 c1
      go_wp2_with fail
      refine (tokensof_spec u _ y true HY.out (by omega)).mono ?_
      rintro e w2 ⟨v2, rfl, A2, hb2⟩
      obtain ⟨g2, k2, rfl⟩ := ans_formB A2
      rw [HNY.out]
      have T2 : Hid (TokAt w2 (some ⟨g2, 0, none⟩) y) := ownTok A2.1
      have T12 : Hid (TokAt w2 (some ⟨g1, 0, none⟩) x) := T1.out.below hb2
      have hbr2 := hbr1.trans (hb2.mono hbr1.size)
      have hx2 := chain hx1 hb2
      clear A2 c2 T1 hb1 hb2 hx1 hbr1
      go_wp2_with fail
      refine (readsum_impl _ _ x nx HNX.out _ T12.out HFX.out (by omega) (HP.out.below hx2) (HE.out.below hx2) (HSg.out.below hx2) o true HSX.out).mono ?_
      rintro e w3 ⟨v3, rfl, A3, hb3⟩
      obtain ⟨g3, k3, rfl⟩ := ans_formI A3
      rw [HNO.out]
      have I3 : Hid (ItmAt w3 (some ⟨g3, 0, none⟩) o) := ownItm A3.1
      have T23 : Hid (TokAt w3 (some ⟨g2, 0, none⟩) y) := T2.out.below hb3
      have hbr3 := hbr2.trans (hb3.mono hbr2.size)
      have hx3' := chain hx2 hb3
      clear A3 T2 T12 hb3 hx2 hbr2
      go_wp2_with fail
      refine (readsum_impl _ _ y ny HNY.out _ T23.out HFY.out (by omega) (HP.out.below hx3') (HE.out.below hx3') (HSg.out.below hx3') o true HSY.out).mono ?_
      rintro e w4 ⟨v4, rfl, A4, hb4⟩
      obtain ⟨g4, k4, rfl⟩ := ans_formI A4
      rw [HNO.out]
      have I4 : Hid (ItmAt w4 (some ⟨g4, 0, none⟩) o) := ownItm A4.1
      have I34 : Hid (ItmAt w4 (some ⟨g3, 0, none⟩) o) := I3.out.below hb4
      have hbr4 := hbr3.trans (hb4.mono hbr3.size)
      clear A4 I3 T23 hb4 hx3' hbr3
      go_wp2_with fail
      refine (likeI no _ _ _ _ o HNO.out _ I34.out I4.out lo).mono ?_
      rintro e w5 ⟨rfl, hb5⟩
      have hbr5 := hbr4.trans (hb5.mono hbr4.size)
      clear I34 I4 hb5 hbr4
      go_wp2
      go_roundw
      case rel => exact ⟨j + 1, by omega, by go_num, hbr5⟩
      case measure => simp [intOf]; omega
    · have hi1 : ¬ (j : Int) < 6 := by omega
      obtain ⟨x, hx, hsx⟩ := not_of HN.out.1
      have hs1 := HN.out.2
      have HX : Hid (toksR (noB sa sc) = (x, true)) := hx
      have HSX : Hid (sumR x = ([], false)) := hsx
      obtain ⟨nx, hnx⟩ : ∃ n, x.length = n := ⟨_, rfl⟩
      have HNX : Hid (x.length = nx) := hnx
      have lx := toksR_len (noB sa sc) x true hx
      rw [hnx] at lx
      have HFX : Hid (∀ t ∈ x, t.2.1.size ≤ 1048576 ∧ t.2.2.2.2.size ≤ maxLen) := fits_of hx
      unfold noB at HX hs1
      clear hx hsx hnx
      go_wp2_with fail
      refine (tokensof_spec _ _ x true HX.out (by omega)).mono ?_
      rintro e w1 ⟨v1, rfl, A1, hb1⟩
      obtain ⟨g1, k1, rfl⟩ := ans_formB A1
      rw [HNX.out]
      have T1 : Hid (TokAt w1 (some ⟨g1, 0, none⟩) x) := ownTok A1.1
      have hx1 := chain hxr hb1
      clear A1 hb1
      go_wp2_with fail
      refine (readsum_impl _ _ x nx HNX.out _ T1.out HFX.out (by omega) (HP.out.below hx1) (HE.out.below hx1) (HSg.out.below hx1) [] false HSX.out).mono ?_
      rintro e w3 ⟨v3, rfl, A3, hb3⟩
      obtain ⟨g3, k3, rfl⟩ := ans_formI A3
      have hx3' := chain hx1 hb3
      clear A3 T1 hb3 hx1
      go_wp2
      go_ret
      exact ⟨rfl, hx3'⟩
end bindLaw
end Go.Proofs.YtfokdblojlmnlabDoor

/-
  From the row's condition on the listed variables to what the walks ask of them.
-/
namespace Go.Proofs.YtfokdblojlmnlabDoor
open Go.ChangeShapes Go.WideShapes Go.ChangeAt Go.RowKit

theorem gPow : (Tryd.prog.globalNamed "internal/strconv.uint64pow10").bind (fun g => (Tryd.prog.globals[g]?).map (·.type)) = some 123 := by kernel_rfl
theorem pow_data : (Rows.laid_internal_strconv_uint64pow10 : DataW Unit) = Lib.tabData .u64 Lib.pow10Tab := by kernel_rfl
theorem pow_of {W : World} {rest : List (String × DataW Unit)} (h : laidMet Tryd.prog (("internal/strconv.uint64pow10", Rows.laid_internal_strconv_uint64pow10) :: rest) W) : PowAt W := by
  rw [pow_data] at h
  obtain ⟨g, hg, ht⟩ := Option.bind_eq_some_iff.1 gPow
  exact Lib.tabIs_of_head hg ht Tryd.underlying123 Tryd.underlying92 (by kernel_rfl) (by kernel_rfl) h

theorem star_name : "*" ++ "errors.errorString" = "*errors.errorString" := by decide
theorem row_err (u : TypeId) (h : Tryd.prog.typeName? 3 u = some "*errors.errorString") : u = 118 :=
  typeName_ptr_named (nm := "errors.errorString") (by rw [star_name]; kernel_rfl) (by kernel_rfl) (by decide) u (by rw [star_name]; exact h)
theorem gRange : (Tryd.prog.globalNamed "strconv.ErrRange").bind (fun g => (Tryd.prog.globals[g]?).map (·.type)) = some 84 := by kernel_rfl
theorem gSyntax : (Tryd.prog.globalNamed "strconv.ErrSyntax").bind (fun g => (Tryd.prog.globals[g]?).map (·.type)) = some 84 := by kernel_rfl
theorem err_of {W : World} {rest : List (String × DataW Unit)} (h : laidMet Tryd.prog (("strconv.ErrRange", Rows.laid_strconv_ErrRange) :: ("strconv.ErrSyntax", Rows.laid_strconv_ErrSyntax) :: rest) W) : ErrAt W := by
  obtain ⟨g, hg, ht⟩ := Option.bind_eq_some_iff.1 gRange
  obtain ⟨g2, hg2, ht2⟩ := Option.bind_eq_some_iff.1 gSyntax
  have h2 := h.tail
  unfold Rows.laid_strconv_ErrRange at h
  unfold Rows.laid_strconv_ErrSyntax at h2
  obtain ⟨a, s, hv, _⟩ := laid_sentinel h hg ht Tryd.underlying84 row_err Tryd.underlying118 Tryd.underlying120 rfl rfl Tryd.underlying9 (by kernel_rfl) (by kernel_rfl)
  obtain ⟨a2, s2, hv2, _⟩ := laid_sentinel h2 hg2 ht2 Tryd.underlying84 row_err Tryd.underlying118 Tryd.underlying120 rfl rfl Tryd.underlying9 (by kernel_rfl) (by kernel_rfl)
  exact ⟨⟨_, _, hv2⟩, ⟨_, _, hv⟩⟩

end Go.Proofs.YtfokdblojlmnlabDoor

/-
  From the row's condition on the program's own table of signs to what the walks ask of it.
-/
namespace Go.Proofs.YtfokdblojlmnlabDoor
open Go.ChangeShapes Go.WideShapes Go.ChangeAt Go.RowKit

def strData {H : Type} (ss : List ByteArray) : DataW H := .agg (ss.map fun s => .lit (.string s.data.toList))
theorem cells_of_strs {H : Type} {enc : TypeId × Value → H} {P : Program} {w : World} {base : Nat} {sp : Nat → Bool} {held : Bool} {fuel : Nat} {t e : TypeId} {n : Nat} {cs : List Value} {ss : List ByteArray} {p : List MemPlace}
    (ht : P.underlying t = some (.array n e)) (he : P.underlying e = some .string) (hce : P.cellsOf e = 1) (hct : P.cellsOf t = n)
    (h : DataW.trod enc P w base sp held fuel t cs = some (strData ss, p)) : cs = ss.map Value.string := by
  cases fuel with
  | zero => simp [DataW.trod] at h
  | succ fuel =>
    simp only [DataW.trod, ht, hce, hct, Nat.mul_one] at h
    split at h
    · rename_i hl
      obtain ⟨xs, hm, hx⟩ := Option.map_eq_some_iff.1 h
      have hxs : xs.map (·.1) = ss.map fun s => (DataW.lit (.string s.data.toList) : DataW H) := by
        have := congrArg Prod.fst hx
        simpa [strData] using this
      have hxl : xs.length = n := by simpa using Lib.mapM_length hm
      have hzl : ss.length = n := by
        have := congrArg List.length hxs
        simp at this
        omega
      apply List.ext_getElem?
      intro i
      by_cases hi : i < n
      · obtain ⟨b, hb, hf⟩ := Lib.mapM_at hm i i (by simp [hi])
        obtain ⟨z, hc, rfl, _⟩ := DataW.trod_string he hf
        have h1 : cs[i]? = some (.string z) := by
          have := congrArg (·[0]?) hc
          simpa [List.getElem?_take, List.getElem?_drop] using this
        have h2 : (xs.map (·.1))[i]? = some (DataW.lit (.string z.data.toList) : DataW H) := by simp [hb]
        rw [hxs] at h2
        simp only [List.getElem?_map, Option.map_eq_some_iff, DataW.lit.injEq, Lit.string.injEq] at h2
        obtain ⟨z', hz', e2⟩ := h2
        have e3 : z' = z := bytes_ext e2
        subst e3
        simp [h1, hz']
      · rw [List.getElem?_eq_none (by omega), List.getElem?_eq_none (by simp; omega)]
    · cases h
theorem gSgnT : (Tryd.prog.globals[0]?).map (·.type) = some 68 := by kernel_rfl
theorem sgn_data : (Rows.laid_loop_example_g00536_impl_itemSigns : DataW Unit) = strData ((List.range 13).map sgn0) := by kernel_rfl
theorem sgn_of {W : World} {rest : List (String × DataW Unit)} (h : laidMet Tryd.prog (("loop.example/g00536/impl.itemSigns", Rows.laid_loop_example_g00536_impl_itemSigns) :: rest) W) : SgnAt W := by
  rw [sgn_data] at h
  obtain ⟨ps, ⟨g', t', cs, fuel, p, q, hg', ht', hvar, hd, _, _⟩, _⟩ := h
  obtain rfl := Option.some.inj (gSgn.symm.trans hg')
  obtain rfl := Option.some.inj (gSgnT.symm.trans ht')
  have hc := cells_of_strs Tryd.underlying68 Tryd.underlying9 (by kernel_rfl) (by kernel_rfl) hd
  unfold SgnAt
  rw [hvar]
  congr 1
  have : cs = (cs.toList).toArray := by simp
  rw [this, hc]
  unfold sgnArr
  rw [List.map_map]
  rfl
end Go.Proofs.YtfokdblojlmnlabDoor
