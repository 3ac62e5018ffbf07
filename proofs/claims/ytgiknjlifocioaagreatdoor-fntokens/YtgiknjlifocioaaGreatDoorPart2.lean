/-
  A part of the proof: Draw3, Draw4, Draw5, Rank1, Rank2, Lists1, Lists2, Rank3, RowDraw.
-/
import Derived.Test.YtgiknjlifocioaaGreatDoorPart1
import Derived.Deep.RegionHeld3
import Derived.Laws.AppendOwnNone

/-
  The contract of a drawn cell.
-/
namespace Go.Proofs.YtgiknjlifocioaaGreatDoor
open Go.ChangeShapes Go.WideShapes Go.ChangeAt Go.RowKit

/-- A cell handed back by a draw. -/
def DrawnCell (c : Nat) (a : Option Addr) (len cap : Nat) (w : World) (e : Ending) (w' : World) : Prop :=
  ∃ (k n : Int) (t : ByteArray), e = .returned (.agg #[.int .i64 k, .int .i64 n, .string t]) ∧ t.size ≤ maxLen ∧ Cur w' c a len cap ∧ Keep c w w'

theorem keep4 {c : Nat} {w1 w2 : World} {v0 v1 v2 v3 : Value} {T : TypeId} (hk : Keep c (w1.alloc (.cells #[v0, v1, v2, v3] T)) w2) (hne : w1.heap.size ≠ c) :
    w2.cell? ⟨w1.heap.size, 0, none⟩ = some v0 ∧ w2.cell? ⟨w1.heap.size, 1, none⟩ = some v1 ∧ w2.cell? ⟨w1.heap.size, 2, none⟩ = some v2 ∧ w2.cell? ⟨w1.heap.size, 3, none⟩ = some v3 := by
  refine ⟨?_, ?_, ?_, ?_⟩
  · rw [hk.cell (by simp) hne]; simp [go_sem]
  · rw [hk.cell (by simp) hne]; simp [go_sem]
  · rw [hk.cell (by simp) hne]; simp [go_sem]
  · rw [hk.cell (by simp) hne]; simp [go_sem]

theorem new3 {c : Nat} {w w1 : World} {x y z : Value} {T : TypeId} (hk : Keep c (w.alloc (.cells #[x, y, z] T)) w1) (hne : w.heap.size ≠ c) :
    (w1.cell? ⟨w.heap.size, 0, none⟩ = some x ∧ w1.cell? ⟨w.heap.size, 1, none⟩ = some y ∧ w1.cell? ⟨w.heap.size, 2, none⟩ = some z ∧ w.heap.size < w1.heap.size) ∧
    (w1.frozen? ⟨w.heap.size, 0, none⟩ = false ∧ w1.frozen? ⟨w.heap.size, 1, none⟩ = false ∧ w1.frozen? ⟨w.heap.size, 2, none⟩ = false) :=
  ⟨keep3 hk hne ⟨by simp [go_sem], by simp [go_sem], by simp [go_sem], by simp⟩, keepF hk hne (by simp) ⟨by simp [go_sem], by simp [go_sem], by simp [go_sem]⟩⟩

theorem old3 {w : World} {B : Nat} {x y z : Value} (o : Obj) (h : w.cell? ⟨B, 0, none⟩ = some x ∧ w.cell? ⟨B, 1, none⟩ = some y ∧ w.cell? ⟨B, 2, none⟩ = some z ∧ B < w.heap.size) :
    (w.alloc o).cell? ⟨B, 0, none⟩ = some x ∧ (w.alloc o).cell? ⟨B, 1, none⟩ = some y ∧ (w.alloc o).cell? ⟨B, 2, none⟩ = some z ∧ B < (w.alloc o).heap.size :=
  later3 ((Below.refl _ _).alloc (Nat.le_refl _) o) h
theorem oldF {w : World} {B : Nat} (o : Obj) (hB : B < w.heap.size) (h : w.frozen? ⟨B, 0, none⟩ = false ∧ w.frozen? ⟨B, 1, none⟩ = false ∧ w.frozen? ⟨B, 2, none⟩ = false) :
    (w.alloc o).frozen? ⟨B, 0, none⟩ = false ∧ (w.alloc o).frozen? ⟨B, 1, none⟩ = false ∧ (w.alloc o).frozen? ⟨B, 2, none⟩ = false :=
  frozen3 ((Below.refl _ _).alloc (Nat.le_refl _) o) hB h

set_option maxHeartbeats 2000000 in
theorem cell_draw {w : World} {c : Nat} {a : Option Addr} {len cap : Nat} (h : Cur w c a len cap) :
    Calls Tryz.prog 53 #[.pointer (some ⟨c, 0, none⟩)] w fun e w' => DrawnCell c a len cap w e w' := by
  have hcw : c < w.heap.size := h.lt
  have hne : w.heap.size ≠ c := by omega
  have hcur : Hid (Cur w c a len cap) := h
  clear h
  go_enter Tryz.func53, Tryz.ntmps53
  go_wp2_with fail
  refine (below_draw (hcur.out.alloc _) 8 (by omega) (by omega)).mono ?_
  rintro e w1 ⟨x, rfl, hx0, hx1, hc1, hk1⟩
  obtain ⟨⟨p1, q1, r1, s1⟩, ff1⟩ := new3 hk1 hne
  have hkw : Keep c w w1 := ((Keep.refl c w).alloc _).trans hk1
  have hne1 : w1.heap.size ≠ c := by have := hkw.size; omega
  clear hk1
  by_cases x0 : x = 0
  · subst x0
    obtain ⟨f0, f1, f2⟩ := ff1
    go_wp2
    refine bodyPost_ret (v := .agg #[.int .i64 0, .int .i64 0, .string ⟨#[]⟩]) (by simp [results, Tryz.results53, go_sem, p1, q1, r1]) rfl ⟨_, _, _, rfl, by decide, ?_, ?_⟩
    · exact ((hc1.setAbove hcw _).setAbove hcw _).setAbove hcw _
    · exact ((hkw.setCell (p := ⟨_, _, none⟩) (Or.inr (Nat.le_refl _)) _).setCell (p := ⟨_, _, none⟩) (Or.inr (Nat.le_refl _)) _).setCell (p := ⟨_, _, none⟩) (Or.inr (Nat.le_refl _)) _
  by_cases x1 : x = 1
  · subst x1
    go_wp2_with fail
    refine (below_draw (hc1.alloc _) 4 (by omega) (by omega)).mono ?_
    rintro e w2 ⟨y, rfl, hy0, hy1, hc2, hk2⟩
    obtain ⟨g0, g1, g2, g3⟩ := keep4 hk2 hne1
    obtain ⟨p2, q2, r2, s2⟩ := keep3 hk2 hne (old3 _ ⟨p1, q1, r1, s1⟩)
    obtain ⟨f0, f1, f2⟩ := keepF hk2 hne (by simp; omega) (oldF _ s1 ff1)
    have hkv : Keep c w w2 := (hkw.alloc _).trans hk2
    clear hk2 hkw hc1 ff1
    rcases (show y = 0 ∨ y = 1 ∨ y = 2 ∨ y = 3 by omega) with rfl | rfl | rfl | rfl
    · go_wp2
      refine bodyPost_ret (v := .agg #[.int .i64 2, .int .i64 0, .string ⟨#[]⟩]) (by simp [results, Tryz.results53, go_sem, p2, q2, r2]) rfl ⟨_, _, _, rfl, by decide, ?_, ?_⟩
      · exact ((hc2.setAbove hcw _).setAbove hcw _).setAbove hcw _
      · exact ((hkv.setCell (p := ⟨_, _, none⟩) (Or.inr (Nat.le_refl _)) _).setCell (p := ⟨_, _, none⟩) (Or.inr (Nat.le_refl _)) _).setCell (p := ⟨_, _, none⟩) (Or.inr (Nat.le_refl _)) _
    · go_wp2
      refine bodyPost_ret (v := .agg #[.int .i64 2, .int .i64 0, .string ⟨#[97, 98]⟩]) (by simp [results, Tryz.results53, go_sem, p2, q2, r2]) rfl ⟨_, _, _, rfl, by decide, ?_, ?_⟩
      · exact ((hc2.setAbove hcw _).setAbove hcw _).setAbove hcw _
      · exact ((hkv.setCell (p := ⟨_, _, none⟩) (Or.inr (Nat.le_refl _)) _).setCell (p := ⟨_, _, none⟩) (Or.inr (Nat.le_refl _)) _).setCell (p := ⟨_, _, none⟩) (Or.inr (Nat.le_refl _)) _
    · go_wp2
      refine bodyPost_ret (v := .agg #[.int .i64 2, .int .i64 0, .string ⟨#[98]⟩]) (by simp [results, Tryz.results53, go_sem, p2, q2, r2]) rfl ⟨_, _, _, rfl, by decide, ?_, ?_⟩
      · exact ((hc2.setAbove hcw _).setAbove hcw _).setAbove hcw _
      · exact ((hkv.setCell (p := ⟨_, _, none⟩) (Or.inr (Nat.le_refl _)) _).setCell (p := ⟨_, _, none⟩) (Or.inr (Nat.le_refl _)) _).setCell (p := ⟨_, _, none⟩) (Or.inr (Nat.le_refl _)) _
    · go_wp2
      refine bodyPost_ret (v := .agg #[.int .i64 2, .int .i64 0, .string ⟨#[104, 97, 121]⟩]) (by simp [results, Tryz.results53, go_sem, p2, q2, r2]) rfl ⟨_, _, _, rfl, by decide, ?_, ?_⟩
      · exact ((hc2.setAbove hcw _).setAbove hcw _).setAbove hcw _
      · exact ((hkv.setCell (p := ⟨_, _, none⟩) (Or.inr (Nat.le_refl _)) _).setCell (p := ⟨_, _, none⟩) (Or.inr (Nat.le_refl _)) _).setCell (p := ⟨_, _, none⟩) (Or.inr (Nat.le_refl _)) _
  by_cases x2 : x = 2
  · subst x2
    go_wp2_with fail
    refine (below_draw hc1 2 (by omega) (by omega)).mono ?_
    rintro e w2 ⟨y, rfl, hy0, hy1, hc2, hk2⟩
    obtain ⟨p2, q2, r2, s2⟩ := keep3 hk2 hne ⟨p1, q1, r1, s1⟩
    obtain ⟨f0, f1, f2⟩ := keepF hk2 hne s1 ff1
    have hkv : Keep c w w2 := hkw.trans hk2
    clear hk2 hkw hc1 ff1
    go_wp2
    refine bodyPost_ret (v := .agg #[.int .i64 3, .int .i64 y, .string ⟨#[]⟩]) (by simp [results, Tryz.results53, go_sem, p2, q2, r2]) rfl ⟨_, _, _, rfl, by decide, ?_, ?_⟩
    · exact ((hc2.setAbove hcw _).setAbove hcw _).setAbove hcw _
    · exact ((hkv.setCell (p := ⟨_, _, none⟩) (Or.inr (Nat.le_refl _)) _).setCell (p := ⟨_, _, none⟩) (Or.inr (Nat.le_refl _)) _).setCell (p := ⟨_, _, none⟩) (Or.inr (Nat.le_refl _)) _
  by_cases x3 : x = 3
  · subst x3
    go_wp2_with fail
    refine (below_draw (hc1.alloc _) 4 (by omega) (by omega)).mono ?_
    rintro e w2 ⟨y, rfl, hy0, hy1, hc2, hk2⟩
    obtain ⟨g0, g1, g2, g3⟩ := keep4 hk2 hne1
    obtain ⟨p2, q2, r2, s2⟩ := keep3 hk2 hne (old3 _ ⟨p1, q1, r1, s1⟩)
    obtain ⟨f0, f1, f2⟩ := keepF hk2 hne (by simp; omega) (oldF _ s1 ff1)
    have hkv : Keep c w w2 := (hkw.alloc _).trans hk2
    clear hk2 hkw hc1 ff1
    rcases (show y = 0 ∨ y = 1 ∨ y = 2 ∨ y = 3 by omega) with rfl | rfl | rfl | rfl
    · go_wp2
      refine bodyPost_ret (v := .agg #[.int .i64 1, .int .i64 0, .string ⟨#[]⟩]) (by simp [results, Tryz.results53, go_sem, p2, q2, r2]) rfl ⟨_, _, _, rfl, by decide, ?_, ?_⟩
      · exact ((hc2.setAbove hcw _).setAbove hcw _).setAbove hcw _
      · exact ((hkv.setCell (p := ⟨_, _, none⟩) (Or.inr (Nat.le_refl _)) _).setCell (p := ⟨_, _, none⟩) (Or.inr (Nat.le_refl _)) _).setCell (p := ⟨_, _, none⟩) (Or.inr (Nat.le_refl _)) _
    · go_wp2
      refine bodyPost_ret (v := .agg #[.int .i64 1, .int .i64 1000000000, .string ⟨#[]⟩]) (by simp [results, Tryz.results53, go_sem, p2, q2, r2]) rfl ⟨_, _, _, rfl, by decide, ?_, ?_⟩
      · exact ((hc2.setAbove hcw _).setAbove hcw _).setAbove hcw _
      · exact ((hkv.setCell (p := ⟨_, _, none⟩) (Or.inr (Nat.le_refl _)) _).setCell (p := ⟨_, _, none⟩) (Or.inr (Nat.le_refl _)) _).setCell (p := ⟨_, _, none⟩) (Or.inr (Nat.le_refl _)) _
    · go_wp2
      refine bodyPost_ret (v := .agg #[.int .i64 1, .int .i64 (-1000000000), .string ⟨#[]⟩]) (by simp [results, Tryz.results53, go_sem, p2, q2, r2]) rfl ⟨_, _, _, rfl, by decide, ?_, ?_⟩
      · exact ((hc2.setAbove hcw _).setAbove hcw _).setAbove hcw _
      · exact ((hkv.setCell (p := ⟨_, _, none⟩) (Or.inr (Nat.le_refl _)) _).setCell (p := ⟨_, _, none⟩) (Or.inr (Nat.le_refl _)) _).setCell (p := ⟨_, _, none⟩) (Or.inr (Nat.le_refl _)) _
    · go_wp2
      refine bodyPost_ret (v := .agg #[.int .i64 1, .int .i64 40000, .string ⟨#[]⟩]) (by simp [results, Tryz.results53, go_sem, p2, q2, r2]) rfl ⟨_, _, _, rfl, by decide, ?_, ?_⟩
      · exact ((hc2.setAbove hcw _).setAbove hcw _).setAbove hcw _
      · exact ((hkv.setCell (p := ⟨_, _, none⟩) (Or.inr (Nat.le_refl _)) _).setCell (p := ⟨_, _, none⟩) (Or.inr (Nat.le_refl _)) _).setCell (p := ⟨_, _, none⟩) (Or.inr (Nat.le_refl _)) _
  · go_wp2_with fail
    refine (below_draw hc1 12 (by omega) (by omega)).mono ?_
    rintro e w2 ⟨y, rfl, hy0, hy1, hc2, hk2⟩
    obtain ⟨p2, q2, r2, s2⟩ := keep3 hk2 hne ⟨p1, q1, r1, s1⟩
    obtain ⟨f0, f1, f2⟩ := keepF hk2 hne s1 ff1
    have hkv : Keep c w w2 := hkw.trans hk2
    clear hk2 hkw hc1 ff1
    go_wp2
    refine bodyPost_ret (v := .agg #[.int .i64 1, .int .i64 (y - 3), .string ⟨#[]⟩]) (by simp [results, Tryz.results53, go_sem, p2, q2, r2]) rfl ⟨_, _, _, rfl, by decide, ?_, ?_⟩
    · exact ((hc2.setAbove hcw _).setAbove hcw _).setAbove hcw _
    · exact ((hkv.setCell (p := ⟨_, _, none⟩) (Or.inr (Nat.le_refl _)) _).setCell (p := ⟨_, _, none⟩) (Or.inr (Nat.le_refl _)) _).setCell (p := ⟨_, _, none⟩) (Or.inr (Nat.le_refl _)) _

end Go.Proofs.YtgiknjlifocioaaGreatDoor

/-
  The contract of a drawn cell that may be wrong.
-/
namespace Go.Proofs.YtgiknjlifocioaaGreatDoor
open Go.ChangeShapes Go.WideShapes Go.ChangeAt Go.RowKit

theorem keepN {c : Nat} {w1 w2 : World} {v0 v1 v2 : Value} {T : TypeId} (hk : Keep c (w1.alloc (.cells #[v0, v1, v2] T)) w2) (hne : w1.heap.size ≠ c) :
    w2.cell? ⟨w1.heap.size, 0, none⟩ = some v0 ∧ w2.cell? ⟨w1.heap.size, 1, none⟩ = some v1 ∧ w2.cell? ⟨w1.heap.size, 2, none⟩ = some v2 := by
  refine ⟨?_, ?_, ?_⟩
  · rw [hk.cell (by simp) hne]; simp [go_sem]
  · rw [hk.cell (by simp) hne]; simp [go_sem]
  · rw [hk.cell (by simp) hne]; simp [go_sem]

set_option maxHeartbeats 4000000 in
theorem any_draw {w : World} {c : Nat} {a : Option Addr} {len cap : Nat} (h : Cur w c a len cap) :
    Calls Tryz.prog 33 #[.pointer (some ⟨c, 0, none⟩)] w fun e w' => DrawnCell c a len cap w e w' := by
  have hcw : c < w.heap.size := h.lt
  have hne : w.heap.size ≠ c := by omega
  have hcur : Hid (Cur w c a len cap) := h
  clear h
  go_enter Tryz.func33, Tryz.ntmps33
  go_wp2_with fail
  refine (cell_draw (hcur.out.alloc _)).mono ?_
  rintro e w1 ⟨k, n, t, rfl, ht, hc1, hk1⟩
  obtain ⟨⟨p1, q1, r1, s1⟩, ff1⟩ := new3 hk1 hne
  have hkw : Keep c w w1 := ((Keep.refl c w).alloc _).trans hk1
  have hwx : w.heap.size ≤ w1.heap.size := hkw.size
  have hcx : c < w1.heap.size := hc1.lt
  have hnx : w1.heap.size ≠ c := by omega
  have hxr : w1.heap.size ≠ w.heap.size := by omega
  have hrx : w.heap.size ≠ w1.heap.size := by omega
  clear hk1
  go_wp2_with fail
  refine (once_draw (hc1.alloc _) 10 (by omega) (by omega)).mono ?_
  rintro e w2 ⟨b, rfl, hc2, hk2⟩
  obtain ⟨⟨x2, y2, z2, t2⟩, fx2⟩ := new3 hk2 hnx
  obtain ⟨p2, q2, r2, s2⟩ := keep3 hk2 hne (old3 _ ⟨p1, q1, r1, s1⟩)
  have ff2 := keepF hk2 hne (by simp; omega) (oldF _ s1 ff1)
  have hkv : Keep c w w2 := (hkw.alloc _).trans hk2
  clear hk2 hkw hc1 ff1 p1 q1 r1 s1
  cases b
  · obtain ⟨f0, f1, f2⟩ := ff2
    go_wp2
    refine bodyPost_ret (v := .agg #[.int .i64 k, .int .i64 n, .string t]) (by simp [results, Tryz.results33, go_sem, p2, q2, r2]) rfl ⟨_, _, _, rfl, ht, ?_, ?_⟩
    · exact (((hc2.setAbove hcw _).setAbove hcw _).setAbove hcw _)
    · exact (((hkv.setCell (p := ⟨_, _, none⟩) (Or.inr (Nat.le_refl _)) _).setCell (p := ⟨_, _, none⟩) (Or.inr (Nat.le_refl _)) _).setCell (p := ⟨_, _, none⟩) (Or.inr (Nat.le_refl _)) _)
  go_wp2_with fail
  refine (below_draw hc2 3 (by omega) (by omega)).mono ?_
  rintro e w3 ⟨y, rfl, hy0, hy1, hc3, hk3⟩
  obtain ⟨x3, y3, z3, t3⟩ := keep3 hk3 hnx ⟨x2, y2, z2, t2⟩
  have fx3 := keepF hk3 hnx t2 fx2
  obtain ⟨p3, q3, r3, s3⟩ := keep3 hk3 hne ⟨p2, q2, r2, s2⟩
  have ff3 := keepF hk3 hne s2 ff2
  have hku : Keep c w w3 := hkv.trans hk3
  have hsz : w1.heap.size < w3.heap.size := t3
  have hn3 : w3.heap.size ≠ c := by omega
  clear hk3 hkv hc2 ff2 fx2 p2 q2 r2 s2 x2 y2 z2 t2
  rcases (show y = 0 ∨ y = 1 ∨ y = 2 by omega) with rfl | rfl | rfl
  · go_wp2_with fail
    refine (from_draw hc3).mono ?_
    rintro e w4 ⟨v, rfl, hc4, hk4⟩
    obtain ⟨x4, y4, z4, t4⟩ := keep3 hk4 hnx ⟨x3, y3, z3, t3⟩
    obtain ⟨e0, e1, e2⟩ := keepF hk4 hnx t3 fx3
    obtain ⟨p4, q4, r4, s4⟩ := keep3 hk4 hne ⟨p3, q3, r3, s3⟩
    obtain ⟨f0, f1, f2⟩ := keepF hk4 hne s3 ff3
    have hkt : Keep c w w4 := hku.trans hk4
    clear hk4
    go_wp2
    refine bodyPost_ret (v := .agg #[.int .i64 v, .int .i64 n, .string t]) (by simp [results, Tryz.results33, go_sem, p4, q4, r4]) rfl ⟨_, _, _, rfl, ht, ?_, ?_⟩
    · exact ((((hc4.setAbove hcx _).setAbove hcw _).setAbove hcw _).setAbove hcw _)
    · exact ((((hkt.setCell (p := ⟨_, _, none⟩) (Or.inr hwx) _).setCell (p := ⟨_, _, none⟩) (Or.inr (Nat.le_refl _)) _).setCell (p := ⟨_, _, none⟩) (Or.inr (Nat.le_refl _)) _).setCell (p := ⟨_, _, none⟩) (Or.inr (Nat.le_refl _)) _)
  · go_wp2_with fail
    refine (below_draw (hc3.alloc _) 4 (by omega) (by omega)).mono ?_
    rintro e w4 ⟨y, rfl, hy0, hy1, hc4, hk4⟩
    obtain ⟨g0, g1, g2, g3⟩ := keep4 hk4 hn3
    obtain ⟨x4, y4, z4, t4⟩ := keep3 hk4 hnx (old3 _ ⟨x3, y3, z3, t3⟩)
    obtain ⟨e0, e1, e2⟩ := keepF hk4 hnx (by simp; omega) (oldF _ t3 fx3)
    obtain ⟨p4, q4, r4, s4⟩ := keep3 hk4 hne (old3 _ ⟨p3, q3, r3, s3⟩)
    obtain ⟨f0, f1, f2⟩ := keepF hk4 hne (by simp; omega) (oldF _ s3 ff3)
    have hkt : Keep c w w4 := (hku.alloc _).trans hk4
    clear hk4
    rcases (show y = 0 ∨ y = 1 ∨ y = 2 ∨ y = 3 by omega) with rfl | rfl | rfl | rfl
    · go_wp2
      refine bodyPost_ret (v := .agg #[.int .i64 k, .int .i64 1000000001, .string t]) (by simp [results, Tryz.results33, go_sem, p4, q4, r4]) rfl ⟨_, _, _, rfl, ht, ?_, ?_⟩
      · exact ((((hc4.setAbove hcx _).setAbove hcw _).setAbove hcw _).setAbove hcw _)
      · exact ((((hkt.setCell (p := ⟨_, _, none⟩) (Or.inr hwx) _).setCell (p := ⟨_, _, none⟩) (Or.inr (Nat.le_refl _)) _).setCell (p := ⟨_, _, none⟩) (Or.inr (Nat.le_refl _)) _).setCell (p := ⟨_, _, none⟩) (Or.inr (Nat.le_refl _)) _)
    · go_wp2
      refine bodyPost_ret (v := .agg #[.int .i64 k, .int .i64 (-1000000001), .string t]) (by simp [results, Tryz.results33, go_sem, p4, q4, r4]) rfl ⟨_, _, _, rfl, ht, ?_, ?_⟩
      · exact ((((hc4.setAbove hcx _).setAbove hcw _).setAbove hcw _).setAbove hcw _)
      · exact ((((hkt.setCell (p := ⟨_, _, none⟩) (Or.inr hwx) _).setCell (p := ⟨_, _, none⟩) (Or.inr (Nat.le_refl _)) _).setCell (p := ⟨_, _, none⟩) (Or.inr (Nat.le_refl _)) _).setCell (p := ⟨_, _, none⟩) (Or.inr (Nat.le_refl _)) _)
    · go_wp2
      refine bodyPost_ret (v := .agg #[.int .i64 k, .int .i64 2, .string t]) (by simp [results, Tryz.results33, go_sem, p4, q4, r4]) rfl ⟨_, _, _, rfl, ht, ?_, ?_⟩
      · exact ((((hc4.setAbove hcx _).setAbove hcw _).setAbove hcw _).setAbove hcw _)
      · exact ((((hkt.setCell (p := ⟨_, _, none⟩) (Or.inr hwx) _).setCell (p := ⟨_, _, none⟩) (Or.inr (Nat.le_refl _)) _).setCell (p := ⟨_, _, none⟩) (Or.inr (Nat.le_refl _)) _).setCell (p := ⟨_, _, none⟩) (Or.inr (Nat.le_refl _)) _)
    · go_wp2
      refine bodyPost_ret (v := .agg #[.int .i64 k, .int .i64 4611686018427387904, .string t]) (by simp [results, Tryz.results33, go_sem, p4, q4, r4]) rfl ⟨_, _, _, rfl, ht, ?_, ?_⟩
      · exact ((((hc4.setAbove hcx _).setAbove hcw _).setAbove hcw _).setAbove hcw _)
      · exact ((((hkt.setCell (p := ⟨_, _, none⟩) (Or.inr hwx) _).setCell (p := ⟨_, _, none⟩) (Or.inr (Nat.le_refl _)) _).setCell (p := ⟨_, _, none⟩) (Or.inr (Nat.le_refl _)) _).setCell (p := ⟨_, _, none⟩) (Or.inr (Nat.le_refl _)) _)
  · go_wp2_with fail
    refine (below_draw (hc3.alloc _) 3 (by omega) (by omega)).mono ?_
    rintro e w4 ⟨y, rfl, hy0, hy1, hc4, hk4⟩
    obtain ⟨g0, g1, g2⟩ := keepN hk4 hn3
    obtain ⟨x4, y4, z4, t4⟩ := keep3 hk4 hnx (old3 _ ⟨x3, y3, z3, t3⟩)
    obtain ⟨e0, e1, e2⟩ := keepF hk4 hnx (by simp; omega) (oldF _ t3 fx3)
    obtain ⟨p4, q4, r4, s4⟩ := keep3 hk4 hne (old3 _ ⟨p3, q3, r3, s3⟩)
    obtain ⟨f0, f1, f2⟩ := keepF hk4 hne (by simp; omega) (oldF _ s3 ff3)
    have hkt : Keep c w w4 := (hku.alloc _).trans hk4
    clear hk4
    rcases (show y = 0 ∨ y = 1 ∨ y = 2 by omega) with rfl | rfl | rfl
    · go_wp2
      refine bodyPost_ret (v := .agg #[.int .i64 k, .int .i64 n, .string ⟨#[65]⟩]) (by simp [results, Tryz.results33, go_sem, p4, q4, r4]) rfl ⟨_, _, _, rfl, by decide, ?_, ?_⟩
      · exact ((((hc4.setAbove hcx _).setAbove hcw _).setAbove hcw _).setAbove hcw _)
      · exact ((((hkt.setCell (p := ⟨_, _, none⟩) (Or.inr hwx) _).setCell (p := ⟨_, _, none⟩) (Or.inr (Nat.le_refl _)) _).setCell (p := ⟨_, _, none⟩) (Or.inr (Nat.le_refl _)) _).setCell (p := ⟨_, _, none⟩) (Or.inr (Nat.le_refl _)) _)
    · go_wp2
      refine bodyPost_ret (v := .agg #[.int .i64 k, .int .i64 n, .string ⟨#[97, 98, 99, 100, 101, 102, 103, 104, 105, 106, 107, 108]⟩]) (by simp [results, Tryz.results33, go_sem, p4, q4, r4]) rfl ⟨_, _, _, rfl, by decide, ?_, ?_⟩
      · exact ((((hc4.setAbove hcx _).setAbove hcw _).setAbove hcw _).setAbove hcw _)
      · exact ((((hkt.setCell (p := ⟨_, _, none⟩) (Or.inr hwx) _).setCell (p := ⟨_, _, none⟩) (Or.inr (Nat.le_refl _)) _).setCell (p := ⟨_, _, none⟩) (Or.inr (Nat.le_refl _)) _).setCell (p := ⟨_, _, none⟩) (Or.inr (Nat.le_refl _)) _)
    · go_wp2
      refine bodyPost_ret (v := .agg #[.int .i64 k, .int .i64 n, .string ⟨#[97, 98, 99, 100, 101, 102, 103, 104, 105, 106, 107, 108, 109]⟩]) (by simp [results, Tryz.results33, go_sem, p4, q4, r4]) rfl ⟨_, _, _, rfl, by decide, ?_, ?_⟩
      · exact ((((hc4.setAbove hcx _).setAbove hcw _).setAbove hcw _).setAbove hcw _)
      · exact ((((hkt.setCell (p := ⟨_, _, none⟩) (Or.inr hwx) _).setCell (p := ⟨_, _, none⟩) (Or.inr (Nat.le_refl _)) _).setCell (p := ⟨_, _, none⟩) (Or.inr (Nat.le_refl _)) _).setCell (p := ⟨_, _, none⟩) (Or.inr (Nat.le_refl _)) _)

end Go.Proofs.YtgiknjlifocioaaGreatDoor

/-
  The contract of two drawn cells.
-/
namespace Go.Proofs.YtgiknjlifocioaaGreatDoor
open Go.ChangeShapes Go.WideShapes Go.ChangeAt Go.RowKit

/-- Three cells of a block, and that they may be written. -/
def Has3 (w : World) (B : Nat) (x y z : Value) : Prop :=
  (w.cell? ⟨B, 0, none⟩ = some x ∧ w.cell? ⟨B, 1, none⟩ = some y ∧ w.cell? ⟨B, 2, none⟩ = some z ∧ B < w.heap.size) ∧
  (w.frozen? ⟨B, 0, none⟩ = false ∧ w.frozen? ⟨B, 1, none⟩ = false ∧ w.frozen? ⟨B, 2, none⟩ = false)

theorem Has3.keep {c B : Nat} {w w' : World} {x y z : Value} (h : Has3 w B x y z) (hk : Keep c w w') (hne : B ≠ c) : Has3 w' B x y z :=
  ⟨keep3 hk hne h.1, keepF hk hne h.1.2.2.2 h.2⟩
theorem Has3.alloc {B : Nat} {w : World} {x y z : Value} (h : Has3 w B x y z) (o : Obj) : Has3 (w.alloc o) B x y z := ⟨old3 o h.1, oldF o h.1.2.2.2 h.2⟩
theorem Has3.new (w : World) (x y z : Value) (T : TypeId) : Has3 (w.alloc (.cells #[x, y, z] T)) w.heap.size x y z :=
  ⟨⟨by simp [go_sem], by simp [go_sem], by simp [go_sem], by simp⟩, by simp [go_sem], by simp [go_sem], by simp [go_sem]⟩
theorem Has3.drew {B : Nat} {w : World} {x y z : Value} (h : Has3 w B x y z) : Has3 w.drew B x y z := h
theorem Has3.setFar {B b o : Nat} {w : World} {x y z : Value} (h : Has3 w B x y z) (hne : B ≠ b) (u : Value) : Has3 (w.setCell ⟨b, o, none⟩ u) B x y z := by
  obtain ⟨⟨h0, h1, h2, h3⟩, f0, f1, f2⟩ := h
  have hc : ∀ q, (w.setCell ⟨b, o, none⟩ u).cell? ⟨B, q, none⟩ = w.cell? ⟨B, q, none⟩ := fun q => World.cell?_of_block (w := w) (Below.heap_setCell w _ u B hne)
  exact ⟨⟨by rw [hc]; exact h0, by rw [hc]; exact h1, by rw [hc]; exact h2, by simpa using h3⟩, by rw [World.frozen?_setCell]; exact f0, by rw [World.frozen?_setCell]; exact f1, by rw [World.frozen?_setCell]; exact f2⟩
theorem Has3.setAll {B : Nat} {w : World} {x y z : Value} (h : Has3 w B x y z) (a b c : Value) : Has3 (((w.setCell ⟨B, 0, none⟩ a).setCell ⟨B, 1, none⟩ b).setCell ⟨B, 2, none⟩ c) B a b c := by
  obtain ⟨⟨h0, h1, h2, h3⟩, f0, f1, f2⟩ := h
  refine ⟨⟨?_, ?_, ?_, by simpa using h3⟩, by simp only [World.frozen?_setCell]; exact f0, by simp only [World.frozen?_setCell]; exact f1, by simp only [World.frozen?_setCell]; exact f2⟩
  · rw [World.cell?_setCell_other _ _ _ _ (by simp), World.cell?_setCell_other _ _ _ _ (by simp)]; exact World.cell?_setCell_same _ _ _ h0
  · rw [World.cell?_setCell_other _ _ _ _ (by simp)]; exact World.cell?_setCell_same _ _ _ (by rw [World.cell?_setCell_other _ _ _ _ (by simp)]; exact h1)
  · exact World.cell?_setCell_same _ _ _ (by rw [World.cell?_setCell_other _ _ _ _ (by simp), World.cell?_setCell_other _ _ _ _ (by simp)]; exact h2)

/-- Two cells handed back by a draw. -/
def DrawnTwo (c : Nat) (a : Option Addr) (len cap : Nat) (w : World) (e : Ending) (w' : World) : Prop :=
  ∃ (k1 n1 : Int) (t1 : ByteArray) (k2 n2 : Int) (t2 : ByteArray), e = .returned (.tuple #[.agg #[.int .i64 k1, .int .i64 n1, .string t1], .agg #[.int .i64 k2, .int .i64 n2, .string t2]]) ∧ t1.size ≤ maxLen ∧ t2.size ≤ maxLen ∧ Cur w' c a len cap ∧ Keep c w w'

end Go.Proofs.YtgiknjlifocioaaGreatDoor

/-
  The contracts of the model's order on cells.
-/
namespace Go.Proofs.YtgiknjlifocioaaGreatDoor
open Go.ChangeShapes Go.WideShapes Go.ChangeAt Go.RowKit
attribute [local go_sem ↓] Go.wp_at_zero Go.wp_at_succ

/-- Is the one cell less than the other? By kind, then by number, then by text. -/
def lessB (k1 n1 : Int) (t1 : ByteArray) (k2 n2 : Int) (t2 : ByteArray) : Bool :=
  if (k1 != k2) = true then decide (k1 < k2) else if (n1 != n2) = true then decide (n1 < n2) else Op.bytesLess t1.toList t2.toList

end Go.Proofs.YtgiknjlifocioaaGreatDoor

/-
  The contracts of the model's SameAs and Below.
-/
namespace Go.Proofs.YtgiknjlifocioaaGreatDoor
open Go.ChangeShapes Go.WideShapes Go.ChangeAt Go.RowKit
attribute [local go_sem ↓] Go.wp_at_zero Go.wp_at_succ

/-- Are both right, and is one none? -/
def nonesB (k1 n1 : Int) (t1 : ByteArray) (k2 n2 : Int) (t2 : ByteArray) : Bool := (okB k1 n1 t1 && okB k2 n2 t2) && (k1 == 0 || k2 == 0)
/-- Are both right, and of one kind, or is one none? -/
def likeB (k1 n1 : Int) (t1 : ByteArray) (k2 n2 : Int) (t2 : ByteArray) : Bool := (okB k1 n1 t1 && okB k2 n2 t2) && ((k1 == 0 || k2 == 0) || k1 == k2)
/-- What comes of two cells that are held against each other: kind, number, fault. -/
def heldR (like none yes : Bool) : Int × Int × Int := if like = false then (0, 0, 3) else if none = true then (0, 0, 0) else (3, if yes = true then 1 else 0, 0)
/-- What SameAs comes to: kind, number, fault. -/
def sameR (k1 n1 : Int) (t1 : ByteArray) (k2 n2 : Int) (t2 : ByteArray) : Int × Int × Int := heldR (likeB k1 n1 t1 k2 n2 t2) (nonesB k1 n1 t1 k2 n2 t2) (sameB k1 n1 t1 k2 n2 t2)
/-- What Below comes to: kind, number, fault. -/
def belowR (k1 n1 : Int) (t1 : ByteArray) (k2 n2 : Int) (t2 : ByteArray) : Int × Int × Int := heldR (likeB k1 n1 t1 k2 n2 t2) (nonesB k1 n1 t1 k2 n2 t2) (lessB k1 n1 t1 k2 n2 t2)

end Go.Proofs.YtgiknjlifocioaaGreatDoor

/-
  Lists of cells: how a slice of cells lies in memory, and the contract of the law's helper that measures one.
-/
namespace Go.Proofs.YtgiknjlifocioaaGreatDoor
open Go.ChangeShapes Go.WideShapes Go.ChangeAt Go.RowKit
attribute [local go_sem ↓] Go.wp_at_zero Go.wp_at_succ

/-- A cell: kind, number, text. -/
abbrev CT := Int × Int × ByteArray
/-- The cells of a slice lie where it says. -/
def RowAt (w : World) (a : Option Addr) (l : List CT) : Prop :=
  ∀ j (h : j < l.length), ∃ b o, a = some ⟨b, o, none⟩ ∧ b < w.heap.size ∧ w.cell? ⟨b, o + j * 3, none⟩ = some (.int .i64 l[j].1) ∧ w.cell? ⟨b, o + j * 3 + 1, none⟩ = some (.int .i64 l[j].2.1) ∧ w.cell? ⟨b, o + j * 3 + 2, none⟩ = some (.string l[j].2.2)
theorem RowAt.below {w w' : World} {a : Option Addr} {l : List CT} (h : RowAt w a l) (hb : Below w.heap.size w w') : RowAt w' a l := by
  intro j hj
  obtain ⟨b, o, ha, hlt, h0, h1, h2⟩ := h j hj
  refine ⟨b, o, ha, Nat.lt_of_lt_of_le hlt hb.size, ?_, ?_, ?_⟩
  · rw [hb.cell (p := ⟨b, _, none⟩) hlt]; exact h0
  · rw [hb.cell (p := ⟨b, _, none⟩) hlt]; exact h1
  · rw [hb.cell (p := ⟨b, _, none⟩) hlt]; exact h2
/-- No text is longer than a text can be. -/
def Fit (l : List CT) : Prop := ∀ j (h : j < l.length), (l[j]).2.2.size ≤ maxLen
/-- How many bytes the texts of a list have. -/
def weight (l : List CT) : Nat := (l.map (·.2.2.size)).sum
theorem weight_take (l : List CT) (k : Nat) (h : k < l.length) : weight (l.take (k + 1)) = weight (l.take k) + (l[k]).2.2.size := by
  unfold weight
  rw [List.take_succ_eq_append_getElem h, List.map_append, List.sum_append]; simp
theorem weight_le (l : List CT) (k : Nat) : weight (l.take k) ≤ weight l := by
  unfold weight
  conv => rhs; rw [← List.take_append_drop k l, List.map_append, List.sum_append]
  omega

end Go.Proofs.YtgiknjlifocioaaGreatDoor

/-
  Lists of cells in new memory: the contract of the law's helper that takes a list over.
-/
namespace Go.Proofs.YtgiknjlifocioaaGreatDoor
open Go.ChangeShapes Go.WideShapes Go.ChangeAt Go.RowKit
attribute [local go_sem ↓] Go.wp_at_zero Go.wp_at_succ

/-- The cells of a list, one behind the other. -/
def flat : List CT → List Value
  | [] => []
  | x :: l => .int .i64 x.1 :: .int .i64 x.2.1 :: .string x.2.2 :: flat l
theorem flat_length (l : List CT) : (flat l).length = l.length * 3 := by
  induction l with
  | nil => rfl
  | cons x l ih => simp only [flat, List.length_cons, ih]; omega
theorem flat_append (l m : List CT) : flat (l ++ m) = flat l ++ flat m := by
  induction l with
  | nil => rfl
  | cons x l ih => simp only [List.cons_append, flat, ih]
theorem flat_at (l : List CT) (j : Nat) (h : j < l.length) : (flat l)[j * 3]? = some (.int .i64 l[j].1) ∧ (flat l)[j * 3 + 1]? = some (.int .i64 l[j].2.1) ∧ (flat l)[j * 3 + 2]? = some (.string l[j].2.2) := by
  induction l generalizing j with
  | nil => simp at h
  | cons x l ih =>
    cases j with
    | zero => exact ⟨rfl, rfl, rfl⟩
    | succ j =>
      have := ih j (by simpa using h)
      have e0 : (j + 1) * 3 = j * 3 + 1 + 1 + 1 := by omega
      have e1 : (j + 1) * 3 + 1 = j * 3 + 1 + 1 + 1 + 1 := by omega
      have e2 : (j + 1) * 3 + 2 = j * 3 + 2 + 1 + 1 + 1 := by omega
      rw [e1, e2, e0]
      simpa only [flat, List.getElem?_cons_succ, List.getElem_cons_succ] using this

/-- Three cells of a row are written: one element more of the list. -/
theorem flat_step (l : List CT) (k : Nat) (h : k < l.length) (z : List Value) (hz : z.length = l.length * 3) :
    (((flat (l.take k) ++ z.drop (k * 3)).set (k * 3) (.int .i64 l[k].1)).set (k * 3 + 1) (.int .i64 l[k].2.1)).set (k * 3 + 2) (.string l[k].2.2) = flat (l.take (k + 1)) ++ z.drop ((k + 1) * 3) := by
  have hl : (flat (l.take k)).length = k * 3 := by rw [flat_length, List.length_take]; congr 1; omega
  obtain ⟨a, b, c, r, hr⟩ : ∃ a b c r, z.drop (k * 3) = a :: b :: c :: r := by
    have hd : (z.drop (k * 3)).length ≥ 3 := by rw [List.length_drop]; omega
    match hm : z.drop (k * 3), hd with
    | a :: b :: c :: r, _ => exact ⟨a, b, c, r, rfl⟩
  have hr3 : z.drop ((k + 1) * 3) = r := by
    rw [show (k + 1) * 3 = k * 3 + 3 by omega, ← List.drop_drop, hr]; rfl
  rw [List.take_succ_eq_append_getElem h, flat_append, hr, hr3]
  rw [List.set_append_right _ _ (by omega), List.set_append_right _ _ (by omega), List.set_append_right _ _ (by omega), hl]
  rw [show k * 3 - k * 3 = 0 by omega, show k * 3 + 1 - k * 3 = 1 by omega, show k * 3 + 2 - k * 3 = 2 by omega]
  simp [flat]

theorem own_below {w w' : World} {base : Nat} {e : TypeId} {size : Nat} {v : Value} {n : Nat} {xs : List Value} (h : w.ownsRow base e size v n xs) (hb : Below w.heap.size w w') : w'.ownsRow base e size v n xs := by
  refine ⟨h.1, ?_⟩
  rcases h.2 with h' | ⟨g, cap, cur, h', hbg, hg, hr⟩
  · exact .inl h'
  · refine .inr ⟨g, cap, cur, h', hbg, ?_, hr⟩
    have hlt : g < w.heap.size := by
      by_cases hl : g < w.heap.size
      · exact hl
      · rw [Array.getElem?_eq_none (by omega)] at hg; cases hg
    rw [hb.block g hlt]; exact hg

/-- What is owned lies there. -/
theorem own_row {w : World} {base g cap : Nat} {e : TypeId} {l : List CT} (h : w.ownsRow base e 3 (.slice (some ⟨g, 0, none⟩) l.length cap) l.length (flat l)) : RowAt w (some ⟨g, 0, none⟩) l := by
  have hlt : g < w.heap.size := by
    rcases h.2 with ⟨h', _⟩ | ⟨g', cap', cur, h', _, hg, _⟩
    · simp at h'
    · simp only [Value.slice.injEq, Option.some.injEq, Addr.mk.injEq, and_true, true_and] at h'
      obtain ⟨rfl, rfl⟩ := h'
      by_cases hl : g < w.heap.size
      · exact hl
      · rw [Array.getElem?_eq_none (by omega)] at hg; cases hg
  intro j hj
  obtain ⟨f0, f1, f2⟩ := flat_at l j hj
  refine ⟨g, 0, rfl, hlt, ?_, ?_, ?_⟩
  · rw [show 0 + j * 3 = j * 3 by omega, h.cellAt _ (by omega)]; exact f0
  · rw [show 0 + j * 3 + 1 = j * 3 + 1 by omega, h.cellAt _ (by omega)]; exact f1
  · rw [show 0 + j * 3 + 2 = j * 3 + 2 by omega, h.cellAt _ (by omega)]; exact f2

end Go.Proofs.YtgiknjlifocioaaGreatDoor

/-
  The contract of the model's helper that takes a row over: new memory.
-/
namespace Go.Proofs.YtgiknjlifocioaaGreatDoor
open Go.ChangeShapes Go.WideShapes Go.ChangeAt Go.RowKit
attribute [local go_sem ↓] Go.wp_at_zero Go.wp_at_succ

/-- The cells of a row, one behind the other, lie there. -/
theorem flat_cells {w : World} {ad : Addr} {l : List CT} (h : RowAt w (some ad) l) (j : Nat) (u : Value) (hj : (flat l)[j]? = some u) : w.cell? (ad.add j) = some u := by
  have hlt : j < l.length * 3 := by
    have := (List.getElem?_eq_some_iff.1 hj).1
    rwa [flat_length] at this
  obtain ⟨b, o, e, _, c0, c1, c2⟩ := h (j / 3) (by omega)
  cases e
  obtain ⟨f0, f1, f2⟩ := flat_at l (j / 3) (by omega)
  have hadd : ∀ q, ((⟨b, o, none⟩ : Addr).add q) = ⟨b, o + q, none⟩ := by
    intro q
    unfold Addr.add
    by_cases hq : q = 0 <;> simp [hq]
  rw [hadd]
  rcases (show j = j / 3 * 3 ∨ j = j / 3 * 3 + 1 ∨ j = j / 3 * 3 + 2 by omega) with e | e | e
  · rw [e] at hj ⊢
    rw [f0] at hj
    rw [← hj]; exact c0
  · rw [e] at hj
    rw [f1] at hj
    rw [e, ← hj, ← Nat.add_assoc]; exact c1
  · rw [e] at hj
    rw [f2] at hj
    rw [e, ← hj, ← Nat.add_assoc]; exact c2

theorem flat_one (l : List CT) : ∀ u ∈ flat l, u.oneCell' = true := by
  induction l with
  | nil => intro u hu; cases hu
  | cons x l ih =>
    intro u hu
    simp only [flat, List.mem_cons] at hu
    rcases hu with rfl | rfl | rfl | hu
    · rfl
    · rfl
    · rfl
    · exact ih u hu

end Go.Proofs.YtgiknjlifocioaaGreatDoor

/-
  Rows that are drawn: the contracts of the model's draws of a row, and of two rows that are held against each other.
-/
namespace Go.Proofs.YtgiknjlifocioaaGreatDoor
open Go.ChangeShapes Go.WideShapes Go.ChangeAt Go.RowKit
attribute [local go_sem ↓] Go.wp_at_zero Go.wp_at_succ
attribute [local simp] World.cell?_alloc_past World.cell?_alloc_at World.frozen?_alloc_at cell_far cell_off cell_here World.frozen?_alloc_past

theorem Cur.far {w w' : World} {c B : Nat} {a : Option Addr} {len cap : Nat} (h : Cur w c a len cap) (hb : Below B w w') (hB : c < B) : Cur w' c a len cap := by
  refine ⟨?_, ?_, ?_, ?_, ?_, ?_, Nat.lt_of_lt_of_le h.lt hb.size, h.hlen, ?_⟩
  · rw [hb.cell (p := ⟨c, 0, none⟩) hB]; exact h.c0
  · rw [hb.cell (p := ⟨c, 1, none⟩) hB]; exact h.c1
  · rw [hb.cell (p := ⟨c, 2, none⟩) hB]; exact h.c2
  · rw [hb.frozen (p := ⟨c, 0, none⟩) hB]; exact h.f0
  · rw [hb.frozen (p := ⟨c, 1, none⟩) hB]; exact h.f1
  · rw [hb.frozen (p := ⟨c, 2, none⟩) hB]; exact h.f2
  · intro j hj
    obtain ⟨rb, ro, v, ha, hrb, hc, hv⟩ := h.row j hj
    exact ⟨rb, ro, v, ha, hrb, by rw [hb.cell (p := ⟨rb, _, none⟩) (by show rb < B; omega)]; exact hc, hv⟩
theorem Keep.far {c B : Nat} {w w1 w2 : World} (h : Keep c w w1) (hb : Below B w1 w2) (hB : w.heap.size ≤ B) : Keep c w w2 :=
  ⟨hb.os.trans h.os, hb.tape.trans h.tape, hb.output.trans h.output, Nat.le_trans h.size hb.size, fun k hk hc => (hb.block k (by omega)).trans (h.block k hk hc)⟩
theorem own_keep {w w' : World} {c base : Nat} {e : TypeId} {size n : Nat} {v : Value} {xs : List Value} (h : w.ownsRow base e size v n xs) (hk : Keep c w w') (hc : c < base) : w'.ownsRow base e size v n xs := by
  refine ⟨h.1, ?_⟩
  rcases h.2 with h' | ⟨g, cap, cur, h', hbg, hg, hr⟩
  · exact .inl h'
  · refine .inr ⟨g, cap, cur, h', hbg, ?_, hr⟩
    have hlt : g < w.heap.size := by
      by_cases hl : g < w.heap.size
      · exact hl
      · rw [Array.getElem?_eq_none (by omega)] at hg; cases hg
    rw [hk.block g hlt (by omega)]; exact hg
theorem Fit.append {l : List CT} {x : CT} (h : Fit l) (hx : x.2.2.size ≤ maxLen) : Fit (l ++ [x]) := by
  intro j hj
  by_cases e : j < l.length
  · rw [List.getElem_append_left e]; exact h j e
  · rw [List.getElem_append_right (by omega)]; simpa using hx

theorem infoCellD : (Tryz.prog.info? 31).map (fun i => (i.zero, i.size, i.bytes)) = some (some (.agg #[.int .i64 0, .int .i64 0, .string ⟨#[]⟩]), 3, 32) := by kernel_rfl

end Go.Proofs.YtgiknjlifocioaaGreatDoor
