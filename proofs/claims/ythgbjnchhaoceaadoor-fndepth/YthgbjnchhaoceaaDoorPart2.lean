/-
  A part of the proof: Draw3, Draw4, Draw5, Draw6, Lists1, Lists2, Strs1, KeyMath.
-/
import Derived.Test.YthgbjnchhaoceaaDoorPart1
import Derived.Deep.RegionHeld3
import Derived.Lib.ItoaNum
import Derived.Lib.ParseIntB

/-
  The contract of a drawn cell.
-/
namespace Go.Proofs.YthgbjnchhaoceaaDoor
open Go.ChangeShapes Go.WideShapes Go.ChangeAt Go.RowKit

/-- A cell handed back by a draw. -/
def DrawnCell (c : Nat) (a : Option Addr) (len cap : Nat) (w : World) (e : Ending) (w' : World) : Prop :=
  ∃ (k n : Int) (t : ByteArray), e = .returned (.agg #[.int .i64 k, .int .i64 n, .string t]) ∧ t.size ≤ maxLen ∧ Cur w' c a len cap ∧ Keep c w w'

theorem keep4 {c : Nat} {w1 w2 : World} {v0 v1 v2 v3 : Value} {T : TypeId} (hk : Keep c (w1.alloc (.cells #[v0, v1, v2, v3] T)) w2) (hne : w1.heap.size ≠ c) :
    w2.cell? ⟨w1.heap.size, 0, none⟩ = some v0 ∧ w2.cell? ⟨w1.heap.size, 1, none⟩ = some v1 ∧ w2.cell? ⟨w1.heap.size, 2, none⟩ = some v2 ∧ w2.cell? ⟨w1.heap.size, 3, none⟩ = some v3 := by
  refine ⟨?_, ?_, ?_, ?_⟩
  · rw [hk.cell (by simp) hne]; simp [go_sem]
  · rw [hk.cell (by simp) hne]; simp [go_sem]
  · rw [hk.cell (by simp) hne]; simp [go_sem]
  · rw [hk.cell (by simp) hne]; simp [go_sem]

theorem new3 {c : Nat} {w w1 : World} {x y z : Value} {T : TypeId} (hk : Keep c (w.alloc (.cells #[x, y, z] T)) w1) (hne : w.heap.size ≠ c) :
    (w1.cell? ⟨w.heap.size, 0, none⟩ = some x ∧ w1.cell? ⟨w.heap.size, 1, none⟩ = some y ∧ w1.cell? ⟨w.heap.size, 2, none⟩ = some z ∧ w.heap.size < w1.heap.size) ∧
    (w1.frozen? ⟨w.heap.size, 0, none⟩ = false ∧ w1.frozen? ⟨w.heap.size, 1, none⟩ = false ∧ w1.frozen? ⟨w.heap.size, 2, none⟩ = false) :=
  ⟨keep3 hk hne ⟨by simp [go_sem], by simp [go_sem], by simp [go_sem], by simp⟩, keepF hk hne (by simp) ⟨by simp [go_sem], by simp [go_sem], by simp [go_sem]⟩⟩

theorem old3 {w : World} {B : Nat} {x y z : Value} (o : Obj) (h : w.cell? ⟨B, 0, none⟩ = some x ∧ w.cell? ⟨B, 1, none⟩ = some y ∧ w.cell? ⟨B, 2, none⟩ = some z ∧ B < w.heap.size) :
    (w.alloc o).cell? ⟨B, 0, none⟩ = some x ∧ (w.alloc o).cell? ⟨B, 1, none⟩ = some y ∧ (w.alloc o).cell? ⟨B, 2, none⟩ = some z ∧ B < (w.alloc o).heap.size :=
  later3 ((Below.refl _ _).alloc (Nat.le_refl _) o) h
theorem oldF {w : World} {B : Nat} (o : Obj) (hB : B < w.heap.size) (h : w.frozen? ⟨B, 0, none⟩ = false ∧ w.frozen? ⟨B, 1, none⟩ = false ∧ w.frozen? ⟨B, 2, none⟩ = false) :
    (w.alloc o).frozen? ⟨B, 0, none⟩ = false ∧ (w.alloc o).frozen? ⟨B, 1, none⟩ = false ∧ (w.alloc o).frozen? ⟨B, 2, none⟩ = false :=
  frozen3 ((Below.refl _ _).alloc (Nat.le_refl _) o) hB h

set_option maxHeartbeats 2000000 in
theorem cell_draw {w : World} {c : Nat} {a : Option Addr} {len cap : Nat} (h : Cur w c a len cap) :
    Calls Tryd.prog 40 #[.pointer (some ⟨c, 0, none⟩)] w fun e w' => DrawnCell c a len cap w e w' := by
  have hcw : c < w.heap.size := h.lt
  have hne : w.heap.size ≠ c := by omega
  have hcur : Hid (Cur w c a len cap) := h
  clear h
  go_enter Tryd.func40, Tryd.ntmps40
  go_wp2_with fail
  refine (below_draw (hcur.out.alloc _) 8 (by omega) (by omega)).mono ?_
  rintro e w1 ⟨x, rfl, hx0, hx1, hc1, hk1⟩
  obtain ⟨⟨p1, q1, r1, s1⟩, ff1⟩ := new3 hk1 hne
  have hkw : Keep c w w1 := ((Keep.refl c w).alloc _).trans hk1
  have hne1 : w1.heap.size ≠ c := by have := hkw.size; omega
  clear hk1
  by_cases x0 : x = 0
  · subst x0
    obtain ⟨f0, f1, f2⟩ := ff1
    go_wp2
    refine bodyPost_ret (v := .agg #[.int .i64 0, .int .i64 0, .string ⟨#[]⟩]) (by simp [results, Tryd.results40, go_sem, p1, q1, r1]) rfl ⟨_, _, _, rfl, by decide, ?_, ?_⟩
    · exact ((hc1.setAbove hcw _).setAbove hcw _).setAbove hcw _
    · exact ((hkw.setCell (p := ⟨_, _, none⟩) (Or.inr (Nat.le_refl _)) _).setCell (p := ⟨_, _, none⟩) (Or.inr (Nat.le_refl _)) _).setCell (p := ⟨_, _, none⟩) (Or.inr (Nat.le_refl _)) _
  by_cases x1 : x = 1
  · subst x1
    go_wp2_with fail
    refine (below_draw (hc1.alloc _) 4 (by omega) (by omega)).mono ?_
    rintro e w2 ⟨y, rfl, hy0, hy1, hc2, hk2⟩
    obtain ⟨g0, g1, g2, g3⟩ := keep4 hk2 hne1
    obtain ⟨p2, q2, r2, s2⟩ := keep3 hk2 hne (old3 _ ⟨p1, q1, r1, s1⟩)
    obtain ⟨f0, f1, f2⟩ := keepF hk2 hne (by simp; omega) (oldF _ s1 ff1)
    have hkv : Keep c w w2 := (hkw.alloc _).trans hk2
    clear hk2 hkw hc1 ff1
    rcases (show y = 0 ∨ y = 1 ∨ y = 2 ∨ y = 3 by omega) with rfl | rfl | rfl | rfl
    · go_wp2
      refine bodyPost_ret (v := .agg #[.int .i64 2, .int .i64 0, .string ⟨#[]⟩]) (by simp [results, Tryd.results40, go_sem, p2, q2, r2]) rfl ⟨_, _, _, rfl, by decide, ?_, ?_⟩
      · exact ((hc2.setAbove hcw _).setAbove hcw _).setAbove hcw _
      · exact ((hkv.setCell (p := ⟨_, _, none⟩) (Or.inr (Nat.le_refl _)) _).setCell (p := ⟨_, _, none⟩) (Or.inr (Nat.le_refl _)) _).setCell (p := ⟨_, _, none⟩) (Or.inr (Nat.le_refl _)) _
    · go_wp2
      refine bodyPost_ret (v := .agg #[.int .i64 2, .int .i64 0, .string ⟨#[97, 98]⟩]) (by simp [results, Tryd.results40, go_sem, p2, q2, r2]) rfl ⟨_, _, _, rfl, by decide, ?_, ?_⟩
      · exact ((hc2.setAbove hcw _).setAbove hcw _).setAbove hcw _
      · exact ((hkv.setCell (p := ⟨_, _, none⟩) (Or.inr (Nat.le_refl _)) _).setCell (p := ⟨_, _, none⟩) (Or.inr (Nat.le_refl _)) _).setCell (p := ⟨_, _, none⟩) (Or.inr (Nat.le_refl _)) _
    · go_wp2
      refine bodyPost_ret (v := .agg #[.int .i64 2, .int .i64 0, .string ⟨#[98]⟩]) (by simp [results, Tryd.results40, go_sem, p2, q2, r2]) rfl ⟨_, _, _, rfl, by decide, ?_, ?_⟩
      · exact ((hc2.setAbove hcw _).setAbove hcw _).setAbove hcw _
      · exact ((hkv.setCell (p := ⟨_, _, none⟩) (Or.inr (Nat.le_refl _)) _).setCell (p := ⟨_, _, none⟩) (Or.inr (Nat.le_refl _)) _).setCell (p := ⟨_, _, none⟩) (Or.inr (Nat.le_refl _)) _
    · go_wp2
      refine bodyPost_ret (v := .agg #[.int .i64 2, .int .i64 0, .string ⟨#[104, 97, 121]⟩]) (by simp [results, Tryd.results40, go_sem, p2, q2, r2]) rfl ⟨_, _, _, rfl, by decide, ?_, ?_⟩
      · exact ((hc2.setAbove hcw _).setAbove hcw _).setAbove hcw _
      · exact ((hkv.setCell (p := ⟨_, _, none⟩) (Or.inr (Nat.le_refl _)) _).setCell (p := ⟨_, _, none⟩) (Or.inr (Nat.le_refl _)) _).setCell (p := ⟨_, _, none⟩) (Or.inr (Nat.le_refl _)) _
  by_cases x2 : x = 2
  · subst x2
    go_wp2_with fail
    refine (below_draw hc1 2 (by omega) (by omega)).mono ?_
    rintro e w2 ⟨y, rfl, hy0, hy1, hc2, hk2⟩
    obtain ⟨p2, q2, r2, s2⟩ := keep3 hk2 hne ⟨p1, q1, r1, s1⟩
    obtain ⟨f0, f1, f2⟩ := keepF hk2 hne s1 ff1
    have hkv : Keep c w w2 := hkw.trans hk2
    clear hk2 hkw hc1 ff1
    go_wp2
    refine bodyPost_ret (v := .agg #[.int .i64 3, .int .i64 y, .string ⟨#[]⟩]) (by simp [results, Tryd.results40, go_sem, p2, q2, r2]) rfl ⟨_, _, _, rfl, by decide, ?_, ?_⟩
    · exact ((hc2.setAbove hcw _).setAbove hcw _).setAbove hcw _
    · exact ((hkv.setCell (p := ⟨_, _, none⟩) (Or.inr (Nat.le_refl _)) _).setCell (p := ⟨_, _, none⟩) (Or.inr (Nat.le_refl _)) _).setCell (p := ⟨_, _, none⟩) (Or.inr (Nat.le_refl _)) _
  by_cases x3 : x = 3
  · subst x3
    go_wp2_with fail
    refine (below_draw (hc1.alloc _) 4 (by omega) (by omega)).mono ?_
    rintro e w2 ⟨y, rfl, hy0, hy1, hc2, hk2⟩
    obtain ⟨g0, g1, g2, g3⟩ := keep4 hk2 hne1
    obtain ⟨p2, q2, r2, s2⟩ := keep3 hk2 hne (old3 _ ⟨p1, q1, r1, s1⟩)
    obtain ⟨f0, f1, f2⟩ := keepF hk2 hne (by simp; omega) (oldF _ s1 ff1)
    have hkv : Keep c w w2 := (hkw.alloc _).trans hk2
    clear hk2 hkw hc1 ff1
    rcases (show y = 0 ∨ y = 1 ∨ y = 2 ∨ y = 3 by omega) with rfl | rfl | rfl | rfl
    · go_wp2
      refine bodyPost_ret (v := .agg #[.int .i64 1, .int .i64 0, .string ⟨#[]⟩]) (by simp [results, Tryd.results40, go_sem, p2, q2, r2]) rfl ⟨_, _, _, rfl, by decide, ?_, ?_⟩
      · exact ((hc2.setAbove hcw _).setAbove hcw _).setAbove hcw _
      · exact ((hkv.setCell (p := ⟨_, _, none⟩) (Or.inr (Nat.le_refl _)) _).setCell (p := ⟨_, _, none⟩) (Or.inr (Nat.le_refl _)) _).setCell (p := ⟨_, _, none⟩) (Or.inr (Nat.le_refl _)) _
    · go_wp2
      refine bodyPost_ret (v := .agg #[.int .i64 1, .int .i64 1000000000, .string ⟨#[]⟩]) (by simp [results, Tryd.results40, go_sem, p2, q2, r2]) rfl ⟨_, _, _, rfl, by decide, ?_, ?_⟩
      · exact ((hc2.setAbove hcw _).setAbove hcw _).setAbove hcw _
      · exact ((hkv.setCell (p := ⟨_, _, none⟩) (Or.inr (Nat.le_refl _)) _).setCell (p := ⟨_, _, none⟩) (Or.inr (Nat.le_refl _)) _).setCell (p := ⟨_, _, none⟩) (Or.inr (Nat.le_refl _)) _
    · go_wp2
      refine bodyPost_ret (v := .agg #[.int .i64 1, .int .i64 (-1000000000), .string ⟨#[]⟩]) (by simp [results, Tryd.results40, go_sem, p2, q2, r2]) rfl ⟨_, _, _, rfl, by decide, ?_, ?_⟩
      · exact ((hc2.setAbove hcw _).setAbove hcw _).setAbove hcw _
      · exact ((hkv.setCell (p := ⟨_, _, none⟩) (Or.inr (Nat.le_refl _)) _).setCell (p := ⟨_, _, none⟩) (Or.inr (Nat.le_refl _)) _).setCell (p := ⟨_, _, none⟩) (Or.inr (Nat.le_refl _)) _
    · go_wp2
      refine bodyPost_ret (v := .agg #[.int .i64 1, .int .i64 40000, .string ⟨#[]⟩]) (by simp [results, Tryd.results40, go_sem, p2, q2, r2]) rfl ⟨_, _, _, rfl, by decide, ?_, ?_⟩
      · exact ((hc2.setAbove hcw _).setAbove hcw _).setAbove hcw _
      · exact ((hkv.setCell (p := ⟨_, _, none⟩) (Or.inr (Nat.le_refl _)) _).setCell (p := ⟨_, _, none⟩) (Or.inr (Nat.le_refl _)) _).setCell (p := ⟨_, _, none⟩) (Or.inr (Nat.le_refl _)) _
  · go_wp2_with fail
    refine (below_draw hc1 12 (by omega) (by omega)).mono ?_
    rintro e w2 ⟨y, rfl, hy0, hy1, hc2, hk2⟩
    obtain ⟨p2, q2, r2, s2⟩ := keep3 hk2 hne ⟨p1, q1, r1, s1⟩
    obtain ⟨f0, f1, f2⟩ := keepF hk2 hne s1 ff1
    have hkv : Keep c w w2 := hkw.trans hk2
    clear hk2 hkw hc1 ff1
    go_wp2
    refine bodyPost_ret (v := .agg #[.int .i64 1, .int .i64 (y - 3), .string ⟨#[]⟩]) (by simp [results, Tryd.results40, go_sem, p2, q2, r2]) rfl ⟨_, _, _, rfl, by decide, ?_, ?_⟩
    · exact ((hc2.setAbove hcw _).setAbove hcw _).setAbove hcw _
    · exact ((hkv.setCell (p := ⟨_, _, none⟩) (Or.inr (Nat.le_refl _)) _).setCell (p := ⟨_, _, none⟩) (Or.inr (Nat.le_refl _)) _).setCell (p := ⟨_, _, none⟩) (Or.inr (Nat.le_refl _)) _

end Go.Proofs.YthgbjnchhaoceaaDoor

/-
  The contract of a drawn cell that may be wrong.
-/
namespace Go.Proofs.YthgbjnchhaoceaaDoor
open Go.ChangeShapes Go.WideShapes Go.ChangeAt Go.RowKit

theorem keepN {c : Nat} {w1 w2 : World} {v0 v1 v2 : Value} {T : TypeId} (hk : Keep c (w1.alloc (.cells #[v0, v1, v2] T)) w2) (hne : w1.heap.size ≠ c) :
    w2.cell? ⟨w1.heap.size, 0, none⟩ = some v0 ∧ w2.cell? ⟨w1.heap.size, 1, none⟩ = some v1 ∧ w2.cell? ⟨w1.heap.size, 2, none⟩ = some v2 := by
  refine ⟨?_, ?_, ?_⟩
  · rw [hk.cell (by simp) hne]; simp [go_sem]
  · rw [hk.cell (by simp) hne]; simp [go_sem]
  · rw [hk.cell (by simp) hne]; simp [go_sem]

set_option maxHeartbeats 4000000 in
theorem any_draw {w : World} {c : Nat} {a : Option Addr} {len cap : Nat} (h : Cur w c a len cap) :
    Calls Tryd.prog 29 #[.pointer (some ⟨c, 0, none⟩)] w fun e w' => DrawnCell c a len cap w e w' := by
  have hcw : c < w.heap.size := h.lt
  have hne : w.heap.size ≠ c := by omega
  have hcur : Hid (Cur w c a len cap) := h
  clear h
  go_enter Tryd.func29, Tryd.ntmps29
  go_wp2_with fail
  refine (cell_draw (hcur.out.alloc _)).mono ?_
  rintro e w1 ⟨k, n, t, rfl, ht, hc1, hk1⟩
  obtain ⟨⟨p1, q1, r1, s1⟩, ff1⟩ := new3 hk1 hne
  have hkw : Keep c w w1 := ((Keep.refl c w).alloc _).trans hk1
  have hwx : w.heap.size ≤ w1.heap.size := hkw.size
  have hcx : c < w1.heap.size := hc1.lt
  have hnx : w1.heap.size ≠ c := by omega
  have hxr : w1.heap.size ≠ w.heap.size := by omega
  have hrx : w.heap.size ≠ w1.heap.size := by omega
  clear hk1
  go_wp2_with fail
  refine (once_draw (hc1.alloc _) 10 (by omega) (by omega)).mono ?_
  rintro e w2 ⟨b, rfl, hc2, hk2⟩
  obtain ⟨⟨x2, y2, z2, t2⟩, fx2⟩ := new3 hk2 hnx
  obtain ⟨p2, q2, r2, s2⟩ := keep3 hk2 hne (old3 _ ⟨p1, q1, r1, s1⟩)
  have ff2 := keepF hk2 hne (by simp; omega) (oldF _ s1 ff1)
  have hkv : Keep c w w2 := (hkw.alloc _).trans hk2
  clear hk2 hkw hc1 ff1 p1 q1 r1 s1
  cases b
  · obtain ⟨f0, f1, f2⟩ := ff2
    go_wp2
    refine bodyPost_ret (v := .agg #[.int .i64 k, .int .i64 n, .string t]) (by simp [results, Tryd.results29, go_sem, p2, q2, r2]) rfl ⟨_, _, _, rfl, ht, ?_, ?_⟩
    · exact (((hc2.setAbove hcw _).setAbove hcw _).setAbove hcw _)
    · exact (((hkv.setCell (p := ⟨_, _, none⟩) (Or.inr (Nat.le_refl _)) _).setCell (p := ⟨_, _, none⟩) (Or.inr (Nat.le_refl _)) _).setCell (p := ⟨_, _, none⟩) (Or.inr (Nat.le_refl _)) _)
  go_wp2_with fail
  refine (below_draw hc2 3 (by omega) (by omega)).mono ?_
  rintro e w3 ⟨y, rfl, hy0, hy1, hc3, hk3⟩
  obtain ⟨x3, y3, z3, t3⟩ := keep3 hk3 hnx ⟨x2, y2, z2, t2⟩
  have fx3 := keepF hk3 hnx t2 fx2
  obtain ⟨p3, q3, r3, s3⟩ := keep3 hk3 hne ⟨p2, q2, r2, s2⟩
  have ff3 := keepF hk3 hne s2 ff2
  have hku : Keep c w w3 := hkv.trans hk3
  have hsz : w1.heap.size < w3.heap.size := t3
  have hn3 : w3.heap.size ≠ c := by omega
  clear hk3 hkv hc2 ff2 fx2 p2 q2 r2 s2 x2 y2 z2 t2
  rcases (show y = 0 ∨ y = 1 ∨ y = 2 by omega) with rfl | rfl | rfl
  · go_wp2_with fail
    refine (from_draw hc3).mono ?_
    rintro e w4 ⟨v, rfl, hc4, hk4⟩
    obtain ⟨x4, y4, z4, t4⟩ := keep3 hk4 hnx ⟨x3, y3, z3, t3⟩
    obtain ⟨e0, e1, e2⟩ := keepF hk4 hnx t3 fx3
    obtain ⟨p4, q4, r4, s4⟩ := keep3 hk4 hne ⟨p3, q3, r3, s3⟩
    obtain ⟨f0, f1, f2⟩ := keepF hk4 hne s3 ff3
    have hkt : Keep c w w4 := hku.trans hk4
    clear hk4
    go_wp2
    refine bodyPost_ret (v := .agg #[.int .i64 v, .int .i64 n, .string t]) (by simp [results, Tryd.results29, go_sem, p4, q4, r4]) rfl ⟨_, _, _, rfl, ht, ?_, ?_⟩
    · exact ((((hc4.setAbove hcx _).setAbove hcw _).setAbove hcw _).setAbove hcw _)
    · exact ((((hkt.setCell (p := ⟨_, _, none⟩) (Or.inr hwx) _).setCell (p := ⟨_, _, none⟩) (Or.inr (Nat.le_refl _)) _).setCell (p := ⟨_, _, none⟩) (Or.inr (Nat.le_refl _)) _).setCell (p := ⟨_, _, none⟩) (Or.inr (Nat.le_refl _)) _)
  · go_wp2_with fail
    refine (below_draw (hc3.alloc _) 4 (by omega) (by omega)).mono ?_
    rintro e w4 ⟨y, rfl, hy0, hy1, hc4, hk4⟩
    obtain ⟨g0, g1, g2, g3⟩ := keep4 hk4 hn3
    obtain ⟨x4, y4, z4, t4⟩ := keep3 hk4 hnx (old3 _ ⟨x3, y3, z3, t3⟩)
    obtain ⟨e0, e1, e2⟩ := keepF hk4 hnx (by simp; omega) (oldF _ t3 fx3)
    obtain ⟨p4, q4, r4, s4⟩ := keep3 hk4 hne (old3 _ ⟨p3, q3, r3, s3⟩)
    obtain ⟨f0, f1, f2⟩ := keepF hk4 hne (by simp; omega) (oldF _ s3 ff3)
    have hkt : Keep c w w4 := (hku.alloc _).trans hk4
    clear hk4
    rcases (show y = 0 ∨ y = 1 ∨ y = 2 ∨ y = 3 by omega) with rfl | rfl | rfl | rfl
    · go_wp2
      refine bodyPost_ret (v := .agg #[.int .i64 k, .int .i64 1000000001, .string t]) (by simp [results, Tryd.results29, go_sem, p4, q4, r4]) rfl ⟨_, _, _, rfl, ht, ?_, ?_⟩
      · exact ((((hc4.setAbove hcx _).setAbove hcw _).setAbove hcw _).setAbove hcw _)
      · exact ((((hkt.setCell (p := ⟨_, _, none⟩) (Or.inr hwx) _).setCell (p := ⟨_, _, none⟩) (Or.inr (Nat.le_refl _)) _).setCell (p := ⟨_, _, none⟩) (Or.inr (Nat.le_refl _)) _).setCell (p := ⟨_, _, none⟩) (Or.inr (Nat.le_refl _)) _)
    · go_wp2
      refine bodyPost_ret (v := .agg #[.int .i64 k, .int .i64 (-1000000001), .string t]) (by simp [results, Tryd.results29, go_sem, p4, q4, r4]) rfl ⟨_, _, _, rfl, ht, ?_, ?_⟩
      · exact ((((hc4.setAbove hcx _).setAbove hcw _).setAbove hcw _).setAbove hcw _)
      · exact ((((hkt.setCell (p := ⟨_, _, none⟩) (Or.inr hwx) _).setCell (p := ⟨_, _, none⟩) (Or.inr (Nat.le_refl _)) _).setCell (p := ⟨_, _, none⟩) (Or.inr (Nat.le_refl _)) _).setCell (p := ⟨_, _, none⟩) (Or.inr (Nat.le_refl _)) _)
    · go_wp2
      refine bodyPost_ret (v := .agg #[.int .i64 k, .int .i64 2, .string t]) (by simp [results, Tryd.results29, go_sem, p4, q4, r4]) rfl ⟨_, _, _, rfl, ht, ?_, ?_⟩
      · exact ((((hc4.setAbove hcx _).setAbove hcw _).setAbove hcw _).setAbove hcw _)
      · exact ((((hkt.setCell (p := ⟨_, _, none⟩) (Or.inr hwx) _).setCell (p := ⟨_, _, none⟩) (Or.inr (Nat.le_refl _)) _).setCell (p := ⟨_, _, none⟩) (Or.inr (Nat.le_refl _)) _).setCell (p := ⟨_, _, none⟩) (Or.inr (Nat.le_refl _)) _)
    · go_wp2
      refine bodyPost_ret (v := .agg #[.int .i64 k, .int .i64 4611686018427387904, .string t]) (by simp [results, Tryd.results29, go_sem, p4, q4, r4]) rfl ⟨_, _, _, rfl, ht, ?_, ?_⟩
      · exact ((((hc4.setAbove hcx _).setAbove hcw _).setAbove hcw _).setAbove hcw _)
      · exact ((((hkt.setCell (p := ⟨_, _, none⟩) (Or.inr hwx) _).setCell (p := ⟨_, _, none⟩) (Or.inr (Nat.le_refl _)) _).setCell (p := ⟨_, _, none⟩) (Or.inr (Nat.le_refl _)) _).setCell (p := ⟨_, _, none⟩) (Or.inr (Nat.le_refl _)) _)
  · go_wp2_with fail
    refine (below_draw (hc3.alloc _) 3 (by omega) (by omega)).mono ?_
    rintro e w4 ⟨y, rfl, hy0, hy1, hc4, hk4⟩
    obtain ⟨g0, g1, g2⟩ := keepN hk4 hn3
    obtain ⟨x4, y4, z4, t4⟩ := keep3 hk4 hnx (old3 _ ⟨x3, y3, z3, t3⟩)
    obtain ⟨e0, e1, e2⟩ := keepF hk4 hnx (by simp; omega) (oldF _ t3 fx3)
    obtain ⟨p4, q4, r4, s4⟩ := keep3 hk4 hne (old3 _ ⟨p3, q3, r3, s3⟩)
    obtain ⟨f0, f1, f2⟩ := keepF hk4 hne (by simp; omega) (oldF _ s3 ff3)
    have hkt : Keep c w w4 := (hku.alloc _).trans hk4
    clear hk4
    rcases (show y = 0 ∨ y = 1 ∨ y = 2 by omega) with rfl | rfl | rfl
    · go_wp2
      refine bodyPost_ret (v := .agg #[.int .i64 k, .int .i64 n, .string ⟨#[65]⟩]) (by simp [results, Tryd.results29, go_sem, p4, q4, r4]) rfl ⟨_, _, _, rfl, by decide, ?_, ?_⟩
      · exact ((((hc4.setAbove hcx _).setAbove hcw _).setAbove hcw _).setAbove hcw _)
      · exact ((((hkt.setCell (p := ⟨_, _, none⟩) (Or.inr hwx) _).setCell (p := ⟨_, _, none⟩) (Or.inr (Nat.le_refl _)) _).setCell (p := ⟨_, _, none⟩) (Or.inr (Nat.le_refl _)) _).setCell (p := ⟨_, _, none⟩) (Or.inr (Nat.le_refl _)) _)
    · go_wp2
      refine bodyPost_ret (v := .agg #[.int .i64 k, .int .i64 n, .string ⟨#[97, 98, 99, 100, 101, 102, 103, 104, 105, 106, 107, 108]⟩]) (by simp [results, Tryd.results29, go_sem, p4, q4, r4]) rfl ⟨_, _, _, rfl, by decide, ?_, ?_⟩
      · exact ((((hc4.setAbove hcx _).setAbove hcw _).setAbove hcw _).setAbove hcw _)
      · exact ((((hkt.setCell (p := ⟨_, _, none⟩) (Or.inr hwx) _).setCell (p := ⟨_, _, none⟩) (Or.inr (Nat.le_refl _)) _).setCell (p := ⟨_, _, none⟩) (Or.inr (Nat.le_refl _)) _).setCell (p := ⟨_, _, none⟩) (Or.inr (Nat.le_refl _)) _)
    · go_wp2
      refine bodyPost_ret (v := .agg #[.int .i64 k, .int .i64 n, .string ⟨#[97, 98, 99, 100, 101, 102, 103, 104, 105, 106, 107, 108, 109]⟩]) (by simp [results, Tryd.results29, go_sem, p4, q4, r4]) rfl ⟨_, _, _, rfl, by decide, ?_, ?_⟩
      · exact ((((hc4.setAbove hcx _).setAbove hcw _).setAbove hcw _).setAbove hcw _)
      · exact ((((hkt.setCell (p := ⟨_, _, none⟩) (Or.inr hwx) _).setCell (p := ⟨_, _, none⟩) (Or.inr (Nat.le_refl _)) _).setCell (p := ⟨_, _, none⟩) (Or.inr (Nat.le_refl _)) _).setCell (p := ⟨_, _, none⟩) (Or.inr (Nat.le_refl _)) _)

end Go.Proofs.YthgbjnchhaoceaaDoor

/-
  The contract of two drawn cells.
-/
namespace Go.Proofs.YthgbjnchhaoceaaDoor
open Go.ChangeShapes Go.WideShapes Go.ChangeAt Go.RowKit

/-- Three cells of a block, and that they may be written. -/
def Has3 (w : World) (B : Nat) (x y z : Value) : Prop :=
  (w.cell? ⟨B, 0, none⟩ = some x ∧ w.cell? ⟨B, 1, none⟩ = some y ∧ w.cell? ⟨B, 2, none⟩ = some z ∧ B < w.heap.size) ∧
  (w.frozen? ⟨B, 0, none⟩ = false ∧ w.frozen? ⟨B, 1, none⟩ = false ∧ w.frozen? ⟨B, 2, none⟩ = false)

theorem Has3.keep {c B : Nat} {w w' : World} {x y z : Value} (h : Has3 w B x y z) (hk : Keep c w w') (hne : B ≠ c) : Has3 w' B x y z :=
  ⟨keep3 hk hne h.1, keepF hk hne h.1.2.2.2 h.2⟩
theorem Has3.alloc {B : Nat} {w : World} {x y z : Value} (h : Has3 w B x y z) (o : Obj) : Has3 (w.alloc o) B x y z := ⟨old3 o h.1, oldF o h.1.2.2.2 h.2⟩
theorem Has3.new (w : World) (x y z : Value) (T : TypeId) : Has3 (w.alloc (.cells #[x, y, z] T)) w.heap.size x y z :=
  ⟨⟨by simp [go_sem], by simp [go_sem], by simp [go_sem], by simp⟩, by simp [go_sem], by simp [go_sem], by simp [go_sem]⟩
theorem Has3.drew {B : Nat} {w : World} {x y z : Value} (h : Has3 w B x y z) : Has3 w.drew B x y z := h
theorem Has3.setFar {B b o : Nat} {w : World} {x y z : Value} (h : Has3 w B x y z) (hne : B ≠ b) (u : Value) : Has3 (w.setCell ⟨b, o, none⟩ u) B x y z := by
  obtain ⟨⟨h0, h1, h2, h3⟩, f0, f1, f2⟩ := h
  have hc : ∀ q, (w.setCell ⟨b, o, none⟩ u).cell? ⟨B, q, none⟩ = w.cell? ⟨B, q, none⟩ := fun q => World.cell?_of_block (w := w) (Below.heap_setCell w _ u B hne)
  exact ⟨⟨by rw [hc]; exact h0, by rw [hc]; exact h1, by rw [hc]; exact h2, by simpa using h3⟩, by rw [World.frozen?_setCell]; exact f0, by rw [World.frozen?_setCell]; exact f1, by rw [World.frozen?_setCell]; exact f2⟩
theorem Has3.setAll {B : Nat} {w : World} {x y z : Value} (h : Has3 w B x y z) (a b c : Value) : Has3 (((w.setCell ⟨B, 0, none⟩ a).setCell ⟨B, 1, none⟩ b).setCell ⟨B, 2, none⟩ c) B a b c := by
  obtain ⟨⟨h0, h1, h2, h3⟩, f0, f1, f2⟩ := h
  refine ⟨⟨?_, ?_, ?_, by simpa using h3⟩, by simp only [World.frozen?_setCell]; exact f0, by simp only [World.frozen?_setCell]; exact f1, by simp only [World.frozen?_setCell]; exact f2⟩
  · rw [World.cell?_setCell_other _ _ _ _ (by simp), World.cell?_setCell_other _ _ _ _ (by simp)]; exact World.cell?_setCell_same _ _ _ h0
  · rw [World.cell?_setCell_other _ _ _ _ (by simp)]; exact World.cell?_setCell_same _ _ _ (by rw [World.cell?_setCell_other _ _ _ _ (by simp)]; exact h1)
  · exact World.cell?_setCell_same _ _ _ (by rw [World.cell?_setCell_other _ _ _ _ (by simp), World.cell?_setCell_other _ _ _ _ (by simp)]; exact h2)

/-- Two cells handed back by a draw. -/
def DrawnTwo (c : Nat) (a : Option Addr) (len cap : Nat) (w : World) (e : Ending) (w' : World) : Prop :=
  ∃ (k1 n1 : Int) (t1 : ByteArray) (k2 n2 : Int) (t2 : ByteArray), e = .returned (.tuple #[.agg #[.int .i64 k1, .int .i64 n1, .string t1], .agg #[.int .i64 k2, .int .i64 n2, .string t2]]) ∧ t1.size ≤ maxLen ∧ t2.size ≤ maxLen ∧ Cur w' c a len cap ∧ Keep c w w'

end Go.Proofs.YthgbjnchhaoceaaDoor

/-
  The contracts of a drawn answer, of two drawn answers and of one drawn cell: of every code that is not too long.
-/
namespace Go.Proofs.YthgbjnchhaoceaaDoor
open Go.ChangeShapes Go.WideShapes Go.ChangeAt Go.RowKit
attribute [local go_sem ↓] Go.wp_at_zero Go.wp_at_succ

theorem keep9 {c : Nat} {w1 w2 : World} {v0 v1 v2 v3 v4 v5 v6 v7 v8 : Value} {T : TypeId} (hk : Keep c (w1.alloc (.cells #[v0, v1, v2, v3, v4, v5, v6, v7, v8] T)) w2) (hne : w1.heap.size ≠ c) :
    (w2.cell? ⟨w1.heap.size, 0, none⟩ = some v0 ∧ w2.cell? ⟨w1.heap.size, 1, none⟩ = some v1 ∧ w2.cell? ⟨w1.heap.size, 2, none⟩ = some v2) ∧
    (w2.cell? ⟨w1.heap.size, 3, none⟩ = some v3 ∧ w2.cell? ⟨w1.heap.size, 4, none⟩ = some v4 ∧ w2.cell? ⟨w1.heap.size, 5, none⟩ = some v5) ∧
    (w2.cell? ⟨w1.heap.size, 6, none⟩ = some v6 ∧ w2.cell? ⟨w1.heap.size, 7, none⟩ = some v7 ∧ w2.cell? ⟨w1.heap.size, 8, none⟩ = some v8) := by
  refine ⟨⟨?_, ?_, ?_⟩, ⟨?_, ?_, ?_⟩, ⟨?_, ?_, ?_⟩⟩
  all_goals (rw [hk.cell (by simp) hne]; simp [go_sem])

end Go.Proofs.YthgbjnchhaoceaaDoor

/-
  Lists of cells: how a slice of cells lies in memory, and the contract of the law's helper that measures one.
-/
namespace Go.Proofs.YthgbjnchhaoceaaDoor
open Go.ChangeShapes Go.WideShapes Go.ChangeAt Go.RowKit
attribute [local go_sem ↓] Go.wp_at_zero Go.wp_at_succ

/-- A cell: kind, number, text. -/
abbrev CT := Int × Int × ByteArray
/-- The cells of a slice lie where it says. -/
def RowAt (w : World) (a : Option Addr) (l : List CT) : Prop :=
  ∀ j (h : j < l.length), ∃ b o, a = some ⟨b, o, none⟩ ∧ b < w.heap.size ∧ w.cell? ⟨b, o + j * 3, none⟩ = some (.int .i64 l[j].1) ∧ w.cell? ⟨b, o + j * 3 + 1, none⟩ = some (.int .i64 l[j].2.1) ∧ w.cell? ⟨b, o + j * 3 + 2, none⟩ = some (.string l[j].2.2)
theorem RowAt.below {w w' : World} {a : Option Addr} {l : List CT} (h : RowAt w a l) (hb : Below w.heap.size w w') : RowAt w' a l := by
  intro j hj
  obtain ⟨b, o, ha, hlt, h0, h1, h2⟩ := h j hj
  refine ⟨b, o, ha, Nat.lt_of_lt_of_le hlt hb.size, ?_, ?_, ?_⟩
  · rw [hb.cell (p := ⟨b, _, none⟩) hlt]; exact h0
  · rw [hb.cell (p := ⟨b, _, none⟩) hlt]; exact h1
  · rw [hb.cell (p := ⟨b, _, none⟩) hlt]; exact h2
/-- No text is longer than a text can be. -/
def Fit (l : List CT) : Prop := ∀ j (h : j < l.length), (l[j]).2.2.size ≤ maxLen
/-- How many bytes the texts of a list have. -/
def weight (l : List CT) : Nat := (l.map (·.2.2.size)).sum
theorem weight_take (l : List CT) (k : Nat) (h : k < l.length) : weight (l.take (k + 1)) = weight (l.take k) + (l[k]).2.2.size := by
  unfold weight
  rw [List.take_succ_eq_append_getElem h, List.map_append, List.sum_append]; simp
theorem weight_le (l : List CT) (k : Nat) : weight (l.take k) ≤ weight l := by
  unfold weight
  conv => rhs; rw [← List.take_append_drop k l, List.map_append, List.sum_append]
  omega

end Go.Proofs.YthgbjnchhaoceaaDoor

/-
  Lists of cells in new memory: the contract of the law's helper that takes a list over.
-/
namespace Go.Proofs.YthgbjnchhaoceaaDoor
open Go.ChangeShapes Go.WideShapes Go.ChangeAt Go.RowKit
attribute [local go_sem ↓] Go.wp_at_zero Go.wp_at_succ

/-- The cells of a list, one behind the other. -/
def flat : List CT → List Value
  | [] => []
  | x :: l => .int .i64 x.1 :: .int .i64 x.2.1 :: .string x.2.2 :: flat l
theorem flat_length (l : List CT) : (flat l).length = l.length * 3 := by
  induction l with
  | nil => rfl
  | cons x l ih => simp only [flat, List.length_cons, ih]; omega
theorem flat_append (l m : List CT) : flat (l ++ m) = flat l ++ flat m := by
  induction l with
  | nil => rfl
  | cons x l ih => simp only [List.cons_append, flat, ih]
theorem flat_at (l : List CT) (j : Nat) (h : j < l.length) : (flat l)[j * 3]? = some (.int .i64 l[j].1) ∧ (flat l)[j * 3 + 1]? = some (.int .i64 l[j].2.1) ∧ (flat l)[j * 3 + 2]? = some (.string l[j].2.2) := by
  induction l generalizing j with
  | nil => simp at h
  | cons x l ih =>
    cases j with
    | zero => exact ⟨rfl, rfl, rfl⟩
    | succ j =>
      have := ih j (by simpa using h)
      have e0 : (j + 1) * 3 = j * 3 + 1 + 1 + 1 := by omega
      have e1 : (j + 1) * 3 + 1 = j * 3 + 1 + 1 + 1 + 1 := by omega
      have e2 : (j + 1) * 3 + 2 = j * 3 + 2 + 1 + 1 + 1 := by omega
      rw [e1, e2, e0]
      simpa only [flat, List.getElem?_cons_succ, List.getElem_cons_succ] using this

/-- Three cells of a row are written: one element more of the list. -/
theorem flat_step (l : List CT) (k : Nat) (h : k < l.length) (z : List Value) (hz : z.length = l.length * 3) :
    (((flat (l.take k) ++ z.drop (k * 3)).set (k * 3) (.int .i64 l[k].1)).set (k * 3 + 1) (.int .i64 l[k].2.1)).set (k * 3 + 2) (.string l[k].2.2) = flat (l.take (k + 1)) ++ z.drop ((k + 1) * 3) := by
  have hl : (flat (l.take k)).length = k * 3 := by rw [flat_length, List.length_take]; congr 1; omega
  obtain ⟨a, b, c, r, hr⟩ : ∃ a b c r, z.drop (k * 3) = a :: b :: c :: r := by
    have hd : (z.drop (k * 3)).length ≥ 3 := by rw [List.length_drop]; omega
    match hm : z.drop (k * 3), hd with
    | a :: b :: c :: r, _ => exact ⟨a, b, c, r, rfl⟩
  have hr3 : z.drop ((k + 1) * 3) = r := by
    rw [show (k + 1) * 3 = k * 3 + 3 by omega, ← List.drop_drop, hr]; rfl
  rw [List.take_succ_eq_append_getElem h, flat_append, hr, hr3]
  rw [List.set_append_right _ _ (by omega), List.set_append_right _ _ (by omega), List.set_append_right _ _ (by omega), hl]
  rw [show k * 3 - k * 3 = 0 by omega, show k * 3 + 1 - k * 3 = 1 by omega, show k * 3 + 2 - k * 3 = 2 by omega]
  simp [flat]

theorem own_below {w w' : World} {base : Nat} {e : TypeId} {size : Nat} {v : Value} {n : Nat} {xs : List Value} (h : w.ownsRow base e size v n xs) (hb : Below w.heap.size w w') : w'.ownsRow base e size v n xs := by
  refine ⟨h.1, ?_⟩
  rcases h.2 with h' | ⟨g, cap, cur, h', hbg, hg, hr⟩
  · exact .inl h'
  · refine .inr ⟨g, cap, cur, h', hbg, ?_, hr⟩
    have hlt : g < w.heap.size := by
      by_cases hl : g < w.heap.size
      · exact hl
      · rw [Array.getElem?_eq_none (by omega)] at hg; cases hg
    rw [hb.block g hlt]; exact hg

/-- What is owned lies there. -/
theorem own_row {w : World} {base g cap : Nat} {e : TypeId} {l : List CT} (h : w.ownsRow base e 3 (.slice (some ⟨g, 0, none⟩) l.length cap) l.length (flat l)) : RowAt w (some ⟨g, 0, none⟩) l := by
  have hlt : g < w.heap.size := by
    rcases h.2 with ⟨h', _⟩ | ⟨g', cap', cur, h', _, hg, _⟩
    · simp at h'
    · simp only [Value.slice.injEq, Option.some.injEq, Addr.mk.injEq, and_true, true_and] at h'
      obtain ⟨rfl, rfl⟩ := h'
      by_cases hl : g < w.heap.size
      · exact hl
      · rw [Array.getElem?_eq_none (by omega)] at hg; cases hg
  intro j hj
  obtain ⟨f0, f1, f2⟩ := flat_at l j hj
  refine ⟨g, 0, rfl, hlt, ?_, ?_, ?_⟩
  · rw [show 0 + j * 3 = j * 3 by omega, h.cellAt _ (by omega)]; exact f0
  · rw [show 0 + j * 3 + 1 = j * 3 + 1 by omega, h.cellAt _ (by omega)]; exact f1
  · rw [show 0 + j * 3 + 2 = j * 3 + 2 by omega, h.cellAt _ (by omega)]; exact f2

end Go.Proofs.YthgbjnchhaoceaaDoor

/-
  Lists of texts: how a slice of texts lies in memory, and the contracts of the law's helpers that measure one, take one over and hold two against each other.
-/
namespace Go.Proofs.YthgbjnchhaoceaaDoor
open Go.ChangeShapes Go.WideShapes Go.ChangeAt Go.RowKit
attribute [local go_sem ↓] Go.wp_at_zero Go.wp_at_succ

/-- The texts of a slice lie where it says. -/
def StrsAt (w : World) (a : Option Addr) (l : List ByteArray) : Prop :=
  ∀ j (h : j < l.length), ∃ b o, a = some ⟨b, o, none⟩ ∧ b < w.heap.size ∧ w.cell? ⟨b, o + j, none⟩ = some (.string l[j])
theorem StrsAt.below {w w' : World} {a : Option Addr} {l : List ByteArray} (h : StrsAt w a l) (hb : Below w.heap.size w w') : StrsAt w' a l := by
  intro j hj
  obtain ⟨b, o, ha, hlt, h0⟩ := h j hj
  exact ⟨b, o, ha, Nat.lt_of_lt_of_le hlt hb.size, by rw [hb.cell (p := ⟨b, _, none⟩) hlt]; exact h0⟩
def FitS (l : List ByteArray) : Prop := ∀ j (h : j < l.length), (l[j]).size ≤ maxLen
def weightS (l : List ByteArray) : Nat := (l.map (·.size)).sum
theorem weightS_take (l : List ByteArray) (k : Nat) (h : k < l.length) : weightS (l.take (k + 1)) = weightS (l.take k) + (l[k]).size := by
  unfold weightS
  rw [List.take_succ_eq_append_getElem h, List.map_append, List.sum_append]; simp
theorem weightS_le (l : List ByteArray) (k : Nat) : weightS (l.take k) ≤ weightS l := by
  unfold weightS
  conv => rhs; rw [← List.take_append_drop k l, List.map_append, List.sum_append]
  omega
def strV (l : List ByteArray) : List Value := l.map Value.string
theorem strV_length (l : List ByteArray) : (strV l).length = l.length := List.length_map _
theorem strV_step (l : List ByteArray) (k : Nat) (h : k < l.length) (z : List Value) (hz : z.length = l.length) :
    (strV (l.take k) ++ z.drop k).set k (.string l[k]) = strV (l.take (k + 1)) ++ z.drop (k + 1) := by
  have hl : (strV (l.take k)).length = k := by rw [strV_length, List.length_take]; omega
  obtain ⟨a, r, hr⟩ : ∃ a r, z.drop k = a :: r := by
    have hd : (z.drop k).length ≥ 1 := by rw [List.length_drop]; omega
    match hm : z.drop k, hd with
    | a :: r, _ => exact ⟨a, r, rfl⟩
  have hr1 : z.drop (k + 1) = r := by rw [← List.drop_drop, hr]; rfl
  rw [List.take_succ_eq_append_getElem h, hr, hr1]
  rw [List.set_append_right _ _ (by omega), hl, Nat.sub_self, List.set_cons_zero, show strV (l.take k ++ [l[k]]) = strV (l.take k) ++ [.string l[k]] from List.map_append, List.append_assoc]
  rfl
theorem own_strs {w : World} {base g cap : Nat} {e : TypeId} {l : List ByteArray} (h : w.ownsRow base e 1 (.slice (some ⟨g, 0, none⟩) l.length cap) l.length (strV l)) : StrsAt w (some ⟨g, 0, none⟩) l := by
  have hlt : g < w.heap.size := (h.lt g rfl).2
  intro j hj
  refine ⟨g, 0, rfl, hlt, ?_⟩
  rw [Nat.zero_add, h.cellAt _ (by omega)]
  unfold strV
  rw [List.getElem?_map, List.getElem?_eq_getElem hj]; rfl

end Go.Proofs.YthgbjnchhaoceaaDoor

/-
  Numerals without any program: what a list of digits spells, and that a numeral without noughts ahead is the one of what it spells.
-/
namespace Go.Proofs.YthgbjnchhaoceaaDoor

def isDig (c : UInt8) : Bool := decide (48 ≤ c.toNat) && decide (c.toNat ≤ 57)
/-- What digits spell behind acc. -/
def valFrom (acc : Nat) : List UInt8 → Nat
  | [] => acc
  | c :: r => valFrom (acc * 10 + (c.toNat - 48)) r
theorem valFrom_nil (acc : Nat) : valFrom acc [] = acc := rfl
theorem valFrom_one (acc : Nat) (c : UInt8) : valFrom acc [c] = acc * 10 + (c.toNat - 48) := rfl
theorem valFrom_append (l m : List UInt8) (acc : Nat) : valFrom acc (l ++ m) = valFrom (valFrom acc l) m := by
  induction l generalizing acc with
  | nil => rfl
  | cons c l ih => exact ih _
theorem valFrom_snoc (l : List UInt8) (c : UInt8) (acc : Nat) : valFrom acc (l ++ [c]) = valFrom acc l * 10 + (c.toNat - 48) := by rw [valFrom_append]; rfl
theorem valFrom_mono (l : List UInt8) (acc : Nat) : acc ≤ valFrom acc l := by
  induction l generalizing acc with
  | nil => exact Nat.le_refl _
  | cons c l ih => exact Nat.le_trans (by omega) (ih _)
theorem valFrom_lt (l : List UInt8) (acc : Nat) (h : ∀ c ∈ l, isDig c = true) : valFrom acc l < (acc + 1) * 10 ^ l.length := by
  induction l generalizing acc with
  | nil => rw [valFrom_nil, List.length_nil, Nat.pow_zero]; omega
  | cons c l ih =>
    have hc : isDig c = true := h c (by simp)
    unfold isDig at hc
    simp at hc
    have := ih (acc * 10 + (c.toNat - 48)) (fun x hx => h x (by simp [hx]))
    refine Nat.lt_of_lt_of_le this ?_
    rw [List.length_cons, Nat.pow_succ, Nat.mul_comm (10 ^ l.length) 10, ← Nat.mul_assoc]
    exact Nat.mul_le_mul_right (10 ^ l.length) (show acc * 10 + (c.toNat - 48) + 1 ≤ (acc + 1) * 10 by omega)
theorem dig_of (c : UInt8) (h : isDig c = true) : UInt8.ofNat (48 + (c.toNat - 48)) = c := by
  unfold isDig at h
  simp at h
  rw [show 48 + (c.toNat - 48) = c.toNat by omega]
  simp
theorem dig_toNat (u : Nat) (h : u < 10) : (UInt8.ofNat (48 + u)).toNat = 48 + u := by
  rw [UInt8.toNat_ofNat_of_lt']
  exact Nat.lt_of_lt_of_le (show 48 + u < 58 by omega) (by decide)
theorem isDig_of (u : Nat) (h : u < 10) : isDig (UInt8.ofNat (48 + u)) = true := by
  unfold isDig; rw [dig_toNat u h]; simp; omega
/-- No nought ahead, but for 0 itself. -/
def Plain (l : List UInt8) : Prop := l ≠ [] ∧ (∀ c ∈ l, isDig c = true) ∧ (l.head? = some 48 → l.length = 1)
theorem Plain.pos {l : List UInt8} (h : Plain l) (h1 : l.length ≠ 1) : 1 ≤ valFrom 0 l := by
  obtain ⟨h0, hd, hh⟩ := h
  cases l with
  | nil => exact absurd rfl h0
  | cons c r =>
    have hc := hd c (by simp)
    have : c ≠ 48 := fun e => h1 (hh (by simp [e]))
    have h48 : c.toNat ≠ 48 := fun e => this (UInt8.toNat_inj.1 (by simpa using e))
    unfold isDig at hc
    simp at hc
    exact Nat.le_trans (by omega) (valFrom_mono r _)
/-- A numeral without noughts ahead is that of what it spells. -/
theorem decDigits_val : ∀ (n : Nat) (l : List UInt8), l.length = n → Plain l → Lib.decDigits (valFrom 0 l) = l := by
  intro n
  induction n with
  | zero => intro l hl h; exact absurd (List.length_eq_zero_iff.1 hl) h.1
  | succ n ih =>
    intro l hl h
    rcases List.eq_nil_or_concat l with rfl | ⟨r, c, hr⟩
    · exact absurd rfl h.1
    · have hr : l = r ++ [c] := by rw [hr, List.concat_eq_append]
      subst hr
      have hc := h.2.1 c (by simp)
      have hc2 := hc
      unfold isDig at hc2
      simp at hc2
      rw [valFrom_snoc]
      cases r with
      | nil =>
        rw [valFrom_nil, show 0 * 10 + (c.toNat - 48) = c.toNat - 48 by omega, Lib.decDigits_one (by omega), dig_of c hc]
        rfl
      | cons d r =>
        have P : Plain (d :: r) := ⟨by simp, fun x hx => h.2.1 x (by simp at hx ⊢; rcases hx with h | h <;> simp [h]), fun e => by
          have := h.2.2 (by simpa using e)
          simp at this⟩
        have hne : d ≠ 48 := fun e => by
          have := h.2.2 (by simp [e])
          simp at this
        have hpos : 1 ≤ valFrom 0 (d :: r) := by
          by_cases h1 : (d :: r).length = 1
          · have : r = [] := by simpa using h1
            subst this
            have hd := P.2.1 d (by simp)
            unfold isDig at hd
            simp at hd
            have h48 : d.toNat ≠ 48 := fun e => hne (UInt8.toNat_inj.1 (by simpa using e))
            rw [valFrom_one]; omega
          · exact P.pos h1
        have hIH := ih (d :: r) (by simp at hl ⊢; omega) P
        rw [Lib.decDigits, dif_neg (by omega), show (valFrom 0 (d :: r) * 10 + (c.toNat - 48)) / 10 = valFrom 0 (d :: r) by omega, hIH,
          show (valFrom 0 (d :: r) * 10 + (c.toNat - 48)) % 10 = c.toNat - 48 by omega, dig_of c hc]
/-- A numeral spells its number, and has no nought ahead. -/
theorem decDigits_plain (u : Nat) : valFrom 0 (Lib.decDigits u) = u ∧ Plain (Lib.decDigits u) ∧ (Lib.decDigits u).head? ≠ none := by
  induction u using Nat.strongRecOn with
  | _ u ih =>
    by_cases h : u < 10
    · rw [Lib.decDigits_one h]
      refine ⟨?_, ⟨by simp, ?_, fun _ => rfl⟩, by simp⟩
      · rw [valFrom_one, dig_toNat u h]; omega
      · intro c hc; rw [List.mem_singleton] at hc; subst hc; exact isDig_of u h
    · obtain ⟨h1, h2, h3⟩ := ih (u / 10) (by omega)
      rw [Lib.decDigits, dif_neg h]
      have hm : u % 10 < 10 := by omega
      refine ⟨?_, ⟨by simp, ?_, ?_⟩, ?_⟩
      · rw [valFrom_snoc, h1, dig_toNat _ hm]; omega
      · intro c hc
        rcases List.mem_append.1 hc with h | h
        · exact h2.2.1 c h
        · rw [List.mem_singleton] at h; subst h; exact isDig_of _ hm
      · intro e
        exfalso
        cases hD : Lib.decDigits (u / 10) with
        | nil => exact h2.1 hD
        | cons d r =>
          rw [hD] at e h1 h2
          have e48 : d = 48 := by simpa using e
          have hl := h2.2.2 (by simp [e48])
          have : r = [] := by simpa using hl
          subst this
          rw [e48] at h1
          have : u / 10 = 0 := by rw [← h1]; rfl
          omega
      · simp
theorem decDigits_len (u : Nat) (h : u < 10000000000) : (Lib.decDigits u).length ≤ 10 := by
  rw [Lib.decDigits_length]
  have : ∀ (k v : Nat), v < 10 ^ (k + 1) → Lib.nDigits v ≤ k + 1 := by
    intro k
    induction k with
    | zero => intro v hv; rw [Lib.nDigits_small (by simpa using hv)]; omega
    | succ k ih =>
      intro v hv
      by_cases h10 : v < 10
      · rw [Lib.nDigits_small h10]; omega
      · rw [Lib.nDigits_big h10]
        have := ih (v / 10) (by rw [Nat.pow_succ] at hv; omega)
        omega
  exact this 9 u (by simpa using h)
/-- What ParseUint makes of digits that spell no more than a uint64 holds. -/
theorem parseUintM_val (l : List UInt8) (acc : Nat) (hd : ∀ c ∈ l, isDig c = true) (hv : valFrom acc l ≤ 18446744073709551615) : Lib.parseUintM 18446744073709551615 acc l = .ok (valFrom acc l) := by
  induction l generalizing acc with
  | nil => rfl
  | cons c r ih =>
    have hc := hd c (by simp)
    unfold isDig at hc
    simp at hc
    have hm := valFrom_mono r (acc * 10 + (c.toNat - 48))
    have hv' : valFrom (acc * 10 + (c.toNat - 48)) r ≤ 18446744073709551615 := hv
    rw [Lib.parseUintM, if_pos hc, if_neg (by omega), if_neg (by omega), ih _ (fun x hx => hd x (by simp [hx])) hv']
    rfl
theorem itoa_nonneg (n : Int) (h : 0 ≤ n) : Lib.itoa n = Lib.decDigits n.toNat := by unfold Lib.itoa; rw [if_neg (by omega)]
theorem itoa_neg (n : Int) (h : n < 0) : Lib.itoa n = 45 :: Lib.decDigits n.natAbs := by unfold Lib.itoa; rw [if_pos h]
/-- What is parsed of a numeral is its number. -/
theorem parse_itoa (n : Int) (h0 : -1000000000 ≤ n) (h1 : n ≤ 1000000000) : Lib.parseIntB 64 (Lib.itoa n) = .ok n := by
  have key : ∀ u : Nat, u ≤ 1000000000 → Lib.parseUintB 64 (Lib.decDigits u) = .ok u := by
    intro u hu
    obtain ⟨v, p, _⟩ := decDigits_plain u
    unfold Lib.parseUintB
    rw [if_neg p.1]
    have := parseUintM_val (Lib.decDigits u) 0 p.2.1 (by omega)
    rw [v] at this
    simpa using this
  by_cases hn : n < 0
  · rw [itoa_neg n hn]
    unfold Lib.parseIntB
    simp only []
    rw [if_pos (by decide), key n.natAbs (by omega)]
    simp only []
    rw [if_neg (by simp), if_neg (by simp; omega), if_pos (by decide)]
    congr 1; omega
  · rw [itoa_nonneg n (by omega)]
    obtain ⟨v, p, _⟩ := decDigits_plain n.toNat
    have k := key n.toNat (by omega)
    cases hD : Lib.decDigits n.toNat with
    | nil => exact absurd hD p.1
    | cons c r =>
      rw [hD] at k p
      have hc := p.2.1 c (by simp)
      unfold isDig at hc
      simp at hc
      unfold Lib.parseIntB
      simp only []
      rw [if_neg (by omega), k]
      simp only []
      rw [if_neg (by simp; omega), if_neg (by simp; omega), if_neg (by omega)]
      congr 1; omega

/-- What a numeral of at most ten digits, of just the form, spells. -/
def readMost (l : List UInt8) : Option Int :=
  let neg : Bool := decide (l.head? = some 45)
  let r := if neg = true then l.drop 1 else l
  if r.length < 1 ∨ 10 < r.length then none
  else if r.all isDig = true then
    if r.head? = some 48 ∧ (neg = true ∨ 1 < l.length) then none
    else some (if neg = true then -(valFrom 0 r : Int) else valFrom 0 r)
  else none
theorem readMost_itoa (n : Int) (h0 : -9999999999 ≤ n) (h1 : n ≤ 9999999999) : readMost (Lib.itoa n) = some n := by
  by_cases hn : n < 0
  · obtain ⟨v, p, _⟩ := decDigits_plain n.natAbs
    have hl := decDigits_len n.natAbs (by omega)
    have hp : (Lib.decDigits n.natAbs).length ≠ 0 := fun e => p.1 (List.length_eq_zero_iff.1 e)
    rw [itoa_neg n hn]
    unfold readMost
    simp only [List.head?_cons, decide_true, if_true, List.drop_succ_cons, List.drop_zero]
    rw [if_neg (by omega), if_pos (List.all_eq_true.2 p.2.1), if_neg, v]
    · congr 1; omega
    · rintro ⟨e, _⟩
      have h1 := p.2.2 e
      cases hD : Lib.decDigits n.natAbs with
      | nil => exact p.1 hD
      | cons c r =>
        rw [hD] at e h1 v
        have e' : c = 48 := by simpa using e
        have : r = [] := by simpa using h1
        subst this e'
        have : n.natAbs = 0 := by rw [← v]; rfl
        omega
  · obtain ⟨v, p, _⟩ := decDigits_plain n.toNat
    have hl := decDigits_len n.toNat (by omega)
    have hp : (Lib.decDigits n.toNat).length ≠ 0 := fun e => p.1 (List.length_eq_zero_iff.1 e)
    rw [itoa_nonneg n (by omega)]
    have hh : ¬ (Lib.decDigits n.toNat).head? = some 45 := by
      intro e
      cases hD : Lib.decDigits n.toNat with
      | nil => exact p.1 hD
      | cons c r =>
        rw [hD] at e p
        have e' : c = 45 := by simpa using e
        have := p.2.1 c (by simp)
        subst e'
        exact absurd this (by decide)
    unfold readMost
    simp only [hh, decide_false, Bool.false_eq_true, if_false, false_or]
    rw [if_neg (by omega), if_pos (List.all_eq_true.2 p.2.1), if_neg, v]
    · congr 1; omega
    · rintro ⟨e, h⟩
      have := p.2.2 e
      omega
theorem readMost_some {l : List UInt8} {n : Int} (h : readMost l = some n) : l = Lib.itoa n := by
  unfold readMost at h
  by_cases hh : l.head? = some 45
  · simp only [hh, decide_true, if_true] at h
    split at h
    · cases h
    · rename_i hlen
      split at h
      · rename_i hd
        split at h
        · cases h
        · rename_i h48
          injection h with h
          cases l with
          | nil => simp at hh
          | cons c r =>
            have e : c = 45 := by simpa using hh
            subst e
            simp only [List.drop_succ_cons, List.drop_zero] at *
            have P : Plain r := ⟨fun e => by subst e; simp at hlen, List.all_eq_true.1 hd, fun e => absurd ⟨e, .inl trivial⟩ h48⟩
            have hpos : 1 ≤ valFrom 0 r := by
              by_cases h1 : r.length = 1
              · cases r with
                | nil => exact absurd rfl P.1
                | cons d r =>
                  have : r = [] := by simpa using h1
                  subst this
                  have hd' := P.2.1 d (by simp)
                  unfold isDig at hd'
                  simp at hd'
                  have hne : d ≠ 48 := fun e => h48 ⟨by simp [e], .inl trivial⟩
                  have : d.toNat ≠ 48 := fun e => hne (UInt8.toNat_inj.1 (by simpa using e))
                  rw [valFrom_one]; omega
              · exact P.pos h1
            rw [itoa_neg n (by omega), show n.natAbs = valFrom 0 r by omega, decDigits_val _ r rfl P]
      · cases h
  · simp only [hh, decide_false, Bool.false_eq_true, if_false, false_or] at h
    split at h
    · cases h
    · rename_i hlen
      split at h
      · rename_i hd
        split at h
        · cases h
        · rename_i h48
          injection h with h
          have P : Plain l := ⟨fun e => by subst e; simp at hlen, List.all_eq_true.1 hd, fun e => by
            by_cases h1 : 1 < l.length
            · exact absurd ⟨e, h1⟩ h48
            · omega⟩
          rw [itoa_nonneg n (by omega), show n.toNat = valFrom 0 l by omega, decDigits_val _ l rfl P]
      · cases h
end Go.Proofs.YthgbjnchhaoceaaDoor
