/-
  The contract of a drawn cell that may be wrong.
-/
import Derived.Test.YtgeipficjfaocaaGreatDoorDraw3
namespace Go.Proofs.YtgeipficjfaocaaGreatDoor
open Go.ChangeShapes Go.WideShapes Go.ChangeAt Go.RowKit

theorem keepN {c : Nat} {w1 w2 : World} {v0 v1 v2 : Value} {T : TypeId} (hk : Keep c (w1.alloc (.cells #[v0, v1, v2] T)) w2) (hne : w1.heap.size ≠ c) :
    w2.cell? ⟨w1.heap.size, 0, none⟩ = some v0 ∧ w2.cell? ⟨w1.heap.size, 1, none⟩ = some v1 ∧ w2.cell? ⟨w1.heap.size, 2, none⟩ = some v2 := by
  refine ⟨?_, ?_, ?_⟩
  · rw [hk.cell (by simp) hne]; simp [go_sem]
  · rw [hk.cell (by simp) hne]; simp [go_sem]
  · rw [hk.cell (by simp) hne]; simp [go_sem]

set_option maxHeartbeats 4000000 in
theorem any_draw {w : World} {c : Nat} {a : Option Addr} {len cap : Nat} (h : Cur w c a len cap) :
    Calls Tryz.prog 23 #[.pointer (some ⟨c, 0, none⟩)] w fun e w' => DrawnCell c a len cap w e w' := by
  have hcw : c < w.heap.size := h.lt
  have hne : w.heap.size ≠ c := by omega
  have hcur : Hid (Cur w c a len cap) := h
  clear h
  go_enter Tryz.func23, Tryz.ntmps23
  go_wp2_with fail
  refine (cell_draw (hcur.out.alloc _)).mono ?_
  rintro e w1 ⟨k, n, t, rfl, ht, hc1, hk1⟩
  obtain ⟨⟨p1, q1, r1, s1⟩, ff1⟩ := new3 hk1 hne
  have hkw : Keep c w w1 := ((Keep.refl c w).alloc _).trans hk1
  have hwx : w.heap.size ≤ w1.heap.size := hkw.size
  have hcx : c < w1.heap.size := hc1.lt
  have hnx : w1.heap.size ≠ c := by omega
  have hxr : w1.heap.size ≠ w.heap.size := by omega
  have hrx : w.heap.size ≠ w1.heap.size := by omega
  clear hk1
  go_wp2_with fail
  refine (once_draw (hc1.alloc _) 10 (by omega) (by omega)).mono ?_
  rintro e w2 ⟨b, rfl, hc2, hk2⟩
  obtain ⟨⟨x2, y2, z2, t2⟩, fx2⟩ := new3 hk2 hnx
  obtain ⟨p2, q2, r2, s2⟩ := keep3 hk2 hne (old3 _ ⟨p1, q1, r1, s1⟩)
  have ff2 := keepF hk2 hne (by simp; omega) (oldF _ s1 ff1)
  have hkv : Keep c w w2 := (hkw.alloc _).trans hk2
  clear hk2 hkw hc1 ff1 p1 q1 r1 s1
  cases b
  · obtain ⟨f0, f1, f2⟩ := ff2
    go_wp2
    refine bodyPost_ret (v := .agg #[.int .i64 k, .int .i64 n, .string t]) (by simp [results, Tryz.results23, go_sem, p2, q2, r2]) rfl ⟨_, _, _, rfl, ht, ?_, ?_⟩
    · exact (((hc2.setAbove hcw _).setAbove hcw _).setAbove hcw _)
    · exact (((hkv.setCell (p := ⟨_, _, none⟩) (Or.inr (Nat.le_refl _)) _).setCell (p := ⟨_, _, none⟩) (Or.inr (Nat.le_refl _)) _).setCell (p := ⟨_, _, none⟩) (Or.inr (Nat.le_refl _)) _)
  go_wp2_with fail
  refine (below_draw hc2 3 (by omega) (by omega)).mono ?_
  rintro e w3 ⟨y, rfl, hy0, hy1, hc3, hk3⟩
  obtain ⟨x3, y3, z3, t3⟩ := keep3 hk3 hnx ⟨x2, y2, z2, t2⟩
  have fx3 := keepF hk3 hnx t2 fx2
  obtain ⟨p3, q3, r3, s3⟩ := keep3 hk3 hne ⟨p2, q2, r2, s2⟩
  have ff3 := keepF hk3 hne s2 ff2
  have hku : Keep c w w3 := hkv.trans hk3
  have hsz : w1.heap.size < w3.heap.size := t3
  have hn3 : w3.heap.size ≠ c := by omega
  clear hk3 hkv hc2 ff2 fx2 p2 q2 r2 s2 x2 y2 z2 t2
  rcases (show y = 0 ∨ y = 1 ∨ y = 2 by omega) with rfl | rfl | rfl
  · go_wp2_with fail
    refine (from_draw hc3).mono ?_
    rintro e w4 ⟨v, rfl, hc4, hk4⟩
    obtain ⟨x4, y4, z4, t4⟩ := keep3 hk4 hnx ⟨x3, y3, z3, t3⟩
    obtain ⟨e0, e1, e2⟩ := keepF hk4 hnx t3 fx3
    obtain ⟨p4, q4, r4, s4⟩ := keep3 hk4 hne ⟨p3, q3, r3, s3⟩
    obtain ⟨f0, f1, f2⟩ := keepF hk4 hne s3 ff3
    have hkt : Keep c w w4 := hku.trans hk4
    clear hk4
    go_wp2
    refine bodyPost_ret (v := .agg #[.int .i64 v, .int .i64 n, .string t]) (by simp [results, Tryz.results23, go_sem, p4, q4, r4]) rfl ⟨_, _, _, rfl, ht, ?_, ?_⟩
    · exact ((((hc4.setAbove hcx _).setAbove hcw _).setAbove hcw _).setAbove hcw _)
    · exact ((((hkt.setCell (p := ⟨_, _, none⟩) (Or.inr hwx) _).setCell (p := ⟨_, _, none⟩) (Or.inr (Nat.le_refl _)) _).setCell (p := ⟨_, _, none⟩) (Or.inr (Nat.le_refl _)) _).setCell (p := ⟨_, _, none⟩) (Or.inr (Nat.le_refl _)) _)
  · go_wp2_with fail
    refine (below_draw (hc3.alloc _) 4 (by omega) (by omega)).mono ?_
    rintro e w4 ⟨y, rfl, hy0, hy1, hc4, hk4⟩
    obtain ⟨g0, g1, g2, g3⟩ := keep4 hk4 hn3
    obtain ⟨x4, y4, z4, t4⟩ := keep3 hk4 hnx (old3 _ ⟨x3, y3, z3, t3⟩)
    obtain ⟨e0, e1, e2⟩ := keepF hk4 hnx (by simp; omega) (oldF _ t3 fx3)
    obtain ⟨p4, q4, r4, s4⟩ := keep3 hk4 hne (old3 _ ⟨p3, q3, r3, s3⟩)
    obtain ⟨f0, f1, f2⟩ := keepF hk4 hne (by simp; omega) (oldF _ s3 ff3)
    have hkt : Keep c w w4 := (hku.alloc _).trans hk4
    clear hk4
    rcases (show y = 0 ∨ y = 1 ∨ y = 2 ∨ y = 3 by omega) with rfl | rfl | rfl | rfl
    · go_wp2
      refine bodyPost_ret (v := .agg #[.int .i64 k, .int .i64 1000000001, .string t]) (by simp [results, Tryz.results23, go_sem, p4, q4, r4]) rfl ⟨_, _, _, rfl, ht, ?_, ?_⟩
      · exact ((((hc4.setAbove hcx _).setAbove hcw _).setAbove hcw _).setAbove hcw _)
      · exact ((((hkt.setCell (p := ⟨_, _, none⟩) (Or.inr hwx) _).setCell (p := ⟨_, _, none⟩) (Or.inr (Nat.le_refl _)) _).setCell (p := ⟨_, _, none⟩) (Or.inr (Nat.le_refl _)) _).setCell (p := ⟨_, _, none⟩) (Or.inr (Nat.le_refl _)) _)
    · go_wp2
      refine bodyPost_ret (v := .agg #[.int .i64 k, .int .i64 (-1000000001), .string t]) (by simp [results, Tryz.results23, go_sem, p4, q4, r4]) rfl ⟨_, _, _, rfl, ht, ?_, ?_⟩
      · exact ((((hc4.setAbove hcx _).setAbove hcw _).setAbove hcw _).setAbove hcw _)
      · exact ((((hkt.setCell (p := ⟨_, _, none⟩) (Or.inr hwx) _).setCell (p := ⟨_, _, none⟩) (Or.inr (Nat.le_refl _)) _).setCell (p := ⟨_, _, none⟩) (Or.inr (Nat.le_refl _)) _).setCell (p := ⟨_, _, none⟩) (Or.inr (Nat.le_refl _)) _)
    · go_wp2
      refine bodyPost_ret (v := .agg #[.int .i64 k, .int .i64 2, .string t]) (by simp [results, Tryz.results23, go_sem, p4, q4, r4]) rfl ⟨_, _, _, rfl, ht, ?_, ?_⟩
      · exact ((((hc4.setAbove hcx _).setAbove hcw _).setAbove hcw _).setAbove hcw _)
      · exact ((((hkt.setCell (p := ⟨_, _, none⟩) (Or.inr hwx) _).setCell (p := ⟨_, _, none⟩) (Or.inr (Nat.le_refl _)) _).setCell (p := ⟨_, _, none⟩) (Or.inr (Nat.le_refl _)) _).setCell (p := ⟨_, _, none⟩) (Or.inr (Nat.le_refl _)) _)
    · go_wp2
      refine bodyPost_ret (v := .agg #[.int .i64 k, .int .i64 4611686018427387904, .string t]) (by simp [results, Tryz.results23, go_sem, p4, q4, r4]) rfl ⟨_, _, _, rfl, ht, ?_, ?_⟩
      · exact ((((hc4.setAbove hcx _).setAbove hcw _).setAbove hcw _).setAbove hcw _)
      · exact ((((hkt.setCell (p := ⟨_, _, none⟩) (Or.inr hwx) _).setCell (p := ⟨_, _, none⟩) (Or.inr (Nat.le_refl _)) _).setCell (p := ⟨_, _, none⟩) (Or.inr (Nat.le_refl _)) _).setCell (p := ⟨_, _, none⟩) (Or.inr (Nat.le_refl _)) _)
  · go_wp2_with fail
    refine (below_draw (hc3.alloc _) 3 (by omega) (by omega)).mono ?_
    rintro e w4 ⟨y, rfl, hy0, hy1, hc4, hk4⟩
    obtain ⟨g0, g1, g2⟩ := keepN hk4 hn3
    obtain ⟨x4, y4, z4, t4⟩ := keep3 hk4 hnx (old3 _ ⟨x3, y3, z3, t3⟩)
    obtain ⟨e0, e1, e2⟩ := keepF hk4 hnx (by simp; omega) (oldF _ t3 fx3)
    obtain ⟨p4, q4, r4, s4⟩ := keep3 hk4 hne (old3 _ ⟨p3, q3, r3, s3⟩)
    obtain ⟨f0, f1, f2⟩ := keepF hk4 hne (by simp; omega) (oldF _ s3 ff3)
    have hkt : Keep c w w4 := (hku.alloc _).trans hk4
    clear hk4
    rcases (show y = 0 ∨ y = 1 ∨ y = 2 by omega) with rfl | rfl | rfl
    · go_wp2
      refine bodyPost_ret (v := .agg #[.int .i64 k, .int .i64 n, .string ⟨#[65]⟩]) (by simp [results, Tryz.results23, go_sem, p4, q4, r4]) rfl ⟨_, _, _, rfl, by decide, ?_, ?_⟩
      · exact ((((hc4.setAbove hcx _).setAbove hcw _).setAbove hcw _).setAbove hcw _)
      · exact ((((hkt.setCell (p := ⟨_, _, none⟩) (Or.inr hwx) _).setCell (p := ⟨_, _, none⟩) (Or.inr (Nat.le_refl _)) _).setCell (p := ⟨_, _, none⟩) (Or.inr (Nat.le_refl _)) _).setCell (p := ⟨_, _, none⟩) (Or.inr (Nat.le_refl _)) _)
    · go_wp2
      refine bodyPost_ret (v := .agg #[.int .i64 k, .int .i64 n, .string ⟨#[97, 98, 99, 100, 101, 102, 103, 104, 105, 106, 107, 108]⟩]) (by simp [results, Tryz.results23, go_sem, p4, q4, r4]) rfl ⟨_, _, _, rfl, by decide, ?_, ?_⟩
      · exact ((((hc4.setAbove hcx _).setAbove hcw _).setAbove hcw _).setAbove hcw _)
      · exact ((((hkt.setCell (p := ⟨_, _, none⟩) (Or.inr hwx) _).setCell (p := ⟨_, _, none⟩) (Or.inr (Nat.le_refl _)) _).setCell (p := ⟨_, _, none⟩) (Or.inr (Nat.le_refl _)) _).setCell (p := ⟨_, _, none⟩) (Or.inr (Nat.le_refl _)) _)
    · go_wp2
      refine bodyPost_ret (v := .agg #[.int .i64 k, .int .i64 n, .string ⟨#[97, 98, 99, 100, 101, 102, 103, 104, 105, 106, 107, 108, 109]⟩]) (by simp [results, Tryz.results23, go_sem, p4, q4, r4]) rfl ⟨_, _, _, rfl, by decide, ?_, ?_⟩
      · exact ((((hc4.setAbove hcx _).setAbove hcw _).setAbove hcw _).setAbove hcw _)
      · exact ((((hkt.setCell (p := ⟨_, _, none⟩) (Or.inr hwx) _).setCell (p := ⟨_, _, none⟩) (Or.inr (Nat.le_refl _)) _).setCell (p := ⟨_, _, none⟩) (Or.inr (Nat.le_refl _)) _).setCell (p := ⟨_, _, none⟩) (Or.inr (Nat.le_refl _)) _)

end Go.Proofs.YtgeipficjfaocaaGreatDoor
