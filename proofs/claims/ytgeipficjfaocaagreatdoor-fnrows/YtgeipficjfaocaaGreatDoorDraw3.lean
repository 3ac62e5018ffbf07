/-
  The contract of a drawn cell.
-/
import Derived.Test.YtgeipficjfaocaaGreatDoorDraw2
import Derived.Test.YtgeipficjfaocaaGreatDoorBase
namespace Go.Proofs.YtgeipficjfaocaaGreatDoor
open Go.ChangeShapes Go.WideShapes Go.ChangeAt Go.RowKit

/-- A cell handed back by a draw. -/
def DrawnCell (c : Nat) (a : Option Addr) (len cap : Nat) (w : World) (e : Ending) (w' : World) : Prop :=
  ∃ (k n : Int) (t : ByteArray), e = .returned (.agg #[.int .i64 k, .int .i64 n, .string t]) ∧ t.size ≤ maxLen ∧ Cur w' c a len cap ∧ Keep c w w'

theorem keep4 {c : Nat} {w1 w2 : World} {v0 v1 v2 v3 : Value} {T : TypeId} (hk : Keep c (w1.alloc (.cells #[v0, v1, v2, v3] T)) w2) (hne : w1.heap.size ≠ c) :
    w2.cell? ⟨w1.heap.size, 0, none⟩ = some v0 ∧ w2.cell? ⟨w1.heap.size, 1, none⟩ = some v1 ∧ w2.cell? ⟨w1.heap.size, 2, none⟩ = some v2 ∧ w2.cell? ⟨w1.heap.size, 3, none⟩ = some v3 := by
  refine ⟨?_, ?_, ?_, ?_⟩
  · rw [hk.cell (by simp) hne]; simp [go_sem]
  · rw [hk.cell (by simp) hne]; simp [go_sem]
  · rw [hk.cell (by simp) hne]; simp [go_sem]
  · rw [hk.cell (by simp) hne]; simp [go_sem]

theorem new3 {c : Nat} {w w1 : World} {x y z : Value} {T : TypeId} (hk : Keep c (w.alloc (.cells #[x, y, z] T)) w1) (hne : w.heap.size ≠ c) :
    (w1.cell? ⟨w.heap.size, 0, none⟩ = some x ∧ w1.cell? ⟨w.heap.size, 1, none⟩ = some y ∧ w1.cell? ⟨w.heap.size, 2, none⟩ = some z ∧ w.heap.size < w1.heap.size) ∧
    (w1.frozen? ⟨w.heap.size, 0, none⟩ = false ∧ w1.frozen? ⟨w.heap.size, 1, none⟩ = false ∧ w1.frozen? ⟨w.heap.size, 2, none⟩ = false) :=
  ⟨keep3 hk hne ⟨by simp [go_sem], by simp [go_sem], by simp [go_sem], by simp⟩, keepF hk hne (by simp) ⟨by simp [go_sem], by simp [go_sem], by simp [go_sem]⟩⟩

theorem old3 {w : World} {B : Nat} {x y z : Value} (o : Obj) (h : w.cell? ⟨B, 0, none⟩ = some x ∧ w.cell? ⟨B, 1, none⟩ = some y ∧ w.cell? ⟨B, 2, none⟩ = some z ∧ B < w.heap.size) :
    (w.alloc o).cell? ⟨B, 0, none⟩ = some x ∧ (w.alloc o).cell? ⟨B, 1, none⟩ = some y ∧ (w.alloc o).cell? ⟨B, 2, none⟩ = some z ∧ B < (w.alloc o).heap.size :=
  later3 ((Below.refl _ _).alloc (Nat.le_refl _) o) h
theorem oldF {w : World} {B : Nat} (o : Obj) (hB : B < w.heap.size) (h : w.frozen? ⟨B, 0, none⟩ = false ∧ w.frozen? ⟨B, 1, none⟩ = false ∧ w.frozen? ⟨B, 2, none⟩ = false) :
    (w.alloc o).frozen? ⟨B, 0, none⟩ = false ∧ (w.alloc o).frozen? ⟨B, 1, none⟩ = false ∧ (w.alloc o).frozen? ⟨B, 2, none⟩ = false :=
  frozen3 ((Below.refl _ _).alloc (Nat.le_refl _) o) hB h

set_option maxHeartbeats 2000000 in
theorem cell_draw {w : World} {c : Nat} {a : Option Addr} {len cap : Nat} (h : Cur w c a len cap) :
    Calls Tryz.prog 41 #[.pointer (some ⟨c, 0, none⟩)] w fun e w' => DrawnCell c a len cap w e w' := by
  have hcw : c < w.heap.size := h.lt
  have hne : w.heap.size ≠ c := by omega
  have hcur : Hid (Cur w c a len cap) := h
  clear h
  go_enter Tryz.func41, Tryz.ntmps41
  go_wp2_with fail
  refine (below_draw (hcur.out.alloc _) 8 (by omega) (by omega)).mono ?_
  rintro e w1 ⟨x, rfl, hx0, hx1, hc1, hk1⟩
  obtain ⟨⟨p1, q1, r1, s1⟩, ff1⟩ := new3 hk1 hne
  have hkw : Keep c w w1 := ((Keep.refl c w).alloc _).trans hk1
  have hne1 : w1.heap.size ≠ c := by have := hkw.size; omega
  clear hk1
  by_cases x0 : x = 0
  · subst x0
    obtain ⟨f0, f1, f2⟩ := ff1
    go_wp2
    refine bodyPost_ret (v := .agg #[.int .i64 0, .int .i64 0, .string ⟨#[]⟩]) (by simp [results, Tryz.results41, go_sem, p1, q1, r1]) rfl ⟨_, _, _, rfl, by decide, ?_, ?_⟩
    · exact ((hc1.setAbove hcw _).setAbove hcw _).setAbove hcw _
    · exact ((hkw.setCell (p := ⟨_, _, none⟩) (Or.inr (Nat.le_refl _)) _).setCell (p := ⟨_, _, none⟩) (Or.inr (Nat.le_refl _)) _).setCell (p := ⟨_, _, none⟩) (Or.inr (Nat.le_refl _)) _
  by_cases x1 : x = 1
  · subst x1
    go_wp2_with fail
    refine (below_draw (hc1.alloc _) 4 (by omega) (by omega)).mono ?_
    rintro e w2 ⟨y, rfl, hy0, hy1, hc2, hk2⟩
    obtain ⟨g0, g1, g2, g3⟩ := keep4 hk2 hne1
    obtain ⟨p2, q2, r2, s2⟩ := keep3 hk2 hne (old3 _ ⟨p1, q1, r1, s1⟩)
    obtain ⟨f0, f1, f2⟩ := keepF hk2 hne (by simp; omega) (oldF _ s1 ff1)
    have hkv : Keep c w w2 := (hkw.alloc _).trans hk2
    clear hk2 hkw hc1 ff1
    rcases (show y = 0 ∨ y = 1 ∨ y = 2 ∨ y = 3 by omega) with rfl | rfl | rfl | rfl
    · go_wp2
      refine bodyPost_ret (v := .agg #[.int .i64 2, .int .i64 0, .string ⟨#[]⟩]) (by simp [results, Tryz.results41, go_sem, p2, q2, r2]) rfl ⟨_, _, _, rfl, by decide, ?_, ?_⟩
      · exact ((hc2.setAbove hcw _).setAbove hcw _).setAbove hcw _
      · exact ((hkv.setCell (p := ⟨_, _, none⟩) (Or.inr (Nat.le_refl _)) _).setCell (p := ⟨_, _, none⟩) (Or.inr (Nat.le_refl _)) _).setCell (p := ⟨_, _, none⟩) (Or.inr (Nat.le_refl _)) _
    · go_wp2
      refine bodyPost_ret (v := .agg #[.int .i64 2, .int .i64 0, .string ⟨#[97, 98]⟩]) (by simp [results, Tryz.results41, go_sem, p2, q2, r2]) rfl ⟨_, _, _, rfl, by decide, ?_, ?_⟩
      · exact ((hc2.setAbove hcw _).setAbove hcw _).setAbove hcw _
      · exact ((hkv.setCell (p := ⟨_, _, none⟩) (Or.inr (Nat.le_refl _)) _).setCell (p := ⟨_, _, none⟩) (Or.inr (Nat.le_refl _)) _).setCell (p := ⟨_, _, none⟩) (Or.inr (Nat.le_refl _)) _
    · go_wp2
      refine bodyPost_ret (v := .agg #[.int .i64 2, .int .i64 0, .string ⟨#[98]⟩]) (by simp [results, Tryz.results41, go_sem, p2, q2, r2]) rfl ⟨_, _, _, rfl, by decide, ?_, ?_⟩
      · exact ((hc2.setAbove hcw _).setAbove hcw _).setAbove hcw _
      · exact ((hkv.setCell (p := ⟨_, _, none⟩) (Or.inr (Nat.le_refl _)) _).setCell (p := ⟨_, _, none⟩) (Or.inr (Nat.le_refl _)) _).setCell (p := ⟨_, _, none⟩) (Or.inr (Nat.le_refl _)) _
    · go_wp2
      refine bodyPost_ret (v := .agg #[.int .i64 2, .int .i64 0, .string ⟨#[104, 97, 121]⟩]) (by simp [results, Tryz.results41, go_sem, p2, q2, r2]) rfl ⟨_, _, _, rfl, by decide, ?_, ?_⟩
      · exact ((hc2.setAbove hcw _).setAbove hcw _).setAbove hcw _
      · exact ((hkv.setCell (p := ⟨_, _, none⟩) (Or.inr (Nat.le_refl _)) _).setCell (p := ⟨_, _, none⟩) (Or.inr (Nat.le_refl _)) _).setCell (p := ⟨_, _, none⟩) (Or.inr (Nat.le_refl _)) _
  by_cases x2 : x = 2
  · subst x2
    go_wp2_with fail
    refine (below_draw hc1 2 (by omega) (by omega)).mono ?_
    rintro e w2 ⟨y, rfl, hy0, hy1, hc2, hk2⟩
    obtain ⟨p2, q2, r2, s2⟩ := keep3 hk2 hne ⟨p1, q1, r1, s1⟩
    obtain ⟨f0, f1, f2⟩ := keepF hk2 hne s1 ff1
    have hkv : Keep c w w2 := hkw.trans hk2
    clear hk2 hkw hc1 ff1
    go_wp2
    refine bodyPost_ret (v := .agg #[.int .i64 3, .int .i64 y, .string ⟨#[]⟩]) (by simp [results, Tryz.results41, go_sem, p2, q2, r2]) rfl ⟨_, _, _, rfl, by decide, ?_, ?_⟩
    · exact ((hc2.setAbove hcw _).setAbove hcw _).setAbove hcw _
    · exact ((hkv.setCell (p := ⟨_, _, none⟩) (Or.inr (Nat.le_refl _)) _).setCell (p := ⟨_, _, none⟩) (Or.inr (Nat.le_refl _)) _).setCell (p := ⟨_, _, none⟩) (Or.inr (Nat.le_refl _)) _
  by_cases x3 : x = 3
  · subst x3
    go_wp2_with fail
    refine (below_draw (hc1.alloc _) 4 (by omega) (by omega)).mono ?_
    rintro e w2 ⟨y, rfl, hy0, hy1, hc2, hk2⟩
    obtain ⟨g0, g1, g2, g3⟩ := keep4 hk2 hne1
    obtain ⟨p2, q2, r2, s2⟩ := keep3 hk2 hne (old3 _ ⟨p1, q1, r1, s1⟩)
    obtain ⟨f0, f1, f2⟩ := keepF hk2 hne (by simp; omega) (oldF _ s1 ff1)
    have hkv : Keep c w w2 := (hkw.alloc _).trans hk2
    clear hk2 hkw hc1 ff1
    rcases (show y = 0 ∨ y = 1 ∨ y = 2 ∨ y = 3 by omega) with rfl | rfl | rfl | rfl
    · go_wp2
      refine bodyPost_ret (v := .agg #[.int .i64 1, .int .i64 0, .string ⟨#[]⟩]) (by simp [results, Tryz.results41, go_sem, p2, q2, r2]) rfl ⟨_, _, _, rfl, by decide, ?_, ?_⟩
      · exact ((hc2.setAbove hcw _).setAbove hcw _).setAbove hcw _
      · exact ((hkv.setCell (p := ⟨_, _, none⟩) (Or.inr (Nat.le_refl _)) _).setCell (p := ⟨_, _, none⟩) (Or.inr (Nat.le_refl _)) _).setCell (p := ⟨_, _, none⟩) (Or.inr (Nat.le_refl _)) _
    · go_wp2
      refine bodyPost_ret (v := .agg #[.int .i64 1, .int .i64 1000000000, .string ⟨#[]⟩]) (by simp [results, Tryz.results41, go_sem, p2, q2, r2]) rfl ⟨_, _, _, rfl, by decide, ?_, ?_⟩
      · exact ((hc2.setAbove hcw _).setAbove hcw _).setAbove hcw _
      · exact ((hkv.setCell (p := ⟨_, _, none⟩) (Or.inr (Nat.le_refl _)) _).setCell (p := ⟨_, _, none⟩) (Or.inr (Nat.le_refl _)) _).setCell (p := ⟨_, _, none⟩) (Or.inr (Nat.le_refl _)) _
    · go_wp2
      refine bodyPost_ret (v := .agg #[.int .i64 1, .int .i64 (-1000000000), .string ⟨#[]⟩]) (by simp [results, Tryz.results41, go_sem, p2, q2, r2]) rfl ⟨_, _, _, rfl, by decide, ?_, ?_⟩
      · exact ((hc2.setAbove hcw _).setAbove hcw _).setAbove hcw _
      · exact ((hkv.setCell (p := ⟨_, _, none⟩) (Or.inr (Nat.le_refl _)) _).setCell (p := ⟨_, _, none⟩) (Or.inr (Nat.le_refl _)) _).setCell (p := ⟨_, _, none⟩) (Or.inr (Nat.le_refl _)) _
    · go_wp2
      refine bodyPost_ret (v := .agg #[.int .i64 1, .int .i64 40000, .string ⟨#[]⟩]) (by simp [results, Tryz.results41, go_sem, p2, q2, r2]) rfl ⟨_, _, _, rfl, by decide, ?_, ?_⟩
      · exact ((hc2.setAbove hcw _).setAbove hcw _).setAbove hcw _
      · exact ((hkv.setCell (p := ⟨_, _, none⟩) (Or.inr (Nat.le_refl _)) _).setCell (p := ⟨_, _, none⟩) (Or.inr (Nat.le_refl _)) _).setCell (p := ⟨_, _, none⟩) (Or.inr (Nat.le_refl _)) _
  · go_wp2_with fail
    refine (below_draw hc1 12 (by omega) (by omega)).mono ?_
    rintro e w2 ⟨y, rfl, hy0, hy1, hc2, hk2⟩
    obtain ⟨p2, q2, r2, s2⟩ := keep3 hk2 hne ⟨p1, q1, r1, s1⟩
    obtain ⟨f0, f1, f2⟩ := keepF hk2 hne s1 ff1
    have hkv : Keep c w w2 := hkw.trans hk2
    clear hk2 hkw hc1 ff1
    go_wp2
    refine bodyPost_ret (v := .agg #[.int .i64 1, .int .i64 (y - 3), .string ⟨#[]⟩]) (by simp [results, Tryz.results41, go_sem, p2, q2, r2]) rfl ⟨_, _, _, rfl, by decide, ?_, ?_⟩
    · exact ((hc2.setAbove hcw _).setAbove hcw _).setAbove hcw _
    · exact ((hkv.setCell (p := ⟨_, _, none⟩) (Or.inr (Nat.le_refl _)) _).setCell (p := ⟨_, _, none⟩) (Or.inr (Nat.le_refl _)) _).setCell (p := ⟨_, _, none⟩) (Or.inr (Nat.le_refl _)) _

end Go.Proofs.YtgeipficjfaocaaGreatDoor
