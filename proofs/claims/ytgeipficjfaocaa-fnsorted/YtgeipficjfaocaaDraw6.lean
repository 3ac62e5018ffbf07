/-
  The contracts of a drawn answer, of two drawn answers and of one drawn cell: of every code that is not too long.
-/
import Derived.Test.YtgeipficjfaocaaDraw5
namespace Go.Proofs.Ytgeipficjfaocaa
open Go.ChangeShapes Go.WideShapes Go.ChangeAt Go.RowKit
attribute [local go_sem ↓] Go.wp_at_zero Go.wp_at_succ

theorem keep9 {c : Nat} {w1 w2 : World} {v0 v1 v2 v3 v4 v5 v6 v7 v8 : Value} {T : TypeId} (hk : Keep c (w1.alloc (.cells #[v0, v1, v2, v3, v4, v5, v6, v7, v8] T)) w2) (hne : w1.heap.size ≠ c) :
    (w2.cell? ⟨w1.heap.size, 0, none⟩ = some v0 ∧ w2.cell? ⟨w1.heap.size, 1, none⟩ = some v1 ∧ w2.cell? ⟨w1.heap.size, 2, none⟩ = some v2) ∧
    (w2.cell? ⟨w1.heap.size, 3, none⟩ = some v3 ∧ w2.cell? ⟨w1.heap.size, 4, none⟩ = some v4 ∧ w2.cell? ⟨w1.heap.size, 5, none⟩ = some v5) ∧
    (w2.cell? ⟨w1.heap.size, 6, none⟩ = some v6 ∧ w2.cell? ⟨w1.heap.size, 7, none⟩ = some v7 ∧ w2.cell? ⟨w1.heap.size, 8, none⟩ = some v8) := by
  refine ⟨⟨?_, ?_, ?_⟩, ⟨?_, ?_, ?_⟩, ⟨?_, ?_, ?_⟩⟩
  all_goals (rw [hk.cell (by simp) hne]; simp [go_sem])

set_option maxHeartbeats 2000000 in
theorem three_draw {w : World} {c : Nat} {a : Option Addr} {len cap : Nat} (h : Cur w c a len cap) :
    Calls Try.prog 60 #[.pointer (some ⟨c, 0, none⟩)] w fun e w' => DrawnCell c a len cap w e w' := by
  have hcw : c < w.heap.size := h.lt
  have hne : w.heap.size ≠ c := by omega
  have hcur : Hid (Cur w c a len cap) := h
  clear h
  go_enter Try.func60, Try.ntmps60
  go_wp2_with fail
  refine (once_draw (hcur.out.alloc _) 6 (by omega) (by omega)).mono ?_
  rintro e w1 ⟨b, rfl, hc1, hk1⟩
  obtain ⟨⟨p1, q1, r1, s1⟩, ff1⟩ := new3 hk1 hne
  have hkw : Keep c w w1 := ((Keep.refl c w).alloc _).trans hk1
  have hne1 : w1.heap.size ≠ c := by have := hkw.size; omega
  clear hk1
  cases b
  · go_wp2_with fail
    refine (below_draw (hc1.alloc _) 3 (by omega) (by omega)).mono ?_
    rintro e w2 ⟨y, rfl, hy0, hy1, hc2, hk2⟩
    obtain ⟨⟨g0, g1, g2⟩, ⟨g3, g4, g5⟩, g6, g7, g8⟩ := keep9 hk2 hne1
    obtain ⟨p2, q2, r2, s2⟩ := keep3 hk2 hne (old3 _ ⟨p1, q1, r1, s1⟩)
    obtain ⟨f0, f1, f2⟩ := keepF hk2 hne (by simp; omega) (oldF _ s1 ff1)
    have hkt : Keep c w w2 := (hkw.alloc _).trans hk2
    clear hk2
    rcases (show y = 0 ∨ y = 1 ∨ y = 2 by omega) with rfl | rfl | rfl
    · go_wp2
      refine bodyPost_ret (v := .agg #[.int .i64 0, .int .i64 0, .string ⟨#[]⟩]) (by simp [results, Try.results60, go_sem, p2, q2, r2]) rfl ⟨_, _, _, rfl, by decide, ?_, ?_⟩
      · exact (((hc2.setAbove hcw _).setAbove hcw _).setAbove hcw _)
      · exact (((hkt.setCell (p := ⟨_, _, none⟩) (Or.inr (Nat.le_refl _)) _).setCell (p := ⟨_, _, none⟩) (Or.inr (Nat.le_refl _)) _).setCell (p := ⟨_, _, none⟩) (Or.inr (Nat.le_refl _)) _)
    · go_wp2
      refine bodyPost_ret (v := .agg #[.int .i64 3, .int .i64 0, .string ⟨#[]⟩]) (by simp [results, Try.results60, go_sem, p2, q2, r2]) rfl ⟨_, _, _, rfl, by decide, ?_, ?_⟩
      · exact (((hc2.setAbove hcw _).setAbove hcw _).setAbove hcw _)
      · exact (((hkt.setCell (p := ⟨_, _, none⟩) (Or.inr (Nat.le_refl _)) _).setCell (p := ⟨_, _, none⟩) (Or.inr (Nat.le_refl _)) _).setCell (p := ⟨_, _, none⟩) (Or.inr (Nat.le_refl _)) _)
    · go_wp2
      refine bodyPost_ret (v := .agg #[.int .i64 3, .int .i64 1, .string ⟨#[]⟩]) (by simp [results, Try.results60, go_sem, p2, q2, r2]) rfl ⟨_, _, _, rfl, by decide, ?_, ?_⟩
      · exact (((hc2.setAbove hcw _).setAbove hcw _).setAbove hcw _)
      · exact (((hkt.setCell (p := ⟨_, _, none⟩) (Or.inr (Nat.le_refl _)) _).setCell (p := ⟨_, _, none⟩) (Or.inr (Nat.le_refl _)) _).setCell (p := ⟨_, _, none⟩) (Or.inr (Nat.le_refl _)) _)
  · go_wp2_with fail
    refine (any_draw hc1).mono ?_
    rintro e w2 ⟨k, n, t, rfl, ht, hc2, hk2⟩
    obtain ⟨p2, q2, r2, s2⟩ := keep3 hk2 hne ⟨p1, q1, r1, s1⟩
    obtain ⟨f0, f1, f2⟩ := keepF hk2 hne s1 ff1
    have hkt : Keep c w w2 := hkw.trans hk2
    clear hk2
    go_wp2
    refine bodyPost_ret (v := .agg #[.int .i64 k, .int .i64 n, .string t]) (by simp [results, Try.results60, go_sem, p2, q2, r2]) rfl ⟨_, _, _, rfl, ht, ?_, ?_⟩
    · exact (((hc2.setAbove hcw _).setAbove hcw _).setAbove hcw _)
    · exact (((hkt.setCell (p := ⟨_, _, none⟩) (Or.inr (Nat.le_refl _)) _).setCell (p := ⟨_, _, none⟩) (Or.inr (Nat.le_refl _)) _).setCell (p := ⟨_, _, none⟩) (Or.inr (Nat.le_refl _)) _)

set_option maxHeartbeats 1000000 in
theorem cellok_draw {w : World} {a : Option Addr} {len cap : Nat} (hlen : len ≤ 4096)
    (row : ∀ j, j < len → ∃ (rb ro : Nat) (v : Int), a = some ⟨rb, ro, none⟩ ∧ rb < w.heap.size ∧ w.cell? ⟨rb, ro + j, none⟩ = some (.int .u8 v) ∧ 0 ≤ v ∧ v ≤ 255) :
    Calls Try.prog 66 #[.slice a len cap] w fun e w' => ∃ (k n : Int) (t : ByteArray), e = .returned (.agg #[.int .i64 k, .int .i64 n, .string t]) ∧ t.size ≤ maxLen ∧ Below w.heap.size w w' := by
  have hR : Hid (∀ j, j < len → ∃ (rb ro : Nat) (v : Int), a = some ⟨rb, ro, none⟩ ∧ rb < w.heap.size ∧ w.cell? ⟨rb, ro + j, none⟩ = some (.int .u8 v) ∧ 0 ≤ v ∧ v ≤ 255) := row
  clear row
  go_enter Try.func66, Try.ntmps66
  go_wp2_with fail
  refine (new_draw hlen ?_).mono ?_
  · intro j hj
    obtain ⟨rb, ro, v, ha, hrb, hcell, hv⟩ := hR.out j hj
    exact ⟨rb, ro, v, ha, by simp; omega, by rw [World.cell?_alloc_lt _ _ _ hrb]; exact hcell, hv⟩
  rintro e w1 ⟨c, rfl, hcs, hc1, hb1⟩
  have hcs' : w.heap.size < c := by simp at hcs; omega
  have hn0 : w.heap.size ≠ c := by omega
  obtain ⟨A1, F1⟩ := box3F hb1
  have hbw : Hid (Below w.heap.size w w1) := chainA hb1
  clear hb1 hcs
  go_wp2_with fail
  refine (any_draw hc1).mono ?_
  rintro e w2 ⟨k, n, t, rfl, ht, hc2, hk2⟩
  have hx : Below w.heap.size w w2 := hbw.out.trans (hk2.below (by omega) hbw.out.size)
  obtain ⟨p0, p1, p2, p3⟩ := keep3 hk2 hn0 A1
  obtain ⟨f0, f1, f2⟩ := keepF hk2 hn0 A1.2.2.2 F1
  have hxs := hx.size
  clear hk2 hc2 hbw hc1 A1 F1
  go_wp2
  exact bodyPost_ret (v := .agg #[.int .i64 k, .int .i64 n, .string t]) (by simp [results, Try.results66, go_sem, p0, p1, p2]) rfl ⟨k, n, t, rfl, ht, by go_grown⟩

theorem none_draw {w : World} {a : Option Addr} {len cap : Nat} (hlen : len ≤ 4096)
    (row : ∀ j, j < len → ∃ (rb ro : Nat) (v : Int), a = some ⟨rb, ro, none⟩ ∧ rb < w.heap.size ∧ w.cell? ⟨rb, ro + j, none⟩ = some (.int .u8 v) ∧ 0 ≤ v ∧ v ≤ 255) :
    Calls Try.prog 23 #[.slice a len cap] w fun e w' => ∃ (k n : Int) (t : ByteArray), e = .returned (.agg #[.int .i64 k, .int .i64 n, .string t]) ∧ t.size ≤ maxLen ∧ Below w.heap.size w w' := by
  have hR : Hid (∀ j, j < len → ∃ (rb ro : Nat) (v : Int), a = some ⟨rb, ro, none⟩ ∧ rb < w.heap.size ∧ w.cell? ⟨rb, ro + j, none⟩ = some (.int .u8 v) ∧ 0 ≤ v ∧ v ≤ 255) := row
  clear row
  go_enter Try.func23, Try.ntmps23
  go_wp2_with fail
  refine (cellok_draw hlen ?_).mono ?_
  · intro j hj
    obtain ⟨rb, ro, v, ha, hrb, hcell, hv⟩ := hR.out j hj
    exact ⟨rb, ro, v, ha, by simp; omega, by rw [World.cell?_alloc_lt _ _ _ hrb]; exact hcell, hv⟩
  rintro e w1 ⟨k, n, t, rfl, ht, hb1⟩
  obtain ⟨⟨p0, p1, p2, p3⟩, f0, f1, f2⟩ := box3F hb1
  have hx := chainA hb1
  have hxs := hx.size
  go_wp2
  exact bodyPost_ret (v := .agg #[.int .i64 k, .int .i64 n, .string t]) (by simp [results, Try.results23, go_sem, p0, p1, p2]) rfl ⟨k, n, t, rfl, ht, by go_grown⟩

theorem Keep.undrew {c : Nat} {w w' : World} (h : Keep c w.drew w') : Keep c w w' := (Keep.refl c w).drew.trans h

set_option maxHeartbeats 2000000 in
theorem both_draw {w : World} {a : Option Addr} {len cap : Nat} (hlen : len ≤ 4096)
    (row : ∀ j, j < len → ∃ (rb ro : Nat) (v : Int), a = some ⟨rb, ro, none⟩ ∧ rb < w.heap.size ∧ w.cell? ⟨rb, ro + j, none⟩ = some (.int .u8 v) ∧ 0 ≤ v ∧ v ≤ 255) :
    Calls Try.prog 19 #[.slice a len cap] w fun e w' => ∃ (k1 n1 : Int) (t1 : ByteArray) (k2 n2 : Int) (t2 : ByteArray), e = .returned (.tuple #[.agg #[.int .i64 k1, .int .i64 n1, .string t1], .agg #[.int .i64 k2, .int .i64 n2, .string t2]]) ∧ t1.size ≤ maxLen ∧ t2.size ≤ maxLen ∧ Below w.heap.size w w' := by
  have hR : Hid (∀ j, j < len → ∃ (rb ro : Nat) (v : Int), a = some ⟨rb, ro, none⟩ ∧ rb < w.heap.size ∧ w.cell? ⟨rb, ro + j, none⟩ = some (.int .u8 v) ∧ 0 ≤ v ∧ v ≤ 255) := row
  clear row
  have HR2 : Hid (Has3 ((w.alloc (.cells #[.int .i64 0, .int .i64 0, .string ⟨#[]⟩] 25)).alloc (.cells #[.int .i64 0, .int .i64 0, .string ⟨#[]⟩] 25)) w.heap.size (.int .i64 0) (.int .i64 0) (.string ⟨#[]⟩)) := (Has3.new w _ _ _ _).alloc _
  have HR3 : Hid (Has3 ((w.alloc (.cells #[.int .i64 0, .int .i64 0, .string ⟨#[]⟩] 25)).alloc (.cells #[.int .i64 0, .int .i64 0, .string ⟨#[]⟩] 25)) (w.heap.size + 1) (.int .i64 0) (.int .i64 0) (.string ⟨#[]⟩)) := by
    have := Has3.new (w.alloc (.cells #[.int .i64 0, .int .i64 0, .string ⟨#[]⟩] 25)) (.int .i64 0) (.int .i64 0) (.string ⟨#[]⟩) 25
    simp only [World.size_alloc] at this
    exact this
  have hd6 : w.heap.size + 1 ≠ w.heap.size := by omega
  go_enter Try.func19, Try.ntmps19
  go_wp2_with fail
  refine (new_draw hlen ?_).mono ?_
  · intro j hj
    obtain ⟨rb, ro, v, ha, hrb, hcell, hv⟩ := hR.out j hj
    exact ⟨rb, ro, v, ha, by simp; omega, by rw [World.cell?_alloc_lt _ _ _ (by simp; omega), World.cell?_alloc_lt _ _ _ hrb]; exact hcell, hv⟩
  rintro e w1 ⟨c, rfl, hcs, hc1, hb1⟩
  have hcs' : w.heap.size + 1 < c := by simp at hcs; omega
  have hn0 : w.heap.size ≠ c := by omega
  have hn1 : w.heap.size + 1 ≠ c := by omega
  have S2 : Hid (Has3 w1 w.heap.size (.int .i64 0) (.int .i64 0) (.string ⟨#[]⟩)) := Has3.keep HR2.out (Keep.ofBelow (c := c) hb1) hn0
  have S3 : Hid (Has3 w1 (w.heap.size + 1) (.int .i64 0) (.int .i64 0) (.string ⟨#[]⟩)) := Has3.keep HR3.out (Keep.ofBelow (c := c) hb1) hn1
  have hbw : Hid (Below w.heap.size w w1) := chainAA hb1
  clear HR2 HR3 hb1 hcs
  go_wp2_with fail
  refine (three_draw hc1).mono ?_
  rintro e w2 ⟨k1, n1, t1, rfl, ht1, hc2, hk2⟩
  replace hbw : Hid (Below w.heap.size w w2) := hbw.out.trans (hk2.below (by omega) hbw.out.size)
  replace S2 : Hid (Has3 w2 w.heap.size (.int .i64 0) (.int .i64 0) (.string ⟨#[]⟩)) := Has3.keep S2.out hk2 hn0
  replace S3 : Hid (Has3 w2 (w.heap.size + 1) (.int .i64 0) (.int .i64 0) (.string ⟨#[]⟩)) := Has3.keep S3.out hk2 hn1
  have hcx : c < w2.heap.size := hc2.lt
  have hnx : w2.heap.size ≠ c := by omega
  have hC2 : Hid (Cur w2 c a len cap) := hc2
  clear hk2 hc1 hc2
  go_wp2_with fail
  first
    | go_region_with
        (go_at_call 60
         refine (three_draw (hC2.out.alloc _).drew).mono ?_
         rintro e w3 ⟨k2, n2, t2, rfl, ht2, hc3, hk3⟩
         obtain ⟨⟨g0, g1, g2, g3⟩, _⟩ := new3 hk3.undrew hnx
         obtain ⟨⟨p0, p1, p2, p3⟩, p4, p5, p6⟩ := Has3.keep (S2.out.alloc _) hk3.undrew hn0
         obtain ⟨⟨q0, q1, q2, q3⟩, q4, q5, q6⟩ := Has3.keep (S3.out.alloc _) hk3.undrew hn1
         have hx : Below w.heap.size w w3 := hbw.out.trans ((((Below.refl _ _).alloc (by have := hbw.out.size; omega) _)).trans (hk3.undrew.below (by omega) (by have := hbw.out.size; simp; omega)))
         have hxs := hx.size)
    | fail
  all_goals
    go_wp2
    exact bodyPost_ret (v := .tuple #[.agg #[.int .i64 k1, .int .i64 n1, .string t1], .agg #[.int .i64 k2, .int .i64 n2, .string t2]]) (by simp [results, Try.results19, go_sem, p0, p1, p2, q0, q1, q2]) rfl ⟨k1, n1, t1, k2, n2, t2, rfl, ht1, ht2, by go_grown⟩

end Go.Proofs.Ytgeipficjfaocaa
