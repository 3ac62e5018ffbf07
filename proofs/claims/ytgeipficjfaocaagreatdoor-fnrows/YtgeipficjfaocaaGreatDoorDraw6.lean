/-
  The contracts of a drawn answer, of two drawn answers and of one drawn cell: of every code that is not too long.
-/
import Derived.Test.YtgeipficjfaocaaGreatDoorDraw5
namespace Go.Proofs.YtgeipficjfaocaaGreatDoor
open Go.ChangeShapes Go.WideShapes Go.ChangeAt Go.RowKit
attribute [local go_sem ↓] Go.wp_at_zero Go.wp_at_succ

theorem keep9 {c : Nat} {w1 w2 : World} {v0 v1 v2 v3 v4 v5 v6 v7 v8 : Value} {T : TypeId} (hk : Keep c (w1.alloc (.cells #[v0, v1, v2, v3, v4, v5, v6, v7, v8] T)) w2) (hne : w1.heap.size ≠ c) :
    (w2.cell? ⟨w1.heap.size, 0, none⟩ = some v0 ∧ w2.cell? ⟨w1.heap.size, 1, none⟩ = some v1 ∧ w2.cell? ⟨w1.heap.size, 2, none⟩ = some v2) ∧
    (w2.cell? ⟨w1.heap.size, 3, none⟩ = some v3 ∧ w2.cell? ⟨w1.heap.size, 4, none⟩ = some v4 ∧ w2.cell? ⟨w1.heap.size, 5, none⟩ = some v5) ∧
    (w2.cell? ⟨w1.heap.size, 6, none⟩ = some v6 ∧ w2.cell? ⟨w1.heap.size, 7, none⟩ = some v7 ∧ w2.cell? ⟨w1.heap.size, 8, none⟩ = some v8) := by
  refine ⟨⟨?_, ?_, ?_⟩, ⟨?_, ?_, ?_⟩, ⟨?_, ?_, ?_⟩⟩
  all_goals (rw [hk.cell (by simp) hne]; simp [go_sem])

set_option maxHeartbeats 1000000 in
theorem cellok_draw {w : World} {a : Option Addr} {len cap : Nat} (hlen : len ≤ 4096)
    (row : ∀ j, j < len → ∃ (rb ro : Nat) (v : Int), a = some ⟨rb, ro, none⟩ ∧ rb < w.heap.size ∧ w.cell? ⟨rb, ro + j, none⟩ = some (.int .u8 v) ∧ 0 ≤ v ∧ v ≤ 255) :
    Calls Tryz.prog 29 #[.slice a len cap] w fun e w' => ∃ (k n : Int) (t : ByteArray), e = .returned (.agg #[.int .i64 k, .int .i64 n, .string t]) ∧ t.size ≤ maxLen ∧ Below w.heap.size w w' := by
  have hR : Hid (∀ j, j < len → ∃ (rb ro : Nat) (v : Int), a = some ⟨rb, ro, none⟩ ∧ rb < w.heap.size ∧ w.cell? ⟨rb, ro + j, none⟩ = some (.int .u8 v) ∧ 0 ≤ v ∧ v ≤ 255) := row
  clear row
  go_enter Tryz.func29, Tryz.ntmps29
  go_wp2_with fail
  refine (new_draw hlen ?_).mono ?_
  · intro j hj
    obtain ⟨rb, ro, v, ha, hrb, hcell, hv⟩ := hR.out j hj
    exact ⟨rb, ro, v, ha, by simp; omega, by rw [World.cell?_alloc_lt _ _ _ hrb]; exact hcell, hv⟩
  rintro e w1 ⟨c, rfl, hcs, hc1, hb1⟩
  have hcs' : w.heap.size < c := by simp at hcs; omega
  have hn0 : w.heap.size ≠ c := by omega
  obtain ⟨A1, F1⟩ := box3F hb1
  have hbw : Hid (Below w.heap.size w w1) := chainA hb1
  clear hb1 hcs
  go_wp2_with fail
  refine (any_draw hc1).mono ?_
  rintro e w2 ⟨k, n, t, rfl, ht, hc2, hk2⟩
  have hx : Below w.heap.size w w2 := hbw.out.trans (hk2.below (by omega) hbw.out.size)
  obtain ⟨p0, p1, p2, p3⟩ := keep3 hk2 hn0 A1
  obtain ⟨f0, f1, f2⟩ := keepF hk2 hn0 A1.2.2.2 F1
  have hxs := hx.size
  clear hk2 hc2 hbw hc1 A1 F1
  go_wp2
  exact bodyPost_ret (v := .agg #[.int .i64 k, .int .i64 n, .string t]) (by simp [results, Tryz.results29, go_sem, p0, p1, p2]) rfl ⟨k, n, t, rfl, ht, by go_grown⟩

end Go.Proofs.YtgeipficjfaocaaGreatDoor
