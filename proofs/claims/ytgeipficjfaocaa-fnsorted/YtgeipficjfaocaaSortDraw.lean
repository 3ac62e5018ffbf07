/-
  The contract of the model's draw of rows, a place and a direction.
-/
import Derived.Test.YtgeipficjfaocaaRowsDraw
namespace Go.Proofs.Ytgeipficjfaocaa
open Go.ChangeShapes Go.WideShapes Go.ChangeAt Go.RowKit
attribute [local go_sem ↓] Go.wp_at_zero Go.wp_at_succ

set_option maxRecDepth 100000 in
set_option maxHeartbeats 2000000 in
theorem sorted_draw {w : World} {a : Option Addr} {len cap : Nat} (hlen : len ≤ 4096)
    (row : ∀ j, j < len → ∃ (rb ro : Nat) (v : Int), a = some ⟨rb, ro, none⟩ ∧ rb < w.heap.size ∧ w.cell? ⟨rb, ro + j, none⟩ = some (.int .u8 v) ∧ 0 ≤ v ∧ v ≤ 255) :
    Calls Try.prog 42 #[.slice a len cap] w fun e w' => ∃ v L G C at_ down base, e = .returned (.tuple #[v, .int .i64 at_, .bool down]) ∧ v ≠ .slice none 0 0 ∧ OwnRows w' base v L G C ∧ Drawn L 7 ∧ w.heap.size ≤ base ∧ Below w.heap.size w w' := by
  have hR : Hid (∀ j, j < len → ∃ (rb ro : Nat) (v : Int), a = some ⟨rb, ro, none⟩ ∧ rb < w.heap.size ∧ w.cell? ⟨rb, ro + j, none⟩ = some (.int .u8 v) ∧ 0 ≤ v ∧ v ≤ 255) := row
  clear row
  go_enter Try.func42, Try.ntmps42
  go_wp2_with fail
  refine (new_draw hlen hR.out).mono ?_
  rintro e w1 ⟨c, rfl, hcs, hc1, hb1⟩
  have C1 : Hid (Cur w1 c a len cap) := hc1
  have hcw1 := hc1.lt
  clear hc1
  go_wp2_with fail
  refine (rows_draw C1.out).mono ?_
  rintro e w2 ⟨v, L, G, C, rfl, hv, O2, D, hc2, hk2⟩
  have OO : Hid (OwnRows w2 w1.heap.size v L G C) := O2
  have C2 : Hid (Cur w2 c a len cap) := hc2
  clear O2 hc2 C1
  go_wp2_with fail
  refine (below_draw C2.out 2 (by omega) (by omega)).mono ?_
  rintro e w3 ⟨x, rfl, hx0, hx1, hc3, hk3⟩
  have O3 : Hid (OwnRows w3 w1.heap.size v L G C) := OO.out.keep hk3 hcw1
  have C3 : Hid (Cur w3 c a len cap) := hc3
  have hk13 := hk2.trans hk3
  clear OO C2 hc3 hk2 hk3
  go_wp2_with fail
  refine (once_draw C3.out 10 (by omega) (by omega)).mono ?_
  rintro e w4 ⟨bb, rfl, hc4, hk4⟩
  have O4 : Hid (OwnRows w4 w1.heap.size v L G C) := O3.out.keep hk4 hcw1
  have C4 : Hid (Cur w4 c a len cap) := hc4
  have hk14 := hk13.trans hk4
  clear O3 C3 hc4 hk13 hk4
  have toW : Hid (∀ w', Keep c w1 w' → Below w.heap.size w w') := by
    have h0 : ∀ w', Keep c w1 w' → Below w.heap.size w w' := fun w' hk => hb1.trans (hk.below hcs hb1.size)
    exact h0
  have hDD : Hid (Drawn L 7) := D
  have hbs := hb1.size
  clear D hb1
  cases bb
  · go_wp2_with fail
    refine (once_draw C4.out 2 (by omega) (by omega)).mono ?_
    rintro e w5 ⟨dn, rfl, hc5, hk5⟩
    have O5 : Hid (OwnRows w5 w1.heap.size v L G C) := O4.out.keep hk5 hcw1
    have hx := toW.out _ (hk14.trans hk5)
    clear O4 C4 hc5 hk14 hk5
    go_wp2
    exact bodyPost_ret (v := .tuple #[v, .int .i64 x, .bool dn]) (by simp [results, Try.results42, go_sem]) rfl ⟨v, L, G, C, x, dn, w1.heap.size, rfl, hv, O5.out, hDD.out, hbs, hx⟩
  · go_wp2_with fail
    refine (from_draw C4.out).mono ?_
    rintro e w5 ⟨x2, rfl, hc5, hk5⟩
    have O5 : Hid (OwnRows w5 w1.heap.size v L G C) := O4.out.keep hk5 hcw1
    have C5 : Hid (Cur w5 c a len cap) := hc5
    have hk15 := hk14.trans hk5
    clear O4 C4 hc5 hk14 hk5
    go_wp2_with fail
    refine (once_draw C5.out 2 (by omega) (by omega)).mono ?_
    rintro e w6 ⟨dn, rfl, hc6, hk6⟩
    have O6 : Hid (OwnRows w6 w1.heap.size v L G C) := O5.out.keep hk6 hcw1
    have hx := toW.out _ (hk15.trans hk6)
    clear O5 C5 hc6 hk15 hk6
    go_wp2
    exact bodyPost_ret (v := .tuple #[v, .int .i64 x2, .bool dn]) (by simp [results, Try.results42, go_sem]) rfl ⟨v, L, G, C, x2, dn, w1.heap.size, rfl, hv, O6.out, hDD.out, hbs, hx⟩

end Go.Proofs.Ytgeipficjfaocaa
