/-
  The contracts of the model's draws of a cell's text, of a row's text, of a row and of a cell: the texts are short, and nothing that was there is changed.
-/
import Derived.Test.YtgeipficjfaocaaGreatDoorBend
import Derived.Test.YtgeipficjfaocaaGreatDoorDraw6
import Derived.Test.YtgeipficjfaocaaGreatDoorRowS
import Derived.Test.YtgeipficjfaocaaGreatDoorReadRowS
namespace Go.Proofs.YtgeipficjfaocaaGreatDoor
open Go.ChangeShapes Go.WideShapes Go.ChangeAt Go.RowKit
attribute [local go_sem ↓] Go.wp_at_zero Go.wp_at_succ
attribute [local simp] World.cell?_alloc_past World.cell?_alloc_at World.frozen?_alloc_at cell_far cell_off cell_here World.frozen?_alloc_past

theorem cellT_size (k n : Int) (t : ByteArray) : (cellT k n t).size ≤ 14 := by
  by_cases h : okB k n t = true
  · have := l4T_len h
    unfold cellT; rw [if_pos h]
    exact this
  · unfold cellT; rw [if_neg h]; exact Nat.zero_le _
theorem rowT_size (l : List CT) (hl : l.length ≤ 3) : (rowT l).size ≤ 44 := by
  unfold rowT
  split
  · rename_i h
    have hone : ∀ c ∈ l, (textC c).length ≤ 14 := fun c hc => l4T_len (List.all_eq_true.1 h c hc)
    show (Lib.join (l.map textC) [32]).length ≤ 44
    match l, hl, hone with
    | [], _, _ => exact Nat.zero_le _
    | [x], _, hone =>
      have h1 := hone x (by simp)
      simp [Lib.join]; omega
    | [x, y], _, hone =>
      have h1 := hone x (by simp)
      have h2 := hone y (by simp)
      simp [Lib.join]; omega
    | [x, y, z], _, hone =>
      have h1 := hone x (by simp)
      have h2 := hone y (by simp)
      have h3 := hone z (by simp)
      simp [Lib.join]; omega
  · exact Nat.zero_le _

theorem own_lower {w : World} {base base' : Nat} {e : TypeId} {size n : Nat} {v : Value} {xs : List Value} (h : w.ownsRow base e size v n xs) (hb : base' ≤ base) : w.ownsRow base' e size v n xs :=
  ⟨h.1, h.2.imp id (fun ⟨g, cap, cur, h1, h2, h3⟩ => ⟨g, cap, cur, h1, Nat.le_trans hb h2, h3⟩)⟩

set_option maxHeartbeats 1000000 in
theorem readcell_draw {w : World} {a : Option Addr} {len cap : Nat} (hlen : len ≤ 4096)
    (row : ∀ j, j < len → ∃ (rb ro : Nat) (v : Int), a = some ⟨rb, ro, none⟩ ∧ rb < w.heap.size ∧ w.cell? ⟨rb, ro + j, none⟩ = some (.int .u8 v) ∧ 0 ≤ v ∧ v ≤ 255) :
    Calls Tryz.prog 9 #[.slice a len cap] w fun e w' => ∃ t : ByteArray, e = .returned (.string t) ∧ t.size ≤ 300 ∧ Below w.heap.size w w' := by
  have hR : Hid (∀ j, j < len → ∃ (rb ro : Nat) (v : Int), a = some ⟨rb, ro, none⟩ ∧ rb < w.heap.size ∧ w.cell? ⟨rb, ro + j, none⟩ = some (.int .u8 v) ∧ 0 ≤ v ∧ v ≤ 255) := row
  clear row
  go_enter Tryz.func9, Tryz.ntmps9
  go_wp2_with fail
  refine (new_draw hlen hR.out).mono ?_
  rintro e w1 ⟨c, rfl, hcs, hc1, hb1⟩
  go_wp2_with fail
  refine (any_draw hc1).mono ?_
  rintro e w2 ⟨k, n, t, rfl, ht, hc2, hk2⟩
  have hx2 : Below w.heap.size w w2 := hb1.trans (hk2.below hcs hb1.size)
  clear hb1 hk2 hc1
  obtain ⟨y, hy⟩ : ∃ y, cellT k n t = y := ⟨_, rfl⟩
  have hys : y.size ≤ 14 := by rw [← hy]; exact cellT_size k n t
  go_wp2_with fail
  refine (ctext_specb k n t y hy w2 ht).mono ?_
  rintro e w3 ⟨rfl, hb3⟩
  have hc3 := hc2.below hb3
  have hx3 : Below w.heap.size w w3 := hx2.trans (hb3.mono hx2.size)
  clear hb3 hc2 hx2
  go_wp2_with fail
  refine (once_draw hc3 2 (by omega) (by omega)).mono ?_
  rintro e w4 ⟨b, rfl, hc4, hk4⟩
  have hx4 : Below w.heap.size w w4 := hx3.trans (hk4.below hcs hx3.size)
  clear hx3 hk4 hc3
  cases b
  · go_wp2
    go_ret
    exact ⟨_, rfl, by omega, hx4⟩
  · go_wp2_with fail
    refine (bend_draw hc4 y _ (by omega) (by decide) (by decide)).mono ?_
    rintro e w5 ⟨t5, rfl, ht5, hc5, hk5⟩
    have hx5 : Below w.heap.size w w5 := hx4.trans (hk5.below hcs hx4.size)
    go_wp2
    go_ret
    exact ⟨_, rfl, by omega, hx5⟩

set_option maxHeartbeats 1000000 in
theorem readrow_draw {w : World} {a : Option Addr} {len cap : Nat} (hlen : len ≤ 4096)
    (row : ∀ j, j < len → ∃ (rb ro : Nat) (v : Int), a = some ⟨rb, ro, none⟩ ∧ rb < w.heap.size ∧ w.cell? ⟨rb, ro + j, none⟩ = some (.int .u8 v) ∧ 0 ≤ v ∧ v ≤ 255) :
    Calls Tryz.prog 7 #[.slice a len cap] w fun e w' => ∃ t : ByteArray, e = .returned (.string t) ∧ t.size ≤ 300 ∧ Below w.heap.size w w' := by
  have hR : Hid (∀ j, j < len → ∃ (rb ro : Nat) (v : Int), a = some ⟨rb, ro, none⟩ ∧ rb < w.heap.size ∧ w.cell? ⟨rb, ro + j, none⟩ = some (.int .u8 v) ∧ 0 ≤ v ∧ v ≤ 255) := row
  clear row
  go_enter Tryz.func7, Tryz.ntmps7
  go_wp2_with fail
  refine (new_draw hlen hR.out).mono ?_
  rintro e w1 ⟨c, rfl, hcs, hc1, hb1⟩
  go_wp2_with fail
  refine (below_draw hc1 4 (by omega) (by omega)).mono ?_
  rintro e w2 ⟨n, rfl, hn0, hn4, hc2, hk2⟩
  have hx2 : Below w.heap.size w w2 := hb1.trans (hk2.below hcs hb1.size)
  clear hb1 hk2 hc1
  obtain ⟨n, rfl⟩ := Int.eq_ofNat_of_zero_le hn0
  go_wp2_with fail
  refine (row_draw hc2 n (by omega)).mono ?_
  rintro e w3 ⟨v, l, rfl, hl, hfit, hvn, own3, hc3, hk3⟩
  have hx3 : Below w.heap.size w w3 := hx2.trans (hk3.below hcs hx2.size)
  clear hx2 hk3 hc2
  obtain ⟨g, cq, rfl⟩ : ∃ g cq, v = .slice (some ⟨g, 0, none⟩) l.length cq := by
    rcases own3.2 with ⟨h', _⟩ | ⟨g, cq, cur, h', _⟩
    · exact absurd h' hvn
    · exact ⟨g, cq, h'⟩
  have row3 := own_row own3
  obtain ⟨y, hy⟩ : ∃ y, rowT l = y := ⟨_, rfl⟩
  have hys : y.size ≤ 44 := by rw [← hy]; exact rowT_size l (by omega)
  have hlm : l.length ≤ 1048576 := by omega
  have HR3 : Hid (RowAt w3 (some ⟨g, 0, none⟩) l) := row3
  clear own3 row3 hl
  go_wp2_with fail
  refine (rowtext_spec _ cq l w3 HR3.out hfit hlm y hy).mono ?_
  rintro e w4 ⟨rfl, hb4⟩
  have hc4 := hc3.below hb4
  have hx4 : Below w.heap.size w w4 := hx3.trans (hb4.mono hx3.size)
  clear hb4 hc3 hx3 HR3
  go_wp2_with fail
  refine (once_draw hc4 2 (by omega) (by omega)).mono ?_
  rintro e w5 ⟨b, rfl, hc5, hk5⟩
  have hx5 : Below w.heap.size w w5 := hx4.trans (hk5.below hcs hx4.size)
  clear hx4 hk5 hc4
  cases b
  · go_wp2
    go_ret
    exact ⟨_, rfl, by omega, hx5⟩
  · go_wp2_with fail
    refine (bend_draw hc5 y _ (by omega) (by decide) (by decide)).mono ?_
    rintro e w6 ⟨t6, rfl, ht6, hc6, hk6⟩
    have hx6 : Below w.heap.size w w6 := hx5.trans (hk6.below hcs hx5.size)
    go_wp2
    go_ret
    exact ⟨_, rfl, by omega, hx6⟩

set_option maxHeartbeats 1000000 in
theorem rowtext_draw {w : World} {a : Option Addr} {len cap : Nat} (hlen : len ≤ 4096)
    (row : ∀ j, j < len → ∃ (rb ro : Nat) (v : Int), a = some ⟨rb, ro, none⟩ ∧ rb < w.heap.size ∧ w.cell? ⟨rb, ro + j, none⟩ = some (.int .u8 v) ∧ 0 ≤ v ∧ v ≤ 255) :
    Calls Tryz.prog 5 #[.slice a len cap] w fun e w' => ∃ (v : Value) (l : List CT), e = .returned v ∧ l.length ≤ 4 ∧ Fit l ∧ v ≠ .slice none 0 0 ∧ w'.ownsRow w.heap.size 31 3 v l.length (flat l) ∧ Below w.heap.size w w' := by
  obtain ⟨i0, hi, hz0, hz1, hz2⟩ := info_parts infoCellD
  have hR : Hid (∀ j, j < len → ∃ (rb ro : Nat) (v : Int), a = some ⟨rb, ro, none⟩ ∧ rb < w.heap.size ∧ w.cell? ⟨rb, ro + j, none⟩ = some (.int .u8 v) ∧ 0 ≤ v ∧ v ≤ 255) := row
  clear row
  go_enter Tryz.func5, Tryz.ntmps5
  go_wp2_with fail
  refine (new_draw hlen hR.out).mono ?_
  rintro e w1 ⟨c, rfl, hcs, hc1, hb1⟩
  go_wp2_with fail
  refine (below_draw hc1 4 (by omega) (by omega)).mono ?_
  rintro e w2 ⟨n, rfl, hn0, hn4, hc2, hk2⟩
  have hx2 : Below w.heap.size w w2 := hb1.trans (hk2.below hcs hb1.size)
  clear hb1 hk2 hc1
  obtain ⟨n, rfl⟩ := Int.eq_ofNat_of_zero_le hn0
  have hcl2 := hc2.lt
  go_wp2_with fail
  refine (row_draw hc2 n (by omega)).mono ?_
  rintro e w3 ⟨v, l, rfl, hl, hfit, hvn, own3, hc3, hk3⟩
  have hx3 : Below w.heap.size w w3 := hx2.trans (hk3.below hcs hx2.size)
  have hs2 := hx2.size
  have hs3 := hk3.size
  clear hx2 hk3 hc2
  have hl4 : l.length ≤ 3 := by omega
  clear hl
  have OW : Hid (w3.ownsRow w2.heap.size 31 3 v l.length (flat l)) := own3
  have HF : Hid (Fit l) := hfit
  clear own3 hfit
  go_wp2_with fail
  refine (once_draw hc3 8 (by omega) (by omega)).mono ?_
  rintro e w4 ⟨b, rfl, hc4, hk4⟩
  have hx4 : Below w.heap.size w w4 := hx3.trans (hk4.below hcs hx3.size)
  have own4 := own_keep OW.out hk4 hcl2
  have hs4 := hk4.size
  clear OW hx3 hk4 hc3
  cases b
  · have fin : Hid (w4.ownsRow w.heap.size 31 3 v l.length (flat l)) := own_lower own4 hs2
    clear own4
    go_wp2
    go_ret
    exact ⟨_, l, rfl, by omega, HF.out, hvn, fin.out, hx4⟩
  · have OW4 : Hid (w4.ownsRow w2.heap.size 31 3 v l.length (flat l)) := own4
    clear own4
    go_wp2_with fail
    refine (any_draw hc4).mono ?_
    rintro e w5 ⟨k1, n1, t1, rfl, ht1, hc5, hk5⟩
    have hx5 : Below w.heap.size w w5 := hx4.trans (hk5.below hcs hx4.size)
    have own5 := own_keep OW4.out hk5 hcl2
    have hs5 := hk5.size
    clear OW4 hx4 hk5 hc4 hc5
    go_wp2_with (at_builtin; refine wpList_append_own _ rfl _ _ 24 rfl w2.heap.size 31 i0 (.agg #[.int .i64 0, .int .i64 0, .string ⟨#[]⟩]) 3 32 Tryz.underlying24 hi hz0 hz1 hz2 rfl (by decide) _ _ _ rfl (own5.alloc _) ⟨w5.heap.size, 0, none⟩ 1 1 [.int .i64 k1, .int .i64 n1, .string t1] rfl rfl ?c1 ?c2 ?c3 ?c4 ?c5 ?_)
    case c1 =>
      intro j u hj
      match j, hj with
      | 0, hj => simp at hj; subst hj; simp [Addr.add]
      | 1, hj => simp at hj; subst hj; simp [Addr.add]
      | 2, hj => simp at hj; subst hj; simp [Addr.add]
    case c2 => intro u hu; simp at hu; rcases hu with rfl | rfl | rfl <;> rfl
    case c3 => unfold maxLen; omega
    case c4 => omega
    case c5 => simp; omega
    intro v' w6 own6 hgrow hnn
    have hb6 : Below w2.heap.size w5 w6 := by
      refine (((Below.refl w2.heap.size w5).alloc (by omega) _).grown hgrow (by simp; omega) ?_)
      intro k hkk
      exact (own5.lt k hkk).1
    have hv6 : v' ≠ .slice none 0 0 := by first | exact hnn | exact fun e => hvn (hnn.1 e).1
    have hx6 : Below w.heap.size w w6 := hx5.trans (hb6.mono hs2)
    have fin : Hid (w6.ownsRow w.heap.size 31 3 v' (l ++ [(k1, n1, t1)]).length (flat (l ++ [(k1, n1, t1)]))) := by
      rw [flat_append, List.length_append]
      exact own_lower own6 hs2
    clear own6 hgrow hnn own5 hb6 hx5
    go_wp2
    go_ret
    exact ⟨_, l ++ [(k1, n1, t1)], rfl, by simp; omega, HF.out.append ht1, hv6, fin.out, hx6⟩

set_option maxHeartbeats 1000000 in
theorem celltext_draw {w : World} {a : Option Addr} {len cap : Nat} (hlen : len ≤ 4096)
    (row : ∀ j, j < len → ∃ (rb ro : Nat) (v : Int), a = some ⟨rb, ro, none⟩ ∧ rb < w.heap.size ∧ w.cell? ⟨rb, ro + j, none⟩ = some (.int .u8 v) ∧ 0 ≤ v ∧ v ≤ 255) :
    Calls Tryz.prog 11 #[.slice a len cap] w fun e w' => ∃ (k n : Int) (t : ByteArray), e = .returned (.agg #[.int .i64 k, .int .i64 n, .string t]) ∧ t.size ≤ maxLen ∧ Below w.heap.size w w' := by
  have hR : Hid (∀ j, j < len → ∃ (rb ro : Nat) (v : Int), a = some ⟨rb, ro, none⟩ ∧ rb < w.heap.size ∧ w.cell? ⟨rb, ro + j, none⟩ = some (.int .u8 v) ∧ 0 ≤ v ∧ v ≤ 255) := row
  clear row
  go_enter Tryz.func11, Tryz.ntmps11
  go_wp2_with fail
  refine (cellok_draw hlen ?_).mono ?_
  · intro j hj
    obtain ⟨rb, ro, v, ha, hrb, hcell, hv⟩ := hR.out j hj
    exact ⟨rb, ro, v, ha, by simp; omega, by rw [World.cell?_alloc_lt _ _ _ hrb]; exact hcell, hv⟩
  rintro e w1 ⟨k, n, t, rfl, ht, hb1⟩
  obtain ⟨⟨p0, p1, p2, p3⟩, f0, f1, f2⟩ := box3F hb1
  have hx := chainA hb1
  have hxs := hx.size
  go_wp2
  exact bodyPost_ret (v := .agg #[.int .i64 k, .int .i64 n, .string t]) (by simp [results, Tryz.results11, go_sem, p0, p1, p2]) rfl ⟨k, n, t, rfl, ht, by go_grown⟩

end Go.Proofs.YtgeipficjfaocaaGreatDoor
