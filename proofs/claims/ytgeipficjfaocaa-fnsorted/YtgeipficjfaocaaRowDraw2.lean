/-
  The contract of the draw of two rows.
-/
import Derived.Test.YtgeipficjfaocaaRowDraw
namespace Go.Proofs.Ytgeipficjfaocaa
open Go.ChangeShapes Go.WideShapes Go.ChangeAt Go.RowKit
attribute [local go_sem ↓] Go.wp_at_zero Go.wp_at_succ
attribute [local simp] World.cell?_alloc_past World.cell?_alloc_at World.frozen?_alloc_at cell_far cell_off cell_here World.frozen?_alloc_past

theorem own_form {w : World} {base : Nat} {l : List CT} {v : Value} (h : w.ownsRow base 25 3 v l.length (flat l)) (hv : v ≠ .slice none 0 0) : ∃ g c, v = .slice (some ⟨g, 0, none⟩) l.length c ∧ base ≤ g ∧ l.length ≤ c := by
  rcases h.2 with ⟨h', _⟩ | ⟨g, c, cur, h', hbg, _, hc, _⟩
  · exact absurd h' hv
  · exact ⟨g, c, h', hbg, hc⟩
theorem flat_take (l : List CT) (y : Nat) (h : y ≤ l.length) : (flat l).take (y * 3) = flat (l.take y) := by
  conv => lhs; rw [← List.take_append_drop y l, flat_append]
  rw [List.take_left' (by rw [flat_length, List.length_take]; congr 1; omega)]
theorem own_cut {w : World} {base g c : Nat} {l : List CT} (h : w.ownsRow base 25 3 (.slice (some ⟨g, 0, none⟩) l.length c) l.length (flat l)) (y : Nat) (hy : y ≤ l.length) : w.ownsRow base 25 3 (.slice (some ⟨g, 0, none⟩) y c) y (flat (l.take y)) := by
  rcases h.2 with ⟨h', _⟩ | ⟨g', c', cur, h', hb', hg', hc', hm', hz', ht'⟩
  · simp at h'
  · simp only [Value.slice.injEq, Option.some.injEq, Addr.mk.injEq, and_true, true_and] at h'
    obtain ⟨rfl, rfl⟩ := h'
    refine ⟨by rw [flat_length, List.length_take]; congr 1; omega, .inr ⟨g, c, cur, rfl, hb', hg', by omega, hm', hz', ?_⟩⟩
    have e2 : cur.toList.take (y * 3) = (cur.toList.take (l.length * 3)).take (y * 3) := by rw [List.take_take]; congr 1; omega
    rw [e2, ht', flat_take l y hy]

set_option maxRecDepth 100000 in
set_option maxHeartbeats 1500000 in
theorem rowless_draw {w : World} {a : Option Addr} {len cap : Nat} (hlen : len ≤ 4096)
    (row : ∀ j, j < len → ∃ (rb ro : Nat) (v : Int), a = some ⟨rb, ro, none⟩ ∧ rb < w.heap.size ∧ w.cell? ⟨rb, ro + j, none⟩ = some (.int .u8 v) ∧ 0 ≤ v ∧ v ≤ 255) :
    Calls Try.prog 35 #[.slice a len cap] w fun e w' => ∃ (l m : List CT) (g c g2 c2 : Nat), e = .returned (.tuple #[.slice (some ⟨g, 0, none⟩) l.length c, .slice (some ⟨g2, 0, none⟩) m.length c2]) ∧ l.length ≤ 1000 ∧ m.length ≤ 1000 ∧ RowAt w' (some ⟨g, 0, none⟩) l ∧ RowAt w' (some ⟨g2, 0, none⟩) m ∧ Below w.heap.size w w' := by
  obtain ⟨i0, hi, hz0, hz1, hz2⟩ := info_parts infoCellD
  have hR : Hid (∀ j, j < len → ∃ (rb ro : Nat) (v : Int), a = some ⟨rb, ro, none⟩ ∧ rb < w.heap.size ∧ w.cell? ⟨rb, ro + j, none⟩ = some (.int .u8 v) ∧ 0 ≤ v ∧ v ≤ 255) := row
  clear row
  go_enter Try.func35, Try.ntmps35
  go_wp2_with fail
  refine (new_draw hlen hR.out).mono ?_
  rintro e w1 ⟨c, rfl, hcs, hc1, hb1⟩
  have C1 : Hid (Cur w1 c a len cap) := hc1
  have hcw1 := hc1.lt
  clear hc1
  go_wp2_with fail
  refine (below_draw C1.out 4 (by omega) (by omega)).mono ?_
  rintro e w2 ⟨x, rfl, hx0, hx1, hc2, hk2⟩
  obtain ⟨n, rfl⟩ : ∃ n : Nat, x = n := ⟨x.toNat, by omega⟩
  have C2 : Hid (Cur w2 c a len cap) := hc2
  have hcw2 := hc2.lt
  have hs2 := hk2.size
  clear hc2 C1
  go_wp2_with fail
  refine (row_draw C2.out n (by omega)).mono ?_
  rintro e w3 ⟨v, l, rfl, hl, _, hv, own, hc3, hk3⟩
  subst hl
  obtain ⟨g, k, rfl, hg, _⟩ := own_form own hv
  have OA : Hid (w3.ownsRow w2.heap.size 25 3 (.slice (some ⟨g, 0, none⟩) l.length k) l.length (flat l)) := own
  have C3 : Hid (Cur w3 c a len cap) := hc3
  have hk13 := hk2.trans hk3
  have hs3 := hk3.size
  clear own hc3 C2 hk2 hk3 hv
  go_wp2_with fail
  refine (row_spec _ _ l _ (own_row OA.out) (fun e => by cases e) (by omega)).mono ?_
  rintro e w4 ⟨g2, k2, rfl, hg2, ownB, hb4⟩
  have OA4 : Hid (w4.ownsRow w2.heap.size 25 3 (.slice (some ⟨g, 0, none⟩) l.length k) l.length (flat l)) := own_below OA.out hb4
  have OB4 : Hid (w4.ownsRow w3.heap.size 25 3 (.slice (some ⟨g2, 0, none⟩) l.length k2) l.length (flat l)) := ownB
  have C4 : Hid (Cur w4 c a len cap) := C3.out.below hb4
  have hk14 := hk13.trans (Keep.ofBelow hb4)
  have hs4 := hb4.size
  have hgw3 : g < w3.heap.size := by
    obtain ⟨_, h2 | ⟨_, _, _, h2, _, h3, _⟩⟩ := OA.out
    · simp at h2
    · simp only [Value.slice.injEq, Option.some.injEq, Addr.mk.injEq, and_true, true_and] at h2
      by_cases hlt : g < w3.heap.size
      · exact hlt
      · rw [h2.1] at hlt; rw [Array.getElem?_eq_none (by omega)] at h3; cases h3
  clear ownB hb4 OA C3 hk13
  go_wp2_with fail
  refine (once_draw C4.out 2 (by omega) (by omega)).mono ?_
  rintro e w5 ⟨bb, rfl, hc5, hk5⟩
  have OA5 : Hid (w5.ownsRow w2.heap.size 25 3 (.slice (some ⟨g, 0, none⟩) l.length k) l.length (flat l)) := own_keep OA4.out hk5 hcw2
  have OB5 : Hid (w5.ownsRow w3.heap.size 25 3 (.slice (some ⟨g2, 0, none⟩) l.length k2) l.length (flat l)) := own_keep OB4.out hk5 (by omega)
  have C5 : Hid (Cur w5 c a len cap) := hc5
  have hk15 := hk14.trans hk5
  have hs5 := hk5.size
  have toW : ∀ w', Keep c w1 w' → Below w.heap.size w w' := fun w' hk => hb1.trans (hk.below hcs hb1.size)
  have toW' : Hid (∀ w', Keep c w1 w' → Below w.heap.size w w') := toW
  clear hc5 hk5 OA4 OB4 C4 hk14 toW
  cases bb
  · have fin : Hid (RowAt w5 (some ⟨g, 0, none⟩) l ∧ RowAt w5 (some ⟨g2, 0, none⟩) l ∧ Below w.heap.size w w5) := ⟨own_row OA5.out, own_row OB5.out, toW'.out _ hk15⟩
    clear OA5 OB5 C5 hk15 toW'
    go_wp2
    go_ret2
    exact ⟨l, l, g, k, g2, k2, rfl, by omega, by omega, fin.out⟩
  · have j1 : (l.length : Int) ≤ 1000 := by omega
    go_wp2_with fail
    refine wp_region_held_drew (S := (fun _ => True)) (by kernel_rfl) trivial (fun hHeld => ?_)
    refine wpAnyH_take (i := 0) (by simp only [List.getElem?_toArray, List.getElem?_cons_zero]; rfl) (by kernel_rfl) (by kernel_rfl) (by kernel_rfl) (by intro _ _ _ h; exact h) (Or.inl ⟨by rfl, fun w hSw => by (dsimp only at hSw; go_simp; (try with_reducible rfl))⟩) (by assumption) ?_
    simp only [Act.put, List.setIfInBounds_toArray, List.set_cons_zero, List.set_cons_succ]
    refine wpAnyH_take (i := 1) (by simp only [List.getElem?_toArray, List.getElem?_cons_zero, List.getElem?_cons_succ]; rfl) (by kernel_rfl) (by kernel_rfl) (by kernel_rfl) (by intro _ _ _ h; exact h) (Or.inl ⟨by rfl, fun w hSw => by (dsimp only at hSw; go_simp; (try with_reducible rfl))⟩) (by assumption) ?_
    simp only [Act.put, List.setIfInBounds_toArray, List.set_cons_zero, List.set_cons_succ]
    refine wpAnyH_take (i := 2) (by simp only [List.getElem?_toArray, List.getElem?_cons_zero, List.getElem?_cons_succ]; rfl) (by kernel_rfl) (by kernel_rfl) (by kernel_rfl) (by intro _ _ _ h; exact h) (Or.inl ⟨by rfl, fun w hSw => by (dsimp only at hSw; go_simp; (try with_reducible rfl))⟩) (by assumption) ?_
    simp only [Act.put, List.setIfInBounds_toArray, List.set_cons_zero, List.set_cons_succ]
    refine wpAnyH_take (i := 3) (by simp only [List.getElem?_toArray, List.getElem?_cons_zero, List.getElem?_cons_succ]; rfl) (by kernel_rfl) (by kernel_rfl) (by kernel_rfl) (by intro _ _ _ h; exact h) (Or.inl ⟨by rfl, fun w hSw => by (dsimp only at hSw; go_simp; (try with_reducible rfl))⟩) (by assumption) ?_
    simp only [Act.put, List.setIfInBounds_toArray, List.set_cons_zero, List.set_cons_succ]
    refine wpAnyH_take (i := 4) (by simp only [List.getElem?_toArray, List.getElem?_cons_zero, List.getElem?_cons_succ]; rfl) (by kernel_rfl) (by kernel_rfl) (by kernel_rfl) (by intro _ _ _ h; exact h) (Or.inl ⟨by rfl, fun w hSw => by (dsimp only at hSw; go_simp; (try with_reducible rfl))⟩) (by assumption) ?_
    simp only [Act.put, List.setIfInBounds_toArray, List.set_cons_zero, List.set_cons_succ]
    refine wpAnyH_take (i := 7) (by simp only [List.getElem?_toArray, List.getElem?_cons_zero, List.getElem?_cons_succ]; rfl) (by kernel_rfl) (by kernel_rfl) (by kernel_rfl) (by intro _ _ _ h; exact h) (Or.inl ⟨by rfl, fun w hSw => by (dsimp only at hSw; go_simp; (try with_reducible rfl))⟩) (by assumption) ?_
    simp only [Act.put, List.setIfInBounds_toArray, List.set_cons_zero, List.set_cons_succ]
    refine wpAnyH_ready (rs := [5]) (by kernel_rfl) (by simp) ?_
    refine AllReadyH.cons (by simp only [List.getElem?_toArray, List.getElem?_cons_zero, List.getElem?_cons_succ]; rfl) ?_ AllReadyH.nil
    intro K hK
    go_simp
    rw [show IntKind.i64.wrap ((l.length : Int) + 1) = (l.length : Int) + 1 from by rw [IntKind.wrap_i64]; omega]
    refine (below_draw C5.out.drew ((l.length : Int) + 1) (by omega) (by omega)).mono ?_
    rintro e w6 ⟨y, rfl, hy0, hy1, hc6, hk6⟩
    obtain ⟨y, rfl⟩ : ∃ n : Nat, y = n := ⟨y.toNat, by omega⟩
    have C6 : Hid (Cur w6 c a len cap) := hc6
    have hk6' : Keep c w5 w6 := (Keep.refl c w5).drew.trans hk6
    clear hc6 hk6
    go_wp2_with fail
    refine hK.out _ _ trivial (fun hHeld => ?_)
    clear hK K
    try simp only [Act.put, List.setIfInBounds_toArray, List.set_cons_zero, List.set_cons_succ]
    have hyl : y ≤ l.length := by omega
    have hk2 : l.length ≤ k2 := by
      obtain ⟨_, h2 | ⟨_, _, _, h2, _, _, h3, _⟩⟩ := OB5.out
      · simp at h2
      · simp only [Value.slice.injEq, true_and] at h2; omega
    have q0 : (0 : Int) ≤ (y : Int) := by omega
    have q1 : (y : Int) ≤ (k2 : Int) := by omega
    have OA6 : Hid (w6.ownsRow w2.heap.size 25 3 (.slice (some ⟨g, 0, none⟩) l.length k) l.length (flat l)) := own_keep OA5.out hk6' hcw2
    have OB6 : Hid (w6.ownsRow w3.heap.size 25 3 (.slice (some ⟨g2, 0, none⟩) y k2) y (flat (l.take y))) := own_cut (own_keep OB5.out hk6' (by omega)) y hyl
    have hk16 := hk15.trans hk6'
    have hs6 := hk6'.size
    clear OA5 OB5 C5 hk15 hk6'
    refine wpAnyH_take (i := 6) (by simp only [List.getElem?_toArray, List.getElem?_cons_zero, List.getElem?_cons_succ]; rfl) (by kernel_rfl) (by kernel_rfl) (by kernel_rfl) (by intro _ _ _ h; exact h) (Or.inl ⟨by rfl, fun w hSw => by (dsimp only at hSw; go_simp; (try with_reducible rfl))⟩) (by assumption) ?_
    simp only [Act.put, List.setIfInBounds_toArray, List.set_cons_zero, List.set_cons_succ]
    refine wpAnyH_ready (rs := [8]) (by kernel_rfl) (by simp) ?_
    refine AllReadyH.cons (by simp only [List.getElem?_toArray, List.getElem?_cons_zero, List.getElem?_cons_succ]; rfl) ?_ AllReadyH.nil
    intro K hK
    go_simp
    refine (any_draw C6.out).mono ?_
    rintro e w7 ⟨x1, x2, x3, rfl, ht, hc7, hk7⟩
    have OA7 : Hid (w7.ownsRow w2.heap.size 25 3 (.slice (some ⟨g, 0, none⟩) l.length k) l.length (flat l)) := own_keep OA6.out hk7 hcw2
    have OB7 : Hid (w7.ownsRow w3.heap.size 25 3 (.slice (some ⟨g2, 0, none⟩) y k2) y (flat (l.take y))) := own_keep OB6.out hk7 (by omega)
    have hk17 := hk16.trans hk7
    have hs7 := hk7.size
    clear OA6 OB6 C6 hk16 hk7 hc7
    go_wp2_with fail
    refine hK.out _ _ trivial (fun hHeld => ?_)
    clear hK K
    try simp only [Act.put, List.setIfInBounds_toArray, List.set_cons_zero, List.set_cons_succ]
    refine wpAnyH_ready (rs := [9]) (by kernel_rfl) (by simp) ?_
    refine AllReadyH.cons (by simp only [List.getElem?_toArray, List.getElem?_cons_zero, List.getElem?_cons_succ]; rfl) ?_ AllReadyH.nil
    intro K hK
    go_simp
    refine hK.out _ _ trivial (fun hHeld => ?_)
    clear hK K
    try simp only [Act.put, List.setIfInBounds_toArray, List.set_cons_zero, List.set_cons_succ]
    refine wpAnyH_ready (rs := [10]) (by kernel_rfl) (by simp) ?_
    refine AllReadyH.cons (by simp only [List.getElem?_toArray, List.getElem?_cons_zero, List.getElem?_cons_succ]; rfl) ?_ AllReadyH.nil
    intro K hK
    rw [if_pos (by rfl)]
    refine wp_append_own _ _ _ 33 rfl w3.heap.size 25 i0 (.agg #[.int .i64 0, .int .i64 0, .string ⟨#[]⟩]) 3 32 Try.underlying33 hi hz0 hz1 hz2 rfl (by decide) (.slice (some ⟨g2, 0, none⟩) y k2) y (flat (l.take y)) rfl (OB7.out.alloc _) ⟨w7.heap.size, 0, none⟩ 1 1 [.int .i64 x1, .int .i64 x2, .string x3] rfl rfl ?_ ?_ ?_ ?_ ?_ ?_
    · intro j u hj
      match j, hj with
      | 0, hj => simp at hj; subst hj; simp [Addr.add]
      | 1, hj => simp at hj; subst hj; simp [Addr.add]
      | 2, hj => simp at hj; subst hj; simp [Addr.add]
    · intro u hu; simp at hu; rcases hu with rfl | rfl | rfl <;> rfl
    · unfold maxLen; omega
    · omega
    · simp; omega
    intro v' w8 own8 hgrow hnn
    have hb8 : Below w3.heap.size w7 w8 := by
      refine (((Below.refl w3.heap.size w7).alloc (by omega) _).grown hgrow (by simp; omega) ?_)
      intro kk hkk
      simp only [Value.ownBlock, Option.some.injEq] at hkk
      omega
    have hv8 : v' ≠ .slice none 0 0 := by first | exact hnn | (intro e; have := (hnn.1 e).1; simp at this)
    obtain ⟨m, hm⟩ : ∃ m, l.take y ++ [(x1, x2, x3)] = m := ⟨_, rfl⟩
    have hml : m.length = y + 1 := by rw [← hm]; simp; omega
    have own8' : w8.ownsRow w3.heap.size 25 3 v' m.length (flat m) := by rw [hml, ← hm, flat_append]; exact own8
    obtain ⟨g3, k3, rfl, hg3, _⟩ := own_form own8' hv8
    have rA : RowAt w8 (some ⟨g, 0, none⟩) l := by
      intro j hj
      obtain ⟨b, o, e, hlt, e0, e1, e2⟩ := own_row OA7.out j hj
      cases e
      exact ⟨g, 0, rfl, Nat.lt_of_lt_of_le hlt hb8.size, by rw [hb8.cell (p := ⟨g, _, none⟩) hgw3]; exact e0, by rw [hb8.cell (p := ⟨g, _, none⟩) hgw3]; exact e1, by rw [hb8.cell (p := ⟨g, _, none⟩) hgw3]; exact e2⟩
    have fin : Hid (RowAt w8 (some ⟨g, 0, none⟩) l ∧ RowAt w8 (some ⟨g3, 0, none⟩) m ∧ Below w.heap.size w w8) := ⟨rA, own_row own8', toW'.out _ (hk17.far hb8 (by omega))⟩
    refine hK.out _ _ trivial (fun hHeld => ?_)
    clear hK K rA own8 own8' hgrow hnn hb8 hk17 OA7 OB7 toW' hm
    try simp only [Act.put, List.setIfInBounds_toArray, List.set_cons_zero, List.set_cons_succ]
    refine wpAnyH_take (i := 11) (by simp only [List.getElem?_toArray, List.getElem?_cons_zero, List.getElem?_cons_succ]; rfl) (by kernel_rfl) (by kernel_rfl) (by kernel_rfl) (by intro _ _ _ h; exact h) (Or.inl ⟨by rfl, fun w hSw => by (dsimp only at hSw; go_simp; (try with_reducible rfl))⟩) (by assumption) ?_
    simp only [Act.put, List.setIfInBounds_toArray, List.set_cons_zero, List.set_cons_succ]
    refine wpAnyH_done (by kernel_rfl) ?_ _
    go_wp2
    go_ret2
    exact ⟨l, m, g, k, g3, k3, by rw [hml]; rfl, by omega, by omega, fin.out⟩

end Go.Proofs.Ytgeipficjfaocaa
