/-
  A part of the proof: YardI2, YardI3.
-/
import Derived.Test.YtfokdblojlmnlabGreatDoorPart19
import Derived.Test.YtfokdblojlmnlabGreatDoorPart17

/-
  The contracts of the program's reader of sums: what waits last, which kind a sign is, signs that become items.
-/
namespace Go.Proofs.YtfokdblojlmnlabGreatDoor
open Go.ChangeShapes Go.WideShapes Go.ChangeAt Go.RowKit
attribute [local go_sem ↓] Go.wp_at_zero Go.wp_at_succ
attribute [local simp] World.cell?_alloc_past World.cell?_alloc_at World.frozen?_alloc_at cell_far cell_off cell_here World.frozen?_alloc_past

set_option maxRecDepth 100000 in
set_option maxHeartbeats 4000000 in
theorem last_impl {w0 w : World} {R : Nat} {vi vw : Value} {o : List TI} {W : List Int} {wh : Bool} (h : Yd w0 w R vi vw o W wh) (t : Int) (ht : topK W = t) :
    Calls Tryz.prog 171 #[.pointer (some ⟨R, 0, none⟩)] w fun e w' => e = .returned (.int .i64 t) ∧ Below w.heap.size w w' := by
  obtain ⟨r0, r1, r2⟩ := h.box.cells
  obtain ⟨ga, c, rfl, hwc, hcm, hg⟩ := h.formW
  have hlt := h.box.lt
  cases W with
  | nil =>
    obtain rfl : 0 = t := ht
    clear h
    simp only [List.length_nil] at r1
    go_enter Tryz.func171, Tryz.ntmps171
    go_wp2
    go_ret
    exact ⟨rfl, Below.refl _ _⟩
  | cons k W =>
    obtain rfl : k = t := ht
    obtain ⟨g, rfl⟩ := hg (by simp)
    have hc := h.ownW.cellAt W.length (by simp)
    rw [ksV_cons, List.getElem?_append_right (by rw [ksV_len]; exact Nat.le_refl _), ksV_len, Nat.sub_self, List.getElem?_cons_zero] at hc
    obtain ⟨m, hm⟩ : ∃ m, (k :: W).length = m := ⟨_, rfl⟩
    have hm1 : W.length = m - 1 := by rw [← hm]; simp
    rw [hm] at r1 hwc
    rw [hm1] at hc
    have hm0 : 0 < m := by rw [← hm]; simp
    unfold maxLen at hcm
    obtain ⟨j, rfl⟩ : ∃ j, m = j + 1 := ⟨m - 1, by omega⟩
    rw [Nat.add_sub_cancel] at hc
    have hj1 : ((j + 1 : Nat) : Int) - 1 = (j : Int) := by omega
    have hj2 : (((j + 1 : Nat) : Int) == 0) = false := by simpa using (show ¬ ((j + 1 : Nat) : Int) = 0 by omega)
    have hj3 : (j : Int) < ((j + 1 : Nat) : Int) := by omega
    have hj4 : (0 : Int) ≤ (j : Int) := by omega
    clear h hm hm1 hg
    go_enter Tryz.func171, Tryz.ntmps171
    go_wp2_with fail
    go_quiet (fail)
    rename_i nq _
    go_wp2
    go_ret
    exact ⟨rfl, belowN (Below.refl _ _) nq⟩
theorem kindS_first {s : ByteArray} {k : Int} (hk : 3 ≤ k ∧ k ≤ 12) (h : s = sgn k) : kindS s = k := by subst h; exact kindS_sgn hk
theorem kindS_none {s : ByteArray} (h : ∀ j : Int, 3 ≤ j → j ≤ 12 → s ≠ sgn j) : kindS s = 0 := by
  unfold kindS
  rw [if_neg (h 3 (by omega) (by omega)), if_neg (h 4 (by omega) (by omega)), if_neg (h 5 (by omega) (by omega)), if_neg (h 6 (by omega) (by omega)), if_neg (h 7 (by omega) (by omega)), if_neg (h 8 (by omega) (by omega)), if_neg (h 9 (by omega) (by omega)), if_neg (h 10 (by omega) (by omega)), if_neg (h 11 (by omega) (by omega)), if_neg (h 12 (by omega) (by omega))]
set_option maxRecDepth 100000 in
set_option maxHeartbeats 4000000 in
theorem kind_impl (s : ByteArray) (kd : Int) (hk : kindS s = kd) (w : World) (hs : SgnAt w) :
    Calls Tryz.prog 141 #[.string s] w fun e w' => e = .returned (.int .i64 kd) ∧ w' = w := by
  have HS : Hid (SgnAt w) := hs
  have HK : Hid (kindS s = kd) := hk
  clear hs hk
  go_enter Tryz.func141, Tryz.ntmps141
  go_wp2
  go_loopw [3] (fun kk wr => ∃ k : Nat, 3 ≤ k ∧ k ≤ 13 ∧ kk = .int .i64 k ∧ Hid (∀ j : Int, 3 ≤ j → j < k → s ≠ sgn j) ∧ wr = w) (fun kk _ => 13 - (intOf kk).toNat)
  case atStart => exact ⟨3, by omega, by omega, rfl, fun j h1 h2 => by omega, rfl⟩
  case round =>
    obtain ⟨k, h3, h13, rfl, hno, hwr⟩ := hrel
    obtain rfl : w = wr := hwr.symm
    by_cases hlt : k ≤ 12
    · have hi1 : (k : Int) ≤ 12 := by omega
      have hi0 : (0 : Int) ≤ (k : Int) := by omega
      have hi2 : (k : Int) < 13 := by omega
      have hc := HS.out.cell k (by omega)
      have hsg : sgn0 k = sgn (k : Int) := by unfold sgn0; rw [if_neg (by omega)]
      rw [hsg] at hc
      have hg0 := HS.out.lt
      by_cases he : s = sgn (k : Int)
      · obtain rfl : (k : Int) = kd := by rw [← HK.out]; exact (kindS_first (by omega) he).symm
        rw [← he] at hc
        have hee : (s.toList == s.toList) = true := by simp
        clear hno he
        go_wp2
        go_ret
        exact ⟨rfl, rfl⟩
      · obtain ⟨q, hq⟩ : ∃ q, sgn (k : Int) = q := ⟨_, rfl⟩
        rw [hq] at hc
        have hee : (q.toList == s.toList) = false := by
          rw [Lib.toList_data, Lib.toList_data, beq_eq_false_iff_ne]
          exact fun e => he (by rw [hq]; exact (bytes_ext e).symm)
        have HNo : Hid (∀ j : Int, 3 ≤ j → j < ((k + 1 : Nat) : Int) → s ≠ sgn j) := by
          have : ∀ j : Int, 3 ≤ j → j < ((k + 1 : Nat) : Int) → s ≠ sgn j := fun j h1 h2 => by
            by_cases e : j = (k : Int)
            · rw [e]; exact he
            · exact hno.out j h1 (by omega)
          exact this
        clear hno he hq
        go_wp2
        go_roundw
        case rel => exact ⟨k + 1, by omega, by omega, by go_num, HNo, by first | rfl | trivial⟩
        case measure => simp [intOf]; omega
    · have hi1 : ¬ (k : Int) ≤ 12 := by omega
      obtain rfl : (0 : Int) = kd := by
        rw [← HK.out]
        exact (kindS_none (fun j h1 h2 => hno.out j h1 (by omega))).symm
      clear hno
      go_wp2
      go_ret
      exact ⟨rfl, rfl⟩
def SetRel (w0 : World) (R g : Nat) (o : List TI) (W : List Int) (wh : Bool) (wr : World) : Prop := ∃ v1 v2 o1 W1, Yd w0 wr R v1 v2 o1 W1 wh ∧ o1.length + W1.length ≤ 1048576 ∧ settleW g o1 W1 = settleW g o W
set_option maxRecDepth 100000 in
set_option maxHeartbeats 4000000 in
theorem settle_impl {w0 w : World} {R : Nat} {vi vw : Value} {o : List TI} {W : List Int} {wh : Bool} (h : Yd w0 w R vi vw o W wh) (hm : o.length + W.length ≤ 1048576) (g : Nat) (hg : 1 ≤ g ∧ g ≤ 8) :
    Calls Tryz.prog 144 #[.pointer (some ⟨R, 0, none⟩), .int .i64 (g : Int)] w fun e w' => e = .returned (.tuple #[]) ∧ ∃ vi' vw', Yd w0 w' R vi' vw' (settleW g o W).1 (settleW g o W).2 wh := by
  obtain ⟨i0, hti, hz0, hz1, hz2⟩ := info_parts infoItm5
  have H : Hid (Yd w0 w R vi vw o W wh) := h
  clear h
  go_enter Tryz.func144, Tryz.ntmps144
  go_wp2_with fail
  go_loopw [] (fun wr => SetRel w0 R g o W wh wr) (fun wr => waitOf R wr)
  case atStart => exact ⟨vi, vw, o, W, H.out, hm, rfl⟩
  case round =>
    clear H
    obtain ⟨v1, v2, o1, W1, hY, hm1, hset⟩ := hrel
    have Y1 : Hid (Yd w0 wr R v1 v2 o1 W1 wh) := hY
    have HSet : Hid (settleW g o1 W1 = settleW g o W) := hset
    have HW : Hid (waitOf R wr = W1.length) := hY.waitOf
    obtain ⟨t, ht⟩ : ∃ t, topK W1 = t := ⟨_, rfl⟩
    have HT : Hid (topK W1 = t) := ht
    obtain ⟨b, hb⟩ : ∃ b, bindK t = b := ⟨_, rfl⟩
    have HB : Hid (bindK t = b) := hb
    clear hY hset ht hb
    go_wp2_with fail
    refine (last_impl Y1.out t HT.out).mono ?_
    rintro e w1 ⟨rfl, hb1⟩
    have Y2 : Hid (Yd w0 w1 R v1 v2 o1 W1 wh) := Y1.out.below hb1
    clear Y1 hb1
    go_wp2_with fail
    refine (binding_impl t b HB.out _).mono ?_
    rintro e w2 ⟨rfl, hw2⟩
    obtain rfl : w1 = w2 := hw2.symm
    by_cases hgb : g ≤ b
    · have hgb2 : (g : Int) ≤ (b : Int) := by omega
      cases W1 with
      | nil =>
        exfalso
        have h1 : t = 0 := HT.out.symm
        have h2 := HB.out
        rw [h1] at h2
        have h3 : bindK 0 = 0 := rfl
        omega
      | cons k W2 =>
        obtain rfl : k = t := HT.out
        have HSet2 : Hid (settleW g (o1 ++ [opI k]) W2 = settleW g o W) := by
          have : settleW g (o1 ++ [opI k]) W2 = settleW g o W := by rw [← HSet.out, settle_cons (by rw [HB.out]; exact hgb)]
          exact this
        have hm2 : o1.length + (W2.length + 1) ≤ 1048576 := by simpa using hm1
        obtain ⟨r0, r1, r2⟩ := Y2.out.box.cells
        have hR1 := Y2.out.box.lt
        have hn1 : w1.heap.size ≠ R := by omega
        clear HSet HT
        go_wp2_with fail
        refine wp_region_until (z := 12) (S := (fun w' => w'.cell? ⟨R, 0, none⟩ = some v1)) (by kernel_rfl) ?_ (fun hHeld => ?_)
        · (((try dsimp only); (repeat' apply And.intro) <;> first | (go_keep; done) | (simp (disch := first | omega | (simp <;> omega) | fail) [*]; done) | fail))
        refine wpAnyU_take (i := 0) (by simp only [List.getElem?_toArray, List.getElem?_cons_zero]; rfl) (by kernel_rfl) (by kernel_rfl) (by kernel_rfl) (by kernel_rfl) (by intro _ _ _ h; exact h) (Or.inl ⟨by rfl, fun w hSw => by (dsimp only at hSw; go_simp; (try with_reducible rfl))⟩) (by assumption) ?_
        simp only [Act.put, List.setIfInBounds_toArray, List.set_cons_zero, List.set_cons_succ]
        refine wpAnyU_take (i := 1) (by simp only [List.getElem?_toArray, List.getElem?_cons_zero, List.getElem?_cons_succ]; rfl) (by kernel_rfl) (by kernel_rfl) (by kernel_rfl) (by kernel_rfl) (by intro _ _ _ h; exact h) (Or.inl ⟨by rfl, fun w hSw => by (dsimp only at hSw; go_simp; (try with_reducible rfl))⟩) (by assumption) ?_
        simp only [Act.put, List.setIfInBounds_toArray, List.set_cons_zero, List.set_cons_succ]
        refine wpAnyU_take (i := 2) (by simp only [List.getElem?_toArray, List.getElem?_cons_zero, List.getElem?_cons_succ]; rfl) (by kernel_rfl) (by kernel_rfl) (by kernel_rfl) (by kernel_rfl) (by intro _ _ _ h; exact h) (Or.inl ⟨by rfl, fun w hSw => by (dsimp only at hSw; go_simp; (try with_reducible rfl))⟩) (by assumption) ?_
        simp only [Act.put, List.setIfInBounds_toArray, List.set_cons_zero, List.set_cons_succ]
        refine wpAnyU_take (i := 3) (by simp only [List.getElem?_toArray, List.getElem?_cons_zero, List.getElem?_cons_succ]; rfl) (by kernel_rfl) (by kernel_rfl) (by kernel_rfl) (by kernel_rfl) (by intro _ _ _ h; exact h) (Or.inl ⟨by rfl, fun w hSw => by (dsimp only at hSw; go_simp; (try with_reducible rfl))⟩) (by assumption) ?_
        simp only [Act.put, List.setIfInBounds_toArray, List.set_cons_zero, List.set_cons_succ]
        refine wpAnyU_take (i := 4) (by simp only [List.getElem?_toArray, List.getElem?_cons_zero, List.getElem?_cons_succ]; rfl) (by kernel_rfl) (by kernel_rfl) (by kernel_rfl) (by kernel_rfl) (by intro _ _ _ h; exact h) (Or.inl ⟨by rfl, fun w hSw => by (dsimp only at hSw; go_simp; (try with_reducible rfl))⟩) (by assumption) ?_
        simp only [Act.put, List.setIfInBounds_toArray, List.set_cons_zero, List.set_cons_succ]
        refine wpAnyU_take (i := 5) (by simp only [List.getElem?_toArray, List.getElem?_cons_zero, List.getElem?_cons_succ]; rfl) (by kernel_rfl) (by kernel_rfl) (by kernel_rfl) (by kernel_rfl) (by intro _ _ _ h; exact h) (Or.inl ⟨by rfl, fun w hSw => by (dsimp only at hSw; go_simp; (try with_reducible rfl))⟩) (by assumption) ?_
        simp only [Act.put, List.setIfInBounds_toArray, List.set_cons_zero, List.set_cons_succ]
        refine wpAnyU_one (i := 6) (by kernel_rfl) (by simp only [List.getElem?_toArray, List.getElem?_cons_zero, List.getElem?_cons_succ]; rfl) ?_
        intro K hK
        go_simp
        refine (last_impl (Y2.out.below (Below.refl _ _).drew) k rfl).mono ?_
        rintro e w3 ⟨rfl, hb3⟩
        have Y3 : Hid (Yd w0 w3 R v1 v2 o1 (k :: W2) wh) := (Y2.out.below (Below.refl _ _).drew).below hb3
        clear Y2 hb3 r0 r1 r2 hR1 hn1 hHeld
        obtain ⟨r0, r1, r2⟩ := Y3.out.box.cells
        have hR3 := Y3.out.box.lt
        have hn3 : w3.heap.size ≠ R := by omega
        go_wp2_with fail
        refine hK.out _ _ ?_ (fun hHeld => ?_)
        · (((try dsimp only); (repeat' apply And.intro) <;> first | assumption | (simp (disch := first | omega | (simp <;> omega) | fail) [*]; done) | fail))
        clear hK K
        try simp only [Act.put, List.setIfInBounds_toArray, List.set_cons_zero, List.set_cons_succ]
        refine wpAnyU_take (i := 7) (by simp only [List.getElem?_toArray, List.getElem?_cons_zero, List.getElem?_cons_succ]; rfl) (by kernel_rfl) (by kernel_rfl) (by kernel_rfl) (by kernel_rfl) (by intro _ _ _ h; exact h) (Or.inl ⟨by rfl, fun w hSw => by (dsimp only at hSw; go_simp; (try with_reducible rfl))⟩) (by assumption) ?_
        simp only [Act.put, List.setIfInBounds_toArray, List.set_cons_zero, List.set_cons_succ]
        refine wpAnyU_one (i := 8) (by kernel_rfl) (by simp only [List.getElem?_toArray, List.getElem?_cons_zero, List.getElem?_cons_succ]; rfl) ?_
        intro K hK
        go_simp
        refine hK.out _ _ ?_ (fun hHeld => ?_)
        · (((try dsimp only); (repeat' apply And.intro) <;> first | (go_keep; done) | (simp (disch := first | omega | (simp <;> omega) | fail) [*]; done) | fail))
        clear hK K
        try simp only [Act.put, List.setIfInBounds_toArray, List.set_cons_zero, List.set_cons_succ]
        refine wpAnyU_one (i := 9) (by kernel_rfl) (by simp only [List.getElem?_toArray, List.getElem?_cons_zero, List.getElem?_cons_succ]; rfl) ?_
        intro K hK
        rw [if_pos (by rfl)]
        refine wp_append_own _ _ _ 60 rfl w0.heap.size 102 i0 (.agg #[.int .i64 0, .int .i64 0, .int .i64 0, .string ⟨#[]⟩, .string ⟨#[]⟩]) 5 56 Tryz.underlying60 hti hz0 hz1 hz2 rfl (by decide) v1 o1.length (flatItm o1) rfl (Y3.out.ownI.alloc _) ⟨w3.heap.size, 0, none⟩ 1 1 [.int .i64 k, .int .i64 0, .int .i64 0, .string ⟨#[]⟩, .string ⟨#[]⟩] rfl rfl (cells5I w3 _ _ _ _ _) (by intro u hu; simp at hu; rcases hu with rfl | rfl | rfl | rfl | rfl <;> rfl) (by unfold maxLen; omega) (by omega) (by have := Y3.out.kept.size; simp; omega) ?_
        intro v' w5 own5 hgrow hnn
        obtain ⟨gv, cv, hv', hbx, hfin⟩ := Y3.out.pushI _ (opI k) own5 hgrow
        subst hv'
        obtain ⟨L, hL⟩ : ∃ L, o1.length + 1 = L := ⟨_, rfl⟩
        rw [hL] at hfin
        have Y4 : Hid (Yd w0 (w5.setCell ⟨R, 0, none⟩ (.slice (some ⟨gv, 0, none⟩) L cv)) R (.slice (some ⟨gv, 0, none⟩) L cv) v2 (o1 ++ [opI k]) (k :: W2) wh) := hfin
        clear r0 r1 r2 hR3 hn3 hHeld
        obtain ⟨s0, s1, s2⟩ := hbx.cells
        obtain ⟨g1, g2, g3⟩ := hbx.free
        rw [hL]
        clear own5 hgrow hnn hbx hfin hL Y3
        refine hK.out _ _ ?_ (fun hHeld => ?_)
        · (((try dsimp only); (repeat' apply And.intro) <;> first | assumption | (simp (disch := first | omega | (simp <;> omega) | fail) [*]; done) | fail))
        clear hK K
        try simp only [Act.put, List.setIfInBounds_toArray, List.set_cons_zero, List.set_cons_succ]
        refine wpAnyU_one (i := 10) (by kernel_rfl) (by simp only [List.getElem?_toArray, List.getElem?_cons_zero, List.getElem?_cons_succ]; rfl) ?_
        intro K hK
        go_simp
        refine hK.out _ _ ?_ (fun hHeld => ?_)
        · (((try dsimp only); (repeat' apply And.intro) <;> first | (go_keep; done) | (simp (disch := first | omega | (simp <;> omega) | fail) [*]; done) | fail))
        clear hK K
        try simp only [Act.put, List.setIfInBounds_toArray, List.set_cons_zero, List.set_cons_succ]
        refine wpAnyU_take (i := 11) (by simp only [List.getElem?_toArray, List.getElem?_cons_zero, List.getElem?_cons_succ]; rfl) (by kernel_rfl) (by kernel_rfl) (by kernel_rfl) (by kernel_rfl) (by intro _ _ _ h; exact h) (Or.inl ⟨by rfl, fun w hSw => by (dsimp only at hSw; go_simp; (try with_reducible rfl))⟩) (by assumption) ?_
        simp only [Act.put, List.setIfInBounds_toArray, List.set_cons_zero, List.set_cons_succ]
        refine wpAnyU_last (by kernel_rfl) (by simp only [List.getElem?_toArray, List.getElem?_cons_zero, List.getElem?_cons_succ]; rfl) ?_
        intro K hK
        go_simp
        refine hK.out _ _ ?_
        clear hK K
        try simp only [Act.put, List.setIfInBounds_toArray, List.set_cons_zero, List.set_cons_succ]
        refine wpAnyU_done (by kernel_rfl) ?_ _
        obtain ⟨V, hV⟩ : ∃ V, V = w5.setCell ⟨R, 0, none⟩ (.slice (some ⟨gv, 0, none⟩) L cv) := ⟨_, rfl⟩
        rw [← hV] at Y4 ⊢
        clear hV s0 s1 s2 g1 g2 g3
        obtain ⟨r0, r1, r2⟩ := Y4.out.box.cells
        obtain ⟨f0, f1, f2⟩ := Y4.out.box.free
        obtain ⟨ga, c, rfl, hwc, hcm, hgs⟩ := Y4.out.formW
        obtain ⟨gw, rfl⟩ := hgs (by simp)
        have Y5 : Hid (Yd w0 (V.setCell ⟨R, 1, none⟩ (.slice (some ⟨gw, 0, none⟩) W2.length c)).drew R (.slice (some ⟨gv, 0, none⟩) L cv) (.slice (some ⟨gw, 0, none⟩) W2.length c) (o1 ++ [opI k]) W2 wh) := (Y4.out.cut).below (Below.refl _ _).drew
        unfold maxLen at hcm
        simp only [List.length_cons] at r1 hwc
        obtain ⟨m, hm⟩ : ∃ m, W2.length = m := ⟨_, rfl⟩
        have HM : Hid (W2.length = m) := hm
        rw [hm] at r1 hwc hm2 Y5
        have hj1 : ((m + 1 : Nat) : Int) - 1 = (m : Int) := by omega
        have hj3 : (m : Int) ≤ ((m + 1 : Nat) : Int) := by omega
        have hj4 : (0 : Int) ≤ (m : Int) := by omega
        have hj5 : (m : Int) ≤ (c : Int) := by omega
        have hRV := Y4.out.box.lt
        have hwk : IntKind.i64.wrap (m : Int) = (m : Int) := by rw [IntKind.wrap_i64]; omega
        clear hm hgs Y4
        go_wp2_with fail
        refine wp_region_until (z := 14) (S := (fun w' => w'.cell? ⟨R, 1, none⟩ = some (.slice (some ⟨gw, 0, none⟩) (m + 1) c))) (by kernel_rfl) ?_ (fun hHeld => ?_)
        · (((try dsimp only); (repeat' apply And.intro) <;> first | (go_keep; done) | (simp (disch := first | omega | (simp <;> omega) | fail) [*]; done) | fail))
        refine wpAnyU_take (i := 0) (by simp only [List.getElem?_toArray, List.getElem?_cons_zero]; rfl) (by kernel_rfl) (by kernel_rfl) (by kernel_rfl) (by kernel_rfl) (by intro _ _ _ h; exact h) (Or.inl ⟨by rfl, fun w hSw => by (dsimp only at hSw; go_simp; (try with_reducible rfl))⟩) (by assumption) ?_
        simp only [Act.put, List.setIfInBounds_toArray, List.set_cons_zero, List.set_cons_succ]
        refine wpAnyU_take (i := 1) (by simp only [List.getElem?_toArray, List.getElem?_cons_zero, List.getElem?_cons_succ]; rfl) (by kernel_rfl) (by kernel_rfl) (by kernel_rfl) (by kernel_rfl) (by intro _ _ _ h; exact h) (Or.inl ⟨by rfl, fun w hSw => by (dsimp only at hSw; go_simp; (try with_reducible rfl))⟩) (by assumption) ?_
        simp only [Act.put, List.setIfInBounds_toArray, List.set_cons_zero, List.set_cons_succ]
        refine wpAnyU_take (i := 2) (by simp only [List.getElem?_toArray, List.getElem?_cons_zero, List.getElem?_cons_succ]; rfl) (by kernel_rfl) (by kernel_rfl) (by kernel_rfl) (by kernel_rfl) (by intro _ _ _ h; exact h) (Or.inl ⟨by rfl, fun w hSw => by (dsimp only at hSw; go_simp; (try with_reducible rfl))⟩) (by assumption) ?_
        simp only [Act.put, List.setIfInBounds_toArray, List.set_cons_zero, List.set_cons_succ]
        refine wpAnyU_take (i := 3) (by simp only [List.getElem?_toArray, List.getElem?_cons_zero, List.getElem?_cons_succ]; rfl) (by kernel_rfl) (by kernel_rfl) (by kernel_rfl) (by kernel_rfl) (by intro _ _ _ h; exact h) (Or.inl ⟨by rfl, fun w hSw => by (dsimp only at hSw; go_simp; (try with_reducible rfl))⟩) (by assumption) ?_
        simp only [Act.put, List.setIfInBounds_toArray, List.set_cons_zero, List.set_cons_succ]
        refine wpAnyU_take (i := 4) (by simp only [List.getElem?_toArray, List.getElem?_cons_zero, List.getElem?_cons_succ]; rfl) (by kernel_rfl) (by kernel_rfl) (by kernel_rfl) (by kernel_rfl) (by intro _ _ _ h; exact h) (Or.inl ⟨by rfl, fun w hSw => by (dsimp only at hSw; go_simp; (try with_reducible rfl))⟩) (by assumption) ?_
        simp only [Act.put, List.setIfInBounds_toArray, List.set_cons_zero, List.set_cons_succ]
        refine wpAnyU_take (i := 5) (by simp only [List.getElem?_toArray, List.getElem?_cons_zero, List.getElem?_cons_succ]; rfl) (by kernel_rfl) (by kernel_rfl) (by kernel_rfl) (by kernel_rfl) (by intro _ _ _ h; exact h) (Or.inl ⟨by rfl, fun w hSw => by (dsimp only at hSw; go_simp; (try with_reducible rfl))⟩) (by assumption) ?_
        simp only [Act.put, List.setIfInBounds_toArray, List.set_cons_zero, List.set_cons_succ]
        refine wpAnyU_take (i := 6) (by simp only [List.getElem?_toArray, List.getElem?_cons_zero, List.getElem?_cons_succ]; rfl) (by kernel_rfl) (by kernel_rfl) (by kernel_rfl) (by kernel_rfl) (by intro _ _ _ h; exact h) (Or.inl ⟨by rfl, fun w hSw => by (dsimp only at hSw; go_simp; (try with_reducible rfl))⟩) (by assumption) ?_
        simp only [Act.put, List.setIfInBounds_toArray, List.set_cons_zero, List.set_cons_succ]
        refine wpAnyU_take (i := 7) (by simp only [List.getElem?_toArray, List.getElem?_cons_zero, List.getElem?_cons_succ]; rfl) (by kernel_rfl) (by kernel_rfl) (by kernel_rfl) (by kernel_rfl) (by intro _ _ _ h; exact h) (Or.inl ⟨by rfl, fun w hSw => by (dsimp only at hSw; go_simp; (try with_reducible rfl))⟩) (by assumption) ?_
        simp only [Act.put, List.setIfInBounds_toArray, List.set_cons_zero, List.set_cons_succ]
        refine wpAnyU_take (i := 8) (by simp only [List.getElem?_toArray, List.getElem?_cons_zero, List.getElem?_cons_succ]; rfl) (by kernel_rfl) (by kernel_rfl) (by kernel_rfl) (by kernel_rfl) (by intro _ _ _ h; exact h) (Or.inl ⟨by rfl, fun w hSw => by (dsimp only at hSw; go_simp; (try with_reducible rfl))⟩) (by assumption) ?_
        simp only [Act.put, List.setIfInBounds_toArray, List.set_cons_zero, List.set_cons_succ]
        refine wpAnyU_take (i := 9) (by simp only [List.getElem?_toArray, List.getElem?_cons_zero, List.getElem?_cons_succ]; rfl) (by kernel_rfl) (by kernel_rfl) (by kernel_rfl) (by kernel_rfl) (by intro _ _ _ h; exact h) (Or.inl ⟨by rfl, fun w hSw => by (dsimp only at hSw; go_simp; (try with_reducible rfl))⟩) (by assumption) ?_
        simp only [Act.put, List.setIfInBounds_toArray, List.set_cons_zero, List.set_cons_succ]
        refine wpAnyU_take (i := 10) (by simp only [List.getElem?_toArray, List.getElem?_cons_zero, List.getElem?_cons_succ]; rfl) (by kernel_rfl) (by kernel_rfl) (by kernel_rfl) (by kernel_rfl) (by intro _ _ _ h; exact h) (Or.inl ⟨by rfl, fun w hSw => by (dsimp only at hSw; go_simp; (try with_reducible rfl))⟩) (by assumption) ?_
        simp only [Act.put, List.setIfInBounds_toArray, List.set_cons_zero, List.set_cons_succ]
        refine wpAnyU_take (i := 11) (by simp only [List.getElem?_toArray, List.getElem?_cons_zero, List.getElem?_cons_succ]; rfl) (by kernel_rfl) (by kernel_rfl) (by kernel_rfl) (by kernel_rfl) (by intro _ _ _ h; exact h) (Or.inl ⟨by rfl, fun w hSw => by (dsimp only at hSw; go_simp; (try with_reducible rfl))⟩) (by assumption) ?_
        simp only [Act.put, List.setIfInBounds_toArray, List.set_cons_zero, List.set_cons_succ]
        refine wpAnyU_one (i := 12) (by kernel_rfl) (by simp only [List.getElem?_toArray, List.getElem?_cons_zero, List.getElem?_cons_succ]; rfl) ?_
        intro K hK
        go_simp
        refine hK.out _ _ ?_ (fun hHeld => ?_)
        · (((try dsimp only); (repeat' apply And.intro) <;> first | (go_keep; done) | (simp (disch := first | omega | (simp <;> omega) | fail) [*]; done) | fail))
        clear hK K
        try simp only [Act.put, List.setIfInBounds_toArray, List.set_cons_zero, List.set_cons_succ]
        refine wpAnyU_take (i := 13) (by simp only [List.getElem?_toArray, List.getElem?_cons_zero, List.getElem?_cons_succ]; rfl) (by kernel_rfl) (by kernel_rfl) (by kernel_rfl) (by kernel_rfl) (by intro _ _ _ h; exact h) (Or.inl ⟨by rfl, fun w hSw => by (dsimp only at hSw; go_simp; (try with_reducible rfl))⟩) (by assumption) ?_
        simp only [Act.put, List.setIfInBounds_toArray, List.set_cons_zero, List.set_cons_succ]
        refine wpAnyU_last (by kernel_rfl) (by simp only [List.getElem?_toArray, List.getElem?_cons_zero, List.getElem?_cons_succ]; rfl) ?_
        intro K hK
        go_simp
        refine hK.out _ _ ?_
        clear hK K
        try simp only [Act.put, List.setIfInBounds_toArray, List.set_cons_zero, List.set_cons_succ]
        refine wpAnyU_done (by kernel_rfl) ?_ _
        obtain ⟨V6, hV6⟩ : ∃ V6, V6 = (V.setCell ⟨R, 1, none⟩ (.slice (some ⟨gw, 0, none⟩) m c)).drew := ⟨_, rfl⟩
        rw [← hV6] at Y5 ⊢
        have HMes : Hid (waitOf R V6 < waitOf R wr) := by
          have : waitOf R V6 < waitOf R wr := by
            rw [Y5.out.waitOf, HW.out]; simp
          exact this
        have HRel : Hid (SetRel w0 R g o W wh V6) := ⟨_, _, _, _, Y5.out, by rw [List.length_append, HM.out]; simp; omega, HSet2.out⟩
        clear hV6 r0 r1 r2 f0 f1 f2 Y5 hHeld
        go_wp2_with fail
        go_roundw
        case rel => exact HRel.out
        case measure => exact HMes.out
    · have hgb2 : ¬ (g : Int) ≤ (b : Int) := by omega
      have fin : Hid (∃ vi' vw', Yd w0 w1 R vi' vw' (settleW g o W).1 (settleW g o W).2 wh) := by
        have : ∃ vi' vw', Yd w0 w1 R vi' vw' (settleW g o W).1 (settleW g o W).2 wh := by
          rw [← HSet.out, settle_none (by rw [HT.out, HB.out]; omega)]
          exact ⟨v1, v2, Y2.out⟩
        exact this
      clear Y2 HSet HT HW HB
      go_wp2_with fail
      exact bodyPost_end (v := .tuple #[]) (by first | rfl | kernel_rfl) rfl ⟨rfl, fin.out⟩
end Go.Proofs.YtfokdblojlmnlabGreatDoor

/-
  The contracts of the program's reader of sums: one token more, the end.
-/
namespace Go.Proofs.YtfokdblojlmnlabGreatDoor
open Go.ChangeShapes Go.WideShapes Go.ChangeAt Go.RowKit
attribute [local go_sem ↓] Go.wp_at_zero Go.wp_at_succ
attribute [local simp] World.cell?_alloc_past World.cell?_alloc_at World.frozen?_alloc_at cell_far cell_off cell_here World.frozen?_alloc_past

/-- What a step leaves. -/
def StepPost (w0 : World) (R : Nat) : Option YS → Ending → World → Prop
  | none, e, w' => e = .returned (.bool false) ∧ Below w0.heap.size w0 w'
  | some y, e, w' => e = .returned (.bool true) ∧ ∃ vi vw, Yd w0 w' R vi vw y.1 y.2.1 y.2.2
set_option maxRecDepth 100000 in
set_option maxHeartbeats 4000000 in
theorem alone_step {w0 w : World} {R : Nat} {vi vw : Value} {o : List TI} {W : List Int} {wh : Bool} (h : Yd w0 w R vi vw o W wh) (hm : o.length ≤ 1048576) (x : TI) :
    Calls Tryz.prog 138 #[.pointer (some ⟨R, 0, none⟩), .agg #[.int .i64 x.1, .int .i64 x.2.1.1, .int .i64 x.2.1.2.1, .string x.2.1.2.2, .string x.2.2]] w (StepPost w0 R (if wh = true then none else some (o ++ [x], W, true))) := by
  have H : Hid (Yd w0 w R vi vw o W wh) := h
  obtain ⟨r0, r1, r2⟩ := h.box.cells
  have hR := h.box.lt
  clear h
  obtain ⟨i0, hti, hz0, hz1, hz2⟩ := info_parts infoItm5
  have hA : Below w.heap.size w (w.alloc (.cells #[.int .i64 x.1, .int .i64 x.2.1.1, .int .i64 x.2.1.2.1, .string x.2.1.2.2, .string x.2.2] 102)) := (Below.refl _ _).alloc (Nat.le_refl _) _
  cases wh
  · obtain ⟨V, hV⟩ : ∃ V, V = w.alloc (.cells #[.int .i64 x.1, .int .i64 x.2.1.1, .int .i64 x.2.1.2.1, .string x.2.1.2.2, .string x.2.2] 102) := ⟨_, rfl⟩
    have Y1 : Hid (Yd w0 V R vi vw o W false) := by
      have : Yd w0 V R vi vw o W false := by rw [hV]; exact H.out.below hA
      exact this
    obtain ⟨d0, d1, d2, d3, d4, d5⟩ := box5 (w := w) (w1 := V) (a := .int .i64 x.1) (b := .int .i64 x.2.1.1) (c := .int .i64 x.2.1.2.1) (d := .string x.2.1.2.2) (e := .string x.2.2) (T := 102) (by rw [hV]; exact Below.refl _ _)
    go_enter Tryz.func138, Tryz.ntmps138
    go_upto_region 3 with fail
    rw [← hV]
    obtain ⟨B, hB⟩ : ∃ B, w.heap.size = B := ⟨_, rfl⟩
    rw [hB] at d0 d1 d2 d3 d4 d5 ⊢
    have HBo : Hid (some B ≠ vi.ownBlock) := by
      have : some B ≠ vi.ownBlock := fun e => by
        have := (H.out.ownI.lt B e.symm).2
        omega
      exact this
    clear hV r0 r1 r2 hR H hA hB
    obtain ⟨r0, r1, r2⟩ := Y1.out.box.cells
    have hR1 := Y1.out.box.lt
    have hn1 : V.heap.size ≠ R := by omega
    have hn2 : V.heap.size ≠ B := by omega
    go_wp2_with fail
    refine wp_region_until (z := 10) (S := (fun w' => w'.cell? ⟨R, 0, none⟩ = some vi ∧ w'.cell? ⟨B, 0, none⟩ = some (.int .i64 x.1) ∧ w'.cell? ⟨B, 1, none⟩ = some (.int .i64 x.2.1.1) ∧ w'.cell? ⟨B, 2, none⟩ = some (.int .i64 x.2.1.2.1) ∧ w'.cell? ⟨B, 3, none⟩ = some (.string x.2.1.2.2) ∧ w'.cell? ⟨B, 4, none⟩ = some (.string x.2.2))) (by kernel_rfl) ?_ (fun hHeld => ?_)
    · (((try dsimp only); (repeat' apply And.intro) <;> first | (go_keep; done) | (simp (disch := first | omega | (simp <;> omega) | fail) [*]; done) | fail))
    refine wpAnyU_take (i := 0) (by simp only [List.getElem?_toArray, List.getElem?_cons_zero]; rfl) (by kernel_rfl) (by kernel_rfl) (by kernel_rfl) (by kernel_rfl) (by intro _ _ _ h; exact h) (Or.inl ⟨by rfl, fun w hSw => by (dsimp only at hSw; go_simp; (try with_reducible rfl))⟩) (by assumption) ?_
    simp only [Act.put, List.setIfInBounds_toArray, List.set_cons_zero, List.set_cons_succ]
    refine wpAnyU_take (i := 1) (by simp only [List.getElem?_toArray, List.getElem?_cons_zero, List.getElem?_cons_succ]; rfl) (by kernel_rfl) (by kernel_rfl) (by kernel_rfl) (by kernel_rfl) (by intro _ _ _ h; exact h) (Or.inl ⟨by rfl, fun w hSw => by (dsimp only at hSw; go_simp; (try with_reducible rfl))⟩) (by assumption) ?_
    simp only [Act.put, List.setIfInBounds_toArray, List.set_cons_zero, List.set_cons_succ]
    refine wpAnyU_take (i := 2) (by simp only [List.getElem?_toArray, List.getElem?_cons_zero, List.getElem?_cons_succ]; rfl) (by kernel_rfl) (by kernel_rfl) (by kernel_rfl) (by kernel_rfl) (by intro _ _ _ h; exact h) (Or.inl ⟨by rfl, fun w hSw => by (dsimp only at hSw; go_simp; (try with_reducible rfl))⟩) (by assumption) ?_
    simp only [Act.put, List.setIfInBounds_toArray, List.set_cons_zero, List.set_cons_succ]
    refine wpAnyU_take (i := 3) (by simp only [List.getElem?_toArray, List.getElem?_cons_zero, List.getElem?_cons_succ]; rfl) (by kernel_rfl) (by kernel_rfl) (by kernel_rfl) (by kernel_rfl) (by intro _ _ _ h; exact h) (Or.inl ⟨by rfl, fun w hSw => by (dsimp only at hSw; go_simp; (try with_reducible rfl))⟩) (by assumption) ?_
    simp only [Act.put, List.setIfInBounds_toArray, List.set_cons_zero, List.set_cons_succ]
    refine wpAnyU_take (i := 4) (by simp only [List.getElem?_toArray, List.getElem?_cons_zero, List.getElem?_cons_succ]; rfl) (by kernel_rfl) (by kernel_rfl) (by kernel_rfl) (by kernel_rfl) (by intro _ _ _ h; exact h) (Or.inl ⟨by rfl, fun w hSw => by (dsimp only at hSw; go_simp; (try with_reducible rfl))⟩) (by assumption) ?_
    simp only [Act.put, List.setIfInBounds_toArray, List.set_cons_zero, List.set_cons_succ]
    refine wpAnyU_take (i := 5) (by simp only [List.getElem?_toArray, List.getElem?_cons_zero, List.getElem?_cons_succ]; rfl) (by kernel_rfl) (by kernel_rfl) (by kernel_rfl) (by kernel_rfl) (by intro _ _ _ h; exact h) (Or.inl ⟨by rfl, fun w hSw => by (dsimp only at hSw; go_simp; (try with_reducible rfl))⟩) (by assumption) ?_
    simp only [Act.put, List.setIfInBounds_toArray, List.set_cons_zero, List.set_cons_succ]
    refine wpAnyU_one (i := 6) (by kernel_rfl) (by simp only [List.getElem?_toArray, List.getElem?_cons_zero, List.getElem?_cons_succ]; rfl) ?_
    intro K hK
    go_simp
    refine hK.out _ _ ?_ (fun hHeld => ?_)
    · (((try dsimp only); (repeat' apply And.intro) <;> first | (go_keep; done) | (simp (disch := first | omega | (simp <;> omega) | fail) [*]; done) | fail))
    clear hK K
    try simp only [Act.put, List.setIfInBounds_toArray, List.set_cons_zero, List.set_cons_succ]
    refine wpAnyU_one (i := 7) (by kernel_rfl) (by simp only [List.getElem?_toArray, List.getElem?_cons_zero, List.getElem?_cons_succ]; rfl) ?_
    intro K hK
    rw [if_pos (by rfl)]
    refine wp_append_own _ _ _ 60 rfl w0.heap.size 102 i0 (.agg #[.int .i64 0, .int .i64 0, .int .i64 0, .string ⟨#[]⟩, .string ⟨#[]⟩]) 5 56 Tryz.underlying60 hti hz0 hz1 hz2 rfl (by decide) vi o.length (flatItm o) rfl ((Y1.out.below (Below.refl _ _).drew).ownI.alloc _) ⟨V.heap.size, 0, none⟩ 1 1 [.int .i64 x.1, .int .i64 x.2.1.1, .int .i64 x.2.1.2.1, .string x.2.1.2.2, .string x.2.2] rfl rfl (cells5I V.drew _ _ _ _ _) (by intro u hu; simp at hu; rcases hu with rfl | rfl | rfl | rfl | rfl <;> rfl) (by unfold maxLen; omega) (by omega) (by have := Y1.out.kept.size; simp; omega) ?_
    intro v' w5 own5 hgrow hnn
    obtain ⟨gv, cv, hv', hbx, hfin⟩ := (Y1.out.below (Below.refl _ _).drew).pushI _ x own5 hgrow
    have hk5 : ∀ q, w5.cell? ⟨B, q, none⟩ = V.cell? ⟨B, q, none⟩ := fun q => by
      have h1 := World.cell?_of_block (a := ⟨B, q, none⟩) (hgrow.block B (by simp; omega) HBo.out)
      rw [h1]
      simp (disch := omega)
    subst hv'
    obtain ⟨L, hL⟩ : ∃ L, o.length + 1 = L := ⟨_, rfl⟩
    rw [hL] at hfin
    have Y4 : Hid (Yd w0 (w5.setCell ⟨R, 0, none⟩ (.slice (some ⟨gv, 0, none⟩) L cv)) R (.slice (some ⟨gv, 0, none⟩) L cv) vw (o ++ [x]) W false) := hfin
    clear r0 r1 r2 hHeld
    rw [← hk5] at d0 d1 d2 d3 d4
    obtain ⟨s0, s1, s2⟩ := hbx.cells
    obtain ⟨g1, g2, g3⟩ := hbx.free
    have hR5 := hbx.lt
    rw [hL]
    clear own5 hgrow hnn hbx hfin hL Y1 hk5
    refine hK.out _ _ ?_ (fun hHeld => ?_)
    · (((try dsimp only); (repeat' apply And.intro) <;> first | assumption | (simp (disch := first | omega | (simp <;> omega) | fail) [*]; done) | fail))
    clear hK K
    try simp only [Act.put, List.setIfInBounds_toArray, List.set_cons_zero, List.set_cons_succ]
    refine wpAnyU_one (i := 8) (by kernel_rfl) (by simp only [List.getElem?_toArray, List.getElem?_cons_zero, List.getElem?_cons_succ]; rfl) ?_
    intro K hK
    go_simp
    refine hK.out _ _ ?_ (fun hHeld => ?_)
    · (((try dsimp only); (repeat' apply And.intro) <;> first | (go_keep; done) | (simp (disch := first | omega | (simp <;> omega) | fail) [*]; done) | fail))
    clear hK K
    try simp only [Act.put, List.setIfInBounds_toArray, List.set_cons_zero, List.set_cons_succ]
    refine wpAnyU_take (i := 9) (by simp only [List.getElem?_toArray, List.getElem?_cons_zero, List.getElem?_cons_succ]; rfl) (by kernel_rfl) (by kernel_rfl) (by kernel_rfl) (by kernel_rfl) (by intro _ _ _ h; exact h) (Or.inl ⟨by rfl, fun w hSw => by (dsimp only at hSw; go_simp; (try with_reducible rfl))⟩) (by assumption) ?_
    simp only [Act.put, List.setIfInBounds_toArray, List.set_cons_zero, List.set_cons_succ]
    refine wpAnyU_last (by kernel_rfl) (by simp only [List.getElem?_toArray, List.getElem?_cons_zero, List.getElem?_cons_succ]; rfl) ?_
    intro K hK
    go_simp
    refine hK.out _ _ ?_
    clear hK K
    try simp only [Act.put, List.setIfInBounds_toArray, List.set_cons_zero, List.set_cons_succ]
    refine wpAnyU_done (by kernel_rfl) ?_ _
    obtain ⟨V6, hV6⟩ : ∃ V6, V6 = w5.setCell ⟨R, 0, none⟩ (.slice (some ⟨gv, 0, none⟩) L cv) := ⟨_, rfl⟩
    rw [← hV6] at Y4 ⊢
    clear hV6 s0 s1 s2 g1 g2 g3 d0 d1 d2 d3 d4 hHeld hR5
    obtain ⟨q0, q1, q2⟩ := Y4.out.box.cells
    obtain ⟨f0, f1, f2⟩ := Y4.out.box.free
    have Y7 : Hid (Yd w0 (V6.setCell ⟨R, 2, none⟩ (.bool true)) R (.slice (some ⟨gv, 0, none⟩) L cv) vw (o ++ [x]) W true) := Y4.out.whole true
    go_wp2
    go_ret
    exact ⟨rfl, _, _, Y7.out⟩
  · go_enter Tryz.func138, Tryz.ntmps138
    go_wp2
    go_ret
    exact ⟨rfl, H.out.kept.trans (hA.mono H.out.kept.size)⟩
set_option maxRecDepth 100000 in
set_option maxHeartbeats 4000000 in
theorem open_step {w0 w : World} {R : Nat} {vi vw : Value} {o : List TI} {W : List Int} {wh : Bool} (h : Yd w0 w R vi vw o W wh) (hm : W.length ≤ 1048576) :
    Calls Tryz.prog 139 #[.pointer (some ⟨R, 0, none⟩)] w (StepPost w0 R (if wh = true then none else some (o, 0 :: W, false))) := by
  have H : Hid (Yd w0 w R vi vw o W wh) := h
  obtain ⟨r0, r1, r2⟩ := h.box.cells
  have hR := h.box.lt
  clear h
  cases wh
  · go_enter Tryz.func139, Tryz.ntmps139
    clear r0 r1
    obtain ⟨j0, htj, hy0, hy1, hy2⟩ := info_parts infoInt
    obtain ⟨q0, q1, q2⟩ := H.out.box.cells
    have hRq := H.out.box.lt
    obtain ⟨gx, cx, hvx, _⟩ := H.out.formW
    subst hvx
    go_wp2_with (at_builtin; refine wpList_append_own _ rfl _ _ 107 rfl w0.heap.size 2 j0 (.int .i64 0) 1 8 Tryz.underlying107 htj hy0 hy1 hy2 rfl (by decide) _ _ _ rfl (H.out.ownW.alloc _) ⟨w.heap.size, 0, none⟩ 1 1 [.int .i64 0] rfl rfl (cells1K w _) (by intro u hu; simp at hu; subst hu; rfl) (by unfold maxLen; omega) (by omega) (by have := H.out.kept.size; simp; omega) ?_)
    intro v' wz ownz hgrow hnn
    obtain ⟨gv, cv, hv', hbx, hfin⟩ := H.out.pushW _ 0 ownz hgrow
    subst hv'
    obtain ⟨L, hL⟩ : ∃ L, W.length + 1 = L := ⟨_, rfl⟩
    rw [hL] at hfin
    have Yz : Hid (Yd w0 (wz.setCell ⟨R, 1, none⟩ (.slice (some ⟨gv, 0, none⟩) L cv)) R _ (.slice (some ⟨gv, 0, none⟩) L cv) o (0 :: W) false) := hfin
    obtain ⟨s0, s1, s2⟩ := hbx.cells
    obtain ⟨t0, t1, t2⟩ := hbx.free
    have hRz := hbx.lt
    rw [hL]
    clear ownz hgrow hnn hbx hfin hL q0 q1 q2 hRq
    go_wp2
    go_ret
    exact ⟨rfl, _, _, Yz.out⟩
  · go_enter Tryz.func139, Tryz.ntmps139
    go_wp2
    go_ret
    exact ⟨rfl, H.out.kept⟩
set_option maxRecDepth 100000 in
set_option maxHeartbeats 4000000 in
theorem ahead_step {w0 w : World} {R : Nat} {vi vw : Value} {o : List TI} {W : List Int} {wh : Bool} (h : Yd w0 w R vi vw o W wh) (hm : W.length ≤ 1048576) (k : Int) :
    Calls Tryz.prog 142 #[.pointer (some ⟨R, 0, none⟩), .int .i64 k] w (StepPost w0 R (aheadY k (o, W, wh))) := by
  have H : Hid (Yd w0 w R vi vw o W wh) := h
  obtain ⟨r0, r1, r2⟩ := h.box.cells
  have hR := h.box.lt
  clear h
  cases wh
  · obtain ⟨t, ht⟩ : ∃ t, topK W = t := ⟨_, rfl⟩
    have HT : Hid (topK W = t) := ht
    obtain ⟨b, hb⟩ : ∃ b, bindK t = b := ⟨_, rfl⟩
    have HB : Hid (bindK t = b) := hb
    obtain ⟨c, hc⟩ : ∃ c, bindK k = c := ⟨_, rfl⟩
    have HC : Hid (bindK k = c) := hc
    have hres : aheadY k (o, W, false) = if c < b then none else some (o, k :: W, false) := by
      unfold aheadY
      dsimp only
      rw [ht, hb, hc]
      by_cases h : c < b
      · rw [if_pos (.inr h), if_pos h]
      · rw [if_neg (by simp [h]), if_neg h]
    obtain ⟨res, hre⟩ : ∃ res, aheadY k (o, W, false) = res := ⟨_, rfl⟩
    have HR1 : Hid (c < b → res = none) := by
      have : c < b → res = none := fun h => by rw [← hre, hres, if_pos h]
      exact this
    have HR2 : Hid (¬ c < b → res = some (o, k :: W, false)) := by
      have : ¬ c < b → res = some (o, k :: W, false) := fun h => by rw [← hre, hres, if_neg h]
      exact this
    rw [hre]
    clear ht hb hc hres hre
    go_enter Tryz.func142, Tryz.ntmps142
    go_wp2_with fail
    refine (last_impl H.out t HT.out).mono ?_
    rintro e w1 ⟨rfl, hb1⟩
    have Y1 : Hid (Yd w0 w1 R vi vw o W false) := H.out.below hb1
    clear H hb1 r0 r1 r2 hR
    go_wp2_with fail
    refine (binding_impl t b HB.out _).mono ?_
    rintro e w2 ⟨rfl, hw2⟩
    obtain rfl : w1 = w2 := hw2.symm
    go_wp2_with fail
    refine (binding_impl k c HC.out _).mono ?_
    rintro e w2 ⟨rfl, hw2⟩
    obtain rfl : w1 = w2 := hw2.symm
    by_cases hcb : c < b
    · have hcb2 : (c : Int) < (b : Int) := by omega
      obtain rfl : res = none := HR1.out hcb
      go_wp2
      go_ret
      exact ⟨rfl, Y1.out.kept⟩
    · have hcb2 : ¬ (c : Int) < (b : Int) := by omega
      obtain rfl : res = some (o, k :: W, false) := HR2.out hcb
      obtain ⟨j0, htj, hy0, hy1, hy2⟩ := info_parts infoInt
      obtain ⟨q0, q1, q2⟩ := Y1.out.box.cells
      have hRq := Y1.out.box.lt
      obtain ⟨gx, cx, hvx, _⟩ := Y1.out.formW
      subst hvx
      go_wp2_with (at_builtin; refine wpList_append_own _ rfl _ _ 107 rfl w0.heap.size 2 j0 (.int .i64 0) 1 8 Tryz.underlying107 htj hy0 hy1 hy2 rfl (by decide) _ _ _ rfl (Y1.out.ownW.alloc _) ⟨w1.heap.size, 0, none⟩ 1 1 [.int .i64 k] rfl rfl (cells1K w1 _) (by intro u hu; simp at hu; subst hu; rfl) (by unfold maxLen; omega) (by omega) (by have := Y1.out.kept.size; simp; omega) ?_)
      intro v' wz ownz hgrow hnn
      obtain ⟨gv, cv, hv', hbx, hfin⟩ := Y1.out.pushW _ k ownz hgrow
      subst hv'
      obtain ⟨L, hL⟩ : ∃ L, W.length + 1 = L := ⟨_, rfl⟩
      rw [hL] at hfin
      have Yz : Hid (Yd w0 (wz.setCell ⟨R, 1, none⟩ (.slice (some ⟨gv, 0, none⟩) L cv)) R _ (.slice (some ⟨gv, 0, none⟩) L cv) o (k :: W) false) := hfin
      obtain ⟨s0, s1, s2⟩ := hbx.cells
      obtain ⟨t0, t1, t2⟩ := hbx.free
      have hRz := hbx.lt
      rw [hL]
      clear ownz hgrow hnn hbx hfin hL q0 q1 q2 hRq
      go_wp2
      go_ret
      exact ⟨rfl, _, _, Yz.out⟩
  · have hres : aheadY k (o, W, true) = none := by unfold aheadY; rw [if_pos (.inl rfl)]
    rw [hres]
    clear hres
    go_enter Tryz.func142, Tryz.ntmps142
    go_wp2
    go_ret
    exact ⟨rfl, H.out.kept⟩
set_option maxRecDepth 100000 in
set_option maxHeartbeats 4000000 in
theorem close_step {w0 w : World} {R : Nat} {vi vw : Value} {o : List TI} {W : List Int} {wh : Bool} (h : Yd w0 w R vi vw o W wh) (hm : o.length + W.length ≤ 1048576) :
    Calls Tryz.prog 140 #[.pointer (some ⟨R, 0, none⟩)] w (StepPost w0 R (closeY (o, W, wh))) := by
  have H : Hid (Yd w0 w R vi vw o W wh) := h
  obtain ⟨r0, r1, r2⟩ := h.box.cells
  have hR := h.box.lt
  clear h
  cases wh
  · have hres : closeY (o, W, false) = none := by unfold closeY; rw [if_pos rfl]
    rw [hres]
    clear hres
    go_enter Tryz.func140, Tryz.ntmps140
    go_wp2
    go_ret
    exact ⟨rfl, H.out.kept⟩
  · obtain ⟨o1, W1, hS⟩ : ∃ o1 W1, settleW 1 o W = (o1, W1) := ⟨_, _, rfl⟩
    have HS : Hid (settleW 1 o W = (o1, W1)) := hS
    obtain ⟨res, hre⟩ : ∃ res, closeY (o, W, true) = res := ⟨_, rfl⟩
    have HR1 : Hid (W1 = [] → res = none) := by
      have : W1 = [] → res = none := fun e => by
        subst e
        rw [← hre]
        unfold closeY
        rw [if_neg (by simp)]
        dsimp only
        rw [hS]
      exact this
    have HR2 : Hid (∀ k W2, W1 = k :: W2 → res = some (o1, W2, true)) := by
      have : ∀ k W2, W1 = k :: W2 → res = some (o1, W2, true) := fun k W2 e => by
        subst e
        rw [← hre]
        unfold closeY
        rw [if_neg (by simp)]
        dsimp only
        rw [hS]
      exact this
    rw [hre]
    clear hS hre
    go_enter Tryz.func140, Tryz.ntmps140
    go_wp2_with fail
    refine (binding_impl 10 1 rfl _).mono ?_
    rintro e w1 ⟨rfl, hw1⟩
    obtain rfl : w = w1 := hw1.symm
    go_wp2_with fail
    refine (settle_impl H.out hm 1 (by omega)).mono ?_
    rintro e w2 ⟨rfl, vi2, vw2, hY2⟩
    rw [HS.out] at hY2
    have Y2 : Hid (Yd w0 w2 R vi2 vw2 o1 W1 true) := hY2
    clear H hY2 r0 r1 r2 hR
    cases W1 with
    | nil =>
      obtain rfl : res = none := HR1.out rfl
      obtain ⟨q0, q1, q2⟩ := Y2.out.box.cells
      obtain ⟨ga, c, hvx, _⟩ := Y2.out.formW
      subst hvx
      simp only [List.length_nil] at q1
      go_wp2
      go_ret
      exact ⟨rfl, Y2.out.kept⟩
    | cons k W2 =>
      obtain rfl : res = some (o1, W2, true) := HR2.out k W2 rfl
      obtain ⟨q0, q1, q2⟩ := Y2.out.box.cells
      obtain ⟨f0, f1, f2⟩ := Y2.out.box.free
      obtain ⟨ga, c, hvx, hwc, hcm, hgs⟩ := Y2.out.formW
      subst hvx
      obtain ⟨gw, hgw⟩ := hgs (by simp)
      subst hgw
      have YC : Hid (Yd w0 (w2.setCell ⟨R, 1, none⟩ (.slice (some ⟨gw, 0, none⟩) W2.length c)).drew R vi2 (.slice (some ⟨gw, 0, none⟩) W2.length c) o1 W2 true) := (Y2.out.cut).below (Below.refl _ _).drew
      unfold maxLen at hcm
      simp only [List.length_cons] at q1 hwc
      obtain ⟨m, hm'⟩ : ∃ m, W2.length = m := ⟨_, rfl⟩
      have HM : Hid (W2.length = m) := hm'
      rw [hm'] at q1 hwc YC
      have hj1 : ((m + 1 : Nat) : Int) - 1 = (m : Int) := by omega
      have hj3 : (m : Int) ≤ ((m + 1 : Nat) : Int) := by omega
      have hj4 : (0 : Int) ≤ (m : Int) := by omega
      have hj5 : (m : Int) ≤ (c : Int) := by omega
      have hj6 : (((m + 1 : Nat) : Int) == 0) = false := by simpa using (show ¬ ((m + 1 : Nat) : Int) = 0 by omega)
      have hRV := Y2.out.box.lt
      have hwk : IntKind.i64.wrap (m : Int) = (m : Int) := by rw [IntKind.wrap_i64]; omega

      clear hm' hgs
      go_wp2_with fail
      refine wp_region_until (z := 14) (S := (fun w' => w'.cell? ⟨R, 1, none⟩ = some (.slice (some ⟨gw, 0, none⟩) (m + 1) c))) (by kernel_rfl) ?_ (fun hHeld => ?_)
      · (((try dsimp only); (repeat' apply And.intro) <;> first | (go_keep; done) | (simp (disch := first | omega | (simp <;> omega) | fail) [*]; done) | fail))
      refine wpAnyU_take (i := 0) (by simp only [List.getElem?_toArray, List.getElem?_cons_zero]; rfl) (by kernel_rfl) (by kernel_rfl) (by kernel_rfl) (by kernel_rfl) (by intro _ _ _ h; exact h) (Or.inl ⟨by rfl, fun w hSw => by (dsimp only at hSw; go_simp; (try with_reducible rfl))⟩) (by assumption) ?_
      simp only [Act.put, List.setIfInBounds_toArray, List.set_cons_zero, List.set_cons_succ]
      refine wpAnyU_take (i := 1) (by simp only [List.getElem?_toArray, List.getElem?_cons_zero, List.getElem?_cons_succ]; rfl) (by kernel_rfl) (by kernel_rfl) (by kernel_rfl) (by kernel_rfl) (by intro _ _ _ h; exact h) (Or.inl ⟨by rfl, fun w hSw => by (dsimp only at hSw; go_simp; (try with_reducible rfl))⟩) (by assumption) ?_
      simp only [Act.put, List.setIfInBounds_toArray, List.set_cons_zero, List.set_cons_succ]
      refine wpAnyU_take (i := 2) (by simp only [List.getElem?_toArray, List.getElem?_cons_zero, List.getElem?_cons_succ]; rfl) (by kernel_rfl) (by kernel_rfl) (by kernel_rfl) (by kernel_rfl) (by intro _ _ _ h; exact h) (Or.inl ⟨by rfl, fun w hSw => by (dsimp only at hSw; go_simp; (try with_reducible rfl))⟩) (by assumption) ?_
      simp only [Act.put, List.setIfInBounds_toArray, List.set_cons_zero, List.set_cons_succ]
      refine wpAnyU_take (i := 3) (by simp only [List.getElem?_toArray, List.getElem?_cons_zero, List.getElem?_cons_succ]; rfl) (by kernel_rfl) (by kernel_rfl) (by kernel_rfl) (by kernel_rfl) (by intro _ _ _ h; exact h) (Or.inl ⟨by rfl, fun w hSw => by (dsimp only at hSw; go_simp; (try with_reducible rfl))⟩) (by assumption) ?_
      simp only [Act.put, List.setIfInBounds_toArray, List.set_cons_zero, List.set_cons_succ]
      refine wpAnyU_take (i := 4) (by simp only [List.getElem?_toArray, List.getElem?_cons_zero, List.getElem?_cons_succ]; rfl) (by kernel_rfl) (by kernel_rfl) (by kernel_rfl) (by kernel_rfl) (by intro _ _ _ h; exact h) (Or.inl ⟨by rfl, fun w hSw => by (dsimp only at hSw; go_simp; (try with_reducible rfl))⟩) (by assumption) ?_
      simp only [Act.put, List.setIfInBounds_toArray, List.set_cons_zero, List.set_cons_succ]
      refine wpAnyU_take (i := 5) (by simp only [List.getElem?_toArray, List.getElem?_cons_zero, List.getElem?_cons_succ]; rfl) (by kernel_rfl) (by kernel_rfl) (by kernel_rfl) (by kernel_rfl) (by intro _ _ _ h; exact h) (Or.inl ⟨by rfl, fun w hSw => by (dsimp only at hSw; go_simp; (try with_reducible rfl))⟩) (by assumption) ?_
      simp only [Act.put, List.setIfInBounds_toArray, List.set_cons_zero, List.set_cons_succ]
      refine wpAnyU_take (i := 6) (by simp only [List.getElem?_toArray, List.getElem?_cons_zero, List.getElem?_cons_succ]; rfl) (by kernel_rfl) (by kernel_rfl) (by kernel_rfl) (by kernel_rfl) (by intro _ _ _ h; exact h) (Or.inl ⟨by rfl, fun w hSw => by (dsimp only at hSw; go_simp; (try with_reducible rfl))⟩) (by assumption) ?_
      simp only [Act.put, List.setIfInBounds_toArray, List.set_cons_zero, List.set_cons_succ]
      refine wpAnyU_take (i := 7) (by simp only [List.getElem?_toArray, List.getElem?_cons_zero, List.getElem?_cons_succ]; rfl) (by kernel_rfl) (by kernel_rfl) (by kernel_rfl) (by kernel_rfl) (by intro _ _ _ h; exact h) (Or.inl ⟨by rfl, fun w hSw => by (dsimp only at hSw; go_simp; (try with_reducible rfl))⟩) (by assumption) ?_
      simp only [Act.put, List.setIfInBounds_toArray, List.set_cons_zero, List.set_cons_succ]
      refine wpAnyU_take (i := 8) (by simp only [List.getElem?_toArray, List.getElem?_cons_zero, List.getElem?_cons_succ]; rfl) (by kernel_rfl) (by kernel_rfl) (by kernel_rfl) (by kernel_rfl) (by intro _ _ _ h; exact h) (Or.inl ⟨by rfl, fun w hSw => by (dsimp only at hSw; go_simp; (try with_reducible rfl))⟩) (by assumption) ?_
      simp only [Act.put, List.setIfInBounds_toArray, List.set_cons_zero, List.set_cons_succ]
      refine wpAnyU_take (i := 9) (by simp only [List.getElem?_toArray, List.getElem?_cons_zero, List.getElem?_cons_succ]; rfl) (by kernel_rfl) (by kernel_rfl) (by kernel_rfl) (by kernel_rfl) (by intro _ _ _ h; exact h) (Or.inl ⟨by rfl, fun w hSw => by (dsimp only at hSw; go_simp; (try with_reducible rfl))⟩) (by assumption) ?_
      simp only [Act.put, List.setIfInBounds_toArray, List.set_cons_zero, List.set_cons_succ]
      refine wpAnyU_take (i := 10) (by simp only [List.getElem?_toArray, List.getElem?_cons_zero, List.getElem?_cons_succ]; rfl) (by kernel_rfl) (by kernel_rfl) (by kernel_rfl) (by kernel_rfl) (by intro _ _ _ h; exact h) (Or.inl ⟨by rfl, fun w hSw => by (dsimp only at hSw; go_simp; (try with_reducible rfl))⟩) (by assumption) ?_
      simp only [Act.put, List.setIfInBounds_toArray, List.set_cons_zero, List.set_cons_succ]
      refine wpAnyU_take (i := 11) (by simp only [List.getElem?_toArray, List.getElem?_cons_zero, List.getElem?_cons_succ]; rfl) (by kernel_rfl) (by kernel_rfl) (by kernel_rfl) (by kernel_rfl) (by intro _ _ _ h; exact h) (Or.inl ⟨by rfl, fun w hSw => by (dsimp only at hSw; go_simp; (try with_reducible rfl))⟩) (by assumption) ?_
      simp only [Act.put, List.setIfInBounds_toArray, List.set_cons_zero, List.set_cons_succ]
      refine wpAnyU_one (i := 12) (by kernel_rfl) (by simp only [List.getElem?_toArray, List.getElem?_cons_zero, List.getElem?_cons_succ]; rfl) ?_
      intro K hK
      go_simp
      refine hK.out _ _ ?_ (fun hHeld => ?_)
      · (((try dsimp only); (repeat' apply And.intro) <;> first | (go_keep; done) | (simp (disch := first | omega | (simp <;> omega) | fail) [*]; done) | fail))
      clear hK K
      try simp only [Act.put, List.setIfInBounds_toArray, List.set_cons_zero, List.set_cons_succ]
      refine wpAnyU_take (i := 13) (by simp only [List.getElem?_toArray, List.getElem?_cons_zero, List.getElem?_cons_succ]; rfl) (by kernel_rfl) (by kernel_rfl) (by kernel_rfl) (by kernel_rfl) (by intro _ _ _ h; exact h) (Or.inl ⟨by rfl, fun w hSw => by (dsimp only at hSw; go_simp; (try with_reducible rfl))⟩) (by assumption) ?_
      simp only [Act.put, List.setIfInBounds_toArray, List.set_cons_zero, List.set_cons_succ]
      refine wpAnyU_last (by kernel_rfl) (by simp only [List.getElem?_toArray, List.getElem?_cons_zero, List.getElem?_cons_succ]; rfl) ?_
      intro K hK
      go_simp
      refine hK.out _ _ ?_
      clear hK K
      try simp only [Act.put, List.setIfInBounds_toArray, List.set_cons_zero, List.set_cons_succ]
      refine wpAnyU_done (by kernel_rfl) ?_ _
      obtain ⟨VC, hVC⟩ : ∃ VC, VC = (w2.setCell ⟨R, 1, none⟩ (.slice (some ⟨gw, 0, none⟩) m c)).drew := ⟨_, rfl⟩
      rw [← hVC] at YC ⊢
      clear hVC q0 q1 q2 f0 f1 f2 hHeld
      go_wp2
      go_ret
      exact ⟨rfl, _, _, YC.out⟩
set_option maxRecDepth 100000 in
set_option maxHeartbeats 4000000 in
theorem ends_step {w0 w : World} {R : Nat} {vi vw : Value} {o : List TI} {W : List Int} {wh : Bool} (h : Yd w0 w R vi vw o W wh) (hm : o.length + W.length ≤ 1048576) :
    Calls Tryz.prog 87 #[.pointer (some ⟨R, 0, none⟩)] w fun e w' => e = .returned (.bool (endY (o, W, wh)).isSome) ∧ ∃ vi' vw', Yd w0 w' R vi' vw' (settleW 1 o W).1 (settleW 1 o W).2 wh := by
  have H : Hid (Yd w0 w R vi vw o W wh) := h
  obtain ⟨r0, r1, r2⟩ := h.box.cells
  have hR := h.box.lt
  clear h
  obtain ⟨o1, W1, hS⟩ : ∃ o1 W1, settleW 1 o W = (o1, W1) := ⟨_, _, rfl⟩
  have HS : Hid (settleW 1 o W = (o1, W1)) := hS
  have hres : (endY (o, W, wh)).isSome = (wh && decide (W1 = [])) := by
    unfold endY
    dsimp only
    rw [hS]
    cases wh <;> cases W1 <;> simp
  rw [hres, hS]
  clear hS hres
  go_enter Tryz.func87, Tryz.ntmps87
  go_wp2_with fail
  refine (binding_impl 10 1 rfl _).mono ?_
  rintro e w1 ⟨rfl, hw1⟩
  obtain rfl : w = w1 := hw1.symm
  go_wp2_with fail
  refine (settle_impl H.out hm 1 (by omega)).mono ?_
  rintro e w2 ⟨rfl, vi2, vw2, hY2⟩
  rw [HS.out] at hY2
  have Y2 : Hid (Yd w0 w2 R vi2 vw2 o1 W1 wh) := hY2
  clear H hY2 r0 r1 r2 hR
  obtain ⟨q0, q1, q2⟩ := Y2.out.box.cells
  cases wh
  · go_wp2
    go_ret
    exact ⟨rfl, _, _, Y2.out⟩
  · obtain ⟨ga, c, hvx, _⟩ := Y2.out.formW
    subst hvx
    cases W1 with
    | nil =>
      simp only [List.length_nil] at q1
      go_wp2
      go_ret
      exact ⟨rfl, _, _, Y2.out⟩
    | cons k W2 =>
      obtain ⟨m, hm'⟩ : ∃ m, W2.length = m := ⟨_, rfl⟩
      simp only [List.length_cons, hm'] at q1
      have hj6 : (((m + 1 : Nat) : Int) == 0) = false := by simpa using (show ¬ ((m + 1 : Nat) : Int) = 0 by omega)
      have hj7 : ((m : Int) + 1 == 0) = false := by simpa using (show ¬ (m : Int) + 1 = 0 by omega)
      go_wp2
      go_ret
      exact ⟨ret_bool (by simp), _, _, Y2.out⟩
end Go.Proofs.YtfokdblojlmnlabGreatDoor
