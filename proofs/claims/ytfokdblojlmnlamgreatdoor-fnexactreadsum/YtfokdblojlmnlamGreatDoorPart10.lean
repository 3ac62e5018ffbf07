/-
  A part of the proof: YardI3, YardI4, YardI5.
-/
import Derived.Test.YtfokdblojlmnlamGreatDoorPart9

/-
  The contracts of the program's reader of sums: one token more, the end.
-/
namespace Go.Proofs.YtfokdblojlmnlamGreatDoor
open Go.ChangeShapes Go.WideShapes Go.ChangeAt Go.RowKit
attribute [local go_sem ↓] Go.wp_at_zero Go.wp_at_succ
attribute [local simp] World.cell?_alloc_past World.cell?_alloc_at World.frozen?_alloc_at cell_far cell_off cell_here World.frozen?_alloc_past

/-- What a step leaves. -/
def StepPost (w0 : World) (R : Nat) : Option YS → Ending → World → Prop
  | none, e, w' => e = .returned (.bool false) ∧ Below w0.heap.size w0 w'
  | some y, e, w' => e = .returned (.bool true) ∧ ∃ vi vw, Yd w0 w' R vi vw y.1 y.2.1 y.2.2
set_option maxRecDepth 100000 in
set_option maxHeartbeats 4000000 in
theorem alone_step {w0 w : World} {R : Nat} {vi vw : Value} {o : List TI} {W : List Int} {wh : Bool} (h : Yd w0 w R vi vw o W wh) (hm : o.length ≤ 1048576) (x : TI) :
    Calls Tryz.prog 52 #[.pointer (some ⟨R, 0, none⟩), .agg #[.int .i64 x.1, .int .i64 x.2.1.1, .int .i64 x.2.1.2.1, .string x.2.1.2.2, .string x.2.2]] w (StepPost w0 R (if wh = true then none else some (o ++ [x], W, true))) := by
  have H : Hid (Yd w0 w R vi vw o W wh) := h
  obtain ⟨r0, r1, r2⟩ := h.box.cells
  have hR := h.box.lt
  clear h
  obtain ⟨i0, hti, hz0, hz1, hz2⟩ := info_parts infoItm5
  have hA : Below w.heap.size w (w.alloc (.cells #[.int .i64 x.1, .int .i64 x.2.1.1, .int .i64 x.2.1.2.1, .string x.2.1.2.2, .string x.2.2] 63)) := (Below.refl _ _).alloc (Nat.le_refl _) _
  cases wh
  · obtain ⟨V, hV⟩ : ∃ V, V = w.alloc (.cells #[.int .i64 x.1, .int .i64 x.2.1.1, .int .i64 x.2.1.2.1, .string x.2.1.2.2, .string x.2.2] 63) := ⟨_, rfl⟩
    have Y1 : Hid (Yd w0 V R vi vw o W false) := by
      have : Yd w0 V R vi vw o W false := by rw [hV]; exact H.out.below hA
      exact this
    obtain ⟨d0, d1, d2, d3, d4, d5⟩ := box5 (w := w) (w1 := V) (a := .int .i64 x.1) (b := .int .i64 x.2.1.1) (c := .int .i64 x.2.1.2.1) (d := .string x.2.1.2.2) (e := .string x.2.2) (T := 63) (by rw [hV]; exact Below.refl _ _)
    go_enter Tryz.func52, Tryz.ntmps52
    go_upto_region 3 with fail
    rw [← hV]
    obtain ⟨B, hB⟩ : ∃ B, w.heap.size = B := ⟨_, rfl⟩
    rw [hB] at d0 d1 d2 d3 d4 d5 ⊢
    have HBo : Hid (some B ≠ vi.ownBlock) := by
      have : some B ≠ vi.ownBlock := fun e => by
        have := (H.out.ownI.lt B e.symm).2
        omega
      exact this
    clear hV r0 r1 r2 hR H hA hB
    obtain ⟨r0, r1, r2⟩ := Y1.out.box.cells
    have hR1 := Y1.out.box.lt
    have hn1 : V.heap.size ≠ R := by omega
    have hn2 : V.heap.size ≠ B := by omega
    go_wp2_with fail
    refine wp_region_until (z := 10) (S := (fun w' => w'.cell? ⟨R, 0, none⟩ = some vi ∧ w'.cell? ⟨B, 0, none⟩ = some (.int .i64 x.1) ∧ w'.cell? ⟨B, 1, none⟩ = some (.int .i64 x.2.1.1) ∧ w'.cell? ⟨B, 2, none⟩ = some (.int .i64 x.2.1.2.1) ∧ w'.cell? ⟨B, 3, none⟩ = some (.string x.2.1.2.2) ∧ w'.cell? ⟨B, 4, none⟩ = some (.string x.2.2))) (by kernel_rfl) ?_ (fun hHeld => ?_)
    · (((try dsimp only); (repeat' apply And.intro) <;> first | (go_keep; done) | (simp (disch := first | omega | (simp <;> omega) | fail) [*]; done) | fail))
    refine wpAnyU_take (i := 0) (by simp only [List.getElem?_toArray, List.getElem?_cons_zero]; rfl) (by kernel_rfl) (by kernel_rfl) (by kernel_rfl) (by kernel_rfl) (by intro _ _ _ h; exact h) (Or.inl ⟨by rfl, fun w hSw => by (dsimp only at hSw; go_simp; (try with_reducible rfl))⟩) (by assumption) ?_
    simp only [Act.put, List.setIfInBounds_toArray, List.set_cons_zero, List.set_cons_succ]
    refine wpAnyU_take (i := 1) (by simp only [List.getElem?_toArray, List.getElem?_cons_zero, List.getElem?_cons_succ]; rfl) (by kernel_rfl) (by kernel_rfl) (by kernel_rfl) (by kernel_rfl) (by intro _ _ _ h; exact h) (Or.inl ⟨by rfl, fun w hSw => by (dsimp only at hSw; go_simp; (try with_reducible rfl))⟩) (by assumption) ?_
    simp only [Act.put, List.setIfInBounds_toArray, List.set_cons_zero, List.set_cons_succ]
    refine wpAnyU_take (i := 2) (by simp only [List.getElem?_toArray, List.getElem?_cons_zero, List.getElem?_cons_succ]; rfl) (by kernel_rfl) (by kernel_rfl) (by kernel_rfl) (by kernel_rfl) (by intro _ _ _ h; exact h) (Or.inl ⟨by rfl, fun w hSw => by (dsimp only at hSw; go_simp; (try with_reducible rfl))⟩) (by assumption) ?_
    simp only [Act.put, List.setIfInBounds_toArray, List.set_cons_zero, List.set_cons_succ]
    refine wpAnyU_take (i := 3) (by simp only [List.getElem?_toArray, List.getElem?_cons_zero, List.getElem?_cons_succ]; rfl) (by kernel_rfl) (by kernel_rfl) (by kernel_rfl) (by kernel_rfl) (by intro _ _ _ h; exact h) (Or.inl ⟨by rfl, fun w hSw => by (dsimp only at hSw; go_simp; (try with_reducible rfl))⟩) (by assumption) ?_
    simp only [Act.put, List.setIfInBounds_toArray, List.set_cons_zero, List.set_cons_succ]
    refine wpAnyU_take (i := 4) (by simp only [List.getElem?_toArray, List.getElem?_cons_zero, List.getElem?_cons_succ]; rfl) (by kernel_rfl) (by kernel_rfl) (by kernel_rfl) (by kernel_rfl) (by intro _ _ _ h; exact h) (Or.inl ⟨by rfl, fun w hSw => by (dsimp only at hSw; go_simp; (try with_reducible rfl))⟩) (by assumption) ?_
    simp only [Act.put, List.setIfInBounds_toArray, List.set_cons_zero, List.set_cons_succ]
    refine wpAnyU_take (i := 5) (by simp only [List.getElem?_toArray, List.getElem?_cons_zero, List.getElem?_cons_succ]; rfl) (by kernel_rfl) (by kernel_rfl) (by kernel_rfl) (by kernel_rfl) (by intro _ _ _ h; exact h) (Or.inl ⟨by rfl, fun w hSw => by (dsimp only at hSw; go_simp; (try with_reducible rfl))⟩) (by assumption) ?_
    simp only [Act.put, List.setIfInBounds_toArray, List.set_cons_zero, List.set_cons_succ]
    refine wpAnyU_one (i := 6) (by kernel_rfl) (by simp only [List.getElem?_toArray, List.getElem?_cons_zero, List.getElem?_cons_succ]; rfl) ?_
    intro K hK
    go_simp
    refine hK.out _ _ ?_ (fun hHeld => ?_)
    · (((try dsimp only); (repeat' apply And.intro) <;> first | (go_keep; done) | (simp (disch := first | omega | (simp <;> omega) | fail) [*]; done) | fail))
    clear hK K
    try simp only [Act.put, List.setIfInBounds_toArray, List.set_cons_zero, List.set_cons_succ]
    refine wpAnyU_one (i := 7) (by kernel_rfl) (by simp only [List.getElem?_toArray, List.getElem?_cons_zero, List.getElem?_cons_succ]; rfl) ?_
    intro K hK
    rw [if_pos (by rfl)]
    refine wp_append_own _ _ _ 24 rfl w0.heap.size 63 i0 (.agg #[.int .i64 0, .int .i64 0, .int .i64 0, .string ⟨#[]⟩, .string ⟨#[]⟩]) 5 56 Tryz.underlying24 hti hz0 hz1 hz2 rfl (by decide) vi o.length (flatItm o) rfl ((Y1.out.below (Below.refl _ _).drew).ownI.alloc _) ⟨V.heap.size, 0, none⟩ 1 1 [.int .i64 x.1, .int .i64 x.2.1.1, .int .i64 x.2.1.2.1, .string x.2.1.2.2, .string x.2.2] rfl rfl (cells5I V.drew _ _ _ _ _) (by intro u hu; simp at hu; rcases hu with rfl | rfl | rfl | rfl | rfl <;> rfl) (by unfold maxLen; omega) (by omega) (by have := Y1.out.kept.size; simp; omega) ?_
    intro v' w5 own5 hgrow hnn
    obtain ⟨gv, cv, hv', hbx, hfin⟩ := (Y1.out.below (Below.refl _ _).drew).pushI _ x own5 hgrow
    have hk5 : ∀ q, w5.cell? ⟨B, q, none⟩ = V.cell? ⟨B, q, none⟩ := fun q => by
      have h1 := World.cell?_of_block (a := ⟨B, q, none⟩) (hgrow.block B (by simp; omega) HBo.out)
      rw [h1]
      simp (disch := omega)
    subst hv'
    obtain ⟨L, hL⟩ : ∃ L, o.length + 1 = L := ⟨_, rfl⟩
    rw [hL] at hfin
    have Y4 : Hid (Yd w0 (w5.setCell ⟨R, 0, none⟩ (.slice (some ⟨gv, 0, none⟩) L cv)) R (.slice (some ⟨gv, 0, none⟩) L cv) vw (o ++ [x]) W false) := hfin
    clear r0 r1 r2 hHeld
    rw [← hk5] at d0 d1 d2 d3 d4
    obtain ⟨s0, s1, s2⟩ := hbx.cells
    obtain ⟨g1, g2, g3⟩ := hbx.free
    have hR5 := hbx.lt
    rw [hL]
    clear own5 hgrow hnn hbx hfin hL Y1 hk5
    refine hK.out _ _ ?_ (fun hHeld => ?_)
    · (((try dsimp only); (repeat' apply And.intro) <;> first | assumption | (simp (disch := first | omega | (simp <;> omega) | fail) [*]; done) | fail))
    clear hK K
    try simp only [Act.put, List.setIfInBounds_toArray, List.set_cons_zero, List.set_cons_succ]
    refine wpAnyU_one (i := 8) (by kernel_rfl) (by simp only [List.getElem?_toArray, List.getElem?_cons_zero, List.getElem?_cons_succ]; rfl) ?_
    intro K hK
    go_simp
    refine hK.out _ _ ?_ (fun hHeld => ?_)
    · (((try dsimp only); (repeat' apply And.intro) <;> first | (go_keep; done) | (simp (disch := first | omega | (simp <;> omega) | fail) [*]; done) | fail))
    clear hK K
    try simp only [Act.put, List.setIfInBounds_toArray, List.set_cons_zero, List.set_cons_succ]
    refine wpAnyU_take (i := 9) (by simp only [List.getElem?_toArray, List.getElem?_cons_zero, List.getElem?_cons_succ]; rfl) (by kernel_rfl) (by kernel_rfl) (by kernel_rfl) (by kernel_rfl) (by intro _ _ _ h; exact h) (Or.inl ⟨by rfl, fun w hSw => by (dsimp only at hSw; go_simp; (try with_reducible rfl))⟩) (by assumption) ?_
    simp only [Act.put, List.setIfInBounds_toArray, List.set_cons_zero, List.set_cons_succ]
    refine wpAnyU_last (by kernel_rfl) (by simp only [List.getElem?_toArray, List.getElem?_cons_zero, List.getElem?_cons_succ]; rfl) ?_
    intro K hK
    go_simp
    refine hK.out _ _ ?_
    clear hK K
    try simp only [Act.put, List.setIfInBounds_toArray, List.set_cons_zero, List.set_cons_succ]
    refine wpAnyU_done (by kernel_rfl) ?_ _
    obtain ⟨V6, hV6⟩ : ∃ V6, V6 = w5.setCell ⟨R, 0, none⟩ (.slice (some ⟨gv, 0, none⟩) L cv) := ⟨_, rfl⟩
    rw [← hV6] at Y4 ⊢
    clear hV6 s0 s1 s2 g1 g2 g3 d0 d1 d2 d3 d4 hHeld hR5
    obtain ⟨q0, q1, q2⟩ := Y4.out.box.cells
    obtain ⟨f0, f1, f2⟩ := Y4.out.box.free
    have Y7 : Hid (Yd w0 (V6.setCell ⟨R, 2, none⟩ (.bool true)) R (.slice (some ⟨gv, 0, none⟩) L cv) vw (o ++ [x]) W true) := Y4.out.whole true
    go_wp2
    go_ret
    exact ⟨rfl, _, _, Y7.out⟩
  · go_enter Tryz.func52, Tryz.ntmps52
    go_wp2
    go_ret
    exact ⟨rfl, H.out.kept.trans (hA.mono H.out.kept.size)⟩
set_option maxRecDepth 100000 in
set_option maxHeartbeats 4000000 in
theorem open_step {w0 w : World} {R : Nat} {vi vw : Value} {o : List TI} {W : List Int} {wh : Bool} (h : Yd w0 w R vi vw o W wh) (hm : W.length ≤ 1048576) :
    Calls Tryz.prog 53 #[.pointer (some ⟨R, 0, none⟩)] w (StepPost w0 R (if wh = true then none else some (o, 0 :: W, false))) := by
  have H : Hid (Yd w0 w R vi vw o W wh) := h
  obtain ⟨r0, r1, r2⟩ := h.box.cells
  have hR := h.box.lt
  clear h
  cases wh
  · go_enter Tryz.func53, Tryz.ntmps53
    clear r0 r1
    obtain ⟨j0, htj, hy0, hy1, hy2⟩ := info_parts infoInt
    obtain ⟨q0, q1, q2⟩ := H.out.box.cells
    have hRq := H.out.box.lt
    obtain ⟨gx, cx, hvx, _⟩ := H.out.formW
    subst hvx
    go_wp2_with (at_builtin; refine wpList_append_own _ rfl _ _ 57 rfl w0.heap.size 2 j0 (.int .i64 0) 1 8 Tryz.underlying57 htj hy0 hy1 hy2 rfl (by decide) _ _ _ rfl (H.out.ownW.alloc _) ⟨w.heap.size, 0, none⟩ 1 1 [.int .i64 0] rfl rfl (cells1K w _) (by intro u hu; simp at hu; subst hu; rfl) (by unfold maxLen; omega) (by omega) (by have := H.out.kept.size; simp; omega) ?_)
    intro v' wz ownz hgrow hnn
    obtain ⟨gv, cv, hv', hbx, hfin⟩ := H.out.pushW _ 0 ownz hgrow
    subst hv'
    obtain ⟨L, hL⟩ : ∃ L, W.length + 1 = L := ⟨_, rfl⟩
    rw [hL] at hfin
    have Yz : Hid (Yd w0 (wz.setCell ⟨R, 1, none⟩ (.slice (some ⟨gv, 0, none⟩) L cv)) R _ (.slice (some ⟨gv, 0, none⟩) L cv) o (0 :: W) false) := hfin
    obtain ⟨s0, s1, s2⟩ := hbx.cells
    obtain ⟨t0, t1, t2⟩ := hbx.free
    have hRz := hbx.lt
    rw [hL]
    clear ownz hgrow hnn hbx hfin hL q0 q1 q2 hRq
    go_wp2
    go_ret
    exact ⟨rfl, _, _, Yz.out⟩
  · go_enter Tryz.func53, Tryz.ntmps53
    go_wp2
    go_ret
    exact ⟨rfl, H.out.kept⟩
set_option maxRecDepth 100000 in
set_option maxHeartbeats 4000000 in
theorem ahead_step {w0 w : World} {R : Nat} {vi vw : Value} {o : List TI} {W : List Int} {wh : Bool} (h : Yd w0 w R vi vw o W wh) (hm : W.length ≤ 1048576) (k : Int) :
    Calls Tryz.prog 57 #[.pointer (some ⟨R, 0, none⟩), .int .i64 k] w (StepPost w0 R (aheadY k (o, W, wh))) := by
  have H : Hid (Yd w0 w R vi vw o W wh) := h
  obtain ⟨r0, r1, r2⟩ := h.box.cells
  have hR := h.box.lt
  clear h
  cases wh
  · obtain ⟨t, ht⟩ : ∃ t, topK W = t := ⟨_, rfl⟩
    have HT : Hid (topK W = t) := ht
    obtain ⟨b, hb⟩ : ∃ b, bindK t = b := ⟨_, rfl⟩
    have HB : Hid (bindK t = b) := hb
    obtain ⟨c, hc⟩ : ∃ c, bindK k = c := ⟨_, rfl⟩
    have HC : Hid (bindK k = c) := hc
    have hres : aheadY k (o, W, false) = if c < b then none else some (o, k :: W, false) := by
      unfold aheadY
      dsimp only
      rw [ht, hb, hc]
      by_cases h : c < b
      · rw [if_pos (.inr h), if_pos h]
      · rw [if_neg (by simp [h]), if_neg h]
    obtain ⟨res, hre⟩ : ∃ res, aheadY k (o, W, false) = res := ⟨_, rfl⟩
    have HR1 : Hid (c < b → res = none) := by
      have : c < b → res = none := fun h => by rw [← hre, hres, if_pos h]
      exact this
    have HR2 : Hid (¬ c < b → res = some (o, k :: W, false)) := by
      have : ¬ c < b → res = some (o, k :: W, false) := fun h => by rw [← hre, hres, if_neg h]
      exact this
    rw [hre]
    clear ht hb hc hres hre
    go_enter Tryz.func57, Tryz.ntmps57
    go_wp2_with fail
    refine (last_impl H.out t HT.out).mono ?_
    rintro e w1 ⟨rfl, hb1⟩
    have Y1 : Hid (Yd w0 w1 R vi vw o W false) := H.out.below hb1
    clear H hb1 r0 r1 r2 hR
    go_wp2_with fail
    refine (binding_impl t b HB.out _).mono ?_
    rintro e w2 ⟨rfl, hw2⟩
    obtain rfl : w1 = w2 := hw2.symm
    go_wp2_with fail
    refine (binding_impl k c HC.out _).mono ?_
    rintro e w2 ⟨rfl, hw2⟩
    obtain rfl : w1 = w2 := hw2.symm
    by_cases hcb : c < b
    · have hcb2 : (c : Int) < (b : Int) := by omega
      obtain rfl : res = none := HR1.out hcb
      go_wp2
      go_ret
      exact ⟨rfl, Y1.out.kept⟩
    · have hcb2 : ¬ (c : Int) < (b : Int) := by omega
      obtain rfl : res = some (o, k :: W, false) := HR2.out hcb
      obtain ⟨j0, htj, hy0, hy1, hy2⟩ := info_parts infoInt
      obtain ⟨q0, q1, q2⟩ := Y1.out.box.cells
      have hRq := Y1.out.box.lt
      obtain ⟨gx, cx, hvx, _⟩ := Y1.out.formW
      subst hvx
      go_wp2_with (at_builtin; refine wpList_append_own _ rfl _ _ 57 rfl w0.heap.size 2 j0 (.int .i64 0) 1 8 Tryz.underlying57 htj hy0 hy1 hy2 rfl (by decide) _ _ _ rfl (Y1.out.ownW.alloc _) ⟨w1.heap.size, 0, none⟩ 1 1 [.int .i64 k] rfl rfl (cells1K w1 _) (by intro u hu; simp at hu; subst hu; rfl) (by unfold maxLen; omega) (by omega) (by have := Y1.out.kept.size; simp; omega) ?_)
      intro v' wz ownz hgrow hnn
      obtain ⟨gv, cv, hv', hbx, hfin⟩ := Y1.out.pushW _ k ownz hgrow
      subst hv'
      obtain ⟨L, hL⟩ : ∃ L, W.length + 1 = L := ⟨_, rfl⟩
      rw [hL] at hfin
      have Yz : Hid (Yd w0 (wz.setCell ⟨R, 1, none⟩ (.slice (some ⟨gv, 0, none⟩) L cv)) R _ (.slice (some ⟨gv, 0, none⟩) L cv) o (k :: W) false) := hfin
      obtain ⟨s0, s1, s2⟩ := hbx.cells
      obtain ⟨t0, t1, t2⟩ := hbx.free
      have hRz := hbx.lt
      rw [hL]
      clear ownz hgrow hnn hbx hfin hL q0 q1 q2 hRq
      go_wp2
      go_ret
      exact ⟨rfl, _, _, Yz.out⟩
  · have hres : aheadY k (o, W, true) = none := by unfold aheadY; rw [if_pos (.inl rfl)]
    rw [hres]
    clear hres
    go_enter Tryz.func57, Tryz.ntmps57
    go_wp2
    go_ret
    exact ⟨rfl, H.out.kept⟩
set_option maxRecDepth 100000 in
set_option maxHeartbeats 4000000 in
theorem close_step {w0 w : World} {R : Nat} {vi vw : Value} {o : List TI} {W : List Int} {wh : Bool} (h : Yd w0 w R vi vw o W wh) (hm : o.length + W.length ≤ 1048576) :
    Calls Tryz.prog 54 #[.pointer (some ⟨R, 0, none⟩)] w (StepPost w0 R (closeY (o, W, wh))) := by
  have H : Hid (Yd w0 w R vi vw o W wh) := h
  obtain ⟨r0, r1, r2⟩ := h.box.cells
  have hR := h.box.lt
  clear h
  cases wh
  · have hres : closeY (o, W, false) = none := by unfold closeY; rw [if_pos rfl]
    rw [hres]
    clear hres
    go_enter Tryz.func54, Tryz.ntmps54
    go_wp2
    go_ret
    exact ⟨rfl, H.out.kept⟩
  · obtain ⟨o1, W1, hS⟩ : ∃ o1 W1, settleW 1 o W = (o1, W1) := ⟨_, _, rfl⟩
    have HS : Hid (settleW 1 o W = (o1, W1)) := hS
    obtain ⟨res, hre⟩ : ∃ res, closeY (o, W, true) = res := ⟨_, rfl⟩
    have HR1 : Hid (W1 = [] → res = none) := by
      have : W1 = [] → res = none := fun e => by
        subst e
        rw [← hre]
        unfold closeY
        rw [if_neg (by simp)]
        dsimp only
        rw [hS]
      exact this
    have HR2 : Hid (∀ k W2, W1 = k :: W2 → res = some (o1, W2, true)) := by
      have : ∀ k W2, W1 = k :: W2 → res = some (o1, W2, true) := fun k W2 e => by
        subst e
        rw [← hre]
        unfold closeY
        rw [if_neg (by simp)]
        dsimp only
        rw [hS]
      exact this
    rw [hre]
    clear hS hre
    go_enter Tryz.func54, Tryz.ntmps54
    go_wp2_with fail
    refine (binding_impl 10 1 rfl _).mono ?_
    rintro e w1 ⟨rfl, hw1⟩
    obtain rfl : w = w1 := hw1.symm
    go_wp2_with fail
    refine (settle_impl H.out hm 1 (by omega)).mono ?_
    rintro e w2 ⟨rfl, vi2, vw2, hY2⟩
    rw [HS.out] at hY2
    have Y2 : Hid (Yd w0 w2 R vi2 vw2 o1 W1 true) := hY2
    clear H hY2 r0 r1 r2 hR
    cases W1 with
    | nil =>
      obtain rfl : res = none := HR1.out rfl
      obtain ⟨q0, q1, q2⟩ := Y2.out.box.cells
      obtain ⟨ga, c, hvx, _⟩ := Y2.out.formW
      subst hvx
      simp only [List.length_nil] at q1
      go_wp2
      go_ret
      exact ⟨rfl, Y2.out.kept⟩
    | cons k W2 =>
      obtain rfl : res = some (o1, W2, true) := HR2.out k W2 rfl
      obtain ⟨q0, q1, q2⟩ := Y2.out.box.cells
      obtain ⟨f0, f1, f2⟩ := Y2.out.box.free
      obtain ⟨ga, c, hvx, hwc, hcm, hgs⟩ := Y2.out.formW
      subst hvx
      obtain ⟨gw, hgw⟩ := hgs (by simp)
      subst hgw
      have YC : Hid (Yd w0 (w2.setCell ⟨R, 1, none⟩ (.slice (some ⟨gw, 0, none⟩) W2.length c)).drew R vi2 (.slice (some ⟨gw, 0, none⟩) W2.length c) o1 W2 true) := (Y2.out.cut).below (Below.refl _ _).drew
      unfold maxLen at hcm
      simp only [List.length_cons] at q1 hwc
      obtain ⟨m, hm'⟩ : ∃ m, W2.length = m := ⟨_, rfl⟩
      have HM : Hid (W2.length = m) := hm'
      rw [hm'] at q1 hwc YC
      have hj1 : ((m + 1 : Nat) : Int) - 1 = (m : Int) := by omega
      have hj3 : (m : Int) ≤ ((m + 1 : Nat) : Int) := by omega
      have hj4 : (0 : Int) ≤ (m : Int) := by omega
      have hj5 : (m : Int) ≤ (c : Int) := by omega
      have hj6 : (((m + 1 : Nat) : Int) == 0) = false := by simpa using (show ¬ ((m + 1 : Nat) : Int) = 0 by omega)
      have hRV := Y2.out.box.lt
      have hwk : IntKind.i64.wrap (m : Int) = (m : Int) := by rw [IntKind.wrap_i64]; omega

      clear hm' hgs
      go_wp2_with fail
      refine wp_region_until (z := 14) (S := (fun w' => w'.cell? ⟨R, 1, none⟩ = some (.slice (some ⟨gw, 0, none⟩) (m + 1) c))) (by kernel_rfl) ?_ (fun hHeld => ?_)
      · (((try dsimp only); (repeat' apply And.intro) <;> first | (go_keep; done) | (simp (disch := first | omega | (simp <;> omega) | fail) [*]; done) | fail))
      refine wpAnyU_take (i := 0) (by simp only [List.getElem?_toArray, List.getElem?_cons_zero]; rfl) (by kernel_rfl) (by kernel_rfl) (by kernel_rfl) (by kernel_rfl) (by intro _ _ _ h; exact h) (Or.inl ⟨by rfl, fun w hSw => by (dsimp only at hSw; go_simp; (try with_reducible rfl))⟩) (by assumption) ?_
      simp only [Act.put, List.setIfInBounds_toArray, List.set_cons_zero, List.set_cons_succ]
      refine wpAnyU_take (i := 1) (by simp only [List.getElem?_toArray, List.getElem?_cons_zero, List.getElem?_cons_succ]; rfl) (by kernel_rfl) (by kernel_rfl) (by kernel_rfl) (by kernel_rfl) (by intro _ _ _ h; exact h) (Or.inl ⟨by rfl, fun w hSw => by (dsimp only at hSw; go_simp; (try with_reducible rfl))⟩) (by assumption) ?_
      simp only [Act.put, List.setIfInBounds_toArray, List.set_cons_zero, List.set_cons_succ]
      refine wpAnyU_take (i := 2) (by simp only [List.getElem?_toArray, List.getElem?_cons_zero, List.getElem?_cons_succ]; rfl) (by kernel_rfl) (by kernel_rfl) (by kernel_rfl) (by kernel_rfl) (by intro _ _ _ h; exact h) (Or.inl ⟨by rfl, fun w hSw => by (dsimp only at hSw; go_simp; (try with_reducible rfl))⟩) (by assumption) ?_
      simp only [Act.put, List.setIfInBounds_toArray, List.set_cons_zero, List.set_cons_succ]
      refine wpAnyU_take (i := 3) (by simp only [List.getElem?_toArray, List.getElem?_cons_zero, List.getElem?_cons_succ]; rfl) (by kernel_rfl) (by kernel_rfl) (by kernel_rfl) (by kernel_rfl) (by intro _ _ _ h; exact h) (Or.inl ⟨by rfl, fun w hSw => by (dsimp only at hSw; go_simp; (try with_reducible rfl))⟩) (by assumption) ?_
      simp only [Act.put, List.setIfInBounds_toArray, List.set_cons_zero, List.set_cons_succ]
      refine wpAnyU_take (i := 4) (by simp only [List.getElem?_toArray, List.getElem?_cons_zero, List.getElem?_cons_succ]; rfl) (by kernel_rfl) (by kernel_rfl) (by kernel_rfl) (by kernel_rfl) (by intro _ _ _ h; exact h) (Or.inl ⟨by rfl, fun w hSw => by (dsimp only at hSw; go_simp; (try with_reducible rfl))⟩) (by assumption) ?_
      simp only [Act.put, List.setIfInBounds_toArray, List.set_cons_zero, List.set_cons_succ]
      refine wpAnyU_take (i := 5) (by simp only [List.getElem?_toArray, List.getElem?_cons_zero, List.getElem?_cons_succ]; rfl) (by kernel_rfl) (by kernel_rfl) (by kernel_rfl) (by kernel_rfl) (by intro _ _ _ h; exact h) (Or.inl ⟨by rfl, fun w hSw => by (dsimp only at hSw; go_simp; (try with_reducible rfl))⟩) (by assumption) ?_
      simp only [Act.put, List.setIfInBounds_toArray, List.set_cons_zero, List.set_cons_succ]
      refine wpAnyU_take (i := 6) (by simp only [List.getElem?_toArray, List.getElem?_cons_zero, List.getElem?_cons_succ]; rfl) (by kernel_rfl) (by kernel_rfl) (by kernel_rfl) (by kernel_rfl) (by intro _ _ _ h; exact h) (Or.inl ⟨by rfl, fun w hSw => by (dsimp only at hSw; go_simp; (try with_reducible rfl))⟩) (by assumption) ?_
      simp only [Act.put, List.setIfInBounds_toArray, List.set_cons_zero, List.set_cons_succ]
      refine wpAnyU_take (i := 7) (by simp only [List.getElem?_toArray, List.getElem?_cons_zero, List.getElem?_cons_succ]; rfl) (by kernel_rfl) (by kernel_rfl) (by kernel_rfl) (by kernel_rfl) (by intro _ _ _ h; exact h) (Or.inl ⟨by rfl, fun w hSw => by (dsimp only at hSw; go_simp; (try with_reducible rfl))⟩) (by assumption) ?_
      simp only [Act.put, List.setIfInBounds_toArray, List.set_cons_zero, List.set_cons_succ]
      refine wpAnyU_take (i := 8) (by simp only [List.getElem?_toArray, List.getElem?_cons_zero, List.getElem?_cons_succ]; rfl) (by kernel_rfl) (by kernel_rfl) (by kernel_rfl) (by kernel_rfl) (by intro _ _ _ h; exact h) (Or.inl ⟨by rfl, fun w hSw => by (dsimp only at hSw; go_simp; (try with_reducible rfl))⟩) (by assumption) ?_
      simp only [Act.put, List.setIfInBounds_toArray, List.set_cons_zero, List.set_cons_succ]
      refine wpAnyU_take (i := 9) (by simp only [List.getElem?_toArray, List.getElem?_cons_zero, List.getElem?_cons_succ]; rfl) (by kernel_rfl) (by kernel_rfl) (by kernel_rfl) (by kernel_rfl) (by intro _ _ _ h; exact h) (Or.inl ⟨by rfl, fun w hSw => by (dsimp only at hSw; go_simp; (try with_reducible rfl))⟩) (by assumption) ?_
      simp only [Act.put, List.setIfInBounds_toArray, List.set_cons_zero, List.set_cons_succ]
      refine wpAnyU_take (i := 10) (by simp only [List.getElem?_toArray, List.getElem?_cons_zero, List.getElem?_cons_succ]; rfl) (by kernel_rfl) (by kernel_rfl) (by kernel_rfl) (by kernel_rfl) (by intro _ _ _ h; exact h) (Or.inl ⟨by rfl, fun w hSw => by (dsimp only at hSw; go_simp; (try with_reducible rfl))⟩) (by assumption) ?_
      simp only [Act.put, List.setIfInBounds_toArray, List.set_cons_zero, List.set_cons_succ]
      refine wpAnyU_take (i := 11) (by simp only [List.getElem?_toArray, List.getElem?_cons_zero, List.getElem?_cons_succ]; rfl) (by kernel_rfl) (by kernel_rfl) (by kernel_rfl) (by kernel_rfl) (by intro _ _ _ h; exact h) (Or.inl ⟨by rfl, fun w hSw => by (dsimp only at hSw; go_simp; (try with_reducible rfl))⟩) (by assumption) ?_
      simp only [Act.put, List.setIfInBounds_toArray, List.set_cons_zero, List.set_cons_succ]
      refine wpAnyU_one (i := 12) (by kernel_rfl) (by simp only [List.getElem?_toArray, List.getElem?_cons_zero, List.getElem?_cons_succ]; rfl) ?_
      intro K hK
      go_simp
      refine hK.out _ _ ?_ (fun hHeld => ?_)
      · (((try dsimp only); (repeat' apply And.intro) <;> first | (go_keep; done) | (simp (disch := first | omega | (simp <;> omega) | fail) [*]; done) | fail))
      clear hK K
      try simp only [Act.put, List.setIfInBounds_toArray, List.set_cons_zero, List.set_cons_succ]
      refine wpAnyU_take (i := 13) (by simp only [List.getElem?_toArray, List.getElem?_cons_zero, List.getElem?_cons_succ]; rfl) (by kernel_rfl) (by kernel_rfl) (by kernel_rfl) (by kernel_rfl) (by intro _ _ _ h; exact h) (Or.inl ⟨by rfl, fun w hSw => by (dsimp only at hSw; go_simp; (try with_reducible rfl))⟩) (by assumption) ?_
      simp only [Act.put, List.setIfInBounds_toArray, List.set_cons_zero, List.set_cons_succ]
      refine wpAnyU_last (by kernel_rfl) (by simp only [List.getElem?_toArray, List.getElem?_cons_zero, List.getElem?_cons_succ]; rfl) ?_
      intro K hK
      go_simp
      refine hK.out _ _ ?_
      clear hK K
      try simp only [Act.put, List.setIfInBounds_toArray, List.set_cons_zero, List.set_cons_succ]
      refine wpAnyU_done (by kernel_rfl) ?_ _
      obtain ⟨VC, hVC⟩ : ∃ VC, VC = (w2.setCell ⟨R, 1, none⟩ (.slice (some ⟨gw, 0, none⟩) m c)).drew := ⟨_, rfl⟩
      rw [← hVC] at YC ⊢
      clear hVC q0 q1 q2 f0 f1 f2 hHeld
      go_wp2
      go_ret
      exact ⟨rfl, _, _, YC.out⟩
set_option maxRecDepth 100000 in
set_option maxHeartbeats 4000000 in
theorem ends_step {w0 w : World} {R : Nat} {vi vw : Value} {o : List TI} {W : List Int} {wh : Bool} (h : Yd w0 w R vi vw o W wh) (hm : o.length + W.length ≤ 1048576) :
    Calls Tryz.prog 28 #[.pointer (some ⟨R, 0, none⟩)] w fun e w' => e = .returned (.bool (endY (o, W, wh)).isSome) ∧ ∃ vi' vw', Yd w0 w' R vi' vw' (settleW 1 o W).1 (settleW 1 o W).2 wh := by
  have H : Hid (Yd w0 w R vi vw o W wh) := h
  obtain ⟨r0, r1, r2⟩ := h.box.cells
  have hR := h.box.lt
  clear h
  obtain ⟨o1, W1, hS⟩ : ∃ o1 W1, settleW 1 o W = (o1, W1) := ⟨_, _, rfl⟩
  have HS : Hid (settleW 1 o W = (o1, W1)) := hS
  have hres : (endY (o, W, wh)).isSome = (wh && decide (W1 = [])) := by
    unfold endY
    dsimp only
    rw [hS]
    cases wh <;> cases W1 <;> simp
  rw [hres, hS]
  clear hS hres
  go_enter Tryz.func28, Tryz.ntmps28
  go_wp2_with fail
  refine (binding_impl 10 1 rfl _).mono ?_
  rintro e w1 ⟨rfl, hw1⟩
  obtain rfl : w = w1 := hw1.symm
  go_wp2_with fail
  refine (settle_impl H.out hm 1 (by omega)).mono ?_
  rintro e w2 ⟨rfl, vi2, vw2, hY2⟩
  rw [HS.out] at hY2
  have Y2 : Hid (Yd w0 w2 R vi2 vw2 o1 W1 wh) := hY2
  clear H hY2 r0 r1 r2 hR
  obtain ⟨q0, q1, q2⟩ := Y2.out.box.cells
  cases wh
  · go_wp2
    go_ret
    exact ⟨rfl, _, _, Y2.out⟩
  · obtain ⟨ga, c, hvx, _⟩ := Y2.out.formW
    subst hvx
    cases W1 with
    | nil =>
      simp only [List.length_nil] at q1
      go_wp2
      go_ret
      exact ⟨rfl, _, _, Y2.out⟩
    | cons k W2 =>
      obtain ⟨m, hm'⟩ : ∃ m, W2.length = m := ⟨_, rfl⟩
      simp only [List.length_cons, hm'] at q1
      have hj6 : (((m + 1 : Nat) : Int) == 0) = false := by simpa using (show ¬ ((m + 1 : Nat) : Int) = 0 by omega)
      have hj7 : ((m : Int) + 1 == 0) = false := by simpa using (show ¬ (m : Int) + 1 = 0 by omega)
      go_wp2
      go_ret
      exact ⟨ret_bool (by simp), _, _, Y2.out⟩
end Go.Proofs.YtfokdblojlmnlamGreatDoor

/-
  The contracts of the program's reader of sums: a sign between two, any token.
-/
namespace Go.Proofs.YtfokdblojlmnlamGreatDoor
open Go.ChangeShapes Go.WideShapes Go.ChangeAt Go.RowKit
attribute [local go_sem ↓] Go.wp_at_zero Go.wp_at_succ
attribute [local simp] World.cell?_alloc_past World.cell?_alloc_at World.frozen?_alloc_at cell_far cell_off cell_here World.frozen?_alloc_past

theorem settle_len (g : Nat) : ∀ (W : List Int) (o : List TI), (settleW g o W).1.length + (settleW g o W).2.length = o.length + W.length
  | [], _ => rfl
  | k :: W, o => by
    by_cases h : g ≤ bindK k
    · rw [settle_cons h, settle_len g W, List.length_append]
      simp only [List.length_cons, List.length_nil]
      omega
    · rw [settle_none (g := g) (W := k :: W) (by show bindK k < g; omega)]
set_option maxRecDepth 100000 in
set_option maxHeartbeats 4000000 in
theorem between_step {w0 w : World} {R : Nat} {vi vw : Value} {o : List TI} {W : List Int} {wh : Bool} (h : Yd w0 w R vi vw o W wh) (hm : o.length + W.length ≤ 1048575) (k : Int) (hk : 3 ≤ k ∧ k ≤ 10) :
    Calls Tryz.prog 58 #[.pointer (some ⟨R, 0, none⟩), .int .i64 k] w (StepPost w0 R (betweenY k (o, W, wh))) := by
  have H : Hid (Yd w0 w R vi vw o W wh) := h
  obtain ⟨r0, r1, r2⟩ := h.box.cells
  have hR := h.box.lt
  clear h
  have hbk := bind_not hk
  cases wh
  · have hres : betweenY k (o, W, false) = none := by unfold betweenY; rw [if_pos rfl]
    rw [hres]
    clear hres
    go_enter Tryz.func58, Tryz.ntmps58
    go_wp2
    go_ret
    exact ⟨rfl, H.out.kept⟩
  · obtain ⟨b, hb⟩ : ∃ b, bindK k = b := ⟨_, rfl⟩
    have HB : Hid (bindK k = b) := hb
    rw [hb] at hbk
    obtain ⟨hb3, hb6, hb0⟩ := hbk
    obtain ⟨o1, W1, hS⟩ : ∃ o1 W1, settleW (b + 1) o W = (o1, W1) := ⟨_, _, rfl⟩
    have HS : Hid (settleW (b + 1) o W = (o1, W1)) := hS
    have hl1 := settle_len (b + 1) W o
    rw [hS] at hl1
    dsimp only at hl1
    obtain ⟨t, ht⟩ : ∃ t, topK W1 = t := ⟨_, rfl⟩
    have HT : Hid (topK W1 = t) := ht
    obtain ⟨c, hc⟩ : ∃ c, bindK t = c := ⟨_, rfl⟩
    have HC : Hid (bindK t = c) := hc
    obtain ⟨o2, W2, hS2⟩ : ∃ o2 W2, settleW b o1 W1 = (o2, W2) := ⟨_, _, rfl⟩
    have HS2 : Hid (settleW b o1 W1 = (o2, W2)) := hS2
    have hl2 := settle_len b W1 o1
    rw [hS2] at hl2
    dsimp only at hl2
    obtain ⟨res, hre⟩ : ∃ res, betweenY k (o, W, true) = res := ⟨_, rfl⟩
    have hres : res = if b = 4 ∧ c = 4 then none else some (o2, k :: W2, false) := by
      rw [← hre]
      unfold betweenY
      rw [if_neg (by simp), hb]
      dsimp only
      rw [hS]
      dsimp only
      rw [ht, hc, hS2]
    have HR1 : Hid (b = 4 ∧ c = 4 → res = none) := by
      have : b = 4 ∧ c = 4 → res = none := fun h => by rw [hres, if_pos h]
      exact this
    have HR2 : Hid (¬ (b = 4 ∧ c = 4) → res = some (o2, k :: W2, false)) := by
      have : ¬ (b = 4 ∧ c = 4) → res = some (o2, k :: W2, false) := fun h => by rw [hres, if_neg h]
      exact this
    rw [hre]
    clear hb hS ht hc hS2 hre hres
    obtain ⟨b1, hb1⟩ : ∃ b1, b + 1 = b1 := ⟨_, rfl⟩
    have hbi : (b : Int) + 1 = (b1 : Int) := by omega
    have HS1 : Hid (settleW b1 o W = (o1, W1)) := by rw [← hb1]; exact HS
    have hb18 : 1 ≤ b1 ∧ b1 ≤ 8 := by omega
    have hm8 : o.length + W.length ≤ 1048576 := by omega
    clear HS hb1
    go_enter Tryz.func58, Tryz.ntmps58
    go_wp2_with fail
    refine (binding_impl k b HB.out _).mono ?_
    rintro e w1 ⟨rfl, hw1⟩
    obtain rfl : w = w1 := hw1.symm
    go_wp2_with fail
    refine (settle_impl H.out hm8 b1 hb18).mono ?_
    rintro e w2 ⟨rfl, vi2, vw2, hY2⟩
    rw [HS1.out] at hY2
    have Y2 : Hid (Yd w0 w2 R vi2 vw2 o1 W1 true) := hY2
    clear H hY2 r0 r1 r2 hR HS1
    go_wp2_with fail
    refine (binding_impl 7 4 rfl _).mono ?_
    rintro e w3 ⟨rfl, hw3⟩
    obtain rfl : w2 = w3 := hw3.symm
    by_cases h4 : b = 4
    · subst h4
      go_wp2_with fail
      refine (last_impl Y2.out t HT.out).mono ?_
      rintro e w4 ⟨rfl, hb4⟩
      have Y4 : Hid (Yd w0 w4 R vi2 vw2 o1 W1 true) := Y2.out.below hb4
      clear Y2 hb4
      go_wp2_with fail
      refine (binding_impl t c HC.out _).mono ?_
      rintro e w5 ⟨rfl, hw5⟩
      obtain rfl : w4 = w5 := hw5.symm
      by_cases h5 : c = 4
      · subst h5
        obtain rfl : res = none := HR1.out (by simp)
        go_wp2
        go_ret
        exact ⟨rfl, Y4.out.kept⟩
      · have h6 : ((c : Int) == 4) = false := by simpa using (show ¬ (c : Int) = 4 by omega)
        obtain rfl : res = some (o2, k :: W2, false) := HR2.out (fun h => h5 h.2)
        go_wp2_with fail
        refine (settle_impl Y4.out (by omega) 4 (by omega)).mono ?_
        rintro e w6 ⟨rfl, vi3, vw3, hY6⟩
        rw [HS2.out] at hY6
        have Y6 : Hid (Yd w0 w6 R vi3 vw3 o2 W2 true) := hY6
        clear Y4 hY6 HS2
        obtain ⟨j0, htj, hy0, hy1, hy2⟩ := info_parts infoInt
        obtain ⟨q0, q1, q2⟩ := Y6.out.box.cells
        have hRq := Y6.out.box.lt
        obtain ⟨gx, cx, hvx, _⟩ := Y6.out.formW
        subst hvx
        go_wp2_with (at_builtin; refine wpList_append_own _ rfl _ _ 57 rfl w0.heap.size 2 j0 (.int .i64 0) 1 8 Tryz.underlying57 htj hy0 hy1 hy2 rfl (by decide) _ _ _ rfl (Y6.out.ownW.alloc _) ⟨w6.heap.size, 0, none⟩ 1 1 [.int .i64 k] rfl rfl (cells1K w6 _) (by intro u hu; simp at hu; subst hu; rfl) (by unfold maxLen; omega) (by omega) (by have := Y6.out.kept.size; simp; omega) ?_)
        intro v' wz ownz hgrow hnn
        obtain ⟨gv, cv, hv', hbx, hfin⟩ := Y6.out.pushW _ k ownz hgrow
        subst hv'
        obtain ⟨L, hL⟩ : ∃ L, W2.length + 1 = L := ⟨_, rfl⟩
        rw [hL] at hfin
        have Yz : Hid (Yd w0 (wz.setCell ⟨R, 1, none⟩ (.slice (some ⟨gv, 0, none⟩) L cv)) R _ (.slice (some ⟨gv, 0, none⟩) L cv) o2 (k :: W2) true) := hfin
        obtain ⟨s0, s1, s2⟩ := hbx.cells
        obtain ⟨t0, t1, t2⟩ := hbx.free
        have hRz := hbx.lt
        rw [hL]
        clear ownz hgrow hnn hbx hfin hL q0 q1 q2 hRq
        have Y9 : Hid (Yd w0 ((wz.setCell ⟨R, 1, none⟩ (.slice (some ⟨gv, 0, none⟩) L cv)).setCell ⟨R, 2, none⟩ (.bool false)) R _ (.slice (some ⟨gv, 0, none⟩) L cv) o2 (k :: W2) false) := Yz.out.whole false
        go_wp2
        go_ret
        exact ⟨rfl, _, _, Y9.out⟩
    · have h6 : ((b : Int) == 4) = false := by simpa using (show ¬ (b : Int) = 4 by omega)
      obtain rfl : res = some (o2, k :: W2, false) := HR2.out (fun h => h4 h.1)
      go_wp2_with fail
      refine (settle_impl Y2.out (by omega) b (by omega)).mono ?_
      rintro e w6 ⟨rfl, vi3, vw3, hY6⟩
      rw [HS2.out] at hY6
      have Y6 : Hid (Yd w0 w6 R vi3 vw3 o2 W2 true) := hY6
      clear Y2 hY6 HS2
      obtain ⟨j0, htj, hy0, hy1, hy2⟩ := info_parts infoInt
      obtain ⟨q0, q1, q2⟩ := Y6.out.box.cells
      have hRq := Y6.out.box.lt
      obtain ⟨gx, cx, hvx, _⟩ := Y6.out.formW
      subst hvx
      go_wp2_with (at_builtin; refine wpList_append_own _ rfl _ _ 57 rfl w0.heap.size 2 j0 (.int .i64 0) 1 8 Tryz.underlying57 htj hy0 hy1 hy2 rfl (by decide) _ _ _ rfl (Y6.out.ownW.alloc _) ⟨w6.heap.size, 0, none⟩ 1 1 [.int .i64 k] rfl rfl (cells1K w6 _) (by intro u hu; simp at hu; subst hu; rfl) (by unfold maxLen; omega) (by omega) (by have := Y6.out.kept.size; simp; omega) ?_)
      intro v' wz ownz hgrow hnn
      obtain ⟨gv, cv, hv', hbx, hfin⟩ := Y6.out.pushW _ k ownz hgrow
      subst hv'
      obtain ⟨L, hL⟩ : ∃ L, W2.length + 1 = L := ⟨_, rfl⟩
      rw [hL] at hfin
      have Yz : Hid (Yd w0 (wz.setCell ⟨R, 1, none⟩ (.slice (some ⟨gv, 0, none⟩) L cv)) R _ (.slice (some ⟨gv, 0, none⟩) L cv) o2 (k :: W2) true) := hfin
      obtain ⟨s0, s1, s2⟩ := hbx.cells
      obtain ⟨t0, t1, t2⟩ := hbx.free
      have hRz := hbx.lt
      rw [hL]
      clear ownz hgrow hnn hbx hfin hL q0 q1 q2 hRq
      have Y9 : Hid (Yd w0 ((wz.setCell ⟨R, 1, none⟩ (.slice (some ⟨gv, 0, none⟩) L cv)).setCell ⟨R, 2, none⟩ (.bool false)) R _ (.slice (some ⟨gv, 0, none⟩) L cv) o2 (k :: W2) false) := Yz.out.whole false
      go_wp2
      go_ret
      exact ⟨rfl, _, _, Y9.out⟩
set_option maxRecDepth 100000 in
set_option maxHeartbeats 4000000 in
theorem takes_step {w0 w : World} {R : Nat} {vi vw : Value} {o : List TI} {W : List Int} {wh : Bool} (h : Yd w0 w R vi vw o W wh) (hm : o.length + W.length ≤ 1048575) (t : TT) (ht : tokB t = true) (hs : SgnAt w) :
    Calls Tryz.prog 27 #[.pointer (some ⟨R, 0, none⟩), .agg #[.int .i64 t.1, .string t.2.1, .int .i64 t.2.2.1, .int .i64 t.2.2.2.1, .string t.2.2.2.2]] w (StepPost w0 R (stepY t (o, W, wh))) := by
  have H : Hid (Yd w0 w R vi vw o W wh) := h
  have HSg : Hid (SgnAt w) := hs
  have hA : ∀ t : TT, Below w.heap.size w (w.alloc (.cells #[.int .i64 t.1, .string t.2.1, .int .i64 t.2.2.1, .int .i64 t.2.2.2.1, .string t.2.2.2.2] 50)) := fun t => (Below.refl _ _).alloc (Nat.le_refl _) _
  clear h hs
  obtain ⟨res, hre⟩ : ∃ res, stepY t (o, W, wh) = res := ⟨_, rfl⟩
  rw [hre]
  by_cases h12 : t.1 = 2 ∨ t.1 = 1
  · have hres : (if wh = true then none else some (o ++ [itmOf t], W, true)) = res := by
      rw [← hre]
      unfold stepY
      rw [if_pos h12]
    have HRes : Hid ((if wh = true then none else some (o ++ [itmOf t], W, true)) = res) := hres
    clear hre hres
    rcases tokB_kind ht with ⟨s, rfl, hn⟩ | ⟨⟨ck, cn, ct⟩, rfl, hc⟩ | ⟨s, rfl, hs⟩
    · have HA := hA (1, s, zeroC)
      have hst := alone_step (H.out.below HA) (by omega) (2, zeroC, s)
      rw [show itmOf (1, s, zeroC) = (2, zeroC, s) from if_pos rfl] at HRes
      rw [HRes.out] at hst
      unfold zeroC at HA hst ⊢
      dsimp only at HA hst ⊢
      clear hA h12 HRes
      go_enter Tryz.func27, Tryz.ntmps27
      go_wp2_with fail
      refine hst.mono ?_
      rintro e w1 hpost
      cases res with
      | none =>
        obtain ⟨rfl, hk⟩ := hpost
        go_wp2
        go_ret
        exact ⟨rfl, hk⟩
      | some y =>
        obtain ⟨rfl, hk⟩ := hpost
        go_wp2
        go_ret
        exact ⟨rfl, hk⟩
    · have HA := hA (2, ⟨#[]⟩, ck, cn, ct)
      have hst := alone_step (H.out.below HA) (by omega) (1, (ck, cn, ct), ⟨#[]⟩)
      rw [show itmOf (2, ⟨#[]⟩, ck, cn, ct) = (1, (ck, cn, ct), ⟨#[]⟩) from if_neg (by show ¬ (2 : Int) = 1; omega)] at HRes
      rw [HRes.out] at hst
      dsimp only at HA hst ⊢
      clear hA h12 HRes
      go_enter Tryz.func27, Tryz.ntmps27
      go_wp2_with fail
      refine hst.mono ?_
      rintro e w1 hpost
      cases res with
      | none =>
        obtain ⟨rfl, hk⟩ := hpost
        go_wp2
        go_ret
        exact ⟨rfl, hk⟩
      | some y =>
        obtain ⟨rfl, hk⟩ := hpost
        go_wp2
        go_ret
        exact ⟨rfl, hk⟩
    · exfalso
      rcases h12 with h | h
      · exact absurd (show (3 : Int) = 2 from h) (by omega)
      · exact absurd (show (3 : Int) = 1 from h) (by omega)
  · rcases tok_forms ht with h | h | rfl | rfl | ⟨j, hj, rfl⟩
    · exact absurd (.inr h) h12
    · exact absurd (.inl h) h12
    · have HA := hA parO
      have hst := open_step (H.out.below HA) (by omega)
      have hres : (if wh = true then none else some (o, 0 :: W, false)) = res := by
        rw [← hre]
        cases wh <;> rfl
      rw [hres] at hst
      clear hre hres hA h12
      unfold parO zeroC at HA hst ⊢
      dsimp only at HA hst ⊢
      go_enter Tryz.func27, Tryz.ntmps27
      go_wp2_with fail
      refine hst.mono ?_
      rintro e w1 hpost
      cases res with
      | none =>
        obtain ⟨rfl, hk⟩ := hpost
        go_wp2
        go_ret
        exact ⟨rfl, hk⟩
      | some y =>
        obtain ⟨rfl, hk⟩ := hpost
        go_wp2
        go_ret
        exact ⟨rfl, hk⟩
    · have HA := hA parC
      have hst := close_step (H.out.below HA) (by omega)
      rw [step_close] at hre
      rw [hre] at hst
      clear hre hA h12
      unfold parC zeroC at HA hst ⊢
      dsimp only at HA hst ⊢
      go_enter Tryz.func27, Tryz.ntmps27
      go_wp2_with fail
      refine hst.mono ?_
      rintro e w1 hpost
      cases res with
      | none =>
        obtain ⟨rfl, hk⟩ := hpost
        go_wp2
        go_ret
        exact ⟨rfl, hk⟩
      | some y =>
        obtain ⟨rfl, hk⟩ := hpost
        go_wp2
        go_ret
        exact ⟨rfl, hk⟩
    · have HA := hA (sgnT j)
      rw [step_sgn hj] at hre
      have hk1 := kind_impl (sgn j) j (kindS_sgn hj) _ (HSg.out.below HA)
      obtain ⟨n, hn⟩ : ∃ n, needsP j = n := ⟨_, rfl⟩
      have HN : Hid (needsP j = n) := hn
      have q1 := not_lit (l := [40]) (sgn_par hj).1
      have q2 := not_lit (l := [41]) (sgn_par hj).2
      have hst1 : 11 ≤ j → Calls Tryz.prog 57 #[.pointer (some ⟨R, 0, none⟩), .int .i64 j] (w.alloc (.cells #[.int .i64 (sgnT j).1, .string (sgnT j).2.1, .int .i64 (sgnT j).2.2.1, .int .i64 (sgnT j).2.2.2.1, .string (sgnT j).2.2.2.2] 50)) (StepPost w0 R res) := fun h => by
        rw [if_pos h] at hre
        have := ahead_step (H.out.below HA) (by omega) j
        rw [hre] at this
        exact this
      have hst2 : ¬ 11 ≤ j → Calls Tryz.prog 58 #[.pointer (some ⟨R, 0, none⟩), .int .i64 j] (w.alloc (.cells #[.int .i64 (sgnT j).1, .string (sgnT j).2.1, .int .i64 (sgnT j).2.2.1, .int .i64 (sgnT j).2.2.2.1, .string (sgnT j).2.2.2.2] 50)) (StepPost w0 R res) := fun h => by
        rw [if_neg h] at hre
        have := between_step (H.out.below HA) hm j (by omega)
        rw [hre] at this
        exact this
      have hn1 : 11 ≤ j → n = 1 := fun h => by rw [← hn]; unfold needsP; rw [if_neg (by omega), if_pos (by omega)]
      have hn2 : ¬ 11 ≤ j → n = 2 := fun h => by rw [← hn]; unfold needsP; rw [if_pos (by omega)]
      clear hre hA h12 hn
      unfold sgnT zeroC at HA hst1 hst2 hk1 ⊢
      dsimp only at HA hst1 hst2 hk1 ⊢
      obtain ⟨s, hs⟩ : ∃ s, sgn j = s := ⟨_, rfl⟩
      rw [hs] at HA hst1 hst2 hk1 q1 q2 ⊢
      clear hs
      by_cases h11 : 11 ≤ j
      · have hst := hst1 h11
        obtain rfl := hn1 h11
        clear hst1 hst2 hn1 hn2
        go_enter Tryz.func27, Tryz.ntmps27
        go_wp2_with fail
        refine hk1.mono ?_
        rintro e w9 ⟨rfl, hw9⟩
        subst hw9
        go_wp2_with fail
        refine (needs_impl j 1 HN.out _).mono ?_
        rintro e w8 ⟨rfl, hw8⟩
        subst hw8
        go_wp2_with fail
        refine hst.mono ?_
        rintro e w1 hpost
        cases res with
        | none =>
          obtain ⟨rfl, hk⟩ := hpost
          go_wp2
          go_ret
          exact ⟨rfl, hk⟩
        | some y =>
          obtain ⟨rfl, hk⟩ := hpost
          go_wp2
          go_ret
          exact ⟨rfl, hk⟩
      · have hst := hst2 h11
        obtain rfl := hn2 h11
        clear hst1 hst2 hn1 hn2
        go_enter Tryz.func27, Tryz.ntmps27
        go_wp2_with fail
        refine hk1.mono ?_
        rintro e w9 ⟨rfl, hw9⟩
        subst hw9
        go_wp2_with fail
        refine (needs_impl j 2 HN.out _).mono ?_
        rintro e w8 ⟨rfl, hw8⟩
        subst hw8
        go_wp2_with fail
        refine hst.mono ?_
        rintro e w1 hpost
        cases res with
        | none =>
          obtain ⟨rfl, hk⟩ := hpost
          go_wp2
          go_ret
          exact ⟨rfl, hk⟩
        | some y =>
          obtain ⟨rfl, hk⟩ := hpost
          go_wp2
          go_ret
          exact ⟨rfl, hk⟩
end Go.Proofs.YtfokdblojlmnlamGreatDoor

/-
  The contract of the program's ReadSum.
-/
namespace Go.Proofs.YtfokdblojlmnlamGreatDoor
open Go.ChangeShapes Go.WideShapes Go.ChangeAt Go.RowKit
attribute [local go_sem ↓] Go.wp_at_zero Go.wp_at_succ
attribute [local simp] World.cell?_alloc_past World.cell?_alloc_at World.frozen?_alloc_at cell_far cell_off cell_here World.frozen?_alloc_past

theorem step_len {t : TT} {y y' : YS} (h : stepY t y = some y') : y'.1.length + y'.2.1.length ≤ y.1.length + y.2.1.length + 1 := by
  obtain ⟨o, W, wh⟩ := y
  unfold stepY at h
  dsimp only at h ⊢
  split at h
  · split at h
    · cases h
    · cases h; simp only [List.length_append, List.length_cons, List.length_nil]; omega
  split at h
  · split at h
    · cases h
    · cases h; simp only [List.length_cons]; omega
  split at h
  · unfold closeY at h
    split at h
    · cases h
    · dsimp only at h
      have hl := settle_len 1 W o
      split at h
      · cases h
      · rename_i e
        cases h
        rw [e, List.length_cons] at hl
        show (settleW 1 o W).1.length + _ ≤ _
        dsimp only
        omega
  split at h
  · unfold aheadY at h
    split at h
    · cases h
    · cases h; simp only [List.length_cons]; omega
  · unfold betweenY at h
    split at h
    · cases h
    · split at h
      · cases h
      · dsimp only at h
        cases h
        have hl := settle_len (bindK (kindS t.2.1) + 1) W o
        have hl2 := settle_len (bindK (kindS t.2.1)) (settleW (bindK (kindS t.2.1) + 1) o W).2 (settleW (bindK (kindS t.2.1) + 1) o W).1
        simp only [List.length_cons]
        omega
/-- What ReadSum answers, by signs that wait. -/
theorem sumR_no {toks : List TT} (h : toks.all tokB = true → runY toks ([], [], false) = none) : sumR toks = ([], false) := by
  cases ha : toks.all tokB with
  | false => exact sumR_bad ha
  | true =>
    have h1 := h ha
    rw [yard ha] at h1
    cases hq : levR 0 toks with
    | none => exact sumR_none hq
    | some z =>
      obtain ⟨p, r⟩ := z
      rw [hq] at h1
      cases r with
      | nil => cases h1
      | cons t r => exact sumR_more hq (by simp)
theorem sumR_yes {toks : List TT} {o : List TI} (ha : toks.all tokB = true) (h : runY toks ([], [], false) = some o) : sumR toks = (if sumB o = true then (o, true) else ([], false)) ∧ o.all itemB = true := by
  rw [yard ha] at h
  cases hq : levR 0 toks with
  | none => rw [hq] at h; cases h
  | some z =>
    obtain ⟨p, r⟩ := z
    rw [hq] at h
    cases r with
    | nil =>
      cases h
      exact ⟨sumR_end ha hq, levR_all ha hq⟩
    | cons t r => cases h
theorem fitI_of {o : List TI} (h : o.all itemB = true) : FitI o := fun x hx => by
  have := itemB_fits (List.all_eq_true.1 h x hx)
  unfold maxLen
  omega
/-- An answer of items in memory of its own. -/
def AnsItm (w : World) (B : Nat) (v : Value) (l : List TI) : Prop := w.ownsRow B 63 5 v l.length (flatItm l) ∧ v ≠ .slice none 0 0
theorem ansItm_none {w : World} {B : Nat} (h : B ≤ w.heap.size) : AnsItm (w.alloc (.cells #[] 63)) B (.slice (some ⟨w.heap.size, 0, none⟩) 0 0) [] :=
  ⟨⟨rfl, .inr ⟨w.heap.size, 0, #[], rfl, h, by show (w.heap.push _)[w.heap.size]? = _; simp, Nat.le_refl _, by unfold maxLen; omega, rfl, rfl⟩⟩, by simp⟩
/-- Where the reader is. -/
def YRel (w : World) (R : Nat) (toks : List TT) (k : Nat) (wr : World) : Prop := ∃ vi vw y, Yd w wr R vi vw y.1 y.2.1 y.2.2 ∧ (toks.take k).all tokB = true ∧ runY toks ([], [], false) = runY (toks.drop k) y ∧ y.1.length + y.2.1.length ≤ k
set_option maxRecDepth 100000 in
set_option maxHeartbeats 4000000 in
theorem readsum_impl (a : Option Addr) (cap : Nat) (toks : List TT) (n : Nat) (hn : toks.length = n) (w : World) (hrow : TokAt w a toks) (hfit : ∀ x ∈ toks, x.2.1.size ≤ 1048576 ∧ x.2.2.2.2.size ≤ maxLen) (hm : n ≤ 1048576) (hp : PowAt w) (he : ErrAt w) (hs : SgnAt w) (l : List TI) (b : Bool) (hR : sumR toks = (l, b)) :
    Calls Tryz.prog 8 #[.slice a n cap] w fun e w' => ∃ v, e = .returned (.tuple #[v, .bool b]) ∧ AnsItm w' w.heap.size v l ∧ Below w.heap.size w w' := by
  have HK : Hid (TokAt w a toks) := hrow
  have HF : Hid (∀ x ∈ toks, x.2.1.size ≤ 1048576 ∧ x.2.2.2.2.size ≤ maxLen) := hfit
  have HN : Hid (toks.length = n) := hn
  have HP : Hid (PowAt w) := hp
  have HE : Hid (ErrAt w) := he
  have HSg : Hid (SgnAt w) := hs
  have HR : Hid (sumR toks = (l, b)) := hR
  clear hrow hfit hn hp he hs hR
  go_enter Tryz.func8, Tryz.ntmps8
  go_wp2
  obtain ⟨V, hV⟩ : ∃ V, V = w.alloc (.cells #[.slice none 0 0, .slice none 0 0, .bool false] 59) := ⟨_, rfl⟩
  have hY0 : Yd w V w.heap.size (.slice none 0 0) (.slice none 0 0) [] [] false := by
    rw [hV]
    refine ⟨?_, ⟨rfl, .inl ⟨rfl, rfl⟩⟩, ⟨rfl, .inl ⟨rfl, rfl⟩⟩, (Below.refl _ _).alloc (Nat.le_refl _) _, Nat.le_refl _⟩
    show (w.heap.push _)[w.heap.size]? = _
    simp
  have Y0 : Hid (YRel w w.heap.size toks 0 V) := ⟨_, _, ([], [], false), hY0, rfl, rfl, Nat.le_refl _⟩
  rw [← hV]
  obtain ⟨R, hRe⟩ : ∃ R, w.heap.size = R := ⟨_, rfl⟩
  rw [hRe] at Y0
  have HRe : Hid (w.heap.size = R) := hRe
  simp only [hRe]
  clear hV hY0 hRe
  go_loopw [10] (fun kk wr => ∃ k : Nat, k ≤ n ∧ kk = .int .i64 k ∧ Hid (YRel w R toks k wr)) (fun kk _ => n - (intOf kk).toNat)
  case atStart => exact ⟨0, Nat.zero_le _, rfl, Y0⟩
  case round =>
    clear Y0
    obtain ⟨k, hkn, rfl, hrel⟩ := hrel
    obtain ⟨vi, vw, ⟨o, W, wh⟩, hY, hall, hrun, hlen⟩ := hrel.out
    dsimp only at hY hlen
    have Y1 : Hid (Yd w wr R vi vw o W wh) := hY
    have hb := hY.kept
    by_cases hlt : k < n
    · have hlk : k < toks.length := by rw [HN.out]; exact hlt
      obtain ⟨g, oo, rfl, hgw, c0, c1, c2, c3, c4⟩ := HK.out.below hb k hlk
      have hi0 : (0 : Int) ≤ (k : Int) := by omega
      have hi1 : (k : Int) < (n : Int) := by omega
      obtain ⟨hf1, hf2⟩ := HF.out _ (List.getElem_mem hlk)
      have hal := allT_snoc toks k hlk
      rw [hall, Bool.true_and] at hal
      have hdr : toks.drop k = toks[k] :: toks.drop (k + 1) := List.drop_eq_getElem_cons hlk
      rw [hdr, runY_cons] at hrun
      obtain ⟨q, hq⟩ : ∃ q, tokB toks[k] = q := ⟨_, rfl⟩
      obtain ⟨res, hres⟩ : ∃ res, stepY toks[k] (o, W, wh) = res := ⟨_, rfl⟩
      rw [hres] at hrun
      have HQ : Hid (tokB toks[k] = q) := hq
      have HRes : Hid (stepY toks[k] (o, W, wh) = res) := hres
      have HNo1 : Hid (q = false → l = [] ∧ b = false) := by
        have : q = false → l = [] ∧ b = false := fun e => by
          have h1 : toks.all tokB = false := by
            rw [Bool.eq_false_iff]
            intro h
            have := List.all_eq_true.1 h _ (List.getElem_mem hlk)
            rw [hq, e] at this
            cases this
          have := HR.out
          rw [sumR_bad h1] at this
          injection this with e1 e2
          exact ⟨e1.symm, e2.symm⟩
        exact this
      have HNo2 : Hid (res = none → l = [] ∧ b = false) := by
        have : res = none → l = [] ∧ b = false := fun e => by
          subst e
          have := HR.out
          rw [sumR_no (fun _ => hrun)] at this
          injection this with e1 e2
          exact ⟨e1.symm, e2.symm⟩
        exact this
      have HGo : Hid (∀ y' wz vi' vw', q = true → res = some y' → Yd w wz R vi' vw' y'.1 y'.2.1 y'.2.2 → YRel w R toks (k + 1) wz) := by
        have : ∀ y' wz vi' vw', q = true → res = some y' → Yd w wz R vi' vw' y'.1 y'.2.1 y'.2.2 → YRel w R toks (k + 1) wz := fun y' wz vi' vw' e1 e2 hz => by
          subst e2
          have hl := step_len hres
          dsimp only at hl
          exact ⟨vi', vw', y', hz, by rw [hal, hq]; exact e1, hrun, by omega⟩
        exact this
      clear hal hdr hq hres hrun hall hrel hY
      generalize toks[k] = x at c0 c1 c2 c3 c4 hf1 hf2 HQ HRes
      have hxA : Below w.heap.size w (wr.alloc (.cells #[.int .i64 x.1, .string x.2.1, .int .i64 x.2.2.1, .int .i64 x.2.2.2.1, .string x.2.2.2.2] 50)) := hb.alloc hb.size _
      go_wp2_with fail
      refine (tok_impl x _ hf1 hf2 (HP.out.below hxA) (HE.out.below hxA) q HQ.out).mono ?_
      rintro e w1 ⟨rfl, hb1⟩
      have hbA : Below wr.heap.size wr w1 := chainA hb1
      obtain ⟨d0, d1, d2, d3, d4, d5⟩ := box5 hb1
      have Y2 : Hid (Yd w w1 R vi vw o W wh) := Y1.out.below hbA
      have hx1 := chain hxA hb1
      clear Y1 c0 c1 c2 c3 c4 hb1 hbA hxA
      cases q
      · obtain ⟨rfl, rfl⟩ := HNo1.out rfl
        have fin : Hid (AnsItm (w1.alloc (.cells #[] 63)) w.heap.size (.slice (some ⟨w1.heap.size, 0, none⟩) 0 0) [] ∧ Below w.heap.size w (w1.alloc (.cells #[] 63))) := ⟨ansItm_none hx1.size, hx1.alloc hx1.size _⟩
        clear d0 d1 d2 d3 d4
        go_wp2
        go_ret2
        exact ⟨_, rfl, fin.out.1, fin.out.2⟩
      · have hst := takes_step Y2.out (by omega) x HQ.out (HSg.out.below hx1)
        rw [HRes.out] at hst
        go_wp2_with fail
        refine hst.mono ?_
        rintro e w2 hpost
        clear d0 d1 d2 d3 d4
        cases res with
        | none =>
          obtain ⟨rfl, hk⟩ := hpost
          obtain ⟨rfl, rfl⟩ := HNo2.out rfl
          have fin : Hid (AnsItm (w2.alloc (.cells #[] 63)) w.heap.size (.slice (some ⟨w2.heap.size, 0, none⟩) 0 0) [] ∧ Below w.heap.size w (w2.alloc (.cells #[] 63))) := ⟨ansItm_none hk.size, hk.alloc hk.size _⟩
          clear hst
          go_wp2
          go_ret2
          exact ⟨_, rfl, fin.out.1, fin.out.2⟩
        | some y' =>
          obtain ⟨rfl, vi', vw', hz⟩ := hpost
          have Rel : Hid (YRel w R toks (k + 1) w2) := HGo.out y' w2 vi' vw' (by first | rfl | trivial) (by first | rfl | trivial) hz
          clear hst hz HGo
          go_wp2
          go_roundw
          case rel => exact ⟨k + 1, by omega, by go_num, Rel⟩
          case measure => simp [intOf]; omega
    · have hkl : k = n := by omega
      subst hkl
      have hi1 : ¬ (k : Int) < (k : Int) := by omega
      have hall2 : toks.all tokB = true := by
        rwa [List.take_of_length_le (by rw [HN.out]; exact Nat.le_refl _)] at hall
      rw [List.drop_eq_nil_of_le (by rw [HN.out]; exact Nat.le_refl _)] at hrun
      have hend : runY toks ([], [], false) = endY (o, W, wh) := hrun
      obtain ⟨en, hen⟩ : ∃ en, (endY (o, W, wh)).isSome = en := ⟨_, rfl⟩
      have hE := ends_step Y1.out (by omega)
      rw [hen] at hE
      have hlS := settle_len 1 W o
      obtain ⟨o1, W1, hS⟩ : ∃ o1 W1, settleW 1 o W = (o1, W1) := ⟨_, _, rfl⟩
      rw [hS] at hE hlS
      dsimp only at hE hlS
      have HNo : Hid (en = false → l = [] ∧ b = false) := by
        have : en = false → l = [] ∧ b = false := fun e => by
          have h1 : endY (o, W, wh) = none := by
            cases hz : endY (o, W, wh) with
            | none => rfl
            | some z => rw [hz, e] at hen; cases hen
          have := HR.out
          rw [sumR_no (fun _ => hend.trans h1)] at this
          injection this with e1 e2
          exact ⟨e1.symm, e2.symm⟩
        exact this
      have HYes : Hid (en = true → (if sumB o1 = true then (o1, true) else ([], false)) = (l, b) ∧ o1.all itemB = true) := by
        have : en = true → (if sumB o1 = true then (o1, true) else ([], false)) = (l, b) ∧ o1.all itemB = true := fun e => by
          have h1 : endY (o, W, wh) = some o1 := by
            unfold endY at hen ⊢
            dsimp only at hen ⊢
            rw [hS] at hen ⊢
            dsimp only at hen ⊢
            split at hen
            · rename_i hc; rw [if_pos hc]
            · rw [e] at hen; cases hen
          have h2 := sumR_yes hall2 (hend.trans h1)
          rw [HR.out] at h2
          exact ⟨h2.1.symm, h2.2⟩
        exact this
      clear hall2 hrun hend hen hS hall hrel hY Y1
      go_wp2_with fail
      refine hE.mono ?_
      rintro e w1 ⟨rfl, vi', vw', hz⟩
      have Y2 : Hid (Yd w w1 R vi' vw' o1 W1 wh) := hz
      have hx1 := hz.kept
      clear hE hz
      cases en
      · obtain ⟨rfl, rfl⟩ := HNo.out rfl
        have fin : Hid (AnsItm (w1.alloc (.cells #[] 63)) w.heap.size (.slice (some ⟨w1.heap.size, 0, none⟩) 0 0) [] ∧ Below w.heap.size w (w1.alloc (.cells #[] 63))) := ⟨ansItm_none hx1.size, hx1.alloc hx1.size _⟩
        go_wp2
        go_ret2
        exact ⟨_, rfl, fin.out.1, fin.out.2⟩
      · obtain ⟨hfin, hitm⟩ := HYes.out rfl
        obtain ⟨sb, hsb⟩ : ∃ sb, sumB o1 = sb := ⟨_, rfl⟩
        rw [hsb] at hfin
        have HFin : Hid ((if sb = true then (o1, true) else ([], false)) = (l, b)) := hfin
        have HSB : Hid (sumB o1 = sb) := hsb
        have HFI : Hid (FitI o1) := fitI_of hitm
        obtain ⟨q0, q1, q2⟩ := Y2.out.box.cells
        obtain ⟨ga, ca, rfl⟩ := Y2.out.formI
        have HAt : Hid (ItmAt w1 ga o1) := by
          obtain ⟨a', c', e1, e2⟩ := own_itm Y2.out.ownI
          cases e1
          exact e2
        obtain ⟨L, hL⟩ : ∃ L, o1.length = L := ⟨_, rfl⟩
        have HL : Hid (o1.length = L) := hL
        rw [hL] at q0 hlS
        clear hfin hsb hitm HYes HNo
        go_wp2_with fail
        refine (sum_impl ga ca o1 L HL.out _ HAt.out HFI.out (by unfold maxLen; omega) (HP.out.below hx1) (HE.out.below hx1) sb HSB.out).mono ?_
        rintro e w2 ⟨rfl, hb2⟩
        have Y3 : Hid (Yd w w2 R (.slice ga o1.length ca) vw' o1 W1 wh) := Y2.out.below hb2
        have hx2 := chain hx1 hb2
        clear Y2 HAt q0 q1 q2 hb2
        obtain ⟨q0, q1, q2⟩ := Y3.out.box.cells
        rw [HL.out] at q0
        cases sb
        · have h := HFin.out
          rw [if_neg (by decide)] at h
          injection h with e1 e2
          subst e1 e2
          have fin : Hid (AnsItm (w2.alloc (.cells #[] 63)) w.heap.size (.slice (some ⟨w2.heap.size, 0, none⟩) 0 0) [] ∧ Below w.heap.size w (w2.alloc (.cells #[] 63))) := ⟨ansItm_none hx2.size, hx2.alloc hx2.size _⟩
          clear HFin
          go_wp2
          go_ret2
          exact ⟨_, rfl, fin.out.1, fin.out.2⟩
        · have h := HFin.out
          rw [if_pos rfl] at h
          injection h with e1 e2
          subst e1 e2
          have fin : Hid (AnsItm w2 w.heap.size (.slice ga L ca) o1) := by
            have : AnsItm w2 w.heap.size (.slice ga L ca) o1 := by
              refine ⟨by rw [← HL.out]; exact Y3.out.ownI, fun e => ?_⟩
              injection e with _ e2 _
              have : o1 = [] := List.length_eq_zero_iff.1 (by rw [HL.out]; exact e2)
              subst this
              exact absurd HSB.out (by decide)
            exact this
          clear HFin
          go_wp2
          go_ret2
          exact ⟨_, rfl, fin.out, hx2⟩
end Go.Proofs.YtfokdblojlmnlamGreatDoor
