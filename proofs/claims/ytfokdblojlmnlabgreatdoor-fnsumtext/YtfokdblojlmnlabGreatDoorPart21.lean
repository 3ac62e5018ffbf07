/-
  A part of the proof: YardI4, YardI5, RdS.
-/
import Derived.Test.YtfokdblojlmnlabGreatDoorPart20
import Derived.Test.YtfokdblojlmnlabGreatDoorPart14
import Derived.Test.YtfokdblojlmnlabGreatDoorPart5
import Derived.Test.YtfokdblojlmnlabGreatDoorPart15
import Derived.Test.YtfokdblojlmnlabGreatDoorPart18

/-
  The contracts of the program's reader of sums: a sign between two, any token.
-/
namespace Go.Proofs.YtfokdblojlmnlabGreatDoor
open Go.ChangeShapes Go.WideShapes Go.ChangeAt Go.RowKit
attribute [local go_sem ↓] Go.wp_at_zero Go.wp_at_succ
attribute [local simp] World.cell?_alloc_past World.cell?_alloc_at World.frozen?_alloc_at cell_far cell_off cell_here World.frozen?_alloc_past

theorem settle_len (g : Nat) : ∀ (W : List Int) (o : List TI), (settleW g o W).1.length + (settleW g o W).2.length = o.length + W.length
  | [], _ => rfl
  | k :: W, o => by
    by_cases h : g ≤ bindK k
    · rw [settle_cons h, settle_len g W, List.length_append]
      simp only [List.length_cons, List.length_nil]
      omega
    · rw [settle_none (g := g) (W := k :: W) (by show bindK k < g; omega)]
set_option maxRecDepth 100000 in
set_option maxHeartbeats 4000000 in
theorem between_step {w0 w : World} {R : Nat} {vi vw : Value} {o : List TI} {W : List Int} {wh : Bool} (h : Yd w0 w R vi vw o W wh) (hm : o.length + W.length ≤ 1048575) (k : Int) (hk : 3 ≤ k ∧ k ≤ 10) :
    Calls Tryz.prog 143 #[.pointer (some ⟨R, 0, none⟩), .int .i64 k] w (StepPost w0 R (betweenY k (o, W, wh))) := by
  have H : Hid (Yd w0 w R vi vw o W wh) := h
  obtain ⟨r0, r1, r2⟩ := h.box.cells
  have hR := h.box.lt
  clear h
  have hbk := bind_not hk
  cases wh
  · have hres : betweenY k (o, W, false) = none := by unfold betweenY; rw [if_pos rfl]
    rw [hres]
    clear hres
    go_enter Tryz.func143, Tryz.ntmps143
    go_wp2
    go_ret
    exact ⟨rfl, H.out.kept⟩
  · obtain ⟨b, hb⟩ : ∃ b, bindK k = b := ⟨_, rfl⟩
    have HB : Hid (bindK k = b) := hb
    rw [hb] at hbk
    obtain ⟨hb3, hb6, hb0⟩ := hbk
    obtain ⟨o1, W1, hS⟩ : ∃ o1 W1, settleW (b + 1) o W = (o1, W1) := ⟨_, _, rfl⟩
    have HS : Hid (settleW (b + 1) o W = (o1, W1)) := hS
    have hl1 := settle_len (b + 1) W o
    rw [hS] at hl1
    dsimp only at hl1
    obtain ⟨t, ht⟩ : ∃ t, topK W1 = t := ⟨_, rfl⟩
    have HT : Hid (topK W1 = t) := ht
    obtain ⟨c, hc⟩ : ∃ c, bindK t = c := ⟨_, rfl⟩
    have HC : Hid (bindK t = c) := hc
    obtain ⟨o2, W2, hS2⟩ : ∃ o2 W2, settleW b o1 W1 = (o2, W2) := ⟨_, _, rfl⟩
    have HS2 : Hid (settleW b o1 W1 = (o2, W2)) := hS2
    have hl2 := settle_len b W1 o1
    rw [hS2] at hl2
    dsimp only at hl2
    obtain ⟨res, hre⟩ : ∃ res, betweenY k (o, W, true) = res := ⟨_, rfl⟩
    have hres : res = if b = 4 ∧ c = 4 then none else some (o2, k :: W2, false) := by
      rw [← hre]
      unfold betweenY
      rw [if_neg (by simp), hb]
      dsimp only
      rw [hS]
      dsimp only
      rw [ht, hc, hS2]
    have HR1 : Hid (b = 4 ∧ c = 4 → res = none) := by
      have : b = 4 ∧ c = 4 → res = none := fun h => by rw [hres, if_pos h]
      exact this
    have HR2 : Hid (¬ (b = 4 ∧ c = 4) → res = some (o2, k :: W2, false)) := by
      have : ¬ (b = 4 ∧ c = 4) → res = some (o2, k :: W2, false) := fun h => by rw [hres, if_neg h]
      exact this
    rw [hre]
    clear hb hS ht hc hS2 hre hres
    obtain ⟨b1, hb1⟩ : ∃ b1, b + 1 = b1 := ⟨_, rfl⟩
    have hbi : (b : Int) + 1 = (b1 : Int) := by omega
    have HS1 : Hid (settleW b1 o W = (o1, W1)) := by rw [← hb1]; exact HS
    have hb18 : 1 ≤ b1 ∧ b1 ≤ 8 := by omega
    have hm8 : o.length + W.length ≤ 1048576 := by omega
    clear HS hb1
    go_enter Tryz.func143, Tryz.ntmps143
    go_wp2_with fail
    refine (binding_impl k b HB.out _).mono ?_
    rintro e w1 ⟨rfl, hw1⟩
    obtain rfl : w = w1 := hw1.symm
    go_wp2_with fail
    refine (settle_impl H.out hm8 b1 hb18).mono ?_
    rintro e w2 ⟨rfl, vi2, vw2, hY2⟩
    rw [HS1.out] at hY2
    have Y2 : Hid (Yd w0 w2 R vi2 vw2 o1 W1 true) := hY2
    clear H hY2 r0 r1 r2 hR HS1
    go_wp2_with fail
    refine (binding_impl 7 4 rfl _).mono ?_
    rintro e w3 ⟨rfl, hw3⟩
    obtain rfl : w2 = w3 := hw3.symm
    by_cases h4 : b = 4
    · subst h4
      go_wp2_with fail
      refine (last_impl Y2.out t HT.out).mono ?_
      rintro e w4 ⟨rfl, hb4⟩
      have Y4 : Hid (Yd w0 w4 R vi2 vw2 o1 W1 true) := Y2.out.below hb4
      clear Y2 hb4
      go_wp2_with fail
      refine (binding_impl t c HC.out _).mono ?_
      rintro e w5 ⟨rfl, hw5⟩
      obtain rfl : w4 = w5 := hw5.symm
      by_cases h5 : c = 4
      · subst h5
        obtain rfl : res = none := HR1.out (by simp)
        go_wp2
        go_ret
        exact ⟨rfl, Y4.out.kept⟩
      · have h6 : ((c : Int) == 4) = false := by simpa using (show ¬ (c : Int) = 4 by omega)
        obtain rfl : res = some (o2, k :: W2, false) := HR2.out (fun h => h5 h.2)
        go_wp2_with fail
        refine (settle_impl Y4.out (by omega) 4 (by omega)).mono ?_
        rintro e w6 ⟨rfl, vi3, vw3, hY6⟩
        rw [HS2.out] at hY6
        have Y6 : Hid (Yd w0 w6 R vi3 vw3 o2 W2 true) := hY6
        clear Y4 hY6 HS2
        obtain ⟨j0, htj, hy0, hy1, hy2⟩ := info_parts infoInt
        obtain ⟨q0, q1, q2⟩ := Y6.out.box.cells
        have hRq := Y6.out.box.lt
        obtain ⟨gx, cx, hvx, _⟩ := Y6.out.formW
        subst hvx
        go_wp2_with (at_builtin; refine wpList_append_own _ rfl _ _ 107 rfl w0.heap.size 2 j0 (.int .i64 0) 1 8 Tryz.underlying107 htj hy0 hy1 hy2 rfl (by decide) _ _ _ rfl (Y6.out.ownW.alloc _) ⟨w6.heap.size, 0, none⟩ 1 1 [.int .i64 k] rfl rfl (cells1K w6 _) (by intro u hu; simp at hu; subst hu; rfl) (by unfold maxLen; omega) (by omega) (by have := Y6.out.kept.size; simp; omega) ?_)
        intro v' wz ownz hgrow hnn
        obtain ⟨gv, cv, hv', hbx, hfin⟩ := Y6.out.pushW _ k ownz hgrow
        subst hv'
        obtain ⟨L, hL⟩ : ∃ L, W2.length + 1 = L := ⟨_, rfl⟩
        rw [hL] at hfin
        have Yz : Hid (Yd w0 (wz.setCell ⟨R, 1, none⟩ (.slice (some ⟨gv, 0, none⟩) L cv)) R _ (.slice (some ⟨gv, 0, none⟩) L cv) o2 (k :: W2) true) := hfin
        obtain ⟨s0, s1, s2⟩ := hbx.cells
        obtain ⟨t0, t1, t2⟩ := hbx.free
        have hRz := hbx.lt
        rw [hL]
        clear ownz hgrow hnn hbx hfin hL q0 q1 q2 hRq
        have Y9 : Hid (Yd w0 ((wz.setCell ⟨R, 1, none⟩ (.slice (some ⟨gv, 0, none⟩) L cv)).setCell ⟨R, 2, none⟩ (.bool false)) R _ (.slice (some ⟨gv, 0, none⟩) L cv) o2 (k :: W2) false) := Yz.out.whole false
        go_wp2
        go_ret
        exact ⟨rfl, _, _, Y9.out⟩
    · have h6 : ((b : Int) == 4) = false := by simpa using (show ¬ (b : Int) = 4 by omega)
      obtain rfl : res = some (o2, k :: W2, false) := HR2.out (fun h => h4 h.1)
      go_wp2_with fail
      refine (settle_impl Y2.out (by omega) b (by omega)).mono ?_
      rintro e w6 ⟨rfl, vi3, vw3, hY6⟩
      rw [HS2.out] at hY6
      have Y6 : Hid (Yd w0 w6 R vi3 vw3 o2 W2 true) := hY6
      clear Y2 hY6 HS2
      obtain ⟨j0, htj, hy0, hy1, hy2⟩ := info_parts infoInt
      obtain ⟨q0, q1, q2⟩ := Y6.out.box.cells
      have hRq := Y6.out.box.lt
      obtain ⟨gx, cx, hvx, _⟩ := Y6.out.formW
      subst hvx
      go_wp2_with (at_builtin; refine wpList_append_own _ rfl _ _ 107 rfl w0.heap.size 2 j0 (.int .i64 0) 1 8 Tryz.underlying107 htj hy0 hy1 hy2 rfl (by decide) _ _ _ rfl (Y6.out.ownW.alloc _) ⟨w6.heap.size, 0, none⟩ 1 1 [.int .i64 k] rfl rfl (cells1K w6 _) (by intro u hu; simp at hu; subst hu; rfl) (by unfold maxLen; omega) (by omega) (by have := Y6.out.kept.size; simp; omega) ?_)
      intro v' wz ownz hgrow hnn
      obtain ⟨gv, cv, hv', hbx, hfin⟩ := Y6.out.pushW _ k ownz hgrow
      subst hv'
      obtain ⟨L, hL⟩ : ∃ L, W2.length + 1 = L := ⟨_, rfl⟩
      rw [hL] at hfin
      have Yz : Hid (Yd w0 (wz.setCell ⟨R, 1, none⟩ (.slice (some ⟨gv, 0, none⟩) L cv)) R _ (.slice (some ⟨gv, 0, none⟩) L cv) o2 (k :: W2) true) := hfin
      obtain ⟨s0, s1, s2⟩ := hbx.cells
      obtain ⟨t0, t1, t2⟩ := hbx.free
      have hRz := hbx.lt
      rw [hL]
      clear ownz hgrow hnn hbx hfin hL q0 q1 q2 hRq
      have Y9 : Hid (Yd w0 ((wz.setCell ⟨R, 1, none⟩ (.slice (some ⟨gv, 0, none⟩) L cv)).setCell ⟨R, 2, none⟩ (.bool false)) R _ (.slice (some ⟨gv, 0, none⟩) L cv) o2 (k :: W2) false) := Yz.out.whole false
      go_wp2
      go_ret
      exact ⟨rfl, _, _, Y9.out⟩
set_option maxRecDepth 100000 in
set_option maxHeartbeats 4000000 in
theorem takes_step {w0 w : World} {R : Nat} {vi vw : Value} {o : List TI} {W : List Int} {wh : Bool} (h : Yd w0 w R vi vw o W wh) (hm : o.length + W.length ≤ 1048575) (t : TT) (ht : tokB t = true) (hs : SgnAt w) :
    Calls Tryz.prog 86 #[.pointer (some ⟨R, 0, none⟩), .agg #[.int .i64 t.1, .string t.2.1, .int .i64 t.2.2.1, .int .i64 t.2.2.2.1, .string t.2.2.2.2]] w (StepPost w0 R (stepY t (o, W, wh))) := by
  have H : Hid (Yd w0 w R vi vw o W wh) := h
  have HSg : Hid (SgnAt w) := hs
  have hA : ∀ t : TT, Below w.heap.size w (w.alloc (.cells #[.int .i64 t.1, .string t.2.1, .int .i64 t.2.2.1, .int .i64 t.2.2.2.1, .string t.2.2.2.2] 56)) := fun t => (Below.refl _ _).alloc (Nat.le_refl _) _
  clear h hs
  obtain ⟨res, hre⟩ : ∃ res, stepY t (o, W, wh) = res := ⟨_, rfl⟩
  rw [hre]
  by_cases h12 : t.1 = 2 ∨ t.1 = 1
  · have hres : (if wh = true then none else some (o ++ [itmOf t], W, true)) = res := by
      rw [← hre]
      unfold stepY
      rw [if_pos h12]
    have HRes : Hid ((if wh = true then none else some (o ++ [itmOf t], W, true)) = res) := hres
    clear hre hres
    rcases tokB_kind ht with ⟨s, rfl, hn⟩ | ⟨⟨ck, cn, ct⟩, rfl, hc⟩ | ⟨s, rfl, hs⟩
    · have HA := hA (1, s, zeroC)
      have hst := alone_step (H.out.below HA) (by omega) (2, zeroC, s)
      rw [show itmOf (1, s, zeroC) = (2, zeroC, s) from if_pos rfl] at HRes
      rw [HRes.out] at hst
      unfold zeroC at HA hst ⊢
      dsimp only at HA hst ⊢
      clear hA h12 HRes
      go_enter Tryz.func86, Tryz.ntmps86
      go_wp2_with fail
      refine hst.mono ?_
      rintro e w1 hpost
      cases res with
      | none =>
        obtain ⟨rfl, hk⟩ := hpost
        go_wp2
        go_ret
        exact ⟨rfl, hk⟩
      | some y =>
        obtain ⟨rfl, hk⟩ := hpost
        go_wp2
        go_ret
        exact ⟨rfl, hk⟩
    · have HA := hA (2, ⟨#[]⟩, ck, cn, ct)
      have hst := alone_step (H.out.below HA) (by omega) (1, (ck, cn, ct), ⟨#[]⟩)
      rw [show itmOf (2, ⟨#[]⟩, ck, cn, ct) = (1, (ck, cn, ct), ⟨#[]⟩) from if_neg (by show ¬ (2 : Int) = 1; omega)] at HRes
      rw [HRes.out] at hst
      dsimp only at HA hst ⊢
      clear hA h12 HRes
      go_enter Tryz.func86, Tryz.ntmps86
      go_wp2_with fail
      refine hst.mono ?_
      rintro e w1 hpost
      cases res with
      | none =>
        obtain ⟨rfl, hk⟩ := hpost
        go_wp2
        go_ret
        exact ⟨rfl, hk⟩
      | some y =>
        obtain ⟨rfl, hk⟩ := hpost
        go_wp2
        go_ret
        exact ⟨rfl, hk⟩
    · exfalso
      rcases h12 with h | h
      · exact absurd (show (3 : Int) = 2 from h) (by omega)
      · exact absurd (show (3 : Int) = 1 from h) (by omega)
  · rcases tok_forms ht with h | h | rfl | rfl | ⟨j, hj, rfl⟩
    · exact absurd (.inr h) h12
    · exact absurd (.inl h) h12
    · have HA := hA parO
      have hst := open_step (H.out.below HA) (by omega)
      have hres : (if wh = true then none else some (o, 0 :: W, false)) = res := by
        rw [← hre]
        cases wh <;> rfl
      rw [hres] at hst
      clear hre hres hA h12
      unfold parO zeroC at HA hst ⊢
      dsimp only at HA hst ⊢
      go_enter Tryz.func86, Tryz.ntmps86
      go_wp2_with fail
      refine hst.mono ?_
      rintro e w1 hpost
      cases res with
      | none =>
        obtain ⟨rfl, hk⟩ := hpost
        go_wp2
        go_ret
        exact ⟨rfl, hk⟩
      | some y =>
        obtain ⟨rfl, hk⟩ := hpost
        go_wp2
        go_ret
        exact ⟨rfl, hk⟩
    · have HA := hA parC
      have hst := close_step (H.out.below HA) (by omega)
      rw [step_close] at hre
      rw [hre] at hst
      clear hre hA h12
      unfold parC zeroC at HA hst ⊢
      dsimp only at HA hst ⊢
      go_enter Tryz.func86, Tryz.ntmps86
      go_wp2_with fail
      refine hst.mono ?_
      rintro e w1 hpost
      cases res with
      | none =>
        obtain ⟨rfl, hk⟩ := hpost
        go_wp2
        go_ret
        exact ⟨rfl, hk⟩
      | some y =>
        obtain ⟨rfl, hk⟩ := hpost
        go_wp2
        go_ret
        exact ⟨rfl, hk⟩
    · have HA := hA (sgnT j)
      rw [step_sgn hj] at hre
      have hk1 := kind_impl (sgn j) j (kindS_sgn hj) _ (HSg.out.below HA)
      obtain ⟨n, hn⟩ : ∃ n, needsP j = n := ⟨_, rfl⟩
      have HN : Hid (needsP j = n) := hn
      have q1 := not_lit (l := [40]) (sgn_par hj).1
      have q2 := not_lit (l := [41]) (sgn_par hj).2
      have hst1 : 11 ≤ j → Calls Tryz.prog 142 #[.pointer (some ⟨R, 0, none⟩), .int .i64 j] (w.alloc (.cells #[.int .i64 (sgnT j).1, .string (sgnT j).2.1, .int .i64 (sgnT j).2.2.1, .int .i64 (sgnT j).2.2.2.1, .string (sgnT j).2.2.2.2] 56)) (StepPost w0 R res) := fun h => by
        rw [if_pos h] at hre
        have := ahead_step (H.out.below HA) (by omega) j
        rw [hre] at this
        exact this
      have hst2 : ¬ 11 ≤ j → Calls Tryz.prog 143 #[.pointer (some ⟨R, 0, none⟩), .int .i64 j] (w.alloc (.cells #[.int .i64 (sgnT j).1, .string (sgnT j).2.1, .int .i64 (sgnT j).2.2.1, .int .i64 (sgnT j).2.2.2.1, .string (sgnT j).2.2.2.2] 56)) (StepPost w0 R res) := fun h => by
        rw [if_neg h] at hre
        have := between_step (H.out.below HA) hm j (by omega)
        rw [hre] at this
        exact this
      have hn1 : 11 ≤ j → n = 1 := fun h => by rw [← hn]; unfold needsP; rw [if_neg (by omega), if_pos (by omega)]
      have hn2 : ¬ 11 ≤ j → n = 2 := fun h => by rw [← hn]; unfold needsP; rw [if_pos (by omega)]
      clear hre hA h12 hn
      unfold sgnT zeroC at HA hst1 hst2 hk1 ⊢
      dsimp only at HA hst1 hst2 hk1 ⊢
      obtain ⟨s, hs⟩ : ∃ s, sgn j = s := ⟨_, rfl⟩
      rw [hs] at HA hst1 hst2 hk1 q1 q2 ⊢
      clear hs
      by_cases h11 : 11 ≤ j
      · have hst := hst1 h11
        obtain rfl := hn1 h11
        clear hst1 hst2 hn1 hn2
        go_enter Tryz.func86, Tryz.ntmps86
        go_wp2_with fail
        refine hk1.mono ?_
        rintro e w9 ⟨rfl, hw9⟩
        subst hw9
        go_wp2_with fail
        refine (needs_impl j 1 HN.out _).mono ?_
        rintro e w8 ⟨rfl, hw8⟩
        subst hw8
        go_wp2_with fail
        refine hst.mono ?_
        rintro e w1 hpost
        cases res with
        | none =>
          obtain ⟨rfl, hk⟩ := hpost
          go_wp2
          go_ret
          exact ⟨rfl, hk⟩
        | some y =>
          obtain ⟨rfl, hk⟩ := hpost
          go_wp2
          go_ret
          exact ⟨rfl, hk⟩
      · have hst := hst2 h11
        obtain rfl := hn2 h11
        clear hst1 hst2 hn1 hn2
        go_enter Tryz.func86, Tryz.ntmps86
        go_wp2_with fail
        refine hk1.mono ?_
        rintro e w9 ⟨rfl, hw9⟩
        subst hw9
        go_wp2_with fail
        refine (needs_impl j 2 HN.out _).mono ?_
        rintro e w8 ⟨rfl, hw8⟩
        subst hw8
        go_wp2_with fail
        refine hst.mono ?_
        rintro e w1 hpost
        cases res with
        | none =>
          obtain ⟨rfl, hk⟩ := hpost
          go_wp2
          go_ret
          exact ⟨rfl, hk⟩
        | some y =>
          obtain ⟨rfl, hk⟩ := hpost
          go_wp2
          go_ret
          exact ⟨rfl, hk⟩
end Go.Proofs.YtfokdblojlmnlabGreatDoor

/-
  The contract of the program's ReadSum.
-/
namespace Go.Proofs.YtfokdblojlmnlabGreatDoor
open Go.ChangeShapes Go.WideShapes Go.ChangeAt Go.RowKit
attribute [local go_sem ↓] Go.wp_at_zero Go.wp_at_succ
attribute [local simp] World.cell?_alloc_past World.cell?_alloc_at World.frozen?_alloc_at cell_far cell_off cell_here World.frozen?_alloc_past

theorem step_len {t : TT} {y y' : YS} (h : stepY t y = some y') : y'.1.length + y'.2.1.length ≤ y.1.length + y.2.1.length + 1 := by
  obtain ⟨o, W, wh⟩ := y
  unfold stepY at h
  dsimp only at h ⊢
  split at h
  · split at h
    · cases h
    · cases h; simp only [List.length_append, List.length_cons, List.length_nil]; omega
  split at h
  · split at h
    · cases h
    · cases h; simp only [List.length_cons]; omega
  split at h
  · unfold closeY at h
    split at h
    · cases h
    · dsimp only at h
      have hl := settle_len 1 W o
      split at h
      · cases h
      · rename_i e
        cases h
        rw [e, List.length_cons] at hl
        show (settleW 1 o W).1.length + _ ≤ _
        dsimp only
        omega
  split at h
  · unfold aheadY at h
    split at h
    · cases h
    · cases h; simp only [List.length_cons]; omega
  · unfold betweenY at h
    split at h
    · cases h
    · split at h
      · cases h
      · dsimp only at h
        cases h
        have hl := settle_len (bindK (kindS t.2.1) + 1) W o
        have hl2 := settle_len (bindK (kindS t.2.1)) (settleW (bindK (kindS t.2.1) + 1) o W).2 (settleW (bindK (kindS t.2.1) + 1) o W).1
        simp only [List.length_cons]
        omega
/-- What ReadSum answers, by signs that wait. -/
theorem sumR_no {toks : List TT} (h : toks.all tokB = true → runY toks ([], [], false) = none) : sumR toks = ([], false) := by
  cases ha : toks.all tokB with
  | false => exact sumR_bad ha
  | true =>
    have h1 := h ha
    rw [yard ha] at h1
    cases hq : levR 0 toks with
    | none => exact sumR_none hq
    | some z =>
      obtain ⟨p, r⟩ := z
      rw [hq] at h1
      cases r with
      | nil => cases h1
      | cons t r => exact sumR_more hq (by simp)
theorem sumR_yes {toks : List TT} {o : List TI} (ha : toks.all tokB = true) (h : runY toks ([], [], false) = some o) : sumR toks = (if sumB o = true then (o, true) else ([], false)) ∧ o.all itemB = true := by
  rw [yard ha] at h
  cases hq : levR 0 toks with
  | none => rw [hq] at h; cases h
  | some z =>
    obtain ⟨p, r⟩ := z
    rw [hq] at h
    cases r with
    | nil =>
      cases h
      exact ⟨sumR_end ha hq, levR_all ha hq⟩
    | cons t r => cases h
theorem fitI_of {o : List TI} (h : o.all itemB = true) : FitI o := fun x hx => by
  have := itemB_fits (List.all_eq_true.1 h x hx)
  unfold maxLen
  omega
/-- An answer of items in memory of its own. -/
def AnsItm (w : World) (B : Nat) (v : Value) (l : List TI) : Prop := w.ownsRow B 102 5 v l.length (flatItm l) ∧ v ≠ .slice none 0 0
theorem ansItm_none {w : World} {B : Nat} (h : B ≤ w.heap.size) : AnsItm (w.alloc (.cells #[] 102)) B (.slice (some ⟨w.heap.size, 0, none⟩) 0 0) [] :=
  ⟨⟨rfl, .inr ⟨w.heap.size, 0, #[], rfl, h, by show (w.heap.push _)[w.heap.size]? = _; simp, Nat.le_refl _, by unfold maxLen; omega, rfl, rfl⟩⟩, by simp⟩
/-- Where the reader is. -/
def YRel (w : World) (R : Nat) (toks : List TT) (k : Nat) (wr : World) : Prop := ∃ vi vw y, Yd w wr R vi vw y.1 y.2.1 y.2.2 ∧ (toks.take k).all tokB = true ∧ runY toks ([], [], false) = runY (toks.drop k) y ∧ y.1.length + y.2.1.length ≤ k
set_option maxRecDepth 100000 in
set_option maxHeartbeats 4000000 in
theorem readsum_impl (a : Option Addr) (cap : Nat) (toks : List TT) (n : Nat) (hn : toks.length = n) (w : World) (hrow : TokAt w a toks) (hfit : ∀ x ∈ toks, x.2.1.size ≤ 1048576 ∧ x.2.2.2.2.size ≤ maxLen) (hm : n ≤ 1048576) (hp : PowAt w) (he : ErrAt w) (hs : SgnAt w) (l : List TI) (b : Bool) (hR : sumR toks = (l, b)) :
    Calls Tryz.prog 38 #[.slice a n cap] w fun e w' => ∃ v, e = .returned (.tuple #[v, .bool b]) ∧ AnsItm w' w.heap.size v l ∧ Below w.heap.size w w' := by
  have HK : Hid (TokAt w a toks) := hrow
  have HF : Hid (∀ x ∈ toks, x.2.1.size ≤ 1048576 ∧ x.2.2.2.2.size ≤ maxLen) := hfit
  have HN : Hid (toks.length = n) := hn
  have HP : Hid (PowAt w) := hp
  have HE : Hid (ErrAt w) := he
  have HSg : Hid (SgnAt w) := hs
  have HR : Hid (sumR toks = (l, b)) := hR
  clear hrow hfit hn hp he hs hR
  go_enter Tryz.func38, Tryz.ntmps38
  go_wp2
  obtain ⟨V, hV⟩ : ∃ V, V = w.alloc (.cells #[.slice none 0 0, .slice none 0 0, .bool false] 109) := ⟨_, rfl⟩
  have hY0 : Yd w V w.heap.size (.slice none 0 0) (.slice none 0 0) [] [] false := by
    rw [hV]
    refine ⟨?_, ⟨rfl, .inl ⟨rfl, rfl⟩⟩, ⟨rfl, .inl ⟨rfl, rfl⟩⟩, (Below.refl _ _).alloc (Nat.le_refl _) _, Nat.le_refl _⟩
    show (w.heap.push _)[w.heap.size]? = _
    simp
  have Y0 : Hid (YRel w w.heap.size toks 0 V) := ⟨_, _, ([], [], false), hY0, rfl, rfl, Nat.le_refl _⟩
  rw [← hV]
  obtain ⟨R, hRe⟩ : ∃ R, w.heap.size = R := ⟨_, rfl⟩
  rw [hRe] at Y0
  have HRe : Hid (w.heap.size = R) := hRe
  simp only [hRe]
  clear hV hY0 hRe
  go_loopw [10] (fun kk wr => ∃ k : Nat, k ≤ n ∧ kk = .int .i64 k ∧ Hid (YRel w R toks k wr)) (fun kk _ => n - (intOf kk).toNat)
  case atStart => exact ⟨0, Nat.zero_le _, rfl, Y0⟩
  case round =>
    clear Y0
    obtain ⟨k, hkn, rfl, hrel⟩ := hrel
    obtain ⟨vi, vw, ⟨o, W, wh⟩, hY, hall, hrun, hlen⟩ := hrel.out
    dsimp only at hY hlen
    have Y1 : Hid (Yd w wr R vi vw o W wh) := hY
    have hb := hY.kept
    by_cases hlt : k < n
    · have hlk : k < toks.length := by rw [HN.out]; exact hlt
      obtain ⟨g, oo, rfl, hgw, c0, c1, c2, c3, c4⟩ := HK.out.below hb k hlk
      have hi0 : (0 : Int) ≤ (k : Int) := by omega
      have hi1 : (k : Int) < (n : Int) := by omega
      obtain ⟨hf1, hf2⟩ := HF.out _ (List.getElem_mem hlk)
      have hal := allT_snoc toks k hlk
      rw [hall, Bool.true_and] at hal
      have hdr : toks.drop k = toks[k] :: toks.drop (k + 1) := List.drop_eq_getElem_cons hlk
      rw [hdr, runY_cons] at hrun
      obtain ⟨q, hq⟩ : ∃ q, tokB toks[k] = q := ⟨_, rfl⟩
      obtain ⟨res, hres⟩ : ∃ res, stepY toks[k] (o, W, wh) = res := ⟨_, rfl⟩
      rw [hres] at hrun
      have HQ : Hid (tokB toks[k] = q) := hq
      have HRes : Hid (stepY toks[k] (o, W, wh) = res) := hres
      have HNo1 : Hid (q = false → l = [] ∧ b = false) := by
        have : q = false → l = [] ∧ b = false := fun e => by
          have h1 : toks.all tokB = false := by
            rw [Bool.eq_false_iff]
            intro h
            have := List.all_eq_true.1 h _ (List.getElem_mem hlk)
            rw [hq, e] at this
            cases this
          have := HR.out
          rw [sumR_bad h1] at this
          injection this with e1 e2
          exact ⟨e1.symm, e2.symm⟩
        exact this
      have HNo2 : Hid (res = none → l = [] ∧ b = false) := by
        have : res = none → l = [] ∧ b = false := fun e => by
          subst e
          have := HR.out
          rw [sumR_no (fun _ => hrun)] at this
          injection this with e1 e2
          exact ⟨e1.symm, e2.symm⟩
        exact this
      have HGo : Hid (∀ y' wz vi' vw', q = true → res = some y' → Yd w wz R vi' vw' y'.1 y'.2.1 y'.2.2 → YRel w R toks (k + 1) wz) := by
        have : ∀ y' wz vi' vw', q = true → res = some y' → Yd w wz R vi' vw' y'.1 y'.2.1 y'.2.2 → YRel w R toks (k + 1) wz := fun y' wz vi' vw' e1 e2 hz => by
          subst e2
          have hl := step_len hres
          dsimp only at hl
          exact ⟨vi', vw', y', hz, by rw [hal, hq]; exact e1, hrun, by omega⟩
        exact this
      clear hal hdr hq hres hrun hall hrel hY
      generalize toks[k] = x at c0 c1 c2 c3 c4 hf1 hf2 HQ HRes
      have hxA : Below w.heap.size w (wr.alloc (.cells #[.int .i64 x.1, .string x.2.1, .int .i64 x.2.2.1, .int .i64 x.2.2.2.1, .string x.2.2.2.2] 56)) := hb.alloc hb.size _
      go_wp2_with fail
      refine (tok_impl x _ hf1 hf2 (HP.out.below hxA) (HE.out.below hxA) q HQ.out).mono ?_
      rintro e w1 ⟨rfl, hb1⟩
      have hbA : Below wr.heap.size wr w1 := chainA hb1
      obtain ⟨d0, d1, d2, d3, d4, d5⟩ := box5 hb1
      have Y2 : Hid (Yd w w1 R vi vw o W wh) := Y1.out.below hbA
      have hx1 := chain hxA hb1
      clear Y1 c0 c1 c2 c3 c4 hb1 hbA hxA
      cases q
      · obtain ⟨rfl, rfl⟩ := HNo1.out rfl
        have fin : Hid (AnsItm (w1.alloc (.cells #[] 102)) w.heap.size (.slice (some ⟨w1.heap.size, 0, none⟩) 0 0) [] ∧ Below w.heap.size w (w1.alloc (.cells #[] 102))) := ⟨ansItm_none hx1.size, hx1.alloc hx1.size _⟩
        clear d0 d1 d2 d3 d4
        go_wp2
        go_ret2
        exact ⟨_, rfl, fin.out.1, fin.out.2⟩
      · have hst := takes_step Y2.out (by omega) x HQ.out (HSg.out.below hx1)
        rw [HRes.out] at hst
        go_wp2_with fail
        refine hst.mono ?_
        rintro e w2 hpost
        clear d0 d1 d2 d3 d4
        cases res with
        | none =>
          obtain ⟨rfl, hk⟩ := hpost
          obtain ⟨rfl, rfl⟩ := HNo2.out rfl
          have fin : Hid (AnsItm (w2.alloc (.cells #[] 102)) w.heap.size (.slice (some ⟨w2.heap.size, 0, none⟩) 0 0) [] ∧ Below w.heap.size w (w2.alloc (.cells #[] 102))) := ⟨ansItm_none hk.size, hk.alloc hk.size _⟩
          clear hst
          go_wp2
          go_ret2
          exact ⟨_, rfl, fin.out.1, fin.out.2⟩
        | some y' =>
          obtain ⟨rfl, vi', vw', hz⟩ := hpost
          have Rel : Hid (YRel w R toks (k + 1) w2) := HGo.out y' w2 vi' vw' (by first | rfl | trivial) (by first | rfl | trivial) hz
          clear hst hz HGo
          go_wp2
          go_roundw
          case rel => exact ⟨k + 1, by omega, by go_num, Rel⟩
          case measure => simp [intOf]; omega
    · have hkl : k = n := by omega
      subst hkl
      have hi1 : ¬ (k : Int) < (k : Int) := by omega
      have hall2 : toks.all tokB = true := by
        rwa [List.take_of_length_le (by rw [HN.out]; exact Nat.le_refl _)] at hall
      rw [List.drop_eq_nil_of_le (by rw [HN.out]; exact Nat.le_refl _)] at hrun
      have hend : runY toks ([], [], false) = endY (o, W, wh) := hrun
      obtain ⟨en, hen⟩ : ∃ en, (endY (o, W, wh)).isSome = en := ⟨_, rfl⟩
      have hE := ends_step Y1.out (by omega)
      rw [hen] at hE
      have hlS := settle_len 1 W o
      obtain ⟨o1, W1, hS⟩ : ∃ o1 W1, settleW 1 o W = (o1, W1) := ⟨_, _, rfl⟩
      rw [hS] at hE hlS
      dsimp only at hE hlS
      have HNo : Hid (en = false → l = [] ∧ b = false) := by
        have : en = false → l = [] ∧ b = false := fun e => by
          have h1 : endY (o, W, wh) = none := by
            cases hz : endY (o, W, wh) with
            | none => rfl
            | some z => rw [hz, e] at hen; cases hen
          have := HR.out
          rw [sumR_no (fun _ => hend.trans h1)] at this
          injection this with e1 e2
          exact ⟨e1.symm, e2.symm⟩
        exact this
      have HYes : Hid (en = true → (if sumB o1 = true then (o1, true) else ([], false)) = (l, b) ∧ o1.all itemB = true) := by
        have : en = true → (if sumB o1 = true then (o1, true) else ([], false)) = (l, b) ∧ o1.all itemB = true := fun e => by
          have h1 : endY (o, W, wh) = some o1 := by
            unfold endY at hen ⊢
            dsimp only at hen ⊢
            rw [hS] at hen ⊢
            dsimp only at hen ⊢
            split at hen
            · rename_i hc; rw [if_pos hc]
            · rw [e] at hen; cases hen
          have h2 := sumR_yes hall2 (hend.trans h1)
          rw [HR.out] at h2
          exact ⟨h2.1.symm, h2.2⟩
        exact this
      clear hall2 hrun hend hen hS hall hrel hY Y1
      go_wp2_with fail
      refine hE.mono ?_
      rintro e w1 ⟨rfl, vi', vw', hz⟩
      have Y2 : Hid (Yd w w1 R vi' vw' o1 W1 wh) := hz
      have hx1 := hz.kept
      clear hE hz
      cases en
      · obtain ⟨rfl, rfl⟩ := HNo.out rfl
        have fin : Hid (AnsItm (w1.alloc (.cells #[] 102)) w.heap.size (.slice (some ⟨w1.heap.size, 0, none⟩) 0 0) [] ∧ Below w.heap.size w (w1.alloc (.cells #[] 102))) := ⟨ansItm_none hx1.size, hx1.alloc hx1.size _⟩
        go_wp2
        go_ret2
        exact ⟨_, rfl, fin.out.1, fin.out.2⟩
      · obtain ⟨hfin, hitm⟩ := HYes.out rfl
        obtain ⟨sb, hsb⟩ : ∃ sb, sumB o1 = sb := ⟨_, rfl⟩
        rw [hsb] at hfin
        have HFin : Hid ((if sb = true then (o1, true) else ([], false)) = (l, b)) := hfin
        have HSB : Hid (sumB o1 = sb) := hsb
        have HFI : Hid (FitI o1) := fitI_of hitm
        obtain ⟨q0, q1, q2⟩ := Y2.out.box.cells
        obtain ⟨ga, ca, rfl⟩ := Y2.out.formI
        have HAt : Hid (ItmAt w1 ga o1) := by
          obtain ⟨a', c', e1, e2⟩ := own_itm Y2.out.ownI
          cases e1
          exact e2
        obtain ⟨L, hL⟩ : ∃ L, o1.length = L := ⟨_, rfl⟩
        have HL : Hid (o1.length = L) := hL
        rw [hL] at q0 hlS
        clear hfin hsb hitm HYes HNo
        go_wp2_with fail
        refine (sum_impl ga ca o1 L HL.out _ HAt.out HFI.out (by unfold maxLen; omega) (HP.out.below hx1) (HE.out.below hx1) sb HSB.out).mono ?_
        rintro e w2 ⟨rfl, hb2⟩
        have Y3 : Hid (Yd w w2 R (.slice ga o1.length ca) vw' o1 W1 wh) := Y2.out.below hb2
        have hx2 := chain hx1 hb2
        clear Y2 HAt q0 q1 q2 hb2
        obtain ⟨q0, q1, q2⟩ := Y3.out.box.cells
        rw [HL.out] at q0
        cases sb
        · have h := HFin.out
          rw [if_neg (by decide)] at h
          injection h with e1 e2
          subst e1 e2
          have fin : Hid (AnsItm (w2.alloc (.cells #[] 102)) w.heap.size (.slice (some ⟨w2.heap.size, 0, none⟩) 0 0) [] ∧ Below w.heap.size w (w2.alloc (.cells #[] 102))) := ⟨ansItm_none hx2.size, hx2.alloc hx2.size _⟩
          clear HFin
          go_wp2
          go_ret2
          exact ⟨_, rfl, fin.out.1, fin.out.2⟩
        · have h := HFin.out
          rw [if_pos rfl] at h
          injection h with e1 e2
          subst e1 e2
          have fin : Hid (AnsItm w2 w.heap.size (.slice ga L ca) o1) := by
            have : AnsItm w2 w.heap.size (.slice ga L ca) o1 := by
              refine ⟨by rw [← HL.out]; exact Y3.out.ownI, fun e => ?_⟩
              injection e with _ e2 _
              have : o1 = [] := List.length_eq_zero_iff.1 (by rw [HL.out]; exact e2)
              subst this
              exact absurd HSB.out (by decide)
            exact this
          clear HFin
          go_wp2
          go_ret2
          exact ⟨_, rfl, fin.out, hx2⟩
end Go.Proofs.YtfokdblojlmnlabGreatDoor

/-
  The model's reader of tokens: where it lies, and the contracts of its small steps.
-/
namespace Go.Proofs.YtfokdblojlmnlabGreatDoor
open Go.ChangeShapes Go.WideShapes Go.ChangeAt Go.RowKit
attribute [local go_sem ↓] Go.wp_at_zero Go.wp_at_succ
attribute [local simp] World.cell?_alloc_past World.cell?_alloc_at World.frozen?_alloc_at cell_far cell_off cell_here World.frozen?_alloc_past

/-- The four fields of a reader in block R. -/
def RBox (w : World) (R : Nat) (v0 : Value) (k : Int) (vo : Value) (bad : Bool) : Prop := w.heap[R]? = some (.cells #[v0, .int .i64 k, vo, .bool bad] 113 (0, 0))
theorem RBox.lt {w : World} {R : Nat} {v0 : Value} {k : Int} {vo : Value} {bad : Bool} (h : RBox w R v0 k vo bad) : R < w.heap.size := by
  by_cases hl : R < w.heap.size
  · exact hl
  · unfold RBox at h; rw [Array.getElem?_eq_none (by omega)] at h; cases h
theorem RBox.cells {w : World} {R : Nat} {v0 : Value} {k : Int} {vo : Value} {bad : Bool} (h : RBox w R v0 k vo bad) : w.cell? ⟨R, 0, none⟩ = some v0 ∧ w.cell? ⟨R, 1, none⟩ = some (.int .i64 k) ∧ w.cell? ⟨R, 2, none⟩ = some vo ∧ w.cell? ⟨R, 3, none⟩ = some (.bool bad) := by
  unfold RBox at h
  refine ⟨?_, ?_, ?_, ?_⟩ <;> simp [World.cell?, h]
theorem RBox.free {w : World} {R : Nat} {v0 : Value} {k : Int} {vo : Value} {bad : Bool} (h : RBox w R v0 k vo bad) : w.frozen? ⟨R, 1, none⟩ = false ∧ w.frozen? ⟨R, 2, none⟩ = false ∧ w.frozen? ⟨R, 3, none⟩ = false := by
  unfold RBox at h
  refine ⟨?_, ?_, ?_⟩ <;> simp [World.frozen?, h]
theorem RBox.of {w w' : World} {R : Nat} {v0 : Value} {k : Int} {vo : Value} {bad : Bool} (h : RBox w R v0 k vo bad) (e : w'.heap[R]? = w.heap[R]?) : RBox w' R v0 k vo bad := by unfold RBox at h ⊢; rw [e]; exact h
theorem RBox.below {w w' : World} {R : Nat} {v0 : Value} {k : Int} {vo : Value} {bad : Bool} (h : RBox w R v0 k vo bad) (hb : Below w.heap.size w w') : RBox w' R v0 k vo bad := h.of (hb.block R h.lt)
theorem RBox.set1 {w : World} {R : Nat} {v0 : Value} {k : Int} {vo : Value} {bad : Bool} (h : RBox w R v0 k vo bad) (u : Int) : RBox (w.setCell ⟨R, 1, none⟩ (.int .i64 u)) R v0 u vo bad := by
  have := heap_setCell_same w R 1 #[v0, .int .i64 k, vo, .bool bad] 113 (.int .i64 u) h
  unfold RBox; rw [this]; rfl
theorem RBox.set2 {w : World} {R : Nat} {v0 : Value} {k : Int} {vo : Value} {bad : Bool} (h : RBox w R v0 k vo bad) (u : Value) : RBox (w.setCell ⟨R, 2, none⟩ u) R v0 k u bad := by
  have := heap_setCell_same w R 2 #[v0, .int .i64 k, vo, .bool bad] 113 u h
  unfold RBox; rw [this]; rfl
theorem RBox.set3 {w : World} {R : Nat} {v0 : Value} {k : Int} {vo : Value} {bad : Bool} (h : RBox w R v0 k vo bad) (u : Bool) : RBox (w.setCell ⟨R, 3, none⟩ (.bool u)) R v0 k vo u := by
  have := heap_setCell_same w R 3 #[v0, .int .i64 k, vo, .bool bad] 113 (.bool u) h
  unfold RBox; rw [this]; rfl
theorem RBox.notOwn {w : World} {R : Nat} {v0 : Value} {k : Int} {vo : Value} {bad : Bool} (h : RBox w R v0 k vo bad) {base : Nat} {size n : Nat} {v : Value} {xs : List Value} (ho : w.ownsRow base 102 size v n xs) : v.ownBlock ≠ some R := by
  rcases ho.2 with ⟨rfl, _⟩ | ⟨g, cap, cur, rfl, _, hg, _⟩
  · simp [Value.ownBlock]
  · intro hh
    simp only [Value.ownBlock, Option.some.injEq] at hh
    subst hh
    unfold RBox at h
    rw [h] at hg
    simp at hg
/-- A reader of these tokens: how far it has come, what it made, whether something was wrong; all that was there before w0 is as it was. -/
structure Rd (w0 w : World) (R : Nat) (a : Option Addr) (n c : Nat) (toks : List TT) (k : Nat) (vo : Value) (out : List TI) (bad : Bool) : Prop where
  box : RBox w R (.slice a n c) k vo bad
  own : w.ownsRow w0.heap.size 102 5 vo out.length (flatItm out)
  kept : Below w0.heap.size w0 w
  hR : w0.heap.size ≤ R
  row : TokAt w0 a toks
  hn : toks.length = n
  hk : k ≤ n
  hout : out.length ≤ k
theorem Rd.below {w0 w w' : World} {R : Nat} {a : Option Addr} {n c : Nat} {toks : List TT} {k : Nat} {vo : Value} {out : List TI} {bad : Bool} (h : Rd w0 w R a n c toks k vo out bad) (hb : Below w.heap.size w w') : Rd w0 w' R a n c toks k vo out bad :=
  ⟨h.box.below hb, own_below h.own hb, chain h.kept hb, h.hR, h.row, h.hn, h.hk, h.hout⟩
theorem Rd.drew {w0 w : World} {R : Nat} {a : Option Addr} {n c : Nat} {toks : List TT} {k : Nat} {vo : Value} {out : List TI} {bad : Bool} (h : Rd w0 w R a n c toks k vo out bad) : Rd w0 w.drew R a n c toks k vo out bad := h.below (Below.refl _ _).drew
theorem Rd.at {w0 w : World} {R : Nat} {a : Option Addr} {n c : Nat} {toks : List TT} {k : Nat} {vo : Value} {out : List TI} {bad : Bool} (h : Rd w0 w R a n c toks k vo out bad) (j : Nat) (hj : j ≤ n) (hjk : out.length ≤ j) : Rd w0 (w.setCell ⟨R, 1, none⟩ (.int .i64 (j : Int))) R a n c toks j vo out bad :=
  ⟨h.box.set1 j, ownsRow_setCell_other h.own (h.box.notOwn h.own) _, h.kept.setCell h.hR _, h.hR, h.row, h.hn, hj, hjk⟩
theorem Rd.wrong {w0 w : World} {R : Nat} {a : Option Addr} {n c : Nat} {toks : List TT} {k : Nat} {vo : Value} {out : List TI} {bad : Bool} (h : Rd w0 w R a n c toks k vo out bad) (b : Bool) : Rd w0 (w.setCell ⟨R, 3, none⟩ (.bool b)) R a n c toks k vo out b :=
  ⟨h.box.set3 b, ownsRow_setCell_other h.own (h.box.notOwn h.own) _, h.kept.setCell h.hR _, h.hR, h.row, h.hn, h.hk, h.hout⟩
theorem drop_at {toks : List TT} {k : Nat} (h : k < toks.length) : toks.drop k = toks[k] :: toks.drop (k + 1) := List.drop_eq_getElem_cons h
set_option maxRecDepth 100000 in
set_option maxHeartbeats 4000000 in
theorem sees_spec {w0 w : World} {R : Nat} {a : Option Addr} {n c : Nat} {toks : List TT} {k : Nat} {vo : Value} {out : List TI} {bad : Bool} (h : Rd w0 w R a n c toks k vo out bad) (hm : n ≤ 1048576) (s : ByteArray) :
    Calls Tryz.prog 148 #[.pointer (some ⟨R, 0, none⟩), .string s] w fun e w' => ∃ b k', e = .returned (.bool b) ∧ Rd w0 w' R a n c toks k' vo out bad ∧ (b = true → k' = k + 1 ∧ seesT s (toks.drop k) = some (toks.drop (k + 1))) ∧ (b = false → k' = k ∧ seesT s (toks.drop k) = none) ∧ Keep R w w' := by
  have H : Hid (Rd w0 w R a n c toks k vo out bad) := h
  have hkn := h.hk
  have hln := h.hn
  obtain ⟨r0, r1, r2, r3⟩ := h.box.cells
  obtain ⟨f1, f2, f3⟩ := h.box.free
  have hrow := h.row.below h.kept
  clear h
  by_cases hk : k < n
  · have hk' : k < toks.length := by omega
    obtain ⟨g, o, rfl, hgw, c0, c1, _, _, _⟩ := hrow k hk'
    have hd := drop_at hk'
    have hi0 : (0 : Int) ≤ (k : Int) := by omega
    have hi1 : (k : Int) < (n : Int) := by omega
    generalize toks[k] = t at c0 c1 hd
    obtain ⟨tk, ts, tc⟩ := t
    dsimp only at c0 c1
    have HD : Hid (toks.drop k = (tk, ts, tc) :: toks.drop (k + 1)) := hd
    clear hd hrow
    by_cases h3 : tk = 3
    · subst h3
      by_cases hs : ts = s
      · subst hs
        have hss : (ts.toList == ts.toList) = true := by simp
        go_enter Tryz.func148, Tryz.ntmps148
        go_wp2_with fail
        go_quiet (fail)
        rename_i nq _
        have H2 : Hid (Rd w0 (w.drewN nq) R (some ⟨g, o, none⟩) n c toks k vo out bad) := H.out.below (belowN (Below.refl _ _) nq)
        have fin : Hid (Rd w0 ((w.drewN nq).setCell ⟨R, 1, none⟩ (.int .i64 (k + 1 : Int))) R (some ⟨g, o, none⟩) n c toks (k + 1) vo out bad) := H2.out.at (k + 1) (by omega) (by have := H.out.hout; omega)
        clear H2
        go_wp2
        go_ret
        exact ⟨true, k + 1, rfl, fin.out, fun _ => ⟨rfl, by rw [HD.out]; exact sees_this _ _ _⟩, (fun h => by cases h), (((Keep.refl R w).drewN nq).setCell (.inl rfl) _)⟩
      · have hss : (ts.toList == s.toList) = false := txt_other hs
        go_enter Tryz.func148, Tryz.ntmps148
        go_wp2_with fail
        go_quiet (fail)
        rename_i nq _
        have fin : Hid (Rd w0 (w.drewN nq) R (some ⟨g, o, none⟩) n c toks k vo out bad) := H.out.below (belowN (Below.refl _ _) nq)
        go_wp2
        go_ret
        exact ⟨false, k, rfl, fin.out, (fun h => by cases h), fun _ => ⟨rfl, by rw [HD.out, seesT_cons, if_neg]; rintro ⟨_, e⟩; exact hs e⟩, (Keep.refl R w).drewN nq⟩
    · have h33 : (tk == 3) = false := by simpa using h3
      go_enter Tryz.func148, Tryz.ntmps148
      go_wp2_with fail
      go_quiet (fail)
      rename_i nq _
      have fin : Hid (Rd w0 (w.drewN nq) R (some ⟨g, o, none⟩) n c toks k vo out bad) := H.out.below (belowN (Below.refl _ _) nq)
      go_wp2
      go_ret
      exact ⟨false, k, rfl, fin.out, (fun h => by cases h), fun _ => ⟨rfl, by rw [HD.out, seesT_cons, if_neg]; rintro ⟨e, _⟩; exact h3 e⟩, (Keep.refl R w).drewN nq⟩
  · have hi1 : ¬ (k : Int) < (n : Int) := by omega
    clear hrow
    go_enter Tryz.func148, Tryz.ntmps148
    go_wp2_with fail
    go_quiet (fail)
    rename_i nq _
    have fin : Hid (Rd w0 (w.drewN nq) R a n c toks k vo out bad) := H.out.below (belowN (Below.refl _ _) nq)
    go_wp2
    go_ret
    exact ⟨false, k, rfl, fin.out, (fun h => by cases h), fun _ => ⟨rfl, by rw [List.drop_eq_nil_of_le (by omega)]; rfl⟩, (Keep.refl R w).drewN nq⟩
set_option maxRecDepth 100000 in
set_option maxHeartbeats 4000000 in
theorem make_spec {w0 w : World} {R : Nat} {a : Option Addr} {n c : Nat} {toks : List TT} {k : Nat} {vo : Value} {out : List TI} {bad : Bool} (h : Rd w0 w R a n c toks k vo out bad) (hm : n ≤ 1048576) (hs : out.length < k) (kd : Int) :
    Calls Tryz.prog 147 #[.pointer (some ⟨R, 0, none⟩), .int .i64 kd] w fun e w' => ∃ v', e = .returned (.tuple #[]) ∧ Rd w0 w' R a n c toks k v' (out ++ [opI kd]) bad := by
  obtain ⟨i0, hti, hz0, hz1, hz2⟩ := info_parts infoItm5
  have H : Hid (Rd w0 w R a n c toks k vo out bad) := h
  have hkn := h.hk
  obtain ⟨r0, r1, r2, r3⟩ := h.box.cells
  obtain ⟨f1, f2, f3⟩ := h.box.free
  have hlt := h.box.lt
  clear h
  go_enter Tryz.func147, Tryz.ntmps147
  go_wp2_with (at_builtin; refine wpList_append_own _ rfl _ _ 60 rfl w0.heap.size 102 i0 (.agg #[.int .i64 0, .int .i64 0, .int .i64 0, .string ⟨#[]⟩, .string ⟨#[]⟩]) 5 56 Tryz.underlying60 hti hz0 hz1 hz2 rfl (by decide) _ _ _ rfl (H.out.own.alloc _) ⟨w.heap.size, 0, none⟩ 1 1 [.int .i64 kd, .int .i64 0, .int .i64 0, .string ⟨#[]⟩, .string ⟨#[]⟩] rfl rfl (cells5I w _ _ _ _ _) (by intro u hu; simp at hu; rcases hu with rfl | rfl | rfl | rfl | rfl <;> rfl) (by unfold maxLen; omega) (by omega) (by have := H.out.kept.size; simp; omega) ?_)
  intro v' w2 own2 hgrow hnn
  have hbox2 : RBox w2 R (.slice a n c) k vo bad := by
    have hb1 : RBox (w.alloc (.cells #[.int .i64 kd, .int .i64 0, .int .i64 0, .string ⟨#[]⟩, .string ⟨#[]⟩] 102)) R (.slice a n c) k vo bad := H.out.box.below ((Below.refl _ _).alloc (Nat.le_refl _) _)
    exact hb1.of (hgrow.block R hb1.lt (fun e => H.out.box.notOwn H.out.own e.symm))
  have hk2 : Below w0.heap.size w0 w2 := by
    refine (H.out.kept.alloc H.out.kept.size _).grown hgrow (by have := H.out.kept.size; simp; omega) ?_
    intro kk hkk
    exact (H.out.own.lt kk hkk).1
  have own3 : w2.ownsRow w0.heap.size 102 5 v' (out ++ [opI kd]).length (flatItm (out ++ [opI kd])) := by
    rw [flatItm_append, List.length_append]
    exact own2
  obtain ⟨gv, cv, rfl⟩ : ∃ gv cv, v' = .slice (some ⟨gv, 0, none⟩) (out ++ [opI kd]).length cv := by
    rcases own3.2 with ⟨h', h''⟩ | ⟨gv, cv, cur, h', _⟩
    · exfalso; rw [List.length_append] at h''; simp at h''
    · exact ⟨gv, cv, h'⟩
  obtain ⟨L, hL⟩ : ∃ L, (out ++ [opI kd]).length = L := ⟨_, rfl⟩
  have fin : Hid (Rd w0 (w2.setCell ⟨R, 2, none⟩ (.slice (some ⟨gv, 0, none⟩) L cv)) R a n c toks k (.slice (some ⟨gv, 0, none⟩) L cv) (out ++ [opI kd]) bad) := by
    rw [hL] at own3
    have o4 : w2.ownsRow w0.heap.size 102 5 (.slice (some ⟨gv, 0, none⟩) L cv) (out ++ [opI kd]).length (flatItm (out ++ [opI kd])) := by rw [hL]; exact own3
    exact ⟨hbox2.set2 _, ownsRow_setCell_other o4 (hbox2.notOwn o4) _, hk2.setCell H.out.hR _, H.out.hR, H.out.row, H.out.hn, H.out.hk, by rw [List.length_append]; show out.length + 1 ≤ k; omega⟩
  obtain ⟨s0, s1, s2, s3⟩ := hbox2.cells
  obtain ⟨g1, g2, g3⟩ := hbox2.free
  rw [hL]
  clear own2 own3 hgrow hnn hbox2 hk2 hL
  go_wp2_with fail
  exact bodyPost_end (v := .tuple #[]) (by first | rfl | kernel_rfl) rfl ⟨_, rfl, fin.out⟩
end Go.Proofs.YtfokdblojlmnlabGreatDoor
