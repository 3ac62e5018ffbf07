/-
  The walk of the law FnRows.
-/
import Derived.Test.YtgeipficjfaocaaGreatDoorKeyDraw
import Derived.Test.YtgeipficjfaocaaGreatDoorReadRowI
import Derived.Test.YtgeipficjfaocaaGreatDoorRowI
import Derived.Test.YtgeipficjfaocaaGreatDoorLike
import Derived.Test.YtgeipficjfaocaaGreatDoorLaw1
namespace Go.Proofs.YtgeipficjfaocaaGreatDoor
open Go.ChangeShapes Go.WideShapes Go.ChangeAt Go.RowKit
attribute [local go_sem ↓] Go.wp_at_zero Go.wp_at_succ
attribute [local simp] World.cell?_alloc_past World.cell?_alloc_at World.frozen?_alloc_at cell_far cell_off cell_here World.frozen?_alloc_past

namespace rowsLaw

theorem likeN (n : Nat) (a b : Option Addr) (ca cb : Nat) (l : List CT) (hn : l.length = n) (w : World) (ha : RowAt w a l) (hb : RowAt w b l) (hl : n ≤ maxLen) :
    Calls Tryz.prog 13 #[.slice a n ca, .slice b n cb] w fun e w' => e = .returned (.bool true) ∧ Below w.heap.size w w' := by
  subst hn; exact like_row a b ca cb l w ha hb hl
theorem textIN (n : Nat) (a : Option Addr) (cap : Nat) (l : List CT) (hn : l.length = n) (w : World) (hrow : RowAt w a l) (hfit : Fit l) (hm : n ≤ 1048576) (hp : PowAt w) (y : ByteArray) (hy : rowT l = y) :
    Calls Tryz.prog 6 #[.slice a n cap] w fun e w' => e = .returned (.string y) ∧ Below w.heap.size w w' := by
  subst hn; exact rowtext_impl a cap l w hrow hfit hm hp y hy
theorem textSN (n : Nat) (a : Option Addr) (cap : Nat) (l : List CT) (hn : l.length = n) (w : World) (hrow : RowAt w a l) (hfit : Fit l) (hm : n ≤ 1048576) (y : ByteArray) (hy : rowT l = y) :
    Calls Tryz.prog 14 #[.slice a n cap] w fun e w' => e = .returned (.string y) ∧ Below w.heap.size w w' := by
  subst hn; exact rowtext_spec a cap l w hrow hfit hm y hy
theorem rowT_size4 (l : List CT) (hl : l.length ≤ 4) : (rowT l).size ≤ 59 := by
  by_cases h3 : l.length ≤ 3
  · have := rowT_size l h3; omega
  unfold rowT
  split
  · rename_i h
    have hone : ∀ c ∈ l, (textC c).length ≤ 14 := fun c hc => l4T_len (List.all_eq_true.1 h c hc)
    show (Lib.join (l.map textC) [32]).length ≤ 59
    match l, hl, h3, hone with
    | [x, y, z, v], _, _, hone =>
      have h1 := hone x (by simp)
      have h2 := hone y (by simp)
      have h3 := hone z (by simp)
      have h4 := hone v (by simp)
      simp [Lib.join]; omega
    | [], _, h3, _ => exact absurd (by simp) h3
    | [x], _, h3, _ => exact absurd (by simp) h3
    | [x, y], _, h3, _ => exact absurd (by simp) h3
    | [x, y, z], _, h3, _ => exact absurd (by simp) h3
  · exact Nat.zero_le _
theorem rowR_len (s : ByteArray) (l : List CT) (b : Bool) (h : rowR s = (l, b)) : l.length ≤ s.size + 1 := by
  unfold rowR readRowB at h
  split at h
  · rename_i l' h'
    injection h with e _
    subst e
    split at h'
    · injection h' with e; subst e; simp
    · rw [readAll_length _ _ h', Lib.size_eq]; exact pieces_length _
  · injection h with e _; subst e; simp
theorem ans_form {w : World} {B : Nat} {v : Value} {l : List CT} (h : Answer w B v l) : ∃ g c, v = .slice (some ⟨g, 0, none⟩) l.length c := by
  rcases h.1.2 with ⟨h', _⟩ | ⟨g, c, cur, h', _⟩
  · exact absurd h' h.2
  · exact ⟨g, c, h'⟩
theorem rowR_true {s : ByteArray} {l : List CT} (h : rowR s = (l, true)) : l.all okC = true ∧ rowT l = s := by
  unfold rowR at h
  split at h
  · rename_i l' h'
    injection h with e _
    subst e
    exact readRow_some h'
  · injection h with _ e; cases e
theorem readR_true {s : ByteArray} {k n : Int} {t : ByteArray} (h : readR s = (k, n, t, true)) : okB k n t = true ∧ cellT k n t = s := by
  unfold readR at h
  split at h
  · rename_i k' n' t' h'
    injection h with e1 h; injection h with e2 h; injection h with e3 h
    subst e1 e2 e3
    exact readB_some h'
  · injection h with _ h; injection h with _ h; injection h with _ h; cases h
theorem okB_fit {k n : Int} {t : ByteArray} (h : okB k n t = true) : t.size ≤ maxLen := by
  unfold maxLen
  rcases okB_kind h with rfl | rfl | rfl | rfl
  · rw [(okB_0 h).2]; exact Nat.zero_le _
  · rw [(okB_1 h).2]; exact Nat.zero_le _
  · have := (okB_2 h).2
    unfold textB at this
    rw [Bool.and_eq_true, decide_eq_true_eq] at this
    omega
  · rw [(okB_3 h).2]; exact Nat.zero_le _
theorem readR_fit {s : ByteArray} {k n : Int} {t : ByteArray} {b : Bool} (h : readR s = (k, n, t, b)) : t.size ≤ maxLen := by
  cases b with
  | true =>
    have := (readR_true h).1
    exact okB_fit this
  | false =>
    unfold readR at h
    split at h
    · injection h with _ h; injection h with _ h; injection h with _ h; cases h
    · injection h with _ h; injection h with _ h; injection h with e _; subst e; exact Nat.zero_le _
theorem rowR_fit {s : ByteArray} {l : List CT} {b : Bool} (h : rowR s = (l, b)) : Fit l := by
  cases b with
  | true =>
    have := (rowR_true h).1
    intro j hj
    exact okB_fit (List.all_eq_true.1 this _ (List.getElem_mem hj))
  | false =>
    unfold rowR at h
    split at h
    · injection h with _ e; cases e
    · injection h with e _; subst e; intro j hj; simp at hj

set_option maxRecDepth 100000 in
set_option maxHeartbeats 8000000 in
theorem walk {w : World} {a : Option Addr} {len cap : Nat} (row : Code0 w a len) (hp : PowAt w) (he : ErrAt w) (hm : MaxAt w) :
    Calls Tryz.prog 3 #[.slice a len cap] w fun e w' => e = .returned (.bool true) ∧ Below w.heap.size w w' := by
  by_cases hl : 4096 < (len : Int)
  · clear row hp he hm
    go_enter Tryz.func3, Tryz.ntmps3
    go_wp2_with (go_at_call 4; refine (big_laws _ _ _ _).mono ?_; rintro e w' ⟨rfl, rfl⟩)
    go_ret
    exact ⟨rfl, Below.refl _ _⟩
  have HC : Hid (Code0 w a len) := row
  have HP : Hid (PowAt w) := hp
  have HE : Hid (ErrAt w) := he
  have HM : Hid (MaxAt w) := hm
  have hbn : ∀ (x : Bool) (wz : World), (binOp .neq 4 (.bool x) (.bool x)).run Tryz.prog wz = .ok (.bool false) wz := fun x wz => by cases x <;> kernel_rfl
  clear row hp he hm
  go_enter Tryz.func3, Tryz.ntmps3
  go_wp2_with fail
  refine (big_laws _ _ _ _).mono ?_
  rintro e w' ⟨rfl, rfl⟩
  go_wp2_with fail
  refine (rowtext_draw (by omega) HC.out).mono ?_
  rintro e w1 ⟨v, lr, rfl, hlr, hfr, hvr, ownr, hx1⟩
  obtain ⟨gr, cr, rfl⟩ := ans_form (⟨ownr, hvr⟩ : Answer w1 w.heap.size v lr)
  have RR1 : Hid (RowAt w1 (some ⟨gr, 0, none⟩) lr) := own_row ownr
  clear ownr hvr
  generalize (some ⟨gr, 0, none⟩ : Option Addr) = ar at RR1 ⊢
  obtain ⟨nr, hnr⟩ : ∃ n, lr.length = n := ⟨_, rfl⟩
  have HNR : Hid (lr.length = nr) := hnr
  have FR : Hid (Fit lr) := hfr
  have hn4 : nr ≤ 4 := by omega
  obtain ⟨y, hy⟩ : ∃ y, rowT lr = y := ⟨_, rfl⟩
  have HY : Hid (rowT lr = y) := hy
  have hys : y.size ≤ 59 := by rw [← hy]; exact rowT_size4 lr hlr
  have hyy : (y.toList == y.toList) = true := by simp
  rw [hnr]
  clear hlr hfr hnr hy
  go_wp2_with fail
  refine (textIN nr _ _ lr HNR.out _ RR1.out FR.out (by omega) (HP.out.below hx1) y HY.out).mono ?_
  rintro e w2 ⟨rfl, hb2⟩
  have hx2 := chain hx1 hb2
  have RR2 : Hid (RowAt w2 ar lr) := RR1.out.below hb2
  clear hx1 hb2 RR1
  go_wp2_with fail
  refine (readrow_draw (by omega) (HC.out.below hx2)).mono ?_
  rintro e w3 ⟨t, rfl, hts, hb3⟩
  have hx3 := chain hx2 hb3
  have RR3 : Hid (RowAt w3 ar lr) := RR2.out.below hb3
  clear hx2 hb3 RR2
  obtain ⟨lx, bx, hRx⟩ : ∃ l b, rowR t = (l, b) := ⟨_, _, rfl⟩
  have HRX : Hid (rowR t = (lx, bx)) := hRx
  have hnx0 := rowR_len t lx bx hRx
  have FX : Hid (Fit lx) := rowR_fit hRx
  obtain ⟨nx, hnx⟩ : ∃ n, lx.length = n := ⟨_, rfl⟩
  have HNX : Hid (lx.length = nx) := hnx
  have hnx3 : nx ≤ 301 := by omega
  clear hRx hnx hnx0
  go_wp2_with fail
  refine (readrow_impl t (by omega) _ (HP.out.below hx3) (HE.out.below hx3) (HM.out.below hx3) lx bx HRX.out).mono ?_
  rintro e w4 ⟨vx, rfl, Ax, hb4⟩
  obtain ⟨gx, cx, rfl⟩ := ans_form Ax
  have RX4 : Hid (RowAt w4 (some ⟨gx, 0, none⟩) lx) := own_row Ax.1
  rw [HNX.out]
  have hx4 := chain hx3 hb4
  have RR4 : Hid (RowAt w4 ar lr) := RR3.out.below hb4
  clear hx3 hb4 RR3 Ax
  go_wp2_with fail
  refine (readcell_draw (by omega) (HC.out.below hx4)).mono ?_
  rintro e w5 ⟨c, rfl, hcs, hb5⟩
  have hx5 := chain hx4 hb5
  have RR5 : Hid (RowAt w5 ar lr) := RR4.out.below hb5
  have RX5 : Hid (RowAt w5 (some ⟨gx, 0, none⟩) lx) := RX4.out.below hb5
  clear hx4 hb5 RR4 RX4
  obtain ⟨yk, yn, yt, yb, hRy⟩ : ∃ k n t b, readR c = (k, n, t, b) := ⟨_, _, _, _, rfl⟩
  have HRY : Hid (readR c = (yk, yn, yt, yb)) := hRy
  have hyt := readR_fit hRy
  clear hRy
  go_wp2_with fail
  refine (readcell_impl c (by omega) _ (HP.out.below hx5) (HE.out.below hx5) yk yn yt yb HRY.out).mono ?_
  rintro e w6 ⟨rfl, hb6⟩
  have hx6 := chain hx5 hb6
  have RR6 : Hid (RowAt w6 ar lr) := RR5.out.below hb6
  have RX6 : Hid (RowAt w6 (some ⟨gx, 0, none⟩) lx) := RX5.out.below hb6
  clear hx5 hb6 RR5 RX5
  go_wp2_with fail
  refine (celltext_draw (by omega) ((HC.out.below hx6).alloc _)).mono ?_
  rintro e w7 ⟨dk, dn, dt, rfl, hdt, hb7⟩
  have Y7 : Hid (C3 w7 w6.heap.size yk yn yt) := C3.fresh hb7
  have hx7 := chain hx6 (chainA hb7)
  have RR7 : Hid (RowAt w7 ar lr) := RR6.out.below (chainA hb7)
  have RX7 : Hid (RowAt w7 (some ⟨gx, 0, none⟩) lx) := RX6.out.below (chainA hb7)
  have hB9 := Y7.out.2.2.2
  clear hx6 hb7 RR6 RX6
  obtain ⟨B9, hB⟩ : ∃ B, w6.heap.size = B := ⟨_, rfl⟩
  rw [hB] at Y7 hB9 ⊢
  clear hB
  go_wp2_with fail
  have hA7 : Below w7.heap.size w7 (w7.alloc (.cells #[.int .i64 dk, .int .i64 dn, .string dt] 31)) := (Below.refl _ _).alloc (Nat.le_refl _) _
  refine (readrow_spec t (by omega) _ lx bx HRX.out).mono ?_
  rintro e w8 ⟨vz, rfl, Az, hb8⟩
  obtain ⟨gz, cz, rfl⟩ := ans_form Az
  have RZ8 : Hid (RowAt w8 (some ⟨gz, 0, none⟩) lx) := own_row Az.1
  rw [HNX.out]
  have D8 : Hid (C3 w8 w7.heap.size dk dn dt) := C3.fresh hb8
  have Y8 : Hid (C3 w8 B9 yk yn yt) := Y7.out.step hb8
  have hx8 := chain hx7 (chainA hb8)
  have RR8 : Hid (RowAt w8 ar lr) := RR7.out.below (chainA hb8)
  have RX8 : Hid (RowAt w8 (some ⟨gx, 0, none⟩) lx) := RX7.out.below (chainA hb8)
  have hB11 := D8.out.2.2.2
  clear hx7 hb8 RR7 RX7 Y7 Az hA7 hB9
  obtain ⟨B11, hB⟩ : ∃ B, w7.heap.size = B := ⟨_, rfl⟩
  rw [hB] at D8 hB11 ⊢
  clear hB
  go_wp2_with fail
  go_cut [67] (fun s67 wc => s67 = .bool false ∧ Below w8.heap.size w8 wc)
  case first =>
    as_aux_lemma =>
      obtain ⟨d0, d1, d2, d3⟩ := D8.out
      obtain ⟨x, hx⟩ : ∃ x, cellT dk dn dt = x := ⟨_, rfl⟩
      have HX : Hid (cellT dk dn dt = x) := hx
      have hxx : (x.toList == x.toList) = true := by simp
      clear hx
      cases bx
      all_goals
        refine wp_region_held_drew (S := (fun w' => w'.cell? ⟨B11, 0, none⟩ = some (.int .i64 dk) ∧ w'.cell? ⟨B11, 1, none⟩ = some (.int .i64 dn) ∧ w'.cell? ⟨B11, 2, none⟩ = some (.string dt))) (by kernel_rfl) ?_ (fun hHeld => ?_)
        · (((try dsimp only); (repeat' apply And.intro) <;> first | (go_keep; done) | (simp (disch := first | omega | (simp <;> omega) | fail) [*]; done) | fail))
        refine wpAnyH_take (i := 0) (by simp only [List.getElem?_toArray, List.getElem?_cons_zero]; rfl) (by kernel_rfl) (by kernel_rfl) (by kernel_rfl) (by intro _ _ _ h; exact h) (Or.inl ⟨by rfl, fun w hSw => by (dsimp only at hSw; go_simp; (try with_reducible rfl))⟩) (by assumption) ?_
        simp only [Act.put, List.setIfInBounds_toArray, List.set_cons_zero, List.set_cons_succ]
        refine wpAnyH_take (i := 1) (by simp only [List.getElem?_toArray, List.getElem?_cons_zero, List.getElem?_cons_succ]; rfl) (by kernel_rfl) (by kernel_rfl) (by kernel_rfl) (by intro _ _ _ h; exact h) (Or.inl ⟨by rfl, fun w hSw => by (dsimp only at hSw; go_simp; (try with_reducible rfl))⟩) (by assumption) ?_
        simp only [Act.put, List.setIfInBounds_toArray, List.set_cons_zero, List.set_cons_succ]
        refine wpAnyH_take (i := 2) (by simp only [List.getElem?_toArray, List.getElem?_cons_zero, List.getElem?_cons_succ]; rfl) (by kernel_rfl) (by kernel_rfl) (by kernel_rfl) (by intro _ _ _ h; exact h) (Or.inl ⟨by rfl, fun w hSw => by (dsimp only at hSw; go_simp; (try with_reducible rfl))⟩) (by assumption) ?_
        simp only [Act.put, List.setIfInBounds_toArray, List.set_cons_zero, List.set_cons_succ]
        refine wpAnyH_take (i := 3) (by simp only [List.getElem?_toArray, List.getElem?_cons_zero, List.getElem?_cons_succ]; rfl) (by kernel_rfl) (by kernel_rfl) (by kernel_rfl) (by intro _ _ _ h; exact h) (Or.inl ⟨by rfl, fun w hSw => by (dsimp only at hSw; go_simp; (try with_reducible rfl))⟩) (by assumption) ?_
        simp only [Act.put, List.setIfInBounds_toArray, List.set_cons_zero, List.set_cons_succ]
        refine wpAnyH_take (i := 4) (by simp only [List.getElem?_toArray, List.getElem?_cons_zero, List.getElem?_cons_succ]; rfl) (by kernel_rfl) (by kernel_rfl) (by kernel_rfl) (by intro _ _ _ h; exact h) (Or.inl ⟨by rfl, fun w hSw => by (dsimp only at hSw; go_simp; (try with_reducible rfl))⟩) (by assumption) ?_
        simp only [Act.put, List.setIfInBounds_toArray, List.set_cons_zero, List.set_cons_succ]
        refine wpAnyH_take (i := 5) (by simp only [List.getElem?_toArray, List.getElem?_cons_zero, List.getElem?_cons_succ]; rfl) (by kernel_rfl) (by kernel_rfl) (by kernel_rfl) (by intro _ _ _ h; exact h) (Or.inl ⟨by rfl, fun w hSw => by (dsimp only at hSw; go_simp; (try with_reducible rfl))⟩) (by assumption) ?_
        simp only [Act.put, List.setIfInBounds_toArray, List.set_cons_zero, List.set_cons_succ]
        refine wpAnyH_ready (rs := [6]) (by kernel_rfl) (by simp) ?_
        refine AllReadyH.cons (by simp only [List.getElem?_toArray, List.getElem?_cons_zero, List.getElem?_cons_succ]; rfl) ?_ AllReadyH.nil
        intro K hK
        go_simp
        refine (likeN nx _ _ _ _ lx HNX.out _ (RX8.out.below (Below.refl w8.heap.size w8).drew) (RZ8.out.below (Below.refl w8.heap.size w8).drew) (by unfold maxLen; omega)).mono ?_
        rintro e wA ⟨rfl, hbA⟩
        obtain ⟨hca, hfa⟩ := bcell hbA
        have hza := hbA.size
        try simp at hza
        have hxA : Below w8.heap.size w8 wA := undrew hbA
        have yA : B11 < wA.heap.size := by omega
        go_wp2_with fail
        refine hK.out _ _ ?_ (fun hHeld => ?_)
        · (((try dsimp only); (repeat' apply And.intro) <;> first | (go_keep; done) | (simp (disch := first | omega | (simp <;> omega) | fail) [*]; done) | fail))
        clear hK K
        try simp only [Act.put, List.setIfInBounds_toArray, List.set_cons_zero, List.set_cons_succ]
        refine wpAnyH_take (i := 7) (by simp only [List.getElem?_toArray, List.getElem?_cons_zero, List.getElem?_cons_succ]; rfl) (by kernel_rfl) (by kernel_rfl) (by kernel_rfl) (by intro _ _ _ h; exact h) (Or.inl ⟨by rfl, fun w hSw => by (dsimp only at hSw; go_simp; (try with_reducible rfl))⟩) (by assumption) ?_
        simp only [Act.put, List.setIfInBounds_toArray, List.set_cons_zero, List.set_cons_succ]
        refine wpAnyH_take (i := 8) (by simp only [List.getElem?_toArray, List.getElem?_cons_zero, List.getElem?_cons_succ]; rfl) (by kernel_rfl) (by kernel_rfl) (by kernel_rfl) (by intro _ _ _ h; exact h) (Or.inl ⟨by rfl, fun w hSw => by (dsimp only at hSw; go_simp; (try with_reducible rfl))⟩) (by assumption) ?_
        simp only [Act.put, List.setIfInBounds_toArray, List.set_cons_zero, List.set_cons_succ]
        refine wpAnyH_take (i := 9) (by simp only [List.getElem?_toArray, List.getElem?_cons_zero, List.getElem?_cons_succ]; rfl) (by kernel_rfl) (by kernel_rfl) (by kernel_rfl) (by intro _ _ _ h; exact h) (Or.inl ⟨by rfl, fun w hSw => by (dsimp only at hSw; go_simp; (try with_reducible rfl))⟩) (by assumption) ?_
        simp only [Act.put, List.setIfInBounds_toArray, List.set_cons_zero, List.set_cons_succ]
        refine wpAnyH_take (i := 10) (by simp only [List.getElem?_toArray, List.getElem?_cons_zero, List.getElem?_cons_succ]; rfl) (by kernel_rfl) (by kernel_rfl) (by kernel_rfl) (by intro _ _ _ h; exact h) (Or.inl ⟨by rfl, fun w hSw => by (dsimp only at hSw; go_simp; (try with_reducible rfl))⟩) (by assumption) ?_
        simp only [Act.put, List.setIfInBounds_toArray, List.set_cons_zero, List.set_cons_succ]
        refine wpAnyH_take (i := 11) (by simp only [List.getElem?_toArray, List.getElem?_cons_zero, List.getElem?_cons_succ]; rfl) (by kernel_rfl) (by kernel_rfl) (by kernel_rfl) (by intro _ _ _ h; exact h) (Or.inl ⟨by rfl, fun w hSw => by (dsimp only at hSw; go_simp; (try with_reducible rfl))⟩) (by assumption) ?_
        simp only [Act.put, List.setIfInBounds_toArray, List.set_cons_zero, List.set_cons_succ]
        refine wpAnyH_ready (rs := [12]) (by kernel_rfl) (by simp) ?_
        refine AllReadyH.cons (by simp only [List.getElem?_toArray, List.getElem?_cons_zero, List.getElem?_cons_succ]; rfl) ?_ AllReadyH.nil
        intro K hK
        go_simp
        refine (textSN nr _ _ lr HNR.out _ (RR8.out.below hxA) FR.out (by omega) y HY.out).mono ?_
        rintro e wB ⟨rfl, hbB⟩
        obtain ⟨hca, hfa⟩ := bcell hbB
        have hza := hbB.size
        try simp at hza
        have hxB : Below w8.heap.size w8 wB := chain hxA hbB
        have yB : B11 < wB.heap.size := by omega
        go_wp2_with fail
        refine hK.out _ _ ?_ (fun hHeld => ?_)
        · (((try dsimp only); (repeat' apply And.intro) <;> first | (go_keep; done) | (simp (disch := first | omega | (simp <;> omega) | fail) [*]; done) | fail))
        clear hK K
        try simp only [Act.put, List.setIfInBounds_toArray, List.set_cons_zero, List.set_cons_succ]
        refine wpAnyH_take (i := 13) (by simp only [List.getElem?_toArray, List.getElem?_cons_zero, List.getElem?_cons_succ]; rfl) (by kernel_rfl) (by kernel_rfl) (by kernel_rfl) (by intro _ _ _ h; exact h) (Or.inl ⟨by rfl, fun w hSw => by (dsimp only at hSw; go_simp; (try with_reducible rfl))⟩) (by assumption) ?_
        simp only [Act.put, List.setIfInBounds_toArray, List.set_cons_zero, List.set_cons_succ]
        refine wpAnyH_take (i := 14) (by simp only [List.getElem?_toArray, List.getElem?_cons_zero, List.getElem?_cons_succ]; rfl) (by kernel_rfl) (by kernel_rfl) (by kernel_rfl) (by intro _ _ _ h; exact h) (Or.inl ⟨by rfl, fun w hSw => by (dsimp only at hSw; go_simp; (try with_reducible rfl))⟩) (by assumption) ?_
        simp only [Act.put, List.setIfInBounds_toArray, List.set_cons_zero, List.set_cons_succ]
        refine wpAnyH_take (i := 15) (by simp only [List.getElem?_toArray, List.getElem?_cons_zero, List.getElem?_cons_succ]; rfl) (by kernel_rfl) (by kernel_rfl) (by kernel_rfl) (by intro _ _ _ h; exact h) (Or.inl ⟨by rfl, fun w hSw => by (dsimp only at hSw; go_simp; (try with_reducible rfl))⟩) (by assumption) ?_
        simp only [Act.put, List.setIfInBounds_toArray, List.set_cons_zero, List.set_cons_succ]
        refine wpAnyH_take (i := 16) (by simp only [List.getElem?_toArray, List.getElem?_cons_zero, List.getElem?_cons_succ]; rfl) (by kernel_rfl) (by kernel_rfl) (by kernel_rfl) (by intro _ _ _ h; exact h) (Or.inl ⟨by rfl, fun w hSw => by (dsimp only at hSw; go_simp; (try with_reducible rfl))⟩) (by assumption) ?_
        simp only [Act.put, List.setIfInBounds_toArray, List.set_cons_zero, List.set_cons_succ]
        refine wpAnyH_take (i := 18) (by simp only [List.getElem?_toArray, List.getElem?_cons_zero, List.getElem?_cons_succ]; rfl) (by kernel_rfl) (by kernel_rfl) (by kernel_rfl) (by intro _ _ _ h; exact h) (Or.inl ⟨by rfl, fun w hSw => by (dsimp only at hSw; go_simp; (try with_reducible rfl))⟩) (by assumption) ?_
        simp only [Act.put, List.setIfInBounds_toArray, List.set_cons_zero, List.set_cons_succ]
        refine wpAnyH_ready (rs := [17]) (by kernel_rfl) (by simp) ?_
        refine AllReadyH.cons (by simp only [List.getElem?_toArray, List.getElem?_cons_zero, List.getElem?_cons_succ]; rfl) ?_ AllReadyH.nil
        intro K hK
        go_simp
        refine (ctext_implb dk dn dt x HX.out _ hdt (HP.out.below (chain hx8 hxB))).mono ?_
        rintro e wC ⟨rfl, hbC⟩
        obtain ⟨hca, hfa⟩ := bcell hbC
        have hza := hbC.size
        try simp at hza
        have hxC : Below w8.heap.size w8 wC := chain hxB hbC
        have yC : B11 < wC.heap.size := by omega
        go_wp2_with fail
        refine hK.out _ _ ?_ (fun hHeld => ?_)
        · (((try dsimp only); (repeat' apply And.intro) <;> first | (go_keep; done) | (simp (disch := first | omega | (simp <;> omega) | fail) [*]; done) | fail))
        clear hK K
        try simp only [Act.put, List.setIfInBounds_toArray, List.set_cons_zero, List.set_cons_succ]
        refine wpAnyH_ready (rs := [19]) (by kernel_rfl) (by simp) ?_
        refine AllReadyH.cons (by simp only [List.getElem?_toArray, List.getElem?_cons_zero, List.getElem?_cons_succ]; rfl) ?_ AllReadyH.nil
        intro K hK
        go_simp
        refine (ctext_specb dk dn dt x HX.out _ hdt).mono ?_
        rintro e wD ⟨rfl, hbD⟩
        obtain ⟨hca, hfa⟩ := bcell hbD
        have hza := hbD.size
        try simp at hza
        have hxD : Below w8.heap.size w8 wD := chain hxC hbD
        have yD : B11 < wD.heap.size := by omega
        go_wp2_with fail
        refine hK.out _ _ ?_ (fun hHeld => ?_)
        · (((try dsimp only); (repeat' apply And.intro) <;> first | (go_keep; done) | (simp (disch := first | omega | (simp <;> omega) | fail) [*]; done) | fail))
        clear hK K
        try simp only [Act.put, List.setIfInBounds_toArray, List.set_cons_zero, List.set_cons_succ]
        refine wpAnyH_take (i := 20) (by simp only [List.getElem?_toArray, List.getElem?_cons_zero, List.getElem?_cons_succ]; rfl) (by kernel_rfl) (by kernel_rfl) (by kernel_rfl) (by intro _ _ _ h; exact h) (Or.inl ⟨by rfl, fun w hSw => by (dsimp only at hSw; go_simp; (try with_reducible rfl))⟩) (by assumption) ?_
        simp only [Act.put, List.setIfInBounds_toArray, List.set_cons_zero, List.set_cons_succ]
        refine wpAnyH_take (i := 21) (by simp only [List.getElem?_toArray, List.getElem?_cons_zero, List.getElem?_cons_succ]; rfl) (by kernel_rfl) (by kernel_rfl) (by kernel_rfl) (by intro _ _ _ h; exact h) (Or.inl ⟨by rfl, fun w hSw => by (dsimp only at hSw; go_simp; (try with_reducible rfl))⟩) (by assumption) ?_
        simp only [Act.put, List.setIfInBounds_toArray, List.set_cons_zero, List.set_cons_succ]
        refine wpAnyH_done (by kernel_rfl) ?_ _
        go_wp2_with fail
        go_meet
        case rel => exact ⟨rfl, hxD⟩
  case rest =>
    obtain ⟨rfl, hb9⟩ := hcut
    have hx9 := chain hx8 hb9
    have RR9 : Hid (RowAt wc ar lr) := RR8.out.below hb9
    have RX9 : Hid (RowAt wc (some ⟨gx, 0, none⟩) lx) := RX8.out.below hb9
    have Y9 : Hid (C3 wc B9 yk yn yt) := Y8.out.below hb9
    have hcc : (c.toList == c.toList) = true := by simp
    have htt : (t.toList == t.toList) = true := by simp
    clear RR8 RX8 Y8 RZ8 D8 hx8 hb9 hB11
    go_wp2_with fail
    refine (readcell_spec c (by omega) _ yk yn yt yb HRY.out).mono ?_
    rintro e w10 ⟨rfl, hb10⟩
    have hx10 := chain hx9 hb10
    have RR10 : Hid (RowAt w10 ar lr) := RR9.out.below hb10
    have RX10 : Hid (RowAt w10 (some ⟨gx, 0, none⟩) lx) := RX9.out.below hb10
    obtain ⟨p0, p1, p2, p3⟩ := Y9.out.below hb10
    have hneq := fun W => neq_same yk yn yt W
    have hA : Below w10.heap.size w10 (w10.alloc (.cells #[.int .i64 yk, .int .i64 yn, .string yt] 31)) := (Below.refl _ _).alloc (Nat.le_refl _) _
    have hxA := chain hx10 hA
    have RRA : Hid (RowAt (w10.alloc (.cells #[.int .i64 yk, .int .i64 yn, .string yt] 31)) ar lr) := RR10.out.below hA
    have RXA : Hid (RowAt (w10.alloc (.cells #[.int .i64 yk, .int .i64 yn, .string yt] 31)) (some ⟨gx, 0, none⟩) lx) := RX10.out.below hA
    clear hx9 hb10 RR9 RX9 Y9 RR10 RX10 hA
    cases yb
    · cases bx
      · as_aux_lemma =>
          go_wp2_with fail
          go_loopw [16] (fun kk wr => ∃ k : Nat, k ≤ nr ∧ kk = .int .i64 k ∧ Hid (∀ j (h : j < lr.length), j < k → okC lr[j] = true) ∧ Hid (RowAt wr ar lr) ∧ Below w.heap.size w wr) (fun kk _ => nr - (intOf kk).toNat)
          case atStart => exact ⟨0, Nat.zero_le _, rfl, fun j _ h => by omega, RRA, hxA⟩
          case round =>
            obtain ⟨k, hk, rfl, hall, hrr, hbw⟩ := hrel
            by_cases hlt : k < nr
            · have h1 : k < lr.length := by have := HNR.out; omega
              obtain ⟨g, o, rfl, hgw, c0, c1, c2⟩ := hrr.out k h1
              have hfk := FR.out k h1
              obtain ⟨q, hq⟩ : ∃ q, okC lr[k] = q := ⟨_, rfl⟩
              have HQ : Hid (okC lr[k] = q) := hq
              have hi0 : (0 : Int) ≤ (k : Int) := by omega
              have hi1 : (k : Int) < (nr : Int) := by omega
              generalize lr[k] = x at c0 c1 c2 hfk hq
              obtain ⟨xk, xn, xt⟩ := x
              have hq' : okB xk xn xt = q := hq
              clear hq
              go_wp2_with fail
              refine (ok_specb xk xn xt q hq' _ hfk).mono ?_
              rintro e wz ⟨rfl, hbz⟩
              have hxz := chain hbw hbz
              have rz : Hid (RowAt wz (some ⟨g, o, none⟩) lr) := hrr.out.below hbz
              clear hbz hq' c0 c1 c2 hbw hrr
              cases q
              · have hy0 : y = ⟨#[]⟩ := by
                  rw [← HY.out]; unfold rowT
                  rw [if_neg (fun h => by have := List.all_eq_true.1 h lr[k] (List.getElem_mem h1); rw [HQ.out] at this; cases this)]
                subst hy0
                go_wp2
                go_ret
                exact ⟨rfl, hxz⟩
              · have hall2 : Hid (∀ j (h : j < lr.length), j < k + 1 → okC lr[j] = true) := by
                  have : ∀ j (h : j < lr.length), j < k + 1 → okC lr[j] = true := by
                    intro j hj hjk
                    by_cases ej : j = k
                    · subst ej; exact HQ.out
                    · exact hall.out j hj (by omega)
                  exact this
                go_wp2
                go_roundw
                case rel => exact ⟨k + 1, by omega, by go_num, hall2, rz, hxz⟩
                case measure => simp [intOf]; omega
            · have hkl : k = nr := by omega
              subst hkl
              have hi1 : ¬ (k : Int) < (k : Int) := by omega
              have hRy : Hid (rowR y = (lr, true)) := by
                have h1 : lr.all okC = true := by
                  rw [List.all_eq_true]
                  intro x hxm
                  obtain ⟨j, hj, rfl⟩ := List.getElem_of_mem hxm
                  exact hall.out j hj (by have := HNR.out; omega)
                have h2 : rowR y = (lr, true) := by unfold rowR; rw [← HY.out, readRow_text lr h1]
                exact h2
              go_wp2_with fail
              refine (readrow_impl y (by omega) _ (HP.out.below hbw) (HE.out.below hbw) (HM.out.below hbw) lr true hRy.out).mono ?_
              rintro e wz ⟨vy, rfl, Ay, hbz⟩
              obtain ⟨gy, cy, rfl⟩ := ans_form Ay
              have RY : Hid (RowAt wz (some ⟨gy, 0, none⟩) lr) := own_row Ay.1
              rw [HNR.out]
              have rz : Hid (RowAt wz ar lr) := hrr.out.below hbz
              have hxz := chain hbw hbz
              clear Ay hbz hrr hbw
              go_wp2_with fail
              refine (likeN k _ _ _ _ lr HNR.out _ RY.out rz.out (by unfold maxLen; omega)).mono ?_
              rintro e wq ⟨rfl, hbq⟩
              go_wp2
              go_ret
              exact ⟨rfl, chain hxz hbq⟩
      · as_aux_lemma =>
          have htx := (rowR_true HRX.out).2
          go_wp2_with fail
          refine (textIN nx _ _ lx HNX.out _ RXA.out FX.out (by omega) (HP.out.below hxA) t htx).mono ?_
          rintro e w11 ⟨rfl, hb11⟩
          have hx11 := chain hxA hb11
          have RR11 : Hid (RowAt w11 ar lr) := RRA.out.below hb11
          clear hb11 RRA RXA htx
          go_wp2_with fail
          go_loopw [16] (fun kk wr => ∃ k : Nat, k ≤ nr ∧ kk = .int .i64 k ∧ Hid (∀ j (h : j < lr.length), j < k → okC lr[j] = true) ∧ Hid (RowAt wr ar lr) ∧ Below w.heap.size w wr) (fun kk _ => nr - (intOf kk).toNat)
          case atStart => exact ⟨0, Nat.zero_le _, rfl, fun j _ h => by omega, RR11, hx11⟩
          case round =>
            obtain ⟨k, hk, rfl, hall, hrr, hbw⟩ := hrel
            by_cases hlt : k < nr
            · have h1 : k < lr.length := by have := HNR.out; omega
              obtain ⟨g, o, rfl, hgw, c0, c1, c2⟩ := hrr.out k h1
              have hfk := FR.out k h1
              obtain ⟨q, hq⟩ : ∃ q, okC lr[k] = q := ⟨_, rfl⟩
              have HQ : Hid (okC lr[k] = q) := hq
              have hi0 : (0 : Int) ≤ (k : Int) := by omega
              have hi1 : (k : Int) < (nr : Int) := by omega
              generalize lr[k] = x at c0 c1 c2 hfk hq
              obtain ⟨xk, xn, xt⟩ := x
              have hq' : okB xk xn xt = q := hq
              clear hq
              go_wp2_with fail
              refine (ok_specb xk xn xt q hq' _ hfk).mono ?_
              rintro e wz ⟨rfl, hbz⟩
              have hxz := chain hbw hbz
              have rz : Hid (RowAt wz (some ⟨g, o, none⟩) lr) := hrr.out.below hbz
              clear hbz hq' c0 c1 c2 hbw hrr
              cases q
              · have hy0 : y = ⟨#[]⟩ := by
                  rw [← HY.out]; unfold rowT
                  rw [if_neg (fun h => by have := List.all_eq_true.1 h lr[k] (List.getElem_mem h1); rw [HQ.out] at this; cases this)]
                subst hy0
                go_wp2
                go_ret
                exact ⟨rfl, hxz⟩
              · have hall2 : Hid (∀ j (h : j < lr.length), j < k + 1 → okC lr[j] = true) := by
                  have : ∀ j (h : j < lr.length), j < k + 1 → okC lr[j] = true := by
                    intro j hj hjk
                    by_cases ej : j = k
                    · subst ej; exact HQ.out
                    · exact hall.out j hj (by omega)
                  exact this
                go_wp2
                go_roundw
                case rel => exact ⟨k + 1, by omega, by go_num, hall2, rz, hxz⟩
                case measure => simp [intOf]; omega
            · have hkl : k = nr := by omega
              subst hkl
              have hi1 : ¬ (k : Int) < (k : Int) := by omega
              have hRy : Hid (rowR y = (lr, true)) := by
                have h1 : lr.all okC = true := by
                  rw [List.all_eq_true]
                  intro x hxm
                  obtain ⟨j, hj, rfl⟩ := List.getElem_of_mem hxm
                  exact hall.out j hj (by have := HNR.out; omega)
                have h2 : rowR y = (lr, true) := by unfold rowR; rw [← HY.out, readRow_text lr h1]
                exact h2
              go_wp2_with fail
              refine (readrow_impl y (by omega) _ (HP.out.below hbw) (HE.out.below hbw) (HM.out.below hbw) lr true hRy.out).mono ?_
              rintro e wz ⟨vy, rfl, Ay, hbz⟩
              obtain ⟨gy, cy, rfl⟩ := ans_form Ay
              have RY : Hid (RowAt wz (some ⟨gy, 0, none⟩) lr) := own_row Ay.1
              rw [HNR.out]
              have rz : Hid (RowAt wz ar lr) := hrr.out.below hbz
              have hxz := chain hbw hbz
              clear Ay hbz hrr hbw
              go_wp2_with fail
              refine (likeN k _ _ _ _ lr HNR.out _ RY.out rz.out (by unfold maxLen; omega)).mono ?_
              rintro e wq ⟨rfl, hbq⟩
              go_wp2
              go_ret
              exact ⟨rfl, chain hxz hbq⟩
    · cases bx
      · as_aux_lemma =>
          have hcy := (readR_true HRY.out).2
          go_wp2_with fail
          refine (ctext_implb yk yn yt c hcy _ hyt (HP.out.below hxA)).mono ?_
          rintro e w11 ⟨rfl, hb11⟩
          have hx11 := chain hxA hb11
          have RR11 : Hid (RowAt w11 ar lr) := RRA.out.below hb11
          clear hb11 RRA RXA hcy
          go_wp2_with fail
          go_loopw [16] (fun kk wr => ∃ k : Nat, k ≤ nr ∧ kk = .int .i64 k ∧ Hid (∀ j (h : j < lr.length), j < k → okC lr[j] = true) ∧ Hid (RowAt wr ar lr) ∧ Below w.heap.size w wr) (fun kk _ => nr - (intOf kk).toNat)
          case atStart => exact ⟨0, Nat.zero_le _, rfl, fun j _ h => by omega, RR11, hx11⟩
          case round =>
            obtain ⟨k, hk, rfl, hall, hrr, hbw⟩ := hrel
            by_cases hlt : k < nr
            · have h1 : k < lr.length := by have := HNR.out; omega
              obtain ⟨g, o, rfl, hgw, c0, c1, c2⟩ := hrr.out k h1
              have hfk := FR.out k h1
              obtain ⟨q, hq⟩ : ∃ q, okC lr[k] = q := ⟨_, rfl⟩
              have HQ : Hid (okC lr[k] = q) := hq
              have hi0 : (0 : Int) ≤ (k : Int) := by omega
              have hi1 : (k : Int) < (nr : Int) := by omega
              generalize lr[k] = x at c0 c1 c2 hfk hq
              obtain ⟨xk, xn, xt⟩ := x
              have hq' : okB xk xn xt = q := hq
              clear hq
              go_wp2_with fail
              refine (ok_specb xk xn xt q hq' _ hfk).mono ?_
              rintro e wz ⟨rfl, hbz⟩
              have hxz := chain hbw hbz
              have rz : Hid (RowAt wz (some ⟨g, o, none⟩) lr) := hrr.out.below hbz
              clear hbz hq' c0 c1 c2 hbw hrr
              cases q
              · have hy0 : y = ⟨#[]⟩ := by
                  rw [← HY.out]; unfold rowT
                  rw [if_neg (fun h => by have := List.all_eq_true.1 h lr[k] (List.getElem_mem h1); rw [HQ.out] at this; cases this)]
                subst hy0
                go_wp2
                go_ret
                exact ⟨rfl, hxz⟩
              · have hall2 : Hid (∀ j (h : j < lr.length), j < k + 1 → okC lr[j] = true) := by
                  have : ∀ j (h : j < lr.length), j < k + 1 → okC lr[j] = true := by
                    intro j hj hjk
                    by_cases ej : j = k
                    · subst ej; exact HQ.out
                    · exact hall.out j hj (by omega)
                  exact this
                go_wp2
                go_roundw
                case rel => exact ⟨k + 1, by omega, by go_num, hall2, rz, hxz⟩
                case measure => simp [intOf]; omega
            · have hkl : k = nr := by omega
              subst hkl
              have hi1 : ¬ (k : Int) < (k : Int) := by omega
              have hRy : Hid (rowR y = (lr, true)) := by
                have h1 : lr.all okC = true := by
                  rw [List.all_eq_true]
                  intro x hxm
                  obtain ⟨j, hj, rfl⟩ := List.getElem_of_mem hxm
                  exact hall.out j hj (by have := HNR.out; omega)
                have h2 : rowR y = (lr, true) := by unfold rowR; rw [← HY.out, readRow_text lr h1]
                exact h2
              go_wp2_with fail
              refine (readrow_impl y (by omega) _ (HP.out.below hbw) (HE.out.below hbw) (HM.out.below hbw) lr true hRy.out).mono ?_
              rintro e wz ⟨vy, rfl, Ay, hbz⟩
              obtain ⟨gy, cy, rfl⟩ := ans_form Ay
              have RY : Hid (RowAt wz (some ⟨gy, 0, none⟩) lr) := own_row Ay.1
              rw [HNR.out]
              have rz : Hid (RowAt wz ar lr) := hrr.out.below hbz
              have hxz := chain hbw hbz
              clear Ay hbz hrr hbw
              go_wp2_with fail
              refine (likeN k _ _ _ _ lr HNR.out _ RY.out rz.out (by unfold maxLen; omega)).mono ?_
              rintro e wq ⟨rfl, hbq⟩
              go_wp2
              go_ret
              exact ⟨rfl, chain hxz hbq⟩
      · as_aux_lemma =>
          have hcy := (readR_true HRY.out).2
          have htx := (rowR_true HRX.out).2
          go_wp2_with fail
          refine (ctext_implb yk yn yt c hcy _ hyt (HP.out.below hxA)).mono ?_
          rintro e w11 ⟨rfl, hb11⟩
          have hx11 := chain hxA hb11
          have RR11 : Hid (RowAt w11 ar lr) := RRA.out.below hb11
          have RX11 : Hid (RowAt w11 (some ⟨gx, 0, none⟩) lx) := RXA.out.below hb11
          clear hb11 RRA RXA hcy
          go_wp2_with fail
          refine (textIN nx _ _ lx HNX.out _ RX11.out FX.out (by omega) (HP.out.below hx11) t htx).mono ?_
          rintro e w12 ⟨rfl, hb12⟩
          have hx12 := chain hx11 hb12
          have RR12 : Hid (RowAt w12 ar lr) := RR11.out.below hb12
          clear hb12 RR11 RX11 htx
          go_wp2_with fail
          go_loopw [16] (fun kk wr => ∃ k : Nat, k ≤ nr ∧ kk = .int .i64 k ∧ Hid (∀ j (h : j < lr.length), j < k → okC lr[j] = true) ∧ Hid (RowAt wr ar lr) ∧ Below w.heap.size w wr) (fun kk _ => nr - (intOf kk).toNat)
          case atStart => exact ⟨0, Nat.zero_le _, rfl, fun j _ h => by omega, RR12, hx12⟩
          case round =>
            obtain ⟨k, hk, rfl, hall, hrr, hbw⟩ := hrel
            by_cases hlt : k < nr
            · have h1 : k < lr.length := by have := HNR.out; omega
              obtain ⟨g, o, rfl, hgw, c0, c1, c2⟩ := hrr.out k h1
              have hfk := FR.out k h1
              obtain ⟨q, hq⟩ : ∃ q, okC lr[k] = q := ⟨_, rfl⟩
              have HQ : Hid (okC lr[k] = q) := hq
              have hi0 : (0 : Int) ≤ (k : Int) := by omega
              have hi1 : (k : Int) < (nr : Int) := by omega
              generalize lr[k] = x at c0 c1 c2 hfk hq
              obtain ⟨xk, xn, xt⟩ := x
              have hq' : okB xk xn xt = q := hq
              clear hq
              go_wp2_with fail
              refine (ok_specb xk xn xt q hq' _ hfk).mono ?_
              rintro e wz ⟨rfl, hbz⟩
              have hxz := chain hbw hbz
              have rz : Hid (RowAt wz (some ⟨g, o, none⟩) lr) := hrr.out.below hbz
              clear hbz hq' c0 c1 c2 hbw hrr
              cases q
              · have hy0 : y = ⟨#[]⟩ := by
                  rw [← HY.out]; unfold rowT
                  rw [if_neg (fun h => by have := List.all_eq_true.1 h lr[k] (List.getElem_mem h1); rw [HQ.out] at this; cases this)]
                subst hy0
                go_wp2
                go_ret
                exact ⟨rfl, hxz⟩
              · have hall2 : Hid (∀ j (h : j < lr.length), j < k + 1 → okC lr[j] = true) := by
                  have : ∀ j (h : j < lr.length), j < k + 1 → okC lr[j] = true := by
                    intro j hj hjk
                    by_cases ej : j = k
                    · subst ej; exact HQ.out
                    · exact hall.out j hj (by omega)
                  exact this
                go_wp2
                go_roundw
                case rel => exact ⟨k + 1, by omega, by go_num, hall2, rz, hxz⟩
                case measure => simp [intOf]; omega
            · have hkl : k = nr := by omega
              subst hkl
              have hi1 : ¬ (k : Int) < (k : Int) := by omega
              have hRy : Hid (rowR y = (lr, true)) := by
                have h1 : lr.all okC = true := by
                  rw [List.all_eq_true]
                  intro x hxm
                  obtain ⟨j, hj, rfl⟩ := List.getElem_of_mem hxm
                  exact hall.out j hj (by have := HNR.out; omega)
                have h2 : rowR y = (lr, true) := by unfold rowR; rw [← HY.out, readRow_text lr h1]
                exact h2
              go_wp2_with fail
              refine (readrow_impl y (by omega) _ (HP.out.below hbw) (HE.out.below hbw) (HM.out.below hbw) lr true hRy.out).mono ?_
              rintro e wz ⟨vy, rfl, Ay, hbz⟩
              obtain ⟨gy, cy, rfl⟩ := ans_form Ay
              have RY : Hid (RowAt wz (some ⟨gy, 0, none⟩) lr) := own_row Ay.1
              rw [HNR.out]
              have rz : Hid (RowAt wz ar lr) := hrr.out.below hbz
              have hxz := chain hbw hbz
              clear Ay hbz hrr hbw
              go_wp2_with fail
              refine (likeN k _ _ _ _ lr HNR.out _ RY.out rz.out (by unfold maxLen; omega)).mono ?_
              rintro e wq ⟨rfl, hbq⟩
              go_wp2
              go_ret
              exact ⟨rfl, chain hxz hbq⟩

end rowsLaw
end Go.Proofs.YtgeipficjfaocaaGreatDoor
