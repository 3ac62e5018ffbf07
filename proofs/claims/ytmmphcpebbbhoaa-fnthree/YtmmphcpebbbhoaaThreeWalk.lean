/-
  The walk of the law FnThree: of every code two answers and a cell are drawn, of which the program answers as its model does; not of both is either of nots, not of not is the same, and nobody knows is between: the law answers true.
-/
import Derived.Test.YtmmphcpebbbhoaaThreeFacts
import Derived.Test.YtmmphcpebbbhoaaLaw1
namespace Go.Proofs.Ytmmphcpebbbhoaa
open Go.ChangeShapes Go.WideShapes Go.ChangeAt Go.RowKit
attribute [local go_sem ↓] Go.wp_at_zero Go.wp_at_succ
attribute [local simp] World.cell?_alloc_past World.cell?_alloc_at World.frozen?_alloc_at cell_far cell_off cell_here World.frozen?_alloc_past

namespace threeLaw

set_option maxRecDepth 100000 in
set_option maxHeartbeats 8000000 in
theorem walk {w : World} {a : Option Addr} {len cap : Nat} (row : Code0 w a len) :
    Calls Try.prog 4 #[.slice a len cap] w fun e w' => e = .returned (.bool true) ∧ Below w.heap.size w w' := by
  by_cases hl : 4096 < (len : Int)
  · clear row
    go_enter Try.func4, Try.ntmps4
    go_wp2_with (go_at_call 5; refine (big_laws _ _ _ _).mono ?_; rintro e w' ⟨rfl, rfl⟩)
    go_ret
    exact ⟨rfl, Below.refl _ _⟩
  have hC : Hid (Code0 w a len) := row
  clear row
  have hq := neq_same
  have hqe := eql_same
  go_enter Try.func4, Try.ntmps4
  go_wp2_with fail
  refine (big_laws _ _ _ _).mono ?_
  rintro e w' ⟨rfl, rfl⟩
  go_wp2_with fail
  refine (both_draw (by omega) hC.out).mono ?_
  rintro e w1 ⟨k1, n1, t1, k2, n2, t2, rfl, ht1, ht2, hx⟩
  obtain ⟨xk, xn, xf, hX⟩ : ∃ x y z, Hid (bothR k1 n1 t1 k2 n2 t2 = (x, y, z)) := ⟨_, _, _, rfl⟩
  obtain ⟨yk, yn, yf, hY⟩ : ∃ x y z, Hid (eitherR k1 n1 t1 k2 n2 t2 = (x, y, z)) := ⟨_, _, _, rfl⟩
  obtain ⟨nk, nn, nf, hN⟩ : ∃ x y z, Hid (notR k1 n1 t1 = (x, y, z)) := ⟨_, _, _, rfl⟩
  go_wp2_with fail
  refine (both_impl' _ _ _ _ _ _ _ _ _ hX _ ht1 ht2).mono ?_
  rintro e w2 ⟨rfl, hb⟩
  obtain ⟨A, B, _⟩ := two3 hb
  have A : C3 w2 w1.heap.size k1 n1 t1 := A
  have B : C3 w2 (w1.heap.size + 1) k2 n2 t2 := B
  have hx := chain hx (chainAA hb)
  clear hb
  have ⟨a0, a1, a2, a3⟩ := A
  have ⟨b0, b1, b2, b3⟩ := B
  go_wp2_with fail
  refine (either_impl' _ _ _ _ _ _ _ _ _ hY _ ht1 ht2).mono ?_
  rintro e w3 ⟨rfl, hb⟩
  clear a0 a1 a2 a3 b0 b1 b2 b3
  replace A := A.step hb
  replace B := B.step hb
  have X : C3 w3 w2.heap.size xk xn ⟨#[]⟩ := C3.fresh hb
  replace hx := chain hx (chainA hb)
  clear hb
  have ⟨a0, a1, a2, a3⟩ := A
  go_wp2_with fail
  refine (not_impl' _ _ _ _ _ _ hN _ ht1).mono ?_
  rintro e w4 ⟨rfl, hb⟩
  clear a0 a1 a2 a3
  replace A := A.step hb
  replace B := B.step hb
  replace X := X.step hb
  have Y : C3 w4 w3.heap.size yk yn ⟨#[]⟩ := C3.fresh hb
  replace hx := chain hx (chainA hb)
  clear hb
  go_wp2_with fail
  refine (none_draw (by omega) ((hC.out.below hx).alloc _)).mono ?_
  rintro e w5 ⟨kq, nq, tq, rfl, htq, hb⟩
  replace A := A.step hb
  replace B := B.step hb
  replace X := X.step hb
  replace Y := Y.step hb
  have N : C3 w5 w4.heap.size nk nn ⟨#[]⟩ := C3.fresh hb
  replace hx := chain hx (chainA hb)
  clear hb hC
  obtain ⟨ik, im, jf, hI⟩ : ∃ x y z, Hid (noneR kq nq tq = (x, y, z)) := ⟨_, _, _, rfl⟩

  go_wp2_with fail
  refine (none_impl' _ _ _ _ _ _ hI _ htq).mono ?_
  rintro e w6 ⟨rfl, hb⟩
  replace A := A.step hb
  replace B := B.step hb
  replace X := X.step hb
  replace Y := Y.step hb
  replace N := N.step hb
  have Q : C3 w6 w5.heap.size kq nq tq := C3.fresh hb
  replace hx := chain hx (chainA hb)
  clear hb
  have ⟨a0, a1, a2, a3⟩ := A
  have ⟨b0, b1, b2, b3⟩ := B
  go_wp2_with fail
  refine (both_spec' _ _ _ _ _ _ _ _ _ hX _ ht1 ht2).mono ?_
  rintro e w7 ⟨rfl, hb⟩
  clear a0 a1 a2 a3 b0 b1 b2 b3
  replace A := A.step hb
  replace B := B.step hb
  replace X := X.step hb
  replace Y := Y.step hb
  replace N := N.step hb
  replace Q := Q.step hb
  have I : C3 w7 w6.heap.size ik im ⟨#[]⟩ := C3.fresh hb
  replace hx := chain hx (chainA hb)
  clear hb
  have ⟨a0, a1, a2, a3⟩ := A
  have ⟨b0, b1, b2, b3⟩ := B
  have ⟨x0, x1, x2, x3⟩ := X
  go_wp2_with fail
  refine (either_spec' _ _ _ _ _ _ _ _ _ hY _ ht1 ht2).mono ?_
  rintro e w8 ⟨rfl, hb⟩
  clear a0 a1 a2 a3 b0 b1 b2 b3 x0 x1 x2 x3
  replace A := A.step hb
  replace B := B.step hb
  replace X := X.step hb
  replace Y := Y.step hb
  replace N := N.step hb
  replace Q := Q.step hb
  replace I := I.step hb
  replace hx := chain hx (chainA hb)
  clear hb
  have ⟨a0, a1, a2, a3⟩ := A
  have ⟨y0, y1, y2, y3⟩ := Y
  go_wp2_with fail
  refine (not_spec' _ _ _ _ _ _ hN _ ht1).mono ?_
  rintro e w9 ⟨rfl, hb⟩
  clear a0 a1 a2 a3 y0 y1 y2 y3
  replace A := A.step hb
  replace B := B.step hb
  replace X := X.step hb
  replace Y := Y.step hb
  replace N := N.step hb
  replace Q := Q.step hb
  replace I := I.step hb
  replace hx := chain hx (chainA hb)
  clear hb
  have ⟨q0, q1, q2, q3⟩ := Q
  have ⟨n0, n1, n2, n3⟩ := N
  go_wp2_with fail
  refine (none_spec' _ _ _ _ _ _ hI _ htq).mono ?_
  rintro e w10 ⟨rfl, hb⟩
  clear q0 q1 q2 q3 n0 n1 n2 n3
  replace A := A.step hb
  replace B := B.step hb
  replace X := X.step hb
  replace Y := Y.step hb
  replace N := N.step hb
  replace Q := Q.step hb
  replace I := I.step hb
  replace hx := chain hx (chainA hb)
  clear hb
  obtain ⟨ba, hba⟩ : ∃ b, sameB k1 n1 t1 3 1 ⟨#[]⟩ = b := ⟨_, rfl⟩
  obtain ⟨bi, hbi⟩ : ∃ b, sameB ik im ⟨#[]⟩ 3 1 ⟨#[]⟩ = b := ⟨_, rfl⟩
  have hji : (jf = 0 ∧ (kq == 0) = bi) ∨ ((jf == 0) = false) := by
    cases ho : okB kq nq tq
    · right
      have e := (none_wrong ho).symm.trans hI.out
      simp only [Prod.mk.injEq] at e
      rw [← e.2.2]; rfl
    · left
      have e := (none_ok ho).symm.trans hI.out
      simp only [Prod.mk.injEq] at e
      obtain ⟨e1, e2, e3⟩ := e
      subst e1
      exact ⟨e3.symm, by rw [← hbi]; exact (none_holds e2).symm⟩
  have ⟨a0, a1, a2, a3⟩ := A
  have ⟨q0, q1, q2, q3⟩ := Q
  have ⟨i0, i1, i2, i3⟩ := I
  go_wp2_with fail
  go_cut [135] (fun s135 wc => s135 = .bool false ∧ Below w10.heap.size w10 wc)
  case first =>
    rcases hji with ⟨rfl, hji⟩ | hji
    · refine wp_region_held_drew (S := (fun w' => w'.cell? ⟨w1.heap.size, 0, none⟩ = some (.int .i64 k1) ∧ w'.cell? ⟨w1.heap.size, 1, none⟩ = some (.int .i64 n1) ∧ w'.cell? ⟨w1.heap.size, 2, none⟩ = some (.string t1) ∧ w'.cell? ⟨w5.heap.size, 0, none⟩ = some (.int .i64 kq) ∧ w'.cell? ⟨w5.heap.size, 1, none⟩ = some (.int .i64 nq) ∧ w'.cell? ⟨w5.heap.size, 2, none⟩ = some (.string tq) ∧ w'.cell? ⟨w6.heap.size, 0, none⟩ = some (.int .i64 ik) ∧ w'.cell? ⟨w6.heap.size, 1, none⟩ = some (.int .i64 im) ∧ w'.cell? ⟨w6.heap.size, 2, none⟩ = some (.string ⟨#[]⟩) ∧ w'.cell? ⟨w10.heap.size, 0, none⟩ = some (.int .i64 ik) ∧ w'.cell? ⟨w10.heap.size, 1, none⟩ = some (.int .i64 im) ∧ w'.cell? ⟨w10.heap.size, 2, none⟩ = some (.string ⟨#[]⟩))) (by kernel_rfl) ?_ (fun hHeld => ?_)
      · (((try dsimp only); (repeat' apply And.intro) <;> first | (go_keep; done) | (simp (disch := first | omega | (simp <;> omega) | fail) [*]; done) | fail))
      refine wpAnyH_take (i := 0) (by simp only [List.getElem?_toArray, List.getElem?_cons_zero]; rfl) (by kernel_rfl) (by kernel_rfl) (by kernel_rfl) (by intro _ _ _ h; exact h) (Or.inl ⟨by rfl, fun w hSw => by (dsimp only at hSw; go_simp; (try with_reducible rfl))⟩) (by assumption) ?_
      simp only [Act.put, List.setIfInBounds_toArray, List.set_cons_zero, List.set_cons_succ]
      refine wpAnyH_take (i := 1) (by simp only [List.getElem?_toArray, List.getElem?_cons_zero, List.getElem?_cons_succ]; rfl) (by kernel_rfl) (by kernel_rfl) (by kernel_rfl) (by intro _ _ _ h; exact h) (Or.inl ⟨by rfl, fun w hSw => by (dsimp only at hSw; go_simp; (try with_reducible rfl))⟩) (by assumption) ?_
      simp only [Act.put, List.setIfInBounds_toArray, List.set_cons_zero, List.set_cons_succ]
      refine wpAnyH_take (i := 2) (by simp only [List.getElem?_toArray, List.getElem?_cons_zero, List.getElem?_cons_succ]; rfl) (by kernel_rfl) (by kernel_rfl) (by kernel_rfl) (by intro _ _ _ h; exact h) (Or.inl ⟨by rfl, fun w hSw => by (dsimp only at hSw; go_simp; (try with_reducible rfl))⟩) (by assumption) ?_
      simp only [Act.put, List.setIfInBounds_toArray, List.set_cons_zero, List.set_cons_succ]
      refine wpAnyH_take (i := 3) (by simp only [List.getElem?_toArray, List.getElem?_cons_zero, List.getElem?_cons_succ]; rfl) (by kernel_rfl) (by kernel_rfl) (by kernel_rfl) (by intro _ _ _ h; exact h) (Or.inl ⟨by rfl, fun w hSw => by (dsimp only at hSw; go_simp; (try with_reducible rfl))⟩) (by assumption) ?_
      simp only [Act.put, List.setIfInBounds_toArray, List.set_cons_zero, List.set_cons_succ]
      refine wpAnyH_take (i := 4) (by simp only [List.getElem?_toArray, List.getElem?_cons_zero, List.getElem?_cons_succ]; rfl) (by kernel_rfl) (by kernel_rfl) (by kernel_rfl) (by intro _ _ _ h; exact h) (Or.inl ⟨by rfl, fun w hSw => by (dsimp only at hSw; go_simp; (try with_reducible rfl))⟩) (by assumption) ?_
      simp only [Act.put, List.setIfInBounds_toArray, List.set_cons_zero, List.set_cons_succ]
      refine wpAnyH_take (i := 5) (by simp only [List.getElem?_toArray, List.getElem?_cons_zero, List.getElem?_cons_succ]; rfl) (by kernel_rfl) (by kernel_rfl) (by kernel_rfl) (by intro _ _ _ h; exact h) (Or.inl ⟨by rfl, fun w hSw => by (dsimp only at hSw; go_simp; (try with_reducible rfl))⟩) (by assumption) ?_
      simp only [Act.put, List.setIfInBounds_toArray, List.set_cons_zero, List.set_cons_succ]
      refine wpAnyH_take (i := 6) (by simp only [List.getElem?_toArray, List.getElem?_cons_zero, List.getElem?_cons_succ]; rfl) (by kernel_rfl) (by kernel_rfl) (by kernel_rfl) (by intro _ _ _ h; exact h) (Or.inl ⟨by rfl, fun w hSw => by (dsimp only at hSw; go_simp; (try with_reducible rfl))⟩) (by assumption) ?_
      simp only [Act.put, List.setIfInBounds_toArray, List.set_cons_zero, List.set_cons_succ]
      refine wpAnyH_take (i := 7) (by simp only [List.getElem?_toArray, List.getElem?_cons_zero, List.getElem?_cons_succ]; rfl) (by kernel_rfl) (by kernel_rfl) (by kernel_rfl) (by intro _ _ _ h; exact h) (Or.inl ⟨by rfl, fun w hSw => by (dsimp only at hSw; go_simp; (try with_reducible rfl))⟩) (by assumption) ?_
      simp only [Act.put, List.setIfInBounds_toArray, List.set_cons_zero, List.set_cons_succ]
      refine wpAnyH_take (i := 8) (by simp only [List.getElem?_toArray, List.getElem?_cons_zero, List.getElem?_cons_succ]; rfl) (by kernel_rfl) (by kernel_rfl) (by kernel_rfl) (by intro _ _ _ h; exact h) (Or.inl ⟨by rfl, fun w hSw => by (dsimp only at hSw; go_simp; (try with_reducible rfl))⟩) (by assumption) ?_
      simp only [Act.put, List.setIfInBounds_toArray, List.set_cons_zero, List.set_cons_succ]
      refine wpAnyH_take (i := 9) (by simp only [List.getElem?_toArray, List.getElem?_cons_zero, List.getElem?_cons_succ]; rfl) (by kernel_rfl) (by kernel_rfl) (by kernel_rfl) (by intro _ _ _ h; exact h) (Or.inl ⟨by rfl, fun w hSw => by (dsimp only at hSw; go_simp; (try with_reducible rfl))⟩) (by assumption) ?_
      simp only [Act.put, List.setIfInBounds_toArray, List.set_cons_zero, List.set_cons_succ]
      refine wpAnyH_take (i := 11) (by simp only [List.getElem?_toArray, List.getElem?_cons_zero, List.getElem?_cons_succ]; rfl) (by kernel_rfl) (by kernel_rfl) (by kernel_rfl) (by intro _ _ _ h; exact h) (Or.inl ⟨by rfl, fun w hSw => by (dsimp only at hSw; go_simp; (try with_reducible rfl))⟩) (by assumption) ?_
      simp only [Act.put, List.setIfInBounds_toArray, List.set_cons_zero, List.set_cons_succ]
      refine wpAnyH_ready (rs := [10]) (by kernel_rfl) (by simp) ?_
      refine AllReadyH.cons (by simp only [List.getElem?_toArray, List.getElem?_cons_zero, List.getElem?_cons_succ]; rfl) ?_ AllReadyH.nil
      intro K hK
      go_simp
      refine (holds_implb _ _ _ _ hba _).mono ?_
      rintro e wa ⟨rfl, hbA⟩
      obtain ⟨hca, hfa⟩ := bcell hbA
      have hza := hbA.size
      try simp at hza
      have ya0 : w1.heap.size < wa.heap.size := by omega
      have ya1 : w5.heap.size < wa.heap.size := by omega
      have ya2 : w6.heap.size < wa.heap.size := by omega
      have ya3 : w10.heap.size < wa.heap.size := by omega
      go_wp2_with fail
      refine hK.out _ _ ?_ (fun hHeld => ?_)
      · (((try dsimp only); (repeat' apply And.intro) <;> first | (go_keep; done) | (simp (disch := first | omega | (simp <;> omega) | fail) [*]; done) | fail))
      clear hK K
      try simp only [Act.put, List.setIfInBounds_toArray, List.set_cons_zero, List.set_cons_succ]
      refine wpAnyH_ready (rs := [12]) (by kernel_rfl) (by simp) ?_
      refine AllReadyH.cons (by simp only [List.getElem?_toArray, List.getElem?_cons_zero, List.getElem?_cons_succ]; rfl) ?_ AllReadyH.nil
      intro K hK
      go_simp
      refine (holds_specb _ _ _ _ hba _).mono ?_
      rintro e wb ⟨rfl, hbB⟩
      obtain ⟨hcb, hfb⟩ := bcell hbB
      have hzb := hbB.size
      try simp at hzb
      have yb0 : w1.heap.size < wb.heap.size := by omega
      have yb1 : w5.heap.size < wb.heap.size := by omega
      have yb2 : w6.heap.size < wb.heap.size := by omega
      have yb3 : w10.heap.size < wb.heap.size := by omega
      go_wp2_with fail
      refine hK.out _ _ ?_ (fun hHeld => ?_)
      · (((try dsimp only); (repeat' apply And.intro) <;> first | (go_keep; done) | (simp (disch := first | omega | (simp <;> omega) | fail) [*]; done) | fail))
      clear hK K
      try simp only [Act.put, List.setIfInBounds_toArray, List.set_cons_zero, List.set_cons_succ]
      refine wpAnyH_take (i := 13) (by simp only [List.getElem?_toArray, List.getElem?_cons_zero, List.getElem?_cons_succ]; rfl) (by kernel_rfl) (by kernel_rfl) (by kernel_rfl) (by intro _ _ _ h; exact h) (Or.inl ⟨by rfl, fun w hSw => by (dsimp only at hSw; go_simp; (try with_reducible rfl))⟩) (by assumption) ?_
      simp only [Act.put, List.setIfInBounds_toArray, List.set_cons_zero, List.set_cons_succ]
      refine wpAnyH_take (i := 14) (by simp only [List.getElem?_toArray, List.getElem?_cons_zero, List.getElem?_cons_succ]; rfl) (by kernel_rfl) (by kernel_rfl) (by kernel_rfl) (by intro _ _ _ h; exact h) (Or.inl ⟨by rfl, fun w hSw => by (dsimp only at hSw; go_simp; (try with_reducible rfl))⟩) (by assumption) ?_
      simp only [Act.put, List.setIfInBounds_toArray, List.set_cons_zero, List.set_cons_succ]
      refine wpAnyH_take (i := 15) (by simp only [List.getElem?_toArray, List.getElem?_cons_zero, List.getElem?_cons_succ]; rfl) (by kernel_rfl) (by kernel_rfl) (by kernel_rfl) (by intro _ _ _ h; exact h) (Or.inl ⟨by rfl, fun w hSw => by (dsimp only at hSw; go_simp; (try with_reducible rfl))⟩) (by assumption) ?_
      simp only [Act.put, List.setIfInBounds_toArray, List.set_cons_zero, List.set_cons_succ]
      refine wpAnyH_take (i := 16) (by simp only [List.getElem?_toArray, List.getElem?_cons_zero, List.getElem?_cons_succ]; rfl) (by kernel_rfl) (by kernel_rfl) (by kernel_rfl) (by intro _ _ _ h; exact h) (Or.inl ⟨by rfl, fun w hSw => by (dsimp only at hSw; go_simp; (try with_reducible rfl))⟩) (by assumption) ?_
      simp only [Act.put, List.setIfInBounds_toArray, List.set_cons_zero, List.set_cons_succ]
      refine wpAnyH_take (i := 17) (by simp only [List.getElem?_toArray, List.getElem?_cons_zero, List.getElem?_cons_succ]; rfl) (by kernel_rfl) (by kernel_rfl) (by kernel_rfl) (by intro _ _ _ h; exact h) (Or.inl ⟨by rfl, fun w hSw => by (dsimp only at hSw; go_simp; (try with_reducible rfl))⟩) (by assumption) ?_
      simp only [Act.put, List.setIfInBounds_toArray, List.set_cons_zero, List.set_cons_succ]
      refine wpAnyH_take (i := 18) (by simp only [List.getElem?_toArray, List.getElem?_cons_zero, List.getElem?_cons_succ]; rfl) (by kernel_rfl) (by kernel_rfl) (by kernel_rfl) (by intro _ _ _ h; exact h) (Or.inl ⟨by rfl, fun w hSw => by (dsimp only at hSw; go_simp; (try with_reducible rfl))⟩) (by assumption) ?_
      simp only [Act.put, List.setIfInBounds_toArray, List.set_cons_zero, List.set_cons_succ]
      refine wpAnyH_take (i := 19) (by simp only [List.getElem?_toArray, List.getElem?_cons_zero, List.getElem?_cons_succ]; rfl) (by kernel_rfl) (by kernel_rfl) (by kernel_rfl) (by intro _ _ _ h; exact h) (Or.inl ⟨by rfl, fun w hSw => by (dsimp only at hSw; go_simp; (try with_reducible rfl))⟩) (by assumption) ?_
      simp only [Act.put, List.setIfInBounds_toArray, List.set_cons_zero, List.set_cons_succ]
      refine wpAnyH_take (i := 21) (by simp only [List.getElem?_toArray, List.getElem?_cons_zero, List.getElem?_cons_succ]; rfl) (by kernel_rfl) (by kernel_rfl) (by kernel_rfl) (by intro _ _ _ h; exact h) (Or.inl ⟨by rfl, fun w hSw => by (dsimp only at hSw; go_simp; (try with_reducible rfl))⟩) (by assumption) ?_
      simp only [Act.put, List.setIfInBounds_toArray, List.set_cons_zero, List.set_cons_succ]
      refine wpAnyH_take (i := 22) (by simp only [List.getElem?_toArray, List.getElem?_cons_zero, List.getElem?_cons_succ]; rfl) (by kernel_rfl) (by kernel_rfl) (by kernel_rfl) (by intro _ _ _ h; exact h) (Or.inl ⟨by rfl, fun w hSw => by (dsimp only at hSw; go_simp; (try with_reducible rfl))⟩) (by assumption) ?_
      simp only [Act.put, List.setIfInBounds_toArray, List.set_cons_zero, List.set_cons_succ]
      refine wpAnyH_take (i := 23) (by simp only [List.getElem?_toArray, List.getElem?_cons_zero, List.getElem?_cons_succ]; rfl) (by kernel_rfl) (by kernel_rfl) (by kernel_rfl) (by intro _ _ _ h; exact h) (Or.inl ⟨by rfl, fun w hSw => by (dsimp only at hSw; go_simp; (try with_reducible rfl))⟩) (by assumption) ?_
      simp only [Act.put, List.setIfInBounds_toArray, List.set_cons_zero, List.set_cons_succ]
      refine wpAnyH_ready (rs := [20]) (by kernel_rfl) (by simp) ?_
      refine AllReadyH.cons (by simp only [List.getElem?_toArray, List.getElem?_cons_zero, List.getElem?_cons_succ]; rfl) ?_ AllReadyH.nil
      intro K hK
      go_simp
      refine (holds_implb _ _ _ _ hbi _).mono ?_
      rintro e wd ⟨rfl, hbD⟩
      obtain ⟨hcd, hfd⟩ := bcell hbD
      have hzd := hbD.size
      try simp at hzd
      have yd0 : w1.heap.size < wd.heap.size := by omega
      have yd1 : w5.heap.size < wd.heap.size := by omega
      have yd2 : w6.heap.size < wd.heap.size := by omega
      have yd3 : w10.heap.size < wd.heap.size := by omega
      go_wp2_with fail
      refine hK.out _ _ ?_ (fun hHeld => ?_)
      · (((try dsimp only); (repeat' apply And.intro) <;> first | (go_keep; done) | (simp (disch := first | omega | (simp <;> omega) | fail) [*]; done) | fail))
      clear hK K
      try simp only [Act.put, List.setIfInBounds_toArray, List.set_cons_zero, List.set_cons_succ]
      refine wpAnyH_take (i := 24) (by simp only [List.getElem?_toArray, List.getElem?_cons_zero, List.getElem?_cons_succ]; rfl) (by kernel_rfl) (by kernel_rfl) (by kernel_rfl) (by intro _ _ _ h; exact h) (Or.inl ⟨by rfl, fun w hSw => by (dsimp only at hSw; go_simp; (try with_reducible rfl))⟩) (by assumption) ?_
      simp only [Act.put, List.setIfInBounds_toArray, List.set_cons_zero, List.set_cons_succ]
      refine wpAnyH_take (i := 25) (by simp only [List.getElem?_toArray, List.getElem?_cons_zero, List.getElem?_cons_succ]; rfl) (by kernel_rfl) (by kernel_rfl) (by kernel_rfl) (by intro _ _ _ h; exact h) (Or.inl ⟨by rfl, fun w hSw => by (dsimp only at hSw; go_simp; (try with_reducible rfl))⟩) (by assumption) ?_
      simp only [Act.put, List.setIfInBounds_toArray, List.set_cons_zero, List.set_cons_succ]
      refine wpAnyH_take (i := 26) (by simp only [List.getElem?_toArray, List.getElem?_cons_zero, List.getElem?_cons_succ]; rfl) (by kernel_rfl) (by kernel_rfl) (by kernel_rfl) (by intro _ _ _ h; exact h) (Or.inl ⟨by rfl, fun w hSw => by (dsimp only at hSw; go_simp; (try with_reducible rfl))⟩) (by assumption) ?_
      simp only [Act.put, List.setIfInBounds_toArray, List.set_cons_zero, List.set_cons_succ]
      refine wpAnyH_done (by kernel_rfl) ?_ _
      go_wp2_with fail
      go_meet
      case rel => exact ⟨rfl, chain (chain (chainA (undrew hbA)) hbB) hbD⟩
    · refine wp_region_held_drew (S := (fun w' => w'.cell? ⟨w1.heap.size, 0, none⟩ = some (.int .i64 k1) ∧ w'.cell? ⟨w1.heap.size, 1, none⟩ = some (.int .i64 n1) ∧ w'.cell? ⟨w1.heap.size, 2, none⟩ = some (.string t1) ∧ w'.cell? ⟨w5.heap.size, 0, none⟩ = some (.int .i64 kq) ∧ w'.cell? ⟨w5.heap.size, 1, none⟩ = some (.int .i64 nq) ∧ w'.cell? ⟨w5.heap.size, 2, none⟩ = some (.string tq) ∧ w'.cell? ⟨w6.heap.size, 0, none⟩ = some (.int .i64 ik) ∧ w'.cell? ⟨w6.heap.size, 1, none⟩ = some (.int .i64 im) ∧ w'.cell? ⟨w6.heap.size, 2, none⟩ = some (.string ⟨#[]⟩) ∧ w'.cell? ⟨w10.heap.size, 0, none⟩ = some (.int .i64 ik) ∧ w'.cell? ⟨w10.heap.size, 1, none⟩ = some (.int .i64 im) ∧ w'.cell? ⟨w10.heap.size, 2, none⟩ = some (.string ⟨#[]⟩))) (by kernel_rfl) ?_ (fun hHeld => ?_)
      · (((try dsimp only); (repeat' apply And.intro) <;> first | (go_keep; done) | (simp (disch := first | omega | (simp <;> omega) | fail) [*]; done) | fail))
      refine wpAnyH_take (i := 0) (by simp only [List.getElem?_toArray, List.getElem?_cons_zero]; rfl) (by kernel_rfl) (by kernel_rfl) (by kernel_rfl) (by intro _ _ _ h; exact h) (Or.inl ⟨by rfl, fun w hSw => by (dsimp only at hSw; go_simp; (try with_reducible rfl))⟩) (by assumption) ?_
      simp only [Act.put, List.setIfInBounds_toArray, List.set_cons_zero, List.set_cons_succ]
      refine wpAnyH_take (i := 1) (by simp only [List.getElem?_toArray, List.getElem?_cons_zero, List.getElem?_cons_succ]; rfl) (by kernel_rfl) (by kernel_rfl) (by kernel_rfl) (by intro _ _ _ h; exact h) (Or.inl ⟨by rfl, fun w hSw => by (dsimp only at hSw; go_simp; (try with_reducible rfl))⟩) (by assumption) ?_
      simp only [Act.put, List.setIfInBounds_toArray, List.set_cons_zero, List.set_cons_succ]
      refine wpAnyH_take (i := 2) (by simp only [List.getElem?_toArray, List.getElem?_cons_zero, List.getElem?_cons_succ]; rfl) (by kernel_rfl) (by kernel_rfl) (by kernel_rfl) (by intro _ _ _ h; exact h) (Or.inl ⟨by rfl, fun w hSw => by (dsimp only at hSw; go_simp; (try with_reducible rfl))⟩) (by assumption) ?_
      simp only [Act.put, List.setIfInBounds_toArray, List.set_cons_zero, List.set_cons_succ]
      refine wpAnyH_take (i := 3) (by simp only [List.getElem?_toArray, List.getElem?_cons_zero, List.getElem?_cons_succ]; rfl) (by kernel_rfl) (by kernel_rfl) (by kernel_rfl) (by intro _ _ _ h; exact h) (Or.inl ⟨by rfl, fun w hSw => by (dsimp only at hSw; go_simp; (try with_reducible rfl))⟩) (by assumption) ?_
      simp only [Act.put, List.setIfInBounds_toArray, List.set_cons_zero, List.set_cons_succ]
      refine wpAnyH_take (i := 4) (by simp only [List.getElem?_toArray, List.getElem?_cons_zero, List.getElem?_cons_succ]; rfl) (by kernel_rfl) (by kernel_rfl) (by kernel_rfl) (by intro _ _ _ h; exact h) (Or.inl ⟨by rfl, fun w hSw => by (dsimp only at hSw; go_simp; (try with_reducible rfl))⟩) (by assumption) ?_
      simp only [Act.put, List.setIfInBounds_toArray, List.set_cons_zero, List.set_cons_succ]
      refine wpAnyH_take (i := 5) (by simp only [List.getElem?_toArray, List.getElem?_cons_zero, List.getElem?_cons_succ]; rfl) (by kernel_rfl) (by kernel_rfl) (by kernel_rfl) (by intro _ _ _ h; exact h) (Or.inl ⟨by rfl, fun w hSw => by (dsimp only at hSw; go_simp; (try with_reducible rfl))⟩) (by assumption) ?_
      simp only [Act.put, List.setIfInBounds_toArray, List.set_cons_zero, List.set_cons_succ]
      refine wpAnyH_take (i := 6) (by simp only [List.getElem?_toArray, List.getElem?_cons_zero, List.getElem?_cons_succ]; rfl) (by kernel_rfl) (by kernel_rfl) (by kernel_rfl) (by intro _ _ _ h; exact h) (Or.inl ⟨by rfl, fun w hSw => by (dsimp only at hSw; go_simp; (try with_reducible rfl))⟩) (by assumption) ?_
      simp only [Act.put, List.setIfInBounds_toArray, List.set_cons_zero, List.set_cons_succ]
      refine wpAnyH_take (i := 7) (by simp only [List.getElem?_toArray, List.getElem?_cons_zero, List.getElem?_cons_succ]; rfl) (by kernel_rfl) (by kernel_rfl) (by kernel_rfl) (by intro _ _ _ h; exact h) (Or.inl ⟨by rfl, fun w hSw => by (dsimp only at hSw; go_simp; (try with_reducible rfl))⟩) (by assumption) ?_
      simp only [Act.put, List.setIfInBounds_toArray, List.set_cons_zero, List.set_cons_succ]
      refine wpAnyH_take (i := 8) (by simp only [List.getElem?_toArray, List.getElem?_cons_zero, List.getElem?_cons_succ]; rfl) (by kernel_rfl) (by kernel_rfl) (by kernel_rfl) (by intro _ _ _ h; exact h) (Or.inl ⟨by rfl, fun w hSw => by (dsimp only at hSw; go_simp; (try with_reducible rfl))⟩) (by assumption) ?_
      simp only [Act.put, List.setIfInBounds_toArray, List.set_cons_zero, List.set_cons_succ]
      refine wpAnyH_take (i := 9) (by simp only [List.getElem?_toArray, List.getElem?_cons_zero, List.getElem?_cons_succ]; rfl) (by kernel_rfl) (by kernel_rfl) (by kernel_rfl) (by intro _ _ _ h; exact h) (Or.inl ⟨by rfl, fun w hSw => by (dsimp only at hSw; go_simp; (try with_reducible rfl))⟩) (by assumption) ?_
      simp only [Act.put, List.setIfInBounds_toArray, List.set_cons_zero, List.set_cons_succ]
      refine wpAnyH_take (i := 11) (by simp only [List.getElem?_toArray, List.getElem?_cons_zero, List.getElem?_cons_succ]; rfl) (by kernel_rfl) (by kernel_rfl) (by kernel_rfl) (by intro _ _ _ h; exact h) (Or.inl ⟨by rfl, fun w hSw => by (dsimp only at hSw; go_simp; (try with_reducible rfl))⟩) (by assumption) ?_
      simp only [Act.put, List.setIfInBounds_toArray, List.set_cons_zero, List.set_cons_succ]
      refine wpAnyH_ready (rs := [10]) (by kernel_rfl) (by simp) ?_
      refine AllReadyH.cons (by simp only [List.getElem?_toArray, List.getElem?_cons_zero, List.getElem?_cons_succ]; rfl) ?_ AllReadyH.nil
      intro K hK
      go_simp
      refine (holds_implb _ _ _ _ hba _).mono ?_
      rintro e wa ⟨rfl, hbA⟩
      obtain ⟨hca, hfa⟩ := bcell hbA
      have hza := hbA.size
      try simp at hza
      have ya0 : w1.heap.size < wa.heap.size := by omega
      have ya1 : w5.heap.size < wa.heap.size := by omega
      have ya2 : w6.heap.size < wa.heap.size := by omega
      have ya3 : w10.heap.size < wa.heap.size := by omega
      go_wp2_with fail
      refine hK.out _ _ ?_ (fun hHeld => ?_)
      · (((try dsimp only); (repeat' apply And.intro) <;> first | (go_keep; done) | (simp (disch := first | omega | (simp <;> omega) | fail) [*]; done) | fail))
      clear hK K
      try simp only [Act.put, List.setIfInBounds_toArray, List.set_cons_zero, List.set_cons_succ]
      refine wpAnyH_ready (rs := [12]) (by kernel_rfl) (by simp) ?_
      refine AllReadyH.cons (by simp only [List.getElem?_toArray, List.getElem?_cons_zero, List.getElem?_cons_succ]; rfl) ?_ AllReadyH.nil
      intro K hK
      go_simp
      refine (holds_specb _ _ _ _ hba _).mono ?_
      rintro e wb ⟨rfl, hbB⟩
      obtain ⟨hcb, hfb⟩ := bcell hbB
      have hzb := hbB.size
      try simp at hzb
      have yb0 : w1.heap.size < wb.heap.size := by omega
      have yb1 : w5.heap.size < wb.heap.size := by omega
      have yb2 : w6.heap.size < wb.heap.size := by omega
      have yb3 : w10.heap.size < wb.heap.size := by omega
      go_wp2_with fail
      refine hK.out _ _ ?_ (fun hHeld => ?_)
      · (((try dsimp only); (repeat' apply And.intro) <;> first | (go_keep; done) | (simp (disch := first | omega | (simp <;> omega) | fail) [*]; done) | fail))
      clear hK K
      try simp only [Act.put, List.setIfInBounds_toArray, List.set_cons_zero, List.set_cons_succ]
      refine wpAnyH_take (i := 13) (by simp only [List.getElem?_toArray, List.getElem?_cons_zero, List.getElem?_cons_succ]; rfl) (by kernel_rfl) (by kernel_rfl) (by kernel_rfl) (by intro _ _ _ h; exact h) (Or.inl ⟨by rfl, fun w hSw => by (dsimp only at hSw; go_simp; (try with_reducible rfl))⟩) (by assumption) ?_
      simp only [Act.put, List.setIfInBounds_toArray, List.set_cons_zero, List.set_cons_succ]
      refine wpAnyH_take (i := 14) (by simp only [List.getElem?_toArray, List.getElem?_cons_zero, List.getElem?_cons_succ]; rfl) (by kernel_rfl) (by kernel_rfl) (by kernel_rfl) (by intro _ _ _ h; exact h) (Or.inl ⟨by rfl, fun w hSw => by (dsimp only at hSw; go_simp; (try with_reducible rfl))⟩) (by assumption) ?_
      simp only [Act.put, List.setIfInBounds_toArray, List.set_cons_zero, List.set_cons_succ]
      refine wpAnyH_take (i := 15) (by simp only [List.getElem?_toArray, List.getElem?_cons_zero, List.getElem?_cons_succ]; rfl) (by kernel_rfl) (by kernel_rfl) (by kernel_rfl) (by intro _ _ _ h; exact h) (Or.inl ⟨by rfl, fun w hSw => by (dsimp only at hSw; go_simp; (try with_reducible rfl))⟩) (by assumption) ?_
      simp only [Act.put, List.setIfInBounds_toArray, List.set_cons_zero, List.set_cons_succ]
      refine wpAnyH_take (i := 16) (by simp only [List.getElem?_toArray, List.getElem?_cons_zero, List.getElem?_cons_succ]; rfl) (by kernel_rfl) (by kernel_rfl) (by kernel_rfl) (by intro _ _ _ h; exact h) (Or.inl ⟨by rfl, fun w hSw => by (dsimp only at hSw; go_simp; (try with_reducible rfl))⟩) (by assumption) ?_
      simp only [Act.put, List.setIfInBounds_toArray, List.set_cons_zero, List.set_cons_succ]
      refine wpAnyH_take (i := 17) (by simp only [List.getElem?_toArray, List.getElem?_cons_zero, List.getElem?_cons_succ]; rfl) (by kernel_rfl) (by kernel_rfl) (by kernel_rfl) (by intro _ _ _ h; exact h) (Or.inl ⟨by rfl, fun w hSw => by (dsimp only at hSw; go_simp; (try with_reducible rfl))⟩) (by assumption) ?_
      simp only [Act.put, List.setIfInBounds_toArray, List.set_cons_zero, List.set_cons_succ]
      refine wpAnyH_take (i := 18) (by simp only [List.getElem?_toArray, List.getElem?_cons_zero, List.getElem?_cons_succ]; rfl) (by kernel_rfl) (by kernel_rfl) (by kernel_rfl) (by intro _ _ _ h; exact h) (Or.inl ⟨by rfl, fun w hSw => by (dsimp only at hSw; go_simp; (try with_reducible rfl))⟩) (by assumption) ?_
      simp only [Act.put, List.setIfInBounds_toArray, List.set_cons_zero, List.set_cons_succ]
      refine wpAnyH_take (i := 19) (v := undef) (by simp only [List.getElem?_toArray, List.getElem?_cons_zero, List.getElem?_cons_succ]; rfl) (by kernel_rfl) (by kernel_rfl) (by kernel_rfl) (by intro _ _ _ h; exact h) (Or.inr ⟨by rfl, rfl⟩) (by assumption) ?_
      simp only [Act.put, List.setIfInBounds_toArray, List.set_cons_zero, List.set_cons_succ]
      refine wpAnyH_take (i := 20) (v := undef) (by simp only [List.getElem?_toArray, List.getElem?_cons_zero, List.getElem?_cons_succ]; rfl) (by kernel_rfl) (by kernel_rfl) (by kernel_rfl) (by intro _ _ _ h; exact h) (Or.inr ⟨by rfl, rfl⟩) (by assumption) ?_
      simp only [Act.put, List.setIfInBounds_toArray, List.set_cons_zero, List.set_cons_succ]
      refine wpAnyH_take (i := 21) (v := undef) (by simp only [List.getElem?_toArray, List.getElem?_cons_zero, List.getElem?_cons_succ]; rfl) (by kernel_rfl) (by kernel_rfl) (by kernel_rfl) (by intro _ _ _ h; exact h) (Or.inr ⟨by rfl, rfl⟩) (by assumption) ?_
      simp only [Act.put, List.setIfInBounds_toArray, List.set_cons_zero, List.set_cons_succ]
      refine wpAnyH_take (i := 22) (v := undef) (by simp only [List.getElem?_toArray, List.getElem?_cons_zero, List.getElem?_cons_succ]; rfl) (by kernel_rfl) (by kernel_rfl) (by kernel_rfl) (by intro _ _ _ h; exact h) (Or.inr ⟨by rfl, rfl⟩) (by assumption) ?_
      simp only [Act.put, List.setIfInBounds_toArray, List.set_cons_zero, List.set_cons_succ]
      refine wpAnyH_take (i := 23) (v := undef) (by simp only [List.getElem?_toArray, List.getElem?_cons_zero, List.getElem?_cons_succ]; rfl) (by kernel_rfl) (by kernel_rfl) (by kernel_rfl) (by intro _ _ _ h; exact h) (Or.inr ⟨by rfl, rfl⟩) (by assumption) ?_
      simp only [Act.put, List.setIfInBounds_toArray, List.set_cons_zero, List.set_cons_succ]
      refine wpAnyH_take (i := 24) (v := undef) (by simp only [List.getElem?_toArray, List.getElem?_cons_zero, List.getElem?_cons_succ]; rfl) (by kernel_rfl) (by kernel_rfl) (by kernel_rfl) (by intro _ _ _ h; exact h) (Or.inr ⟨by rfl, rfl⟩) (by assumption) ?_
      simp only [Act.put, List.setIfInBounds_toArray, List.set_cons_zero, List.set_cons_succ]
      refine wpAnyH_take (i := 25) (by simp only [List.getElem?_toArray, List.getElem?_cons_zero, List.getElem?_cons_succ]; rfl) (by kernel_rfl) (by kernel_rfl) (by kernel_rfl) (by intro _ _ _ h; exact h) (Or.inl ⟨by rfl, fun w hSw => by (dsimp only at hSw; go_simp; (try with_reducible rfl))⟩) (by assumption) ?_
      simp only [Act.put, List.setIfInBounds_toArray, List.set_cons_zero, List.set_cons_succ]
      refine wpAnyH_take (i := 26) (by simp only [List.getElem?_toArray, List.getElem?_cons_zero, List.getElem?_cons_succ]; rfl) (by kernel_rfl) (by kernel_rfl) (by kernel_rfl) (by intro _ _ _ h; exact h) (Or.inl ⟨by rfl, fun w hSw => by (dsimp only at hSw; go_simp; (try with_reducible rfl))⟩) (by assumption) ?_
      simp only [Act.put, List.setIfInBounds_toArray, List.set_cons_zero, List.set_cons_succ]
      refine wpAnyH_done (by kernel_rfl) ?_ _
      go_wp2_with fail
      go_meet
      case rel => exact ⟨rfl, chain (chainA (undrew hbA)) hbB⟩
  case rest =>
    obtain ⟨rfl, hb⟩ := hcut
    clear a0 a1 a2 a3 q0 q1 q2 q3 i0 i1 i2 i3
    clear Q I hji hbi hI htq
    replace A := A.below hb
    replace B := B.below hb
    replace X := X.below hb
    replace Y := Y.below hb
    replace N := N.below hb
    replace hx := chain hx hb
    clear hb
    cases hT : (threeB k1 n1 t1 && threeB k2 n2 t2)
    · have eX := (both_wrong hT).symm.trans hX.out
      have eY := (either_wrong hT).symm.trans hY.out
      simp only [Prod.mk.injEq] at eX eY
      obtain ⟨rfl, rfl, rfl⟩ := eX
      obtain ⟨rfl, rfl, rfl⟩ := eY
      clear hX hY hN
      have ⟨x0, x1, x2, x3⟩ := X
      have ⟨y0, y1, y2, y3⟩ := Y
      go_wp2
      go_ret
      exact ⟨rfl, hx⟩
    · rw [Bool.and_eq_true] at hT
      obtain ⟨x, hx1, rfl, rfl, rfl⟩ := rk_of hT.1
      obtain ⟨y, hy1, rfl, rfl, rfl⟩ := rk_of hT.2
      obtain ⟨p, hp⟩ : ∃ p, min x y = p := ⟨_, rfl⟩
      obtain ⟨q, hq2⟩ : ∃ p, max x y = p := ⟨_, rfl⟩
      obtain ⟨r, hr⟩ : ∃ p, 2 - x = p := ⟨_, rfl⟩
      obtain ⟨s, hs⟩ : ∃ p, 2 - y = p := ⟨_, rfl⟩
      obtain ⟨u, hu⟩ : ∃ p, max r s = p := ⟨_, rfl⟩
      have eX := (both_rk hx1 hy1 hp).symm.trans hX.out
      have eY := (either_rk hx1 hy1 hq2).symm.trans hY.out
      have eN := (not_rk hx1 hr).symm.trans hN.out
      simp only [Prod.mk.injEq] at eX eY eN
      obtain ⟨rfl, rfl, rfl⟩ := eX
      obtain ⟨rfl, rfl, rfl⟩ := eY
      obtain ⟨rfl, rfl, rfl⟩ := eN
      clear hX hY hN hT
      have hM : Hid (notR (rkK y) (rkN y) ⟨#[]⟩ = (rkK s, rkN s, 0)) := not_rk hy1 hs
      have hE : Hid (eitherR (rkK r) (rkN r) ⟨#[]⟩ (rkK s) (rkN s) ⟨#[]⟩ = (rkK u, rkN u, 0)) := either_rk (by omega) (by omega) hu
      have hNX : Hid (notR (rkK p) (rkN p) ⟨#[]⟩ = (rkK u, rkN u, 0)) := not_rk (by omega) (by omega)
      have hNN : Hid (notR (rkK r) (rkN r) ⟨#[]⟩ = (rkK x, rkN x, 0)) := not_rk (by omega) (by omega)
      have hZ : Hid (bothR (rkK y) (rkN y) ⟨#[]⟩ (rkK x) (rkN x) ⟨#[]⟩ = (rkK p, rkN p, 0)) := both_rk hy1 hx1 (by omega)
      obtain ⟨bx, hbx⟩ : ∃ b, sameB (rkK p) (rkN p) ⟨#[]⟩ 3 1 ⟨#[]⟩ = b := ⟨_, rfl⟩
      obtain ⟨bb, hbb⟩ : ∃ b, sameB (rkK y) (rkN y) ⟨#[]⟩ 3 1 ⟨#[]⟩ = b := ⟨_, rfl⟩
      obtain ⟨bq, hbq⟩ : ∃ b, sameB (rkK q) (rkN q) ⟨#[]⟩ 3 1 ⟨#[]⟩ = b := ⟨_, rfl⟩
      have i1 : bx = true → ba = true ∧ bb = true := by
        rw [← hbx, ← hba, ← hbb, holds_rk (by omega), holds_rk hx1, holds_rk hy1]; simp; omega
      have i2 : ba = true → bq = true := by
        rw [← hba, ← hbq, holds_rk hx1, holds_rk (by omega)]; simp; omega
      clear hp hq2 hr hs hu hx1 hy1
      have ⟨a0, a1, a2, a3⟩ := A
      have ⟨b0, b1, b2, b3⟩ := B
      go_wp2_with fail
      refine (not_impl' _ _ _ _ _ _ hM _ ht2).mono ?_
      rintro e w11 ⟨rfl, hb⟩
      clear a0 a1 a2 a3 b0 b1 b2 b3
      replace A := A.below hb
      replace B := B.below hb
      replace X := X.below hb
      replace Y := Y.below hb
      replace N := N.below hb
      replace hx := chain hx (hb)
      clear hb
      have ⟨n0, n1, n2, n3⟩ := N
      go_wp2_with fail
      refine (either_impl' _ _ _ _ _ _ _ _ _ hE _ (by decide) (by decide)).mono ?_
      rintro e w12 ⟨rfl, hb⟩
      clear n0 n1 n2 n3
      replace A := A.step hb
      replace B := B.step hb
      replace X := X.step hb
      replace Y := Y.step hb
      replace N := N.step hb
      have M : C3 w12 w11.heap.size (rkK s) (rkN s) ⟨#[]⟩ := C3.fresh hb
      replace hx := chain hx (chainA hb)
      clear hb
      have ⟨x0, x1, x2, x3⟩ := X
      go_wp2_with fail
      refine (not_impl' _ _ _ _ _ _ hNX _ (by decide)).mono ?_
      rintro e w13 ⟨rfl, hb⟩
      clear x0 x1 x2 x3
      replace A := A.step hb
      replace B := B.step hb
      replace X := X.step hb
      replace Y := Y.step hb
      replace N := N.step hb
      replace M := M.step hb
      have E : C3 w13 w12.heap.size (rkK u) (rkN u) ⟨#[]⟩ := C3.fresh hb
      replace hx := chain hx (chainA hb)
      clear hb
      have ⟨n0, n1, n2, n3⟩ := N
      go_wp2_with fail
      refine (not_impl' _ _ _ _ _ _ hNN _ (by decide)).mono ?_
      rintro e w14 ⟨rfl, hb⟩
      clear n0 n1 n2 n3
      replace A := A.step hb
      replace B := B.step hb
      replace X := X.step hb
      replace Y := Y.step hb
      replace N := N.step hb
      replace M := M.step hb
      replace E := E.step hb
      have D : C3 w14 w13.heap.size (rkK u) (rkN u) ⟨#[]⟩ := C3.fresh hb
      replace hx := chain hx (chainA hb)
      clear hb
      have ⟨a0, a1, a2, a3⟩ := A
      have ⟨b0, b1, b2, b3⟩ := B
      go_wp2_with fail
      refine (both_impl' _ _ _ _ _ _ _ _ _ hZ _ ht2 ht1).mono ?_
      rintro e w15 ⟨rfl, hb⟩
      clear a0 a1 a2 a3 b0 b1 b2 b3
      replace A := A.step hb
      replace B := B.step hb
      replace X := X.step hb
      replace Y := Y.step hb
      replace N := N.step hb
      replace M := M.step hb
      replace E := E.step hb
      replace D := D.step hb
      have G : C3 w15 w14.heap.size (rkK x) (rkN x) ⟨#[]⟩ := C3.fresh hb
      replace hx := chain hx (chainA hb)
      clear hb
      clear N M hM hE hNX hNN hZ
      have ⟨a0, a1, a2, a3⟩ := A
      have ⟨x0, x1, x2, x3⟩ := X
      have ⟨e0, e1, e2, e3⟩ := E
      have ⟨d0, d1, d2, d3⟩ := D
      have ⟨g0, g1, g2, g3⟩ := G
      go_wp2_with fail
      refine (holds_implb _ _ _ _ hbx _).mono ?_
      rintro e w16 ⟨rfl, hb⟩
      clear a0 a1 a2 a3 x0 x1 x2 x3 e0 e1 e2 e3 d0 d1 d2 d3 g0 g1 g2 g3
      replace A := A.step hb
      replace B := B.step hb
      replace X := X.step hb
      replace Y := Y.step hb
      replace E := E.step hb
      replace D := D.step hb
      replace G := G.step hb
      replace hx := chain hx (chainA hb)
      clear hb
      cases bx
      · skip
        have ⟨a0, a1, a2, a3⟩ := A
        go_wp2_with fail
        refine (holds_implb _ _ _ _ hba _).mono ?_
        rintro e w17 ⟨rfl, hb⟩
        clear a0 a1 a2 a3
        replace A := A.below hb
        replace B := B.below hb
        replace X := X.below hb
        replace Y := Y.below hb
        replace E := E.below hb
        replace D := D.below hb
        replace G := G.below hb
        replace hx := chain hx (hb)
        clear hb
        cases ba
        · go_wp2
          go_ret
          exact ⟨rfl, hx⟩
        · obtain rfl := i2 rfl
          have ⟨y0, y1, y2, y3⟩ := Y
          go_wp2_with fail
          refine (holds_implb _ _ _ _ hbq _).mono ?_
          rintro e w18 ⟨rfl, hb⟩
          clear y0 y1 y2 y3
          replace A := A.below hb
          replace B := B.below hb
          replace X := X.below hb
          replace Y := Y.below hb
          replace E := E.below hb
          replace D := D.below hb
          replace G := G.below hb
          replace hx := chain hx (hb)
          clear hb
          go_wp2
          go_ret
          exact ⟨rfl, hx⟩
      · obtain ⟨rfl, rfl⟩ := i1 rfl
        obtain rfl := i2 rfl
        have ⟨a0, a1, a2, a3⟩ := A
        go_wp2_with fail
        refine (holds_implb _ _ _ _ hba _).mono ?_
        rintro e w20 ⟨rfl, hb⟩
        clear a0 a1 a2 a3
        replace A := A.below hb
        replace B := B.below hb
        replace X := X.below hb
        replace Y := Y.below hb
        replace E := E.below hb
        replace D := D.below hb
        replace G := G.below hb
        replace hx := chain hx (hb)
        clear hb
        have ⟨b0, b1, b2, b3⟩ := B
        go_wp2_with fail
        refine (holds_implb _ _ _ _ hbb _).mono ?_
        rintro e w21 ⟨rfl, hb⟩
        clear b0 b1 b2 b3
        replace A := A.below hb
        replace B := B.below hb
        replace X := X.below hb
        replace Y := Y.below hb
        replace E := E.below hb
        replace D := D.below hb
        replace G := G.below hb
        replace hx := chain hx (hb)
        clear hb
        have ⟨a0, a1, a2, a3⟩ := A
        go_wp2_with fail
        refine (holds_implb _ _ _ _ hba _).mono ?_
        rintro e w22 ⟨rfl, hb⟩
        clear a0 a1 a2 a3
        replace A := A.below hb
        replace B := B.below hb
        replace X := X.below hb
        replace Y := Y.below hb
        replace E := E.below hb
        replace D := D.below hb
        replace G := G.below hb
        replace hx := chain hx (hb)
        clear hb
        have ⟨y0, y1, y2, y3⟩ := Y
        go_wp2_with fail
        refine (holds_implb _ _ _ _ hbq _).mono ?_
        rintro e w23 ⟨rfl, hb⟩
        clear y0 y1 y2 y3
        replace A := A.below hb
        replace B := B.below hb
        replace X := X.below hb
        replace Y := Y.below hb
        replace E := E.below hb
        replace D := D.below hb
        replace G := G.below hb
        replace hx := chain hx (hb)
        clear hb
        go_wp2
        go_ret
        exact ⟨rfl, hx⟩

end threeLaw

end Go.Proofs.Ytmmphcpebbbhoaa
