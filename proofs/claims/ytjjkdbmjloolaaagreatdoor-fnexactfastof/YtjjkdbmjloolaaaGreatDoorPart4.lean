/-
  A part of the proof: FastNew, KeyMath.
-/
import Derived.Test.YtjjkdbmjloolaaaGreatDoorPart3
import Derived.Maps.AppendAt
import Derived.Lib.SmallJoins
import Derived.Lib.ItoaNum
import Derived.Lib.ParseIntB

namespace Go.Proofs.YtjjkdbmjloolaaaGreatDoor
open Go.ChangeShapes Go.WideShapes Go.ChangeAt Go.RowKit Go.Joins
attribute [local go_sem ↓] Go.wp_at_zero Go.wp_at_succ
attribute [local simp] World.cell?_alloc_past World.cell?_alloc_at World.frozen?_alloc_at cell_far cell_off cell_here World.frozen?_alloc_past
theorem infoFoN : (Tryz.prog.info? 75).map (fun i => (i.zero, i.size, i.bytes)) = some (some (.agg #[.int .i64 0, .int .i64 0, .int .i64 0, .int .i64 0]), 4, 32) := by kernel_rfl
theorem infoBlN : (Tryz.prog.info? 4).map (fun i => (i.zero, i.size, i.bytes)) = some (some (.bool false), 1, 1) := by kernel_rfl
theorem cells5 {w : World} {B : Nat} {a b c d e : Value} {T : TypeId} (h : w.heap[B]? = some (.cells #[a, b, c, d, e] T)) : w.cell? ⟨B, 0, none⟩ = some a ∧ w.cell? ⟨B, 1, none⟩ = some b ∧ w.cell? ⟨B, 2, none⟩ = some c ∧ w.cell? ⟨B, 3, none⟩ = some d ∧ w.cell? ⟨B, 4, none⟩ = some e := by
 refine ⟨?_, ?_, ?_, ?_, ?_⟩ <;> simp [World.cell?, h]
theorem frozen5 {w : World} {B : Nat} {a b c d e : Value} {T : TypeId} (h : w.heap[B]? = some (.cells #[a, b, c, d, e] T)) (i : Nat) : w.frozen? ⟨B, i, none⟩ = false := by
 simp [World.frozen?, h]
theorem cells4N (w : World) (a b c d : Value) (T : TypeId) : ∀ j u, [a, b, c, d][j]? = some u → (w.alloc (.cells #[a, b, c, d] T)).cell? ((⟨w.heap.size, 0, none⟩ : Addr).add j) = some u := by
 intro j u hj
 match j, hj with
 | 0, hj => simp at hj; subst hj; simp [Addr.add]
 | 1, hj => simp at hj; subst hj; simp [Addr.add]
 | 2, hj => simp at hj; subst hj; simp [Addr.add]
 | 3, hj => simp at hj; subst hj; simp [Addr.add]
theorem cells1N (w : World) (a : Value) (T : TypeId) : ∀ j u, [a][j]? = some u → (w.alloc (.cells #[a] T)).cell? ((⟨w.heap.size, 0, none⟩ : Addr).add j) = some u := by
 intro j u hj
 match j, hj with
 | 0, hj => simp at hj; subst hj; simp [Addr.add]
theorem cells4 {w : World} {B : Nat} {a b c d : Value} {T : TypeId} (h : w.heap[B]? = some (.cells #[a, b, c, d] T)) : w.cell? ⟨B, 0, none⟩ = some a ∧ w.cell? ⟨B, 1, none⟩ = some b ∧ w.cell? ⟨B, 2, none⟩ = some c ∧ w.cell? ⟨B, 3, none⟩ = some d := by
 refine ⟨?_, ?_, ?_, ?_⟩ <;> simp [World.cell?, h]
theorem lt_of_heapN {w : World} {B : Nat} {o : Obj} (h : w.heap[B]? = some o) : B < w.heap.size := by
 by_cases hl : B < w.heap.size
 · exact hl
 · rw [Array.getElem?_eq_none (by omega)] at h
  cases h
theorem KeepS.set1 (w : World) (B i : Nat) (u : Value) : KeepS (fun g => g = B) w (w.setCell ⟨B, i, none⟩ u) := KeepS.setCell (p := ⟨B, i, none⟩) (KeepS.refl (fun g => g = B) w) rfl u
theorem MkAt.below {w w' : World} {base B : Nat} {M : Mkr} {ov cv uv tv : Value} (h : MkAt w base B M ov cv uv tv) (hb : Below w.heap.size w w') : MkAt w' base B M ov cv uv tv :=
 ⟨(hb.block _ (lt_of_heapN h.box)).trans h.box, h.lo, own_below h.ops hb, own_below h.cols hb, own_below h.outs hb, own_below h.tr hb⟩
theorem MkAt.setBad {w : World} {base B : Nat} {M : Mkr} {ov cv uv tv : Value} (h : MkAt w base B M ov cv uv tv) (b : Bool) : MkAt (w.setCell ⟨B, 4, none⟩ (.bool b)) base B { M with bad := b } ov cv uv tv := by
 have K := KeepS.set1 w B 4 (.bool b)
 refine ⟨block_setCell h.box _, h.lo, own_keepF h.ops K (fun g e e2 => ?_), own_keepF h.cols K (fun g e e2 => ?_), own_keepF h.outs K (fun g e e2 => ?_), own_keepF h.tr K (fun g e e2 => ?_)⟩
 · subst e2; exact own_box h.ops h.box (by decide) e
 · subst e2; exact own_box h.cols h.box (by decide) e
 · subst e2; exact own_box h.outs h.box (by decide) e
 · subst e2; exact own_box h.tr h.box (by decide) e
theorem MkAt.pushOps {w W2 w5 : World} {base B : Nat} {M : Mkr} {ov cv uv tv v5 : Value} {o : FO} (h : MkAt w base B M ov cv uv tv) (hb : Below w.heap.size w W2) (hg : W2.grownBy w5 ov.ownBlock) (hown : w5.ownsRow base 75 4 v5 (M.ops.length + 1) (flatFo M.ops ++ flatFo [o])) :
  w5.heap[B]? = some (.cells #[ov, cv, uv, tv, .bool M.bad] 49) ∧ MkAt (w5.setCell ⟨B, 0, none⟩ v5) base B { M with ops := M.ops ++ [o] } v5 cv uv tv ∧ KeepS (fun g => g = B ∨ ov.ownBlock = some g) w (w5.setCell ⟨B, 0, none⟩ v5) := by
 have h2 := h.below hb
 have K5 : KeepS (fun g => some g = ov.ownBlock) W2 w5 := ⟨hg.os, hg.tape, hg.output, hg.size, fun k hk hn => hg.block k hk hn⟩
 have hB5 : w5.heap[B]? = some (.cells #[ov, cv, uv, tv, .bool M.bad] 49) := (K5.block _ (lt_of_heapN h2.box) (fun e => own_box h2.ops h2.box (by decide) e.symm)).trans h2.box
 have K6 := KeepS.set1 w5 B 0 v5
 have far : ∀ {e : TypeId} {s : Nat} {v : Value} {n : Nat} {x : List Value}, w5.ownsRow base e s v n x → e ≠ 49 → (w5.setCell ⟨B, 0, none⟩ v5).ownsRow base e s v n x := fun hr he => own_keepF hr K6 (fun g e1 e2 => by subst e2; exact own_box hr hB5 he e1)
 have near : ∀ {e : TypeId} {s : Nat} {v : Value} {n : Nat} {x : List Value}, W2.ownsRow base e s v n x → e ≠ 75 → w5.ownsRow base e s v n x := fun hr he => own_keepF hr K5 (fun g e1 e2 => by
  rcases own_apartF hr h2.ops he with e3 | e3
  · rw [e3] at e1; cases e1
  · exact e3 (e1.trans e2))
 refine ⟨hB5, ⟨block_setCell hB5 _, h.lo, ?_, far (near h2.cols (by decide)) (by decide), far (near h2.outs (by decide)) (by decide), far (near h2.tr (by decide)) (by decide)⟩, ?_⟩
 · have := far hown (by decide)
  rw [← flatFo_append] at this
  rw [List.length_append]
  exact this
 · exact ((KeepS.ofBelow hb).trans (K5.mono fun g e => .inr e.symm)).trans (K6.mono fun g e => .inl e)
theorem MkAt.pushTr {w W2 w5 : World} {base B : Nat} {M : Mkr} {ov cv uv tv v5 : Value} {t : Bool} (h : MkAt w base B M ov cv uv tv) (hb : Below w.heap.size w W2) (hg : W2.grownBy w5 tv.ownBlock) (hown : w5.ownsRow base 4 1 v5 (M.tr.length + 1) (boolV M.tr ++ [.bool t])) :
  w5.heap[B]? = some (.cells #[ov, cv, uv, tv, .bool M.bad] 49) ∧ MkAt (w5.setCell ⟨B, 3, none⟩ v5) base B { M with tr := M.tr ++ [t] } ov cv uv v5 ∧ KeepS (fun g => g = B ∨ tv.ownBlock = some g) w (w5.setCell ⟨B, 3, none⟩ v5) := by
 have h2 := h.below hb
 have K5 : KeepS (fun g => some g = tv.ownBlock) W2 w5 := ⟨hg.os, hg.tape, hg.output, hg.size, fun k hk hn => hg.block k hk hn⟩
 have hB5 : w5.heap[B]? = some (.cells #[ov, cv, uv, tv, .bool M.bad] 49) := (K5.block _ (lt_of_heapN h2.box) (fun e => own_box h2.tr h2.box (by decide) e.symm)).trans h2.box
 have K6 := KeepS.set1 w5 B 3 v5
 have far : ∀ {e : TypeId} {s : Nat} {v : Value} {n : Nat} {x : List Value}, w5.ownsRow base e s v n x → e ≠ 49 → (w5.setCell ⟨B, 3, none⟩ v5).ownsRow base e s v n x := fun hr he => own_keepF hr K6 (fun g e1 e2 => by subst e2; exact own_box hr hB5 he e1)
 have near : ∀ {e : TypeId} {s : Nat} {v : Value} {n : Nat} {x : List Value}, W2.ownsRow base e s v n x → e ≠ 4 → w5.ownsRow base e s v n x := fun hr he => own_keepF hr K5 (fun g e1 e2 => by
  rcases own_apartF hr h2.tr he with e3 | e3
  · rw [e3] at e1; cases e1
  · exact e3 (e1.trans e2))
 refine ⟨hB5, ⟨block_setCell hB5 _, h.lo, far (near h2.ops (by decide)) (by decide), far (near h2.cols (by decide)) (by decide), far (near h2.outs (by decide)) (by decide), ?_⟩, ?_⟩
 · have := far hown (by decide)
  rw [← boolV_snoc] at this
  rw [List.length_append]
  exact this
 · exact ((KeepS.ofBelow hb).trans (K5.mono fun g e => .inr e.symm)).trans (K6.mono fun g e => .inl e)
def NewOut (w : World) (base B : Nat) (M : Mkr) (o : FO) (t : Bool) (ov cv uv tv : Value) (e : Ending) (w' : World) : Prop :=
 ∃ ov' tv', e = .returned (.int .i64 (newM M o t).1) ∧ MkAt w' base B (newM M o t).2 ov' cv uv tv' ∧ KeepS (mkBlk B ov tv) w w'
set_option maxRecDepth 100000 in
set_option maxHeartbeats 4000000 in
theorem new_spec (B base : Nat) (M : Mkr) (kd tg a b : Int) (t : Bool) (ov cv uv tv : Value) (w : World) (h : MkAt w base B M ov cv uv tv) (hm : M.ops.length ≤ 1048576) (hm2 : M.tr.length ≤ 30) :
  Calls Tryz.prog 74 #[.pointer (some ⟨B, 0, none⟩), .agg #[.int .i64 kd, .int .i64 tg, .int .i64 a, .int .i64 b], .bool t] w (NewOut w base B M (kd, tg, a, b) t ov cv uv tv) := by
 have H := hid h
 obtain ⟨p0, p1, p2, p3, p4⟩ := cells5 h.box
 have f4 := frozen5 h.box 4
 have f0 := frozen5 h.box 0
 have f3 := frozen5 h.box 3
 obtain ⟨ta, tc, rfl⟩ : ∃ ta tc, tv = .slice ta M.tr.length tc := by
  rcases h.tr.2 with ⟨e, e2⟩ | ⟨g, c, cur, e, _⟩
  · exact ⟨none, 0, by rw [e, e2]⟩
  · exact ⟨_, _, e⟩
 clear h
 have hBw : B < w.heap.size := lt_of_heapN H.out.box
 by_cases h30 : M.tr.length = 30
 case pos =>
  have HN := hid (p := newM M (kd, tg, a, b) t = (0, { M with bad := true })) (by unfold newM; rw [if_pos h30])
  go_enter Tryz.func74, Tryz.ntmps74
  go_wp2
  go_ret
  refine ⟨ov, .slice ta M.tr.length tc, by rw [HN.out]; first | rfl | (rw [h30]; rfl), ?_, ?_⟩
  · rw [HN.out]; exact (H.out.setBad true).below ((Below.refl _ _).alloc (Nat.le_refl _) _)
  · exact (KeepS.set1 w B 4 (.bool true)).mono (fun g e => .inl e) |>.trans (KeepS.ofBelow ((Below.refl _ _).alloc (Nat.le_refl _) _))
 have HN := hid (p := newM M (kd, tg, a, b) t = ((M.tr.length : Int), { M with ops := M.ops ++ [(kd, (M.tr.length : Int), a, b)], tr := M.tr ++ [t] })) (by unfold newM; rw [if_neg h30])
 have hne30 : ((M.tr.length : Int) == 30) = false := by simp; omega
 obtain ⟨i0, hti, hz0, hz1, hz2⟩ := info_parts infoFoN
 obtain ⟨i1, htj, hy0, hy1, hy2⟩ := info_parts infoBlN
 generalize hnl : M.tr.length = nl at *
 go_enter Tryz.func74, Tryz.ntmps74
 have hlo := H.out.lo
 have hM : M.tr.length = nl := hnl
 go_wp2_with fail
 obtain ⟨V, hV⟩ : ∃ V, V = w.alloc (.cells #[.int .i64 kd, .int .i64 nl, .int .i64 a, .int .i64 b] 75) := ⟨_, rfl⟩
 obtain ⟨ob, hob⟩ : ∃ z, z = w.heap.size := ⟨_, rfl⟩
 have hbV : Below w.heap.size w V := by rw [hV]; exact (Below.refl _ _).alloc (Nat.le_refl _) _
 have HOB := hid (p := V.heap[ob]? = some (.cells #[.int .i64 kd, .int .i64 nl, .int .i64 a, .int .i64 b] 75)) (by rw [hV, hob]; exact _root_.Go.heap_alloc_new w _)
 have hoV : ob < V.heap.size := lt_of_heapN HOB.out
 have hBV : B < V.heap.size := Nat.lt_of_lt_of_le hBw hbV.size
 have hoB : ob ≠ B := by omega
 have hov : ov.ownBlock ≠ some ob := fun e => by have := (H.out.ops.lt _ e).2; omega
 have MV := hid (H.out.below hbV)
 rw [← hV, ← hob]
 clear p0 p1 p2 p3 p4 f4 f0 f3 hV hob
 obtain ⟨r0, _, _, _, _⟩ := cells5 MV.out.box
 obtain ⟨s0, s1, s2, s3⟩ := cells4 HOB.out
 refine wp_region_until (z := 10) (S := (fun w' => w'.cell? ⟨B, 0, none⟩ = some ov ∧ w'.cell? ⟨ob, 0, none⟩ = some (.int .i64 kd) ∧ w'.cell? ⟨ob, 1, none⟩ = some (.int .i64 nl) ∧ w'.cell? ⟨ob, 2, none⟩ = some (.int .i64 a) ∧ w'.cell? ⟨ob, 3, none⟩ = some (.int .i64 b))) (by kernel_rfl) ⟨r0, s0, s1, s2, s3⟩ (fun hHeld => ?_)
 refine wpAnyU_take (i := 0) (by simp only [List.getElem?_toArray, List.getElem?_cons_zero]; rfl) (by kernel_rfl) (by kernel_rfl) (by kernel_rfl) (by kernel_rfl) (by intro _ _ _ h; exact h) (Or.inl ⟨by rfl, fun w hSw => by (dsimp only at hSw; go_simp; (try with_reducible rfl))⟩) (by assumption) ?_
 simp only [Act.put, ptT, ptZ, ptS]
 refine wpAnyU_take (i := 1) (by simp only [List.getElem?_toArray, List.getElem?_cons_zero, List.getElem?_cons_succ]; rfl) (by kernel_rfl) (by kernel_rfl) (by kernel_rfl) (by kernel_rfl) (by intro _ _ _ h; exact h) (Or.inl ⟨by rfl, fun w hSw => by (dsimp only at hSw; go_simp; (try with_reducible rfl))⟩) (by assumption) ?_
 simp only [Act.put, ptT, ptZ, ptS]
 refine wpAnyU_take (i := 2) (by simp only [List.getElem?_toArray, List.getElem?_cons_zero, List.getElem?_cons_succ]; rfl) (by kernel_rfl) (by kernel_rfl) (by kernel_rfl) (by kernel_rfl) (by intro _ _ _ h; exact h) (Or.inl ⟨by rfl, fun w hSw => by (dsimp only at hSw; go_simp; (try with_reducible rfl))⟩) (by assumption) ?_
 simp only [Act.put, ptT, ptZ, ptS]
 refine wpAnyU_take (i := 3) (by simp only [List.getElem?_toArray, List.getElem?_cons_zero, List.getElem?_cons_succ]; rfl) (by kernel_rfl) (by kernel_rfl) (by kernel_rfl) (by kernel_rfl) (by intro _ _ _ h; exact h) (Or.inl ⟨by rfl, fun w hSw => by (dsimp only at hSw; go_simp; (try with_reducible rfl))⟩) (by assumption) ?_
 simp only [Act.put, ptT, ptZ, ptS]
 refine wpAnyU_take (i := 4) (by simp only [List.getElem?_toArray, List.getElem?_cons_zero, List.getElem?_cons_succ]; rfl) (by kernel_rfl) (by kernel_rfl) (by kernel_rfl) (by kernel_rfl) (by intro _ _ _ h; exact h) (Or.inl ⟨by rfl, fun w hSw => by (dsimp only at hSw; go_simp; (try with_reducible rfl))⟩) (by assumption) ?_
 simp only [Act.put, ptT, ptZ, ptS]
 refine wpAnyU_take (i := 5) (by simp only [List.getElem?_toArray, List.getElem?_cons_zero, List.getElem?_cons_succ]; rfl) (by kernel_rfl) (by kernel_rfl) (by kernel_rfl) (by kernel_rfl) (by intro _ _ _ h; exact h) (Or.inl ⟨by rfl, fun w hSw => by (dsimp only at hSw; go_simp; (try with_reducible rfl))⟩) (by assumption) ?_
 simp only [Act.put, ptT, ptZ, ptS]
 refine wpAnyU_one (i := 6) (by kernel_rfl) (by simp only [List.getElem?_toArray, List.getElem?_cons_zero, List.getElem?_cons_succ]; rfl) ?_
 intro K hK
 go_simp
 refine hK.out _ _ ?_ (fun hHeld => ?_)
 · (((try dsimp only); (repeat' apply And.intro) <;> first | (go_keep; done) | (simp (disch := first | omega | (simp <;> omega) | fail) [*]; done) | fail))
 clear hK K
 try simp only [Act.put, ptT, ptZ, ptS]
 refine wpAnyU_one (i := 7) (by kernel_rfl) (by simp only [List.getElem?_toArray, List.getElem?_cons_zero, List.getElem?_cons_succ]; rfl) ?_
 intro K hK
 rw [if_pos (by rfl)]
 refine wp_append_own _ _ _ 26 rfl base 75 i0 (.agg #[.int .i64 0, .int .i64 0, .int .i64 0, .int .i64 0]) 4 32 Tryz.underlying26 hti hz0 hz1 hz2 rfl (by decide) ov M.ops.length (flatFo M.ops) rfl ((H.out.below hbV.drew).ops.alloc _) ⟨V.heap.size, 0, none⟩ 1 1 [.int .i64 kd, .int .i64 nl, .int .i64 a, .int .i64 b] rfl rfl (cells4N V.drew _ _ _ _ _) (by intro u hu; simp at hu; rcases hu with rfl | rfl | rfl | rfl <;> rfl) (by unfold maxLen; omega) (by omega) (by have := hbV.size; simp; omega) ?_
 intro v5 w5 own5 hgrow hnn
 obtain ⟨a5, n5, c5, rfl⟩ : ∃ a n c, v5 = .slice a n c := by
  rcases own5.2 with ⟨e, _⟩ | ⟨g, c, cur, e, _⟩
  · exact ⟨_, _, _, e⟩
  · exact ⟨_, _, _, e⟩
 have hbW := (hbV.alloc hbV.size (.cells #[.int .i64 kd, .int .i64 nl, .int .i64 a, .int .i64 b] 75)).drew
 have hbW2 := ((Below.refl V.heap.size V).alloc (Nat.le_refl _) (.cells #[.int .i64 kd, .int .i64 nl, .int .i64 a, .int .i64 b] 75)).drew
 obtain ⟨hB5, M6, K6⟩ := H.out.pushOps (o := (kd, (nl : Int), a, b)) hbW hgrow own5
 have HO5 : w5.heap[ob]? = some (.cells #[.int .i64 kd, .int .i64 nl, .int .i64 a, .int .i64 b] 75) := (hgrow.block ob (Nat.lt_of_lt_of_le hoV hbW2.size) (fun e => hov e.symm)).trans ((hbW2.block _ hoV).trans HOB.out)
 obtain ⟨q0, _, _, _, _⟩ := cells5 hB5
 obtain ⟨t0, t1, t2, t3⟩ := cells4 HO5
 have g0 := frozen5 hB5 0
 clear hgrow own5 hnn r0 s0 s1 s2 s3 hbW hbW2
 refine hK.out _ _ ⟨q0, t0, t1, t2, t3⟩ (fun hHeld => ?_)
 clear hK K
 try simp only [Act.put, ptT, ptZ, ptS]
 refine wpAnyU_one (i := 8) (by kernel_rfl) (by simp only [List.getElem?_toArray, List.getElem?_cons_zero, List.getElem?_cons_succ]; rfl) ?_
 intro K hK
 go_simp
 refine hK.out _ _ ⟨q0, t0, t1, t2, t3⟩ (fun hHeld => ?_)
 clear hK K
 try simp only [Act.put, ptT, ptZ, ptS]
 refine wpAnyU_take (i := 9) (by simp only [List.getElem?_toArray, List.getElem?_cons_zero, List.getElem?_cons_succ]; rfl) (by kernel_rfl) (by kernel_rfl) (by kernel_rfl) (by kernel_rfl) (by intro _ _ _ h; exact h) (Or.inl ⟨by rfl, fun w hSw => by (dsimp only at hSw; go_simp; (try with_reducible rfl))⟩) (by assumption) ?_
 simp only [Act.put, ptT, ptZ, ptS]
 refine wpAnyU_last (by kernel_rfl) (by simp only [List.getElem?_toArray, List.getElem?_cons_zero, List.getElem?_cons_succ]; rfl) ?_
 intro K hK
 go_simp
 refine hK.out _ _ ?_
 clear hK K
 try simp only [Act.put, ptT, ptZ, ptS]
 refine wpAnyU_done (by kernel_rfl) ?_ _
 obtain ⟨w6, hw6⟩ : ∃ z, z = w5.setCell ⟨B, 0, none⟩ (.slice a5 n5 c5) := ⟨_, rfl⟩
 rw [← hw6] at M6 K6 ⊢
 have hB6 := M6.box
 obtain ⟨y0, y1, y2, y3, y4⟩ := cells5 hB6
 have OT6 : w6.ownsRow base 4 1 (.slice ta nl tc) nl (boolV M.tr) := by
  have h : w6.ownsRow base 4 1 (.slice ta nl tc) M.tr.length (boolV M.tr) := M6.tr
  rw [hM] at h
  exact h
 have hb6 := lt_of_heapN hB6
 clear hw6 q0 t0 t1 t2 t3 g0 hHeld hB5 HO5
 go_wp2_with (at_builtin; refine wpList_append_own_at _ rfl _ _ 47 rfl base 4 i1 (.bool false) 1 1 Tryz.underlying47 htj hy0 hy1 hy2 rfl (by decide) _ _ _ rfl (OT6.alloc _) ⟨w6.heap.size, 0, none⟩ 1 1 [.bool t] rfl rfl (cells1N w6 _ _) (by intro u hu; simp at hu; subst hu; rfl) (by unfold maxLen; omega) (by omega) (by simp; omega) ?_)
 intro v8 w8 own8 hgrow8 hnn8 hloc8
 obtain ⟨a8, n8, c8, rfl⟩ : ∃ a n c, v8 = .slice a n c := by
  rcases own8.2 with ⟨e, _⟩ | ⟨g, c, cur, e, _⟩
  · exact ⟨_, _, _, e⟩
  · exact ⟨_, _, _, e⟩
 obtain ⟨hB8, M9, K9⟩ := M6.pushTr (t := t) ((Below.refl _ _).alloc (Nat.le_refl _) (.cells #[.bool t] 4)) hgrow8 (by show w8.ownsRow base 4 1 (.slice a8 n8 c8) (M.tr.length + 1) _; rw [hM]; exact own8)
 obtain ⟨z0, z1, z2, z3, z4⟩ := cells5 hB8
 have g8 := frozen5 hB8 3
 clear hgrow8 own8 hnn8 hloc8
 go_wp2
 go_ret
 exact ⟨.slice a5 n5 c5, .slice a8 n8 c8, by rw [HN.out]; rfl, by rw [HN.out]; exact M9, (K6.mono fun g e => e.elim .inl fun e => .inr (.inl e)).trans (K9.mono fun g e => e.elim .inl fun e => .inr (.inr e))⟩
end Go.Proofs.YtjjkdbmjloolaaaGreatDoor
namespace Go.Proofs.YtjjkdbmjloolaaaGreatDoor
def isDig (c : UInt8) : Bool := decide (48 ≤ c.toNat) && decide (c.toNat ≤ 57)
def valFrom (acc : Nat) : List UInt8 → Nat
 | [] => acc
 | c :: r => valFrom (acc * 10 + (c.toNat - 48)) r
theorem valFrom_nil (acc : Nat) : valFrom acc [] = acc := rfl
theorem valFrom_one (acc : Nat) (c : UInt8) : valFrom acc [c] = acc * 10 + (c.toNat - 48) := rfl
theorem valFrom_append (l m : List UInt8) (acc : Nat) : valFrom acc (l ++ m) = valFrom (valFrom acc l) m := by
 induction l generalizing acc with
 | nil => rfl
 | cons c l ih => exact ih _
theorem valFrom_snoc (l : List UInt8) (c : UInt8) (acc : Nat) : valFrom acc (l ++ [c]) = valFrom acc l * 10 + (c.toNat - 48) := by rw [valFrom_append]; rfl
theorem valFrom_mono (l : List UInt8) (acc : Nat) : acc ≤ valFrom acc l := by
 induction l generalizing acc with
 | nil => exact Nat.le_refl _
 | cons c l ih => exact Nat.le_trans (by omega) (ih _)
theorem dig_of (c : UInt8) (h : isDig c = true) : UInt8.ofNat (48 + (c.toNat - 48)) = c := by
 unfold isDig at h
 simp at h
 rw [show 48 + (c.toNat - 48) = c.toNat by omega]
 simp
theorem dig_toNat (u : Nat) (h : u < 10) : (UInt8.ofNat (48 + u)).toNat = 48 + u := by
 rw [UInt8.toNat_ofNat_of_lt']
 exact Nat.lt_of_lt_of_le (show 48 + u < 58 by omega) (by decide)
theorem isDig_of (u : Nat) (h : u < 10) : isDig (UInt8.ofNat (48 + u)) = true := by
 unfold isDig; rw [dig_toNat u h]; simp; omega
def Plain (l : List UInt8) : Prop := l ≠ [] ∧ (∀ c ∈ l, isDig c = true) ∧ (l.head? = some 48 → l.length = 1)
theorem Plain.pos {l : List UInt8} (h : Plain l) (h1 : l.length ≠ 1) : 1 ≤ valFrom 0 l := by
 obtain ⟨h0, hd, hh⟩ := h
 cases l with
 | nil => exact absurd rfl h0
 | cons c r =>
  have hc := hd c (by simp)
  have : c ≠ 48 := fun e => h1 (hh (by simp [e]))
  have h48 : c.toNat ≠ 48 := fun e => this (UInt8.toNat_inj.1 (by simpa using e))
  unfold isDig at hc
  simp at hc
  exact Nat.le_trans (by omega) (valFrom_mono r _)
theorem decDigits_val : ∀ (n : Nat) (l : List UInt8), l.length = n → Plain l → Lib.decDigits (valFrom 0 l) = l := by
 intro n
 induction n with
 | zero => intro l hl h; exact absurd (List.length_eq_zero_iff.1 hl) h.1
 | succ n ih =>
  intro l hl h
  rcases List.eq_nil_or_concat l with rfl | ⟨r, c, hr⟩
  · exact absurd rfl h.1
  · have hr : l = r ++ [c] := by rw [hr, List.concat_eq_append]
   subst hr
   have hc := h.2.1 c (by simp)
   have hc2 := hc
   unfold isDig at hc2
   simp at hc2
   rw [valFrom_snoc]
   cases r with
   | nil =>
    rw [valFrom_nil, show 0 * 10 + (c.toNat - 48) = c.toNat - 48 by omega, Lib.decDigits_one (by omega), dig_of c hc]
    rfl
   | cons d r =>
    have P : Plain (d :: r) := ⟨by simp, fun x hx => h.2.1 x (by simp at hx ⊢; rcases hx with h | h <;> simp [h]), fun e => by
     have := h.2.2 (by simpa using e)
     simp at this⟩
    have hne : d ≠ 48 := fun e => by
     have := h.2.2 (by simp [e])
     simp at this
    have hpos : 1 ≤ valFrom 0 (d :: r) := by
     by_cases h1 : (d :: r).length = 1
     · have : r = [] := by simpa using h1
      subst this
      have hd := P.2.1 d (by simp)
      unfold isDig at hd
      simp at hd
      have h48 : d.toNat ≠ 48 := fun e => hne (UInt8.toNat_inj.1 (by simpa using e))
      rw [valFrom_one]; omega
     · exact P.pos h1
    have hIH := ih (d :: r) (by simp at hl ⊢; omega) P
    rw [Lib.decDigits, dif_neg (by omega), show (valFrom 0 (d :: r) * 10 + (c.toNat - 48)) / 10 = valFrom 0 (d :: r) by omega, hIH,
     show (valFrom 0 (d :: r) * 10 + (c.toNat - 48)) % 10 = c.toNat - 48 by omega, dig_of c hc]
theorem decDigits_plain (u : Nat) : valFrom 0 (Lib.decDigits u) = u ∧ Plain (Lib.decDigits u) ∧ (Lib.decDigits u).head? ≠ none := by
 induction u using Nat.strongRecOn with
 | _ u ih =>
  by_cases h : u < 10
  · rw [Lib.decDigits_one h]
   refine ⟨?_, ⟨by simp, ?_, fun _ => rfl⟩, by simp⟩
   · rw [valFrom_one, dig_toNat u h]; omega
   · intro c hc; rw [List.mem_singleton] at hc; subst hc; exact isDig_of u h
  · obtain ⟨h1, h2, h3⟩ := ih (u / 10) (by omega)
   rw [Lib.decDigits, dif_neg h]
   have hm : u % 10 < 10 := by omega
   refine ⟨?_, ⟨by simp, ?_, ?_⟩, ?_⟩
   · rw [valFrom_snoc, h1, dig_toNat _ hm]; omega
   · intro c hc
    rcases List.mem_append.1 hc with h | h
    · exact h2.2.1 c h
    · rw [List.mem_singleton] at h; subst h; exact isDig_of _ hm
   · intro e
    exfalso
    cases hD : Lib.decDigits (u / 10) with
    | nil => exact h2.1 hD
    | cons d r =>
     rw [hD] at e h1 h2
     have e48 : d = 48 := by simpa using e
     have hl := h2.2.2 (by simp [e48])
     have : r = [] := by simpa using hl
     subst this
     rw [e48] at h1
     have : u / 10 = 0 := by rw [← h1]; rfl
     omega
   · simp
theorem decDigits_len (u : Nat) (h : u < 10000000000) : (Lib.decDigits u).length ≤ 10 := by
 rw [Lib.decDigits_length]
 have : ∀ (k v : Nat), v < 10 ^ (k + 1) → Lib.nDigits v ≤ k + 1 := by
  intro k
  induction k with
  | zero => intro v hv; rw [Lib.nDigits_small (by simpa using hv)]; omega
  | succ k ih =>
   intro v hv
   by_cases h10 : v < 10
   · rw [Lib.nDigits_small h10]; omega
   · rw [Lib.nDigits_big h10]
    have := ih (v / 10) (by rw [Nat.pow_succ] at hv; omega)
    omega
 exact this 9 u (by simpa using h)
theorem parseUintM_val (l : List UInt8) (acc : Nat) (hd : ∀ c ∈ l, isDig c = true) (hv : valFrom acc l ≤ 18446744073709551615) : Lib.parseUintM 18446744073709551615 acc l = .ok (valFrom acc l) := by
 induction l generalizing acc with
 | nil => rfl
 | cons c r ih =>
  have hc := hd c (by simp)
  unfold isDig at hc
  simp at hc
  have hm := valFrom_mono r (acc * 10 + (c.toNat - 48))
  have hv' : valFrom (acc * 10 + (c.toNat - 48)) r ≤ 18446744073709551615 := hv
  rw [Lib.parseUintM, if_pos hc, if_neg (by omega), if_neg (by omega), ih _ (fun x hx => hd x (by simp [hx])) hv']
  rfl
theorem itoa_nonneg (n : Int) (h : 0 ≤ n) : Lib.itoa n = Lib.decDigits n.toNat := by unfold Lib.itoa; rw [if_neg (by omega)]
theorem itoa_neg (n : Int) (h : n < 0) : Lib.itoa n = 45 :: Lib.decDigits n.natAbs := by unfold Lib.itoa; rw [if_pos h]
theorem parse_itoa (n : Int) (h0 : -1000000000 ≤ n) (h1 : n ≤ 1000000000) : Lib.parseIntB 64 (Lib.itoa n) = .ok n := by
 have key : ∀ u : Nat, u ≤ 1000000000 → Lib.parseUintB 64 (Lib.decDigits u) = .ok u := by
  intro u hu
  obtain ⟨v, p, _⟩ := decDigits_plain u
  unfold Lib.parseUintB
  rw [if_neg p.1]
  have := parseUintM_val (Lib.decDigits u) 0 p.2.1 (by omega)
  rw [v] at this
  simpa using this
 by_cases hn : n < 0
 · rw [itoa_neg n hn]
  unfold Lib.parseIntB
  simp only []
  rw [if_pos (by decide), key n.natAbs (by omega)]
  simp only []
  rw [if_neg (by simp), if_neg (by simp; omega), if_pos (by decide)]
  congr 1; omega
 · rw [itoa_nonneg n (by omega)]
  obtain ⟨v, p, _⟩ := decDigits_plain n.toNat
  have k := key n.toNat (by omega)
  cases hD : Lib.decDigits n.toNat with
  | nil => exact absurd hD p.1
  | cons c r =>
   rw [hD] at k p
   have hc := p.2.1 c (by simp)
   unfold isDig at hc
   simp at hc
   unfold Lib.parseIntB
   simp only []
   rw [if_neg (by omega), k]
   simp only []
   rw [if_neg (by simp; omega), if_neg (by simp; omega), if_neg (by omega)]
   congr 1; omega
def readMost (l : List UInt8) : Option Int :=
 let neg : Bool := decide (l.head? = some 45)
 let r := if neg = true then l.drop 1 else l
 if r.length < 1 ∨ 10 < r.length then none
 else if r.all isDig = true then
  if r.head? = some 48 ∧ (neg = true ∨ 1 < l.length) then none
  else some (if neg = true then -(valFrom 0 r : Int) else valFrom 0 r)
 else none
theorem readMost_itoa (n : Int) (h0 : -9999999999 ≤ n) (h1 : n ≤ 9999999999) : readMost (Lib.itoa n) = some n := by
 by_cases hn : n < 0
 · obtain ⟨v, p, _⟩ := decDigits_plain n.natAbs
  have hl := decDigits_len n.natAbs (by omega)
  have hp : (Lib.decDigits n.natAbs).length ≠ 0 := fun e => p.1 (List.length_eq_zero_iff.1 e)
  rw [itoa_neg n hn]
  unfold readMost
  simp only [List.head?_cons, decide_true, if_true, List.drop_succ_cons, List.drop_zero]
  rw [if_neg (by omega), if_pos (List.all_eq_true.2 p.2.1), if_neg, v]
  · congr 1; omega
  · rintro ⟨e, _⟩
   have h1 := p.2.2 e
   cases hD : Lib.decDigits n.natAbs with
   | nil => exact p.1 hD
   | cons c r =>
    rw [hD] at e h1 v
    have e' : c = 48 := by simpa using e
    have : r = [] := by simpa using h1
    subst this e'
    have : n.natAbs = 0 := by rw [← v]; rfl
    omega
 · obtain ⟨v, p, _⟩ := decDigits_plain n.toNat
  have hl := decDigits_len n.toNat (by omega)
  have hp : (Lib.decDigits n.toNat).length ≠ 0 := fun e => p.1 (List.length_eq_zero_iff.1 e)
  rw [itoa_nonneg n (by omega)]
  have hh : ¬ (Lib.decDigits n.toNat).head? = some 45 := by
   intro e
   cases hD : Lib.decDigits n.toNat with
   | nil => exact p.1 hD
   | cons c r =>
    rw [hD] at e p
    have e' : c = 45 := by simpa using e
    have := p.2.1 c (by simp)
    subst e'
    exact absurd this (by decide)
  unfold readMost
  simp only [hh, decide_false, Bool.false_eq_true, if_false, false_or]
  rw [if_neg (by omega), if_pos (List.all_eq_true.2 p.2.1), if_neg, v]
  · congr 1; omega
  · rintro ⟨e, h⟩
   have := p.2.2 e
   omega
theorem readMost_some {l : List UInt8} {n : Int} (h : readMost l = some n) : l = Lib.itoa n := by
 unfold readMost at h
 by_cases hh : l.head? = some 45
 · simp only [hh, decide_true, if_true] at h
  split at h
  · cases h
  · rename_i hlen
   split at h
   · rename_i hd
    split at h
    · cases h
    · rename_i h48
     injection h with h
     cases l with
     | nil => simp at hh
     | cons c r =>
      have e : c = 45 := by simpa using hh
      subst e
      simp only [List.drop_succ_cons, List.drop_zero] at *
      have P : Plain r := ⟨fun e => by subst e; simp at hlen, List.all_eq_true.1 hd, fun e => absurd ⟨e, .inl trivial⟩ h48⟩
      have hpos : 1 ≤ valFrom 0 r := by
       by_cases h1 : r.length = 1
       · cases r with
        | nil => exact absurd rfl P.1
        | cons d r =>
         have : r = [] := by simpa using h1
         subst this
         have hd' := P.2.1 d (by simp)
         unfold isDig at hd'
         simp at hd'
         have hne : d ≠ 48 := fun e => h48 ⟨by simp [e], .inl trivial⟩
         have : d.toNat ≠ 48 := fun e => hne (UInt8.toNat_inj.1 (by simpa using e))
         rw [valFrom_one]; omega
       · exact P.pos h1
      rw [itoa_neg n (by omega), show n.natAbs = valFrom 0 r by omega, decDigits_val _ r rfl P]
   · cases h
 · simp only [hh, decide_false, Bool.false_eq_true, if_false, false_or] at h
  split at h
  · cases h
  · rename_i hlen
   split at h
   · rename_i hd
    split at h
    · cases h
    · rename_i h48
     injection h with h
     have P : Plain l := ⟨fun e => by subst e; simp at hlen, List.all_eq_true.1 hd, fun e => by
      by_cases h1 : 1 < l.length
      · exact absurd ⟨e, h1⟩ h48
      · omega⟩
     rw [itoa_nonneg n (by omega), show n.toNat = valFrom 0 l by omega, decDigits_val _ l rfl P]
   · cases h
end Go.Proofs.YtjjkdbmjloolaaaGreatDoor
