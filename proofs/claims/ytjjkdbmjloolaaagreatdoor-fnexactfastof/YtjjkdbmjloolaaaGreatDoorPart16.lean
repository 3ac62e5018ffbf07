/-
  A part of the proof: FkNew.
-/
import Derived.Test.YtjjkdbmjloolaaaGreatDoorPart15

namespace Go.Proofs.YtjjkdbmjloolaaaGreatDoor
open Go.ChangeShapes Go.WideShapes Go.ChangeAt Go.RowKit Go.Joins
attribute [local go_sem ↓] Go.wp_at_zero Go.wp_at_succ
attribute [local simp] World.cell?_alloc_past World.cell?_alloc_at World.frozen?_alloc_at cell_far cell_off cell_here World.frozen?_alloc_past
structure ColsAt (w : World) (base : Nat) (cv : Value) (C : List ByteArray) : Prop where
 at' : ∃ ca cc, cv = .slice ca C.length cc ∧ StrsAt w ca C ∧ (ca = none → cc = 0) ∧ C.length ≤ cc ∧ ∀ g o, ca = some ⟨g, o, none⟩ → 0 < C.length → g < w.heap.size ∧ (g < base ∨ ∃ cs, w.heap[g]? = some (.cells cs 9))
structure MkI (w : World) (base B : Nat) (M : Mkr) (cv uv ov : Value) : Prop where
 box : w.heap[B]? = some (.cells #[cv, uv, ov, .int .i64 M.tr.length] 59)
 lo : base ≤ B
 cols : ColsAt w base cv M.cols
 outs : w.ownsRow base 51 3 uv M.outs.length (flatFu M.outs)
 ops : w.ownsRow base 75 4 ov M.ops.length (flatFo M.ops)
def fuV (u : FU) : Value := .agg #[.int .i64 u.1, .int .i64 u.2.1, .bool u.2.2]
theorem ColsAt.below {w w' : World} {base : Nat} {cv : Value} {C : List ByteArray} (h : ColsAt w base cv C) (hb : Below w.heap.size w w') : ColsAt w' base cv C := by
 obtain ⟨ca, cc, h1, h2, h3, h4, h5⟩ := h.at'
 refine ⟨ca, cc, h1, h2.below hb, h3, h4, fun g o e hl => ?_⟩
 obtain ⟨k1, k2⟩ := h5 g o e hl
 refine ⟨Nat.lt_of_lt_of_le k1 hb.size, k2.imp id (fun ⟨cs, hc⟩ => ⟨cs, (hb.block _ k1).trans hc⟩)⟩
theorem MkI.below {w w' : World} {base B : Nat} {M : Mkr} {cv uv ov : Value} (h : MkI w base B M cv uv ov) (hb : Below w.heap.size w w') : MkI w' base B M cv uv ov :=
 ⟨(hb.block _ (lt_of_heapN h.box)).trans h.box, h.lo, h.cols.below hb, own_below h.outs hb, own_below h.ops hb⟩
theorem ColsAt.keepS {P : Nat → Prop} {w w' : World} {base : Nat} {cv : Value} {C : List ByteArray} (h : ColsAt w base cv C) (hk : KeepS P w w') (hP : ∀ g, P g → base ≤ g ∧ ∀ cs, w.heap[g]? ≠ some (.cells cs 9)) : ColsAt w' base cv C := by
 obtain ⟨ca, cc, h1, h2, h3, h4, h5⟩ := h.at'
 have hn : ∀ g o, ca = some ⟨g, o, none⟩ → 0 < C.length → ¬ P g := fun g o e hl hp => by
  obtain ⟨k1, k2⟩ := h5 g o e hl
  obtain ⟨q1, q2⟩ := hP g hp
  rcases k2 with k | ⟨cs, k⟩
  · omega
  · exact q2 cs k
 refine ⟨ca, cc, h1, fun j hj => ?_, h3, h4, fun g o e hl => ?_⟩
 · obtain ⟨g, o, e, hg, hc⟩ := h2 j hj
  exact ⟨g, o, e, Nat.lt_of_lt_of_le hg hk.size, (hk.cell hg (hn g o e (by omega))).trans hc⟩
 · obtain ⟨k1, k2⟩ := h5 g o e hl
  exact ⟨Nat.lt_of_lt_of_le k1 hk.size, k2.imp id (fun ⟨cs, hc⟩ => ⟨cs, (hk.block _ k1 (hn g o e hl)).trans hc⟩)⟩
def mkiBlk (B : Nat) (ov : Value) (g : Nat) : Prop := g = B ∨ ov.ownBlock = some g
theorem MkI.setBox {w : World} {base B i : Nat} {M M' : Mkr} {cv uv ov v : Value} (h : MkI w base B M cv uv ov) {cv' uv' ov' : Value} (hbox : (w.setCell ⟨B, i, none⟩ v).heap[B]? = some (.cells #[cv', uv', ov', .int .i64 M'.tr.length] 59)) (hc : ColsAt w base cv' M'.cols) (hu : w.ownsRow base 51 3 uv' M'.outs.length (flatFu M'.outs)) (ho : w.ownsRow base 75 4 ov' M'.ops.length (flatFo M'.ops)) : MkI (w.setCell ⟨B, i, none⟩ v) base B M' cv' uv' ov' := by
 have K := KeepS.set1 w B i v
 refine ⟨hbox, h.lo, hc.keepS K (fun g e => ?_), own_keepF hu K (fun g e e2 => ?_), own_keepF ho K (fun g e e2 => ?_)⟩
 · subst e
  refine ⟨h.lo, fun cs e2 => ?_⟩
  rw [h.box] at e2
  simp at e2
 · subst e2; exact own_box hu h.box (by decide) e
 · subst e2; exact own_box ho h.box (by decide) e
theorem MkI.setUsed {w : World} {base B : Nat} {M : Mkr} {cv uv ov : Value} (h : MkI w base B M cv uv ov) (t : Bool) : MkI (w.setCell ⟨B, 3, none⟩ (.int .i64 ((M.tr.length : Int) + 1))) base B { M with tr := M.tr ++ [t] } cv uv ov :=
 h.setBox (by
  have e : (((M.tr ++ [t]).length : Nat) : Int) = (M.tr.length : Int) + 1 := by simp
  show _ = some (Obj.cells #[cv, uv, ov, .int .i64 ((M.tr ++ [t]).length : Int)] _)
  rw [e]
  exact block_setCell h.box _) h.cols h.outs h.ops
theorem MkI.grow {w W2 w5 : World} {base B : Nat} {M : Mkr} {cv uv ov vv : Value} {e : TypeId} {s n : Nat} {xs : List Value} (h : MkI w base B M cv uv ov) (hb : Below w.heap.size w W2) (hr : w.ownsRow base e s vv n xs) (hg : W2.grownBy w5 vv.ownBlock) (he : e ≠ 9) : KeepS (fun g => some g = vv.ownBlock) W2 w5 ∧ ColsAt w5 base cv M.cols := by
 have h2 := h.below hb
 have hr2 := own_below hr hb
 have K5 : KeepS (fun g => some g = vv.ownBlock) W2 w5 := ⟨hg.os, hg.tape, hg.output, hg.size, fun k hk hn => hg.block k hk hn⟩
 refine ⟨K5, h2.cols.keepS K5 (fun g e1 => ?_)⟩
 refine ⟨(hr2.lt g e1.symm).1, fun cs e2 => ?_⟩
 rcases hr2.2 with ⟨e3, _⟩ | ⟨g', c, cur, e3, _, hg', _⟩
 · rw [e3] at e1; cases e1
 · rw [e3] at e1
  have e4 : g = g' := Option.some.inj e1
  subst e4
  rw [hg'] at e2
  simp at e2
  exact he e2.2
theorem MkI.pushOps {w W2 w5 : World} {base B : Nat} {M : Mkr} {cv uv ov v5 : Value} {o : FO} (h : MkI w base B M cv uv ov) (hb : Below w.heap.size w W2) (hg : W2.grownBy w5 ov.ownBlock) (hown : w5.ownsRow base 75 4 v5 (M.ops.length + 1) (flatFo M.ops ++ flatFo [o])) :
  w5.heap[B]? = some (.cells #[cv, uv, ov, .int .i64 M.tr.length] 59) ∧ MkI (w5.setCell ⟨B, 2, none⟩ v5) base B { M with ops := M.ops ++ [o] } cv uv v5 ∧ KeepS (fun g => g = B ∨ ov.ownBlock = some g) w (w5.setCell ⟨B, 2, none⟩ v5) := by
 have h2 := h.below hb
 obtain ⟨K5, hC5⟩ := h.grow hb h.ops hg (by decide)
 have hB5 : w5.heap[B]? = some (.cells #[cv, uv, ov, .int .i64 M.tr.length] 59) := (K5.block _ (lt_of_heapN h2.box) (fun e => own_box h2.ops h2.box (by decide) e.symm)).trans h2.box
 have hu5 : w5.ownsRow base 51 3 uv M.outs.length (flatFu M.outs) := own_keepF h2.outs K5 (fun g e1 e2 => by
  rcases own_apartF h2.outs h2.ops (by decide) with e3 | e3
  · rw [e3] at e1; cases e1
  · exact e3 (e1.trans e2))
 refine ⟨hB5, ?_, ((KeepS.ofBelow hb).trans (K5.mono fun g e => .inr e.symm)).trans ((KeepS.set1 w5 B 2 v5).mono fun g e => .inl e)⟩
 have K := KeepS.set1 w5 B 2 v5
 refine ⟨block_setCell hB5 _, h.lo, hC5.keepS K (fun g e => ?_), own_keepF hu5 K (fun g e e2 => ?_), ?_⟩
 · subst e
  refine ⟨h.lo, fun cs e2 => ?_⟩
  rw [hB5] at e2
  simp at e2
 · subst e2; exact own_box hu5 hB5 (by decide) e
 · have h6 := own_keepF hown K (fun g e e2 => by subst e2; exact own_box hown hB5 (by decide) e)
  rw [← flatFo_append] at h6
  show (w5.setCell ⟨B, 2, none⟩ v5).ownsRow base 75 4 v5 (M.ops ++ [o]).length _
  rw [List.length_append]
  exact h6
theorem MkI.pushOuts {w W2 w5 : World} {base B : Nat} {M : Mkr} {cv uv ov v5 : Value} {o : FU} (h : MkI w base B M cv uv ov) (hb : Below w.heap.size w W2) (hg : W2.grownBy w5 uv.ownBlock) (hown : w5.ownsRow base 51 3 v5 (M.outs.length + 1) (flatFu M.outs ++ flatFu [o])) :
  w5.heap[B]? = some (.cells #[cv, uv, ov, .int .i64 M.tr.length] 59) ∧ MkI (w5.setCell ⟨B, 1, none⟩ v5) base B { M with outs := M.outs ++ [o] } cv v5 ov ∧ KeepS (fun g => g = B ∨ uv.ownBlock = some g) w (w5.setCell ⟨B, 1, none⟩ v5) := by
 have h2 := h.below hb
 obtain ⟨K5, hC5⟩ := h.grow hb h.outs hg (by decide)
 have hB5 : w5.heap[B]? = some (.cells #[cv, uv, ov, .int .i64 M.tr.length] 59) := (K5.block _ (lt_of_heapN h2.box) (fun e => own_box h2.outs h2.box (by decide) e.symm)).trans h2.box
 have ho5 : w5.ownsRow base 75 4 ov M.ops.length (flatFo M.ops) := own_keepF h2.ops K5 (fun g e1 e2 => by
  rcases own_apartF h2.ops h2.outs (by decide) with e3 | e3
  · rw [e3] at e1; cases e1
  · exact e3 (e1.trans e2))
 refine ⟨hB5, ?_, ((KeepS.ofBelow hb).trans (K5.mono fun g e => .inr e.symm)).trans ((KeepS.set1 w5 B 1 v5).mono fun g e => .inl e)⟩
 have K := KeepS.set1 w5 B 1 v5
 refine ⟨block_setCell hB5 _, h.lo, hC5.keepS K (fun g e => ?_), ?_, own_keepF ho5 K (fun g e e2 => ?_)⟩
 · subst e
  refine ⟨h.lo, fun cs e2 => ?_⟩
  rw [hB5] at e2
  simp at e2
 · have h6 := own_keepF hown K (fun g e e2 => by subst e2; exact own_box hown hB5 (by decide) e)
  rw [← flatFu_append] at h6
  show (w5.setCell ⟨B, 1, none⟩ v5).ownsRow base 51 3 v5 (M.outs ++ [o]).length _
  rw [List.length_append]
  exact h6
 · subst e2; exact own_box ho5 hB5 (by decide) e
theorem MkI.keepBox {w w' : World} {base B b : Nat} {M : Mkr} {cv uv ov : Value} {cur : Array Value} (h : MkI w base B M cv uv ov) (k : KeepS (fun g => g = b) w w') (hb : w.heap[b]? = some (.cells cur 51)) (hbase : base ≤ b ∧ uv.ownBlock ≠ some b) : MkI w' base B M cv uv ov := by
 refine ⟨(k.block _ (lt_of_heapN h.box) (fun e => ?_)).trans h.box, h.lo, h.cols.keepS k (fun g e => ?_), own_keepF h.outs k (fun g e e2 => ?_), own_keepF h.ops k (fun g e e2 => ?_)⟩
 · have hx := h.box
  have e' : B = b := e
  rw [e', hb] at hx
  simp at hx
 · subst e
  refine ⟨hbase.1, fun cs e2 => ?_⟩
  rw [hb] at e2
  simp at e2
 · subst e2; exact hbase.2 e
 · subst e2; exact own_box h.ops hb (by decide) e
def WrOut (w : World) (base B : Nat) (r : Option (Int × Mkr)) (cv uv ov : Value) (e : Ending) (w' : World) : Prop :=
 match r with
 | none => e = .returned (.tuple #[fuV zU, .bool false]) ∧ Below w.heap.size w w'
 | some q => ∃ ov', e = .returned (.tuple #[fuV (-1, q.1, trB q.2 q.1), .bool true]) ∧ MkI w' base B q.2 cv uv ov' ∧ KeepS (mkiBlk B ov) w w'
set_option maxRecDepth 100000 in
set_option maxHeartbeats 4000000 in
theorem writes_impl (B base : Nat) (M : Mkr) (kd tg a b : Int) (t : Bool) (cv uv ov : Value) (w : World) (h : MkI w base B M cv uv ov) (g : GoodM M) (hm : M.ops.length ≤ 1048576) (hbw : base ≤ w.heap.size) :
  Calls Tryz.prog 111 #[.pointer (some ⟨B, 0, none⟩), .agg #[.int .i64 kd, .int .i64 tg, .int .i64 a, .int .i64 b], .bool t] w (WrOut w base B (newO M (kd, tg, a, b) t) cv uv ov) := by
 obtain ⟨E0, hE0, hA, h0, h1⟩ := two_boxes w (.cells #[.int .i64 kd, .int .i64 tg, .int .i64 a, .int .i64 b] 75) (.cells #[.int .i64 0, .int .i64 0, .bool false] 51)
 have hMw := h
 have H := hid (h.below hA)
 have hBw := lt_of_heapN h.box
 have H0 := hid h0
 have H1 := hid h1
 obtain ⟨p0, p1, p2, p3⟩ := cells4 H.out.box
 obtain ⟨o0, o1, o2, o3⟩ := cells4 h0
 obtain ⟨q0, q1, q2⟩ : E0.cell? ⟨w.heap.size + 1, 0, none⟩ = some (.int .i64 0) ∧ E0.cell? ⟨w.heap.size + 1, 1, none⟩ = some (.int .i64 0) ∧ E0.cell? ⟨w.heap.size + 1, 2, none⟩ = some (.bool false) := ⟨cell_of_row _ _ 0 _ _ _ h1, cell_of_row _ _ 1 _ _ _ h1, cell_of_row _ _ 2 _ _ _ h1⟩
 have hf : ∀ j, E0.frozen? ⟨w.heap.size + 1, j, none⟩ = false := fun j => by simp [World.frozen?, h1]
 have f0 := hf 0
 have f1 := hf 1
 have f2 := hf 2
 have ff1 : E0.frozen? ⟨w.heap.size, 1, none⟩ = false := by simp [World.frozen?, h0]
 have ff3 : E0.frozen? ⟨B, 3, none⟩ = false := by simp [World.frozen?, H.out.box]
 have hne1 : B ≠ w.heap.size := by omega
 have hne2 : B ≠ w.heap.size + 1 := by omega
 by_cases h30 : M.tr.length = 30
 · have HQ := hid (p := newO M (kd, tg, a, b) t = none) (by unfold newO; rw [if_pos h30])
  rw [h30] at p3
  rw [HQ.out]
  clear h h0 h1 hf hMw
  go_enter Tryz.func111, Tryz.ntmps111
  have FIN := hid (p := WrOut w base B none cv uv ov (.returned (.tuple #[fuV zU, .bool false])) (((E0.setCell ⟨w.heap.size + 1, 0, none⟩ (.int .i64 0)).setCell ⟨w.heap.size + 1, 1, none⟩ (.int .i64 0)).setCell ⟨w.heap.size + 1, 2, none⟩ (.bool false))) ⟨rfl, ((hA.setCell (p := ⟨w.heap.size + 1, 0, none⟩) (Nat.le_succ _) _).setCell (p := ⟨w.heap.size + 1, 1, none⟩) (Nat.le_succ _) _).setCell (p := ⟨w.heap.size + 1, 2, none⟩) (Nat.le_succ _) _⟩
  go_wp2_with fail
  exact bodyPost_ret (v := .tuple #[fuV zU, .bool false]) (by simp [results, Tryz.results111, go_sem, q0, q1, q2, fuV, zU]) rfl FIN.out
 have hne30 : ((M.tr.length : Int) == 30) = false := by simp; omega
 clear h h0 h1 hf
 have hM30 := g.tr
 have HQ := hid (p := newO M (kd, tg, a, b) t = some ((M.tr.length : Int), { M with ops := M.ops ++ [(kd, (M.tr.length : Int), a, b)], tr := M.tr ++ [t] })) (by unfold newO newM; rw [if_neg h30, if_neg h30])
 have HT := hid (trB_new g HQ.out)
 have HU0 := hid ((H.out.below (w' := E0) (Below.refl _ _)))
 have hV0 : Below w.heap.size w (E0.setCell ⟨w.heap.size, 1, none⟩ (.int .i64 M.tr.length)) := hA.setCell (p := ⟨w.heap.size, 1, none⟩) (Nat.le_refl _) _
 have HV1 := hid ((hMw.below hV0).setUsed t)
 have hK1 : KeepS (mkiBlk B ov) w ((E0.setCell ⟨w.heap.size, 1, none⟩ (.int .i64 M.tr.length)).setCell ⟨B, 3, none⟩ (.int .i64 ((M.tr.length : Int) + 1))) := (KeepS.ofBelow hV0).trans ((KeepS.set1 _ B 3 _).mono (fun g e => .inl e))
 have hov : ∀ g, ov.ownBlock = some g → g < w.heap.size := fun g e => (hMw.ops.lt g e).2
 have huv : ∀ g, uv.ownBlock = some g → g < w.heap.size := fun g e => (hMw.outs.lt g e).2
 obtain ⟨oa, oc, rfl⟩ := slice_of_own hMw.ops
 clear hMw
 obtain ⟨i0, hti, hz0, hz1, hz2⟩ := info_parts infoFoN
 go_enter Tryz.func111, Tryz.ntmps111
 obtain ⟨V, hV⟩ : ∃ z, z = (E0.setCell ⟨w.heap.size, 1, none⟩ (.int .i64 M.tr.length)).setCell ⟨B, 3, none⟩ (.int .i64 ((M.tr.length : Int) + 1)) := ⟨_, rfl⟩
 have hbo0 := block_setCell (i := 1) H0.out (.int .i64 M.tr.length)
 have hbo : V.heap[w.heap.size]? = some (.cells #[.int .i64 kd, .int .i64 M.tr.length, .int .i64 a, .int .i64 b] 75) := by
  rw [hV]
  exact (Below.heap_setCell _ ⟨B, 3, none⟩ _ w.heap.size (fun e => hne1 e.symm)).trans hbo0
 have hbr : V.heap[w.heap.size + 1]? = some (.cells #[.int .i64 0, .int .i64 0, .bool false] 51) := by
  rw [hV]
  exact (Below.heap_setCell _ ⟨B, 3, none⟩ _ (w.heap.size + 1) (fun e => hne2 e.symm)).trans ((Below.heap_setCell _ ⟨w.heap.size, 1, none⟩ _ (w.heap.size + 1) (fun e => by have e' : w.heap.size + 1 = w.heap.size := e; omega)).trans H1.out)
 have hVs : w.heap.size + 1 < V.heap.size := lt_of_heapN hbr
 have hbwV : base ≤ V.heap.size := by omega
 rw [← hV] at HV1 hK1
 have HK1 := hid hK1
 clear hV0 hK1 hbo0
 go_wp2_with fail
 rw [← hV]
 clear hV hE0 p0 p1 p2 p3 o0 o1 o2 o3 q0 q1 q2 f0 f1 f2 ff1 ff3
 obtain ⟨p0, p1, p2, p3⟩ := cells4 HV1.out.box
 obtain ⟨o0, o1, o2, o3⟩ := cells4 hbo
 refine wp_region_until (z := 10) (S := (fun w' => w'.cell? ⟨B, 2, none⟩ = some (.slice oa M.ops.length oc) ∧ w'.cell? ⟨w.heap.size, 0, none⟩ = some (.int .i64 kd) ∧ w'.cell? ⟨w.heap.size, 1, none⟩ = some (.int .i64 M.tr.length) ∧ w'.cell? ⟨w.heap.size, 2, none⟩ = some (.int .i64 a) ∧ w'.cell? ⟨w.heap.size, 3, none⟩ = some (.int .i64 b))) (by kernel_rfl) ⟨p2, o0, o1, o2, o3⟩ (fun hHeld => ?_)
 refine wpAnyU_take (i := 0) (by simp only [List.getElem?_toArray, List.getElem?_cons_zero]; rfl) (by kernel_rfl) (by kernel_rfl) (by kernel_rfl) (by kernel_rfl) (by intro _ _ _ h; exact h) (Or.inl ⟨by rfl, fun w hSw => by (dsimp only at hSw; go_simp; (try with_reducible rfl))⟩) (by assumption) ?_
 simp only [Act.put, ptT, ptZ, ptS]
 refine wpAnyU_take (i := 1) (by simp only [List.getElem?_toArray, List.getElem?_cons_zero, List.getElem?_cons_succ]; rfl) (by kernel_rfl) (by kernel_rfl) (by kernel_rfl) (by kernel_rfl) (by intro _ _ _ h; exact h) (Or.inl ⟨by rfl, fun w hSw => by (dsimp only at hSw; go_simp; (try with_reducible rfl))⟩) (by assumption) ?_
 simp only [Act.put, ptT, ptZ, ptS]
 refine wpAnyU_take (i := 2) (by simp only [List.getElem?_toArray, List.getElem?_cons_zero, List.getElem?_cons_succ]; rfl) (by kernel_rfl) (by kernel_rfl) (by kernel_rfl) (by kernel_rfl) (by intro _ _ _ h; exact h) (Or.inl ⟨by rfl, fun w hSw => by (dsimp only at hSw; go_simp; (try with_reducible rfl))⟩) (by assumption) ?_
 simp only [Act.put, ptT, ptZ, ptS]
 refine wpAnyU_take (i := 3) (by simp only [List.getElem?_toArray, List.getElem?_cons_zero, List.getElem?_cons_succ]; rfl) (by kernel_rfl) (by kernel_rfl) (by kernel_rfl) (by kernel_rfl) (by intro _ _ _ h; exact h) (Or.inl ⟨by rfl, fun w hSw => by (dsimp only at hSw; go_simp; (try with_reducible rfl))⟩) (by assumption) ?_
 simp only [Act.put, ptT, ptZ, ptS]
 refine wpAnyU_take (i := 4) (by simp only [List.getElem?_toArray, List.getElem?_cons_zero, List.getElem?_cons_succ]; rfl) (by kernel_rfl) (by kernel_rfl) (by kernel_rfl) (by kernel_rfl) (by intro _ _ _ h; exact h) (Or.inl ⟨by rfl, fun w hSw => by (dsimp only at hSw; go_simp; (try with_reducible rfl))⟩) (by assumption) ?_
 simp only [Act.put, ptT, ptZ, ptS]
 refine wpAnyU_take (i := 5) (by simp only [List.getElem?_toArray, List.getElem?_cons_zero, List.getElem?_cons_succ]; rfl) (by kernel_rfl) (by kernel_rfl) (by kernel_rfl) (by kernel_rfl) (by intro _ _ _ h; exact h) (Or.inl ⟨by rfl, fun w hSw => by (dsimp only at hSw; go_simp; (try with_reducible rfl))⟩) (by assumption) ?_
 simp only [Act.put, ptT, ptZ, ptS]
 refine wpAnyU_one (i := 6) (by kernel_rfl) (by simp only [List.getElem?_toArray, List.getElem?_cons_zero, List.getElem?_cons_succ]; rfl) ?_
 intro K hK
 go_simp
 refine hK.out _ _ ?_ (fun hHeld => ?_)
 · (((try dsimp only); (repeat' apply And.intro) <;> first | (go_keep; done) | (simp (disch := first | omega | (simp <;> omega) | fail) [*]; done) | fail))
 clear hK K
 try simp only [Act.put, ptT, ptZ, ptS]
 refine wpAnyU_one (i := 7) (by kernel_rfl) (by simp only [List.getElem?_toArray, List.getElem?_cons_zero, List.getElem?_cons_succ]; rfl) ?_
 intro K hK
 rw [if_pos (by rfl)]
 refine wp_append_own _ _ _ 26 rfl base 75 i0 (.agg #[.int .i64 0, .int .i64 0, .int .i64 0, .int .i64 0]) 4 32 Tryz.underlying26 hti hz0 hz1 hz2 rfl (by decide) (.slice oa M.ops.length oc) M.ops.length (flatFo M.ops) rfl ((own_below HV1.out.ops ((Below.refl V.heap.size V).drew)).alloc _) ⟨V.heap.size, 0, none⟩ 1 1 [.int .i64 kd, .int .i64 M.tr.length, .int .i64 a, .int .i64 b] rfl rfl (cells4N V.drew _ _ _ _ _) (by intro u hu; simp at hu; rcases hu with rfl | rfl | rfl | rfl <;> rfl) (by unfold maxLen; omega) (by omega) (by simp; omega) ?_
 intro v5 w5 own5 hgrow hnn
 obtain ⟨a5, c5, rfl⟩ := slice_of_own own5
 have hbx := (((Below.refl V.heap.size V).drew).alloc (by simp) (.cells #[.int .i64 kd, .int .i64 M.tr.length, .int .i64 a, .int .i64 b] 75))
 obtain ⟨hB5, M6, K6⟩ := HV1.out.pushOps (o := (kd, (M.tr.length : Int), a, b)) hbx hgrow own5
 have hbo5 : w5.heap[w.heap.size]? = some (.cells #[.int .i64 kd, .int .i64 M.tr.length, .int .i64 a, .int .i64 b] 75) := (hgrow.block _ (by simp; omega) (fun e => by have := hov _ e.symm; omega)).trans ((hbx.block _ (by omega)).trans hbo)
 have hbr5 : w5.heap[w.heap.size + 1]? = some (.cells #[.int .i64 0, .int .i64 0, .bool false] 51) := (hgrow.block _ (by simp; omega) (fun e => by have := hov _ e.symm; omega)).trans ((hbx.block _ hVs).trans hbr)
 obtain ⟨p0', p1', p2', p3'⟩ := cells4 hB5
 obtain ⟨o0', o1', o2', o3'⟩ := cells4 hbo5
 have g2 : w5.frozen? ⟨B, 2, none⟩ = false := by simp [World.frozen?, hB5]
 clear own5 hgrow hnn hbx
 refine hK.out _ _ ⟨p2', o0', o1', o2', o3'⟩ (fun hHeld => ?_)
 clear hK K
 try simp only [Act.put, ptT, ptZ, ptS]
 refine wpAnyU_one (i := 8) (by kernel_rfl) (by simp only [List.getElem?_toArray, List.getElem?_cons_zero, List.getElem?_cons_succ]; rfl) ?_
 intro K hK
 go_simp
 refine hK.out _ _ ⟨p2', o0', o1', o2', o3'⟩ (fun hHeld => ?_)
 clear hK K
 try simp only [Act.put, ptT, ptZ, ptS]
 refine wpAnyU_take (i := 9) (by simp only [List.getElem?_toArray, List.getElem?_cons_zero, List.getElem?_cons_succ]; rfl) (by kernel_rfl) (by kernel_rfl) (by kernel_rfl) (by kernel_rfl) (by intro _ _ _ h; exact h) (Or.inl ⟨by rfl, fun w hSw => by (dsimp only at hSw; go_simp; (try with_reducible rfl))⟩) (by assumption) ?_
 simp only [Act.put, ptT, ptZ, ptS]
 refine wpAnyU_last (by kernel_rfl) (by simp only [List.getElem?_toArray, List.getElem?_cons_zero, List.getElem?_cons_succ]; rfl) ?_
 intro K hK
 go_simp
 refine hK.out _ _ ?_
 clear hK K
 try simp only [Act.put, ptT, ptZ, ptS]
 refine wpAnyU_done (by kernel_rfl) ?_ _
 obtain ⟨w6, hw6⟩ : ∃ z, z = w5.setCell ⟨B, 2, none⟩ (.slice a5 (M.ops.length + 1) c5) := ⟨_, rfl⟩
 have hbo6 : w6.heap[w.heap.size]? = some (.cells #[.int .i64 kd, .int .i64 M.tr.length, .int .i64 a, .int .i64 b] 75) := by rw [hw6]; exact (Below.heap_setCell _ ⟨B, 2, none⟩ _ w.heap.size (fun e => hne1 e.symm)).trans hbo5
 have hbr6 : w6.heap[w.heap.size + 1]? = some (.cells #[.int .i64 0, .int .i64 0, .bool false] 51) := by rw [hw6]; exact (Below.heap_setCell _ ⟨B, 2, none⟩ _ (w.heap.size + 1) (fun e => hne2 e.symm)).trans hbr5
 rw [← hw6] at M6 K6 ⊢
 clear hw6
 obtain ⟨o0, o1, o2, o3⟩ := cells4 hbo6
 have q0 : w6.cell? ⟨w.heap.size + 1, 0, none⟩ = some (.int .i64 0) := cell_of_row _ _ 0 _ _ _ hbr6
 have q1 : w6.cell? ⟨w.heap.size + 1, 1, none⟩ = some (.int .i64 0) := cell_of_row _ _ 1 _ _ _ hbr6
 have q2 : w6.cell? ⟨w.heap.size + 1, 2, none⟩ = some (.bool false) := cell_of_row _ _ 2 _ _ _ hbr6
 have hf : ∀ j, w6.frozen? ⟨w.heap.size + 1, j, none⟩ = false := fun j => by simp [World.frozen?, hbr6]
 have f0 := hf 0
 have f1 := hf 1
 have f2 := hf 2
 have FIN := hid (p := WrOut w base B (newO M (kd, tg, a, b) t) cv uv (.slice oa M.ops.length oc) (.returned (.tuple #[.agg #[.int .i64 (-1), .int .i64 M.tr.length, .bool t], .bool true])) (((w6.setCell ⟨w.heap.size + 1, 0, none⟩ (.int .i64 (-1))).setCell ⟨w.heap.size + 1, 1, none⟩ (.int .i64 M.tr.length)).setCell ⟨w.heap.size + 1, 2, none⟩ (.bool t))) (by
  rw [HQ.out]
  have KR := (((KeepS.refl (fun g => g = w.heap.size + 1) w6).setCell (p := ⟨w.heap.size + 1, 0, none⟩) rfl (.int .i64 (-1))).setCell (p := ⟨w.heap.size + 1, 1, none⟩) rfl (.int .i64 M.tr.length)).setCell (p := ⟨w.heap.size + 1, 2, none⟩) rfl (.bool t)
  refine ⟨_, ?_, M6.keepBox KR hbr6 ⟨by omega, fun e => by have := huv _ e; omega⟩, ?_⟩
  · show _ = Ending.returned (.tuple #[.agg #[.int .i64 (-1), .int .i64 (M.tr.length : Int), .bool (trB _ (M.tr.length : Int))], .bool true])
   rw [HT.out]
  · have KA : KeepS (mkiBlk B (.slice oa M.ops.length oc)) w w6 := HK1.out.trans (K6.mono (fun g e => e))
   refine ⟨KR.os.trans KA.os, KR.tape.trans KA.tape, KR.output.trans KA.output, Nat.le_trans KA.size KR.size, fun i hi hn => ?_⟩
   exact (KR.block i (Nat.lt_of_lt_of_le hi KA.size) (fun e => by omega)).trans (KA.block i hi hn))
 clear hbo5 hbr5 hbo6 hbr6 M6 K6 hB5 hf hHeld p0' p1' p2' p3' o0' o1' o2' o3' g2
 go_wp2_with fail
 exact bodyPost_ret (v := .tuple #[.agg #[.int .i64 (-1), .int .i64 M.tr.length, .bool t], .bool true]) (by simp [results, Tryz.results111, go_sem, q0, q1, q2]) rfl FIN.out
end Go.Proofs.YtjjkdbmjloolaaaGreatDoor
