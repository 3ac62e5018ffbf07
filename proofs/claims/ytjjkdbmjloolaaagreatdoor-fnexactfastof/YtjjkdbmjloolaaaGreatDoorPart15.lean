/-
  A part of the proof: FastSv.
-/
import Derived.Test.YtjjkdbmjloolaaaGreatDoorPart13
import Derived.Test.YtjjkdbmjloolaaaGreatDoorPart14

namespace Go.Proofs.YtjjkdbmjloolaaaGreatDoor
open Go.ChangeShapes Go.WideShapes Go.ChangeAt Go.RowKit Go.Joins
attribute [local go_sem ↓] Go.wp_at_zero Go.wp_at_succ
attribute [local simp] World.cell?_alloc_past World.cell?_alloc_at World.frozen?_alloc_at cell_far cell_off cell_here World.frozen?_alloc_past
theorem cells3N15 (w : World) (a b c : Value) (T : TypeId) : ∀ j u, [a, b, c][j]? = some u → (w.alloc (.cells #[a, b, c] T)).cell? ((⟨w.heap.size, 0, none⟩ : Addr).add j) = some u := by
 intro j u hj
 match j, hj with
 | 0, hj => simp at hj; subst hj; simp [Addr.add]
 | 1, hj => simp at hj; subst hj; simp [Addr.add]
 | 2, hj => simp at hj; subst hj; simp [Addr.add]
theorem infoTx15 : (Tryz.prog.info? 9).map (fun i => (i.zero, i.size, i.bytes)) = some (some (.string ⟨#[]⟩), 1, 16) := by kernel_rfl
theorem infoFu15 : (Tryz.prog.info? 51).map (fun i => (i.zero, i.size, i.bytes)) = some (some (.agg #[.int .i64 0, .int .i64 0, .bool false]), 3, 24) := by kernel_rfl
theorem strV_append15 (l m : List ByteArray) : strV (l ++ m) = strV l ++ strV m := List.map_append
theorem MkAt.pushCols {w W2 w5 : World} {base B : Nat} {M : Mkr} {ov cv uv tv v5 : Value} {o : ByteArray} (h : MkAt w base B M ov cv uv tv) (hb : Below w.heap.size w W2) (hg : W2.grownBy w5 cv.ownBlock) (hown : w5.ownsRow base 9 1 v5 (M.cols.length + 1) (strV M.cols ++ strV [o])) :
  w5.heap[B]? = some (.cells #[ov, cv, uv, tv, .bool M.bad] 49) ∧ MkAt (w5.setCell ⟨B, 1, none⟩ v5) base B { M with cols := M.cols ++ [o] } ov v5 uv tv ∧ KeepS (fun g => g = B ∨ cv.ownBlock = some g) w (w5.setCell ⟨B, 1, none⟩ v5) := by
 have h2 := h.below hb
 have K5 : KeepS (fun g => some g = cv.ownBlock) W2 w5 := ⟨hg.os, hg.tape, hg.output, hg.size, fun k hk hn => hg.block k hk hn⟩
 have hB5 : w5.heap[B]? = some (.cells #[ov, cv, uv, tv, .bool M.bad] 49) := (K5.block _ (lt_of_heapN h2.box) (fun e => own_box h2.cols h2.box (by decide) e.symm)).trans h2.box
 have K6 := KeepS.set1 w5 B 1 v5
 have far : ∀ {e : TypeId} {s : Nat} {v : Value} {n : Nat} {x : List Value}, w5.ownsRow base e s v n x → e ≠ 49 → (w5.setCell ⟨B, 1, none⟩ v5).ownsRow base e s v n x := fun hr he => own_keepF hr K6 (fun g e1 e2 => by subst e2; exact own_box hr hB5 he e1)
 have near : ∀ {e : TypeId} {s : Nat} {v : Value} {n : Nat} {x : List Value}, W2.ownsRow base e s v n x → e ≠ 9 → w5.ownsRow base e s v n x := fun hr he => own_keepF hr K5 (fun g e1 e2 => by
  rcases own_apartF hr h2.cols he with e3 | e3
  · rw [e3] at e1; cases e1
  · exact e3 (e1.trans e2))
 refine ⟨hB5, ⟨block_setCell hB5 _, h.lo, far (near h2.ops (by decide)) (by decide), ?_, far (near h2.outs (by decide)) (by decide), far (near h2.tr (by decide)) (by decide)⟩, ?_⟩
 · have := far hown (by decide)
  rw [← strV_append15] at this
  rw [List.length_append]
  exact this
 · exact ((KeepS.ofBelow hb).trans (K5.mono fun g e => .inr e.symm)).trans (K6.mono fun g e => .inl e)
theorem MkAt.pushOuts {w W2 w5 : World} {base B : Nat} {M : Mkr} {ov cv uv tv v5 : Value} {o : FU} (h : MkAt w base B M ov cv uv tv) (hb : Below w.heap.size w W2) (hg : W2.grownBy w5 uv.ownBlock) (hown : w5.ownsRow base 51 3 v5 (M.outs.length + 1) (flatFu M.outs ++ flatFu [o])) :
  w5.heap[B]? = some (.cells #[ov, cv, uv, tv, .bool M.bad] 49) ∧ MkAt (w5.setCell ⟨B, 2, none⟩ v5) base B { M with outs := M.outs ++ [o] } ov cv v5 tv ∧ KeepS (fun g => g = B ∨ uv.ownBlock = some g) w (w5.setCell ⟨B, 2, none⟩ v5) := by
 have h2 := h.below hb
 have K5 : KeepS (fun g => some g = uv.ownBlock) W2 w5 := ⟨hg.os, hg.tape, hg.output, hg.size, fun k hk hn => hg.block k hk hn⟩
 have hB5 : w5.heap[B]? = some (.cells #[ov, cv, uv, tv, .bool M.bad] 49) := (K5.block _ (lt_of_heapN h2.box) (fun e => own_box h2.outs h2.box (by decide) e.symm)).trans h2.box
 have K6 := KeepS.set1 w5 B 2 v5
 have far : ∀ {e : TypeId} {s : Nat} {v : Value} {n : Nat} {x : List Value}, w5.ownsRow base e s v n x → e ≠ 49 → (w5.setCell ⟨B, 2, none⟩ v5).ownsRow base e s v n x := fun hr he => own_keepF hr K6 (fun g e1 e2 => by subst e2; exact own_box hr hB5 he e1)
 have near : ∀ {e : TypeId} {s : Nat} {v : Value} {n : Nat} {x : List Value}, W2.ownsRow base e s v n x → e ≠ 51 → w5.ownsRow base e s v n x := fun hr he => own_keepF hr K5 (fun g e1 e2 => by
  rcases own_apartF hr h2.outs he with e3 | e3
  · rw [e3] at e1; cases e1
  · exact e3 (e1.trans e2))
 refine ⟨hB5, ⟨block_setCell hB5 _, h.lo, far (near h2.ops (by decide)) (by decide), far (near h2.cols (by decide)) (by decide), ?_, far (near h2.tr (by decide)) (by decide)⟩, ?_⟩
 · have := far hown (by decide)
  rw [← flatFu_append] at this
  rw [List.length_append]
  exact this
 · exact ((KeepS.ofBelow hb).trans (K5.mono fun g e => .inr e.symm)).trans (K6.mono fun g e => .inl e)
theorem low_row {w w' : World} {base B : Nat} {M : Mkr} {ov cv uv tv vv : Value} {e : TypeId} {s n : Nat} {xs : List Value} (h : MkAt w base B M ov cv uv tv) (hr : w.ownsRow base e s vv n xs) (hb : base ≤ w.heap.size) (k : KeepS (fun g => g = B ∨ vv.ownBlock = some g) w w') : Below base w w' :=
 ⟨k.os, k.tape, k.output, k.size, fun i hi => k.block i (by omega) (fun hp => by
  rcases hp with e2 | e2
  · have := h.lo; omega
  · have := (hr.lt _ e2).1; omega)⟩
def SieveOut15 (w : World) (base B : Nat) (M : Mkr) (s : SV) (e : Ending) (w' : World) : Prop :=
 ∃ M' ov' cv' uv' tv', e = .returned (.tuple #[]) ∧ MkAt w' base B M' ov' cv' uv' tv' ∧ Below base w w' ∧ (match sieveO M s with | none => M'.bad = true | some q => M' = q)
set_option maxRecDepth 100000 in
set_option maxHeartbeats 4000000 in
theorem where_spec15 (B base : Nat) (M : Mkr) (nm : ByteArray) (na : Option Addr) (nn nc : Nat) (N : List ByteArray) (sa : Option Addr) (sn sc : Nat) (S : List TI) (hsn : S.length = sn) (dn : Bool) (ct sk : Int) (ov cv uv tv : Value) (w : World) (h : MkAt w base B M ov cv uv tv) (hrow : ∀ w', Below base w w' → ItmAt w' sa S) (g : GoodM M) (hs : sumB S = true) (hc : ∀ x ∈ S, x.1 = 2 → x.2.2 ∈ M.cols) (hm : M.ops.length + 80 ≤ 1048576) (hbw : base ≤ w.heap.size) :
  Calls Tryz.prog 20 #[.pointer (some ⟨B, 0, none⟩), .agg #[.int .i64 2, .string nm, .slice na nn nc, .slice sa sn sc, .bool dn, .int .i64 ct, .int .i64 sk]] w (SieveOut15 w base B M ⟨2, nm, N, S, dn, ct, sk⟩) := by
 have HR := hid hrow
 have HG := hid g
 have HC := hid hc
 have hA : Below w.heap.size w (w.alloc (.cells #[.int .i64 2, .string nm, .slice na nn nc, .slice sa sn sc, .bool dn, .int .i64 ct, .int .i64 sk] 55)) := (Below.refl _ _).alloc (Nat.le_refl _) _
 have hAB : LowK base w (w.alloc (.cells #[.int .i64 2, .string nm, .slice na nn nc, .slice sa sn sc, .bool dn, .int .i64 ct, .int .i64 sk] 55)) := LowK.of hbw ((Below.refl _ _).alloc (Nat.le_refl _) _)
 have HSM := hid (sum_spec15 B base M sa sc sn S hsn ov cv uv tv _ (h.below hA) (fun w' hw => hrow w' (hAB.bel.trans hw)) g hs hc (by omega) (Nat.le_trans hbw hA.size))
 clear h hrow g hc
 go_enter Tryz.func20, Tryz.ntmps20
 go_wp2_with fail
 refine HSM.out.mono ?_
 rintro e w2 ⟨M2, ov2, tv2, r, rfl, hM2, hb2, hq2⟩
 have A1 := hid hM2
 have A2 := hid (hAB.trans hb2)
 have A3 := hid hq2
 obtain ⟨p0, p1, p2, p3, p4⟩ := cells5 hM2.box
 have f4 := frozen5 hM2.box 4
 by_cases hbd : M2.bad = true
 · rw [hbd] at p4
  have FIN := hid (p := SieveOut15 w base B M ⟨2, nm, N, S, dn, ct, sk⟩ (.returned (.tuple #[])) (w2.setCell ⟨B, 4, none⟩ (.bool true))) (by
   refine ⟨_, ov2, cv, uv, tv2, rfl, A1.out.setBad true, A2.out.bel.setCell (p := ⟨B, 4, none⟩) A1.out.lo _, ?_⟩
   have hno : sumO M S = none := by
    cases hq : sumO M S with
    | none => rfl
    | some q =>
     rw [hq] at hq2
     have := (sumO_good HG.out hs HC.out hq).1.bad
     rw [← hq2.1, hbd] at this
     cases this
   unfold sieveO
   simp [hno])
  clear hM2 hb2 hq2 HSM hbd p0 p1 p2 p3
  go_wp2_with fail
  exact bodyPost_ret (results_none Tryz.results20 _ _ _) rfl FIN.out
 rw [Bool.not_eq_true] at hbd
 rw [hbd] at p4
 obtain ⟨hsum, hgd, hgr, hr0, hr1⟩ : sumO M S = some (r, M2) ∧ GoodM M2 ∧ GrowM M M2 ∧ 0 ≤ r ∧ r < (M2.tr.length : Int) := by
  cases hq : sumO M S with
  | none => rw [hq] at hq2; rw [hbd] at hq2; cases hq2
  | some q =>
   rw [hq] at hq2
   obtain ⟨k1, k2, k3, k4⟩ := sumO_good HG.out hs HC.out hq
   have e : q = (r, M2) := Prod.ext hq2.2.symm hq2.1.symm
   subst e
   exact ⟨rfl, k1, k2, k3, k4⟩
 obtain ⟨rn, rfl⟩ : ∃ rn : Nat, r = rn := ⟨r.toNat, by omega⟩
 obtain ⟨gt, tc, rfl⟩ : ∃ gt tc, tv2 = .slice (some ⟨gt, 0, none⟩) M2.tr.length tc := by
  rcases hM2.tr.2 with ⟨e, e2⟩ | ⟨g, c, cur, e, _⟩
  · omega
  · exact ⟨g, c, e⟩
 obtain ⟨t, ht⟩ : ∃ t, trB M2 rn = t := ⟨_, rfl⟩
 have qt : w2.cell? ⟨gt, rn, none⟩ = some (.bool t) := by
  refine (hM2.tr.cellAt rn (by omega)).trans ?_
  unfold boolV
  rw [List.getElem?_map, List.getElem?_eq_getElem (by omega), ← ht]
  unfold trB
  rw [Int.toNat_natCast, List.getD_eq_getElem?_getD, List.getElem?_eq_getElem (by omega)]
  rfl
 have htl : (rn : Int) < (M2.tr.length : Int) := hr1
 have htl0 : (0 : Int) ≤ (rn : Int) := by omega
 cases t
 · have FIN := hid (p := SieveOut15 w base B M ⟨2, nm, N, S, dn, ct, sk⟩ (.returned (.tuple #[])) (w2.setCell ⟨B, 4, none⟩ (.bool true))) (by
   refine ⟨_, ov2, cv, uv, _, rfl, A1.out.setBad true, A2.out.bel.setCell (p := ⟨B, 4, none⟩) A1.out.lo _, ?_⟩
   unfold sieveO
   simp [hsum, ht])
  clear hM2 hb2 hq2 HSM hbd p0 p1 p2 hsum hgd hgr hr0 hr1 ht
  go_wp2_with fail
  exact bodyPost_ret (results_none Tryz.results20 _ _ _) rfl FIN.out
 have HOK := hid (p := sieveO M ⟨2, nm, N, S, dn, ct, sk⟩ = some { M2 with ops := M2.ops ++ [(12, 0, (rn : Int), 0)] }) (by
  unfold sieveO
  simp [hsum, ht])
 have hopl : M2.ops.length ≤ 1048576 := by
  have e1 := hgr.ops
  have e2 := hgd.tr
  omega
 have hbd0 := hbd
 have qt0 := hid qt
 clear hM2 hb2 hq2 HSM hbd hsum hgd hgr hr0 hr1 ht
 obtain ⟨oa, oc, rfl⟩ := slice_of_own A1.out.ops
 obtain ⟨i0, hti, hz0, hz1, hz2⟩ := info_parts infoFoN
 have hsz2 := Nat.le_trans hbw A2.out.size
 have hbx : Below w2.heap.size w2 (w2.alloc (.cells #[.int .i64 12, .int .i64 0, .int .i64 rn, .int .i64 0] 75)) := (Below.refl _ _).alloc (Nat.le_refl _) _
 clear p1 p2 p3 p4 f4 qt
 obtain ⟨p0, p1, p2, p3, p4⟩ := cells5 A1.out.box
 have hb0 : M2.bad = false := hbd0
 rw [hb0] at p4
 have qt := qt0.out
 go_wp2_with (at_builtin; refine wpList_append_own _ rfl _ _ 26 rfl base 75 i0 (.agg #[.int .i64 0, .int .i64 0, .int .i64 0, .int .i64 0]) 4 32 Tryz.underlying26 hti hz0 hz1 hz2 rfl (by decide) (.slice oa M2.ops.length oc) M2.ops.length (flatFo M2.ops) rfl (A1.out.ops.alloc _) ⟨w2.heap.size, 0, none⟩ 1 1 [.int .i64 12, .int .i64 0, .int .i64 rn, .int .i64 0] rfl rfl (cells4N w2 _ _ _ _ _) (by intro u hu; simp at hu; rcases hu with rfl | rfl | rfl | rfl <;> rfl) (by unfold maxLen; omega) (by omega) (by simp; omega) ?_)
 intro v5 w5 own5 hgrow hnn
 obtain ⟨a5, c5, rfl⟩ := slice_of_own own5
 obtain ⟨hB5, M6, K6⟩ := A1.out.pushOps (o := (12, 0, (rn : Int), 0)) hbx hgrow own5
 have FIN := hid (p := SieveOut15 w base B M ⟨2, nm, N, S, dn, ct, sk⟩ (.returned (.tuple #[])) (w5.setCell ⟨B, 0, none⟩ (.slice a5 (M2.ops.length + 1) c5))) (by
  refine ⟨_, _, _, _, _, rfl, M6, A2.out.bel.trans (low_row A1.out A1.out.ops hsz2 K6), by rw [HOK.out]⟩)
 obtain ⟨q0, q1, q2, q3, q4⟩ := cells5 hB5
 have g0 := frozen5 hB5 0
 clear own5 hgrow hnn M6 K6 hB5
 go_wp2_with fail
 exact bodyPost_ret (results_none Tryz.results20 _ _ _) rfl FIN.out
set_option maxRecDepth 100000 in
set_option maxHeartbeats 4000000 in
theorem let_spec15 (B base : Nat) (M : Mkr) (nm : ByteArray) (na : Option Addr) (nn nc : Nat) (N : List ByteArray) (sa : Option Addr) (sn sc : Nat) (S : List TI) (hsn : S.length = sn) (dn : Bool) (ct sk : Int) (ov cv uv tv : Value) (w : World) (h : MkAt w base B M ov cv uv tv) (hrow : ∀ w', Below base w w' → ItmAt w' sa S) (g : GoodM M) (hs : sumB S = true) (hc : ∀ x ∈ S, x.1 = 2 → x.2.2 ∈ M.cols) (hm : M.ops.length + 80 ≤ 1048576) (hcl : M.cols.length ≤ 1000) (hbw : base ≤ w.heap.size) :
  Calls Tryz.prog 20 #[.pointer (some ⟨B, 0, none⟩), .agg #[.int .i64 3, .string nm, .slice na nn nc, .slice sa sn sc, .bool dn, .int .i64 ct, .int .i64 sk]] w (SieveOut15 w base B M ⟨3, nm, N, S, dn, ct, sk⟩) := by
 have HG := hid g
 have HC := hid hc
 have hA : Below w.heap.size w (w.alloc (.cells #[.int .i64 3, .string nm, .slice na nn nc, .slice sa sn sc, .bool dn, .int .i64 ct, .int .i64 sk] 55)) := (Below.refl _ _).alloc (Nat.le_refl _) _
 have hAB : LowK base w (w.alloc (.cells #[.int .i64 3, .string nm, .slice na nn nc, .slice sa sn sc, .bool dn, .int .i64 ct, .int .i64 sk] 55)) := LowK.of hbw ((Below.refl _ _).alloc (Nat.le_refl _) _)
 have HSM := hid (sum_spec15 B base M sa sc sn S hsn ov cv uv tv _ (h.below hA) (fun w' hw => hrow w' (hAB.bel.trans hw)) g hs hc (by omega) (Nat.le_trans hbw hA.size))
 have hBw := lt_of_heapN h.box
 have hlo := h.lo
 clear h hrow g hc
 go_enter Tryz.func20, Tryz.ntmps20
 go_wp2_with fail
 refine HSM.out.mono ?_
 rintro e w2 ⟨M2, ov2, tv2, r, rfl, hM2, hb2, hq2⟩
 have A1 := hid hM2
 have A2 := hid (hAB.trans hb2)
 have A2' := hid hb2
 obtain ⟨p0, p1, p2, p3, p4⟩ := cells5 hM2.box
 have f4 := frozen5 hM2.box 4
 by_cases hbd : M2.bad = true
 · rw [hbd] at p4
  have FIN := hid (p := SieveOut15 w base B M ⟨3, nm, N, S, dn, ct, sk⟩ (.returned (.tuple #[])) w2) (by
   refine ⟨_, ov2, cv, uv, tv2, rfl, A1.out, A2.out.bel, ?_⟩
   have hno : sumO M S = none := by
    cases hq : sumO M S with
    | none => rfl
    | some q =>
     rw [hq] at hq2
     have := (sumO_good HG.out hs HC.out hq).1.bad
     rw [← hq2.1, hbd] at this
     cases this
   unfold sieveO
   simp [hno, hbd])
  clear hM2 hb2 hq2 HSM hbd p0 p1 p2 p3
  go_wp2_with fail
  exact bodyPost_ret (results_none Tryz.results20 _ _ _) rfl FIN.out
 rw [Bool.not_eq_true] at hbd
 rw [hbd] at p4
 obtain ⟨hsum, hgd, hgr, hr0, hr1⟩ : sumO M S = some (r, M2) ∧ GoodM M2 ∧ GrowM M M2 ∧ 0 ≤ r ∧ r < (M2.tr.length : Int) := by
  cases hq : sumO M S with
  | none => rw [hq] at hq2; rw [hbd] at hq2; cases hq2
  | some q =>
   rw [hq] at hq2
   obtain ⟨k1, k2, k3, k4⟩ := sumO_good HG.out hs HC.out hq
   have e : q = (r, M2) := Prod.ext hq2.2.symm hq2.1.symm
   subst e
   exact ⟨rfl, k1, k2, k3, k4⟩
 obtain ⟨rn, rfl⟩ : ∃ rn : Nat, r = rn := ⟨r.toNat, by omega⟩
 obtain ⟨gt, tc, rfl⟩ : ∃ gt tc, tv2 = .slice (some ⟨gt, 0, none⟩) M2.tr.length tc := by
  rcases hM2.tr.2 with ⟨e, e2⟩ | ⟨g, c, cur, e, _⟩
  · omega
  · exact ⟨g, c, e⟩
 obtain ⟨t, ht⟩ : ∃ t, trB M2 rn = t := ⟨_, rfl⟩
 have htl : (rn : Int) < (M2.tr.length : Int) := hr1
 have htl0 : (0 : Int) ≤ (rn : Int) := by omega
 have HTR := hid (p := (boolV M2.tr)[rn]? = some (.bool t)) (by
  unfold boolV
  rw [List.getElem?_map, List.getElem?_eq_getElem (by omega), ← ht]
  unfold trB
  rw [Int.toNat_natCast, List.getD_eq_getElem?_getD, List.getElem?_eq_getElem (by omega)]
  rfl)
 have HOK := hid (p := sieveO M ⟨3, nm, N, S, dn, ct, sk⟩ = some { M2 with cols := M2.cols ++ [nm], outs := M2.outs ++ [(-1, (rn : Int), t)] }) (by
  unfold sieveO
  simp [hsum, ht])
 have hcl2 : M2.cols.length ≤ 1000 := by rw [hgr.cols]; exact hcl
 have hol2 : M2.outs.length ≤ 1000 := by rw [hgd.len, hgr.cols]; exact hcl
 obtain ⟨ca, cc, rfl⟩ := slice_of_own A1.out.cols
 obtain ⟨i0, hti, hz0, hz1, hz2⟩ := info_parts infoTx15
 have hsz2 := Nat.le_trans hbw A2.out.size
 clear hM2 hb2 hq2 HSM hbd hsum hgd hgr hr0 hr1 ht
 have hxs := (A2'.out.kt w.heap.size _ 55 (_root_.Go.heap_alloc_new w _) (by decide) (by decide) (by decide) (by decide)).trans (_root_.Go.heap_alloc_new w _)
 have x1 := cell_of_row _ _ 1 _ _ _ hxs
 have hsB : B ≠ w.heap.size := by omega
 have hw2 := lt_of_heapN hxs
 have c1 : w2.cell? ⟨B, 1, none⟩ = some (.slice ca M2.cols.length cc) := (cells5 A1.out.box).2.1
 clear p1 p2 p3 f4 p0
 go_wp2_with fail
 refine wp_region_until (z := 11) (S := (fun w' => w'.cell? ⟨B, 1, none⟩ = some (.slice ca M2.cols.length cc) ∧ w'.cell? ⟨w.heap.size, 1, none⟩ = some (.string nm))) (by kernel_rfl) ⟨c1, x1⟩ (fun hHeld => ?_)
 refine wpAnyU_take (i := 0) (by simp only [List.getElem?_toArray, List.getElem?_cons_zero]; rfl) (by kernel_rfl) (by kernel_rfl) (by kernel_rfl) (by kernel_rfl) (by intro _ _ _ h; exact h) (Or.inl ⟨by rfl, fun w hSw => by (dsimp only at hSw; go_simp; (try with_reducible rfl))⟩) (by assumption) ?_
 simp only [Act.put, ptT, ptZ, ptS]
 refine wpAnyU_take (i := 1) (by simp only [List.getElem?_toArray, List.getElem?_cons_zero, List.getElem?_cons_succ]; rfl) (by kernel_rfl) (by kernel_rfl) (by kernel_rfl) (by kernel_rfl) (by intro _ _ _ h; exact h) (Or.inl ⟨by rfl, fun w hSw => by (dsimp only at hSw; go_simp; (try with_reducible rfl))⟩) (by assumption) ?_
 simp only [Act.put, ptT, ptZ, ptS]
 refine wpAnyU_take (i := 2) (by simp only [List.getElem?_toArray, List.getElem?_cons_zero, List.getElem?_cons_succ]; rfl) (by kernel_rfl) (by kernel_rfl) (by kernel_rfl) (by kernel_rfl) (by intro _ _ _ h; exact h) (Or.inl ⟨by rfl, fun w hSw => by (dsimp only at hSw; go_simp; (try with_reducible rfl))⟩) (by assumption) ?_
 simp only [Act.put, ptT, ptZ, ptS]
 refine wpAnyU_take (i := 3) (by simp only [List.getElem?_toArray, List.getElem?_cons_zero, List.getElem?_cons_succ]; rfl) (by kernel_rfl) (by kernel_rfl) (by kernel_rfl) (by kernel_rfl) (by intro _ _ _ h; exact h) (Or.inl ⟨by rfl, fun w hSw => by (dsimp only at hSw; go_simp; (try with_reducible rfl))⟩) (by assumption) ?_
 simp only [Act.put, ptT, ptZ, ptS]
 refine wpAnyU_take (i := 4) (by simp only [List.getElem?_toArray, List.getElem?_cons_zero, List.getElem?_cons_succ]; rfl) (by kernel_rfl) (by kernel_rfl) (by kernel_rfl) (by kernel_rfl) (by intro _ _ _ h; exact h) (Or.inl ⟨by rfl, fun w hSw => by (dsimp only at hSw; go_simp; (try with_reducible rfl))⟩) (by assumption) ?_
 simp only [Act.put, ptT, ptZ, ptS]
 refine wpAnyU_take (i := 5) (by simp only [List.getElem?_toArray, List.getElem?_cons_zero, List.getElem?_cons_succ]; rfl) (by kernel_rfl) (by kernel_rfl) (by kernel_rfl) (by kernel_rfl) (by intro _ _ _ h; exact h) (Or.inl ⟨by rfl, fun w hSw => by (dsimp only at hSw; go_simp; (try with_reducible rfl))⟩) (by assumption) ?_
 simp only [Act.put, ptT, ptZ, ptS]
 refine wpAnyU_take (i := 6) (by simp only [List.getElem?_toArray, List.getElem?_cons_zero, List.getElem?_cons_succ]; rfl) (by kernel_rfl) (by kernel_rfl) (by kernel_rfl) (by kernel_rfl) (by intro _ _ _ h; exact h) (Or.inl ⟨by rfl, fun w hSw => by (dsimp only at hSw; go_simp; (try with_reducible rfl))⟩) (by assumption) ?_
 simp only [Act.put, ptT, ptZ, ptS]
 refine wpAnyU_one (i := 7) (by kernel_rfl) (by simp only [List.getElem?_toArray, List.getElem?_cons_zero, List.getElem?_cons_succ]; rfl) ?_
 intro K hK
 go_simp
 refine hK.out _ _ ?_ (fun hHeld => ?_)
 · (((try dsimp only); (repeat' apply And.intro) <;> first | (go_keep; done) | (simp (disch := first | omega | (simp <;> omega) | fail) [*]; done) | fail))
 clear hK K
 try simp only [Act.put, ptT, ptZ, ptS]
 refine wpAnyU_one (i := 8) (by kernel_rfl) (by simp only [List.getElem?_toArray, List.getElem?_cons_zero, List.getElem?_cons_succ]; rfl) ?_
 intro K hK
 rw [if_pos (by rfl)]
 refine wp_append_own _ _ _ 22 rfl base 9 i0 (.string ⟨#[]⟩) 1 16 Tryz.underlying22 hti hz0 hz1 hz2 rfl (by decide) (.slice ca M2.cols.length cc) M2.cols.length (strV M2.cols) rfl ((own_below A1.out.cols ((Below.refl w2.heap.size w2).drew)).alloc _) ⟨w2.heap.size, 0, none⟩ 1 1 [.string nm] rfl rfl (cells1N w2.drew _ _) (by intro u hu; simp at hu; subst hu; rfl) (by unfold maxLen; omega) (by omega) (by simp; omega) ?_
 intro v5 w5 own5 hgrow hnn
 obtain ⟨a5, c5, rfl⟩ := slice_of_own own5
 have hbx := (((Below.refl w2.heap.size w2).drew).alloc (by simp) (.cells #[.string nm] 9))
 obtain ⟨hB5, M6, K6⟩ := A1.out.pushCols (o := nm) hbx hgrow own5
 have hx5 : w5.heap[w.heap.size]? = some (.cells #[.int .i64 3, .string nm, .slice na nn nc, .slice sa sn sc, .bool dn, .int .i64 ct, .int .i64 sk] 55) := (hgrow.block w.heap.size (by simp; omega) (fun e => own_box A1.out.cols hxs (by decide) e.symm)).trans ((hbx.block _ hw2).trans hxs)
 have x1' := cell_of_row _ _ 1 _ _ _ hx5
 obtain ⟨q0, q1, q2, q3, q4⟩ := cells5 hB5
 have g1 := frozen5 hB5 1
 clear own5 hgrow hnn hbx
 refine hK.out _ _ ⟨q1, x1'⟩ (fun hHeld => ?_)
 clear hK K
 try simp only [Act.put, ptT, ptZ, ptS]
 refine wpAnyU_one (i := 9) (by kernel_rfl) (by simp only [List.getElem?_toArray, List.getElem?_cons_zero, List.getElem?_cons_succ]; rfl) ?_
 intro K hK
 go_simp
 refine hK.out _ _ ⟨q1, x1'⟩ (fun hHeld => ?_)
 clear hK K
 try simp only [Act.put, ptT, ptZ, ptS]
 refine wpAnyU_take (i := 10) (by simp only [List.getElem?_toArray, List.getElem?_cons_zero, List.getElem?_cons_succ]; rfl) (by kernel_rfl) (by kernel_rfl) (by kernel_rfl) (by kernel_rfl) (by intro _ _ _ h; exact h) (Or.inl ⟨by rfl, fun w hSw => by (dsimp only at hSw; go_simp; (try with_reducible rfl))⟩) (by assumption) ?_
 simp only [Act.put, ptT, ptZ, ptS]
 refine wpAnyU_last (by kernel_rfl) (by simp only [List.getElem?_toArray, List.getElem?_cons_zero, List.getElem?_cons_succ]; rfl) ?_
 intro K hK
 go_simp
 refine hK.out _ _ ?_
 clear hK K
 try simp only [Act.put, ptT, ptZ, ptS]
 refine wpAnyU_done (by kernel_rfl) ?_ _
 obtain ⟨w6, hw6⟩ : ∃ z, z = w5.setCell ⟨B, 1, none⟩ (.slice a5 (M2.cols.length + 1) c5) := ⟨_, rfl⟩
 rw [← hw6] at M6 K6 ⊢
 have A6 := hid M6
 have A7 := hid K6
 have A9 := hid (low_row A1.out A1.out.cols hsz2 K6)
 have hsz6 : w2.heap.size ≤ w6.heap.size := A7.out.size
 clear hw6 q0 q1 q2 q3 q4 g1 hHeld hB5 hx5 x1' x1 hxs M6 K6 c1 p4
 obtain ⟨p0, p1, p2, p3, p4⟩ := cells5 A6.out.box
 have f2 := frozen5 A6.out.box 2
 have qt := (A6.out.tr.cellAt rn (by omega)).trans HTR.out
 obtain ⟨ua, uc, rfl⟩ := slice_of_own A6.out.outs
 obtain ⟨j0, htj, hy0, hy1, hy2⟩ := info_parts infoFu15
 have hB6 := lt_of_heapN A6.out.box
 have hgt := (A6.out.tr.lt gt rfl).2
 clear p0 p1 p4
 go_wp2_with fail
 refine wp_region_until (z := 18) (S := (fun w' => (w'.cell? ⟨B, 2, none⟩ = some (.slice ua M2.outs.length uc) ∧ w'.cell? ⟨B, 3, none⟩ = some (.slice (some ⟨gt, 0, none⟩) M2.tr.length tc)) ∧ w'.cell? ⟨gt, rn, none⟩ = some (.bool t))) (by kernel_rfl) ⟨⟨p2, p3⟩, qt⟩ (fun hHeld => ?_)
 refine wpAnyU_take (i := 0) (by simp only [List.getElem?_toArray, List.getElem?_cons_zero]; rfl) (by kernel_rfl) (by kernel_rfl) (by kernel_rfl) (by kernel_rfl) (by intro _ _ _ h; exact h) (Or.inl ⟨by rfl, fun w hSw => by (dsimp only at hSw; go_simp; (try with_reducible rfl))⟩) (by assumption) ?_
 simp only [Act.put, ptT, ptZ, ptS]
 refine wpAnyU_take (i := 1) (by simp only [List.getElem?_toArray, List.getElem?_cons_zero, List.getElem?_cons_succ]; rfl) (by kernel_rfl) (by kernel_rfl) (by kernel_rfl) (by kernel_rfl) (by intro _ _ _ h; exact h) (Or.inl ⟨by rfl, fun w hSw => by (dsimp only at hSw; go_simp; (try with_reducible rfl))⟩) (by assumption) ?_
 simp only [Act.put, ptT, ptZ, ptS]
 refine wpAnyU_take (i := 2) (by simp only [List.getElem?_toArray, List.getElem?_cons_zero, List.getElem?_cons_succ]; rfl) (by kernel_rfl) (by kernel_rfl) (by kernel_rfl) (by kernel_rfl) (by intro _ _ _ h; exact h) (Or.inl ⟨by rfl, fun w hSw => by (dsimp only at hSw; go_simp; (try with_reducible rfl))⟩) (by assumption) ?_
 simp only [Act.put, ptT, ptZ, ptS]
 refine wpAnyU_take (i := 3) (by simp only [List.getElem?_toArray, List.getElem?_cons_zero, List.getElem?_cons_succ]; rfl) (by kernel_rfl) (by kernel_rfl) (by kernel_rfl) (by kernel_rfl) (by intro _ _ _ h; exact h) (Or.inl ⟨by rfl, fun w hSw => by (dsimp only at hSw; go_simp; (try with_reducible rfl))⟩) (by assumption) ?_
 simp only [Act.put, ptT, ptZ, ptS]
 refine wpAnyU_take (i := 4) (by simp only [List.getElem?_toArray, List.getElem?_cons_zero, List.getElem?_cons_succ]; rfl) (by kernel_rfl) (by kernel_rfl) (by kernel_rfl) (by kernel_rfl) (by intro _ _ _ h; exact h) (Or.inl ⟨by rfl, fun w hSw => by (dsimp only at hSw; go_simp; (try with_reducible rfl))⟩) (by assumption) ?_
 simp only [Act.put, ptT, ptZ, ptS]
 refine wpAnyU_take (i := 5) (by simp only [List.getElem?_toArray, List.getElem?_cons_zero, List.getElem?_cons_succ]; rfl) (by kernel_rfl) (by kernel_rfl) (by kernel_rfl) (by kernel_rfl) (by intro _ _ _ h; exact h) (Or.inl ⟨by rfl, fun w hSw => by (dsimp only at hSw; go_simp; (try with_reducible rfl))⟩) (by assumption) ?_
 simp only [Act.put, ptT, ptZ, ptS]
 refine wpAnyU_take (i := 6) (by simp only [List.getElem?_toArray, List.getElem?_cons_zero, List.getElem?_cons_succ]; rfl) (by kernel_rfl) (by kernel_rfl) (by kernel_rfl) (by kernel_rfl) (by intro _ _ _ h; exact h) (Or.inl ⟨by rfl, fun w hSw => by (dsimp only at hSw; go_simp; (try with_reducible rfl))⟩) (by assumption) ?_
 simp only [Act.put, ptT, ptZ, ptS]
 refine wpAnyU_take (i := 7) (by simp only [List.getElem?_toArray, List.getElem?_cons_zero, List.getElem?_cons_succ]; rfl) (by kernel_rfl) (by kernel_rfl) (by kernel_rfl) (by kernel_rfl) (by intro _ _ _ h; exact h) (Or.inl ⟨by rfl, fun w hSw => by (dsimp only at hSw; go_simp; (try with_reducible rfl))⟩) (by assumption) ?_
 simp only [Act.put, ptT, ptZ, ptS]
 refine wpAnyU_take (i := 8) (by simp only [List.getElem?_toArray, List.getElem?_cons_zero, List.getElem?_cons_succ]; rfl) (by kernel_rfl) (by kernel_rfl) (by kernel_rfl) (by kernel_rfl) (by intro _ _ _ h; exact h) (Or.inl ⟨by rfl, fun w hSw => by (dsimp only at hSw; go_simp; (try with_reducible rfl))⟩) (by assumption) ?_
 simp only [Act.put, ptT, ptZ, ptS]
 refine wpAnyU_take (i := 9) (by simp only [List.getElem?_toArray, List.getElem?_cons_zero, List.getElem?_cons_succ]; rfl) (by kernel_rfl) (by kernel_rfl) (by kernel_rfl) (by kernel_rfl) (by intro _ _ _ h; exact h) (Or.inl ⟨by rfl, fun w hSw => by (dsimp only at hSw; go_simp; (try with_reducible rfl))⟩) (by assumption) ?_
 simp only [Act.put, ptT, ptZ, ptS]
 refine wpAnyU_take (i := 10) (by simp only [List.getElem?_toArray, List.getElem?_cons_zero, List.getElem?_cons_succ]; rfl) (by kernel_rfl) (by kernel_rfl) (by kernel_rfl) (by kernel_rfl) (by intro _ _ _ h; exact h) (Or.inl ⟨by rfl, fun w hSw => by (dsimp only at hSw; go_simp; (try with_reducible rfl))⟩) (by assumption) ?_
 simp only [Act.put, ptT, ptZ, ptS]
 refine wpAnyU_take (i := 11) (by simp only [List.getElem?_toArray, List.getElem?_cons_zero, List.getElem?_cons_succ]; rfl) (by kernel_rfl) (by kernel_rfl) (by kernel_rfl) (by kernel_rfl) (by intro _ _ _ h; exact h) (Or.inl ⟨by rfl, fun w hSw => by (dsimp only at hSw; go_simp; (try with_reducible rfl))⟩) (by assumption) ?_
 simp only [Act.put, ptT, ptZ, ptS]
 refine wpAnyU_take (i := 12) (by simp only [List.getElem?_toArray, List.getElem?_cons_zero, List.getElem?_cons_succ]; rfl) (by kernel_rfl) (by kernel_rfl) (by kernel_rfl) (by kernel_rfl) (by intro _ _ _ h; exact h) (Or.inl ⟨by rfl, fun w hSw => by (dsimp only at hSw; go_simp; (try with_reducible rfl))⟩) (by assumption) ?_
 simp only [Act.put, ptT, ptZ, ptS]
 refine wpAnyU_take (i := 13) (by simp only [List.getElem?_toArray, List.getElem?_cons_zero, List.getElem?_cons_succ]; rfl) (by kernel_rfl) (by kernel_rfl) (by kernel_rfl) (by kernel_rfl) (by intro _ _ _ h; exact h) (Or.inl ⟨by rfl, fun w hSw => by (dsimp only at hSw; go_simp; (try with_reducible rfl))⟩) (by assumption) ?_
 simp only [Act.put, ptT, ptZ, ptS]
 refine wpAnyU_one (i := 14) (by kernel_rfl) (by simp only [List.getElem?_toArray, List.getElem?_cons_zero, List.getElem?_cons_succ]; rfl) ?_
 intro K hK
 go_simp
 refine hK.out _ _ ?_ (fun hHeld => ?_)
 · (((try dsimp only); (repeat' apply And.intro) <;> first | (go_keep; done) | (simp (disch := first | omega | (simp <;> omega) | fail) [*]; done) | fail))
 clear hK K
 try simp only [Act.put, ptT, ptZ, ptS]
 refine wpAnyU_one (i := 15) (by kernel_rfl) (by simp only [List.getElem?_toArray, List.getElem?_cons_zero, List.getElem?_cons_succ]; rfl) ?_
 intro K hK
 rw [if_pos (by rfl)]
 refine wp_append_own _ _ _ 27 rfl base 51 j0 (.agg #[.int .i64 0, .int .i64 0, .bool false]) 3 24 Tryz.underlying27 htj hy0 hy1 hy2 rfl (by decide) (.slice ua M2.outs.length uc) M2.outs.length (flatFu M2.outs) rfl ((own_below A6.out.outs ((Below.refl w6.heap.size w6).drew)).alloc _) ⟨w6.heap.size, 0, none⟩ 1 1 [.int .i64 (-1), .int .i64 rn, .bool t] rfl rfl (cells3N15 w6.drew _ _ _ _) (by intro u hu; simp at hu; rcases hu with rfl | rfl | rfl <;> rfl) (by unfold maxLen; omega) (by omega) (by simp; omega) ?_
 intro v7 w7 own7 hgrow hnn
 obtain ⟨a7, c7, rfl⟩ := slice_of_own own7
 have hbx := (((Below.refl w6.heap.size w6).drew).alloc (by simp) (.cells #[.int .i64 (-1), .int .i64 rn, .bool t] 51))
 obtain ⟨hB7, M8, K8⟩ := A6.out.pushOuts (o := (-1, (rn : Int), t)) hbx hgrow own7
 have hgq : w7.heap[gt]? = w6.heap[gt]? := (hgrow.block gt (by simp; omega) (fun e => by
  rcases own_apartF A6.out.tr A6.out.outs (by decide) with e3 | e3
  · cases e3
  · exact e3 e)).trans (hbx.block _ hgt)
 obtain ⟨q0, q1, q2, q3, q4⟩ := cells5 hB7
 have g2 := frozen5 hB7 2
 have qt7 := (World.cell?_of_block (a := ⟨gt, rn, none⟩) hgq).trans qt
 clear own7 hgrow hnn hbx
 refine hK.out _ _ ⟨⟨q2, q3⟩, qt7⟩ (fun hHeld => ?_)
 clear hK K
 try simp only [Act.put, ptT, ptZ, ptS]
 refine wpAnyU_one (i := 16) (by kernel_rfl) (by simp only [List.getElem?_toArray, List.getElem?_cons_zero, List.getElem?_cons_succ]; rfl) ?_
 intro K hK
 go_simp
 refine hK.out _ _ ⟨⟨q2, q3⟩, qt7⟩ (fun hHeld => ?_)
 clear hK K
 try simp only [Act.put, ptT, ptZ, ptS]
 refine wpAnyU_take (i := 17) (by simp only [List.getElem?_toArray, List.getElem?_cons_zero, List.getElem?_cons_succ]; rfl) (by kernel_rfl) (by kernel_rfl) (by kernel_rfl) (by kernel_rfl) (by intro _ _ _ h; exact h) (Or.inl ⟨by rfl, fun w hSw => by (dsimp only at hSw; go_simp; (try with_reducible rfl))⟩) (by assumption) ?_
 simp only [Act.put, ptT, ptZ, ptS]
 refine wpAnyU_last (by kernel_rfl) (by simp only [List.getElem?_toArray, List.getElem?_cons_zero, List.getElem?_cons_succ]; rfl) ?_
 intro K hK
 go_simp
 refine hK.out _ _ ?_
 clear hK K
 try simp only [Act.put, ptT, ptZ, ptS]
 refine wpAnyU_done (by kernel_rfl) ?_ _
 have FIN := hid (p := SieveOut15 w base B M ⟨3, nm, N, S, dn, ct, sk⟩ (.returned (.tuple #[])) (w7.setCell ⟨B, 2, none⟩ (.slice a7 (M2.outs.length + 1) c7))) (by
  exact ⟨_, _, _, _, _, rfl, M8, (A2.out.bel.trans A9.out).trans (low_row A6.out A6.out.outs (Nat.le_trans hsz2 hsz6) K8), by rw [HOK.out]⟩)
 clear q0 q1 q2 q3 q4 g2 hHeld hB7 qt7 M8 K8 p2 p3 qt f2
 go_wp2_with fail
 exact bodyPost_ret (results_none Tryz.results20 _ _ _) rfl FIN.out
end Go.Proofs.YtjjkdbmjloolaaaGreatDoor
