/-
  A part of the proof: FkMake.
-/
import Derived.Test.YtjjkdbmjloolaaaGreatDoorPart18

namespace Go.Proofs.YtjjkdbmjloolaaaGreatDoor
open Go.ChangeShapes Go.WideShapes Go.ChangeAt Go.RowKit Go.Joins
attribute [local go_sem ↓] Go.wp_at_zero Go.wp_at_succ
attribute [local simp] World.cell?_alloc_past World.cell?_alloc_at World.frozen?_alloc_at cell_far cell_off cell_here World.frozen?_alloc_past
def wantP (k : Int) (l : List FU) : Bool := if k = 7 ∨ k = 8 then (l.getD 0 zU).2.2 == (l.getD 1 zU).2.2 else partsB k l
set_option maxRecDepth 100000 in
set_option maxHeartbeats 4000000 in
theorem want_impl (k : Int) (a : Option Addr) (cap n : Nat) (l : List FU) (hn : l.length = n) (hl : k ≠ 11 → n = 2) (hm : n ≤ 2) (w : World) (hrow : FuAt w a l) (b : Bool) (hb : wantP k l = b) :
  Calls Tryz.prog 112 #[.int .i64 k, .slice a n cap] w fun e w' => e = .returned (.bool b) ∧ Below w.heap.size w w' := by
 have HR := hid hrow
 have HL := hid hl
 have HN := hid hn
 by_cases h78 : k = 7 ∨ k = 8
 · have hn2 : n = 2 := hl (by omega)
  subst hn2
  obtain ⟨g, o, rfl, hg, c0, c1, c2⟩ := hrow 0 (by omega)
  obtain ⟨g', o', e', _, d0, d1, d2⟩ := hrow 1 (by omega)
  cases e'
  obtain ⟨t0, ht0⟩ : ∃ t, (l[0]'(by omega)).2.2 = t := ⟨_, rfl⟩
  obtain ⟨t1, ht1⟩ : ∃ t, (l[1]'(by omega)).2.2 = t := ⟨_, rfl⟩
  rw [ht0] at c2
  rw [ht1] at d2
  have hb2 : (t0 == t1) = b := by
   rw [← hb]
   unfold wantP
   rw [if_pos h78]
   show _ = ((l.getD 0 zU).2.2 == (l.getD 1 zU).2.2)
   rw [List.getD_eq_getElem?_getD, List.getD_eq_getElem?_getD, List.getElem?_eq_getElem (by omega : 0 < l.length), List.getElem?_eq_getElem (by omega : 1 < l.length)]
   show _ = ((l[0]'(by omega)).2.2 == (l[1]'(by omega)).2.2)
   rw [ht0, ht1]
  have c2' : w.cell? ⟨g, o + 2, none⟩ = some (.bool t0) := c2
  have d2' : w.cell? ⟨g, o + 3 + 2, none⟩ = some (.bool t1) := d2
  have d2'' : w.cell? ⟨g, o + 5, none⟩ = some (.bool t1) := d2
  have hbe : ∀ wz : World, (binOp .eql 4 (.bool t0) (.bool t1)).run Tryz.prog wz = .ok (.bool b) wz := fun wz => by rw [← hb2]; cases t0 <;> cases t1 <;> kernel_rfl
  clear hrow HR HL HN c0 c1 c2 d0 d1 d2 hn hl hb ht0 ht1 hb2
  rcases h78 with rfl | rfl
  · go_enter Tryz.func112, Tryz.ntmps112
   go_wp2_with fail
   refine wp_region_held_drew (S := (fun w' => w'.cell? ⟨g, o + 2, none⟩ = some (.bool t0) ∧ w'.cell? ⟨g, o + 5, none⟩ = some (.bool t1))) (by kernel_rfl) ⟨c2', d2''⟩ (fun hHeld => ?_)
   refine tkH 0 ?_
   simp only [Act.put, ptT, ptZ, ptS]
   refine tkH 1 ?_
   simp only [Act.put, ptT, ptZ, ptS]
   refine tkH 2 ?_
   simp only [Act.put, ptT, ptZ, ptS]
   refine tkH 3 ?_
   simp only [Act.put, ptT, ptZ, ptS]
   refine tkH 4 ?_
   simp only [Act.put, ptT, ptZ, ptS]
   refine tkH 5 ?_
   simp only [Act.put, ptT, ptZ, ptS]
   refine tkH 6 ?_
   simp only [Act.put, ptT, ptZ, ptS]
   refine tkH 7 ?_
   simp only [Act.put, ptT, ptZ, ptS]
   refine tkH 8 ?_
   simp only [Act.put, ptT, ptZ, ptS]
   refine tkH 9 ?_
   simp only [Act.put, ptT, ptZ, ptS]
   refine wpAnyH_done (by kernel_rfl) ?_ _
   go_wp2
   go_ret
   exact ⟨rfl, (Below.refl _ _).drew⟩
  · go_enter Tryz.func112, Tryz.ntmps112
   go_wp2_with fail
   refine wp_region_held_drew (S := (fun w' => w'.cell? ⟨g, o + 2, none⟩ = some (.bool t0) ∧ w'.cell? ⟨g, o + 5, none⟩ = some (.bool t1))) (by kernel_rfl) ⟨c2', d2''⟩ (fun hHeld => ?_)
   refine tkH 0 ?_
   simp only [Act.put, ptT, ptZ, ptS]
   refine tkH 1 ?_
   simp only [Act.put, ptT, ptZ, ptS]
   refine tkH 2 ?_
   simp only [Act.put, ptT, ptZ, ptS]
   refine tkH 3 ?_
   simp only [Act.put, ptT, ptZ, ptS]
   refine tkH 4 ?_
   simp only [Act.put, ptT, ptZ, ptS]
   refine tkH 5 ?_
   simp only [Act.put, ptT, ptZ, ptS]
   refine tkH 6 ?_
   simp only [Act.put, ptT, ptZ, ptS]
   refine tkH 7 ?_
   simp only [Act.put, ptT, ptZ, ptS]
   refine tkH 8 ?_
   simp only [Act.put, ptT, ptZ, ptS]
   refine tkH 9 ?_
   simp only [Act.put, ptT, ptZ, ptS]
   refine wpAnyH_done (by kernel_rfl) ?_ _
   go_wp2
   go_ret
   exact ⟨rfl, (Below.refl _ _).drew⟩
 have hb2 : partsB k l = b := by rw [← hb]; unfold wantP; rw [if_neg h78]
 have HB := hid hb2
 have e7 : (k == 7) = false := by simp; omega
 have e8 : (k == 8) = false := by simp; omega
 clear hrow hn hl hb hb2 h78
 go_enter Tryz.func112, Tryz.ntmps112
 go_wp2_with fail
 refine (isnum_impl k _ (numG k) rfl).mono ?_
 rintro e w1 ⟨rfl, rfl⟩
 go_wp2_with fail
 have hA : Below w1.heap.size w1 (w1.alloc (.cells #[.bool !numG k] 4)) := (Below.refl _ _).alloc (Nat.le_refl _) _
 refine (every_want w1.heap.size (!numG k) a cap n l HN.out _ (HR.out.below hA) (by unfold maxLen; omega) (by simp) (by simp) b HB.out).mono ?_
 rintro e w2 ⟨rfl, hb2⟩
 have hxx := chain hA hb2
 clear hb2
 go_wp2
 go_ret
 exact ⟨rfl, hxx⟩
def makeO (M : Mkr) (x : TI) (p : List Int) : Option (Int × Mkr) :=
 if needsI x.1 = 0 then leafO M x
 else if x.1 = 12 then newO M (2, 0, 0, 0) true
 else if x.1 = 11 then (if trB M (p.getD 0 0) = true then newO M (11, 0, p.getD 0 0, 0) true else none)
 else if wantB x.1 (trB M (p.getD 0 0)) (trB M (p.getD 1 0)) = true then newO M (x.1, 0, p.getD 0 0, p.getD 1 0) (decide (6 < x.1)) else none
def regU (M : Mkr) (r : Int) : FU := (-1, r, trB M r)
theorem WrOut.kept {w1 w2 : World} {base B : Nat} {r : Option (Int × Mkr)} {cv uv ov : Value} {e : Ending} (h : WrOut w1 base B r cv uv ov e w2) (i : Nat) (hi : i < w1.heap.size) (hB : i ≠ B) (ho : ov.ownBlock ≠ some i) : w2.heap[i]? = w1.heap[i]? := by
 cases r with
 | none => exact h.2.block i hi
 | some q =>
  obtain ⟨_, _, _, k⟩ := h
  exact k.block i hi (fun e => e.elim hB ho)
theorem makeO_want (M : Mkr) {xk : Int} (c : CK) (xs : ByteArray) {p : List Int} {n : Nat} (hp : p.length = n) (h1 : 3 ≤ xk) (h2 : xk ≤ 12) (h12 : xk ≠ 12) (hn : n = (if xk = 11 then 1 else 2)) : makeO M (xk, c, xs) p = if wantP xk (p.map (regU M)) = true then newO M (xk, 0, p.getD 0 0, if xk = 11 then 0 else p.getD 1 0) (decide (6 < xk)) else none := by
 have hn0 : needsI xk ≠ 0 := by unfold needsI; rw [if_neg (by omega)]; split <;> omega
 unfold makeO
 rw [if_neg hn0, if_neg h12]
 by_cases h11 : xk = 11
 · subst h11
  rw [if_pos rfl, if_pos rfl] at *
  match p, hp.trans hn with
  | [r], _ =>
   show (if trB M r = true then newO M (11, 0, r, 0) true else none) = if wantP 11 [regU M r] = true then newO M (11, 0, r, 0) true else none
   have e : wantP 11 [regU M r] = trB M r := by
    unfold wantP partsB numG regU
    rw [if_neg (by decide)]
    simp
   rw [e]
 · rw [if_neg h11] at hn ⊢
  rw [if_neg h11]
  match p, hp.trans hn with
  | [r, s], _ =>
   show (if wantB xk (trB M r) (trB M s) = true then newO M (xk, 0, r, s) (decide (6 < xk)) else none) = if wantP xk [regU M r, regU M s] = true then newO M (xk, 0, r, s) (decide (6 < xk)) else none
   have e : wantP xk [regU M r, regU M s] = wantB xk (trB M r) (trB M s) := by
    unfold wantP wantB
    by_cases h78 : xk = 7 ∨ xk = 8
    · rw [if_pos h78, if_neg (by omega : ¬ xk ≤ 6), if_neg (by omega : ¬ 9 ≤ xk)]
     show (trB M r == trB M s) = _
     cases trB M r <;> cases trB M s <;> rfl
    · rw [if_neg h78]
     unfold partsB numG regU
     by_cases h6 : xk ≤ 6
     · rw [if_pos h6, decide_eq_true h1, decide_eq_true h6]
      cases trB M r <;> cases trB M s <;> rfl
     · rw [if_neg h6, if_pos (by omega : 9 ≤ xk), decide_eq_false h6, Bool.and_false]
      cases trB M r <;> cases trB M s <;> rfl
   rw [e]
set_option maxRecDepth 100000 in
set_option maxHeartbeats 4000000 in
theorem makes_impl (B base : Nat) (M : Mkr) (xk ca cb : Int) (cc xs : ByteArray) (a : Option Addr) (cap n : Nat) (p : List Int) (hp : p.length = n) (hnd : n = needsI xk) (cv uv ov : Value) (w : World) (h : MkI w base B M cv uv ov) (g : GoodM M) (hrow : FuAt w a (p.map (regU M))) (hx : xk = 2 → xs ∈ M.cols) (hk1 : 1 ≤ xk) (hk2 : xk ≤ 12) (hcl : M.cols.length ≤ 1000) (hm : M.ops.length ≤ 1048576) (hbw : base ≤ w.heap.size) :
  Calls Tryz.prog 87 #[.pointer (some ⟨B, 0, none⟩), .agg #[.int .i64 xk, .int .i64 ca, .int .i64 cb, .string cc, .string xs], .slice a n cap] w (WrOut w base B (makeO M (xk, (ca, cb, cc), xs) p) cv uv ov) := by
 obtain ⟨E0, hE0, hA, h0, h1⟩ := two_boxes w (.cells #[.int .i64 xk, .int .i64 ca, .int .i64 cb, .string cc, .string xs] 97) (.cells #[.int .i64 0, .int .i64 0, .bool false] 51)
 have hMw := hid h
 have H := hid (h.below hA)
 have hBw := lt_of_heapN h.box
 have q0 : E0.cell? ⟨w.heap.size + 1, 0, none⟩ = some (.int .i64 0) := cell_of_row _ _ 0 _ _ _ h1
 have q1 : E0.cell? ⟨w.heap.size + 1, 1, none⟩ = some (.int .i64 0) := cell_of_row _ _ 1 _ _ _ h1
 have q2 : E0.cell? ⟨w.heap.size + 1, 2, none⟩ = some (.bool false) := cell_of_row _ _ 2 _ _ _ h1
 have hf : ∀ j, E0.frozen? ⟨w.heap.size + 1, j, none⟩ = false := fun j => by simp [World.frozen?, h1]
 have f0 := hf 0
 have f1 := hf 1
 have f2 := hf 2
 have H1 := hid h1
 have k0 : E0.cell? ⟨w.heap.size, 0, none⟩ = some (.int .i64 xk) := cell_of_row _ _ 0 _ _ _ h0
 have k1 : E0.cell? ⟨w.heap.size, 1, none⟩ = some (.int .i64 ca) := cell_of_row _ _ 1 _ _ _ h0
 have k2 : E0.cell? ⟨w.heap.size, 2, none⟩ = some (.int .i64 cb) := cell_of_row _ _ 2 _ _ _ h0
 have k3 : E0.cell? ⟨w.heap.size, 3, none⟩ = some (.string cc) := cell_of_row _ _ 3 _ _ _ h0
 have k4 : E0.cell? ⟨w.heap.size, 4, none⟩ = some (.string xs) := cell_of_row _ _ 4 _ _ _ h0
 have H0 := hid h0
 have HR := hid (hrow.below hA)
 have HP := hid hp
 have HND := hid hnd
 have HXX := hid hx
 have hbE := Nat.le_trans hbw hA.size
 clear h0 h1 hf h hrow hp hnd hx
 by_cases h1 : xk = 1
 · subst h1
  have HQ := hid (p := makeO M (1, (ca, cb, cc), xs) p = (if ca = 1 ∨ ca = 3 then newO M (2, 0, cb, 0) (decide (ca = 3)) else none)) (by unfold makeO leafO; simp [needsI])
  rw [HQ.out]
  have HW := hid (makescell_impl B base M ca cb cc cv uv ov E0 H.out g hm hbE)
  obtain ⟨R, hR⟩ : ∃ R, (if ca = 1 ∨ ca = 3 then newO M (2, 0, cb, 0) (decide (ca = 3)) else none) = R := ⟨_, rfl⟩
  rw [hR] at HW ⊢
  clear hR HQ
  go_enter Tryz.func87, Tryz.ntmps87
  go_wp2_with fail
  refine HW.out.mono ?_
  rintro e w2 hW
  have hv := hW.val
  obtain ⟨y0, y1, y2, ok, hy⟩ : ∃ y0 y1 y2 ok, wrV (R) = ((y0, y1, y2), ok) := ⟨_, _, _, _, rfl⟩
  rw [hy] at hv
  subst hv
  obtain ⟨hF, hbx2⟩ := hW.box hMw.out hbw hA (Nat.le_succ _) H1.out (.int .i64 y0) (.int .i64 y1) (.bool y2)
  have FIN := hid hF
  have q0 : w2.cell? ⟨w.heap.size + 1, 0, none⟩ = some (.int .i64 0) := cell_of_row _ _ 0 _ _ _ hbx2
  have q1 : w2.cell? ⟨w.heap.size + 1, 1, none⟩ = some (.int .i64 0) := cell_of_row _ _ 1 _ _ _ hbx2
  have q2 : w2.cell? ⟨w.heap.size + 1, 2, none⟩ = some (.bool false) := cell_of_row _ _ 2 _ _ _ hbx2
  have hf : ∀ j, w2.frozen? ⟨w.heap.size + 1, j, none⟩ = false := fun j => by simp [World.frozen?, hbx2]
  have f0 := hf 0
  have f1 := hf 1
  have f2 := hf 2
  clear hW hF hbx2 hy hf hE0
  go_wp2_with fail
  exact bodyPost_ret (v := .tuple #[.agg #[.int .i64 y0, .int .i64 y1, .bool y2], .bool ok]) (by simp [results, Tryz.results87, go_sem, q0, q1, q2]) rfl FIN.out
 by_cases h2 : xk = 2
 · subst h2
  have hin := HXX.out rfl
  have hpl : plcF M.cols xs < M.outs.length := by rw [g.len]; exact (plc_at hin).1
  obtain ⟨u, hu⟩ : ∃ u, M.outs.getD (plcF M.cols xs) zU = u := ⟨_, rfl⟩
  have humem : u ∈ M.outs := by
   rw [← hu, List.getD_eq_getElem?_getD, List.getElem?_eq_getElem hpl]
   exact List.getElem_mem hpl
  have hgu := g.outs u humem
  have HQ := hid (p := makeO M (2, (ca, cb, cc), xs) p = colO M u) (by
   unfold makeO leafO colO
   rw [← hu]
   simp [needsI])
  rw [HQ.out]
  have HO := hid (outof_impl B base M xs cv uv ov E0 H.out g hin hcl)
  rw [hu] at HO
  obtain ⟨u0, u1, u2⟩ := u
  have HW := hid (fun wz (hz : Below E0.heap.size E0 wz) => makescol_impl B base M u0 u1 u2 cv uv ov wz (H.out.below hz) g hgu hm (Nat.le_trans hbE hz.size))
  unfold fuV at HO
  dsimp only at HO
  clear hu humem hgu hpl hin
  go_enter Tryz.func87, Tryz.ntmps87
  go_wp2_with fail
  refine HO.out.mono ?_
  rintro e wa ⟨rfl, hba⟩
  have hxa := chain hA hba
  have H1a := hid ((hba.block _ (lt_of_heapN H1.out)).trans H1.out)
  have HWa := hid (HW.out wa hba)
  clear q0 q1 q2 f0 f1 f2 k0 k1 k2 k3 k4
  go_wp2_with fail
  refine HWa.out.mono ?_
  rintro e w2 hW
  have hv := hW.val
  obtain ⟨y0, y1, y2, ok, hy⟩ : ∃ y0 y1 y2 ok, wrV (colO M (u0, u1, u2)) = ((y0, y1, y2), ok) := ⟨_, _, _, _, rfl⟩
  rw [hy] at hv
  subst hv
  obtain ⟨hF, hbx2⟩ := hW.box hMw.out hbw hxa (Nat.le_succ _) H1a.out (.int .i64 y0) (.int .i64 y1) (.bool y2)
  have FIN := hid hF
  have q0 : w2.cell? ⟨w.heap.size + 1, 0, none⟩ = some (.int .i64 0) := cell_of_row _ _ 0 _ _ _ hbx2
  have q1 : w2.cell? ⟨w.heap.size + 1, 1, none⟩ = some (.int .i64 0) := cell_of_row _ _ 1 _ _ _ hbx2
  have q2 : w2.cell? ⟨w.heap.size + 1, 2, none⟩ = some (.bool false) := cell_of_row _ _ 2 _ _ _ hbx2
  have hf : ∀ j, w2.frozen? ⟨w.heap.size + 1, j, none⟩ = false := fun j => by simp [World.frozen?, hbx2]
  have f0 := hf 0
  have f1 := hf 1
  have f2 := hf 2
  clear hW hF hbx2 hy hf hE0
  go_wp2_with fail
  exact bodyPost_ret (v := .tuple #[.agg #[.int .i64 y0, .int .i64 y1, .bool y2], .bool ok]) (by simp [results, Tryz.results87, go_sem, q0, q1, q2]) rfl FIN.out
 by_cases h12 : xk = 12
 · subst h12
  have HQ := hid (p := makeO M (12, (ca, cb, cc), xs) p = newO M (2, 0, 0, 0) true) (by unfold makeO; simp [needsI])
  rw [HQ.out]
  have HW := hid (writes_impl B base M 2 0 0 0 true cv uv ov E0 H.out g hm hbE)
  go_enter Tryz.func87, Tryz.ntmps87
  go_wp2_with fail
  refine HW.out.mono ?_
  rintro e w2 hW
  have hv := hW.val
  obtain ⟨y0, y1, y2, ok, hy⟩ : ∃ y0 y1 y2 ok, wrV (newO M (2, 0, 0, 0) true) = ((y0, y1, y2), ok) := ⟨_, _, _, _, rfl⟩
  rw [hy] at hv
  subst hv
  obtain ⟨hF, hbx2⟩ := hW.box hMw.out hbw hA (Nat.le_succ _) H1.out (.int .i64 y0) (.int .i64 y1) (.bool y2)
  have FIN := hid hF
  have q0 : w2.cell? ⟨w.heap.size + 1, 0, none⟩ = some (.int .i64 0) := cell_of_row _ _ 0 _ _ _ hbx2
  have q1 : w2.cell? ⟨w.heap.size + 1, 1, none⟩ = some (.int .i64 0) := cell_of_row _ _ 1 _ _ _ hbx2
  have q2 : w2.cell? ⟨w.heap.size + 1, 2, none⟩ = some (.bool false) := cell_of_row _ _ 2 _ _ _ hbx2
  have hf : ∀ j, w2.frozen? ⟨w.heap.size + 1, j, none⟩ = false := fun j => by simp [World.frozen?, hbx2]
  have f0 := hf 0
  have f1 := hf 1
  have f2 := hf 2
  clear hW hF hbx2 hy hf hE0
  go_wp2_with fail
  exact bodyPost_ret (v := .tuple #[.agg #[.int .i64 y0, .int .i64 y1, .bool y2], .bool ok]) (by simp [results, Tryz.results87, go_sem, q0, q1, q2]) rfl FIN.out
 have e1 : (xk == 1) = false := by simp; omega
 have e2 : (xk == 2) = false := by simp; omega
 have e12 : (xk == 12) = false := by simp; omega
 have hnd2 : n = (if xk = 11 then 1 else 2) := by rw [HND.out]; unfold needsI; rw [if_neg (by omega)]; split <;> split <;> omega
 obtain ⟨wb, hwb⟩ : ∃ wb, wantP xk (p.map (regU M)) = wb := ⟨_, rfl⟩
 have HN2 := hid hnd2
 have HWN := hid (want_impl xk a cap n (p.map (regU M)) (by rw [List.length_map, HP.out]) (fun h => by rw [hnd2, if_neg h]) (by rw [hnd2]; split <;> omega) E0 HR.out wb hwb)
 have HQ := hid (p := makeO M (xk, (ca, cb, cc), xs) p = if wb = true then newO M (xk, 0, p.getD 0 0, if xk = 11 then 0 else p.getD 1 0) (decide (6 < xk)) else none) (by
  rw [← hwb]
  exact makeO_want M (ca, cb, cc) xs HP.out (by omega) (by omega) (by omega) hnd2)
 clear hnd2 hwb
 cases wb
 · rw [HQ.out, if_neg (by decide)]
  go_enter Tryz.func87, Tryz.ntmps87
  go_wp2_with fail
  refine HWN.out.mono ?_
  rintro e wa ⟨rfl, hba⟩
  have H1a := (hba.block _ (lt_of_heapN H1.out)).trans H1.out
  have q0 : wa.cell? ⟨w.heap.size + 1, 0, none⟩ = some (.int .i64 0) := cell_of_row _ _ 0 _ _ _ H1a
  have q1 : wa.cell? ⟨w.heap.size + 1, 1, none⟩ = some (.int .i64 0) := cell_of_row _ _ 1 _ _ _ H1a
  have q2 : wa.cell? ⟨w.heap.size + 1, 2, none⟩ = some (.bool false) := cell_of_row _ _ 2 _ _ _ H1a
  have hf : ∀ j, wa.frozen? ⟨w.heap.size + 1, j, none⟩ = false := fun j => by simp [World.frozen?, H1a]
  have f0 := hf 0
  have f1 := hf 1
  have f2 := hf 2
  have FIN := hid (p := WrOut w base B none cv uv ov (.returned (.tuple #[fuV zU, .bool false])) (((wa.setCell ⟨w.heap.size + 1, 0, none⟩ (.int .i64 0)).setCell ⟨w.heap.size + 1, 1, none⟩ (.int .i64 0)).setCell ⟨w.heap.size + 1, 2, none⟩ (.bool false))) ⟨rfl, (((chain hA hba).setCell (p := ⟨w.heap.size + 1, 0, none⟩) (Nat.le_succ _) _).setCell (p := ⟨w.heap.size + 1, 1, none⟩) (Nat.le_succ _) _).setCell (p := ⟨w.heap.size + 1, 2, none⟩) (Nat.le_succ _) _⟩
  clear hf H1a hE0
  go_wp2_with fail
  exact bodyPost_ret (v := .tuple #[fuV zU, .bool false]) (by simp [results, Tryz.results87, go_sem, q0, q1, q2, fuV, zU]) rfl FIN.out
 rw [HQ.out, if_pos rfl]
 have HOV := hid (fun (g : Nat) (e : ov.ownBlock = some g) => (hMw.out.ops.lt g e).2)
 have hnum : (decide (6 < xk)) = !(numG xk) := by unfold numG; rw [decide_eq_true (by omega : 3 ≤ xk), Bool.true_and, ← decide_not]; congr 1; simp
 obtain ⟨r0, hr0⟩ : ∃ r, p.getD 0 0 = r := ⟨_, rfl⟩
 obtain ⟨r1, hr1⟩ : ∃ r, p.getD 1 0 = r := ⟨_, rfl⟩
 rw [hr0, hr1, hnum]
 have hlen : 0 < (p.map (regU M)).length := by rw [List.length_map, HP.out, HN2.out]; split <;> omega
 obtain ⟨gp, op, rfl, hgp, c0, c1, c2⟩ := HR.out 0 hlen
 have c1' : E0.cell? ⟨gp, op + 1, none⟩ = some (.int .i64 r0) := by
  have e : ((p.map (regU M))[0]).2.1 = r0 := by
   rw [List.getElem_map, ← hr0, List.getD_eq_getElem?_getD, List.getElem?_eq_getElem (by rw [List.length_map] at hlen; exact hlen)]
   rfl
  rw [e] at c1
  exact c1
 by_cases h11 : xk = 11
 · subst h11
  have hn1 : n = 1 := by rw [HN2.out]; rfl
  subst hn1
  rw [if_pos rfl]
  clear c0 c1 c2 hlen hr0 hr1 HQ hnum
  go_enter Tryz.func87, Tryz.ntmps87
  go_wp2_with fail
  refine HWN.out.mono ?_
  rintro e wa ⟨rfl, hba⟩
  have c1a := (hba.cell (p := ⟨gp, op + 1, none⟩) hgp).trans c1'
  have hgpa := Nat.lt_of_lt_of_le hgp hba.size
  have H0a := (hba.block _ (lt_of_heapN H0.out)).trans H0.out
  have k0 : wa.cell? ⟨w.heap.size, 0, none⟩ = some (.int .i64 11) := cell_of_row _ _ 0 _ _ _ H0a
  have hwl := lt_of_heapN H0a
  clear k1 k2 k3 k4 q0 q1 q2 f0 f1 f2 c1' H0a hE0
  go_wp2_with fail
  refine wp_region_held_drew (S := (fun w' => w'.cell? ⟨w.heap.size, 0, none⟩ = some (.int .i64 11) ∧ w'.cell? ⟨gp, op + 1, none⟩ = some (.int .i64 r0))) (by kernel_rfl) ⟨k0, c1a⟩ (fun hHeld => ?_)
  refine tkH 0 ?_
  simp only [Act.put, ptT, ptZ, ptS]
  refine tkH 1 ?_
  simp only [Act.put, ptT, ptZ, ptS]
  refine tkH 3 ?_
  simp only [Act.put, ptT, ptZ, ptS]
  refine tkH 4 ?_
  simp only [Act.put, ptT, ptZ, ptS]
  refine tkH 5 ?_
  simp only [Act.put, ptT, ptZ, ptS]
  refine tkH 6 ?_
  simp only [Act.put, ptT, ptZ, ptS]
  refine twoH 2 8 ?_ ?_
  · intro K hK
   go_simp
   refine (opkind_impl 11 (by decide) (by decide) _).mono ?_
   rintro e w3 ⟨rfl, rfl⟩
   go_wp2_with fail
   refine hK.out _ _ hHeld (fun hHeld => ?_)
   clear hK K
   try simp only [Act.put, ptT, ptZ, ptS]
   refine tkH 7 ?_
   simp only [Act.put, ptT, ptZ, ptS]
   refine oneH 8 ?_
   intro K hK
   go_simp
   refine hK.out _ _ ?_ (fun hHeld => ?_)
   · (((try dsimp only); (repeat' apply And.intro) <;> first | (go_keep; done) | (simp (disch := first | omega | (simp <;> omega) | fail) [*]; done) | fail))
   clear hK K
   try simp only [Act.put, ptT, ptZ, ptS]
   refine oneH 9 ?_
   intro K hK
   go_simp
   refine hK.out _ _ ?_ (fun hHeld => ?_)
   · (((try dsimp only); (repeat' apply And.intro) <;> first | (go_keep; done) | (simp (disch := first | omega | (simp <;> omega) | fail) [*]; done) | fail))
   clear hK K
   try simp only [Act.put, ptT, ptZ, ptS]
   refine wpAnyH_done (by kernel_rfl) ?_ _
   obtain ⟨V, hV⟩ : ∃ z, z = (wa.alloc (.cells #[.int .i64 11, .int .i64 0, .int .i64 r0, .int .i64 0] 75)).drew := ⟨_, rfl⟩
   have hbV : Below wa.heap.size wa V := by rw [hV]; exact ((Below.refl _ _).alloc (Nat.le_refl _) _).drew
   have hoV : V.heap[wa.heap.size]? = some (.cells #[.int .i64 11, .int .i64 0, .int .i64 r0, .int .i64 0] 75) := by rw [hV]; exact _root_.Go.heap_alloc_new wa _
   rw [← hV]
   clear hV hHeld
   have k0V := (hbV.cell (p := ⟨w.heap.size, 0, none⟩) hwl).trans k0
   have c1V := (hbV.cell (p := ⟨gp, op + 1, none⟩) hgpa).trans c1a
   obtain ⟨o0, o1, o2, o3⟩ := cells4 hoV
   have hbU := hbV
   go_wp2_with fail
   have hxad := (chain (chain hA hba) hbU).drew
   have hUd := hbU.drew
   have H1a := hid (p := V.drew.heap[w.heap.size + 1]? = some (.cells #[.int .i64 0, .int .i64 0, .bool false] 51)) ((hUd.block _ (Nat.lt_of_lt_of_le (lt_of_heapN H1.out) hba.size)).trans ((hba.block _ (lt_of_heapN H1.out)).trans H1.out))
   have H0a := hid (p := V.drew.heap[w.heap.size]? = some (.cells #[.int .i64 11, .int .i64 ca, .int .i64 cb, .string cc, .string xs] 97)) ((hUd.block _ hwl).trans ((hba.block _ (lt_of_heapN H0.out)).trans H0.out))
   have HOa := hid (p := V.drew.heap[wa.heap.size]? = some (.cells #[.int .i64 11, .int .i64 0, .int .i64 r0, .int .i64 0] 75)) hoV
   have hltO := lt_of_heapN HOa.out
   have hltX := lt_of_heapN H0a.out
   have hws : w.heap.size + 1 < wa.heap.size := Nat.lt_of_lt_of_le (lt_of_heapN H1.out) hba.size
   have HWa := hid (writes_impl B base M 11 0 r0 0 (!numG 11) cv uv ov V.drew ((H.out.below hba).below hUd) g hm (Nat.le_trans (Nat.le_trans hbE hba.size) hUd.size))
   clear hUd
   refine wp_region_held_drew (S := (fun w' => w'.cell? ⟨w.heap.size, 0, none⟩ = some (.int .i64 11) ∧ ((w'.cell? ⟨wa.heap.size, 0, none⟩ = some (.int .i64 11) ∧ w'.cell? ⟨wa.heap.size, 1, none⟩ = some (.int .i64 0)) ∧ w'.cell? ⟨wa.heap.size, 2, none⟩ = some (.int .i64 r0) ∧ w'.cell? ⟨wa.heap.size, 3, none⟩ = some (.int .i64 0)))) (by kernel_rfl) ⟨k0V, ⟨o0, o1⟩, o2, o3⟩ (fun hHeld => ?_)
   refine tkH 0 ?_
   simp only [Act.put, ptT, ptZ, ptS]
   refine tkH 1 ?_
   simp only [Act.put, ptT, ptZ, ptS]
   refine tkH 2 ?_
   simp only [Act.put, ptT, ptZ, ptS]
   refine tkH 3 ?_
   simp only [Act.put, ptT, ptZ, ptS]
   refine oneH 4 ?_
   intro K hK
   go_simp
   refine (isnum_impl 11 _ (numG 11) rfl).mono ?_
   rintro e w3 ⟨rfl, rfl⟩
   go_wp2_with fail
   refine hK.out _ _ hHeld (fun hHeld => ?_)
   clear hK K
   try simp only [Act.put, ptT, ptZ, ptS]
   refine tkH 5 ?_
   simp only [Act.put, ptT, ptZ, ptS]
   refine oneH 6 ?_
   intro K hK
   go_simp
   refine HWa.out.mono ?_
   rintro e w2 hW
   have hv := hW.val
   obtain ⟨y0, y1, y2, ok, hy⟩ : ∃ y0 y1 y2 ok, wrV (newO M (11, 0, r0, 0) !numG 11) = ((y0, y1, y2), ok) := ⟨_, _, _, _, rfl⟩
   rw [hy] at hv
   subst hv
   have hxz := hW.kept wa.heap.size hltO (by omega) (fun e => by have := HOV.out _ e; omega)
   have hxx := hW.kept w.heap.size hltX (by omega) (fun e => by have := HOV.out _ e; omega)
   obtain ⟨o0', o1', o2', o3'⟩ := cells4 (hxz.trans HOa.out)
   have k0' := cell_of_row _ _ 0 _ _ _ (hxx.trans H0a.out)
   obtain ⟨hF, hbx2⟩ := hW.box hMw.out hbw hxad (Nat.le_succ _) H1a.out (.int .i64 y0) (.int .i64 y1) (.bool y2)
   have FIN := hid hF
   have q0 : w2.cell? ⟨w.heap.size + 1, 0, none⟩ = some (.int .i64 0) := cell_of_row _ _ 0 _ _ _ hbx2
   have q1 : w2.cell? ⟨w.heap.size + 1, 1, none⟩ = some (.int .i64 0) := cell_of_row _ _ 1 _ _ _ hbx2
   have q2 : w2.cell? ⟨w.heap.size + 1, 2, none⟩ = some (.bool false) := cell_of_row _ _ 2 _ _ _ hbx2
   have hf : ∀ j, w2.frozen? ⟨w.heap.size + 1, j, none⟩ = false := fun j => by simp [World.frozen?, hbx2]
   have f0 := hf 0
   have f1 := hf 1
   have f2 := hf 2
   clear hW hF hbx2 hy hf hHeld hxz hxx
   go_wp2_with fail
   refine hK.out _ _ ⟨k0', ⟨o0', o1'⟩, o2', o3'⟩ (fun hHeld => ?_)
   clear hK K
   try simp only [Act.put, ptT, ptZ, ptS]
   refine tkH 7 ?_
   simp only [Act.put, ptT, ptZ, ptS]
   refine tkH 8 ?_
   simp only [Act.put, ptT, ptZ, ptS]
   refine oneH 9 ?_
   intro K hK
   go_simp
   refine hK.out _ _ ?_ (fun hHeld => ?_)
   · (((try dsimp only); (repeat' apply And.intro) <;> first | (go_keep; done) | (simp (disch := first | omega | (simp <;> omega) | fail) [*]; done) | fail))
   clear hK K
   try simp only [Act.put, ptT, ptZ, ptS]
   refine tkH 10 ?_
   simp only [Act.put, ptT, ptZ, ptS]
   refine wpAnyH_done (by kernel_rfl) ?_ _
   clear hHeld
   go_wp2_with fail
   exact bodyPost_ret (v := .tuple #[.agg #[.int .i64 y0, .int .i64 y1, .bool y2], .bool ok]) (by simp [results, Tryz.results87, go_sem, q0, q1, q2]) rfl FIN.out
  · intro K hK
   go_simp
   refine hK.out _ _ ?_ (fun hHeld => ?_)
   · (((try dsimp only); (repeat' apply And.intro) <;> first | (go_keep; done) | (simp (disch := first | omega | (simp <;> omega) | fail) [*]; done) | fail))
   clear hK K
   try simp only [Act.put, ptT, ptZ, ptS]
   refine oneH 2 ?_
   intro K hK
   go_simp
   refine (opkind_impl 11 (by decide) (by decide) _).mono ?_
   rintro e w3 ⟨rfl, rfl⟩
   go_wp2_with fail
   refine hK.out _ _ hHeld (fun hHeld => ?_)
   clear hK K
   try simp only [Act.put, ptT, ptZ, ptS]
   refine tkH 7 ?_
   simp only [Act.put, ptT, ptZ, ptS]
   refine oneH 9 ?_
   intro K hK
   go_simp
   refine hK.out _ _ ?_ (fun hHeld => ?_)
   · (((try dsimp only); (repeat' apply And.intro) <;> first | (go_keep; done) | (simp (disch := first | omega | (simp <;> omega) | fail) [*]; done) | fail))
   clear hK K
   try simp only [Act.put, ptT, ptZ, ptS]
   refine wpAnyH_done (by kernel_rfl) ?_ _
   obtain ⟨V, hV⟩ : ∃ z, z = (wa.alloc (.cells #[.int .i64 11, .int .i64 0, .int .i64 r0, .int .i64 0] 75)).drew := ⟨_, rfl⟩
   have hbV : Below wa.heap.size wa V := by rw [hV]; exact ((Below.refl _ _).alloc (Nat.le_refl _) _).drew
   have hoV : V.heap[wa.heap.size]? = some (.cells #[.int .i64 11, .int .i64 0, .int .i64 r0, .int .i64 0] 75) := by rw [hV]; exact _root_.Go.heap_alloc_new wa _
   rw [← hV]
   clear hV hHeld
   have k0V := (hbV.cell (p := ⟨w.heap.size, 0, none⟩) hwl).trans k0
   have c1V := (hbV.cell (p := ⟨gp, op + 1, none⟩) hgpa).trans c1a
   obtain ⟨o0, o1, o2, o3⟩ := cells4 hoV
   have hbU := hbV
   go_wp2_with fail
   have hxad := (chain (chain hA hba) hbU).drew
   have hUd := hbU.drew
   have H1a := hid (p := V.drew.heap[w.heap.size + 1]? = some (.cells #[.int .i64 0, .int .i64 0, .bool false] 51)) ((hUd.block _ (Nat.lt_of_lt_of_le (lt_of_heapN H1.out) hba.size)).trans ((hba.block _ (lt_of_heapN H1.out)).trans H1.out))
   have H0a := hid (p := V.drew.heap[w.heap.size]? = some (.cells #[.int .i64 11, .int .i64 ca, .int .i64 cb, .string cc, .string xs] 97)) ((hUd.block _ hwl).trans ((hba.block _ (lt_of_heapN H0.out)).trans H0.out))
   have HOa := hid (p := V.drew.heap[wa.heap.size]? = some (.cells #[.int .i64 11, .int .i64 0, .int .i64 r0, .int .i64 0] 75)) hoV
   have hltO := lt_of_heapN HOa.out
   have hltX := lt_of_heapN H0a.out
   have hws : w.heap.size + 1 < wa.heap.size := Nat.lt_of_lt_of_le (lt_of_heapN H1.out) hba.size
   have HWa := hid (writes_impl B base M 11 0 r0 0 (!numG 11) cv uv ov V.drew ((H.out.below hba).below hUd) g hm (Nat.le_trans (Nat.le_trans hbE hba.size) hUd.size))
   clear hUd
   refine wp_region_held_drew (S := (fun w' => w'.cell? ⟨w.heap.size, 0, none⟩ = some (.int .i64 11) ∧ ((w'.cell? ⟨wa.heap.size, 0, none⟩ = some (.int .i64 11) ∧ w'.cell? ⟨wa.heap.size, 1, none⟩ = some (.int .i64 0)) ∧ w'.cell? ⟨wa.heap.size, 2, none⟩ = some (.int .i64 r0) ∧ w'.cell? ⟨wa.heap.size, 3, none⟩ = some (.int .i64 0)))) (by kernel_rfl) ⟨k0V, ⟨o0, o1⟩, o2, o3⟩ (fun hHeld => ?_)
   refine tkH 0 ?_
   simp only [Act.put, ptT, ptZ, ptS]
   refine tkH 1 ?_
   simp only [Act.put, ptT, ptZ, ptS]
   refine tkH 2 ?_
   simp only [Act.put, ptT, ptZ, ptS]
   refine tkH 3 ?_
   simp only [Act.put, ptT, ptZ, ptS]
   refine oneH 4 ?_
   intro K hK
   go_simp
   refine (isnum_impl 11 _ (numG 11) rfl).mono ?_
   rintro e w3 ⟨rfl, rfl⟩
   go_wp2_with fail
   refine hK.out _ _ hHeld (fun hHeld => ?_)
   clear hK K
   try simp only [Act.put, ptT, ptZ, ptS]
   refine tkH 5 ?_
   simp only [Act.put, ptT, ptZ, ptS]
   refine oneH 6 ?_
   intro K hK
   go_simp
   refine HWa.out.mono ?_
   rintro e w2 hW
   have hv := hW.val
   obtain ⟨y0, y1, y2, ok, hy⟩ : ∃ y0 y1 y2 ok, wrV (newO M (11, 0, r0, 0) !numG 11) = ((y0, y1, y2), ok) := ⟨_, _, _, _, rfl⟩
   rw [hy] at hv
   subst hv
   have hxz := hW.kept wa.heap.size hltO (by omega) (fun e => by have := HOV.out _ e; omega)
   have hxx := hW.kept w.heap.size hltX (by omega) (fun e => by have := HOV.out _ e; omega)
   obtain ⟨o0', o1', o2', o3'⟩ := cells4 (hxz.trans HOa.out)
   have k0' := cell_of_row _ _ 0 _ _ _ (hxx.trans H0a.out)
   obtain ⟨hF, hbx2⟩ := hW.box hMw.out hbw hxad (Nat.le_succ _) H1a.out (.int .i64 y0) (.int .i64 y1) (.bool y2)
   have FIN := hid hF
   have q0 : w2.cell? ⟨w.heap.size + 1, 0, none⟩ = some (.int .i64 0) := cell_of_row _ _ 0 _ _ _ hbx2
   have q1 : w2.cell? ⟨w.heap.size + 1, 1, none⟩ = some (.int .i64 0) := cell_of_row _ _ 1 _ _ _ hbx2
   have q2 : w2.cell? ⟨w.heap.size + 1, 2, none⟩ = some (.bool false) := cell_of_row _ _ 2 _ _ _ hbx2
   have hf : ∀ j, w2.frozen? ⟨w.heap.size + 1, j, none⟩ = false := fun j => by simp [World.frozen?, hbx2]
   have f0 := hf 0
   have f1 := hf 1
   have f2 := hf 2
   clear hW hF hbx2 hy hf hHeld hxz hxx
   go_wp2_with fail
   refine hK.out _ _ ⟨k0', ⟨o0', o1'⟩, o2', o3'⟩ (fun hHeld => ?_)
   clear hK K
   try simp only [Act.put, ptT, ptZ, ptS]
   refine tkH 7 ?_
   simp only [Act.put, ptT, ptZ, ptS]
   refine tkH 8 ?_
   simp only [Act.put, ptT, ptZ, ptS]
   refine oneH 9 ?_
   intro K hK
   go_simp
   refine hK.out _ _ ?_ (fun hHeld => ?_)
   · (((try dsimp only); (repeat' apply And.intro) <;> first | (go_keep; done) | (simp (disch := first | omega | (simp <;> omega) | fail) [*]; done) | fail))
   clear hK K
   try simp only [Act.put, ptT, ptZ, ptS]
   refine tkH 10 ?_
   simp only [Act.put, ptT, ptZ, ptS]
   refine wpAnyH_done (by kernel_rfl) ?_ _
   clear hHeld
   go_wp2_with fail
   exact bodyPost_ret (v := .tuple #[.agg #[.int .i64 y0, .int .i64 y1, .bool y2], .bool ok]) (by simp [results, Tryz.results87, go_sem, q0, q1, q2]) rfl FIN.out
 have hn2 : n = 2 := by rw [HN2.out, if_neg h11]
 subst hn2
 rw [if_neg h11]
 have hlen1 : 1 < (p.map (regU M)).length := by rw [List.length_map, HP.out]; omega
 obtain ⟨gp', op', e', _, d0, d1, d2⟩ := HR.out 1 hlen1
 cases e'
 have d1' : E0.cell? ⟨gp, op + 3 + 1, none⟩ = some (.int .i64 r1) := by
  have e : ((p.map (regU M))[1]).2.1 = r1 := by
   rw [List.getElem_map, ← hr1, List.getD_eq_getElem?_getD, List.getElem?_eq_getElem (by rw [List.length_map] at hlen1; exact hlen1)]
   rfl
  rw [e] at d1
  exact d1
 have e11 : (xk == 11) = false := by simp; omega
 have hk3 : 3 ≤ xk := by omega
 clear c0 c1 c2 d0 d1 d2 hlen hlen1 hr0 hr1 HQ hnum
 go_enter Tryz.func87, Tryz.ntmps87
 go_wp2_with fail
 refine HWN.out.mono ?_
 rintro e wa ⟨rfl, hba⟩
 have c1a := (hba.cell (p := ⟨gp, op + 1, none⟩) hgp).trans c1'
 have d1a := (hba.cell (p := ⟨gp, op + 3 + 1, none⟩) hgp).trans d1'
 have hgpa := Nat.lt_of_lt_of_le hgp hba.size
 have H0a := (hba.block _ (lt_of_heapN H0.out)).trans H0.out
 have k0 : wa.cell? ⟨w.heap.size, 0, none⟩ = some (.int .i64 xk) := cell_of_row _ _ 0 _ _ _ H0a
 have hwl := lt_of_heapN H0a
 clear k1 k2 k3 k4 q0 q1 q2 f0 f1 f2 c1' d1' H0a hE0
 go_wp2_with fail
 refine wp_region_held_drew (S := (fun w' => w'.cell? ⟨w.heap.size, 0, none⟩ = some (.int .i64 xk) ∧ w'.cell? ⟨gp, op + 1, none⟩ = some (.int .i64 r0))) (by kernel_rfl) ⟨k0, c1a⟩ (fun hHeld => ?_)
 refine tkH 0 ?_
 simp only [Act.put, ptT, ptZ, ptS]
 refine tkH 1 ?_
 simp only [Act.put, ptT, ptZ, ptS]
 refine tkH 3 ?_
 simp only [Act.put, ptT, ptZ, ptS]
 refine tkH 4 ?_
 simp only [Act.put, ptT, ptZ, ptS]
 refine tkH 5 ?_
 simp only [Act.put, ptT, ptZ, ptS]
 refine tkH 6 ?_
 simp only [Act.put, ptT, ptZ, ptS]
 refine twoH 2 8 ?_ ?_
 · intro K hK
  go_simp
  refine (opkind_impl xk (by omega) (by omega) _).mono ?_
  rintro e w3 ⟨rfl, rfl⟩
  go_wp2_with fail
  refine hK.out _ _ hHeld (fun hHeld => ?_)
  clear hK K
  try simp only [Act.put, ptT, ptZ, ptS]
  refine tkH 7 ?_
  simp only [Act.put, ptT, ptZ, ptS]
  refine oneH 8 ?_
  intro K hK
  go_simp
  refine hK.out _ _ ?_ (fun hHeld => ?_)
  · (((try dsimp only); (repeat' apply And.intro) <;> first | (go_keep; done) | (simp (disch := first | omega | (simp <;> omega) | fail) [*]; done) | fail))
  clear hK K
  try simp only [Act.put, ptT, ptZ, ptS]
  refine oneH 9 ?_
  intro K hK
  go_simp
  refine hK.out _ _ ?_ (fun hHeld => ?_)
  · (((try dsimp only); (repeat' apply And.intro) <;> first | (go_keep; done) | (simp (disch := first | omega | (simp <;> omega) | fail) [*]; done) | fail))
  clear hK K
  try simp only [Act.put, ptT, ptZ, ptS]
  refine wpAnyH_done (by kernel_rfl) ?_ _
  obtain ⟨V, hV⟩ : ∃ z, z = (wa.alloc (.cells #[.int .i64 xk, .int .i64 0, .int .i64 r0, .int .i64 0] 75)).drew := ⟨_, rfl⟩
  have hbV : Below wa.heap.size wa V := by rw [hV]; exact ((Below.refl _ _).alloc (Nat.le_refl _) _).drew
  have hoV : V.heap[wa.heap.size]? = some (.cells #[.int .i64 xk, .int .i64 0, .int .i64 r0, .int .i64 0] 75) := by rw [hV]; exact _root_.Go.heap_alloc_new wa _
  rw [← hV]
  clear hV hHeld
  have k0V := (hbV.cell (p := ⟨w.heap.size, 0, none⟩) hwl).trans k0
  have c1V := (hbV.cell (p := ⟨gp, op + 1, none⟩) hgpa).trans c1a
  have d1V := (hbV.cell (p := ⟨gp, op + 3 + 1, none⟩) hgpa).trans d1a
  have d2V : V.cell? ⟨gp, op + 4, none⟩ = some (.int .i64 r1) := d1V
  have ff3 : V.frozen? ⟨wa.heap.size, 3, none⟩ = false := by simp [World.frozen?, hoV]
  have o3' : V.cell? ⟨wa.heap.size, 3, none⟩ = some (.int .i64 0) := cell_of_row _ _ 3 _ _ _ hoV
  have hgne : gp ≠ wa.heap.size := by omega
  have hbW := block_setCell (i := 3) hoV (.int .i64 r1)
  have hbX : Below wa.heap.size wa (V.setCell ⟨wa.heap.size, 3, none⟩ (.int .i64 r1)) := hbV.setCell (p := ⟨wa.heap.size, 3, none⟩) (Nat.le_refl _) _
  obtain ⟨U, hU⟩ : ∃ z, z = V.setCell ⟨wa.heap.size, 3, none⟩ (.int .i64 r1) := ⟨_, rfl⟩
  go_wp2_with fail
  rw [← hU] at hbX hbW ⊢
  clear hU k0V c1V d1V d2V o3' ff3 hoV hbV
  have k0V := (hbX.cell (p := ⟨w.heap.size, 0, none⟩) hwl).trans k0
  obtain ⟨o0, o1, o2, o3⟩ : U.cell? ⟨wa.heap.size, 0, none⟩ = some (.int .i64 xk) ∧ U.cell? ⟨wa.heap.size, 1, none⟩ = some (.int .i64 0) ∧ U.cell? ⟨wa.heap.size, 2, none⟩ = some (.int .i64 r0) ∧ U.cell? ⟨wa.heap.size, 3, none⟩ = some (.int .i64 r1) := cells4 hbW
  have hbU := hbX
  have hxad := (chain (chain hA hba) hbU).drew
  have hUd := hbU.drew
  have H1a := hid (p := U.drew.heap[w.heap.size + 1]? = some (.cells #[.int .i64 0, .int .i64 0, .bool false] 51)) ((hUd.block _ (Nat.lt_of_lt_of_le (lt_of_heapN H1.out) hba.size)).trans ((hba.block _ (lt_of_heapN H1.out)).trans H1.out))
  have H0a := hid (p := U.drew.heap[w.heap.size]? = some (.cells #[.int .i64 xk, .int .i64 ca, .int .i64 cb, .string cc, .string xs] 97)) ((hUd.block _ hwl).trans ((hba.block _ (lt_of_heapN H0.out)).trans H0.out))
  have HOa := hid (p := U.drew.heap[wa.heap.size]? = some (.cells #[.int .i64 xk, .int .i64 0, .int .i64 r0, .int .i64 r1] 75)) hbW
  have hltO := lt_of_heapN HOa.out
  have hltX := lt_of_heapN H0a.out
  have hws : w.heap.size + 1 < wa.heap.size := Nat.lt_of_lt_of_le (lt_of_heapN H1.out) hba.size
  have HWa := hid (writes_impl B base M xk 0 r0 r1 (!numG xk) cv uv ov U.drew ((H.out.below hba).below hUd) g hm (Nat.le_trans (Nat.le_trans hbE hba.size) hUd.size))
  clear hUd
  refine wp_region_held_drew (S := (fun w' => w'.cell? ⟨w.heap.size, 0, none⟩ = some (.int .i64 xk) ∧ ((w'.cell? ⟨wa.heap.size, 0, none⟩ = some (.int .i64 xk) ∧ w'.cell? ⟨wa.heap.size, 1, none⟩ = some (.int .i64 0)) ∧ w'.cell? ⟨wa.heap.size, 2, none⟩ = some (.int .i64 r0) ∧ w'.cell? ⟨wa.heap.size, 3, none⟩ = some (.int .i64 r1)))) (by kernel_rfl) ⟨k0V, ⟨o0, o1⟩, o2, o3⟩ (fun hHeld => ?_)
  refine tkH 0 ?_
  simp only [Act.put, ptT, ptZ, ptS]
  refine tkH 1 ?_
  simp only [Act.put, ptT, ptZ, ptS]
  refine tkH 2 ?_
  simp only [Act.put, ptT, ptZ, ptS]
  refine tkH 3 ?_
  simp only [Act.put, ptT, ptZ, ptS]
  refine oneH 4 ?_
  intro K hK
  go_simp
  refine (isnum_impl xk _ (numG xk) rfl).mono ?_
  rintro e w3 ⟨rfl, rfl⟩
  go_wp2_with fail
  refine hK.out _ _ hHeld (fun hHeld => ?_)
  clear hK K
  try simp only [Act.put, ptT, ptZ, ptS]
  refine tkH 5 ?_
  simp only [Act.put, ptT, ptZ, ptS]
  refine oneH 6 ?_
  intro K hK
  go_simp
  refine HWa.out.mono ?_
  rintro e w2 hW
  have hv := hW.val
  obtain ⟨y0, y1, y2, ok, hy⟩ : ∃ y0 y1 y2 ok, wrV (newO M (xk, 0, r0, r1) !numG xk) = ((y0, y1, y2), ok) := ⟨_, _, _, _, rfl⟩
  rw [hy] at hv
  subst hv
  have hxz := hW.kept wa.heap.size hltO (by omega) (fun e => by have := HOV.out _ e; omega)
  have hxx := hW.kept w.heap.size hltX (by omega) (fun e => by have := HOV.out _ e; omega)
  obtain ⟨o0', o1', o2', o3'⟩ := cells4 (hxz.trans HOa.out)
  have k0' := cell_of_row _ _ 0 _ _ _ (hxx.trans H0a.out)
  obtain ⟨hF, hbx2⟩ := hW.box hMw.out hbw hxad (Nat.le_succ _) H1a.out (.int .i64 y0) (.int .i64 y1) (.bool y2)
  have FIN := hid hF
  have q0 : w2.cell? ⟨w.heap.size + 1, 0, none⟩ = some (.int .i64 0) := cell_of_row _ _ 0 _ _ _ hbx2
  have q1 : w2.cell? ⟨w.heap.size + 1, 1, none⟩ = some (.int .i64 0) := cell_of_row _ _ 1 _ _ _ hbx2
  have q2 : w2.cell? ⟨w.heap.size + 1, 2, none⟩ = some (.bool false) := cell_of_row _ _ 2 _ _ _ hbx2
  have hf : ∀ j, w2.frozen? ⟨w.heap.size + 1, j, none⟩ = false := fun j => by simp [World.frozen?, hbx2]
  have f0 := hf 0
  have f1 := hf 1
  have f2 := hf 2
  clear hW hF hbx2 hy hf hHeld hxz hxx
  go_wp2_with fail
  refine hK.out _ _ ⟨k0', ⟨o0', o1'⟩, o2', o3'⟩ (fun hHeld => ?_)
  clear hK K
  try simp only [Act.put, ptT, ptZ, ptS]
  refine tkH 7 ?_
  simp only [Act.put, ptT, ptZ, ptS]
  refine tkH 8 ?_
  simp only [Act.put, ptT, ptZ, ptS]
  refine oneH 9 ?_
  intro K hK
  go_simp
  refine hK.out _ _ ?_ (fun hHeld => ?_)
  · (((try dsimp only); (repeat' apply And.intro) <;> first | (go_keep; done) | (simp (disch := first | omega | (simp <;> omega) | fail) [*]; done) | fail))
  clear hK K
  try simp only [Act.put, ptT, ptZ, ptS]
  refine tkH 10 ?_
  simp only [Act.put, ptT, ptZ, ptS]
  refine wpAnyH_done (by kernel_rfl) ?_ _
  clear hHeld
  go_wp2_with fail
  exact bodyPost_ret (v := .tuple #[.agg #[.int .i64 y0, .int .i64 y1, .bool y2], .bool ok]) (by simp [results, Tryz.results87, go_sem, q0, q1, q2]) rfl FIN.out
 · intro K hK
  go_simp
  refine hK.out _ _ ?_ (fun hHeld => ?_)
  · (((try dsimp only); (repeat' apply And.intro) <;> first | (go_keep; done) | (simp (disch := first | omega | (simp <;> omega) | fail) [*]; done) | fail))
  clear hK K
  try simp only [Act.put, ptT, ptZ, ptS]
  refine oneH 2 ?_
  intro K hK
  go_simp
  refine (opkind_impl xk (by omega) (by omega) _).mono ?_
  rintro e w3 ⟨rfl, rfl⟩
  go_wp2_with fail
  refine hK.out _ _ hHeld (fun hHeld => ?_)
  clear hK K
  try simp only [Act.put, ptT, ptZ, ptS]
  refine tkH 7 ?_
  simp only [Act.put, ptT, ptZ, ptS]
  refine oneH 9 ?_
  intro K hK
  go_simp
  refine hK.out _ _ ?_ (fun hHeld => ?_)
  · (((try dsimp only); (repeat' apply And.intro) <;> first | (go_keep; done) | (simp (disch := first | omega | (simp <;> omega) | fail) [*]; done) | fail))
  clear hK K
  try simp only [Act.put, ptT, ptZ, ptS]
  refine wpAnyH_done (by kernel_rfl) ?_ _
  obtain ⟨V, hV⟩ : ∃ z, z = (wa.alloc (.cells #[.int .i64 xk, .int .i64 0, .int .i64 r0, .int .i64 0] 75)).drew := ⟨_, rfl⟩
  have hbV : Below wa.heap.size wa V := by rw [hV]; exact ((Below.refl _ _).alloc (Nat.le_refl _) _).drew
  have hoV : V.heap[wa.heap.size]? = some (.cells #[.int .i64 xk, .int .i64 0, .int .i64 r0, .int .i64 0] 75) := by rw [hV]; exact _root_.Go.heap_alloc_new wa _
  rw [← hV]
  clear hV hHeld
  have k0V := (hbV.cell (p := ⟨w.heap.size, 0, none⟩) hwl).trans k0
  have c1V := (hbV.cell (p := ⟨gp, op + 1, none⟩) hgpa).trans c1a
  have d1V := (hbV.cell (p := ⟨gp, op + 3 + 1, none⟩) hgpa).trans d1a
  have d2V : V.cell? ⟨gp, op + 4, none⟩ = some (.int .i64 r1) := d1V
  have ff3 : V.frozen? ⟨wa.heap.size, 3, none⟩ = false := by simp [World.frozen?, hoV]
  have o3' : V.cell? ⟨wa.heap.size, 3, none⟩ = some (.int .i64 0) := cell_of_row _ _ 3 _ _ _ hoV
  have hgne : gp ≠ wa.heap.size := by omega
  have hbW := block_setCell (i := 3) hoV (.int .i64 r1)
  have hbX : Below wa.heap.size wa (V.setCell ⟨wa.heap.size, 3, none⟩ (.int .i64 r1)) := hbV.setCell (p := ⟨wa.heap.size, 3, none⟩) (Nat.le_refl _) _
  obtain ⟨U, hU⟩ : ∃ z, z = V.setCell ⟨wa.heap.size, 3, none⟩ (.int .i64 r1) := ⟨_, rfl⟩
  go_wp2_with fail
  rw [← hU] at hbX hbW ⊢
  clear hU k0V c1V d1V d2V o3' ff3 hoV hbV
  have k0V := (hbX.cell (p := ⟨w.heap.size, 0, none⟩) hwl).trans k0
  obtain ⟨o0, o1, o2, o3⟩ : U.cell? ⟨wa.heap.size, 0, none⟩ = some (.int .i64 xk) ∧ U.cell? ⟨wa.heap.size, 1, none⟩ = some (.int .i64 0) ∧ U.cell? ⟨wa.heap.size, 2, none⟩ = some (.int .i64 r0) ∧ U.cell? ⟨wa.heap.size, 3, none⟩ = some (.int .i64 r1) := cells4 hbW
  have hbU := hbX
  have hxad := (chain (chain hA hba) hbU).drew
  have hUd := hbU.drew
  have H1a := hid (p := U.drew.heap[w.heap.size + 1]? = some (.cells #[.int .i64 0, .int .i64 0, .bool false] 51)) ((hUd.block _ (Nat.lt_of_lt_of_le (lt_of_heapN H1.out) hba.size)).trans ((hba.block _ (lt_of_heapN H1.out)).trans H1.out))
  have H0a := hid (p := U.drew.heap[w.heap.size]? = some (.cells #[.int .i64 xk, .int .i64 ca, .int .i64 cb, .string cc, .string xs] 97)) ((hUd.block _ hwl).trans ((hba.block _ (lt_of_heapN H0.out)).trans H0.out))
  have HOa := hid (p := U.drew.heap[wa.heap.size]? = some (.cells #[.int .i64 xk, .int .i64 0, .int .i64 r0, .int .i64 r1] 75)) hbW
  have hltO := lt_of_heapN HOa.out
  have hltX := lt_of_heapN H0a.out
  have hws : w.heap.size + 1 < wa.heap.size := Nat.lt_of_lt_of_le (lt_of_heapN H1.out) hba.size
  have HWa := hid (writes_impl B base M xk 0 r0 r1 (!numG xk) cv uv ov U.drew ((H.out.below hba).below hUd) g hm (Nat.le_trans (Nat.le_trans hbE hba.size) hUd.size))
  clear hUd
  refine wp_region_held_drew (S := (fun w' => w'.cell? ⟨w.heap.size, 0, none⟩ = some (.int .i64 xk) ∧ ((w'.cell? ⟨wa.heap.size, 0, none⟩ = some (.int .i64 xk) ∧ w'.cell? ⟨wa.heap.size, 1, none⟩ = some (.int .i64 0)) ∧ w'.cell? ⟨wa.heap.size, 2, none⟩ = some (.int .i64 r0) ∧ w'.cell? ⟨wa.heap.size, 3, none⟩ = some (.int .i64 r1)))) (by kernel_rfl) ⟨k0V, ⟨o0, o1⟩, o2, o3⟩ (fun hHeld => ?_)
  refine tkH 0 ?_
  simp only [Act.put, ptT, ptZ, ptS]
  refine tkH 1 ?_
  simp only [Act.put, ptT, ptZ, ptS]
  refine tkH 2 ?_
  simp only [Act.put, ptT, ptZ, ptS]
  refine tkH 3 ?_
  simp only [Act.put, ptT, ptZ, ptS]
  refine oneH 4 ?_
  intro K hK
  go_simp
  refine (isnum_impl xk _ (numG xk) rfl).mono ?_
  rintro e w3 ⟨rfl, rfl⟩
  go_wp2_with fail
  refine hK.out _ _ hHeld (fun hHeld => ?_)
  clear hK K
  try simp only [Act.put, ptT, ptZ, ptS]
  refine tkH 5 ?_
  simp only [Act.put, ptT, ptZ, ptS]
  refine oneH 6 ?_
  intro K hK
  go_simp
  refine HWa.out.mono ?_
  rintro e w2 hW
  have hv := hW.val
  obtain ⟨y0, y1, y2, ok, hy⟩ : ∃ y0 y1 y2 ok, wrV (newO M (xk, 0, r0, r1) !numG xk) = ((y0, y1, y2), ok) := ⟨_, _, _, _, rfl⟩
  rw [hy] at hv
  subst hv
  have hxz := hW.kept wa.heap.size hltO (by omega) (fun e => by have := HOV.out _ e; omega)
  have hxx := hW.kept w.heap.size hltX (by omega) (fun e => by have := HOV.out _ e; omega)
  obtain ⟨o0', o1', o2', o3'⟩ := cells4 (hxz.trans HOa.out)
  have k0' := cell_of_row _ _ 0 _ _ _ (hxx.trans H0a.out)
  obtain ⟨hF, hbx2⟩ := hW.box hMw.out hbw hxad (Nat.le_succ _) H1a.out (.int .i64 y0) (.int .i64 y1) (.bool y2)
  have FIN := hid hF
  have q0 : w2.cell? ⟨w.heap.size + 1, 0, none⟩ = some (.int .i64 0) := cell_of_row _ _ 0 _ _ _ hbx2
  have q1 : w2.cell? ⟨w.heap.size + 1, 1, none⟩ = some (.int .i64 0) := cell_of_row _ _ 1 _ _ _ hbx2
  have q2 : w2.cell? ⟨w.heap.size + 1, 2, none⟩ = some (.bool false) := cell_of_row _ _ 2 _ _ _ hbx2
  have hf : ∀ j, w2.frozen? ⟨w.heap.size + 1, j, none⟩ = false := fun j => by simp [World.frozen?, hbx2]
  have f0 := hf 0
  have f1 := hf 1
  have f2 := hf 2
  clear hW hF hbx2 hy hf hHeld hxz hxx
  go_wp2_with fail
  refine hK.out _ _ ⟨k0', ⟨o0', o1'⟩, o2', o3'⟩ (fun hHeld => ?_)
  clear hK K
  try simp only [Act.put, ptT, ptZ, ptS]
  refine tkH 7 ?_
  simp only [Act.put, ptT, ptZ, ptS]
  refine tkH 8 ?_
  simp only [Act.put, ptT, ptZ, ptS]
  refine oneH 9 ?_
  intro K hK
  go_simp
  refine hK.out _ _ ?_ (fun hHeld => ?_)
  · (((try dsimp only); (repeat' apply And.intro) <;> first | (go_keep; done) | (simp (disch := first | omega | (simp <;> omega) | fail) [*]; done) | fail))
  clear hK K
  try simp only [Act.put, ptT, ptZ, ptS]
  refine tkH 10 ?_
  simp only [Act.put, ptT, ptZ, ptS]
  refine wpAnyH_done (by kernel_rfl) ?_ _
  clear hHeld
  go_wp2_with fail
  exact bodyPost_ret (v := .tuple #[.agg #[.int .i64 y0, .int .i64 y1, .bool y2], .bool ok]) (by simp [results, Tryz.results87, go_sem, q0, q1, q2]) rfl FIN.out
end Go.Proofs.YtjjkdbmjloolaaaGreatDoor
