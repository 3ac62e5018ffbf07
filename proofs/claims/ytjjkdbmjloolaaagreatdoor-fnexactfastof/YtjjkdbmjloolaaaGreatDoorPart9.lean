/-
  A part of the proof: NamesS, FastLeaf, SumMath, LevMath, LevMath2, SvMath, SvMath2, SvMath3, SvMath4.
-/
import Derived.Test.YtjjkdbmjloolaaaGreatDoorPart1
import Derived.Test.YtjjkdbmjloolaaaGreatDoorPart6
import Derived.Test.YtjjkdbmjloolaaaGreatDoorPart8
import Derived.Test.YtjjkdbmjloolaaaGreatDoorPart4
import Derived.Test.YtjjkdbmjloolaaaGreatDoorPart5

namespace Go.Proofs.YtjjkdbmjloolaaaGreatDoor
open Go.ChangeShapes Go.WideShapes Go.ChangeAt Go.RowKit
attribute [local go_sem ↓] Go.wp_at_zero Go.wp_at_succ
attribute [local simp] World.cell?_alloc_past World.cell?_alloc_at World.frozen?_alloc_at cell_far cell_off cell_here World.frozen?_alloc_past
theorem own_strs1 {w : World} {base g c n : Nat} {e : TypeId} {L : List ByteArray} (h : w.ownsRow base e 1 (.slice (some ⟨g, 0, none⟩) n c) n (strV L)) (hn : L.length = n) : StrsAt w (some ⟨g, 0, none⟩) L := fun j hj => by
 refine ⟨g, 0, rfl, (h.lt g rfl).2, ?_⟩
 rw [Nat.zero_add]
 have := h.cellAt j (by omega)
 rw [this]
 unfold strV
 rw [List.getElem?_map, List.getElem?_eq_getElem hj]
 rfl
end Go.Proofs.YtjjkdbmjloolaaaGreatDoor
namespace Go.Proofs.YtjjkdbmjloolaaaGreatDoor
open Go.ChangeShapes Go.WideShapes Go.ChangeAt Go.RowKit Go.Joins
attribute [local go_sem ↓] Go.wp_at_zero Go.wp_at_succ
attribute [local simp] World.cell?_alloc_past World.cell?_alloc_at World.frozen?_alloc_at cell_far cell_off cell_here World.frozen?_alloc_past
def leafM (M : Mkr) (xk : Int) (c : CK) (k : Nat) : Int × Mkr :=
 if xk = 1 then (if c.1 = 1 ∨ c.1 = 3 then newM M (2, 0, c.2.1, 0) (decide (c.1 = 3)) else (0, { M with bad := true }))
 else if 0 ≤ (M.outs.getD k (0, 0, false)).2.1 then ((M.outs.getD k (0, 0, false)).2.1, M) else newM M (1, 0, (M.outs.getD k (0, 0, false)).1, 0) false
def LeafOut (w : World) (base B : Nat) (_ : Mkr) (q : Int × Mkr) (ov cv uv tv : Value) (e : Ending) (w' : World) : Prop :=
 ∃ ov' tv', e = .returned (.int .i64 q.1) ∧ MkAt w' base B q.2 ov' cv uv tv' ∧ KeepS (mkBlk B ov tv) w w'
theorem NewOut.leaf {w w1 : World} {base B : Nat} {M : Mkr} {o : FO} {t : Bool} {ov cv uv tv : Value} {e : Ending} {w' : World} (h : NewOut w1 base B M o t ov cv uv tv e w') (hb : Below w.heap.size w w1) : LeafOut w base B M (newM M o t) ov cv uv tv e w' := by
 obtain ⟨ov', tv', h1, h2, h3⟩ := h
 exact ⟨ov', tv', h1, h2, (KeepS.ofBelow hb).trans h3⟩
set_option maxRecDepth 100000 in
set_option maxHeartbeats 4000000 in
theorem leaf_spec (B base : Nat) (M : Mkr) (xk ca cb : Int) (cc xs : ByteArray) (k : Nat) (ov cv uv tv : Value) (w : World) (h : MkAt w base B M ov cv uv tv) (hk : xk ≠ 1 → AtIs M.cols xs k ∧ k < M.outs.length) (hm : M.ops.length ≤ 1048576) (hm2 : M.tr.length ≤ 30) :
  Calls Tryz.prog 73 #[.pointer (some ⟨B, 0, none⟩), .agg #[.int .i64 xk, .int .i64 ca, .int .i64 cb, .string cc, .string xs]] w (LeafOut w base B M (leafM M xk (ca, cb, cc) k) ov cv uv tv) := by
 have H := hid h
 have HK := hid hk
 obtain ⟨W1, hW1⟩ : ∃ W, W = w.alloc (.cells #[.int .i64 xk, .int .i64 ca, .int .i64 cb, .string cc, .string xs] 97) := ⟨_, rfl⟩
 have hb1 : Below w.heap.size w W1 := by rw [hW1]; exact (Below.refl _ _).alloc (Nat.le_refl _) _
 have HWE := hid hW1.symm
 clear h hk hW1
 by_cases h1 : xk = 1
 case pos =>
  by_cases hc : ca = 1 ∨ ca = 3
  case pos =>
   have HQ := hid (p := leafM M xk (ca, cb, cc) k = newM M (2, 0, cb, 0) (decide (ca = 3))) (by unfold leafM; rw [if_pos h1, if_pos hc])
   have hx1 : (xk == 1) = true := by simp [h1]
   have HD : (ca == 3) = decide (ca = 3) := rfl
   rw [HQ.out]
   clear h1
   rcases hc with rfl | rfl
   · go_enter Tryz.func73, Tryz.ntmps73
    go_wp2_with fail
    rw [HWE.out]
    refine (new_spec B base M 2 0 cb 0 false ov cv uv tv _ (H.out.below hb1) hm hm2).mono ?_
    rintro e w' ⟨ov', tv', rfl, h2, h3⟩
    have M2 := hid h2
    have K2 := hid ((KeepS.ofBelow hb1).trans h3)
    clear h2 h3
    go_wp2_with fail
    go_ret
    exact ⟨ov', tv', rfl, M2.out, K2.out⟩
   · go_enter Tryz.func73, Tryz.ntmps73
    go_wp2_with fail
    rw [HWE.out]
    refine (new_spec B base M 2 0 cb 0 true ov cv uv tv _ (H.out.below hb1) hm hm2).mono ?_
    rintro e w' ⟨ov', tv', rfl, h2, h3⟩
    have M2 := hid h2
    have K2 := hid ((KeepS.ofBelow hb1).trans h3)
    clear h2 h3
    go_wp2_with fail
    go_ret
    exact ⟨ov', tv', rfl, M2.out, K2.out⟩
  case neg =>
   have HQ := hid (p := leafM M xk (ca, cb, cc) k = (0, { M with bad := true })) (by unfold leafM; rw [if_pos h1, if_neg hc])
   have hx1 : (xk == 1) = true := by simp [h1]
   have hc1 : (ca != 1) = true := by simp; omega
   have hc3 : (ca != 3) = true := by simp; omega
   obtain ⟨p0, p1, p2, p3, p4⟩ := cells5 H.out.box
   have f4 := frozen5 H.out.box 4
   have hBw := lt_of_heapN H.out.box
   rw [HQ.out]
   clear h1 hc
   go_enter Tryz.func73, Tryz.ntmps73
   go_wp2_with fail
   go_ret
   refine ⟨ov, tv, rfl, ?_, ?_⟩
   · exact (H.out.setBad true).below ((Below.refl _ _).alloc (Nat.le_refl _) _)
   · exact ((KeepS.set1 w B 4 (.bool true)).mono (fun g e => .inl e)).trans (KeepS.ofBelow ((Below.refl _ _).alloc (Nat.le_refl _) _))
 case neg =>
  obtain ⟨hat, hkl⟩ := HK.out h1
  have hx1 : (xk == 1) = false := by simp [h1]
  have hc0 : 0 < M.cols.length := by
   rcases hat with ⟨e, _⟩ | ⟨j, hj, _, _, _⟩
   · omega
   · omega
  rcases H.out.cols.2 with ⟨_, e0⟩ | ⟨gc, capc, curc, rfl, _⟩
  · omega
  rcases H.out.outs.2 with ⟨_, e0⟩ | ⟨gu, capu, curu, rfl, _⟩
  · omega
  have HS := hid (own_strs1 (H.out.below hb1).cols rfl)
  have HU := hid (ownFu (H.out.below hb1).outs)
  have hLc : M.cols.length ≤ maxLen := by
   rcases H.out.cols.2 with ⟨e, _⟩ | ⟨_, _, _, e, _, _, h4, h5, _⟩
   · cases e
   · omega
  have M1 := hid (H.out.below hb1)
  obtain ⟨p0, p1, p2, p3, p4⟩ := cells5 M1.out.box
  have HAT := hid hat
  obtain ⟨g, o, hgo, hg, c0, c1, c2⟩ := HU.out k hkl
  obtain ⟨u, hu⟩ : ∃ u, M.outs[k] = u := ⟨_, rfl⟩
  have HGD := hid (p := M.outs.getD k (0, 0, false) = u) (by rw [List.getD_eq_getElem?_getD, List.getElem?_eq_getElem hkl, ← hu]; rfl)
  have hLN : (k : Int) < (M.outs.length : Int) := by omega
  have hL0 : (0 : Int) ≤ (k : Int) := by omega
  cases hgo
  rw [hu] at c0 c1 c2
  obtain ⟨ua, ub, ut⟩ := u
  dsimp only at c0 c1 c2
  simp only [Nat.zero_add] at c0 c1 c2
  obtain ⟨bx, hbx⟩ : ∃ z, z = w.heap.size := ⟨_, rfl⟩
  have x4 : W1.cell? ⟨bx, 4, none⟩ = some (.string xs) := by rw [← HWE.out, hbx]; exact World.cell?_alloc_new _ _ _ 4
  have hbx1 : bx < W1.heap.size := by rw [← HWE.out, hbx]; simp
  have hB1 := lt_of_heapN M1.out.box
  have hgu : gu < W1.heap.size := hg
  clear hat HK
  go_enter Tryz.func73, Tryz.ntmps73
  go_wp2_with fail
  rw [HWE.out, ← hbx]
  clear hbx
  refine wp_region_held_drew (S := (fun w' => (w'.cell? ⟨B, 1, none⟩ = some (.slice (some ⟨gc, 0, none⟩) M.cols.length capc) ∧ w'.cell? ⟨B, 2, none⟩ = some (.slice (some ⟨gu, 0, none⟩) M.outs.length capu)) ∧ w'.cell? ⟨bx, 4, none⟩ = some (.string xs) ∧ w'.cell? ⟨gu, k * 3, none⟩ = some (.int .i64 ua) ∧ w'.cell? ⟨gu, k * 3 + 1, none⟩ = some (.int .i64 ub) ∧ w'.cell? ⟨gu, k * 3 + 2, none⟩ = some (.bool ut))) (by kernel_rfl) ⟨⟨p1, p2⟩, x4, c0, c1, c2⟩ (fun hHeld => ?_)
  refine tkH 0 ?_
  simp only [Act.put, ptT, ptZ, ptS]
  refine tkH 1 ?_
  simp only [Act.put, ptT, ptZ, ptS]
  refine tkH 2 ?_
  simp only [Act.put, ptT, ptZ, ptS]
  refine tkH 3 ?_
  simp only [Act.put, ptT, ptZ, ptS]
  refine tkH 4 ?_
  simp only [Act.put, ptT, ptZ, ptS]
  refine tkH 5 ?_
  simp only [Act.put, ptT, ptZ, ptS]
  refine tkH 6 ?_
  simp only [Act.put, ptT, ptZ, ptS]
  refine tkH 7 ?_
  simp only [Act.put, ptT, ptZ, ptS]
  refine tkH 8 ?_
  simp only [Act.put, ptT, ptZ, ptS]
  refine tkH 9 ?_
  simp only [Act.put, ptT, ptZ, ptS]
  refine twoH 10 13 ?_ ?_
  · intro K hK
   go_simp
   refine (at_specN M.cols.length _ _ M.cols rfl xs _ (HS.out.below (Below.refl _ _).drew) hLc).mono ?_
   rintro e w2 ⟨r, rfl, hr, hb2'⟩
   obtain rfl := hr.one HAT.out
   have hb2 := undrew hb2'
   have M2 := hid (M1.out.below hb2)
   obtain ⟨p0', p1', p2', _, _⟩ := cells5 M2.out.box
   have x4' := (hb2.cell (p := ⟨bx, 4, none⟩) hbx1).trans x4
   have c0' := (hb2.cell (p := ⟨gu, k * 3, none⟩) hgu).trans c0
   have c1' := (hb2.cell (p := ⟨gu, k * 3 + 1, none⟩) hgu).trans c1
   have c2' := (hb2.cell (p := ⟨gu, k * 3 + 2, none⟩) hgu).trans c2
   clear p0 p1 p2 p3 p4 x4 c0 c1 c2 hHeld hb2'
   go_wp2_with fail
   refine hK.out _ _ ⟨⟨p1', p2'⟩, x4', c0', c1', c2'⟩ (fun hHeld => ?_)
   clear hK K
   try simp only [Act.put, ptT, ptZ, ptS]
   refine tkH 11 ?_
   simp only [Act.put, ptT, ptZ, ptS]
   refine tkH 12 ?_
   simp only [Act.put, ptT, ptZ, ptS]
   refine oneH 13 ?_
   intro K hK
   go_simp
   refine hK.out _ _ ?_ (fun hHeld => ?_)
   · (((try dsimp only); (repeat' apply And.intro) <;> first | (go_keep; done) | (simp (disch := first | omega | (simp <;> omega) | fail) [*]; done) | fail))
   clear hK K
   try simp only [Act.put, ptT, ptZ, ptS]
   refine oneH 14 ?_
   intro K hK
   go_simp
   refine hK.out _ _ ?_ (fun hHeld => ?_)
   · (((try dsimp only); (repeat' apply And.intro) <;> first | (go_keep; done) | (simp (disch := first | omega | (simp <;> omega) | fail) [*]; done) | fail))
   clear hK K
   try simp only [Act.put, ptT, ptZ, ptS]
   refine wpAnyH_done (by kernel_rfl) ?_ _
   clear hHeld p0' p1' p2' x4' c0' c1' c2'
   have hb5 := (chain hb1 hb2).alloc (chain hb1 hb2).size (.cells #[.int .i64 ua, .int .i64 ub, .bool ut] 51)
   by_cases hreg : 0 ≤ ub
   case pos =>
    have HQ := hid (p := leafM M xk (ca, cb, cc) k = (ub, M)) (by unfold leafM; rw [if_neg h1, HGD.out]; exact if_pos hreg)
    go_wp2_with fail
    go_ret
    exact ⟨ov, tv, by rw [HQ.out]; rfl, by rw [HQ.out]; exact H.out.below hb5, KeepS.ofBelow hb5⟩
   case neg =>
    have HQ := hid (p := leafM M xk (ca, cb, cc) k = newM M (1, 0, ua, 0) false) (by unfold leafM; rw [if_neg h1, HGD.out]; exact if_neg hreg)
    go_wp2_with fail
    refine (new_spec B base M 1 0 ua 0 false ov _ _ tv _ (H.out.below hb5) hm hm2).mono ?_
    rintro e w' ⟨ov', tv', rfl, h2, h3⟩
    have M2 := hid h2
    have K2 := hid ((KeepS.ofBelow hb5).trans h3)
    clear h2 h3
    go_wp2_with fail
    go_ret
    exact ⟨ov', tv', by rw [HQ.out]; rfl, by rw [HQ.out]; exact M2.out, K2.out⟩
  · intro K hK
   go_simp
   obtain ⟨V2, hV⟩ : ∃ V, V = W1.alloc (.cells #[.int .i64 0, .int .i64 0, .bool false] 51) := ⟨_, rfl⟩
   obtain ⟨bz, hbz⟩ : ∃ z, z = W1.heap.size := ⟨_, rfl⟩
   have hbV : Below W1.heap.size W1 V2 := by rw [hV]; exact (Below.refl _ _).alloc (Nat.le_refl _) _
   have hzV : V2.heap[bz]? = some (.cells #[.int .i64 0, .int .i64 0, .bool false] 51) := by rw [hV, hbz]; exact _root_.Go.heap_alloc_new W1 _
   have hwz : w.heap.size ≤ bz := by rw [hbz]; exact hb1.size
   have hzs := lt_of_heapN hzV
   have HVE := hid hV.symm
   have HZE := hid hbz.symm
   have x4v := (hbV.cell (p := ⟨bx, 4, none⟩) hbx1).trans x4
   have c0v := (hbV.cell (p := ⟨gu, k * 3, none⟩) hgu).trans c0
   have c1v := (hbV.cell (p := ⟨gu, k * 3 + 1, none⟩) hgu).trans c1
   have c2v := (hbV.cell (p := ⟨gu, k * 3 + 2, none⟩) hgu).trans c2
   have MV := hid (M1.out.below hbV)
   obtain ⟨_, p1v, p2v, _, _⟩ := cells5 MV.out.box
   have hxB : bz ≠ B := by omega
   have hxX : bz ≠ bx := by omega
   have hxU : bz ≠ gu := by omega
   clear hV hbz p0 p1 p2 p3 p4 x4 c0 c1 c2 hHeld
   rw [HVE.out, HZE.out]
   refine hK.out _ _ ⟨⟨p1v, p2v⟩, x4v, c0v, c1v, c2v⟩ (fun hHeld => ?_)
   clear hK K
   try simp only [Act.put, ptT, ptZ, ptS]
   refine oneH 10 ?_
   intro K hK
   go_simp
   refine (at_specN M.cols.length _ _ M.cols rfl xs _ ((HS.out.below hbV).below (Below.refl _ _).drew) hLc).mono ?_
   rintro e w2 ⟨r, rfl, hr, hb2'⟩
   obtain rfl := hr.one HAT.out
   have hb2v := undrew hb2'
   have M2 := hid (MV.out.below hb2v)
   obtain ⟨p0', p1', p2', _, _⟩ := cells5 M2.out.box
   have hbx2 : bx < V2.heap.size := Nat.lt_of_lt_of_le hbx1 hbV.size
   have hgu2 : gu < V2.heap.size := Nat.lt_of_lt_of_le hgu hbV.size
   have x4' := (hb2v.cell (p := ⟨bx, 4, none⟩) hbx2).trans x4v
   have c0' := (hb2v.cell (p := ⟨gu, k * 3, none⟩) hgu2).trans c0v
   have c1' := (hb2v.cell (p := ⟨gu, k * 3 + 1, none⟩) hgu2).trans c1v
   have c2' := (hb2v.cell (p := ⟨gu, k * 3 + 2, none⟩) hgu2).trans c2v
   have hz2 := (hb2v.block _ hzs).trans hzV
   obtain ⟨z0, z1, z2⟩ : w2.cell? ⟨bz, 0, none⟩ = some (.int .i64 0) ∧ w2.cell? ⟨bz, 1, none⟩ = some (.int .i64 0) ∧ w2.cell? ⟨bz, 2, none⟩ = some (.bool false) := by
    refine ⟨?_, ?_, ?_⟩ <;> simp [World.cell?, hz2]
   obtain ⟨y0, y1, y2⟩ : w2.frozen? ⟨bz, 0, none⟩ = false ∧ w2.frozen? ⟨bz, 1, none⟩ = false ∧ w2.frozen? ⟨bz, 2, none⟩ = false := by
    refine ⟨?_, ?_, ?_⟩ <;> simp [World.frozen?, hz2]
   have hb2 := chain hb1 (chain hbV hb2v)
   have hb5 := ((hb2.setCell (p := ⟨bz, 0, none⟩) hwz (.int .i64 ua)).setCell (p := ⟨bz, 1, none⟩) hwz (.int .i64 ub)).setCell (p := ⟨bz, 2, none⟩) hwz (.bool ut)
   clear x4v c0v c1v c2v p1v p2v hHeld hb2' hz2
   go_wp2_with fail
   refine hK.out _ _ ⟨⟨p1', p2'⟩, x4', c0', c1', c2'⟩ (fun hHeld => ?_)
   clear hK K
   try simp only [Act.put, ptT, ptZ, ptS]
   refine tkH 11 ?_
   simp only [Act.put, ptT, ptZ, ptS]
   refine tkH 12 ?_
   simp only [Act.put, ptT, ptZ, ptS]
   refine oneH 14 ?_
   intro K hK
   go_simp
   refine hK.out _ _ ?_ (fun hHeld => ?_)
   · (((try dsimp only); (repeat' apply And.intro) <;> first | (go_keep; done) | (simp (disch := first | omega | (simp <;> omega) | fail) [*]; done) | fail))
   clear hK K
   try simp only [Act.put, ptT, ptZ, ptS]
   refine wpAnyH_done (by kernel_rfl) ?_ _
   clear hHeld p0' p1' p2' x4' c0' c1' c2'
   by_cases hreg : 0 ≤ ub
   case pos =>
    have HQ := hid (p := leafM M xk (ca, cb, cc) k = (ub, M)) (by unfold leafM; rw [if_neg h1, HGD.out]; exact if_pos hreg)
    go_wp2_with fail
    go_ret
    exact ⟨ov, tv, by rw [HQ.out]; rfl, by rw [HQ.out]; exact H.out.below hb5, KeepS.ofBelow hb5⟩
   case neg =>
    have HQ := hid (p := leafM M xk (ca, cb, cc) k = newM M (1, 0, ua, 0) false) (by unfold leafM; rw [if_neg h1, HGD.out]; exact if_neg hreg)
    go_wp2_with fail
    refine (new_spec B base M 1 0 ua 0 false ov _ _ tv _ (H.out.below hb5) hm hm2).mono ?_
    rintro e w' ⟨ov', tv', rfl, h2, h3⟩
    have M2 := hid h2
    have K2 := hid ((KeepS.ofBelow hb5).trans h3)
    clear h2 h3
    go_wp2_with fail
    go_ret
    exact ⟨ov', tv', by rw [HQ.out]; rfl, by rw [HQ.out]; exact M2.out, K2.out⟩
end Go.Proofs.YtjjkdbmjloolaaaGreatDoor
namespace Go.Proofs.YtjjkdbmjloolaaaGreatDoor
def seesT (s : ByteArray) : List TT → Option (List TT)
 | [] => none
 | t :: r => if t.1 = 3 ∧ t.2.1 = s then some r else none
theorem seesT_cons (s : ByteArray) (t : TT) (r : List TT) : seesT s (t :: r) = if t.1 = 3 ∧ t.2.1 = s then some r else none := rfl
theorem sees_this (s : ByteArray) (c : CK) (r : List TT) : seesT s ((3, s, c) :: r) = some r := by rw [seesT_cons, if_pos ⟨rfl, rfl⟩]
def kindsL (lev : Nat) : List Int := if lev = 0 then [10] else if lev = 1 then [9] else if lev = 3 then [7, 8] else if lev = 4 then [3, 4] else if lev = 5 then [5, 6] else []
def twoK (r : List TT) : List Int → Option (Int × List TT)
 | [] => none
 | k :: ks => match seesT (sgn k) r with
  | some r1 => some (k, r1)
  | none => twoK r ks
def twoT (lev : Nat) (r : List TT) : Option (Int × List TT) := twoK r (kindsL lev)
def itmOf (t : TT) : TI := if t.1 = 1 then (2, zeroC, t.2.1) else (1, t.2.2, ⟨#[]⟩)
mutual
def levP : Nat → Nat → List TT → Option (List TI × List TT)
 | 0, _, _ => none
 | f + 1, lev, r =>
  if lev = 0 ∨ lev = 1 ∨ lev = 4 ∨ lev = 5 then (levP f (lev + 1) r).bind (fun p => tailP f lev p.1 p.2)
  else if lev = 3 then (levP f 4 r).bind (fun p => match twoT 3 p.2 with
   | none => some p
   | some (k, r2) => (levP f 4 r2).map (fun q => (p.1 ++ (q.1 ++ [opI k]), q.2)))
  else if lev = 2 ∨ lev = 6 then match seesT (sgn (if lev = 2 then 11 else 12)) r with
   | some r1 => (levP f lev r1).map (fun q => (q.1 ++ [opI (if lev = 2 then 11 else 12)], q.2))
   | none => levP f (lev + 1) r
  else match seesT ⟨#[40]⟩ r with
   | some r1 => (levP f 0 r1).bind (fun q => (seesT ⟨#[41]⟩ q.2).map (fun r2 => (q.1, r2)))
   | none => match r with
    | [] => none
    | t :: r1 => if t.1 = 3 then none else some ([itmOf t], r1)
def tailP : Nat → Nat → List TI → List TT → Option (List TI × List TT)
 | 0, _, _, _ => none
 | f + 1, lev, o, r => match twoT lev r with
  | none => some (o, r)
  | some (k, r1) => (levP f (lev + 1) r1).bind (fun p => tailP f lev (o ++ (p.1 ++ [opI k])) p.2)
end
def Par (lev : Nat) (r0 : List TT) (o : List TI) (r : List TT) : Prop := ∃ f0, ∀ f, f0 ≤ f → levP f lev r0 = some (o, r)
theorem Par.up {lev : Nat} {r0 r : List TT} {o : List TI} (h : Par (lev + 1) r0 o r) (hl : lev = 0 ∨ lev = 1 ∨ lev = 4 ∨ lev = 5) (hn : twoT lev r = none) : Par lev r0 o r := by
 obtain ⟨f0, h⟩ := h
 refine ⟨f0 + 2, fun f hf => ?_⟩
 obtain ⟨g, rfl⟩ : ∃ g, f = g + 1 + 1 := ⟨f - 2, by omega⟩
 unfold levP
 rw [if_pos hl, h (g + 1) (by omega)]
 simp only [Option.bind_some]
 unfold tailP
 rw [hn]
theorem Par.up3 {r0 r : List TT} {o : List TI} (h : Par 4 r0 o r) (hn : twoT 3 r = none) : Par 3 r0 o r := by
 obtain ⟨f0, h⟩ := h
 refine ⟨f0 + 1, fun f hf => ?_⟩
 obtain ⟨g, rfl⟩ : ∃ g, f = g + 1 := ⟨f - 1, by omega⟩
 unfold levP
 rw [if_neg (by omega), if_pos rfl, h g (by omega)]
 simp only [Option.bind_some]
 rw [hn]
theorem Par.up2 {lev : Nat} {r0 r : List TT} {o : List TI} (h : Par (lev + 1) r0 o r) (hl : lev = 2 ∨ lev = 6) (hn : seesT (sgn (if lev = 2 then 11 else 12)) r0 = none) : Par lev r0 o r := by
 obtain ⟨f0, h⟩ := h
 refine ⟨f0 + 1, fun f hf => ?_⟩
 obtain ⟨g, rfl⟩ : ∃ g, f = g + 1 := ⟨f - 1, by omega⟩
 unfold levP
 rw [if_neg (by omega), if_neg (by omega), if_pos hl, hn]
 exact h g (by omega)
def StopT (lev : Nat) (r : List TT) : Prop := ∀ L, lev ≤ L → L ≤ 5 → twoT L r = none
def NoPre (r : List TT) : Prop := seesT (sgn 11) r = none ∧ seesT (sgn 12) r = none
theorem StopT.mono {lev lev' : Nat} {r : List TT} (h : StopT lev r) (hl : lev ≤ lev') : StopT lev' r := fun L h1 h2 => h L (by omega) h2
theorem Par.down {r0 r : List TT} {o : List TI} (h : Par 7 r0 o r) (hp : NoPre r0) {lev : Nat} (hl : lev ≤ 7) (hs : StopT lev r) : Par lev r0 o r := by
 have h6 : lev ≤ 6 → Par 6 r0 o r := fun _ => h.up2 (.inr rfl) hp.2
 have h5 : lev ≤ 5 → Par 5 r0 o r := fun e => (h6 (by omega)).up (by omega) (hs 5 e (by omega))
 have h4 : lev ≤ 4 → Par 4 r0 o r := fun e => (h5 (by omega)).up (by omega) (hs 4 e (by omega))
 have h3 : lev ≤ 3 → Par 3 r0 o r := fun e => (h4 (by omega)).up3 (hs 3 e (by omega))
 have h2 : lev ≤ 2 → Par 2 r0 o r := fun e => (h3 (by omega)).up2 (.inl rfl) hp.1
 have h1 : lev ≤ 1 → Par 1 r0 o r := fun e => (h2 (by omega)).up (by omega) (hs 1 e (by omega))
 have h0 : lev ≤ 0 → Par 0 r0 o r := fun e => (h1 (by omega)).up (by omega) (hs 0 e (by omega))
 have : lev = 0 ∨ lev = 1 ∨ lev = 2 ∨ lev = 3 ∨ lev = 4 ∨ lev = 5 ∨ lev = 6 ∨ lev = 7 := by omega
 rcases this with rfl | rfl | rfl | rfl | rfl | rfl | rfl | rfl
 · exact h0 (by omega)
 · exact h1 (by omega)
 · exact h2 (by omega)
 · exact h3 (by omega)
 · exact h4 (by omega)
 · exact h5 (by omega)
 · exact h6 (by omega)
 · exact h
theorem Par.pre {lev : Nat} {r1 r : List TT} {o : List TI} (hl : lev = 2 ∨ lev = 6) (h : Par lev r1 o r) : Par lev (sgnT (if lev = 2 then 11 else 12) :: r1) (o ++ [opI (if lev = 2 then 11 else 12)]) r := by
 obtain ⟨f0, h⟩ := h
 refine ⟨f0 + 1, fun f hf => ?_⟩
 obtain ⟨g, rfl⟩ : ∃ g, f = g + 1 := ⟨f - 1, by omega⟩
 unfold levP
 rw [if_neg (by omega), if_neg (by omega), if_pos hl]
 have : seesT (sgn (if lev = 2 then 11 else 12)) (sgnT (if lev = 2 then 11 else 12) :: r1) = some r1 := sees_this _ _ _
 rw [this]
 simp only []
 rw [h g (by omega)]
 rfl
theorem Par.two {lev : Nat} {r0 r1 r2 : List TT} {oa ob : List TI} {k : Int} (hl : lev = 0 ∨ lev = 1 ∨ lev = 4 ∨ lev = 5) (ha : Par (lev + 1) r0 oa (sgnT k :: r1)) (ht : twoT lev (sgnT k :: r1) = some (k, r1)) (hb : Par (lev + 1) r1 ob r2) (hn : twoT lev r2 = none) : Par lev r0 (oa ++ (ob ++ [opI k])) r2 := by
 obtain ⟨f1, ha⟩ := ha
 obtain ⟨f2, hb⟩ := hb
 refine ⟨f1 + f2 + 3, fun f hf => ?_⟩
 obtain ⟨g, rfl⟩ : ∃ g, f = g + 1 + 1 + 1 := ⟨f - 3, by omega⟩
 unfold levP
 rw [if_pos hl, ha _ (by omega)]
 simp only [Option.bind_some]
 unfold tailP
 rw [ht]
 simp only []
 rw [hb _ (by omega)]
 simp only [Option.bind_some]
 unfold tailP
 rw [hn]
structure SV where
 kind : Int
 name : ByteArray
 names : List ByteArray
 sum : List TI
 down : Bool
 count : Int
 skip : Int
def nameS (k : Int) : Bool := k == 1 || k == 3 || k == 5 || k == 6 || k == 8
def sumS (k : Int) : Bool := k == 2 || k == 3 || k == 5 || k == 6
def listS (k : Int) : Bool := k == 4 || k == 7
def bareB (s : SV) : Bool :=
 ((nameS s.kind || decide (s.name = ⟨#[]⟩)) && ((sumS s.kind || s.sum.isEmpty) && (listS s.kind || s.names.isEmpty)))
 && (((!s.down || s.kind == 8) && (s.kind == 9 || (s.count == 0 && s.skip == 0)))
 && ((!nameS s.kind || nameK s.name) && (!sumS s.kind || sumB s.sum)))
def names10 (l : List ByteArray) (lo hi : Int) : Bool := l.all nameK && namesB l lo hi
def in1000 (n : Int) : Bool := decide (0 ≤ n) && decide (n ≤ 1000)
def sieveB (s : SV) : Bool :=
 if s.kind = 4 then bareB s && names10 s.names 1 6 else if s.kind = 7 then bareB s && names10 s.names 0 4
 else if s.kind = 9 then bareB s && (in1000 s.count && in1000 s.skip) else (decide (1 ≤ s.kind) && decide (s.kind ≤ 10)) && bareB s
theorem sieve_kind {s : SV} (h : sieveB s = true) : s.kind = 1 ∨ s.kind = 2 ∨ s.kind = 3 ∨ s.kind = 4 ∨ s.kind = 5 ∨ s.kind = 6 ∨ s.kind = 7 ∨ s.kind = 8 ∨ s.kind = 9 ∨ s.kind = 10 := by
 unfold sieveB at h
 split at h
 · omega
 · split at h
  · omega
  · split at h
   · omega
   · simp only [Bool.and_eq_true, decide_eq_true_eq] at h
    omega
end Go.Proofs.YtjjkdbmjloolaaaGreatDoor
