/-
  A part of the proof: FkTests, FastP.
-/
import Derived.Test.YtjjkdbmjloolaaaGreatDoorPart22
import Derived.Test.YtjjkdbmjloolaaaGreatDoorPart13

namespace Go.Proofs.YtjjkdbmjloolaaaGreatDoor
open Go.ChangeShapes Go.WideShapes Go.ChangeAt Go.RowKit Go.Joins
attribute [local go_sem ↓] Go.wp_at_zero Go.wp_at_succ
attribute [local simp] World.cell?_alloc_past World.cell?_alloc_at World.frozen?_alloc_at cell_far cell_off cell_here World.frozen?_alloc_past
theorem ColsAt.lowI {X : TypeId → Prop} {w w' : World} {base : Nat} {cv : Value} {C : List ByteArray} (h : ColsAt w base cv C) (k : LowI X base w w') (hX : ¬ X 9) : ColsAt w' base cv C := by
 obtain ⟨ca, cc, h1, h2, h3, h4, h5⟩ := h
 have hb : ∀ g o, ca = some ⟨g, o, none⟩ → 0 < C.length → w'.heap[g]? = w.heap[g]? := fun g o e hl => by
  obtain ⟨k1, k2⟩ := h5 g o e hl
  rcases k2 with k2 | ⟨cs, k2⟩
  · exact k.bel.block g k2
  · exact k.kt g cs _ k2 hX
 refine ⟨ca, cc, h1, fun j hj => ?_, h3, h4, fun g o e hl => ?_⟩
 · obtain ⟨g, o, e, hg, hc⟩ := h2 j hj
  exact ⟨g, o, e, Nat.lt_of_lt_of_le hg k.size, (World.cell?_of_block (a := ⟨g, o + j, none⟩) (hb g o e (by omega))).trans hc⟩
 · obtain ⟨k1, k2⟩ := h5 g o e hl
  exact ⟨Nat.lt_of_lt_of_le k1 k.size, k2.imp id (fun ⟨cs, hc⟩ => ⟨cs, (hb g o e hl).trans hc⟩)⟩
theorem keep_lowJ {w w' : World} {base B : Nat} {M : Mkr} {cv uv ov : Value} (h : MkI w base B M cv uv ov) (hb : base ≤ w.heap.size) (k : KeepS (fun g => g = B ∨ uv.ownBlock = some g) w w') : LowI XJ base w w' :=
 ⟨⟨k.os, k.tape, k.output, k.size, fun i hi => k.block i (by omega) (fun hp => by
  rcases hp with e | e
  · have := h.lo; omega
  · have := (h.outs.lt _ e).1; omega)⟩, fun i cs T e h1 => k.block i (lt_of_heapN e) (fun hp => by
  rcases hp with e2 | e2
  · subst e2
   rw [h.box] at e
   simp at e
   exact h1 (.inl (.inl e.2.symm))
  · rcases h.outs.2 with ⟨e3, _⟩ | ⟨g, c, cur, e3, _, hg, _⟩
   · rw [e3] at e2; cases e2
   · rw [e3] at e2
    have e4 : g = i := Option.some.inj e2
    subst e4
    rw [hg] at e
    simp at e
    exact h1 (.inr e.2.symm))⟩
theorem XI_J : ∀ T, XI T → XJ T := fun _ h => .inl h
theorem MkI.setCols {w : World} {base B : Nat} {M : Mkr} {cv uv ov cv2 : Value} {C2 : List ByteArray} (h : MkI w base B M cv uv ov) (hc : ColsAt w base cv2 C2) : MkI (w.setCell ⟨B, 0, none⟩ cv2) base B { M with cols := C2 } cv2 uv ov :=
 h.setBox (block_setCell h.box _) hc h.outs h.ops
theorem MkI.setOuts {w : World} {base B : Nat} {M : Mkr} {cv uv ov uv2 : Value} {O2 : List FU} (h : MkI w base B M cv uv ov) (hu : w.ownsRow base 51 3 uv2 O2.length (flatFu O2)) : MkI (w.setCell ⟨B, 1, none⟩ uv2) base B { M with outs := O2 } cv uv2 ov :=
 h.setBox (block_setCell h.box _) h.cols hu h.ops
theorem MkI.setLow {X : TypeId → Prop} {w : World} {base B i : Nat} {M : Mkr} {cv uv ov v : Value} (h : MkI w base B M cv uv ov) (hX : X 59) : LowI X base w (w.setCell ⟨B, i, none⟩ v) :=
 ⟨(Below.refl _ _).setCell (p := ⟨B, i, none⟩) h.lo v, fun k cs T e h1 => Below.heap_setCell w ⟨B, i, none⟩ v k (fun e2 => by
  have e3 : B = k := e2.symm
  subst e3
  rw [h.box] at e
  simp at e
  exact h1 (e.2 ▸ hX))⟩
def TakeO (w : World) (base B : Nat) (r : Option Mkr) (e : Ending) (w' : World) : Prop :=
 ∃ ok, e = .returned (.bool ok) ∧ LowI XJ base w w' ∧ (match r with | none => ok = false | some q => ok = true ∧ ∃ cv uv ov, MkI w' base B q cv uv ov)
set_option maxRecDepth 100000 in
set_option maxHeartbeats 4000000 in
theorem tests_impl (B base : Nat) (M : Mkr) (a : Option Addr) (cap n : Nat) (S : List TI) (hn : S.length = n) (cv uv ov : Value) (w : World) (h : MkI w base B M cv uv ov) (hrow : ∀ w', Below base w w' → ItmAt w' a S) (g : GoodM M) (hs : sumB S = true) (hc : ∀ x ∈ S, x.1 = 2 → x.2.2 ∈ M.cols) (hcl : M.cols.length ≤ 1000) (hm : M.ops.length + 40 ≤ 1048576) (hbw : base ≤ w.heap.size) :
  Calls Tryz.prog 44 #[.pointer (some ⟨B, 0, none⟩), .slice a n cap] w (TakeO w base B ((sumO M S).bind fun q => if trB q.2 q.1 = true then some { q.2 with ops := q.2.ops ++ [(12, 0, q.1, 0)] } else none)) := by
 have HRK := hid (reckons_impl B base M a cap n S hn cv uv ov w h hrow g hs hc hcl hm hbw)
 clear hn h hrow g hs hc
 go_enter Tryz.func44, Tryz.ntmps44
 go_wp2_with fail
 refine HRK.out.mono ?_
 rintro e w1 ⟨M1, ov1, ⟨u0, u1, u2⟩, ok, rfl, hM1, hL1, hops1, hou, hq⟩
 have HQ := hid hq
 have HOU := hid hou
 have hbV0 : Below w1.heap.size w1 (w1.alloc (.cells #[.int .i64 u0, .int .i64 u1, .bool u2] 51)) := (Below.refl _ _).alloc (Nat.le_refl _) _
 obtain ⟨V, hV⟩ : ∃ V, V = w1.alloc (.cells #[.int .i64 u0, .int .i64 u1, .bool u2] 51) := ⟨_, rfl⟩
 have hob : V.heap[w1.heap.size]? = some (.cells #[.int .i64 u0, .int .i64 u1, .bool u2] 51) := by rw [hV]; exact _root_.Go.heap_alloc_new w1 _
 rw [← hV] at hbV0
 have HO := hid hob
 have HV := hid (hM1.below hbV0)
 have HL := hid (p := LowI XI base w V) (hL1.then hbw (hbV0.mono hL1.size))
 have hbs : base ≤ V.heap.size := Nat.le_trans hbw HL.out.size
 have hoB : B ≠ w1.heap.size := by have := lt_of_heapN hM1.box; omega
 clear hM1 hL1 hq hbV0 hou
 go_wp2_with fail
 rw [← hV]
 clear hV
 obtain ⟨p0, p1, p2, p3⟩ := cells4 HV.out.box
 obtain ⟨t0, t1, t2⟩ : V.cell? ⟨w1.heap.size, 0, none⟩ = some (.int .i64 u0) ∧ V.cell? ⟨w1.heap.size, 1, none⟩ = some (.int .i64 u1) ∧ V.cell? ⟨w1.heap.size, 2, none⟩ = some (.bool u2) := ⟨cell_of_row _ _ 0 _ _ _ hob, cell_of_row _ _ 1 _ _ _ hob, cell_of_row _ _ 2 _ _ _ hob⟩
 have hol := lt_of_heapN hob
 clear hob
 obtain ⟨oa, oc, rfl⟩ := slice_of_own HV.out.ops
 obtain ⟨i0, hti, hz0, hz1, hz2⟩ := info_parts infoFoN
 refine wp_region_until (z := 12) (S := (fun w' => w'.cell? ⟨B, 2, none⟩ = some (.slice oa M1.ops.length oc) ∧ w'.cell? ⟨w1.heap.size, 1, none⟩ = some (.int .i64 u1))) (by kernel_rfl) ⟨p2, t1⟩ (fun hHeld => ?_)
 refine wpAnyU_take (i := 0) (by simp only [List.getElem?_toArray, List.getElem?_cons_zero]; rfl) (by kernel_rfl) (by kernel_rfl) (by kernel_rfl) (by kernel_rfl) (by intro _ _ _ h; exact h) (Or.inl ⟨by rfl, fun w hSw => by (dsimp only at hSw; go_simp; (try with_reducible rfl))⟩) (by assumption) ?_
 simp only [Act.put, ptT, ptZ, ptS]
 refine wpAnyU_take (i := 1) (by simp only [List.getElem?_toArray, List.getElem?_cons_zero, List.getElem?_cons_succ]; rfl) (by kernel_rfl) (by kernel_rfl) (by kernel_rfl) (by kernel_rfl) (by intro _ _ _ h; exact h) (Or.inl ⟨by rfl, fun w hSw => by (dsimp only at hSw; go_simp; (try with_reducible rfl))⟩) (by assumption) ?_
 simp only [Act.put, ptT, ptZ, ptS]
 refine wpAnyU_take (i := 2) (by simp only [List.getElem?_toArray, List.getElem?_cons_zero, List.getElem?_cons_succ]; rfl) (by kernel_rfl) (by kernel_rfl) (by kernel_rfl) (by kernel_rfl) (by intro _ _ _ h; exact h) (Or.inl ⟨by rfl, fun w hSw => by (dsimp only at hSw; go_simp; (try with_reducible rfl))⟩) (by assumption) ?_
 simp only [Act.put, ptT, ptZ, ptS]
 refine wpAnyU_take (i := 3) (by simp only [List.getElem?_toArray, List.getElem?_cons_zero, List.getElem?_cons_succ]; rfl) (by kernel_rfl) (by kernel_rfl) (by kernel_rfl) (by kernel_rfl) (by intro _ _ _ h; exact h) (Or.inl ⟨by rfl, fun w hSw => by (dsimp only at hSw; go_simp; (try with_reducible rfl))⟩) (by assumption) ?_
 simp only [Act.put, ptT, ptZ, ptS]
 refine wpAnyU_take (i := 4) (by simp only [List.getElem?_toArray, List.getElem?_cons_zero, List.getElem?_cons_succ]; rfl) (by kernel_rfl) (by kernel_rfl) (by kernel_rfl) (by kernel_rfl) (by intro _ _ _ h; exact h) (Or.inl ⟨by rfl, fun w hSw => by (dsimp only at hSw; go_simp; (try with_reducible rfl))⟩) (by assumption) ?_
 simp only [Act.put, ptT, ptZ, ptS]
 refine wpAnyU_take (i := 5) (by simp only [List.getElem?_toArray, List.getElem?_cons_zero, List.getElem?_cons_succ]; rfl) (by kernel_rfl) (by kernel_rfl) (by kernel_rfl) (by kernel_rfl) (by intro _ _ _ h; exact h) (Or.inl ⟨by rfl, fun w hSw => by (dsimp only at hSw; go_simp; (try with_reducible rfl))⟩) (by assumption) ?_
 simp only [Act.put, ptT, ptZ, ptS]
 refine wpAnyU_take (i := 6) (by simp only [List.getElem?_toArray, List.getElem?_cons_zero, List.getElem?_cons_succ]; rfl) (by kernel_rfl) (by kernel_rfl) (by kernel_rfl) (by kernel_rfl) (by intro _ _ _ h; exact h) (Or.inl ⟨by rfl, fun w hSw => by (dsimp only at hSw; go_simp; (try with_reducible rfl))⟩) (by assumption) ?_
 simp only [Act.put, ptT, ptZ, ptS]
 refine wpAnyU_take (i := 7) (by simp only [List.getElem?_toArray, List.getElem?_cons_zero, List.getElem?_cons_succ]; rfl) (by kernel_rfl) (by kernel_rfl) (by kernel_rfl) (by kernel_rfl) (by intro _ _ _ h; exact h) (Or.inl ⟨by rfl, fun w hSw => by (dsimp only at hSw; go_simp; (try with_reducible rfl))⟩) (by assumption) ?_
 simp only [Act.put, ptT, ptZ, ptS]
 refine wpAnyU_one (i := 8) (by kernel_rfl) (by simp only [List.getElem?_toArray, List.getElem?_cons_zero, List.getElem?_cons_succ]; rfl) ?_
 intro K hK
 go_simp
 refine hK.out _ _ ?_ (fun hHeld => ?_)
 · (((try dsimp only); (repeat' apply And.intro) <;> first | (go_keep; done) | (simp (disch := first | omega | (simp <;> omega) | fail) [*]; done) | fail))
 clear hK K
 try simp only [Act.put, ptT, ptZ, ptS]
 refine wpAnyU_one (i := 9) (by kernel_rfl) (by simp only [List.getElem?_toArray, List.getElem?_cons_zero, List.getElem?_cons_succ]; rfl) ?_
 intro K hK
 rw [if_pos (by rfl)]
 refine wp_append_own _ _ _ 26 rfl base 75 i0 (.agg #[.int .i64 0, .int .i64 0, .int .i64 0, .int .i64 0]) 4 32 Tryz.underlying26 hti hz0 hz1 hz2 rfl (by decide) (.slice oa M1.ops.length oc) M1.ops.length (flatFo M1.ops) rfl ((own_below HV.out.ops ((Below.refl V.heap.size V).drew)).alloc _) ⟨V.heap.size, 0, none⟩ 1 1 [.int .i64 12, .int .i64 0, .int .i64 u1, .int .i64 0] rfl rfl (cells4N V.drew _ _ _ _ _) (by intro u hu; simp at hu; rcases hu with rfl | rfl | rfl | rfl <;> rfl) (by unfold maxLen; omega) (by omega) (by simp; omega) ?_
 intro v5 w5 own5 hgrow hnn
 obtain ⟨a5, c5, rfl⟩ := slice_of_own own5
 have hbx := (((Below.refl V.heap.size V).drew).alloc (by simp) (.cells #[.int .i64 12, .int .i64 0, .int .i64 u1, .int .i64 0] 75))
 obtain ⟨hB5, M6, K6⟩ := HV.out.pushOps (o := (12, 0, u1, 0)) hbx hgrow own5
 have hob5 : w5.heap[w1.heap.size]? = some (.cells #[.int .i64 u0, .int .i64 u1, .bool u2] 51) := (hgrow.block _ (by simp; omega) (fun e => own_box HV.out.ops HO.out (by decide) e.symm)).trans ((hbx.block _ hol).trans HO.out)
 obtain ⟨p0', p1', p2', p3'⟩ := cells4 hB5
 have t1' : w5.cell? ⟨w1.heap.size, 1, none⟩ = some (.int .i64 u1) := cell_of_row _ _ 1 _ _ _ hob5
 have g2 : w5.frozen? ⟨B, 2, none⟩ = false := by simp [World.frozen?, hB5]
 clear own5 hgrow hnn hbx
 refine hK.out _ _ ⟨p2', t1'⟩ (fun hHeld => ?_)
 clear hK K
 try simp only [Act.put, ptT, ptZ, ptS]
 refine wpAnyU_one (i := 10) (by kernel_rfl) (by simp only [List.getElem?_toArray, List.getElem?_cons_zero, List.getElem?_cons_succ]; rfl) ?_
 intro K hK
 go_simp
 refine hK.out _ _ ⟨p2', t1'⟩ (fun hHeld => ?_)
 clear hK K
 try simp only [Act.put, ptT, ptZ, ptS]
 refine wpAnyU_take (i := 11) (by simp only [List.getElem?_toArray, List.getElem?_cons_zero, List.getElem?_cons_succ]; rfl) (by kernel_rfl) (by kernel_rfl) (by kernel_rfl) (by kernel_rfl) (by intro _ _ _ h; exact h) (Or.inl ⟨by rfl, fun w hSw => by (dsimp only at hSw; go_simp; (try with_reducible rfl))⟩) (by assumption) ?_
 simp only [Act.put, ptT, ptZ, ptS]
 refine wpAnyU_last (by kernel_rfl) (by simp only [List.getElem?_toArray, List.getElem?_cons_zero, List.getElem?_cons_succ]; rfl) ?_
 intro K hK
 go_simp
 refine hK.out _ _ ?_
 clear hK K
 try simp only [Act.put, ptT, ptZ, ptS]
 refine wpAnyU_done (by kernel_rfl) ?_ _
 obtain ⟨w6, hw6⟩ : ∃ z, z = w5.setCell ⟨B, 2, none⟩ (.slice a5 (M1.ops.length + 1) c5) := ⟨_, rfl⟩
 have hob6 : w6.heap[w1.heap.size]? = some (.cells #[.int .i64 u0, .int .i64 u1, .bool u2] 51) := by rw [hw6]; exact (Below.heap_setCell _ ⟨B, 2, none⟩ _ w1.heap.size (fun e => hoB e.symm)).trans hob5
 rw [← hw6] at M6 K6 ⊢
 clear hw6
 have q2 : w6.cell? ⟨w1.heap.size, 2, none⟩ = some (.bool u2) := cell_of_row _ _ 2 _ _ _ hob6
 have L6 := hid ((HL.out.trans (keep_lowI HV.out hbs K6)).wide XI_J)
 have A6 := hid M6
 clear hob5 hob6 M6 K6 hB5 hHeld p0' p1' p2' p3' t1' g2 p0 p1 p2 p3 t0 t1 t2
 cases hs : sumO M S with
 | none =>
  have HQ2 := HQ.out
  rw [hs] at HQ2
  obtain rfl : ok = false := HQ2
  have FIN := hid (p := TakeO w base B ((sumO M S).bind fun (q : Int × Mkr) => if trB q.2 q.1 = true then some { q.2 with ops := q.2.ops ++ [(12, 0, q.1, 0)] } else none) (.returned (.bool false)) w6) (by rw [hs]; exact ⟨false, rfl, L6.out, rfl⟩)
  clear hs
  go_wp2
  go_ret
  exact FIN.out
 | some q =>
  obtain ⟨rr, Mq⟩ := q
  have HQ2 := HQ.out
  rw [hs] at HQ2
  obtain ⟨e1, e2, e3⟩ : ok = true ∧ M1 = Mq ∧ (u0, u1, u2) = ((-1 : Int), rr, trB Mq rr) := HQ2
  have e4 : u1 = rr := congrArg (fun z => z.2.1) e3
  have e5 : u2 = trB Mq rr := congrArg (fun z => z.2.2) e3
  clear e3 HQ HO
  subst e1
  subst e2
  subst e4
  have FIN := hid (p := TakeO w base B ((sumO M S).bind fun (q : Int × Mkr) => if trB q.2 q.1 = true then some { q.2 with ops := q.2.ops ++ [(12, 0, q.1, 0)] } else none) (.returned (.bool u2)) w6) (by
   rw [hs]
   show TakeO w base B (if trB M1 u1 = true then some { M1 with ops := M1.ops ++ [(12, 0, u1, 0)] } else none) (.returned (.bool u2)) w6
   rw [← e5]
   cases u2
   · exact ⟨false, rfl, L6.out, rfl⟩
   · exact ⟨true, rfl, L6.out, rfl, _, _, _, A6.out⟩)
  clear e5 hs
  cases u2
  · go_wp2
   go_ret
   exact FIN.out
  · go_wp2
   go_ret
   exact FIN.out
set_option maxRecDepth 100000 in
set_option maxHeartbeats 4000000 in
theorem lets_impl (B base : Nat) (M : Mkr) (a : Option Addr) (cap n : Nat) (S : List TI) (hn : S.length = n) (nm : ByteArray) (cv uv ov cv2 : Value) (w : World) (h : MkI w base B M cv uv ov) (hrow : ∀ w', Below base w w' → ItmAt w' a S) (hcv : ColsAt w base cv2 (M.cols ++ [nm])) (g : GoodM M) (hs : sumB S = true) (hc : ∀ x ∈ S, x.1 = 2 → x.2.2 ∈ M.cols) (hcl : M.cols.length ≤ 1000) (hm : M.ops.length + 40 ≤ 1048576) (hbw : base ≤ w.heap.size) :
  Calls Tryz.prog 45 #[.pointer (some ⟨B, 0, none⟩), .slice a n cap, cv2] w (TakeO w base B ((sumO M S).map fun q => { q.2 with cols := q.2.cols ++ [nm], outs := q.2.outs ++ [(-1, q.1, trB q.2 q.1)] })) := by
 obtain ⟨ca2, cc2, ecv, _⟩ := id hcv.at'
 obtain ⟨ln, hln⟩ : ∃ ln, (M.cols ++ [nm]).length = ln := ⟨_, rfl⟩
 rw [hln] at ecv
 subst ecv
 clear hln
 have HRK := hid (reckons_impl B base M a cap n S hn cv uv ov w h hrow g hs hc hcl hm hbw)
 have HCQ := hid (fun (q : Int × Mkr) (e : sumO M S = some q) => (sumO_good g hs hc e).2.1.cols)
 have hlen := hid g.len
 clear hn h hrow g hs hc
 go_enter Tryz.func45, Tryz.ntmps45
 go_wp2_with fail
 refine HRK.out.mono ?_
 rintro e w1 ⟨M1, ov1, ⟨u0, u1, u2⟩, ok, rfl, hM1, hL1, hops1, hou, hq⟩
 have HQ := hid hq
 have HOU := hid hou
 have hbV0 : Below w1.heap.size w1 (w1.alloc (.cells #[.int .i64 u0, .int .i64 u1, .bool u2] 51)) := (Below.refl _ _).alloc (Nat.le_refl _) _
 obtain ⟨V, hV⟩ : ∃ V, V = w1.alloc (.cells #[.int .i64 u0, .int .i64 u1, .bool u2] 51) := ⟨_, rfl⟩
 have HV1 := hid hM1
 have hob : V.heap[w1.heap.size]? = some (.cells #[.int .i64 u0, .int .i64 u1, .bool u2] 51) := by rw [hV]; exact _root_.Go.heap_alloc_new w1 _
 rw [← hV] at hbV0
 have HO := hid hob
 have HV := hid (hM1.below hbV0)
 have HL := hid (p := LowI XI base w V) (hL1.then hbw (hbV0.mono hL1.size))
 have hbs : base ≤ V.heap.size := Nat.le_trans hbw HL.out.size
 have hoB : B ≠ w1.heap.size := by have := lt_of_heapN hM1.box; omega
 clear hM1 hL1 hq hbV0 hou
 go_wp2_with fail
 rw [← hV]
 clear hV
 obtain ⟨p0, p1, p2, p3⟩ := cells4 HV.out.box
 obtain ⟨t0, t1, t2⟩ : V.cell? ⟨w1.heap.size, 0, none⟩ = some (.int .i64 u0) ∧ V.cell? ⟨w1.heap.size, 1, none⟩ = some (.int .i64 u1) ∧ V.cell? ⟨w1.heap.size, 2, none⟩ = some (.bool u2) := ⟨cell_of_row _ _ 0 _ _ _ hob, cell_of_row _ _ 1 _ _ _ hob, cell_of_row _ _ 2 _ _ _ hob⟩
 have hol := lt_of_heapN hob
 clear hob
 obtain ⟨ua, uc, rfl⟩ := slice_of_own HV.out.outs
 obtain ⟨i0, hti, hz0, hz1, hz2⟩ := info_parts infoFu15
 have HCV := hid ((hcv.lowI HL.out (by unfold XI; decide)))
 have hM1c : M1.outs.length ≤ 1000 := by rw [HOU.out, hlen.out]; exact hcl
 clear hcv
 refine wp_region_until (z := 10) (S := (fun w' => w'.cell? ⟨B, 1, none⟩ = some (.slice ua M1.outs.length uc) ∧ w'.cell? ⟨w1.heap.size, 0, none⟩ = some (.int .i64 u0) ∧ w'.cell? ⟨w1.heap.size, 1, none⟩ = some (.int .i64 u1) ∧ w'.cell? ⟨w1.heap.size, 2, none⟩ = some (.bool u2))) (by kernel_rfl) ⟨p1, t0, t1, t2⟩ (fun hHeld => ?_)
 refine wpAnyU_take (i := 0) (by simp only [List.getElem?_toArray, List.getElem?_cons_zero]; rfl) (by kernel_rfl) (by kernel_rfl) (by kernel_rfl) (by kernel_rfl) (by intro _ _ _ h; exact h) (Or.inl ⟨by rfl, fun w hSw => by (dsimp only at hSw; go_simp; (try with_reducible rfl))⟩) (by assumption) ?_
 simp only [Act.put, ptT, ptZ, ptS]
 refine wpAnyU_take (i := 1) (by simp only [List.getElem?_toArray, List.getElem?_cons_zero, List.getElem?_cons_succ]; rfl) (by kernel_rfl) (by kernel_rfl) (by kernel_rfl) (by kernel_rfl) (by intro _ _ _ h; exact h) (Or.inl ⟨by rfl, fun w hSw => by (dsimp only at hSw; go_simp; (try with_reducible rfl))⟩) (by assumption) ?_
 simp only [Act.put, ptT, ptZ, ptS]
 refine wpAnyU_take (i := 2) (by simp only [List.getElem?_toArray, List.getElem?_cons_zero, List.getElem?_cons_succ]; rfl) (by kernel_rfl) (by kernel_rfl) (by kernel_rfl) (by kernel_rfl) (by intro _ _ _ h; exact h) (Or.inl ⟨by rfl, fun w hSw => by (dsimp only at hSw; go_simp; (try with_reducible rfl))⟩) (by assumption) ?_
 simp only [Act.put, ptT, ptZ, ptS]
 refine wpAnyU_take (i := 3) (by simp only [List.getElem?_toArray, List.getElem?_cons_zero, List.getElem?_cons_succ]; rfl) (by kernel_rfl) (by kernel_rfl) (by kernel_rfl) (by kernel_rfl) (by intro _ _ _ h; exact h) (Or.inl ⟨by rfl, fun w hSw => by (dsimp only at hSw; go_simp; (try with_reducible rfl))⟩) (by assumption) ?_
 simp only [Act.put, ptT, ptZ, ptS]
 refine wpAnyU_take (i := 4) (by simp only [List.getElem?_toArray, List.getElem?_cons_zero, List.getElem?_cons_succ]; rfl) (by kernel_rfl) (by kernel_rfl) (by kernel_rfl) (by kernel_rfl) (by intro _ _ _ h; exact h) (Or.inl ⟨by rfl, fun w hSw => by (dsimp only at hSw; go_simp; (try with_reducible rfl))⟩) (by assumption) ?_
 simp only [Act.put, ptT, ptZ, ptS]
 refine wpAnyU_take (i := 5) (by simp only [List.getElem?_toArray, List.getElem?_cons_zero, List.getElem?_cons_succ]; rfl) (by kernel_rfl) (by kernel_rfl) (by kernel_rfl) (by kernel_rfl) (by intro _ _ _ h; exact h) (Or.inl ⟨by rfl, fun w hSw => by (dsimp only at hSw; go_simp; (try with_reducible rfl))⟩) (by assumption) ?_
 simp only [Act.put, ptT, ptZ, ptS]
 refine wpAnyU_one (i := 6) (by kernel_rfl) (by simp only [List.getElem?_toArray, List.getElem?_cons_zero, List.getElem?_cons_succ]; rfl) ?_
 intro K hK
 go_simp
 refine hK.out _ _ ?_ (fun hHeld => ?_)
 · (((try dsimp only); (repeat' apply And.intro) <;> first | (go_keep; done) | (simp (disch := first | omega | (simp <;> omega) | fail) [*]; done) | fail))
 clear hK K
 try simp only [Act.put, ptT, ptZ, ptS]
 refine wpAnyU_one (i := 7) (by kernel_rfl) (by simp only [List.getElem?_toArray, List.getElem?_cons_zero, List.getElem?_cons_succ]; rfl) ?_
 intro K hK
 rw [if_pos (by rfl)]
 refine wp_append_own _ _ _ 27 rfl base 51 i0 (.agg #[.int .i64 0, .int .i64 0, .bool false]) 3 24 Tryz.underlying27 hti hz0 hz1 hz2 rfl (by decide) (.slice ua M1.outs.length uc) M1.outs.length (flatFu M1.outs) rfl ((own_below HV.out.outs ((Below.refl V.heap.size V).drew)).alloc _) ⟨V.heap.size, 0, none⟩ 1 1 [.int .i64 u0, .int .i64 u1, .bool u2] rfl rfl (cells3N15 V.drew _ _ _ _) (by intro u hu; simp at hu; rcases hu with rfl | rfl | rfl <;> rfl) (by unfold maxLen; omega) (by omega) (by simp; omega) ?_
 intro v5 w5 own5 hgrow hnn
 obtain ⟨a5, c5, rfl⟩ := slice_of_own own5
 have hbx := (((Below.refl V.heap.size V).drew).alloc (by simp) (.cells #[.int .i64 u0, .int .i64 u1, .bool u2] 51))
 obtain ⟨hB5, M6, K6⟩ := HV.out.pushOuts (o := (u0, u1, u2)) hbx hgrow own5
 have hul : ∀ g, (Value.slice ua M1.outs.length uc).ownBlock = some g → g < w1.heap.size := fun g e => (HV1.out.outs.lt g e).2
 have hob5 : w5.heap[w1.heap.size]? = some (.cells #[.int .i64 u0, .int .i64 u1, .bool u2] 51) := (hgrow.block _ (by simp; omega) (fun e => by have := hul _ e.symm; omega)).trans ((hbx.block _ hol).trans HO.out)
 obtain ⟨p0', p1', p2', p3'⟩ := cells4 hB5
 obtain ⟨t0', t1', t2'⟩ : w5.cell? ⟨w1.heap.size, 0, none⟩ = some (.int .i64 u0) ∧ w5.cell? ⟨w1.heap.size, 1, none⟩ = some (.int .i64 u1) ∧ w5.cell? ⟨w1.heap.size, 2, none⟩ = some (.bool u2) := ⟨cell_of_row _ _ 0 _ _ _ hob5, cell_of_row _ _ 1 _ _ _ hob5, cell_of_row _ _ 2 _ _ _ hob5⟩
 have g1 : w5.frozen? ⟨B, 1, none⟩ = false := by simp [World.frozen?, hB5]
 clear own5 hgrow hnn hbx hul
 refine hK.out _ _ ⟨p1', t0', t1', t2'⟩ (fun hHeld => ?_)
 clear hK K
 try simp only [Act.put, ptT, ptZ, ptS]
 refine wpAnyU_one (i := 8) (by kernel_rfl) (by simp only [List.getElem?_toArray, List.getElem?_cons_zero, List.getElem?_cons_succ]; rfl) ?_
 intro K hK
 go_simp
 refine hK.out _ _ ⟨p1', t0', t1', t2'⟩ (fun hHeld => ?_)
 clear hK K
 try simp only [Act.put, ptT, ptZ, ptS]
 refine wpAnyU_take (i := 9) (by simp only [List.getElem?_toArray, List.getElem?_cons_zero, List.getElem?_cons_succ]; rfl) (by kernel_rfl) (by kernel_rfl) (by kernel_rfl) (by kernel_rfl) (by intro _ _ _ h; exact h) (Or.inl ⟨by rfl, fun w hSw => by (dsimp only at hSw; go_simp; (try with_reducible rfl))⟩) (by assumption) ?_
 simp only [Act.put, ptT, ptZ, ptS]
 refine wpAnyU_last (by kernel_rfl) (by simp only [List.getElem?_toArray, List.getElem?_cons_zero, List.getElem?_cons_succ]; rfl) ?_
 intro K hK
 go_simp
 refine hK.out _ _ ?_
 clear hK K
 try simp only [Act.put, ptT, ptZ, ptS]
 refine wpAnyU_done (by kernel_rfl) ?_ _
 obtain ⟨w6, hw6⟩ : ∃ z, z = w5.setCell ⟨B, 1, none⟩ (.slice a5 (M1.outs.length + 1) c5) := ⟨_, rfl⟩
 rw [← hw6] at M6 K6 ⊢
 clear hw6
 have L6 := hid (HL.out.wide XI_J |>.trans (keep_lowJ HV.out hbs K6))
 have A6 := hid M6
 have HC6 := hid (HCV.out.lowI (keep_lowJ HV.out hbs K6) (by unfold XJ XI; decide))
 obtain ⟨p0, p1, p2, p3⟩ := cells4 A6.out.box
 have g0 : w6.frozen? ⟨B, 0, none⟩ = false := by simp [World.frozen?, A6.out.box]
 have A7 := hid (A6.out.setCols HC6.out)
 have L7 := hid (L6.out.trans (A6.out.setLow (i := 0) (v := .slice ca2 ln cc2) (.inl (.inl rfl))))
 clear hob5 M6 K6 hB5 hHeld p0' p1' p2' p3' t0' t1' t2' g1 t0 t1 t2
 cases hs : sumO M S with
 | none =>
  have HQ2 := HQ.out
  rw [hs] at HQ2
  obtain rfl : ok = false := HQ2
  have FIN := hid (p := TakeO w base B ((sumO M S).map fun (q : Int × Mkr) => { q.2 with cols := q.2.cols ++ [nm], outs := q.2.outs ++ [(-1, q.1, trB q.2 q.1)] }) (.returned (.bool false)) (w6.setCell ⟨B, 0, none⟩ (.slice ca2 ln cc2))) (by rw [hs]; exact ⟨false, rfl, L7.out, rfl⟩)
  clear hs
  go_wp2
  go_ret
  exact FIN.out
 | some q =>
  obtain ⟨rr, Mq⟩ := q
  have HQ2 := HQ.out
  rw [hs] at HQ2
  obtain ⟨e1, e2, e3⟩ : ok = true ∧ M1 = Mq ∧ (u0, u1, u2) = ((-1 : Int), rr, trB Mq rr) := HQ2
  have FIN := hid (p := TakeO w base B ((sumO M S).map fun (q : Int × Mkr) => { q.2 with cols := q.2.cols ++ [nm], outs := q.2.outs ++ [(-1, q.1, trB q.2 q.1)] }) (.returned (.bool ok)) (w6.setCell ⟨B, 0, none⟩ (.slice ca2 ln cc2))) (by
   have A8 := A7.out
   rw [e3] at A8
   rw [hs]
   rw [← e2] at A8 ⊢
   rw [e1]
   have hcq : M1.cols = M.cols := HCQ.out (rr, M1) (by rw [hs, e2])
   have A9 : MkI (w6.setCell ⟨B, 0, none⟩ (.slice ca2 ln cc2)) base B { M1 with cols := M1.cols ++ [nm], outs := M1.outs ++ [(-1, rr, trB M1 rr)] } (.slice ca2 ln cc2) (.slice a5 (M1.outs.length + 1) c5) ov1 := by
    rw [hcq]
    exact A8
   exact ⟨true, rfl, L7.out, rfl, _, _, _, A9⟩)
  clear e1 e2 e3 hs HQ HO
  go_wp2
  go_ret
  exact FIN.out
set_option maxRecDepth 100000 in
set_option maxHeartbeats 4000000 in
theorem keeps_impl (B base : Nat) (M : Mkr) (a : Option Addr) (cap n : Nat) (N : List ByteArray) (hn : N.length = n) (cv uv ov : Value) (w : World) (h : MkI w base B M cv uv ov) (hcv : ColsAt w base (.slice a n cap) N) (g : GoodM M) (hin : ∀ x ∈ N, x ∈ M.cols) (hn6 : n ≤ 6) (hcl : M.cols.length ≤ 1000) (hbw : base ≤ w.heap.size) :
  Calls Tryz.prog 46 #[.pointer (some ⟨B, 0, none⟩), .slice a n cap] w fun e w' => e = .returned (.tuple #[]) ∧ LowI XJ base w w' ∧ ∃ uv', MkI w' base B { M with cols := N, outs := N.map fun n => M.outs.getD (plcF M.cols n) zU } (.slice a n cap) uv' ov := by
 have HM := hid h
 have HG := hid g.len
 have HN := hid hn
 have HSt := hid (p := StrsAt w a N) (by
  obtain ⟨ca, cc, e, hs, _⟩ := hcv.at'
  injection e with e1
  rw [e1]
  exact hs)
 have HOM := hid (fun (x : ByteArray) (hx : x ∈ N) (wz : World) (hz : Below w.heap.size w wz) => outof_impl B base M x cv uv ov wz (h.below hz) g (hin x hx) hcl)
 have HCV := hid hcv
 obtain ⟨i0, hti, hz0, hz1, hz2⟩ := info_parts infoFu15
 obtain ⟨F, hF⟩ : ∃ F : ByteArray → FU, F = fun n => M.outs.getD (plcF M.cols n) zU := ⟨_, rfl⟩
 have HF := hid (fun x => congrFun hF x)
 rw [← hF]
 clear hn h g hin hcv hF
 go_enter Tryz.func46, Tryz.ntmps46
 go_wp2_with (at_make; refine wpList_make_own _ rfl _ _ 27 rfl w.heap.size 51 i0 (.agg #[.int .i64 0, .int .i64 0, .bool false]) 3 Tryz.underlying27 hti hz0 hz1 .i64 .i64 _ n rfl rfl rfl (by rw [hz2]; omega) (by unfold maxLen; omega) (Nat.le_refl _) ?_)
 intro w2 own2 hg2
 have hA2 : Below w.heap.size w w2 := (Below.refl _ _).grown hg2 (Nat.le_refl _) (by intro k h; cases h)
 have HO2 := hid (p := w2.ownsRow w.heap.size 51 3 (.slice (some ⟨w.heap.size, 0, none⟩) 0 n) 0 (flatFu ((N.take 0).map F))) (by simpa [flatFu] using own2)
 clear own2 hg2
 go_wp2
 go_loopw [4, 12] (fun lv kk wr => ∃ (k : Nat) (la : Option Addr) (lc : Nat), k ≤ n ∧ kk = .int .i64 k ∧ lv = .slice la k lc ∧ Hid (wr.ownsRow w.heap.size 51 3 (.slice la k lc) k (flatFu ((N.take k).map F))) ∧ Below w.heap.size w wr) (fun _ kk _ => n - (intOf kk).toNat)
 case atStart => exact ⟨0, some ⟨w.heap.size, 0, none⟩, n, Nat.zero_le _, rfl, rfl, HO2, hA2⟩
 case round =>
  obtain ⟨k, la, lc, hk, rfl, rfl, hO, hbw'⟩ := hrel
  clear hA2
  have hi0 : (0 : Int) ≤ (k : Int) := by omega
  by_cases hlt : k < n
  · have hi1 : (k : Int) < (n : Int) := by omega
   have hlt' : k < N.length := by rw [HN.out]; exact hlt
   obtain ⟨gn, on, rfl, hgn, n0⟩ := HSt.out.below hbw' k hlt'
   have HOx := hid (HOM.out _ (List.getElem_mem hlt') wr hbw')
   have HT := hid (p := (N.take (k + 1)).map F = (N.take k).map F ++ [F N[k]]) (by rw [List.take_succ_eq_append_getElem hlt', List.map_append]; rfl)
   generalize N[k]'hlt' = x at n0 HOx HT
   rw [← HF.out x] at HOx
   obtain ⟨u, hu⟩ : ∃ u, F x = u := ⟨_, rfl⟩
   rw [hu] at HOx HT
   obtain ⟨ub, ur, ut⟩ := u
   unfold fuV at HOx
   dsimp only at HOx
   clear hu hlt'
   go_wp2_with fail
   refine HOx.out.mono ?_
   rintro e w3 ⟨rfl, hb3⟩
   have O3 := hid (own_below hO.out hb3)
   have hx3 := chain hbw' hb3
   clear hO hb3 hbw' n0
   go_wp2_with (at_builtin; refine wpList_append_own _ rfl _ _ 27 rfl w.heap.size 51 i0 (.agg #[.int .i64 0, .int .i64 0, .bool false]) 3 24 Tryz.underlying27 hti hz0 hz1 hz2 rfl (by decide) _ _ _ rfl (O3.out.alloc _) ⟨w3.heap.size, 0, none⟩ 1 1 [.int .i64 ub, .int .i64 ur, .bool ut] rfl rfl (cells3N15 w3 _ _ _ _) (by intro u hu; simp at hu; rcases hu with rfl | rfl | rfl <;> rfl) (by unfold maxLen; omega) (by omega) (by have := hx3.size; simp; omega) ?_)
   intro v4 w4 own4 hgrow hnn
   have hx4 : Below w.heap.size w w4 := by
    refine (hx3.alloc hx3.size _).grown hgrow (by have := hx3.size; simp; omega) ?_
    intro kk hkk
    exact (O3.out.lt kk hkk).1
   obtain ⟨a4, c4, rfl⟩ := slice_of_own own4
   have SS := hid (p := w4.ownsRow w.heap.size 51 3 (.slice a4 (k + 1) c4) (k + 1) (flatFu ((N.take (k + 1)).map F))) (by
    rw [HT.out, flatFu_append, List.map_take]
    exact own4)
   clear own4 hgrow hnn O3 hx3
   go_wp2
   go_roundw
   case rel => exact ⟨k + 1, a4, c4, by omega, by go_num, rfl, SS, hx4⟩
   case measure => simp [intOf]; omega
  · have hkl : k = n := by omega
   subst hkl
   have hnn : ¬ (k : Int) < (k : Int) := by omega
   have hO2 := hO.out
   rw [List.take_of_length_le (by rw [HN.out]; exact Nat.le_refl _)] at hO2
   have hO3 : wr.ownsRow base 51 3 (.slice la k lc) (N.map F).length (flatFu (N.map F)) := by
    rw [List.length_map, HN.out]
    rcases hO2.2 with ⟨e1, e2⟩ | ⟨g, c, cur, e1, e2, e3⟩
    · exact ⟨hO2.1, .inl ⟨e1, e2⟩⟩
    · exact ⟨hO2.1, .inr ⟨g, c, cur, e1, Nat.le_trans hbw e2, e3⟩⟩
   have HR := hid (HM.out.below hbw')
   have A6 := hid (HR.out.setOuts hO3)
   have HL1 := hid (((LowI.of (X := XJ) hbw hbw')).trans (HR.out.setLow (i := 1) (v := .slice la k lc) (.inl (.inl rfl))))
   have HC6 := hid (HCV.out.lowI HL1.out (by unfold XJ XI; decide))
   have A7 := hid (A6.out.setCols HC6.out)
   have HL2 := hid (HL1.out.trans (A6.out.setLow (i := 0) (v := .slice a k cap) (.inl (.inl rfl))))
   obtain ⟨p0, p1, p2, p3⟩ := cells4 HR.out.box
   have pf : ∀ j, wr.frozen? ⟨B, j, none⟩ = false := fun j => by simp [World.frozen?, HR.out.box]
   have pf0 := pf 0
   have pf1 := pf 1
   clear hO hO2 hO3 pf
   go_wp2
   exact bodyPost_end (v := .tuple #[]) (by first | rfl | kernel_rfl) rfl ⟨rfl, HL2.out, _, A7.out⟩
end Go.Proofs.YtjjkdbmjloolaaaGreatDoor
namespace Go.Proofs.YtjjkdbmjloolaaaGreatDoor
def stepP (M : Mkr) (s : SV) : Option Mkr := if (decide (2 ≤ s.kind) && decide (s.kind ≤ 4)) = true ∧ (stepShapeR [] M.cols s).2 = 0 then sieveO M s else none
def runP : Mkr → List SV → Option Mkr
 | M, [] => some M
 | M, s :: l => (stepP M s).bind fun q => runP q l
theorem runP_append : ∀ (l m : List SV) (M : Mkr), runP M (l ++ m) = (runP M l).bind fun q => runP q m
 | [], _, _ => rfl
 | x :: l, m, M => by
  show ((stepP M x).bind fun q => runP q (l ++ m)) = ((stepP M x).bind fun q => runP q l).bind _
  cases stepP M x with
  | none => rfl
  | some q => exact runP_append l m q
theorem runP_snoc (M : Mkr) (l : List SV) (k : Nat) (h : k < l.length) : runP M (l.take (k + 1)) = (runP M (l.take k)).bind fun q => stepP q l[k] := by
 rw [List.take_succ_eq_append_getElem h, runP_append]
 congr 1
 funext q
 show ((stepP q l[k]).bind fun r => some r) = _
 cases stepP q l[k] <;> rfl
theorem runP_stop {M : Mkr} {L : List SV} {k : Nat} (h : runP M (L.take k) = none) : runP M L = none := by
 have e : L = L.take k ++ L.drop k := (List.take_append_drop k L).symm
 rw [e, runP_append, h]
 rfl
theorem stepP_good {M q : Mkr} {s : SV} (g : GoodM M) (h : stepP M s = some q) : GoodM q ∧ q.ops.length + M.tr.length ≤ M.ops.length + q.tr.length + 1 ∧ namesB q.cols 1 6 = true ∧ q.cols = (stepShapeR [] M.cols s).1 := by
 unfold stepP at h
 split at h
 · rename_i hk
  obtain ⟨hD, h2⟩ := askM_of hk.1 (Prod.ext rfl hk.2 : stepShapeR [] M.cols s = ((stepShapeR [] M.cols s).1, 0))
  obtain ⟨k1, k2, k3⟩ := sieveO_good g hD h
  rw [← h2] at k3
  exact ⟨k1, k2, by rw [k3]; exact (stepShape_names (Prod.ext rfl hk.2 : stepShapeR [] M.cols s = ((stepShapeR [] M.cols s).1, 0))).1, k3⟩
 · cases h
theorem runP_eq : ∀ (l : List SV) (M : Mkr), GoodM M → (if fitsF3 M.cols l = true then runS M l else none) = runP M l
 | [], _, _ => rfl
 | s :: l, M, g => by
  show (if ((decide (2 ≤ s.kind) && decide (s.kind ≤ 4)) && (decide ((stepShapeR [] M.cols s).2 = 0) && fitsF3 (stepShapeR [] M.cols s).1 l)) = true then (sieveO M s).bind (fun q => runS q l) else none) = (stepP M s).bind fun q => runP q l
  by_cases hk : (decide (2 ≤ s.kind) && decide (s.kind ≤ 4)) = true ∧ (stepShapeR [] M.cols s).2 = 0
  · have e : stepP M s = sieveO M s := by unfold stepP; rw [if_pos hk]
   rw [hk.1, Bool.true_and, decide_eq_true hk.2, Bool.true_and, e]
   cases hq : sieveO M s with
   | none =>
    show (if _ then none else none) = none
    split <;> rfl
   | some q =>
    rw [← e] at hq
    obtain ⟨k1, _, _, k4⟩ := stepP_good g hq
    rw [← k4]
    exact runP_eq l q k1
  · have e : stepP M s = none := by unfold stepP; rw [if_neg hk]
   rw [e]
   have e2 : ((decide (2 ≤ s.kind) && decide (s.kind ≤ 4)) && (decide ((stepShapeR [] M.cols s).2 = 0) && fitsF3 (stepShapeR [] M.cols s).1 l)) = false := by
    rw [Bool.eq_false_iff]
    intro h
    have h1 := (Bool.and_eq_true _ _).mp h
    have h2 := (Bool.and_eq_true _ _).mp h1.2
    exact hk ⟨h1.1, of_decide_eq_true h2.1⟩
   rw [e2]
   rfl
theorem fastP_eq (C : List ByteArray) (l : List SV) : fastR C l = if (namesB C 1 6 && decide (l.length ≤ 8)) = true then runP (startM C) l else none := by
 unfold fastR
 by_cases h : (namesB C 1 6 && decide (l.length ≤ 8)) = true
 · rw [h, Bool.true_and, if_pos rfl]
  exact runP_eq l (startM C) (start_good C)
 · rw [Bool.eq_false_iff.2 h, Bool.false_and]
  rfl
theorem runP_good {C : List ByteArray} {L : List SV} (h : namesB C 1 6 = true) : ∀ (j : Nat) (q : Mkr), j ≤ L.length → runP (startM C) (L.take j) = some q → GoodM q ∧ q.ops.length ≤ q.tr.length + j ∧ namesB q.cols 1 6 = true
 | 0, q, _, hq => by
  rw [List.take_zero] at hq
  have e : startM C = q := Option.some.inj hq
  subst e
  exact ⟨start_good C, by simp [startM], h⟩
 | j + 1, q, hj, hq => by
  rw [runP_snoc _ _ _ (by omega : j < L.length)] at hq
  cases hz : runP (startM C) (L.take j) with
  | none => rw [hz] at hq; cases hq
  | some z =>
   rw [hz] at hq
   obtain ⟨k1, k2, k3⟩ := runP_good h j z (by omega) hz
   obtain ⟨j1, j2, j3, _⟩ := stepP_good k1 hq
   exact ⟨j1, by omega, j3⟩
end Go.Proofs.YtjjkdbmjloolaaaGreatDoor
