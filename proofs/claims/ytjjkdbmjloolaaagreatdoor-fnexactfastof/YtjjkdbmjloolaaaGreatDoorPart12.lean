/-
  A part of the proof: FastItem.
-/
import Derived.Test.YtjjkdbmjloolaaaGreatDoorPart9
import Derived.Test.YtjjkdbmjloolaaaGreatDoorPart11
import Derived.Test.YtjjkdbmjloolaaaGreatDoorPart8

namespace Go.Proofs.YtjjkdbmjloolaaaGreatDoor
open Go.ChangeShapes Go.WideShapes Go.ChangeAt Go.RowKit Go.Joins
attribute [local go_sem ↓] Go.wp_at_zero Go.wp_at_succ
attribute [local simp] World.cell?_alloc_past World.cell?_alloc_at World.frozen?_alloc_at cell_far cell_off cell_here World.frozen?_alloc_past
def intV (l : List Int) : List Value := l.map (Value.int .i64)
theorem intV_len (l : List Int) : (intV l).length = l.length := List.length_map _
theorem intV_snoc (l : List Int) (x : Int) : intV (l ++ [x]) = intV l ++ [.int .i64 x] := List.map_append
theorem newM_bad {M : Mkr} (h : M.bad = true) (o : FO) (t : Bool) : (newM M o t).2.bad = true := by
 unfold newM
 split
 · rfl
 · exact h
theorem newM_none {M : Mkr} {o : FO} {t : Bool} (h : newO M o t = none) : (newM M o t).2.bad = true := by
 unfold newO at h
 split at h
 · rename_i h30; unfold newM; rw [if_pos h30]
 · cases h
theorem newM_some {M : Mkr} {o : FO} {t : Bool} {q : Int × Mkr} (h : newO M o t = some q) : newM M o t = q := by
 unfold newO at h
 split at h
 · cases h
 · injection h
theorem leafM_none {M : Mkr} {x : TI} (h : leafO M x = none) : (leafM M x.1 x.2.1 (plcF M.cols x.2.2)).2.bad = true := by
 unfold leafO at h
 unfold leafM
 split at h
 · rename_i h1
  rw [if_pos h1]
  split at h
  · rename_i h2
   rw [if_pos h2]
   exact newM_none h
  · rename_i h2
   rw [if_neg h2]
 · rename_i h1
  rw [if_neg h1]
  split at h
  · cases h
  · rename_i h2
   have h2' : ¬ 0 ≤ (M.outs.getD (plcF M.cols x.2.2) (0, 0, false)).2.1 := h2
   rw [if_neg h2']
   exact newM_none h
theorem leafM_some {M : Mkr} {x : TI} {q : Int × Mkr} (h : leafO M x = some q) : leafM M x.1 x.2.1 (plcF M.cols x.2.2) = q := by
 unfold leafO at h
 unfold leafM
 split at h
 · rename_i h1
  rw [if_pos h1]
  split at h
  · rename_i h2
   rw [if_pos h2]
   exact newM_some h
  · cases h
 · rename_i h1
  rw [if_neg h1]
  split at h
  · rename_i h2
   have h2' : 0 ≤ (M.outs.getD (plcF M.cols x.2.2) (0, 0, false)).2.1 := h2
   rw [if_pos h2']
   injection h
  · rename_i h2
   have h2' : ¬ 0 ≤ (M.outs.getD (plcF M.cols x.2.2) (0, 0, false)).2.1 := h2
   rw [if_neg h2']
   exact newM_some h
theorem own_cutI {w : World} {base n c : Nat} {pa : Option Addr} {e : TypeId} {p : List Int} (h : w.ownsRow base e 1 (.slice pa n c) n (intV p)) (m : Nat) (hm : m ≤ n) : w.ownsRow base e 1 (.slice pa m c) m (intV (p.take m)) := by
 have hl : p.length = n := by have := h.1; rw [intV_len] at this; omega
 have ht : intV (p.take m) = (intV p).take m := List.map_take
 rcases h.2 with ⟨h', h0⟩ | ⟨g', c', cur, h', hb', hg', hc', hm', hz', ht'⟩
 · have e0 : m = 0 := by omega
  subst e0
  subst h0
  exact ⟨by rw [intV_len, List.length_take]; omega, .inl ⟨h', rfl⟩⟩
 · refine ⟨by rw [intV_len, List.length_take]; omega, .inr ⟨g', c', cur, ?_, hb', hg', by omega, hm', hz', ?_⟩⟩
  · cases h'; rfl
  · have e2 : cur.toList.take (m * 1) = (cur.toList.take (n * 1)).take (m * 1) := by rw [List.take_take]; congr 1; omega
   rw [e2, ht', ht, Nat.mul_one]
def World.size2 (w : World) : Nat := w.heap.size
def World.blk2 (w : World) (b : Nat) : Option Obj := w.heap[b]?
def KeepT (w w' : World) : Prop := ∀ (b : Nat) (cs : Array Value) (T : TypeId), w.heap[b]? = some (.cells cs T) → T ≠ 49 → T ≠ 75 → T ≠ 4 → T ≠ 2 → w'.heap[b]? = w.heap[b]?
structure LowK (base : Nat) (w w' : World) : Prop where
 bel : Below base w w'
 kt : KeepT w w'
theorem LowK.size {base : Nat} {w w' : World} (h : LowK base w w') : w.heap.size ≤ w'.heap.size := h.bel.size
theorem LowK.trans {base : Nat} {a b c : World} (h : LowK base a b) (k : LowK base b c) : LowK base a c :=
 ⟨h.bel.trans k.bel, fun i cs T e h1 h2 h3 h4 => (k.kt i cs T ((h.kt i cs T e h1 h2 h3 h4).trans e) h1 h2 h3 h4).trans (h.kt i cs T e h1 h2 h3 h4)⟩
theorem LowK.of {base : Nat} {w w' : World} (hb : base ≤ w.heap.size) (h : Below w.heap.size w w') : LowK base w w' := ⟨h.mono hb, fun i _ _ e _ _ _ _ => h.block i (lt_of_heapN e)⟩
theorem LowK.setCell {base : Nat} {w w1 : World} (h : LowK base w w1) {B i : Nat} (hlo : base ≤ B) (v : Value) {cur : Array Value} (hB : w1.heap[B]? = some (.cells cur 49)) : LowK base w (w1.setCell ⟨B, i, none⟩ v) :=
 h.trans ⟨(Below.refl base w1).setCell (p := ⟨B, i, none⟩) hlo v, fun k cs T e h1 _ _ _ => Below.heap_setCell w1 ⟨B, i, none⟩ v k (fun e2 => by
  have e3 : B = k := e2.symm
  subst e3
  rw [hB] at e
  simp at e
  exact h1 e.2.symm)⟩
theorem keep_low {w w' : World} {base B : Nat} {M : Mkr} {ov cv uv tv : Value} (h : MkAt w base B M ov cv uv tv) (hb : base ≤ w.heap.size) (k : KeepS (mkBlk B ov tv) w w') : LowK base w w' :=
 ⟨⟨k.os, k.tape, k.output, k.size, fun i hi => k.block i (by omega) (fun hp => by
  rcases hp with e | e | e
  · have := h.lo; omega
  · have := (h.ops.lt _ e).1; omega
  · have := (h.tr.lt _ e).1; omega)⟩, fun i cs T e h1 h2 h3 _ => k.block i (lt_of_heapN e) (fun hp => by
  have hrow : ∀ {e : TypeId} {s : Nat} {v : Value} {n : Nat} {x : List Value}, w.ownsRow base e s v n x → v.ownBlock = some i → T = e := fun hr e2 => by
   rcases hr.2 with ⟨e3, _⟩ | ⟨g, c, cur, e3, _, hg, _⟩
   · rw [e3] at e2; cases e2
   · rw [e3] at e2
    have e4 : g = i := Option.some.inj e2
    subst e4
    rw [hg] at e
    simp at e
    exact e.2.symm
  rcases hp with e2 | e2 | e2
  · subst e2
   rw [h.box] at e
   simp at e
   exact h1 e.2.symm
  · exact h2 (hrow h.ops e2)
  · exact h3 (hrow h.tr e2))⟩
theorem pile_keep {w w' : World} {base B : Nat} {M : Mkr} {ov cv uv tv pv : Value} {n : Nat} {xs : List Value} (h : MkAt w base B M ov cv uv tv) (hp : w.ownsRow base 2 1 pv n xs) (k : KeepS (mkBlk B ov tv) w w') : w'.ownsRow base 2 1 pv n xs :=
 own_keepF hp k (fun g e hp2 => by
  rcases hp2 with e2 | e2 | e2
  · subst e2; exact own_box hp h.box (by decide) e
  · rcases own_apartF hp h.ops (by decide) with e3 | e3
   · rw [e3] at e; cases e
   · exact e3 (e.trans e2.symm)
  · rcases own_apartF hp h.tr (by decide) with e3 | e3
   · rw [e3] at e; cases e
   · exact e3 (e.trans e2.symm))
theorem MkAt.keepP {w w' : World} {base B : Nat} {M : Mkr} {ov cv uv tv pv : Value} {n : Nat} {xs : List Value} (h : MkAt w base B M ov cv uv tv) (hp : w.ownsRow base 2 1 pv n xs) (k : KeepS (fun g => pv.ownBlock = some g) w w') : MkAt w' base B M ov cv uv tv := by
 have far : ∀ {e : TypeId} {s : Nat} {v : Value} {m : Nat} {x : List Value}, w.ownsRow base e s v m x → e ≠ 2 → w'.ownsRow base e s v m x := fun hr he => own_keepF hr k (fun g e1 e2 => by
  rcases own_apartF hr hp he with e3 | e3
  · rw [e3] at e1; cases e1
  · exact e3 (e1.trans e2.symm))
 exact ⟨(k.block _ (lt_of_heapN h.box) (fun e => own_box hp h.box (by decide) e)).trans h.box, h.lo, far h.ops (by decide), far h.cols (by decide), far h.outs (by decide), far h.tr (by decide)⟩
def ItemOut (w : World) (base B : Nat) (M : Mkr) (x : TI) (p : List Int) (cv uv : Value) (e : Ending) (w' : World) : Prop :=
 ∃ M' ov' tv' pa' n' pc' P', e = .returned (.slice pa' n' pc') ∧ MkAt w' base B M' ov' cv uv tv' ∧ P'.length = n' ∧ w'.ownsRow base 2 1 (.slice pa' n' pc') n' (intV P') ∧ LowK base w w' ∧ (match itemO M x p with | none => M'.bad = true | some q => M' = q.2 ∧ P' = q.1)
theorem infoI15 : (Tryz.prog.info? 2).map (fun i => (i.zero, i.size, i.bytes)) = some (some (.int .i64 0), 1, 8) := by kernel_rfl
theorem slice_of_own {w : World} {base : Nat} {e : TypeId} {s : Nat} {v : Value} {n : Nat} {x : List Value} (h : w.ownsRow base e s v n x) : ∃ a c, v = .slice a n c := by
 rcases h.2 with ⟨e1, e2⟩ | ⟨g, c, cur, e1, _⟩
 · exact ⟨none, 0, by rw [e1, e2]⟩
 · exact ⟨_, _, e1⟩
theorem pile_push {w W w5 : World} {base B : Nat} {M M' : Mkr} {x : TI} {p p0 : List Int} {r : Int} {ov cv uv tv v5 : Value} {pa : Option Addr} {n pc : Nat} (hb : LowK base w W) (h : MkAt W base B M' ov cv uv tv) (hp : W.ownsRow base 2 1 (.slice pa n pc) n (intV p0)) (hn : p0.length = n) (hg : (W.alloc (.cells #[.int .i64 r] 2)).grownBy w5 (Value.slice pa n pc).ownBlock) (hown : w5.ownsRow base 2 1 v5 (n + 1) (intV p0 ++ [.int .i64 r]))
  (hq : match itemO M x p with | none => M'.bad = true | some q => M' = q.2 ∧ p0 ++ [r] = q.1) : ItemOut w base B M x p cv uv (.returned v5) w5 := by
 have hA : Below W.heap.size W (W.alloc (.cells #[.int .i64 r] 2)) := (Below.refl _ _).alloc (Nat.le_refl _) _
 have K5 : KeepS (fun g => (Value.slice pa n pc).ownBlock = some g) (W.alloc (.cells #[.int .i64 r] 2)) w5 := ⟨hg.os, hg.tape, hg.output, hg.size, fun k hk hn => hg.block k hk (fun e => hn e.symm)⟩
 obtain ⟨a5, c5, rfl⟩ := slice_of_own hown
 refine ⟨M', ov, tv, a5, n + 1, c5, p0 ++ [r], rfl, (h.below hA).keepP (own_below hp hA) K5, by simp [hn], by rw [intV_snoc]; exact hown, ?_, hq⟩
 have hbs := lt_of_heapN h.box
 have hlo := h.lo
 refine hb.trans ⟨⟨K5.os.trans hA.os, K5.tape.trans hA.tape, K5.output.trans hA.output, Nat.le_trans hA.size K5.size, fun i hi => ?_⟩, fun i cs T e h1 h2 h3 h4 => ?_⟩
 · refine (K5.block i (by simp; omega) (fun e => ?_)).trans (hA.block i (by omega))
  have := (hp.lt _ e).1
  omega
 · have hi := lt_of_heapN e
  refine (K5.block i (by simp; omega) (fun e2 => ?_)).trans (hA.block i hi)
  rcases hp.2 with ⟨e3, _⟩ | ⟨g, c, cur, e3, _, hg', _⟩
  · rw [e3] at e2; cases e2
  · rw [e3] at e2
   have e4 : g = i := Option.some.inj e2
   subst e4
   rw [hg'] at e
   simp at e
   exact h4 e.2.symm
set_option maxRecDepth 100000 in
set_option maxHeartbeats 4000000 in
theorem item_spec15 (B base : Nat) (M : Mkr) (xk ca cb : Int) (cc xs : ByteArray) (p : List Int) (n : Nat) (hn : p.length = n) (ov cv uv tv : Value) (pa : Option Addr) (pc : Nat) (w : World) (h : MkAt w base B M ov cv uv tv) (hp : w.ownsRow base 2 1 (.slice pa n pc) n (intV p)) (g : GoodM M) (hr : RegsM M p) (hnd : needsI xk ≤ n) (hx : xk ≠ 1 → needsI xk = 0 → xs ∈ M.cols) (hk1 : 1 ≤ xk) (hk2 : xk ≤ 12) (hm : M.ops.length ≤ 1048576) (hpn : n ≤ 1048576) (hbw : base ≤ w.heap.size) :
  Calls Tryz.prog 55 #[.pointer (some ⟨B, 0, none⟩), .agg #[.int .i64 xk, .int .i64 ca, .int .i64 cb, .string cc, .string xs], .slice pa n pc] w (ItemOut w base B M (xk, (ca, cb, cc), xs) p cv uv) := by
 obtain ⟨i0, hti, hz0, hz1, hz2⟩ := info_parts infoI15
 have H := hid h
 have HP := hid hp
 have hA : Below w.heap.size w (w.alloc (.cells #[.int .i64 xk, .int .i64 ca, .int .i64 cb, .string cc, .string xs] 97)) := (Below.refl _ _).alloc (Nat.le_refl _) _
 have hAB : LowK base w (w.alloc (.cells #[.int .i64 xk, .int .i64 ca, .int .i64 cb, .string cc, .string xs] 97)) := LowK.of hbw ((Below.refl _ _).alloc (Nat.le_refl _) _)
 have HG := hid g
 have HRG := hid hr
 have HX := hid hx
 have HPN := hid hn
 clear h hp hn hx g hr
 by_cases h0 : xk ≤ 2
 · have hx0 : needsI xk = 0 := by unfold needsI; rw [if_pos h0]
  have HL := hid (leaf_spec B base M xk ca cb cc xs (plcF M.cols xs) ov cv uv tv _ (H.out.below hA) (fun h1 => ⟨plc_is (HX.out h1 hx0), by rw [HG.out.len]; exact (plc_at (HX.out h1 hx0)).1⟩) hm HG.out.tr)
  go_enter Tryz.func55, Tryz.ntmps55
  go_wp2_with fail
  refine (needs_spec xk 0 hx0 _).mono ?_
  rintro e w1 ⟨rfl, rfl⟩
  go_wp2_with fail
  refine HL.out.mono ?_
  rintro e w2 ⟨ov2, tv2, rfl, h2, k2⟩
  have M2 := hid h2
  have P2 := hid (pile_keep (H.out.below hA) (own_below HP.out hA) k2)
  have B2 := hid (hAB.trans (keep_low (H.out.below hA) (Nat.le_trans hbw hA.size) k2))
  have hsz := Nat.le_trans hbw B2.out.size
  have hrx : ∃ r, r = (leafM M xk (ca, cb, cc) (plcF M.cols xs)).1 := ⟨_, rfl⟩
  obtain ⟨r, hrr⟩ := hrx
  rw [← hrr]
  have HQ := hid (p := match itemO M (xk, (ca, cb, cc), xs) p with | none => (leafM M xk (ca, cb, cc) (plcF M.cols xs)).2.bad = true | some q => (leafM M xk (ca, cb, cc) (plcF M.cols xs)).2 = q.2 ∧ p ++ [r] = q.1) (by
   unfold itemO
   simp only [hx0, if_true]
   cases hl : leafO M (xk, (ca, cb, cc), xs) with
   | none => exact leafM_none hl
   | some q =>
    have e := leafM_some hl
    simp only [Option.map_some]
    rw [hrr]
    exact ⟨congrArg Prod.snd e, congrArg (fun z => p ++ [z]) (congrArg Prod.fst e)⟩)
  clear h2 k2 HL hrr
  go_wp2_with (at_builtin; refine wpList_append_own _ rfl _ _ 104 rfl base 2 i0 (.int .i64 0) 1 8 Tryz.underlying104 hti hz0 hz1 hz2 rfl (by decide) (.slice pa n pc) n (intV p) rfl (P2.out.alloc _) ⟨w2.heap.size, 0, none⟩ 1 1 [.int .i64 r] rfl rfl (cells1N w2 _ _) (by intro u hu; simp at hu; subst hu; rfl) (by unfold maxLen; omega) (by omega) (by simp; omega) ?_)
  intro v5 w5 own5 hgrow hnn
  have FIN := hid (pile_push B2.out M2.out P2.out HPN.out hgrow own5 HQ.out)
  clear own5 hgrow hnn
  go_wp2
  go_ret
  exact FIN.out
 have hn0 : 0 < n := by
  have : 1 ≤ needsI xk := by unfold needsI; rw [if_neg h0]; split <;> omega
  omega
 obtain ⟨gp, rfl⟩ : ∃ gp, pa = some ⟨gp, 0, none⟩ := by
  rcases HP.out.2 with ⟨e, e0⟩ | ⟨g', c', cur, e, _⟩
  · omega
  · cases e; exact ⟨g', rfl⟩
 obtain ⟨m, hm1⟩ : ∃ m : Nat, (n : Int) - 1 = (m : Int) := ⟨n - 1, by omega⟩
 have hmn : m < n := by omega
 have HMN := hid (p := n = m + 1) (by omega)
 have hi0 : (0 : Int) ≤ (m : Int) := by omega
 have hi1 : (m : Int) < (n : Int) := by omega
 have hi2 : (m : Int) ≤ (pc : Int) := by
  rcases HP.out.2 with ⟨e, e0⟩ | ⟨g', c', cur, e, _, _, h4, h5, _⟩
  · cases e
  · cases e; omega
 have hwm : IntKind.i64.wrap (m : Int) = (m : Int) := by simp [IntKind.wrap, IntKind.signed, IntKind.bits]; omega
 obtain ⟨b, hb⟩ : ∃ b, p.getD m 0 = b := ⟨_, rfl⟩
 have hbm : (intV p)[m]? = some (.int .i64 b) := by
  have hpl := HPN.out
  unfold intV
  rw [List.getElem?_map, List.getElem?_eq_getElem (by omega), ← hb, List.getD_eq_getElem?_getD, List.getElem?_eq_getElem (by omega)]
  rfl
 have hbc := hA.cell (p := ⟨gp, m, none⟩) (HP.out.lt gp rfl).2 |>.trans ((HP.out.cellAt m (by omega)).trans hbm)
 have HB0 := hid hb
 clear hb hbm
 by_cases h1 : 11 ≤ xk
 · have hx0 : needsI xk = 1 := by unfold needsI; rw [if_neg h0, if_pos h1]
  have htk : p.take (p.length - 1) = p.take m := by congr 1; rw [HPN.out, HMN.out]; rfl
  have hgb : p.getD (p.length - 1) 0 = b := by rw [← HB0.out]; congr 1; rw [HPN.out, HMN.out]; rfl
  by_cases h12 : xk = 12
  · subst h12
   have HQ := hid (p := ∀ r, r = (newM M (2, 0, 0, 0) true).1 → match itemO M (12, (ca, cb, cc), xs) p with | none => (newM M (2, 0, 0, 0) true).2.bad = true | some q => (newM M (2, 0, 0, 0) true).2 = q.2 ∧ p.take m ++ [r] = q.1) (by
    rintro r rfl
    unfold itemO
    rw [if_neg (by rw [hx0]; decide), if_pos rfl, htk]
    cases hl : newO M (2, 0, 0, 0) true with
    | none => exact newM_none hl
    | some q =>
     have e := newM_some hl
     exact ⟨congrArg Prod.snd e, congrArg (fun z => p.take m ++ [z]) (congrArg Prod.fst e)⟩)
   have HV := hid (H.out.below hA)
   have HPV := hid (own_below HP.out hA)
   have HVB := hid hAB
   clear htk hgb
   go_enter Tryz.func55, Tryz.ntmps55
   go_wp2_with fail
   refine (needs_spec 12 1 hx0 _).mono ?_
   rintro e w1 ⟨rfl, rfl⟩
   go_wp2_with fail
   refine wp_region_held_drew (S := fun _ => True) (by kernel_rfl) trivial (fun hHeld => ?_)
   refine tkH 0 ?_
   simp only [Act.put, ptT, ptZ, ptS]
   refine tkH 1 ?_
   simp only [Act.put, ptT, ptZ, ptS]
   refine tkH 2 ?_
   simp only [Act.put, ptT, ptZ, ptS]
   refine tkH 3 ?_
   simp only [Act.put, ptT, ptZ, ptS]
   refine tkH 4 ?_
   simp only [Act.put, ptT, ptZ, ptS]
   refine tkH 5 ?_
   simp only [Act.put, ptT, ptZ, ptS]
   refine oneH 6 ?_
   intro K hK
   go_simp
   refine (new_spec B base M 2 0 0 0 true _ _ _ _ _ (HV.out.below (Below.refl _ _).drew) hm HG.out.tr).mono ?_
   rintro e w2 ⟨ov2, tv2, rfl, h2, k2⟩
   have M2 := hid h2
   have P2 := hid (own_cutI (pile_keep (HV.out.below (Below.refl _ _).drew) (own_below HPV.out (Below.refl _ _).drew) k2) m (by omega))
   have B2 := hid ((HVB.out.trans (LowK.of (Nat.le_trans hbw HVB.out.size) (Below.refl _ _).drew)).trans (keep_low (HV.out.below (Below.refl _ _).drew) (Nat.le_trans hbw HVB.out.size) k2))
   have hsz := Nat.le_trans hbw B2.out.size
   obtain ⟨r, hrr⟩ : ∃ r, r = (newM M (2, 0, 0, 0) true).1 := ⟨_, rfl⟩
   rw [← hrr]
   have HQ2 := hid (HQ.out r hrr)
   clear h2 k2 hrr
   go_wp2_with fail
   refine hK.out _ _ trivial (fun hHeld => ?_)
   clear hK K
   try simp only [Act.put, ptT, ptZ, ptS]
   refine oneH 7 ?_
   intro K hK
   go_simp
   refine hK.out _ _ trivial (fun hHeld => ?_)
   clear hK K
   try simp only [Act.put, ptT, ptZ, ptS]
   refine oneH 8 ?_
   intro K hK
   rw [if_pos (by rfl)]
   refine wp_append_own _ _ _ 104 rfl base 2 i0 (.int .i64 0) 1 8 Tryz.underlying104 hti hz0 hz1 hz2 rfl (by decide) (.slice (some ⟨gp, 0, none⟩) m pc) m (intV (p.take m)) rfl (P2.out.alloc _) ⟨w2.heap.size, 0, none⟩ 1 1 [.int .i64 r] rfl rfl (cells1N w2 _ _) (by intro u hu; simp at hu; subst hu; rfl) (by unfold maxLen; omega) (by omega) (by simp; omega) ?_
   intro v5 w5 own5 hgrow hnn
   have FIN := hid (pile_push B2.out M2.out P2.out (by rw [List.length_take, HPN.out]; omega) hgrow own5 HQ2.out)
   clear own5 hgrow hnn
   refine hK.out _ _ trivial (fun hHeld => ?_)
   clear hK K
   try simp only [Act.put, ptT, ptZ, ptS]
   refine tkH 9 ?_
   simp only [Act.put, ptT, ptZ, ptS]
   refine wpAnyH_done (by kernel_rfl) ?_ _
   go_wp2
   go_ret
   exact FIN.out
  have h11 : xk = 11 := by omega
  subst h11
  have hbr : 0 ≤ b ∧ b < (M.tr.length : Int) := by
   rw [← HB0.out]
   exact HRG.out _ (getD_mem (by rw [HPN.out]; omega))
  obtain ⟨bn, rfl⟩ : ∃ bn : Nat, b = bn := ⟨b.toNat, by omega⟩
  obtain ⟨t, ht⟩ : ∃ t, trB M bn = t := ⟨_, rfl⟩
  obtain ⟨gt, tc, rfl⟩ : ∃ gt tc, tv = .slice (some ⟨gt, 0, none⟩) M.tr.length tc := by
   rcases H.out.tr.2 with ⟨e, e2⟩ | ⟨g, c, cur, e, _⟩
   · omega
   · exact ⟨g, c, e⟩
  have q0 : (w.alloc (.cells #[.int .i64 11, .int .i64 ca, .int .i64 cb, .string cc, .string xs] 97)).cell? ⟨gt, bn, none⟩ = some (.bool t) := by
   refine (hA.cell (p := ⟨gt, bn, none⟩) (H.out.tr.lt gt rfl).2).trans ((H.out.tr.cellAt bn (by omega)).trans ?_)
   unfold boolV
   rw [List.getElem?_map, List.getElem?_eq_getElem (by omega), ← ht]
   unfold trB
   rw [Int.toNat_natCast, List.getD_eq_getElem?_getD, List.getElem?_eq_getElem (by omega)]
   rfl
  obtain ⟨p0, p1, p2, p3, p4⟩ := cells5 (H.out.below hA).box
  have f4 := frozen5 (H.out.below hA).box 4
  rw [HG.out.bad] at p4
  have htl : (bn : Int) < (M.tr.length : Int) := hbr.2
  have htl0 : (0 : Int) ≤ (bn : Int) := by omega
  obtain ⟨nt, hnt⟩ : ∃ z, z = !t := ⟨_, rfl⟩
  obtain ⟨M1, hM1⟩ : ∃ z : Mkr, z = { M with bad := nt } := ⟨_, rfl⟩
  have hmM : M1.ops.length ≤ 1048576 := by rw [hM1]; exact hm
  have htM : M1.tr.length ≤ 30 := by rw [hM1]; exact HG.out.tr
  have HV0 := hid (p := MkAt ((w.alloc (.cells #[.int .i64 11, .int .i64 ca, .int .i64 cb, .string cc, .string xs] 97)).setCell ⟨B, 4, none⟩ (.bool nt)) base B M1 ov cv uv (.slice (some ⟨gt, 0, none⟩) M.tr.length tc)) (by rw [hM1]; exact (H.out.below hA).setBad nt)
  have HPV0 := hid (own_keepF (own_below HP.out hA) (KeepS.set1 (w.alloc (.cells #[.int .i64 11, .int .i64 ca, .int .i64 cb, .string cc, .string xs] 97)) B 4 (.bool nt)) (fun g e e2 => by subst e2; exact own_box (own_below HP.out hA) (H.out.below hA).box (by decide) e))
  have HVB0 := hid (hAB.setCell (i := 4) H.out.lo (.bool nt) (H.out.below hA).box)
  have HQ := hid (p := ∀ r, r = (newM M1 (11, 0, bn, 0) true).1 → match itemO M (11, (ca, cb, cc), xs) p with | none => (newM M1 (11, 0, bn, 0) true).2.bad = true | some q => (newM M1 (11, 0, bn, 0) true).2 = q.2 ∧ p.take m ++ [r] = q.1) (by
   rintro r rfl
   unfold itemO
   rw [if_neg (by rw [hx0]; decide), if_neg (show ¬ ((11 : Int) = 12) by decide), if_pos rfl, htk, hgb, ht]
   cases t with
   | false => exact newM_bad (by rw [hM1, hnt]; rfl) _ _
   | true =>
    have eM : M1 = M := by rw [hM1, hnt]; have := HG.out.bad; cases M; simp only at this; rw [this]; rfl
    rw [eM, if_pos rfl]
    cases hl : newO M (11, 0, bn, 0) true with
    | none => exact newM_none hl
    | some q =>
     have e := newM_some hl
     exact ⟨congrArg Prod.snd e, congrArg (fun z => p.take m ++ [z]) (congrArg Prod.fst e)⟩)
  clear htk hgb hM1 hbr ht
  go_enter Tryz.func55, Tryz.ntmps55
  go_wp2_with fail
  refine (needs_spec 11 1 hx0 _).mono ?_
  rintro e w1 ⟨rfl, rfl⟩
  go_wp2_with fail
  rw [← hnt]
  obtain ⟨V, hV⟩ : ∃ z, z = (w.alloc (.cells #[.int .i64 11, .int .i64 ca, .int .i64 cb, .string cc, .string xs] 97)).setCell ⟨B, 4, none⟩ (.bool nt) := ⟨_, rfl⟩
  rw [← hV] at HV0 HPV0 HVB0 ⊢
  have HV := HV0
  have HPV := HPV0
  have HVB := HVB0
  clear hV hnt p0 p1 p2 p3 p4 f4 q0 hbc
  refine wp_region_held_drew (S := fun _ => True) (by kernel_rfl) trivial (fun hHeld => ?_)
  refine tkH 0 ?_
  simp only [Act.put, ptT, ptZ, ptS]
  refine tkH 1 ?_
  simp only [Act.put, ptT, ptZ, ptS]
  refine tkH 2 ?_
  simp only [Act.put, ptT, ptZ, ptS]
  refine tkH 3 ?_
  simp only [Act.put, ptT, ptZ, ptS]
  refine tkH 4 ?_
  simp only [Act.put, ptT, ptZ, ptS]
  refine tkH 5 ?_
  simp only [Act.put, ptT, ptZ, ptS]
  refine tkH 6 ?_
  simp only [Act.put, ptT, ptZ, ptS]
  refine oneH 7 ?_
  intro K hK
  go_simp
  refine (new_spec B base M1 11 0 bn 0 true _ _ _ _ _ (HV.out.below (Below.refl _ _).drew) hmM htM).mono ?_
  rintro e w2 ⟨ov2, tv2, rfl, h2, k2⟩
  have M2 := hid h2
  have P2 := hid (own_cutI (pile_keep (HV.out.below (Below.refl _ _).drew) (own_below HPV.out (Below.refl _ _).drew) k2) m (by omega))
  have B2 := hid ((HVB.out.trans (LowK.of (Nat.le_trans hbw HVB.out.size) (Below.refl _ _).drew)).trans (keep_low (HV.out.below (Below.refl _ _).drew) (Nat.le_trans hbw HVB.out.size) k2))
  have hsz := Nat.le_trans hbw B2.out.size
  obtain ⟨r, hrr⟩ : ∃ r, r = (newM M1 (11, 0, bn, 0) true).1 := ⟨_, rfl⟩
  rw [← hrr]
  have HQ2 := hid (HQ.out r hrr)
  clear h2 k2 hrr
  go_wp2_with fail
  refine hK.out _ _ trivial (fun hHeld => ?_)
  clear hK K
  try simp only [Act.put, ptT, ptZ, ptS]
  refine oneH 8 ?_
  intro K hK
  go_simp
  refine hK.out _ _ trivial (fun hHeld => ?_)
  clear hK K
  try simp only [Act.put, ptT, ptZ, ptS]
  refine oneH 9 ?_
  intro K hK
  rw [if_pos (by rfl)]
  refine wp_append_own _ _ _ 104 rfl base 2 i0 (.int .i64 0) 1 8 Tryz.underlying104 hti hz0 hz1 hz2 rfl (by decide) (.slice (some ⟨gp, 0, none⟩) m pc) m (intV (p.take m)) rfl (P2.out.alloc _) ⟨w2.heap.size, 0, none⟩ 1 1 [.int .i64 r] rfl rfl (cells1N w2 _ _) (by intro u hu; simp at hu; subst hu; rfl) (by unfold maxLen; omega) (by omega) (by simp; omega) ?_
  intro v5 w5 own5 hgrow hnn
  have FIN := hid (pile_push B2.out M2.out P2.out (by rw [List.length_take, HPN.out]; omega) hgrow own5 HQ2.out)
  clear own5 hgrow hnn
  refine hK.out _ _ trivial (fun hHeld => ?_)
  clear hK K
  try simp only [Act.put, ptT, ptZ, ptS]
  refine tkH 10 ?_
  simp only [Act.put, ptT, ptZ, ptS]
  refine wpAnyH_done (by kernel_rfl) ?_ _
  go_wp2
  go_ret
  exact FIN.out
 have hx0 : needsI xk = 2 := by unfold needsI; rw [if_neg h0, if_neg h1]
 obtain ⟨l, hl1⟩ : ∃ l : Nat, (n : Int) - 2 = (l : Int) := ⟨n - 2, by omega⟩
 have hln : l < n := by omega
 have HLN := hid (p := n = l + 2) (by omega)
 have hj0 : (0 : Int) ≤ (l : Int) := by omega
 have hj1 : (l : Int) < (n : Int) := by omega
 have hj2 : (l : Int) ≤ (pc : Int) := by omega
 have hwl : IntKind.i64.wrap (l : Int) = (l : Int) := by simp [IntKind.wrap, IntKind.signed, IntKind.bits]; omega
 obtain ⟨a, ha⟩ : ∃ a, p.getD l 0 = a := ⟨_, rfl⟩
 have ham : (intV p)[l]? = some (.int .i64 a) := by
  have hpl := HPN.out
  unfold intV
  rw [List.getElem?_map, List.getElem?_eq_getElem (by omega), ← ha, List.getD_eq_getElem?_getD, List.getElem?_eq_getElem (by omega)]
  rfl
 have hac := hA.cell (p := ⟨gp, l, none⟩) (HP.out.lt gp rfl).2 |>.trans ((HP.out.cellAt l (by omega)).trans ham)
 have hbr : 0 ≤ b ∧ b < (M.tr.length : Int) := by
  rw [← HB0.out]
  exact HRG.out _ (getD_mem (by rw [HPN.out]; omega))
 have har : 0 ≤ a ∧ a < (M.tr.length : Int) := by
  rw [← ha]
  exact HRG.out _ (getD_mem (by rw [HPN.out]; omega))
 have HA0 := hid ha
 clear ha ham
 obtain ⟨bn, rfl⟩ : ∃ bn : Nat, b = bn := ⟨b.toNat, by omega⟩
 obtain ⟨an, rfl⟩ : ∃ an : Nat, a = an := ⟨a.toNat, by omega⟩
 obtain ⟨gt, tc, rfl⟩ : ∃ gt tc, tv = .slice (some ⟨gt, 0, none⟩) M.tr.length tc := by
  rcases H.out.tr.2 with ⟨e, e2⟩ | ⟨g, c, cur, e, _⟩
  · omega
  · exact ⟨g, c, e⟩
 have qq : ∀ k : Nat, k < M.tr.length → (w.alloc (.cells #[.int .i64 xk, .int .i64 ca, .int .i64 cb, .string cc, .string xs] 97)).cell? ⟨gt, k, none⟩ = some (.bool (trB M k)) := by
  intro k hk
  refine (hA.cell (p := ⟨gt, k, none⟩) (H.out.tr.lt gt rfl).2).trans ((H.out.tr.cellAt k (by omega)).trans ?_)
  unfold boolV
  rw [List.getElem?_map, List.getElem?_eq_getElem (by omega)]
  unfold trB
  rw [Int.toNat_natCast, List.getD_eq_getElem?_getD, List.getElem?_eq_getElem (by omega)]
  rfl
 have qa := qq an (by omega)
 have qb := qq bn (by omega)
 obtain ⟨sa, hsa⟩ : ∃ t, trB M an = t := ⟨_, rfl⟩
 obtain ⟨sb, hsb⟩ : ∃ t, trB M bn = t := ⟨_, rfl⟩
 rw [hsa] at qa
 rw [hsb] at qb
 obtain ⟨p0, p1, p2, p3, p4⟩ := cells5 (H.out.below hA).box
 have f4 := frozen5 (H.out.below hA).box 4
 rw [HG.out.bad] at p4
 have hal : (an : Int) < (M.tr.length : Int) := har.2
 have hal0 : (0 : Int) ≤ (an : Int) := by omega
 have hbl : (bn : Int) < (M.tr.length : Int) := hbr.2
 have hbl0 : (0 : Int) ≤ (bn : Int) := by omega
 have htk : p.take (p.length - 2) = p.take l := by congr 1; rw [HPN.out, HLN.out]; rfl
 have hgb : p.getD (p.length - 1) 0 = bn := by rw [← HB0.out]; congr 1; rw [HPN.out, HMN.out]; rfl
 have hga : p.getD (p.length - 2) 0 = an := by rw [← HA0.out]; congr 1; rw [HPN.out, HLN.out]; rfl
 have hne1 : (xk == 12) = false := by simp; omega
 have hne2 : (xk == 11) = false := by simp; omega
 have HQ0 := hid (p := ∀ M1 : Mkr, M1 = { M with bad := !(wantB xk sa sb) } → ∀ r, r = (newM M1 (xk, 0, an, bn) (decide (6 < xk))).1 → match itemO M (xk, (ca, cb, cc), xs) p with | none => (newM M1 (xk, 0, an, bn) (decide (6 < xk))).2.bad = true | some q => (newM M1 (xk, 0, an, bn) (decide (6 < xk))).2 = q.2 ∧ p.take l ++ [r] = q.1) (by
  rintro M1 hM1 r rfl
  unfold itemO
  have e12 : ¬ xk = 12 := by omega
  have e11 : ¬ xk = 11 := by omega
  rw [if_neg (by rw [hx0]; decide), if_neg e12, if_neg e11, htk, hgb, hga, hsa, hsb]
  cases hwt : wantB xk sa sb with
  | false =>
   rw [hwt] at hM1
   exact newM_bad (by rw [hM1]; rfl) _ _
  | true =>
   rw [hwt] at hM1
   have eM : M1 = M := by rw [hM1]; have := HG.out.bad; cases M; simp only at this; rw [this]; rfl
   rw [eM, if_pos rfl]
   cases hl : newO M (xk, 0, an, bn) (decide (6 < xk)) with
   | none => exact newM_none hl
   | some q =>
    have e := newM_some hl
    exact ⟨congrArg Prod.snd e, congrArg (fun z => p.take l ++ [z]) (congrArg Prod.fst e)⟩)
 have HS0 := hid (p := ∀ z : Bool, MkAt ((w.alloc (.cells #[.int .i64 xk, .int .i64 ca, .int .i64 cb, .string cc, .string xs] 97)).setCell ⟨B, 4, none⟩ (.bool z)) base B { M with bad := z } ov cv uv (.slice (some ⟨gt, 0, none⟩) M.tr.length tc)) (fun z => (H.out.below hA).setBad z)
 have HS1 := hid (fun z : Bool => own_keepF (own_below HP.out hA) (KeepS.set1 (w.alloc (.cells #[.int .i64 xk, .int .i64 ca, .int .i64 cb, .string cc, .string xs] 97)) B 4 (.bool z)) (fun g e e2 => by subst e2; exact own_box (own_below HP.out hA) (H.out.below hA).box (by decide) e))
 have HS2 := hid (fun z : Bool => hAB.setCell (i := 4) H.out.lo (.bool z) (H.out.below hA).box)
 clear htk hgb hga hbr har qq hsa hsb
 by_cases hss : sa = sb
 · subst hss
  have hbn : ∀ (x : Bool) (wz : World), (binOp .neq 4 (.bool x) (.bool x)).run Tryz.prog wz = .ok (.bool false) wz := fun x wz => by cases x <;> kernel_rfl
  by_cases h6 : xk ≤ 6
  · have hdd : decide (6 < xk) = false := by simp; omega
   have hwt := hid (p := ({ M with bad := sa } : Mkr) = { M with bad := !(wantB xk sa sa) }) (by
    have e : wantB xk sa sa = !sa := by unfold wantB; rw [if_neg (by simp), if_pos h6]
    rw [e, Bool.not_not])
   go_enter Tryz.func55, Tryz.ntmps55
   go_wp2_with fail
   refine (needs_spec xk 2 hx0 _).mono ?_
   rintro e w1 ⟨rfl, rfl⟩
   go_wp2_with fail
   have HE1 := hid (p := MkAt ((w.alloc (.cells #[.int .i64 xk, .int .i64 ca, .int .i64 cb, .string cc, .string xs] 97)).setCell ⟨B, 4, none⟩ (.bool sa)) base B ({ M with bad := sa }) ov cv uv (.slice (some ⟨gt, 0, none⟩) M.tr.length tc)) (HS0.out sa)
   have HE2 := hid (p := World.ownsRow ((w.alloc (.cells #[.int .i64 xk, .int .i64 ca, .int .i64 cb, .string cc, .string xs] 97)).setCell ⟨B, 4, none⟩ (.bool sa)) base 2 1 (.slice (some ⟨gp, 0, none⟩) n pc) n (intV p)) (HS1.out sa)
   have HE3 := hid (p := LowK base w ((w.alloc (.cells #[.int .i64 xk, .int .i64 ca, .int .i64 cb, .string cc, .string xs] 97)).setCell ⟨B, 4, none⟩ (.bool sa))) (HS2.out sa)
   have hBw := lt_of_heapN H.out.box
   have HXE := hid (p := World.blk2 ((w.alloc (.cells #[.int .i64 xk, .int .i64 ca, .int .i64 cb, .string cc, .string xs] 97)).setCell ⟨B, 4, none⟩ (.bool sa)) w.heap.size = some (.cells #[.int .i64 xk, .int .i64 ca, .int .i64 cb, .string cc, .string xs] 97)) (((KeepS.set1 _ B 4 _).block _ (by simp) (by omega)).trans (_root_.Go.heap_alloc_new w _))
   have hes : World.size2 ((w.alloc (.cells #[.int .i64 xk, .int .i64 ca, .int .i64 cb, .string cc, .string xs] 97)).setCell ⟨B, 4, none⟩ (.bool sa)) = w.heap.size + 1 := by unfold World.size2; simp
   obtain ⟨E, hE⟩ : ∃ z, z = ((w.alloc (.cells #[.int .i64 xk, .int .i64 ca, .int .i64 cb, .string cc, .string xs] 97)).setCell ⟨B, 4, none⟩ (.bool sa)) := ⟨_, rfl⟩
   rw [← hE] at HE1 HE2 HE3 HXE hes ⊢
   unfold World.size2 at hes
   obtain ⟨V, hV⟩ : ∃ z, z = E.alloc (.cells #[.int .i64 xk, .int .i64 0, .int .i64 an, .int .i64 bn] 75) := ⟨_, rfl⟩
   have hEV : Below E.heap.size E V := by rw [hV]; exact (Below.refl _ _).alloc (Nat.le_refl _) _
   have hob : V.heap[w.heap.size + 1]? = some (.cells #[.int .i64 xk, .int .i64 0, .int .i64 an, .int .i64 bn] 75) := by rw [hV, ← hes]; exact _root_.Go.heap_alloc_new E _
   have hxb : V.heap[w.heap.size]? = some (.cells #[.int .i64 xk, .int .i64 ca, .int .i64 cb, .string cc, .string xs] 97) := (hEV.block _ (by omega)).trans HXE.out
   rw [← hV]
   have HV := hid (HE1.out.below hEV)
   have HPV := hid (own_below HE2.out hEV)
   have HVB := hid (HE3.out.trans (LowK.of (Nat.le_trans hbw (by omega)) hEV))
   have hm1M : ({ M with bad := sa }).ops.length ≤ 1048576 := hm
   have ht1M : ({ M with bad := sa }).tr.length ≤ 30 := HG.out.tr
   obtain ⟨M1, hM1⟩ : ∃ z : Mkr, z = ({ M with bad := sa }) := ⟨_, rfl⟩
   rw [← hM1] at HV hm1M ht1M
   have HQ := hid (HQ0.out M1 (hM1.trans hwt.out))
   obtain ⟨s0, s1, s2, s3⟩ := cells4 hob
   obtain ⟨s4, _⟩ := cells5 hxb
   have hov : ∀ g, mkBlk B ov (.slice (some ⟨gt, 0, none⟩) M.tr.length tc) g → g < w.heap.size := fun g hg => by
    rcases hg with e | e | e
    · omega
    · exact (H.out.ops.lt _ e).2
    · exact (H.out.tr.lt _ e).2
   have hgp := (HP.out.lt gp rfl).2
   have hVs : w.heap.size + 1 < V.heap.size := by rw [hV]; simp [hes]
   clear hE hV hEV hob hxb hM1 HE1 HE2 HE3 HXE HQ0 HS0 HS1 HS2 p0 p1 p2 p3 p4 f4 qa qb hbc hac hes
   refine wp_region_held_drew (S := (fun w' => w'.cell? ⟨w.heap.size + 1, 0, none⟩ = some (.int .i64 xk) ∧ w'.cell? ⟨w.heap.size + 1, 1, none⟩ = some (.int .i64 0) ∧ w'.cell? ⟨w.heap.size + 1, 2, none⟩ = some (.int .i64 an) ∧ w'.cell? ⟨w.heap.size + 1, 3, none⟩ = some (.int .i64 bn) ∧ w'.cell? ⟨w.heap.size, 0, none⟩ = some (.int .i64 xk))) (by kernel_rfl) ⟨s0, s1, s2, s3, s4⟩ (fun hHeld => ?_)
   refine tkH 0 ?_
   simp only [Act.put, ptT, ptZ, ptS]
   refine tkH 1 ?_
   simp only [Act.put, ptT, ptZ, ptS]
   refine tkH 2 ?_
   simp only [Act.put, ptT, ptZ, ptS]
   refine tkH 3 ?_
   simp only [Act.put, ptT, ptZ, ptS]
   refine tkH 4 ?_
   simp only [Act.put, ptT, ptZ, ptS]
   refine tkH 5 ?_
   simp only [Act.put, ptT, ptZ, ptS]
   refine tkH 6 ?_
   simp only [Act.put, ptT, ptZ, ptS]
   refine tkH 7 ?_
   simp only [Act.put, ptT, ptZ, ptS]
   refine tkH 8 ?_
   simp only [Act.put, ptT, ptZ, ptS]
   refine oneH 9 ?_
   intro K hK
   go_simp
   refine (new_spec B base M1 xk 0 an bn false _ _ _ _ _ (HV.out.below (Below.refl _ _).drew) hm1M ht1M).mono ?_
   rintro e w2 ⟨ov2, tv2, rfl, h2, k2⟩
   have M2 := hid h2
   have P2 := hid (own_cutI (pile_keep (HV.out.below (Below.refl _ _).drew) (own_below HPV.out (Below.refl _ _).drew) k2) l (by omega))
   have B2 := hid ((HVB.out.trans (LowK.of (Nat.le_trans hbw HVB.out.size) (Below.refl _ _).drew)).trans (keep_low (HV.out.below (Below.refl _ _).drew) (Nat.le_trans hbw HVB.out.size) k2))
   have hsz := Nat.le_trans hbw B2.out.size
   have hn0' : ¬ mkBlk B ov (.slice (some ⟨gt, 0, none⟩) M.tr.length tc) (w.heap.size + 1) := fun e => by have := hov _ e; omega
   have hn1' : ¬ mkBlk B ov (.slice (some ⟨gt, 0, none⟩) M.tr.length tc) w.heap.size := fun e => by have := hov _ e; omega
   have k2' : KeepS (mkBlk B ov (.slice (some ⟨gt, 0, none⟩) M.tr.length tc)) V w2 := (KeepS.ofBelow ((Below.refl _ _).drew)).trans k2
   have u0 := (k2'.cell (o := 0) hVs hn0').trans s0
   have u1 := (k2'.cell (o := 1) hVs hn0').trans s1
   have u2 := (k2'.cell (o := 2) hVs hn0').trans s2
   have u3 := (k2'.cell (o := 3) hVs hn0').trans s3
   have u4 := (k2'.cell (o := 0) (Nat.lt_of_succ_lt hVs) hn1').trans s4
   have hw2 := Nat.lt_of_lt_of_le hVs k2'.size
   obtain ⟨r, hrr⟩ : ∃ r, r = (newM M1 (xk, 0, an, bn) false).1 := ⟨_, rfl⟩
   rw [← hrr]
   have HQ2 := hid (HQ.out r (by rw [hdd]; exact hrr))
   rw [hdd] at HQ2
   clear h2 k2 k2' hrr HQ s0 s1 s2 s3 s4 hHeld hn0' hn1'
   go_wp2_with fail
   refine hK.out _ _ ⟨u0, u1, u2, u3, u4⟩ (fun hHeld => ?_)
   clear hK K
   try simp only [Act.put, ptT, ptZ, ptS]
   refine oneH 10 ?_
   intro K hK
   go_simp
   refine hK.out _ _ ?_ (fun hHeld => ?_)
   · (((try dsimp only); (repeat' apply And.intro) <;> first | (go_keep; done) | (simp (disch := first | omega | (simp <;> omega) | fail) [*]; done) | fail))
   clear hK K
   try simp only [Act.put, ptT, ptZ, ptS]
   refine oneH 11 ?_
   intro K hK
   rw [if_pos (by rfl)]
   refine wp_append_own _ _ _ 104 rfl base 2 i0 (.int .i64 0) 1 8 Tryz.underlying104 hti hz0 hz1 hz2 rfl (by decide) (.slice (some ⟨gp, 0, none⟩) l pc) l (intV (p.take l)) rfl (P2.out.alloc _) ⟨w2.heap.size, 0, none⟩ 1 1 [.int .i64 r] rfl rfl (cells1N w2 _ _) (by intro u hu; simp at hu; subst hu; rfl) (by unfold maxLen; omega) (by omega) (by simp; omega) ?_
   intro v5 w5 own5 hgrow hnn
   have FIN := hid (pile_push B2.out M2.out P2.out (by rw [List.length_take, HPN.out]; omega) hgrow own5 HQ2.out)
   have hg1 : w5.heap[w.heap.size + 1]? = w2.heap[w.heap.size + 1]? := (hgrow.block _ (by simp; omega) (by simp [Value.ownBlock]; omega)).trans (((Below.refl w2.heap.size w2).alloc (Nat.le_refl _) _).block _ hw2)
   have hg0 : w5.heap[w.heap.size]? = w2.heap[w.heap.size]? := (hgrow.block _ (by simp; omega) (by simp [Value.ownBlock]; omega)).trans (((Below.refl w2.heap.size w2).alloc (Nat.le_refl _) _).block _ (by omega))
   clear own5 hgrow hnn hHeld
   refine hK.out _ _ ⟨(World.cell?_of_block hg1).trans u0, (World.cell?_of_block hg1).trans u1, (World.cell?_of_block hg1).trans u2, (World.cell?_of_block hg1).trans u3, (World.cell?_of_block hg0).trans u4⟩ (fun hHeld => ?_)
   clear hK K u0 u1 u2 u3 u4 hg0 hg1
   try simp only [Act.put, ptT, ptZ, ptS]
   refine tkH 12 ?_
   simp only [Act.put, ptT, ptZ, ptS]
   refine wpAnyH_done (by kernel_rfl) ?_ _
   clear hHeld
   go_wp2
   go_ret
   exact FIN.out
  have hdd : decide (6 < xk) = true := by simp; omega
  by_cases h9 : 9 ≤ xk
  · skip
   have hwt := hid (p := ({ M with bad := (!sa) } : Mkr) = { M with bad := !(wantB xk sa sa) }) (by
    have e : wantB xk sa sa = sa := by unfold wantB; rw [if_neg (by simp), if_neg h6, if_pos h9]
    rw [e])
   go_enter Tryz.func55, Tryz.ntmps55
   go_wp2_with fail
   refine (needs_spec xk 2 hx0 _).mono ?_
   rintro e w1 ⟨rfl, rfl⟩
   go_wp2_with fail
   have HE1 := hid (p := MkAt ((w.alloc (.cells #[.int .i64 xk, .int .i64 ca, .int .i64 cb, .string cc, .string xs] 97)).setCell ⟨B, 4, none⟩ (.bool (!sa))) base B ({ M with bad := (!sa) }) ov cv uv (.slice (some ⟨gt, 0, none⟩) M.tr.length tc)) (HS0.out (!sa))
   have HE2 := hid (p := World.ownsRow ((w.alloc (.cells #[.int .i64 xk, .int .i64 ca, .int .i64 cb, .string cc, .string xs] 97)).setCell ⟨B, 4, none⟩ (.bool (!sa))) base 2 1 (.slice (some ⟨gp, 0, none⟩) n pc) n (intV p)) (HS1.out (!sa))
   have HE3 := hid (p := LowK base w ((w.alloc (.cells #[.int .i64 xk, .int .i64 ca, .int .i64 cb, .string cc, .string xs] 97)).setCell ⟨B, 4, none⟩ (.bool (!sa)))) (HS2.out (!sa))
   have hBw := lt_of_heapN H.out.box
   have HXE := hid (p := World.blk2 ((w.alloc (.cells #[.int .i64 xk, .int .i64 ca, .int .i64 cb, .string cc, .string xs] 97)).setCell ⟨B, 4, none⟩ (.bool (!sa))) w.heap.size = some (.cells #[.int .i64 xk, .int .i64 ca, .int .i64 cb, .string cc, .string xs] 97)) (((KeepS.set1 _ B 4 _).block _ (by simp) (by omega)).trans (_root_.Go.heap_alloc_new w _))
   have hes : World.size2 ((w.alloc (.cells #[.int .i64 xk, .int .i64 ca, .int .i64 cb, .string cc, .string xs] 97)).setCell ⟨B, 4, none⟩ (.bool (!sa))) = w.heap.size + 1 := by unfold World.size2; simp
   obtain ⟨E, hE⟩ : ∃ z, z = ((w.alloc (.cells #[.int .i64 xk, .int .i64 ca, .int .i64 cb, .string cc, .string xs] 97)).setCell ⟨B, 4, none⟩ (.bool (!sa))) := ⟨_, rfl⟩
   rw [← hE] at HE1 HE2 HE3 HXE hes ⊢
   unfold World.size2 at hes
   obtain ⟨V, hV⟩ : ∃ z, z = E.alloc (.cells #[.int .i64 xk, .int .i64 0, .int .i64 an, .int .i64 bn] 75) := ⟨_, rfl⟩
   have hEV : Below E.heap.size E V := by rw [hV]; exact (Below.refl _ _).alloc (Nat.le_refl _) _
   have hob : V.heap[w.heap.size + 1]? = some (.cells #[.int .i64 xk, .int .i64 0, .int .i64 an, .int .i64 bn] 75) := by rw [hV, ← hes]; exact _root_.Go.heap_alloc_new E _
   have hxb : V.heap[w.heap.size]? = some (.cells #[.int .i64 xk, .int .i64 ca, .int .i64 cb, .string cc, .string xs] 97) := (hEV.block _ (by omega)).trans HXE.out
   rw [← hV]
   have HV := hid (HE1.out.below hEV)
   have HPV := hid (own_below HE2.out hEV)
   have HVB := hid (HE3.out.trans (LowK.of (Nat.le_trans hbw (by omega)) hEV))
   have hm1M : ({ M with bad := (!sa) }).ops.length ≤ 1048576 := hm
   have ht1M : ({ M with bad := (!sa) }).tr.length ≤ 30 := HG.out.tr
   obtain ⟨M1, hM1⟩ : ∃ z : Mkr, z = ({ M with bad := (!sa) }) := ⟨_, rfl⟩
   rw [← hM1] at HV hm1M ht1M
   have HQ := hid (HQ0.out M1 (hM1.trans hwt.out))
   obtain ⟨s0, s1, s2, s3⟩ := cells4 hob
   obtain ⟨s4, _⟩ := cells5 hxb
   have hov : ∀ g, mkBlk B ov (.slice (some ⟨gt, 0, none⟩) M.tr.length tc) g → g < w.heap.size := fun g hg => by
    rcases hg with e | e | e
    · omega
    · exact (H.out.ops.lt _ e).2
    · exact (H.out.tr.lt _ e).2
   have hgp := (HP.out.lt gp rfl).2
   have hVs : w.heap.size + 1 < V.heap.size := by rw [hV]; simp [hes]
   clear hE hV hEV hob hxb hM1 HE1 HE2 HE3 HXE HQ0 HS0 HS1 HS2 p0 p1 p2 p3 p4 f4 qa qb hbc hac hes
   refine wp_region_held_drew (S := (fun w' => w'.cell? ⟨w.heap.size + 1, 0, none⟩ = some (.int .i64 xk) ∧ w'.cell? ⟨w.heap.size + 1, 1, none⟩ = some (.int .i64 0) ∧ w'.cell? ⟨w.heap.size + 1, 2, none⟩ = some (.int .i64 an) ∧ w'.cell? ⟨w.heap.size + 1, 3, none⟩ = some (.int .i64 bn) ∧ w'.cell? ⟨w.heap.size, 0, none⟩ = some (.int .i64 xk))) (by kernel_rfl) ⟨s0, s1, s2, s3, s4⟩ (fun hHeld => ?_)
   refine tkH 0 ?_
   simp only [Act.put, ptT, ptZ, ptS]
   refine tkH 1 ?_
   simp only [Act.put, ptT, ptZ, ptS]
   refine tkH 2 ?_
   simp only [Act.put, ptT, ptZ, ptS]
   refine tkH 3 ?_
   simp only [Act.put, ptT, ptZ, ptS]
   refine tkH 4 ?_
   simp only [Act.put, ptT, ptZ, ptS]
   refine tkH 5 ?_
   simp only [Act.put, ptT, ptZ, ptS]
   refine tkH 6 ?_
   simp only [Act.put, ptT, ptZ, ptS]
   refine tkH 7 ?_
   simp only [Act.put, ptT, ptZ, ptS]
   refine tkH 8 ?_
   simp only [Act.put, ptT, ptZ, ptS]
   refine oneH 9 ?_
   intro K hK
   go_simp
   refine (new_spec B base M1 xk 0 an bn true _ _ _ _ _ (HV.out.below (Below.refl _ _).drew) hm1M ht1M).mono ?_
   rintro e w2 ⟨ov2, tv2, rfl, h2, k2⟩
   have M2 := hid h2
   have P2 := hid (own_cutI (pile_keep (HV.out.below (Below.refl _ _).drew) (own_below HPV.out (Below.refl _ _).drew) k2) l (by omega))
   have B2 := hid ((HVB.out.trans (LowK.of (Nat.le_trans hbw HVB.out.size) (Below.refl _ _).drew)).trans (keep_low (HV.out.below (Below.refl _ _).drew) (Nat.le_trans hbw HVB.out.size) k2))
   have hsz := Nat.le_trans hbw B2.out.size
   have hn0' : ¬ mkBlk B ov (.slice (some ⟨gt, 0, none⟩) M.tr.length tc) (w.heap.size + 1) := fun e => by have := hov _ e; omega
   have hn1' : ¬ mkBlk B ov (.slice (some ⟨gt, 0, none⟩) M.tr.length tc) w.heap.size := fun e => by have := hov _ e; omega
   have k2' : KeepS (mkBlk B ov (.slice (some ⟨gt, 0, none⟩) M.tr.length tc)) V w2 := (KeepS.ofBelow ((Below.refl _ _).drew)).trans k2
   have u0 := (k2'.cell (o := 0) hVs hn0').trans s0
   have u1 := (k2'.cell (o := 1) hVs hn0').trans s1
   have u2 := (k2'.cell (o := 2) hVs hn0').trans s2
   have u3 := (k2'.cell (o := 3) hVs hn0').trans s3
   have u4 := (k2'.cell (o := 0) (Nat.lt_of_succ_lt hVs) hn1').trans s4
   have hw2 := Nat.lt_of_lt_of_le hVs k2'.size
   obtain ⟨r, hrr⟩ : ∃ r, r = (newM M1 (xk, 0, an, bn) true).1 := ⟨_, rfl⟩
   rw [← hrr]
   have HQ2 := hid (HQ.out r (by rw [hdd]; exact hrr))
   rw [hdd] at HQ2
   clear h2 k2 k2' hrr HQ s0 s1 s2 s3 s4 hHeld hn0' hn1'
   go_wp2_with fail
   refine hK.out _ _ ⟨u0, u1, u2, u3, u4⟩ (fun hHeld => ?_)
   clear hK K
   try simp only [Act.put, ptT, ptZ, ptS]
   refine oneH 10 ?_
   intro K hK
   go_simp
   refine hK.out _ _ ?_ (fun hHeld => ?_)
   · (((try dsimp only); (repeat' apply And.intro) <;> first | (go_keep; done) | (simp (disch := first | omega | (simp <;> omega) | fail) [*]; done) | fail))
   clear hK K
   try simp only [Act.put, ptT, ptZ, ptS]
   refine oneH 11 ?_
   intro K hK
   rw [if_pos (by rfl)]
   refine wp_append_own _ _ _ 104 rfl base 2 i0 (.int .i64 0) 1 8 Tryz.underlying104 hti hz0 hz1 hz2 rfl (by decide) (.slice (some ⟨gp, 0, none⟩) l pc) l (intV (p.take l)) rfl (P2.out.alloc _) ⟨w2.heap.size, 0, none⟩ 1 1 [.int .i64 r] rfl rfl (cells1N w2 _ _) (by intro u hu; simp at hu; subst hu; rfl) (by unfold maxLen; omega) (by omega) (by simp; omega) ?_
   intro v5 w5 own5 hgrow hnn
   have FIN := hid (pile_push B2.out M2.out P2.out (by rw [List.length_take, HPN.out]; omega) hgrow own5 HQ2.out)
   have hg1 : w5.heap[w.heap.size + 1]? = w2.heap[w.heap.size + 1]? := (hgrow.block _ (by simp; omega) (by simp [Value.ownBlock]; omega)).trans (((Below.refl w2.heap.size w2).alloc (Nat.le_refl _) _).block _ hw2)
   have hg0 : w5.heap[w.heap.size]? = w2.heap[w.heap.size]? := (hgrow.block _ (by simp; omega) (by simp [Value.ownBlock]; omega)).trans (((Below.refl w2.heap.size w2).alloc (Nat.le_refl _) _).block _ (by omega))
   clear own5 hgrow hnn hHeld
   refine hK.out _ _ ⟨(World.cell?_of_block hg1).trans u0, (World.cell?_of_block hg1).trans u1, (World.cell?_of_block hg1).trans u2, (World.cell?_of_block hg1).trans u3, (World.cell?_of_block hg0).trans u4⟩ (fun hHeld => ?_)
   clear hK K u0 u1 u2 u3 u4 hg0 hg1
   try simp only [Act.put, ptT, ptZ, ptS]
   refine tkH 12 ?_
   simp only [Act.put, ptT, ptZ, ptS]
   refine wpAnyH_done (by kernel_rfl) ?_ _
   clear hHeld
   go_wp2
   go_ret
   exact FIN.out
  have hwt := hid (p := (M : Mkr) = { M with bad := !(wantB xk sa sa) }) (by
   have e : wantB xk sa sa = true := by unfold wantB; rw [if_neg (by simp), if_neg h6, if_neg h9]
   rw [e]
   have := HG.out.bad
   cases M
   simp only at this
   rw [this]
   rfl)
  go_enter Tryz.func55, Tryz.ntmps55
  go_wp2_with fail
  refine (needs_spec xk 2 hx0 _).mono ?_
  rintro e w1 ⟨rfl, rfl⟩
  go_wp2_with fail
  have HE1 := hid (p := MkAt (w.alloc (.cells #[.int .i64 xk, .int .i64 ca, .int .i64 cb, .string cc, .string xs] 97)) base B (M) ov cv uv (.slice (some ⟨gt, 0, none⟩) M.tr.length tc)) (H.out.below hA)
  have HE2 := hid (p := World.ownsRow (w.alloc (.cells #[.int .i64 xk, .int .i64 ca, .int .i64 cb, .string cc, .string xs] 97)) base 2 1 (.slice (some ⟨gp, 0, none⟩) n pc) n (intV p)) (own_below HP.out hA)
  have HE3 := hid (p := LowK base w (w.alloc (.cells #[.int .i64 xk, .int .i64 ca, .int .i64 cb, .string cc, .string xs] 97))) (hAB)
  have hBw := lt_of_heapN H.out.box
  have HXE := hid (p := World.blk2 (w.alloc (.cells #[.int .i64 xk, .int .i64 ca, .int .i64 cb, .string cc, .string xs] 97)) w.heap.size = some (.cells #[.int .i64 xk, .int .i64 ca, .int .i64 cb, .string cc, .string xs] 97)) (_root_.Go.heap_alloc_new w _)
  have hes : World.size2 (w.alloc (.cells #[.int .i64 xk, .int .i64 ca, .int .i64 cb, .string cc, .string xs] 97)) = w.heap.size + 1 := by unfold World.size2; simp
  obtain ⟨E, hE⟩ : ∃ z, z = (w.alloc (.cells #[.int .i64 xk, .int .i64 ca, .int .i64 cb, .string cc, .string xs] 97)) := ⟨_, rfl⟩
  rw [← hE] at HE1 HE2 HE3 HXE hes ⊢
  unfold World.size2 at hes
  obtain ⟨V, hV⟩ : ∃ z, z = E.alloc (.cells #[.int .i64 xk, .int .i64 0, .int .i64 an, .int .i64 bn] 75) := ⟨_, rfl⟩
  have hEV : Below E.heap.size E V := by rw [hV]; exact (Below.refl _ _).alloc (Nat.le_refl _) _
  have hob : V.heap[w.heap.size + 1]? = some (.cells #[.int .i64 xk, .int .i64 0, .int .i64 an, .int .i64 bn] 75) := by rw [hV, ← hes]; exact _root_.Go.heap_alloc_new E _
  have hxb : V.heap[w.heap.size]? = some (.cells #[.int .i64 xk, .int .i64 ca, .int .i64 cb, .string cc, .string xs] 97) := (hEV.block _ (by omega)).trans HXE.out
  rw [← hV]
  have HV := hid (HE1.out.below hEV)
  have HPV := hid (own_below HE2.out hEV)
  have HVB := hid (HE3.out.trans (LowK.of (Nat.le_trans hbw (by omega)) hEV))
  have hm1M : (M).ops.length ≤ 1048576 := hm
  have ht1M : (M).tr.length ≤ 30 := HG.out.tr
  obtain ⟨M1, hM1⟩ : ∃ z : Mkr, z = (M) := ⟨_, rfl⟩
  rw [← hM1] at HV hm1M ht1M
  have HQ := hid (HQ0.out M1 (hM1.trans hwt.out))
  obtain ⟨s0, s1, s2, s3⟩ := cells4 hob
  obtain ⟨s4, _⟩ := cells5 hxb
  have hov : ∀ g, mkBlk B ov (.slice (some ⟨gt, 0, none⟩) M.tr.length tc) g → g < w.heap.size := fun g hg => by
   rcases hg with e | e | e
   · omega
   · exact (H.out.ops.lt _ e).2
   · exact (H.out.tr.lt _ e).2
  have hgp := (HP.out.lt gp rfl).2
  have hVs : w.heap.size + 1 < V.heap.size := by rw [hV]; simp [hes]
  clear hE hV hEV hob hxb hM1 HE1 HE2 HE3 HXE HQ0 HS0 HS1 HS2 p0 p1 p2 p3 p4 f4 qa qb hbc hac hes
  refine wp_region_held_drew (S := (fun w' => w'.cell? ⟨w.heap.size + 1, 0, none⟩ = some (.int .i64 xk) ∧ w'.cell? ⟨w.heap.size + 1, 1, none⟩ = some (.int .i64 0) ∧ w'.cell? ⟨w.heap.size + 1, 2, none⟩ = some (.int .i64 an) ∧ w'.cell? ⟨w.heap.size + 1, 3, none⟩ = some (.int .i64 bn) ∧ w'.cell? ⟨w.heap.size, 0, none⟩ = some (.int .i64 xk))) (by kernel_rfl) ⟨s0, s1, s2, s3, s4⟩ (fun hHeld => ?_)
  refine tkH 0 ?_
  simp only [Act.put, ptT, ptZ, ptS]
  refine tkH 1 ?_
  simp only [Act.put, ptT, ptZ, ptS]
  refine tkH 2 ?_
  simp only [Act.put, ptT, ptZ, ptS]
  refine tkH 3 ?_
  simp only [Act.put, ptT, ptZ, ptS]
  refine tkH 4 ?_
  simp only [Act.put, ptT, ptZ, ptS]
  refine tkH 5 ?_
  simp only [Act.put, ptT, ptZ, ptS]
  refine tkH 6 ?_
  simp only [Act.put, ptT, ptZ, ptS]
  refine tkH 7 ?_
  simp only [Act.put, ptT, ptZ, ptS]
  refine tkH 8 ?_
  simp only [Act.put, ptT, ptZ, ptS]
  refine oneH 9 ?_
  intro K hK
  go_simp
  refine (new_spec B base M1 xk 0 an bn true _ _ _ _ _ (HV.out.below (Below.refl _ _).drew) hm1M ht1M).mono ?_
  rintro e w2 ⟨ov2, tv2, rfl, h2, k2⟩
  have M2 := hid h2
  have P2 := hid (own_cutI (pile_keep (HV.out.below (Below.refl _ _).drew) (own_below HPV.out (Below.refl _ _).drew) k2) l (by omega))
  have B2 := hid ((HVB.out.trans (LowK.of (Nat.le_trans hbw HVB.out.size) (Below.refl _ _).drew)).trans (keep_low (HV.out.below (Below.refl _ _).drew) (Nat.le_trans hbw HVB.out.size) k2))
  have hsz := Nat.le_trans hbw B2.out.size
  have hn0' : ¬ mkBlk B ov (.slice (some ⟨gt, 0, none⟩) M.tr.length tc) (w.heap.size + 1) := fun e => by have := hov _ e; omega
  have hn1' : ¬ mkBlk B ov (.slice (some ⟨gt, 0, none⟩) M.tr.length tc) w.heap.size := fun e => by have := hov _ e; omega
  have k2' : KeepS (mkBlk B ov (.slice (some ⟨gt, 0, none⟩) M.tr.length tc)) V w2 := (KeepS.ofBelow ((Below.refl _ _).drew)).trans k2
  have u0 := (k2'.cell (o := 0) hVs hn0').trans s0
  have u1 := (k2'.cell (o := 1) hVs hn0').trans s1
  have u2 := (k2'.cell (o := 2) hVs hn0').trans s2
  have u3 := (k2'.cell (o := 3) hVs hn0').trans s3
  have u4 := (k2'.cell (o := 0) (Nat.lt_of_succ_lt hVs) hn1').trans s4
  have hw2 := Nat.lt_of_lt_of_le hVs k2'.size
  obtain ⟨r, hrr⟩ : ∃ r, r = (newM M1 (xk, 0, an, bn) true).1 := ⟨_, rfl⟩
  rw [← hrr]
  have HQ2 := hid (HQ.out r (by rw [hdd]; exact hrr))
  rw [hdd] at HQ2
  clear h2 k2 k2' hrr HQ s0 s1 s2 s3 s4 hHeld hn0' hn1'
  go_wp2_with fail
  refine hK.out _ _ ⟨u0, u1, u2, u3, u4⟩ (fun hHeld => ?_)
  clear hK K
  try simp only [Act.put, ptT, ptZ, ptS]
  refine oneH 10 ?_
  intro K hK
  go_simp
  refine hK.out _ _ ?_ (fun hHeld => ?_)
  · (((try dsimp only); (repeat' apply And.intro) <;> first | (go_keep; done) | (simp (disch := first | omega | (simp <;> omega) | fail) [*]; done) | fail))
  clear hK K
  try simp only [Act.put, ptT, ptZ, ptS]
  refine oneH 11 ?_
  intro K hK
  rw [if_pos (by rfl)]
  refine wp_append_own _ _ _ 104 rfl base 2 i0 (.int .i64 0) 1 8 Tryz.underlying104 hti hz0 hz1 hz2 rfl (by decide) (.slice (some ⟨gp, 0, none⟩) l pc) l (intV (p.take l)) rfl (P2.out.alloc _) ⟨w2.heap.size, 0, none⟩ 1 1 [.int .i64 r] rfl rfl (cells1N w2 _ _) (by intro u hu; simp at hu; subst hu; rfl) (by unfold maxLen; omega) (by omega) (by simp; omega) ?_
  intro v5 w5 own5 hgrow hnn
  have FIN := hid (pile_push B2.out M2.out P2.out (by rw [List.length_take, HPN.out]; omega) hgrow own5 HQ2.out)
  have hg1 : w5.heap[w.heap.size + 1]? = w2.heap[w.heap.size + 1]? := (hgrow.block _ (by simp; omega) (by simp [Value.ownBlock]; omega)).trans (((Below.refl w2.heap.size w2).alloc (Nat.le_refl _) _).block _ hw2)
  have hg0 : w5.heap[w.heap.size]? = w2.heap[w.heap.size]? := (hgrow.block _ (by simp; omega) (by simp [Value.ownBlock]; omega)).trans (((Below.refl w2.heap.size w2).alloc (Nat.le_refl _) _).block _ (by omega))
  clear own5 hgrow hnn hHeld
  refine hK.out _ _ ⟨(World.cell?_of_block hg1).trans u0, (World.cell?_of_block hg1).trans u1, (World.cell?_of_block hg1).trans u2, (World.cell?_of_block hg1).trans u3, (World.cell?_of_block hg0).trans u4⟩ (fun hHeld => ?_)
  clear hK K u0 u1 u2 u3 u4 hg0 hg1
  try simp only [Act.put, ptT, ptZ, ptS]
  refine tkH 12 ?_
  simp only [Act.put, ptT, ptZ, ptS]
  refine wpAnyH_done (by kernel_rfl) ?_ _
  clear hHeld
  go_wp2
  go_ret
  exact FIN.out
 have hbn : ∀ (wz : World), (binOp .neq 4 (.bool sb) (.bool sa)).run Tryz.prog wz = .ok (.bool true) wz := fun wz => by
  cases sa <;> cases sb
  · exact absurd rfl hss
  · kernel_rfl
  · kernel_rfl
  · exact absurd rfl hss
 by_cases h6 : xk ≤ 6
 · have hdd : decide (6 < xk) = false := by simp; omega
  have hwt := hid (p := ({ M with bad := true } : Mkr) = { M with bad := !(wantB xk sa sb) }) (by
   have e : wantB xk sa sb = false := by unfold wantB; rw [if_pos (fun e => hss e.symm)]
   rw [e]
   rfl)
  go_enter Tryz.func55, Tryz.ntmps55
  go_wp2_with fail
  refine (needs_spec xk 2 hx0 _).mono ?_
  rintro e w1 ⟨rfl, rfl⟩
  go_wp2_with fail
  have HE1 := hid (p := MkAt ((w.alloc (.cells #[.int .i64 xk, .int .i64 ca, .int .i64 cb, .string cc, .string xs] 97)).setCell ⟨B, 4, none⟩ (.bool true)) base B ({ M with bad := true }) ov cv uv (.slice (some ⟨gt, 0, none⟩) M.tr.length tc)) (HS0.out true)
  have HE2 := hid (p := World.ownsRow ((w.alloc (.cells #[.int .i64 xk, .int .i64 ca, .int .i64 cb, .string cc, .string xs] 97)).setCell ⟨B, 4, none⟩ (.bool true)) base 2 1 (.slice (some ⟨gp, 0, none⟩) n pc) n (intV p)) (HS1.out true)
  have HE3 := hid (p := LowK base w ((w.alloc (.cells #[.int .i64 xk, .int .i64 ca, .int .i64 cb, .string cc, .string xs] 97)).setCell ⟨B, 4, none⟩ (.bool true))) (HS2.out true)
  have hBw := lt_of_heapN H.out.box
  have HXE := hid (p := World.blk2 ((w.alloc (.cells #[.int .i64 xk, .int .i64 ca, .int .i64 cb, .string cc, .string xs] 97)).setCell ⟨B, 4, none⟩ (.bool true)) w.heap.size = some (.cells #[.int .i64 xk, .int .i64 ca, .int .i64 cb, .string cc, .string xs] 97)) (((KeepS.set1 _ B 4 _).block _ (by simp) (by omega)).trans (_root_.Go.heap_alloc_new w _))
  have hes : World.size2 ((w.alloc (.cells #[.int .i64 xk, .int .i64 ca, .int .i64 cb, .string cc, .string xs] 97)).setCell ⟨B, 4, none⟩ (.bool true)) = w.heap.size + 1 := by unfold World.size2; simp
  obtain ⟨E, hE⟩ : ∃ z, z = ((w.alloc (.cells #[.int .i64 xk, .int .i64 ca, .int .i64 cb, .string cc, .string xs] 97)).setCell ⟨B, 4, none⟩ (.bool true)) := ⟨_, rfl⟩
  rw [← hE] at HE1 HE2 HE3 HXE hes ⊢
  unfold World.size2 at hes
  obtain ⟨V, hV⟩ : ∃ z, z = E.alloc (.cells #[.int .i64 xk, .int .i64 0, .int .i64 an, .int .i64 bn] 75) := ⟨_, rfl⟩
  have hEV : Below E.heap.size E V := by rw [hV]; exact (Below.refl _ _).alloc (Nat.le_refl _) _
  have hob : V.heap[w.heap.size + 1]? = some (.cells #[.int .i64 xk, .int .i64 0, .int .i64 an, .int .i64 bn] 75) := by rw [hV, ← hes]; exact _root_.Go.heap_alloc_new E _
  have hxb : V.heap[w.heap.size]? = some (.cells #[.int .i64 xk, .int .i64 ca, .int .i64 cb, .string cc, .string xs] 97) := (hEV.block _ (by omega)).trans HXE.out
  rw [← hV]
  have HV := hid (HE1.out.below hEV)
  have HPV := hid (own_below HE2.out hEV)
  have HVB := hid (HE3.out.trans (LowK.of (Nat.le_trans hbw (by omega)) hEV))
  have hm1M : ({ M with bad := true }).ops.length ≤ 1048576 := hm
  have ht1M : ({ M with bad := true }).tr.length ≤ 30 := HG.out.tr
  obtain ⟨M1, hM1⟩ : ∃ z : Mkr, z = ({ M with bad := true }) := ⟨_, rfl⟩
  rw [← hM1] at HV hm1M ht1M
  have HQ := hid (HQ0.out M1 (hM1.trans hwt.out))
  obtain ⟨s0, s1, s2, s3⟩ := cells4 hob
  obtain ⟨s4, _⟩ := cells5 hxb
  have hov : ∀ g, mkBlk B ov (.slice (some ⟨gt, 0, none⟩) M.tr.length tc) g → g < w.heap.size := fun g hg => by
   rcases hg with e | e | e
   · omega
   · exact (H.out.ops.lt _ e).2
   · exact (H.out.tr.lt _ e).2
  have hgp := (HP.out.lt gp rfl).2
  have hVs : w.heap.size + 1 < V.heap.size := by rw [hV]; simp [hes]
  clear hE hV hEV hob hxb hM1 HE1 HE2 HE3 HXE HQ0 HS0 HS1 HS2 p0 p1 p2 p3 p4 f4 qa qb hbc hac hes
  refine wp_region_held_drew (S := (fun w' => w'.cell? ⟨w.heap.size + 1, 0, none⟩ = some (.int .i64 xk) ∧ w'.cell? ⟨w.heap.size + 1, 1, none⟩ = some (.int .i64 0) ∧ w'.cell? ⟨w.heap.size + 1, 2, none⟩ = some (.int .i64 an) ∧ w'.cell? ⟨w.heap.size + 1, 3, none⟩ = some (.int .i64 bn) ∧ w'.cell? ⟨w.heap.size, 0, none⟩ = some (.int .i64 xk))) (by kernel_rfl) ⟨s0, s1, s2, s3, s4⟩ (fun hHeld => ?_)
  refine tkH 0 ?_
  simp only [Act.put, ptT, ptZ, ptS]
  refine tkH 1 ?_
  simp only [Act.put, ptT, ptZ, ptS]
  refine tkH 2 ?_
  simp only [Act.put, ptT, ptZ, ptS]
  refine tkH 3 ?_
  simp only [Act.put, ptT, ptZ, ptS]
  refine tkH 4 ?_
  simp only [Act.put, ptT, ptZ, ptS]
  refine tkH 5 ?_
  simp only [Act.put, ptT, ptZ, ptS]
  refine tkH 6 ?_
  simp only [Act.put, ptT, ptZ, ptS]
  refine tkH 7 ?_
  simp only [Act.put, ptT, ptZ, ptS]
  refine tkH 8 ?_
  simp only [Act.put, ptT, ptZ, ptS]
  refine oneH 9 ?_
  intro K hK
  go_simp
  refine (new_spec B base M1 xk 0 an bn false _ _ _ _ _ (HV.out.below (Below.refl _ _).drew) hm1M ht1M).mono ?_
  rintro e w2 ⟨ov2, tv2, rfl, h2, k2⟩
  have M2 := hid h2
  have P2 := hid (own_cutI (pile_keep (HV.out.below (Below.refl _ _).drew) (own_below HPV.out (Below.refl _ _).drew) k2) l (by omega))
  have B2 := hid ((HVB.out.trans (LowK.of (Nat.le_trans hbw HVB.out.size) (Below.refl _ _).drew)).trans (keep_low (HV.out.below (Below.refl _ _).drew) (Nat.le_trans hbw HVB.out.size) k2))
  have hsz := Nat.le_trans hbw B2.out.size
  have hn0' : ¬ mkBlk B ov (.slice (some ⟨gt, 0, none⟩) M.tr.length tc) (w.heap.size + 1) := fun e => by have := hov _ e; omega
  have hn1' : ¬ mkBlk B ov (.slice (some ⟨gt, 0, none⟩) M.tr.length tc) w.heap.size := fun e => by have := hov _ e; omega
  have k2' : KeepS (mkBlk B ov (.slice (some ⟨gt, 0, none⟩) M.tr.length tc)) V w2 := (KeepS.ofBelow ((Below.refl _ _).drew)).trans k2
  have u0 := (k2'.cell (o := 0) hVs hn0').trans s0
  have u1 := (k2'.cell (o := 1) hVs hn0').trans s1
  have u2 := (k2'.cell (o := 2) hVs hn0').trans s2
  have u3 := (k2'.cell (o := 3) hVs hn0').trans s3
  have u4 := (k2'.cell (o := 0) (Nat.lt_of_succ_lt hVs) hn1').trans s4
  have hw2 := Nat.lt_of_lt_of_le hVs k2'.size
  obtain ⟨r, hrr⟩ : ∃ r, r = (newM M1 (xk, 0, an, bn) false).1 := ⟨_, rfl⟩
  rw [← hrr]
  have HQ2 := hid (HQ.out r (by rw [hdd]; exact hrr))
  rw [hdd] at HQ2
  clear h2 k2 k2' hrr HQ s0 s1 s2 s3 s4 hHeld hn0' hn1'
  go_wp2_with fail
  refine hK.out _ _ ⟨u0, u1, u2, u3, u4⟩ (fun hHeld => ?_)
  clear hK K
  try simp only [Act.put, ptT, ptZ, ptS]
  refine oneH 10 ?_
  intro K hK
  go_simp
  refine hK.out _ _ ?_ (fun hHeld => ?_)
  · (((try dsimp only); (repeat' apply And.intro) <;> first | (go_keep; done) | (simp (disch := first | omega | (simp <;> omega) | fail) [*]; done) | fail))
  clear hK K
  try simp only [Act.put, ptT, ptZ, ptS]
  refine oneH 11 ?_
  intro K hK
  rw [if_pos (by rfl)]
  refine wp_append_own _ _ _ 104 rfl base 2 i0 (.int .i64 0) 1 8 Tryz.underlying104 hti hz0 hz1 hz2 rfl (by decide) (.slice (some ⟨gp, 0, none⟩) l pc) l (intV (p.take l)) rfl (P2.out.alloc _) ⟨w2.heap.size, 0, none⟩ 1 1 [.int .i64 r] rfl rfl (cells1N w2 _ _) (by intro u hu; simp at hu; subst hu; rfl) (by unfold maxLen; omega) (by omega) (by simp; omega) ?_
  intro v5 w5 own5 hgrow hnn
  have FIN := hid (pile_push B2.out M2.out P2.out (by rw [List.length_take, HPN.out]; omega) hgrow own5 HQ2.out)
  have hg1 : w5.heap[w.heap.size + 1]? = w2.heap[w.heap.size + 1]? := (hgrow.block _ (by simp; omega) (by simp [Value.ownBlock]; omega)).trans (((Below.refl w2.heap.size w2).alloc (Nat.le_refl _) _).block _ hw2)
  have hg0 : w5.heap[w.heap.size]? = w2.heap[w.heap.size]? := (hgrow.block _ (by simp; omega) (by simp [Value.ownBlock]; omega)).trans (((Below.refl w2.heap.size w2).alloc (Nat.le_refl _) _).block _ (by omega))
  clear own5 hgrow hnn hHeld
  refine hK.out _ _ ⟨(World.cell?_of_block hg1).trans u0, (World.cell?_of_block hg1).trans u1, (World.cell?_of_block hg1).trans u2, (World.cell?_of_block hg1).trans u3, (World.cell?_of_block hg0).trans u4⟩ (fun hHeld => ?_)
  clear hK K u0 u1 u2 u3 u4 hg0 hg1
  try simp only [Act.put, ptT, ptZ, ptS]
  refine tkH 12 ?_
  simp only [Act.put, ptT, ptZ, ptS]
  refine wpAnyH_done (by kernel_rfl) ?_ _
  clear hHeld
  go_wp2
  go_ret
  exact FIN.out
 have hdd : decide (6 < xk) = true := by simp; omega
 have hwt := hid (p := ({ M with bad := true } : Mkr) = { M with bad := !(wantB xk sa sb) }) (by
  have e : wantB xk sa sb = false := by unfold wantB; rw [if_pos (fun e => hss e.symm)]
  rw [e]
  rfl)
 go_enter Tryz.func55, Tryz.ntmps55
 go_wp2_with fail
 refine (needs_spec xk 2 hx0 _).mono ?_
 rintro e w1 ⟨rfl, rfl⟩
 go_wp2_with fail
 have HE1 := hid (p := MkAt ((w.alloc (.cells #[.int .i64 xk, .int .i64 ca, .int .i64 cb, .string cc, .string xs] 97)).setCell ⟨B, 4, none⟩ (.bool true)) base B ({ M with bad := true }) ov cv uv (.slice (some ⟨gt, 0, none⟩) M.tr.length tc)) (HS0.out true)
 have HE2 := hid (p := World.ownsRow ((w.alloc (.cells #[.int .i64 xk, .int .i64 ca, .int .i64 cb, .string cc, .string xs] 97)).setCell ⟨B, 4, none⟩ (.bool true)) base 2 1 (.slice (some ⟨gp, 0, none⟩) n pc) n (intV p)) (HS1.out true)
 have HE3 := hid (p := LowK base w ((w.alloc (.cells #[.int .i64 xk, .int .i64 ca, .int .i64 cb, .string cc, .string xs] 97)).setCell ⟨B, 4, none⟩ (.bool true))) (HS2.out true)
 have hBw := lt_of_heapN H.out.box
 have HXE := hid (p := World.blk2 ((w.alloc (.cells #[.int .i64 xk, .int .i64 ca, .int .i64 cb, .string cc, .string xs] 97)).setCell ⟨B, 4, none⟩ (.bool true)) w.heap.size = some (.cells #[.int .i64 xk, .int .i64 ca, .int .i64 cb, .string cc, .string xs] 97)) (((KeepS.set1 _ B 4 _).block _ (by simp) (by omega)).trans (_root_.Go.heap_alloc_new w _))
 have hes : World.size2 ((w.alloc (.cells #[.int .i64 xk, .int .i64 ca, .int .i64 cb, .string cc, .string xs] 97)).setCell ⟨B, 4, none⟩ (.bool true)) = w.heap.size + 1 := by unfold World.size2; simp
 obtain ⟨E, hE⟩ : ∃ z, z = ((w.alloc (.cells #[.int .i64 xk, .int .i64 ca, .int .i64 cb, .string cc, .string xs] 97)).setCell ⟨B, 4, none⟩ (.bool true)) := ⟨_, rfl⟩
 rw [← hE] at HE1 HE2 HE3 HXE hes ⊢
 unfold World.size2 at hes
 obtain ⟨V, hV⟩ : ∃ z, z = E.alloc (.cells #[.int .i64 xk, .int .i64 0, .int .i64 an, .int .i64 bn] 75) := ⟨_, rfl⟩
 have hEV : Below E.heap.size E V := by rw [hV]; exact (Below.refl _ _).alloc (Nat.le_refl _) _
 have hob : V.heap[w.heap.size + 1]? = some (.cells #[.int .i64 xk, .int .i64 0, .int .i64 an, .int .i64 bn] 75) := by rw [hV, ← hes]; exact _root_.Go.heap_alloc_new E _
 have hxb : V.heap[w.heap.size]? = some (.cells #[.int .i64 xk, .int .i64 ca, .int .i64 cb, .string cc, .string xs] 97) := (hEV.block _ (by omega)).trans HXE.out
 rw [← hV]
 have HV := hid (HE1.out.below hEV)
 have HPV := hid (own_below HE2.out hEV)
 have HVB := hid (HE3.out.trans (LowK.of (Nat.le_trans hbw (by omega)) hEV))
 have hm1M : ({ M with bad := true }).ops.length ≤ 1048576 := hm
 have ht1M : ({ M with bad := true }).tr.length ≤ 30 := HG.out.tr
 obtain ⟨M1, hM1⟩ : ∃ z : Mkr, z = ({ M with bad := true }) := ⟨_, rfl⟩
 rw [← hM1] at HV hm1M ht1M
 have HQ := hid (HQ0.out M1 (hM1.trans hwt.out))
 obtain ⟨s0, s1, s2, s3⟩ := cells4 hob
 obtain ⟨s4, _⟩ := cells5 hxb
 have hov : ∀ g, mkBlk B ov (.slice (some ⟨gt, 0, none⟩) M.tr.length tc) g → g < w.heap.size := fun g hg => by
  rcases hg with e | e | e
  · omega
  · exact (H.out.ops.lt _ e).2
  · exact (H.out.tr.lt _ e).2
 have hgp := (HP.out.lt gp rfl).2
 have hVs : w.heap.size + 1 < V.heap.size := by rw [hV]; simp [hes]
 clear hE hV hEV hob hxb hM1 HE1 HE2 HE3 HXE HQ0 HS0 HS1 HS2 p0 p1 p2 p3 p4 f4 qa qb hbc hac hes
 refine wp_region_held_drew (S := (fun w' => w'.cell? ⟨w.heap.size + 1, 0, none⟩ = some (.int .i64 xk) ∧ w'.cell? ⟨w.heap.size + 1, 1, none⟩ = some (.int .i64 0) ∧ w'.cell? ⟨w.heap.size + 1, 2, none⟩ = some (.int .i64 an) ∧ w'.cell? ⟨w.heap.size + 1, 3, none⟩ = some (.int .i64 bn) ∧ w'.cell? ⟨w.heap.size, 0, none⟩ = some (.int .i64 xk))) (by kernel_rfl) ⟨s0, s1, s2, s3, s4⟩ (fun hHeld => ?_)
 refine tkH 0 ?_
 simp only [Act.put, ptT, ptZ, ptS]
 refine tkH 1 ?_
 simp only [Act.put, ptT, ptZ, ptS]
 refine tkH 2 ?_
 simp only [Act.put, ptT, ptZ, ptS]
 refine tkH 3 ?_
 simp only [Act.put, ptT, ptZ, ptS]
 refine tkH 4 ?_
 simp only [Act.put, ptT, ptZ, ptS]
 refine tkH 5 ?_
 simp only [Act.put, ptT, ptZ, ptS]
 refine tkH 6 ?_
 simp only [Act.put, ptT, ptZ, ptS]
 refine tkH 7 ?_
 simp only [Act.put, ptT, ptZ, ptS]
 refine tkH 8 ?_
 simp only [Act.put, ptT, ptZ, ptS]
 refine oneH 9 ?_
 intro K hK
 go_simp
 refine (new_spec B base M1 xk 0 an bn true _ _ _ _ _ (HV.out.below (Below.refl _ _).drew) hm1M ht1M).mono ?_
 rintro e w2 ⟨ov2, tv2, rfl, h2, k2⟩
 have M2 := hid h2
 have P2 := hid (own_cutI (pile_keep (HV.out.below (Below.refl _ _).drew) (own_below HPV.out (Below.refl _ _).drew) k2) l (by omega))
 have B2 := hid ((HVB.out.trans (LowK.of (Nat.le_trans hbw HVB.out.size) (Below.refl _ _).drew)).trans (keep_low (HV.out.below (Below.refl _ _).drew) (Nat.le_trans hbw HVB.out.size) k2))
 have hsz := Nat.le_trans hbw B2.out.size
 have hn0' : ¬ mkBlk B ov (.slice (some ⟨gt, 0, none⟩) M.tr.length tc) (w.heap.size + 1) := fun e => by have := hov _ e; omega
 have hn1' : ¬ mkBlk B ov (.slice (some ⟨gt, 0, none⟩) M.tr.length tc) w.heap.size := fun e => by have := hov _ e; omega
 have k2' : KeepS (mkBlk B ov (.slice (some ⟨gt, 0, none⟩) M.tr.length tc)) V w2 := (KeepS.ofBelow ((Below.refl _ _).drew)).trans k2
 have u0 := (k2'.cell (o := 0) hVs hn0').trans s0
 have u1 := (k2'.cell (o := 1) hVs hn0').trans s1
 have u2 := (k2'.cell (o := 2) hVs hn0').trans s2
 have u3 := (k2'.cell (o := 3) hVs hn0').trans s3
 have u4 := (k2'.cell (o := 0) (Nat.lt_of_succ_lt hVs) hn1').trans s4
 have hw2 := Nat.lt_of_lt_of_le hVs k2'.size
 obtain ⟨r, hrr⟩ : ∃ r, r = (newM M1 (xk, 0, an, bn) true).1 := ⟨_, rfl⟩
 rw [← hrr]
 have HQ2 := hid (HQ.out r (by rw [hdd]; exact hrr))
 rw [hdd] at HQ2
 clear h2 k2 k2' hrr HQ s0 s1 s2 s3 s4 hHeld hn0' hn1'
 go_wp2_with fail
 refine hK.out _ _ ⟨u0, u1, u2, u3, u4⟩ (fun hHeld => ?_)
 clear hK K
 try simp only [Act.put, ptT, ptZ, ptS]
 refine oneH 10 ?_
 intro K hK
 go_simp
 refine hK.out _ _ ?_ (fun hHeld => ?_)
 · (((try dsimp only); (repeat' apply And.intro) <;> first | (go_keep; done) | (simp (disch := first | omega | (simp <;> omega) | fail) [*]; done) | fail))
 clear hK K
 try simp only [Act.put, ptT, ptZ, ptS]
 refine oneH 11 ?_
 intro K hK
 rw [if_pos (by rfl)]
 refine wp_append_own _ _ _ 104 rfl base 2 i0 (.int .i64 0) 1 8 Tryz.underlying104 hti hz0 hz1 hz2 rfl (by decide) (.slice (some ⟨gp, 0, none⟩) l pc) l (intV (p.take l)) rfl (P2.out.alloc _) ⟨w2.heap.size, 0, none⟩ 1 1 [.int .i64 r] rfl rfl (cells1N w2 _ _) (by intro u hu; simp at hu; subst hu; rfl) (by unfold maxLen; omega) (by omega) (by simp; omega) ?_
 intro v5 w5 own5 hgrow hnn
 have FIN := hid (pile_push B2.out M2.out P2.out (by rw [List.length_take, HPN.out]; omega) hgrow own5 HQ2.out)
 have hg1 : w5.heap[w.heap.size + 1]? = w2.heap[w.heap.size + 1]? := (hgrow.block _ (by simp; omega) (by simp [Value.ownBlock]; omega)).trans (((Below.refl w2.heap.size w2).alloc (Nat.le_refl _) _).block _ hw2)
 have hg0 : w5.heap[w.heap.size]? = w2.heap[w.heap.size]? := (hgrow.block _ (by simp; omega) (by simp [Value.ownBlock]; omega)).trans (((Below.refl w2.heap.size w2).alloc (Nat.le_refl _) _).block _ (by omega))
 clear own5 hgrow hnn hHeld
 refine hK.out _ _ ⟨(World.cell?_of_block hg1).trans u0, (World.cell?_of_block hg1).trans u1, (World.cell?_of_block hg1).trans u2, (World.cell?_of_block hg1).trans u3, (World.cell?_of_block hg0).trans u4⟩ (fun hHeld => ?_)
 clear hK K u0 u1 u2 u3 u4 hg0 hg1
 try simp only [Act.put, ptT, ptZ, ptS]
 refine tkH 12 ?_
 simp only [Act.put, ptT, ptZ, ptS]
 refine wpAnyH_done (by kernel_rfl) ?_ _
 clear hHeld
 go_wp2
 go_ret
 exact FIN.out
end Go.Proofs.YtjjkdbmjloolaaaGreatDoor
