/-
  A part of the proof: FkReck.
-/
import Derived.Test.YtjjkdbmjloolaaaGreatDoorPart19
import Derived.Test.YtjjkdbmjloolaaaGreatDoorPart21

namespace Go.Proofs.YtjjkdbmjloolaaaGreatDoor
open Go.ChangeShapes Go.WideShapes Go.ChangeAt Go.RowKit Go.Joins
attribute [local go_sem ↓] Go.wp_at_zero Go.wp_at_succ
attribute [local simp] World.cell?_alloc_past World.cell?_alloc_at World.frozen?_alloc_at cell_far cell_off cell_here World.frozen?_alloc_past
theorem item_make (M : Mkr) (x : TI) (P : List Int) (hn : needsI x.1 ≤ P.length) (hk : 1 ≤ x.1 ∧ x.1 ≤ 12) : itemO M x P = (makeO M x (P.drop (P.length - needsI x.1))).map fun q => (P.take (P.length - needsI x.1) ++ [q.1], q.2) := by
 have hd : ∀ (k j : Nat), k + j < P.length + 0 → (P.drop k).getD j 0 = P.getD (k + j) 0 := fun k j _ => by
  rw [List.getD_eq_getElem?_getD, List.getD_eq_getElem?_getD, List.getElem?_drop]
 unfold itemO makeO
 by_cases h0 : needsI x.1 = 0
 · rw [if_pos h0, if_pos h0, h0, Nat.sub_zero, List.take_length]
 rw [if_neg h0, if_neg h0]
 have hnd : needsI x.1 = if 11 ≤ x.1 then 1 else 2 := by
  unfold needsI at h0 ⊢
  split at h0
  · omega
  · rename_i h2; rw [if_neg h2]
 by_cases h12 : x.1 = 12
 · have hn1 : needsI x.1 = 1 := by rw [hnd, if_pos (by omega)]
  rw [if_pos h12, if_pos h12, hn1]
 rw [if_neg h12, if_neg h12]
 by_cases h11 : x.1 = 11
 · have hn1 : needsI x.1 = 1 := by rw [hnd, if_pos (by omega)]
  rw [hn1] at hn
  rw [if_pos h11, if_pos h11, hn1]
  rw [hd _ _ (by omega), Nat.add_zero]
  by_cases ht : trB M (P.getD (P.length - 1) 0) = true
  · rw [if_pos ht, if_pos ht]
  · rw [if_neg ht, if_neg ht]; rfl
 · have hn1 : needsI x.1 = 2 := by rw [hnd, if_neg (by omega)]
  rw [hn1] at hn
  rw [if_neg h11, if_neg h11, hn1]
  rw [hd _ _ (by omega), hd _ _ (by omega), Nat.add_zero, show P.length - 2 + 1 = P.length - 1 from by omega]
  by_cases ht : wantB x.1 (trB M (P.getD (P.length - 2) 0)) (trB M (P.getD (P.length - 1) 0)) = true
  · rw [if_pos ht, if_pos ht]
  · rw [if_neg ht, if_neg ht]; rfl
theorem flatFu_take : ∀ (l : List FU) (m : Nat), flatFu (l.take m) = (flatFu l).take (m * 3)
 | [], m => by simp [flatFu]
 | u :: l, 0 => by simp [flatFu]
 | u :: l, m + 1 => by
  have e : (m + 1) * 3 = m * 3 + 1 + 1 + 1 := by omega
  have h := flatFu_take l m
  rw [List.take_succ_cons]
  have e1 : flatFu (u :: l.take m) = .int .i64 u.1 :: .int .i64 u.2.1 :: .bool u.2.2 :: flatFu (l.take m) := by simp [flatFu]
  have e2 : flatFu (u :: l) = .int .i64 u.1 :: .int .i64 u.2.1 :: .bool u.2.2 :: flatFu l := by simp [flatFu]
  rw [e1, e2, e, List.take_succ_cons, List.take_succ_cons, List.take_succ_cons, h]
theorem own_cutU {w : World} {base n c : Nat} {pa : Option Addr} {e : TypeId} {l : List FU} (h : w.ownsRow base e 3 (.slice pa n c) n (flatFu l)) (m : Nat) (hm : m ≤ n) : w.ownsRow base e 3 (.slice pa m c) m (flatFu (l.take m)) := by
 have hl : l.length = n := by have := h.1; rw [flatFu_length] at this; omega
 rcases h.2 with ⟨h', h0⟩ | ⟨g', c', cur, h', hb', hg', hc', hm', hz', ht'⟩
 · have e0 : m = 0 := by omega
  subst e0
  subst h0
  exact ⟨by rw [flatFu_length, List.length_take]; omega, .inl ⟨h', rfl⟩⟩
 · refine ⟨by rw [flatFu_length, List.length_take]; omega, .inr ⟨g', c', cur, ?_, hb', hg', by omega, hm', hz', ?_⟩⟩
  · cases h'; rfl
  · have e2 : cur.toList.take (m * 3) = (cur.toList.take (n * 3)).take (m * 3) := by rw [List.take_take]; congr 1; omega
   rw [e2, ht', flatFu_take]
structure LowI (X : TypeId → Prop) (base : Nat) (w w' : World) : Prop where
 bel : Below base w w'
 kt : ∀ (b : Nat) (cs : Array Value) (T : TypeId), w.heap[b]? = some (.cells cs T) → ¬ X T → w'.heap[b]? = w.heap[b]?
def XI (T : TypeId) : Prop := T = 59 ∨ T = 75
def XJ (T : TypeId) : Prop := XI T ∨ T = 51
theorem LowI.size {X : TypeId → Prop} {base : Nat} {w w' : World} (h : LowI X base w w') : w.heap.size ≤ w'.heap.size := h.bel.size
theorem LowI.trans {X : TypeId → Prop} {base : Nat} {a b c : World} (h : LowI X base a b) (k : LowI X base b c) : LowI X base a c :=
 ⟨h.bel.trans k.bel, fun i cs T e h1 => (k.kt i cs T ((h.kt i cs T e h1).trans e) h1).trans (h.kt i cs T e h1)⟩
theorem LowI.of {X : TypeId → Prop} {base : Nat} {w w' : World} (hb : base ≤ w.heap.size) (h : Below w.heap.size w w') : LowI X base w w' := ⟨h.mono hb, fun i _ _ e _ => h.block i (lt_of_heapN e)⟩
theorem LowI.wide {X Y : TypeId → Prop} {base : Nat} {w w' : World} (h : LowI X base w w') (hX : ∀ T, X T → Y T) : LowI Y base w w' := ⟨h.bel, fun i cs T e h1 => h.kt i cs T e (fun h2 => h1 (hX T h2))⟩
theorem LowI.then {X : TypeId → Prop} {base : Nat} {a b c : World} (h : LowI X base a b) (hb : base ≤ a.heap.size) (k : Below a.heap.size b c) : LowI X base a c :=
 ⟨h.bel.trans (k.mono hb), fun i cs T e h1 => (k.block i (lt_of_heapN e)).trans (h.kt i cs T e h1)⟩
theorem keep_lowI {w w' : World} {base B : Nat} {M : Mkr} {cv uv ov : Value} (h : MkI w base B M cv uv ov) (hb : base ≤ w.heap.size) (k : KeepS (mkiBlk B ov) w w') : LowI XI base w w' :=
 ⟨⟨k.os, k.tape, k.output, k.size, fun i hi => k.block i (by omega) (fun hp => by
  rcases hp with e | e
  · have := h.lo; omega
  · have := (h.ops.lt _ e).1; omega)⟩, fun i cs T e h1 => k.block i (lt_of_heapN e) (fun hp => by
  rcases hp with e2 | e2
  · subst e2
   rw [h.box] at e
   simp at e
   exact h1 (.inl e.2.symm)
  · rcases h.ops.2 with ⟨e3, _⟩ | ⟨g, c, cur, e3, _, hg, _⟩
   · rw [e3] at e2; cases e2
   · rw [e3] at e2
    have e4 : g = i := Option.some.inj e2
    subst e4
    rw [hg] at e
    simp at e
    exact h1 (.inr e.2.symm))⟩
theorem ly_keep {w w' : World} {base lb B : Nat} {M : Mkr} {cv uv ov pv : Value} {n : Nat} {xs : List Value} (h : MkI w base B M cv uv ov) (hp : w.ownsRow lb 51 3 pv n xs) (k : KeepS (mkiBlk B ov) w w') : w'.ownsRow lb 51 3 pv n xs :=
 own_keepF hp k (fun g e hp2 => by
  rcases hp2 with e2 | e2
  · subst e2; exact own_box hp h.box (by decide) e
  · rcases own_apartF hp h.ops (by decide) with e3 | e3
   · rw [e3] at e; cases e
   · exact e3 (e.trans e2.symm))
theorem MkI.keepL {w w' : World} {base lb B : Nat} {M : Mkr} {cv uv ov pv : Value} {n : Nat} {xs : List Value} (h : MkI w base B M cv uv ov) (hp : w.ownsRow lb 51 3 pv n xs) (hl : base ≤ lb) (hu : ∀ g, uv.ownBlock = some g → g < lb) (k : KeepS (fun g => pv.ownBlock = some g) w w') : MkI w' base B M cv uv ov := by
 refine ⟨(k.block _ (lt_of_heapN h.box) (fun e => own_box hp h.box (by decide) e)).trans h.box, h.lo, h.cols.keepS k (fun g e => ⟨Nat.le_trans hl (hp.lt g e).1, fun cs e2 => ?_⟩), own_keepF h.outs k (fun g e e2 => ?_), own_keepF h.ops k (fun g e e2 => ?_)⟩
 · rcases hp.2 with ⟨e3, _⟩ | ⟨g', c, cur, e3, _, hg, _⟩
  · rw [e3] at e; cases e
  · rw [e3] at e
   have e4 : g' = g := Option.some.inj e
   subst e4
   rw [hg] at e2
   simp at e2
 · have := hu g e
  have := (hp.lt g e2).1
  omega
 · rcases own_apartF h.ops hp (by decide) with e3 | e3
  · rw [e3] at e; cases e
  · exact e3 (e.trans e2.symm)
theorem FuAt.drop {w : World} {g : Nat} {pa : Option Addr} {l : List FU} (h : FuAt w (some ⟨g, 0, none⟩) l) (f : Nat) (hp : f < l.length → pa = some ⟨g, f * 3, none⟩) : FuAt w pa (l.drop f) := by
 intro j hj
 rw [List.length_drop] at hj
 obtain ⟨b, o, e, hlt, c0, c1, c2⟩ := h (f + j) (by omega)
 cases e
 have e3 : ∀ i : Nat, 0 + (f + j) * 3 + i = f * 3 + j * 3 + i := fun i => by omega
 have e4 : (l.drop f)[j]'(by rw [List.length_drop]; exact hj) = l[f + j]'(by omega) := by rw [List.getElem_drop]
 refine ⟨g, f * 3, hp (by omega), hlt, ?_, ?_, ?_⟩
 · rw [e4]; exact (congrArg (fun x => w.cell? ⟨g, x, none⟩) (e3 0).symm).trans c0
 · rw [e4]; exact (congrArg (fun x => w.cell? ⟨g, x, none⟩) (e3 1).symm).trans c1
 · rw [e4]; exact (congrArg (fun x => w.cell? ⟨g, x, none⟩) (e3 2).symm).trans c2
structure RSt (w wr : World) (base B : Nat) (M : Mkr) (L : List FU) (lv cv uv ov : Value) (n : Nat) : Prop where
 mki : MkI wr base B M cv uv ov
 own : wr.ownsRow (w.heap.size + 1) 51 3 lv n (flatFu L)
 low : LowI XI base w wr
 box : wr.heap[w.heap.size]? = some (.cells #[.int .i64 0, .int .i64 0, .bool false] 51)
theorem RSt.below {w wr w' : World} {base B n : Nat} {M : Mkr} {L : List FU} {lv cv uv ov : Value} (h : RSt w wr base B M L lv cv uv ov n) (hbw : base ≤ w.heap.size) (hb : Below wr.heap.size wr w') : RSt w w' base B M L lv cv uv ov n :=
 ⟨h.mki.below hb, own_below h.own hb, h.low.then hbw (hb.mono h.low.size), (hb.block _ (lt_of_heapN h.box)).trans h.box⟩
theorem RSt.call {w wr w' : World} {base B n : Nat} {M : Mkr} {L : List FU} {lv cv uv ov : Value} {R : Option (Int × Mkr)} {e : Ending} (h : RSt w wr base B M L lv cv uv ov n) (hbw : base ≤ w.heap.size) (hB : B < w.heap.size) (hW : WrOut wr base B R cv uv ov e w') : ∃ M3 ov3, RSt w w' base B M3 L lv cv uv ov3 n ∧ M3 = (R.map Prod.snd).getD M := by
 cases R with
 | none => exact ⟨M, ov, h.below hbw hW.2, rfl⟩
 | some q =>
  obtain ⟨ov3, _, h2, h3⟩ := hW
  refine ⟨q.2, ov3, ⟨h2, ly_keep h.mki h.own h3, h.low.trans (keep_lowI h.mki (Nat.le_trans hbw h.low.size) h3), ?_⟩, rfl⟩
  refine (h3.block _ (lt_of_heapN h.box) (fun e => ?_)).trans h.box
  rcases e with e | e
  · omega
  · exact own_box h.mki.ops h.box (by decide) e
theorem RSt.keepBox {w wr w' : World} {base B b n : Nat} {M : Mkr} {L : List FU} {lv cv uv ov : Value} {cur : Array Value} (h : RSt w wr base B M L lv cv uv ov n) (hbw : base ≤ w.heap.size) (k : KeepS (fun g => g = b) wr w') (hb : wr.heap[b]? = some (.cells cur 51)) (h1 : w.heap.size < b) (hl : lv.ownBlock ≠ some b) (hu : uv.ownBlock ≠ some b) : RSt w w' base B M L lv cv uv ov n :=
 ⟨h.mki.keepBox k hb ⟨by omega, hu⟩, own_keepF h.own k (fun g e e2 => by subst e2; exact hl e), h.low.then hbw ⟨k.os, k.tape, k.output, k.size, fun i hi => k.block i (by have := h.low.size; omega) (by omega)⟩, (k.block _ (lt_of_heapN h.box) (by omega)).trans h.box⟩
theorem RSt.push {w W w5 : World} {base B m : Nat} {M : Mkr} {L : List FU} {lv cv uv ov v5 : Value} {u : FU} {o : Obj} (h : RSt w W base B M L lv cv uv ov m) (hbw : base ≤ w.heap.size) (hu : ∀ g, uv.ownBlock = some g → g < w.heap.size) (hg : (W.alloc o).grownBy w5 lv.ownBlock) (hown : w5.ownsRow (w.heap.size + 1) 51 3 v5 (m + 1) (flatFu L ++ flatFu [u])) : RSt w w5 base B M (L ++ [u]) v5 cv uv ov (m + 1) := by
 have hA : Below W.heap.size W (W.alloc o) := (Below.refl _ _).alloc (Nat.le_refl _) _
 have h2 := h.below hbw hA
 have K5 : KeepS (fun g => lv.ownBlock = some g) (W.alloc o) w5 := ⟨hg.os, hg.tape, hg.output, hg.size, fun k hk hn => hg.block k hk (fun e => hn e.symm)⟩
 have hlt : ∀ g, lv.ownBlock = some g → w.heap.size < g := fun g e => (h2.own.lt g e).1
 refine ⟨h2.mki.keepL h2.own (by omega) (fun g e => by have := hu g e; omega) K5, by rw [flatFu_append]; exact hown, h2.low.then hbw ⟨K5.os, K5.tape, K5.output, K5.size, fun i hi => K5.block i (by have := h2.low.size; omega) (fun e => by have := hlt i e; omega)⟩, (K5.block _ (lt_of_heapN h2.box) (fun e => by have := hlt _ e; omega)).trans h2.box⟩
theorem RSt.cut {w W : World} {base B n m c : Nat} {M : Mkr} {L : List FU} {pa : Option Addr} {cv uv ov : Value} (h : RSt w W base B M L (.slice pa n c) cv uv ov n) (hm : m ≤ n) : RSt w W base B M (L.take m) (.slice pa m c) cv uv ov m :=
 ⟨h.mki, own_cutU h.own m hm, h.low, h.box⟩
theorem regs_map {M q : Mkr} {p : List Int} (hp : RegsM M p) (g : GrowM M q) : p.map (regU M) = p.map (regU q) :=
 List.map_congr_left (fun r hr => by
  obtain ⟨h0, h1⟩ := hp r hr
  unfold regU
  rw [g.tr r h0 h1])
def SumOutI (w : World) (base B : Nat) (M : Mkr) (S : List TI) (cv uv : Value) (e : Ending) (w' : World) : Prop :=
 ∃ M' ov' u ok, e = .returned (.tuple #[.agg #[.int .i64 u.1, .int .i64 u.2.1, .bool u.2.2], .bool ok]) ∧ MkI w' base B M' cv uv ov' ∧ LowI XI base w w' ∧ M'.ops.length ≤ M.ops.length + 30 ∧ M'.outs = M.outs ∧ (match sumO M S with | none => ok = false | some q => ok = true ∧ M' = q.2 ∧ u = ((-1 : Int), q.1, trB q.2 q.1))
set_option maxRecDepth 100000 in
set_option maxHeartbeats 4000000 in
theorem reckons_impl (B base : Nat) (M : Mkr) (a : Option Addr) (cap n : Nat) (S : List TI) (hn : S.length = n) (cv uv ov : Value) (w : World) (h : MkI w base B M cv uv ov) (hrow : ∀ w', Below base w w' → ItmAt w' a S) (g : GoodM M) (hs : sumB S = true) (hc : ∀ x ∈ S, x.1 = 2 → x.2.2 ∈ M.cols) (hcl : M.cols.length ≤ 1000) (hm : M.ops.length + 40 ≤ 1048576) (hbw : base ≤ w.heap.size) :
  Calls Tryz.prog 62 #[.pointer (some ⟨B, 0, none⟩), .slice a n cap] w (SumOutI w base B M S cv uv) := by
 have HR := hid hrow
 have HG := hid g
 have HN := hid hn
 have HC := hid hc
 have HM := hid h
 have HS := hid (p := heapN S 0 = some 1 ∧ S.length ≤ 40) (by
  have := hs
  unfold sumB at this
  rw [Bool.and_eq_true, decide_eq_true_eq, decide_eq_true_eq] at this
  exact this)
 have hn40 : n ≤ 40 := by rw [← hn]; exact HS.out.2
 clear hrow h g hs hn hc
 have hA1 : Below w.heap.size w (w.alloc (.cells #[.int .i64 0, .int .i64 0, .bool false] 51)) := (Below.refl _ _).alloc (Nat.le_refl _) _
 obtain ⟨i0, hti, hz0, hz1, hz2⟩ := info_parts infoFu15
 go_enter Tryz.func62, Tryz.ntmps62
 go_wp2_with (at_make; refine wpList_make_own _ rfl _ _ 27 rfl (w.heap.size + 1) 51 i0 (.agg #[.int .i64 0, .int .i64 0, .bool false]) 3 Tryz.underlying27 hti hz0 hz1 .i64 .i64 _ n rfl rfl rfl (by rw [hz2]; omega) (by unfold maxLen; omega) (by simp) ?_)
 intro w2 own2 hg2
 have hA2 : Below w.heap.size w w2 := hA1.grown hg2 (by simp) (by intro k h; cases h)
 have HR2 := hid (p := RSt w w2 base B M ([].map (regU M)) (.slice (some ⟨w.heap.size + 1, 0, none⟩) 0 n) cv uv ov 0) ⟨HM.out.below hA2, by simpa [flatFu] using own2, LowI.of (X := XI) hbw hA2, (hg2.block _ (by simp) (by intro e; cases e)).trans (_root_.Go.heap_alloc_new w _)⟩
 have hBl := lt_of_heapN HM.out.box
 have HUV := hid (fun (g : Nat) (e : uv.ownBlock = some g) => (HM.out.outs.lt g e).2)
 have e1 : (w.alloc (.cells #[.int .i64 0, .int .i64 0, .bool false] 51)).heap.size = w.heap.size + 1 := by simp
 clear own2 hg2 hA1 hA2
 go_wp2
 go_loopw [6, 17] (fun lv kk wr => ∃ (k n' pc' gp : Nat) (M' : Mkr) (ov' : Value) (P' : List Int), k ≤ n ∧ kk = .int .i64 k ∧ lv = .slice (some ⟨gp, 0, none⟩) n' pc' ∧ Hid (RSt w wr base B M' (P'.map (regU M')) (.slice (some ⟨gp, 0, none⟩) n' pc') cv uv ov' n') ∧ Hid (P'.length = n') ∧ Hid (runO M (S.take k) [] = some (P', M'))) (fun _ kk _ => n - (intOf kk).toNat)
 case atStart => exact ⟨0, 0, n, w.heap.size + 1, M, ov, [], Nat.zero_le _, rfl, by first | rfl | (simp), HR2, rfl, rfl⟩
 case round =>
  obtain ⟨k, n', pc', gp, M', ov', P', hk, rfl, rfl, hR, hP, hst⟩ := hrel
  have hi0 : (0 : Int) ≤ (k : Int) := by omega
  by_cases hlt : k < n
  · have hi1 : (k : Int) < (n : Int) := by omega
   have hlt' : k < S.length := by rw [HN.out]; exact hlt
   obtain ⟨g1, o, rfl, hgw, c0, c1, c2, c3, c4⟩ := HR.out wr hR.out.low.bel k hlt'
   obtain ⟨j1, j2, j3, j4⟩ := runO_good HG.out HS.out.1 HC.out k (P', M') (by omega) hst.out
   obtain ⟨m, q1, q2, q3, q4⟩ := heap_at15 hlt' HS.out.1
   have em : P'.length = m := Option.some.inj (j4.symm.trans q1)
   have hX := itemB_range q2
   have hqp := needsP_ok q2
   have hcm : S[k].1 = 2 → S[k].2.2 ∈ M'.cols := fun e => by rw [j2.cols]; exact HC.out _ (List.getElem_mem _) e
   have HST := hid (fun (q : Option (List Int × Mkr)) (e : itemO M' S[k] P' = q) => show runO M (S.take (k + 1)) [] = q by rw [runO_snoc M S k hlt', hst.out]; exact e)
   have hpn : P'.length ≤ 40 := by
    have := heapN_le _ _ _ q1
    rw [List.length_take] at this
    omega
   have hn4 : n' ≤ 40 := by rw [← hP.out]; exact hpn
   have hops : M'.ops.length ≤ M.ops.length + 30 := by
    have e1 : M'.ops.length + M.tr.length = M.ops.length + M'.tr.length := j2.ops
    have e2 : M'.tr.length ≤ 30 := j1.tr
    omega
   have HOU := hid j2.outs
   have hcl' : M'.cols.length ≤ 1000 := by rw [j2.cols]; exact hcl
   generalize S[k]'hlt' = x at c0 c1 c2 c3 c4 q2 q3 q4 hX hcm HST hqp
   obtain ⟨xk, ⟨ca, cb, cc⟩, xs⟩ := x
   dsimp only at c0 c1 c2 c3 c4 q3 q4 hX hcm hqp
   obtain ⟨q, hq⟩ : ∃ q, needsI xk = q := ⟨_, rfl⟩
   rw [hq] at hqp q3
   have hqn : q ≤ n' := by rw [← hP.out, em]; exact q3
   obtain ⟨f, hf⟩ : ∃ f, n' - q = f := ⟨_, rfl⟩
   have HMKE := hid (p := itemO M' (xk, (ca, cb, cc), xs) P' = (makeO M' (xk, (ca, cb, cc), xs) (P'.drop f)).map fun z => (P'.take f ++ [z.1], z.2)) (by
    have := item_make M' (xk, (ca, cb, cc), xs) P' (by show needsI xk ≤ _; rw [hq, hP.out]; exact hqn) hX
    rw [show P'.length - needsI ((xk, (ca, cb, cc), xs) : TI).1 = f from by show P'.length - needsI xk = f; rw [hP.out, hq, hf]] at this
    exact this)
   have hfr2 : (n' : Int) - (q : Int) = (f : Int) := by omega
   have hfr0 : (0 : Int) ≤ (f : Int) := by omega
   have hfr3 : (f : Int) ≤ (n' : Int) := by omega
   have hcpn : n' ≤ pc' ∧ pc' ≤ maxLen := by
    rcases hR.out.own.2 with ⟨e0, _⟩ | ⟨g', c', cur, e, _, _, hc', hm', _⟩
    · cases e0
    · cases e; exact ⟨hc', hm'⟩
   have hfc3 : (f : Int) ≤ (pc' : Int) := by omega
   have hpc3 : (n' : Int) ≤ (pc' : Int) := by omega
   have hpf : (n' : Int) - (f : Int) = (q : Int) := by omega
   have hfp : f ≤ n' := by omega
   have hpm : (n' : Int) ≤ 9223372036854775807 := by have := hcpn.2; unfold maxLen at this; omega
   have HQP := hid hqp
   have HJ := hid j1
   have HJ3 := hid j3
   have HCM := hid hcm
   have HX := hid hX
   have HQ := hid hq
   obtain ⟨V, hV⟩ : ∃ V, V = wr.alloc (.cells #[.int .i64 xk, .int .i64 ca, .int .i64 cb, .string cc, .string xs] 97) := ⟨_, rfl⟩
   have hbV : Below wr.heap.size wr V := by rw [hV]; exact (Below.refl _ _).alloc (Nat.le_refl _) _
   have hxb : V.heap[wr.heap.size]? = some (.cells #[.int .i64 xk, .int .i64 ca, .int .i64 cb, .string cc, .string xs] 97) := by rw [hV]; exact _root_.Go.heap_alloc_new wr _
   have HXB := hid hxb
   obtain ⟨x0, x1, x2, x3, x4⟩ := cells5 hxb
   have HBV := hid hbV
   go_wp2_with fail
   rw [← hV]
   clear hV hbV hxb c0 c1 c2 c3 c4 hcm hX j1 j2 j3 j4 q1 q2 q3 q4 em hpn hq hqp hcpn
   refine (needs_impl xk q HQP.out _).mono ?_
   rintro e w3 ⟨rfl, hw3⟩
   replace hw3 := hw3.symm
   subst hw3
   go_wp2_with fail
   refine wp_region_held_drew (S := (fun w' => w'.cell? ⟨wr.heap.size, 0, none⟩ = some (.int .i64 xk) ∧ w'.cell? ⟨wr.heap.size, 1, none⟩ = some (.int .i64 ca) ∧ w'.cell? ⟨wr.heap.size, 2, none⟩ = some (.int .i64 cb) ∧ w'.cell? ⟨wr.heap.size, 3, none⟩ = some (.string cc) ∧ w'.cell? ⟨wr.heap.size, 4, none⟩ = some (.string xs))) (by kernel_rfl) ⟨x0, x1, x2, x3, x4⟩ (fun hHeld => ?_)
   refine tkH 0 ?_
   simp only [Act.put, ptT, ptZ, ptS]
   refine tkH 1 ?_
   simp only [Act.put, ptT, ptZ, ptS]
   refine tkH 2 ?_
   simp only [Act.put, ptT, ptZ, ptS]
   refine tkH 3 ?_
   simp only [Act.put, ptT, ptZ, ptS]
   refine tkH 4 ?_
   simp only [Act.put, ptT, ptZ, ptS]
   have hpq : n' - f = q := by omega
   rw [hpq]
   obtain ⟨pa, hpa⟩ : ∃ pa : Option Addr, (if pc' = f then some ⟨gp, 0, none⟩ else some ⟨gp, f * 3, none⟩) = pa := ⟨_, rfl⟩
   rw [hpa]
   have hPA : 0 < q → pa = some ⟨gp, f * 3, none⟩ := fun h0 => by rw [← hpa, if_neg (by omega)]
   obtain ⟨Rz, hRz⟩ : ∃ Rz, makeO M' (xk, (ca, cb, cc), xs) (P'.drop f) = Rz := ⟨_, rfl⟩
   have HVM := hid (fun (wz : World) (hz : Below V.heap.size V wz) => makes_impl B base M' xk ca cb cc xs pa (pc' - f) q (P'.drop f) (by rw [List.length_drop, hP.out]; omega) HQ.out.symm cv uv ov' wz ((hR.out.mki.below HBV.out).below hz) HJ.out (by
    have O := own_below (own_below hR.out.own HBV.out) hz
    have el : (P'.map (regU M')).length = n' := by rw [List.length_map]; exact hP.out
    rw [List.map_drop]
    exact FuAt.drop (ownFu (l := P'.map (regU M')) (by rw [el]; exact O)) f (fun h => hPA (by rw [el] at h; omega))) HCM.out HX.out.1 HX.out.2 hcl' (by omega) (Nat.le_trans (Nat.le_trans hbw hR.out.low.size) (Nat.le_trans HBV.out.size hz.size)))
   rw [hRz] at HVM
   have HRZ := hid hRz
   clear hpa hPA hRz
   have hBr : B < wr.heap.size := Nat.lt_of_lt_of_le hBl hR.out.low.size
   have HRV := hid (hR.out.below hbw HBV.out)
   have hwV : wr.heap.size < V.heap.size := lt_of_heapN HXB.out
   refine twoH 5 9 ?_ ?_
   · skip
    intro K hK
    go_simp
    refine (HVM.out _ ((Below.refl V.heap.size V).drew)).mono ?_
    rintro e w3 hW
    have hv := hW.val
    obtain ⟨y0, y1, y2, ok, hy⟩ : ∃ y0 y1 y2 ok, wrV Rz = ((y0, y1, y2), ok) := ⟨_, _, _, _, rfl⟩
    rw [hy] at hv
    subst hv
    have HY := hid hy
    have hxk := hW.kept wr.heap.size (Nat.lt_of_lt_of_le hwV ((Below.refl V.heap.size V).drew).size) (by omega) (fun e => by have := (HRV.out.mki.ops.lt _ e).2; have := (hR.out.mki.ops.lt _ e).2; omega)
    obtain ⟨x0', x1', x2', x3', x4'⟩ := cells5 (hxk.trans ((((Below.refl V.heap.size V).drew).block _ hwV).trans HXB.out))
    obtain ⟨M3, ov3, hR3, hM3⟩ := (HRV.out.below hbw ((Below.refl V.heap.size V).drew)).call hbw hBl hW
    have HR3 := hid hR3
    have HM3 := hid hM3
    clear hW hR3 hM3 hxk hy
    go_wp2_with fail
    refine hK.out _ _ ⟨x0', x1', x2', x3', x4'⟩ (fun hHeld => ?_)
    clear hK K
    try simp only [Act.put, ptT, ptZ, ptS]
    refine tkH 6 ?_
    simp only [Act.put, ptT, ptZ, ptS]
    refine tkH 7 ?_
    simp only [Act.put, ptT, ptZ, ptS]
    refine tkH 8 ?_
    simp only [Act.put, ptT, ptZ, ptS]
    refine oneH 9 ?_
    intro K hK
    go_simp
    refine hK.out _ _ ?_ (fun hHeld => ?_)
    · (((try dsimp only); (repeat' apply And.intro) <;> first | (go_keep; done) | (simp (disch := first | omega | (simp <;> omega) | fail) [*]; done) | fail))
    clear hK K
    try simp only [Act.put, ptT, ptZ, ptS]
    refine oneH 10 ?_
    intro K hK
    go_simp
    refine hK.out _ _ ?_ (fun hHeld => ?_)
    · (((try dsimp only); (repeat' apply And.intro) <;> first | (go_keep; done) | (simp (disch := first | omega | (simp <;> omega) | fail) [*]; done) | fail))
    clear hK K
    try simp only [Act.put, ptT, ptZ, ptS]
    refine tkH 11 ?_
    simp only [Act.put, ptT, ptZ, ptS]
    refine wpAnyH_done (by kernel_rfl) ?_ _
    obtain ⟨W4, hW4⟩ : ∃ z, z = w3.alloc (.cells #[.int .i64 y0, .int .i64 y1, .bool y2] 51) := ⟨_, rfl⟩
    have HB4 := hid (p := W4.heap[w3.heap.size]? = some (.cells #[.int .i64 y0, .int .i64 y1, .bool y2] 51)) (by rw [hW4]; exact _root_.Go.heap_alloc_new w3 _)
    have HR4 := hid (p := RSt w W4 base B M3 (P'.map (regU M')) (.slice (some ⟨gp, 0, none⟩) n' pc') cv uv ov3 n') (by rw [hW4]; exact HR3.out.below hbw ((Below.refl _ _).alloc (Nat.le_refl _) _))
    have hgb : gp ≠ w3.heap.size := by have := (HR3.out.own.lt gp rfl).2; omega
    rw [← hW4]
    clear hHeld x0' x1' x2' x3' x4' hW4
    obtain ⟨t0, t1, t2⟩ : W4.cell? ⟨w3.heap.size, 0, none⟩ = some (.int .i64 y0) ∧ W4.cell? ⟨w3.heap.size, 1, none⟩ = some (.int .i64 y1) ∧ W4.cell? ⟨w3.heap.size, 2, none⟩ = some (.bool y2) := ⟨cell_of_row _ _ 0 _ _ _ HB4.out, cell_of_row _ _ 1 _ _ _ HB4.out, cell_of_row _ _ 2 _ _ _ HB4.out⟩
    cases ok
    · have hno : Rz = none := by
      have := HY.out
      cases Rz with
      | none => rfl
      | some q1 => exact absurd (show true = false from congrArg Prod.snd this) (by decide)
     subst hno
     have hM3 : M3 = M' := HM3.out
     have r0 : W4.cell? ⟨w.heap.size, 0, none⟩ = some (.int .i64 0) := cell_of_row _ _ 0 _ _ _ HR4.out.box
     have r1 : W4.cell? ⟨w.heap.size, 1, none⟩ = some (.int .i64 0) := cell_of_row _ _ 1 _ _ _ HR4.out.box
     have r2 : W4.cell? ⟨w.heap.size, 2, none⟩ = some (.bool false) := cell_of_row _ _ 2 _ _ _ HR4.out.box
     have rf : ∀ j, W4.frozen? ⟨w.heap.size, j, none⟩ = false := fun j => by simp [World.frozen?, HR4.out.box]
     have rf0 := rf 0
     have rf1 := rf 1
     have rf2 := rf 2
     have FIN := hid (p := SumOutI w base B M S cv uv (.returned (.tuple #[.agg #[.int .i64 0, .int .i64 0, .bool false], .bool false])) (((W4.setCell ⟨w.heap.size, 0, none⟩ (.int .i64 0)).setCell ⟨w.heap.size, 1, none⟩ (.int .i64 0)).setCell ⟨w.heap.size, 2, none⟩ (.bool false))) (by
      have KR := (((KeepS.refl (fun g => g = w.heap.size) W4).setCell (p := ⟨w.heap.size, 0, none⟩) rfl (.int .i64 0)).setCell (p := ⟨w.heap.size, 1, none⟩) rfl (.int .i64 0)).setCell (p := ⟨w.heap.size, 2, none⟩) rfl (.bool false)
      refine ⟨M3, ov3, zU, false, rfl, HR4.out.mki.keepBox KR HR4.out.box ⟨hbw, fun e => by have := HUV.out _ e; omega⟩, HR4.out.low.then hbw ⟨KR.os, KR.tape, KR.output, KR.size, fun i hi => KR.block i (by have := HR4.out.low.size; omega) (by omega)⟩, by rw [hM3]; exact hops, by rw [hM3]; exact HOU.out, ?_⟩
      have e : runO M S [] = none := runO_stop (HST.out none (by rw [HMKE.out, HRZ.out]; rfl))
      unfold sumO
      rw [e]
      rfl)
     clear rf t0 t1 t2
     go_wp2_with fail
     exact bodyPost_ret (v := .tuple #[.agg #[.int .i64 0, .int .i64 0, .bool false], .bool false]) (by simp [results, Tryz.results62, go_sem, r0, r1, r2]) rfl FIN.out
    · obtain ⟨q1, hq1⟩ : ∃ q1, Rz = some q1 := by
      have := HY.out
      cases Rz with
      | none => exact absurd (show false = true from congrArg Prod.snd this) (by decide)
      | some q1 => exact ⟨q1, rfl⟩
     subst hq1
     obtain ⟨rr, Mq⟩ := q1
     have hyy : (((-1 : Int), rr, trB Mq rr), true) = ((y0, y1, y2), true) := HY.out
     have hM3 : M3 = Mq := HM3.out
     subst hM3
     have h0 : (-1 : Int) = y0 := congrArg (fun z => z.1.1) hyy
     have h1 : rr = y1 := congrArg (fun z => z.1.2.1) hyy
     have h2 : trB M3 rr = y2 := congrArg (fun z => z.1.2.2) hyy
     clear hyy
     subst h0
     subst h1
     subst h2
     have HIT := hid (p := itemO M' (xk, (ca, cb, cc), xs) P' = some (P'.take f ++ [rr], M3)) (by rw [HMKE.out, HRZ.out]; rfl)
     have HG3 := hid (p := GrowM M' M3) (itemO_good HJ.out HJ3.out (by show needsI xk ≤ _; rw [HQ.out, hP.out]; exact hqn) HCM.out HX.out HIT.out).2.1
     have HD4 := hid ((HR4.out.below hbw ((Below.refl W4.heap.size W4).drew)).cut hfp)
     go_wp2_with fail
     refine wp_region_held_drew (S := (fun w' => w'.cell? ⟨w3.heap.size, 0, none⟩ = some (.int .i64 (-1)) ∧ w'.cell? ⟨w3.heap.size, 1, none⟩ = some (.int .i64 rr) ∧ w'.cell? ⟨w3.heap.size, 2, none⟩ = some (.bool (trB M3 rr)))) (by kernel_rfl) ⟨t0, t1, t2⟩ (fun hHeld => ?_)
     refine tkH 0 ?_
     simp only [Act.put, ptT, ptZ, ptS]
     refine tkH 1 ?_
     simp only [Act.put, ptT, ptZ, ptS]
     refine tkH 2 ?_
     simp only [Act.put, ptT, ptZ, ptS]
     refine tkH 3 ?_
     simp only [Act.put, ptT, ptZ, ptS]
     refine oneH 4 ?_
     intro K hK
     go_simp
     refine hK.out _ _ ?_ (fun hHeld => ?_)
     · (((try dsimp only); (repeat' apply And.intro) <;> first | (go_keep; done) | (simp (disch := first | omega | (simp <;> omega) | fail) [*]; done) | fail))
     clear hK K
     try simp only [Act.put, ptT, ptZ, ptS]
     refine oneH 5 ?_
     intro K hK
     rw [if_pos (by rfl)]
     refine wp_append_own _ _ _ 27 rfl (w.heap.size + 1) 51 i0 (.agg #[.int .i64 0, .int .i64 0, .bool false]) 3 24 Tryz.underlying27 hti hz0 hz1 hz2 rfl (by decide) (.slice (some ⟨gp, 0, none⟩) f pc') f (flatFu ((P'.map (regU M')).take f)) rfl (HD4.out.own.alloc _) ⟨W4.heap.size, 0, none⟩ 1 1 [.int .i64 (-1), .int .i64 rr, .bool (trB M3 rr)] rfl rfl (cells3N15 W4.drew _ _ _ _) (by intro u hu; simp at hu; rcases hu with rfl | rfl | rfl <;> rfl) (by unfold maxLen; omega) (by omega) (by have := HR4.out.low.size; have := lt_of_heapN HR4.out.box; simp; omega) ?_
     intro v5 w5 own5 hgrow hnn
     have HR5 := hid (HD4.out.push (u := (-1, rr, trB M3 rr)) hbw HUV.out hgrow own5)
     have hbo5 : w5.heap[w3.heap.size]? = some (.cells #[.int .i64 (-1), .int .i64 rr, .bool (trB M3 rr)] 51) := (hgrow.block _ (by have := lt_of_heapN HB4.out; simp; omega) (fun e => hgb (Option.some.inj e).symm)).trans ((((Below.refl W4.heap.size W4).drew.alloc (Nat.le_refl _) _).block _ (lt_of_heapN HB4.out)).trans HB4.out)
     obtain ⟨t0', t1', t2'⟩ : w5.cell? ⟨w3.heap.size, 0, none⟩ = some (.int .i64 (-1)) ∧ w5.cell? ⟨w3.heap.size, 1, none⟩ = some (.int .i64 rr) ∧ w5.cell? ⟨w3.heap.size, 2, none⟩ = some (.bool (trB M3 rr)) := ⟨cell_of_row _ _ 0 _ _ _ hbo5, cell_of_row _ _ 1 _ _ _ hbo5, cell_of_row _ _ 2 _ _ _ hbo5⟩
     refine hK.out _ _ ⟨t0', t1', t2'⟩ (fun hHeld => ?_)
     clear hK K hgrow hnn own5 hbo5
     try simp only [Act.put, ptT, ptZ, ptS]
     refine tkH 6 ?_
     simp only [Act.put, ptT, ptZ, ptS]
     refine wpAnyH_done (by kernel_rfl) ?_ _
     have HL5 := hid (p := RSt w w5 base B M3 ((P'.take f ++ [rr]).map (regU M3)) v5 cv uv ov3 (f + 1)) (by
      have h := HR5.out
      rw [regs_map HJ3.out HG3.out, ← List.map_take] at h
      rw [List.map_append]
      exact h)
     clear HR5 hHeld t0 t1 t2 t0' t1' t2'
     rcases HL5.out.own.2 with ⟨_, e0⟩ | ⟨g5, c5, cur5, rfl, _⟩
     · omega
     have HST5 := hid (HST.out _ HIT.out)
     have HP5 := hid (p := (P'.take f ++ [rr]).length = f + 1) (by rw [List.length_append, List.length_take, hP.out]; simp; omega)
     go_wp2
     go_roundw
     case rel => exact ⟨k + 1, f + 1, c5, g5, M3, ov3, P'.take f ++ [rr], by omega, by go_num, rfl, HL5, HP5, HST5⟩
     case measure => simp [intOf]; omega
   · skip
    intro K hK
    go_simp
    refine hK.out _ _ ?_ (fun hHeld => ?_)
    · (((try dsimp only); (repeat' apply And.intro) <;> first | (go_keep; done) | (simp (disch := first | omega | (simp <;> omega) | fail) [*]; done) | fail))
    clear hK K
    try simp only [Act.put, ptT, ptZ, ptS]
    refine oneH 5 ?_
    intro K hK
    go_simp
    refine (HVM.out _ ((Below.refl V.heap.size V).alloc (Nat.le_refl _) (.cells #[.int .i64 0, .int .i64 0, .bool false] 51)).drew).mono ?_
    rintro e w3 hW
    have hv := hW.val
    obtain ⟨y0, y1, y2, ok, hy⟩ : ∃ y0 y1 y2 ok, wrV Rz = ((y0, y1, y2), ok) := ⟨_, _, _, _, rfl⟩
    rw [hy] at hv
    subst hv
    have HY := hid hy
    have hxk := hW.kept wr.heap.size (Nat.lt_of_lt_of_le hwV ((Below.refl V.heap.size V).alloc (Nat.le_refl _) (.cells #[.int .i64 0, .int .i64 0, .bool false] 51)).drew.size) (by omega) (fun e => by have := (HRV.out.mki.ops.lt _ e).2; have := (hR.out.mki.ops.lt _ e).2; omega)
    obtain ⟨x0', x1', x2', x3', x4'⟩ := cells5 (hxk.trans ((((Below.refl V.heap.size V).alloc (Nat.le_refl _) (.cells #[.int .i64 0, .int .i64 0, .bool false] 51)).drew.block _ hwV).trans HXB.out))
    obtain ⟨M3, ov3, hR3, hM3⟩ := (HRV.out.below hbw ((Below.refl V.heap.size V).alloc (Nat.le_refl _) (.cells #[.int .i64 0, .int .i64 0, .bool false] 51)).drew).call hbw hBl hW
    have HR3 := hid hR3
    have HM3 := hid hM3
    have hbk := hW.kept V.heap.size (by simp) (by omega) (fun e => by have := (HRV.out.mki.ops.lt _ e).2; omega)
    clear hW hR3 hM3 hxk hy
    go_wp2_with fail
    refine hK.out _ _ ⟨x0', x1', x2', x3', x4'⟩ (fun hHeld => ?_)
    clear hK K
    try simp only [Act.put, ptT, ptZ, ptS]
    refine tkH 6 ?_
    simp only [Act.put, ptT, ptZ, ptS]
    refine tkH 7 ?_
    simp only [Act.put, ptT, ptZ, ptS]
    refine tkH 8 ?_
    simp only [Act.put, ptT, ptZ, ptS]
    refine oneH 10 ?_
    intro K hK
    have hbk2 := hbk.trans (_root_.Go.heap_alloc_new V (.cells #[.int .i64 0, .int .i64 0, .bool false] 51))
    have u0 : w3.cell? ⟨V.heap.size, 0, none⟩ = some (.int .i64 0) := cell_of_row _ _ 0 _ _ _ hbk2
    have u1 : w3.cell? ⟨V.heap.size, 1, none⟩ = some (.int .i64 0) := cell_of_row _ _ 1 _ _ _ hbk2
    have u2 : w3.cell? ⟨V.heap.size, 2, none⟩ = some (.bool false) := cell_of_row _ _ 2 _ _ _ hbk2
    have uf : ∀ j, w3.frozen? ⟨V.heap.size, j, none⟩ = false := fun j => by simp [World.frozen?, hbk2]
    have uf0 := uf 0
    have uf1 := uf 1
    have uf2 := uf 2
    have HBK := hid hbk2
    clear hbk hbk2 uf
    go_simp
    refine hK.out _ _ ?_ (fun hHeld => ?_)
    · (((try dsimp only); (repeat' apply And.intro) <;> first | (go_keep; done) | (simp (disch := first | omega | (simp <;> omega) | fail) [*]; done) | fail))
    clear hK K u0 u1 u2 uf0 uf1 uf2
    try simp only [Act.put, ptT, ptZ, ptS]
    refine tkH 11 ?_
    simp only [Act.put, ptT, ptZ, ptS]
    refine wpAnyH_done (by kernel_rfl) ?_ _
    have hgl := (hR.out.own.lt gp rfl).2
    have hgb : gp ≠ V.heap.size := by omega
    obtain ⟨W4, hW4⟩ : ∃ z, z = ((w3.setCell ⟨V.heap.size, 0, none⟩ (.int .i64 y0)).setCell ⟨V.heap.size, 1, none⟩ (.int .i64 y1)).setCell ⟨V.heap.size, 2, none⟩ (.bool y2) := ⟨_, rfl⟩
    have HB4 := hid (p := W4.heap[V.heap.size]? = some (.cells #[.int .i64 y0, .int .i64 y1, .bool y2] 51)) (by rw [hW4]; exact block_setCell (i := 2) (block_setCell (i := 1) (block_setCell (i := 0) HBK.out _) _) _)
    have HR4 := hid (p := RSt w W4 base B M3 (P'.map (regU M')) (.slice (some ⟨gp, 0, none⟩) n' pc') cv uv ov3 n') (by
     rw [hW4]
     have hws := HRV.out.low.size
     have hwl := lt_of_heapN HRV.out.box
     exact HR3.out.keepBox hbw ((((KeepS.refl (fun g => g = V.heap.size) w3).setCell (p := ⟨V.heap.size, 0, none⟩) rfl (.int .i64 y0)).setCell (p := ⟨V.heap.size, 1, none⟩) rfl (.int .i64 y1)).setCell (p := ⟨V.heap.size, 2, none⟩) rfl (.bool y2)) HBK.out hwl (fun e => hgb (Option.some.inj e)) (fun e => by have := HUV.out _ e; omega))
    rw [← hW4]
    clear hHeld x0' x1' x2' x3' x4' hW4
    obtain ⟨t0, t1, t2⟩ : W4.cell? ⟨V.heap.size, 0, none⟩ = some (.int .i64 y0) ∧ W4.cell? ⟨V.heap.size, 1, none⟩ = some (.int .i64 y1) ∧ W4.cell? ⟨V.heap.size, 2, none⟩ = some (.bool y2) := ⟨cell_of_row _ _ 0 _ _ _ HB4.out, cell_of_row _ _ 1 _ _ _ HB4.out, cell_of_row _ _ 2 _ _ _ HB4.out⟩
    cases ok
    · have hno : Rz = none := by
      have := HY.out
      cases Rz with
      | none => rfl
      | some q1 => exact absurd (show true = false from congrArg Prod.snd this) (by decide)
     subst hno
     have hM3 : M3 = M' := HM3.out
     have r0 : W4.cell? ⟨w.heap.size, 0, none⟩ = some (.int .i64 0) := cell_of_row _ _ 0 _ _ _ HR4.out.box
     have r1 : W4.cell? ⟨w.heap.size, 1, none⟩ = some (.int .i64 0) := cell_of_row _ _ 1 _ _ _ HR4.out.box
     have r2 : W4.cell? ⟨w.heap.size, 2, none⟩ = some (.bool false) := cell_of_row _ _ 2 _ _ _ HR4.out.box
     have rf : ∀ j, W4.frozen? ⟨w.heap.size, j, none⟩ = false := fun j => by simp [World.frozen?, HR4.out.box]
     have rf0 := rf 0
     have rf1 := rf 1
     have rf2 := rf 2
     have FIN := hid (p := SumOutI w base B M S cv uv (.returned (.tuple #[.agg #[.int .i64 0, .int .i64 0, .bool false], .bool false])) (((W4.setCell ⟨w.heap.size, 0, none⟩ (.int .i64 0)).setCell ⟨w.heap.size, 1, none⟩ (.int .i64 0)).setCell ⟨w.heap.size, 2, none⟩ (.bool false))) (by
      have KR := (((KeepS.refl (fun g => g = w.heap.size) W4).setCell (p := ⟨w.heap.size, 0, none⟩) rfl (.int .i64 0)).setCell (p := ⟨w.heap.size, 1, none⟩) rfl (.int .i64 0)).setCell (p := ⟨w.heap.size, 2, none⟩) rfl (.bool false)
      refine ⟨M3, ov3, zU, false, rfl, HR4.out.mki.keepBox KR HR4.out.box ⟨hbw, fun e => by have := HUV.out _ e; omega⟩, HR4.out.low.then hbw ⟨KR.os, KR.tape, KR.output, KR.size, fun i hi => KR.block i (by have := HR4.out.low.size; omega) (by omega)⟩, by rw [hM3]; exact hops, by rw [hM3]; exact HOU.out, ?_⟩
      have e : runO M S [] = none := runO_stop (HST.out none (by rw [HMKE.out, HRZ.out]; rfl))
      unfold sumO
      rw [e]
      rfl)
     clear rf t0 t1 t2
     go_wp2_with fail
     exact bodyPost_ret (v := .tuple #[.agg #[.int .i64 0, .int .i64 0, .bool false], .bool false]) (by simp [results, Tryz.results62, go_sem, r0, r1, r2]) rfl FIN.out
    · obtain ⟨q1, hq1⟩ : ∃ q1, Rz = some q1 := by
      have := HY.out
      cases Rz with
      | none => exact absurd (show false = true from congrArg Prod.snd this) (by decide)
      | some q1 => exact ⟨q1, rfl⟩
     subst hq1
     obtain ⟨rr, Mq⟩ := q1
     have hyy : (((-1 : Int), rr, trB Mq rr), true) = ((y0, y1, y2), true) := HY.out
     have hM3 : M3 = Mq := HM3.out
     subst hM3
     have h0 : (-1 : Int) = y0 := congrArg (fun z => z.1.1) hyy
     have h1 : rr = y1 := congrArg (fun z => z.1.2.1) hyy
     have h2 : trB M3 rr = y2 := congrArg (fun z => z.1.2.2) hyy
     clear hyy
     subst h0
     subst h1
     subst h2
     have HIT := hid (p := itemO M' (xk, (ca, cb, cc), xs) P' = some (P'.take f ++ [rr], M3)) (by rw [HMKE.out, HRZ.out]; rfl)
     have HG3 := hid (p := GrowM M' M3) (itemO_good HJ.out HJ3.out (by show needsI xk ≤ _; rw [HQ.out, hP.out]; exact hqn) HCM.out HX.out HIT.out).2.1
     have HD4 := hid ((HR4.out.below hbw ((Below.refl W4.heap.size W4).drew)).cut hfp)
     go_wp2_with fail
     refine wp_region_held_drew (S := (fun w' => w'.cell? ⟨V.heap.size, 0, none⟩ = some (.int .i64 (-1)) ∧ w'.cell? ⟨V.heap.size, 1, none⟩ = some (.int .i64 rr) ∧ w'.cell? ⟨V.heap.size, 2, none⟩ = some (.bool (trB M3 rr)))) (by kernel_rfl) ⟨t0, t1, t2⟩ (fun hHeld => ?_)
     refine tkH 0 ?_
     simp only [Act.put, ptT, ptZ, ptS]
     refine tkH 1 ?_
     simp only [Act.put, ptT, ptZ, ptS]
     refine tkH 2 ?_
     simp only [Act.put, ptT, ptZ, ptS]
     refine tkH 3 ?_
     simp only [Act.put, ptT, ptZ, ptS]
     refine oneH 4 ?_
     intro K hK
     go_simp
     refine hK.out _ _ ?_ (fun hHeld => ?_)
     · (((try dsimp only); (repeat' apply And.intro) <;> first | (go_keep; done) | (simp (disch := first | omega | (simp <;> omega) | fail) [*]; done) | fail))
     clear hK K
     try simp only [Act.put, ptT, ptZ, ptS]
     refine oneH 5 ?_
     intro K hK
     rw [if_pos (by rfl)]
     refine wp_append_own _ _ _ 27 rfl (w.heap.size + 1) 51 i0 (.agg #[.int .i64 0, .int .i64 0, .bool false]) 3 24 Tryz.underlying27 hti hz0 hz1 hz2 rfl (by decide) (.slice (some ⟨gp, 0, none⟩) f pc') f (flatFu ((P'.map (regU M')).take f)) rfl (HD4.out.own.alloc _) ⟨W4.heap.size, 0, none⟩ 1 1 [.int .i64 (-1), .int .i64 rr, .bool (trB M3 rr)] rfl rfl (cells3N15 W4.drew _ _ _ _) (by intro u hu; simp at hu; rcases hu with rfl | rfl | rfl <;> rfl) (by unfold maxLen; omega) (by omega) (by have := HR4.out.low.size; have := lt_of_heapN HR4.out.box; simp; omega) ?_
     intro v5 w5 own5 hgrow hnn
     have HR5 := hid (HD4.out.push (u := (-1, rr, trB M3 rr)) hbw HUV.out hgrow own5)
     have hbo5 : w5.heap[V.heap.size]? = some (.cells #[.int .i64 (-1), .int .i64 rr, .bool (trB M3 rr)] 51) := (hgrow.block _ (by have := lt_of_heapN HB4.out; simp; omega) (fun e => hgb (Option.some.inj e).symm)).trans ((((Below.refl W4.heap.size W4).drew.alloc (Nat.le_refl _) _).block _ (lt_of_heapN HB4.out)).trans HB4.out)
     obtain ⟨t0', t1', t2'⟩ : w5.cell? ⟨V.heap.size, 0, none⟩ = some (.int .i64 (-1)) ∧ w5.cell? ⟨V.heap.size, 1, none⟩ = some (.int .i64 rr) ∧ w5.cell? ⟨V.heap.size, 2, none⟩ = some (.bool (trB M3 rr)) := ⟨cell_of_row _ _ 0 _ _ _ hbo5, cell_of_row _ _ 1 _ _ _ hbo5, cell_of_row _ _ 2 _ _ _ hbo5⟩
     refine hK.out _ _ ⟨t0', t1', t2'⟩ (fun hHeld => ?_)
     clear hK K hgrow hnn own5 hbo5
     try simp only [Act.put, ptT, ptZ, ptS]
     refine tkH 6 ?_
     simp only [Act.put, ptT, ptZ, ptS]
     refine wpAnyH_done (by kernel_rfl) ?_ _
     have HL5 := hid (p := RSt w w5 base B M3 ((P'.take f ++ [rr]).map (regU M3)) v5 cv uv ov3 (f + 1)) (by
      have h := HR5.out
      rw [regs_map HJ3.out HG3.out, ← List.map_take] at h
      rw [List.map_append]
      exact h)
     clear HR5 hHeld t0 t1 t2 t0' t1' t2'
     rcases HL5.out.own.2 with ⟨_, e0⟩ | ⟨g5, c5, cur5, rfl, _⟩
     · omega
     have HST5 := hid (HST.out _ HIT.out)
     have HP5 := hid (p := (P'.take f ++ [rr]).length = f + 1) (by rw [List.length_append, List.length_take, hP.out]; simp; omega)
     go_wp2
     go_roundw
     case rel => exact ⟨k + 1, f + 1, c5, g5, M3, ov3, P'.take f ++ [rr], by omega, by go_num, rfl, HL5, HP5, HST5⟩
     case measure => simp [intOf]; omega
  · have hkl : k = n := by omega
   subst hkl
   have hnn : ¬ (k : Int) < (k : Int) := by omega
   have htk : S.take k = S := List.take_of_length_le (by rw [HN.out]; exact Nat.le_refl _)
   obtain ⟨j1, j2, _, j4⟩ := runO_good HG.out HS.out.1 HC.out k (P', M') (by rw [HN.out]; omega) hst.out
   have hyes := hst.out
   rw [htk] at j4 hyes
   have hl1 : P'.length = 1 := Option.some.inj (j4.symm.trans HS.out.1)
   have hn1 : n' = 1 := by rw [← hP.out]; exact hl1
   subst hn1
   obtain ⟨r, rfl⟩ : ∃ r, P' = [r] := List.length_eq_one_iff.1 hl1
   have hO := hR.out.own
   have t0 : wr.cell? ⟨gp, 0, none⟩ = some (.int .i64 (-1)) := hO.cellAt 0 (by omega)
   have t1 : wr.cell? ⟨gp, 1, none⟩ = some (.int .i64 r) := hO.cellAt 1 (by omega)
   have t2 : wr.cell? ⟨gp, 2, none⟩ = some (.bool (trB M' r)) := hO.cellAt 2 (by omega)
   have r0 : wr.cell? ⟨w.heap.size, 0, none⟩ = some (.int .i64 0) := cell_of_row _ _ 0 _ _ _ hR.out.box
   have r1 : wr.cell? ⟨w.heap.size, 1, none⟩ = some (.int .i64 0) := cell_of_row _ _ 1 _ _ _ hR.out.box
   have r2 : wr.cell? ⟨w.heap.size, 2, none⟩ = some (.bool false) := cell_of_row _ _ 2 _ _ _ hR.out.box
   have rf : ∀ j, wr.frozen? ⟨w.heap.size, j, none⟩ = false := fun j => by simp [World.frozen?, hR.out.box]
   have rf0 := rf 0
   have rf1 := rf 1
   have rf2 := rf 2
   have FIN := hid (p := SumOutI w base B M S cv uv (.returned (.tuple #[.agg #[.int .i64 (-1), .int .i64 r, .bool (trB M' r)], .bool true])) (((wr.setCell ⟨w.heap.size, 0, none⟩ (.int .i64 (-1))).setCell ⟨w.heap.size, 1, none⟩ (.int .i64 r)).setCell ⟨w.heap.size, 2, none⟩ (.bool (trB M' r)))) (by
    have KR := (((KeepS.refl (fun g => g = w.heap.size) wr).setCell (p := ⟨w.heap.size, 0, none⟩) rfl (.int .i64 (-1))).setCell (p := ⟨w.heap.size, 1, none⟩) rfl (.int .i64 r)).setCell (p := ⟨w.heap.size, 2, none⟩) rfl (.bool (trB M' r))
    refine ⟨M', ov', ((-1 : Int), r, trB M' r), true, rfl, hR.out.mki.keepBox KR hR.out.box ⟨hbw, fun e => by have := HUV.out _ e; omega⟩, hR.out.low.then hbw ⟨KR.os, KR.tape, KR.output, KR.size, fun i hi => KR.block i (by have := hR.out.low.size; omega) (by omega)⟩, ?_, j2.outs, ?_⟩
    · have e1 : M'.ops.length + M.tr.length = M.ops.length + M'.tr.length := j2.ops
     have e2 : M'.tr.length ≤ 30 := j1.tr
     omega
    · unfold sumO
     rw [hyes]
     exact ⟨rfl, rfl, rfl⟩)
   have hgne : gp ≠ w.heap.size := by have := (hO.lt gp rfl).1; omega
   clear rf j1 j2 j4 hyes hl1 htk hO
   go_wp2_with fail
   exact bodyPost_ret (v := .tuple #[.agg #[.int .i64 (-1), .int .i64 r, .bool (trB M' r)], .bool true]) (by simp [results, Tryz.results62, go_sem, r0, r1, r2]) rfl FIN.out
end Go.Proofs.YtjjkdbmjloolaaaGreatDoor
