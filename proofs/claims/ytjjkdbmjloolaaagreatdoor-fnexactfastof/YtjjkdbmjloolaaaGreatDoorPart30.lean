/-
  A part of the proof: PutI, ShI5, Draw1, Draw2, Draw3, Draw4, Draw5, RowDraw, RowDraw2, RowsDraw.
-/
import Derived.Test.YtjjkdbmjloolaaaGreatDoorPart1
import Derived.Test.YtjjkdbmjloolaaaGreatDoorPart29
import Derived.Test.YtjjkdbmjloolaaaGreatDoorPart26
import Derived.Maps.AppendAt
import Derived.Test.YtjjkdbmjloolaaaGreatDoorPart28
import Derived.Test.YtjjkdbmjloolaaaGreatDoorPart2
import Derived.Deep.RegionHeld3
import Derived.Test.YtjjkdbmjloolaaaGreatDoorPart8

namespace Go.Proofs.YtjjkdbmjloolaaaGreatDoor
open Go.ChangeShapes Go.WideShapes Go.ChangeAt Go.RowKit
attribute [local go_sem ↓] Go.wp_at_zero Go.wp_at_succ
attribute [local simp] World.cell?_alloc_past World.cell?_alloc_at World.frozen?_alloc_at cell_far cell_off cell_here World.frozen?_alloc_past
def HK (w : World) (ra : Option Addr) (L : List (List CT)) (A : Nat → Option Addr) (K : Nat → Nat) : Prop :=
 ∀ i, (hi : i < L.length) → ∃ b o, ra = some ⟨b, o, none⟩ ∧ b < w.heap.size ∧ w.cell? ⟨b, o + i, none⟩ = some (.slice (A i) L[i].length (K i)) ∧ RowAt w (A i) L[i] ∧ Fit L[i] ∧ L[i].length ≤ maxLen ∧ (A i = none → K i = 0)
theorem HK.below {w w' : World} {ra : Option Addr} {L : List (List CT)} {A : Nat → Option Addr} {K : Nat → Nat} (h : HK w ra L A K) (hb : Below w.heap.size w w') : HK w' ra L A K := by
 intro i hi
 obtain ⟨b, o, e, hlt, h0, h1, h2, h3, h4⟩ := h i hi
 exact ⟨b, o, e, Nat.lt_of_lt_of_le hlt hb.size, by rw [hb.cell (p := ⟨b, _, none⟩) hlt]; exact h0, h1.below hb, h2, h3, h4⟩
theorem wp_make_own' {P : Program} (w : World) {o : Oper} {a : Act} {K : Act → World → Prop} {Q : Exit → Act → World → Prop} (l c : Operand) (t : TypeId) (hop : o.op = Op.makeSlice t l c)
  (base : Nat) (e : TypeId) (i : TypeInfo) (z : Value) (size : Nat) (h1 : P.underlying t = some (.slice e)) (h2 : P.info? e = some i) (h3 : i.zero = some z) (h4 : i.size = size)
  (kl kc : IntKind) (C : Int) (n : Nat) (hl : a.eval l = .int kl 0) (hc : a.eval c = .int kc C) (hC : C = (n : Int)) (b2 : i.bytes * n ≤ 281474976710656) (b3 : n ≤ maxLen) (b4 : base ≤ w.heap.size)
  (hK : ∀ w', w'.ownsRow base e size (.slice (some ⟨w.heap.size, 0, none⟩) 0 n) 0 [] → w.grownBy w' none → K (a.put o.dst (.slice (some ⟨w.heap.size, 0, none⟩) 0 n)) w') : o.wp P a w K Q := by
 obtain ⟨w', hrun, r1, r2⟩ := run_make_own (P := P) w base t e i z size h1 h2 h3 h4 kl kc n b2 b3 b4
 subst hC
 unfold Oper.wp
 simp [execOp, hop, hl, hc, hrun, Result.andThen]
 exact hK w' r1 r2
theorem wp_append_none' {P : Program} {w : World} {o : Oper} {a : Act} {K : Act → World → Prop} {Q : Exit → Act → World → Prop} (s x : Operand) (t : TypeId) (ho : o.op = .call { callee := .builtin .append, args := #[s, x], argTypes := #[t, t] })
  (base : Nat) (e : TypeId) (i : TypeInfo) (size : Nat) (ht : P.underlying t = some (.slice e)) (hi : P.info? e = some i)
  (v : Value) (n : Nat) (xs : List Value) (hs : a.eval s = v) (hown : w.ownsRow base e size v n xs) (hx : a.eval x = .slice none 0 0) (h : K (a.put o.dst v) w) : o.wp P a w K Q := by
 have hrun := run_append_owned_none (P := P) (w := w) base t o.type e i size ht hi v n xs hown
 unfold Oper.wp
 simp [execOp, ho, resolve, invoke, builtin, hs, hx, hrun, Result.andThen]
 exact h
theorem infoTxI : (Tryz.prog.info? 9).map (fun i => (i.zero, i.size, i.bytes)) = some (some (.string ⟨#[]⟩), 1, 16) := by kernel_rfl
theorem copied_rowsN (a : Option Addr) (cap : Nat) (L : List (List CT)) (n : Nat) (hn : L.length = n) (w : World) (hrow : RowsAt w a L) (hm : n ≤ 1048576) (hms : ∀ i (h : i < L.length), L[i].length ≤ 1048576) :
  Calls Tryz.prog 171 #[.slice a n cap] w fun e w' => ∃ v G C, e = .returned v ∧ OwnRows w' w.heap.size v L G C ∧ Below w.heap.size w w' ∧ v ≠ .slice none 0 0 := by
 subst hn; exact copied_rows a cap L w hrow hm hms
set_option maxRecDepth 100000 in
set_option maxHeartbeats 4000000 in
theorem copied_table (ca : Option Addr) (cc : Nat) (ra : Option Addr) (cr : Nat) (t : TB) (nc nr : Nat) (hnc : t.2.1.length = nc) (hnr : t.2.2.length = nr) (w : World) (ht : TabAt w ca cc ra t) (hc1 : nc ≤ 1048576) (hr1 : nr ≤ 1048576) (hms : ∀ i (h : i < t.2.2.length), t.2.2[i].length ≤ 1048576) :
  Calls Tryz.prog 156 #[.agg #[.string t.1, .slice ca nc cc, .slice ra nr cr]] w fun e w' => ∃ g c g2 c2 A D, e = .returned (.agg #[.string t.1, .slice (some ⟨g, 0, none⟩) nc c, .slice (some ⟨g2, 0, none⟩) nr c2]) ∧ OutTab w' w.heap.size (some ⟨g, 0, none⟩) c (some ⟨g2, 0, none⟩) t A D ∧ Below w.heap.size w w' ∧ nr ≤ c2 := by
 obtain ⟨i0, hi, hz0, hz1, hz2⟩ := info_parts infoTxI
 obtain ⟨nm, C, L⟩ := t
 dsimp only at hnc hnr hms ⊢
 have HT := hid ht
 have HNC := hid hnc
 have HNR := hid hnr
 have HMS := hid hms
 have hnil := ht.nilC
 clear ht hnc hnr hms
 cases ca with
 | none =>
  have hl : C = [] := by
   cases C with
   | nil => rfl
   | cons x l => obtain ⟨b, o, e, _⟩ := HT.out.cols 0 (by simp); cases e
  subst hl
  have hc := hnil rfl
  subst hc
  have h0 : nc = 0 := HNC.out.symm
  subst h0
  go_enter Tryz.func156, Tryz.ntmps156
  go_wp2_with fail
  obtain ⟨W, hW⟩ : ∃ W, W = ((w.alloc (.cells #[.string nm, .slice none 0 0, .slice ra nr cr] 117)).alloc (.cells #[.string ⟨#[]⟩, .slice none 0 0, .slice none 0 0] 117)) := ⟨_, rfl⟩
  rw [← hW]
  have hA : Below w.heap.size w W := by rw [hW]; exact ((Below.refl _ _).alloc (Nat.le_refl _) _).alloc (by simp) _
  have hWs : W.heap.size = w.heap.size + 1 + 1 := by rw [hW]; simp
  have p0 : W.cell? ⟨w.heap.size, 0, none⟩ = some (.string nm) := by rw [hW]; simp
  have p1 : W.cell? ⟨w.heap.size, 1, none⟩ = some (.slice none 0 0) := by rw [hW]; simp
  have p2 : W.cell? ⟨w.heap.size, 2, none⟩ = some (.slice ra nr cr) := by rw [hW]; simp
  have dd : Hid ((W.cell? ⟨w.heap.size + 1, 0, none⟩ = some (.string ⟨#[]⟩) ∧ W.cell? ⟨w.heap.size + 1, 1, none⟩ = some (.slice none 0 0) ∧ W.cell? ⟨w.heap.size + 1, 2, none⟩ = some (.slice none 0 0)) ∧ W.frozen? ⟨w.heap.size + 1, 0, none⟩ = false ∧ W.frozen? ⟨w.heap.size + 1, 1, none⟩ = false ∧ W.frozen? ⟨w.heap.size + 1, 2, none⟩ = false) := by
   have : (W.cell? ⟨w.heap.size + 1, 0, none⟩ = some (.string ⟨#[]⟩) ∧ W.cell? ⟨w.heap.size + 1, 1, none⟩ = some (.slice none 0 0) ∧ W.cell? ⟨w.heap.size + 1, 2, none⟩ = some (.slice none 0 0)) ∧ W.frozen? ⟨w.heap.size + 1, 0, none⟩ = false ∧ W.frozen? ⟨w.heap.size + 1, 1, none⟩ = false ∧ W.frozen? ⟨w.heap.size + 1, 2, none⟩ = false := by
    rw [hW]; refine ⟨⟨?_, ?_, ?_⟩, ?_, ?_, ?_⟩ <;> simp
   exact this
  have HWS := hid hWs
  have hlw : w.heap.size + 1 < W.heap.size := by omega
  clear hW hWs
  refine wp_region_held_drew (S := (fun w' => w'.cell? ⟨w.heap.size, 1, none⟩ = some (.slice none 0 0))) (by kernel_rfl) ?_ (fun hHeld => ?_)
  · (((try dsimp only); (repeat' apply And.intro) <;> first | (go_keep; done) | (simp (disch := first | omega | (simp <;> omega) | fail) [*]; done) | fail))
  refine tkH 0 ?_
  simp only [Act.put, ptT, ptZ, ptS]
  refine tkH 1 ?_
  simp only [Act.put, ptT, ptZ, ptS]
  refine tkH 2 ?_
  simp only [Act.put, ptT, ptZ, ptS]
  refine tkH 4 ?_
  simp only [Act.put, ptT, ptZ, ptS]
  refine tkH 5 ?_
  simp only [Act.put, ptT, ptZ, ptS]
  refine oneH 3 ?_
  intro K hK
  rw [if_pos (by rfl)]
  refine wp_make_own' _ _ _ 22 rfl W.heap.size 9 i0 (.string ⟨#[]⟩) 1 Tryz.underlying22 hi hz0 hz1 .i64 .i64 _ 0 rfl rfl rfl (by rw [hz2]; omega) (by unfold maxLen; omega) (Nat.le_refl _) ?_
  intro w1 hown hgrow
  have hb1 : Below W.heap.size W w1 := ((Below.refl _ _).drew).grown hgrow (Nat.le_refl _) (by intro k h; cases h)
  have O1 := hid hown
  have hs1 := hb1.size
  have k1 : w1.cell? ⟨w.heap.size, 1, none⟩ = some (.slice none 0 0) := by rw [hb1.cell (p := ⟨w.heap.size, 1, none⟩) (by show w.heap.size < _; omega)]; exact p1
  clear hown hgrow
  refine hK.out _ _ k1 (fun hHeld => ?_)
  clear hK K
  try simp only [Act.put, ptT, ptZ, ptS]
  refine oneH 6 ?_
  intro K hK
  rw [if_pos (by rfl)]
  refine wp_append_none' _ _ 22 rfl W.heap.size 9 i0 1 Tryz.underlying22 hi (.slice (some ⟨W.heap.size, 0, none⟩) 0 0) 0 [] rfl O1.out rfl ?_
  refine hK.out _ _ k1 (fun hHeld => ?_)
  clear hK K
  try simp only [Act.put, ptT, ptZ, ptS]
  refine tkH 7 ?_
  simp only [Act.put, ptT, ptZ, ptS]
  refine wpAnyH_done (by kernel_rfl) ?_ _
  clear hHeld
  obtain ⟨hc2, hf2⟩ := bcell hb1
  have hsz2 := (hb1).size
  have p0' : w1.cell? ⟨w.heap.size, 0, none⟩ = some (.string nm) := by rw [hc2 _ _ (by omega)]; exact p0
  have p1' : w1.cell? ⟨w.heap.size, 1, none⟩ = some (.slice none 0 0) := by rw [hc2 _ _ (by omega)]; exact p1
  have p2' : w1.cell? ⟨w.heap.size, 2, none⟩ = some (.slice ra nr cr) := by rw [hc2 _ _ (by omega)]; exact p2
  have hxw : Below w.heap.size w w1 := chain hA hb1
  clear hc2 hf2
  go_wp2_with fail
  refine wp_region_held_drew (S := (fun w' => w'.cell? ⟨w.heap.size, 0, none⟩ = some (.string nm) ∧ w'.cell? ⟨w.heap.size, 2, none⟩ = some (.slice ra nr cr))) (by kernel_rfl) ?_ (fun hHeld => ?_)
  · (((try dsimp only); (repeat' apply And.intro) <;> first | (go_keep; done) | (simp (disch := first | omega | (simp <;> omega) | fail) [*]; done) | fail))
  refine tkH 0 ?_
  simp only [Act.put, ptT, ptZ, ptS]
  refine tkH 1 ?_
  simp only [Act.put, ptT, ptZ, ptS]
  refine tkH 2 ?_
  simp only [Act.put, ptT, ptZ, ptS]
  refine tkH 3 ?_
  simp only [Act.put, ptT, ptZ, ptS]
  refine tkH 4 ?_
  simp only [Act.put, ptT, ptZ, ptS]
  refine oneH 5 ?_
  intro K hK
  go_simp
  refine (copied_rowsN ra cr L nr HNR.out _ ((HT.out.below hxw).rows.below (Below.refl _ _).drew) hr1 HMS.out).mono ?_
  rintro e wB ⟨vr, G, D, rfl, own2, hbB, hvr⟩
  obtain ⟨g2, c2, rfl⟩ : ∃ g2 c2, vr = .slice (some ⟨g2, 0, none⟩) nr c2 := by
   rcases own2.outer.2 with ⟨h', _⟩ | ⟨g2, c2, cur, h', _⟩
   · exact absurd h' hvr
   · exact ⟨g2, c2, by rw [h', HNR.out]⟩
  have hxB : Below w1.heap.size w1 wB := undrew hbB
  have hsB := hxB.size
  have hWB : Below W.heap.size W wB := hb1.trans (hxB.mono hsz2)
  obtain ⟨hca, hfa⟩ := bcell hWB
  have OT : Hid (OutTab wB W.heap.size (some ⟨W.heap.size, 0, none⟩) 0 (some ⟨g2, 0, none⟩) (nm, [], L) (fun i => some ⟨G i, 0, none⟩) D) := by
   have : OutTab wB W.heap.size (some ⟨W.heap.size, 0, none⟩) 0 (some ⟨g2, 0, none⟩) (nm, [], L) (fun i => some ⟨G i, 0, none⟩) D :=
    out_of_own (S := 9) (t := (nm, [], L)) (by decide) (by decide) (own_below O1.out hxB) (by rw [show (nm, [], L).2.2.length = nr from HNR.out]; exact own2.base hsz2) (Nat.le_refl _) HT.out.fit HT.out.name HT.out.len HT.out.lenR (fun i hi => by obtain ⟨_, _, _, _, _, _, _, _, h, _⟩ := HT.out.rows i hi; exact h) (fun i hi => by obtain ⟨_, _, _, _, _, _, _, _, _, h, _⟩ := HT.out.rows i hi; exact h)
   exact this
  obtain ⟨⟨q0, q1, q2⟩, e0, e1, e2⟩ := dd.out
  have t0 : wB.cell? ⟨w.heap.size + 1, 0, none⟩ = some (.string ⟨#[]⟩) := by rw [hca _ _ (by omega)]; exact q0
  have t1 : wB.cell? ⟨w.heap.size + 1, 1, none⟩ = some (.slice none 0 0) := by rw [hca _ _ (by omega)]; exact q1
  have t2 : wB.cell? ⟨w.heap.size + 1, 2, none⟩ = some (.slice none 0 0) := by rw [hca _ _ (by omega)]; exact q2
  have h0 : wB.frozen? ⟨w.heap.size + 1, 0, none⟩ = false := by rw [hfa _ _ (by omega)]; exact e0
  have h1 : wB.frozen? ⟨w.heap.size + 1, 1, none⟩ = false := by rw [hfa _ _ (by omega)]; exact e1
  have h2 : wB.frozen? ⟨w.heap.size + 1, 2, none⟩ = false := by rw [hfa _ _ (by omega)]; exact e2
  have s0 : wB.cell? ⟨w.heap.size, 0, none⟩ = some (.string nm) := by rw [hca _ _ (by omega)]; exact p0
  have s2 : wB.cell? ⟨w.heap.size, 2, none⟩ = some (.slice ra nr cr) := by rw [hca _ _ (by omega)]; exact p2
  have hxf : Below w.heap.size w wB := chain hA hWB
  have hcap2' : nr ≤ c2 := by have := own_cap own2.outer; rw [HNR.out] at this; exact this
  clear own2 hca hfa q0 q1 q2 e0 e1 e2
  go_wp2_with fail
  refine hK.out _ _ ⟨s0, s2⟩ (fun hHeld => ?_)
  clear hK K
  try simp only [Act.put, ptT, ptZ, ptS]
  refine tkH 6 ?_
  simp only [Act.put, ptT, ptZ, ptS]
  refine oneH 7 ?_
  intro K hK
  go_simp
  refine hK.out _ _ ?_ (fun hHeld => ?_)
  · (((try dsimp only); (repeat' apply And.intro) <;> first | (go_keep; done) | (simp (disch := first | omega | (simp <;> omega) | fail) [*]; done) | fail))
  clear hK K
  try simp only [Act.put, ptT, ptZ, ptS]
  refine wpAnyH_done (by kernel_rfl) ?_ _
  go_wp2_with fail
  have hs9 := HWS.out
  refine bodyPost_ret (v := .agg #[.string nm, .slice (some ⟨W.heap.size, 0, none⟩) 0 0, .slice (some ⟨g2, 0, none⟩) nr c2]) (by simp [results, Tryz.results156, go_sem, t0, t1, t2]) rfl ⟨_, _, g2, c2, _, _, rfl, (OT.out.set3 (w.heap.size + 1) (by omega) _ _ _ _ _ _).base (by omega), ?_, hcap2'⟩
  repeat (first | exact hxf | refine Below.setCell ?_ (by first | (simp; done) | (simp; omega)) _)
 | some ad =>
  go_enter Tryz.func156, Tryz.ntmps156
  go_wp2_with fail
  obtain ⟨W, hW⟩ : ∃ W, W = ((w.alloc (.cells #[.string nm, .slice (some ad) nc cc, .slice ra nr cr] 117)).alloc (.cells #[.string ⟨#[]⟩, .slice none 0 0, .slice none 0 0] 117)) := ⟨_, rfl⟩
  rw [← hW]
  have hA : Below w.heap.size w W := by rw [hW]; exact ((Below.refl _ _).alloc (Nat.le_refl _) _).alloc (by simp) _
  have hWs : W.heap.size = w.heap.size + 1 + 1 := by rw [hW]; simp
  have p0 : W.cell? ⟨w.heap.size, 0, none⟩ = some (.string nm) := by rw [hW]; simp
  have p1 : W.cell? ⟨w.heap.size, 1, none⟩ = some (.slice (some ad) nc cc) := by rw [hW]; simp
  have p2 : W.cell? ⟨w.heap.size, 2, none⟩ = some (.slice ra nr cr) := by rw [hW]; simp
  have dd : Hid ((W.cell? ⟨w.heap.size + 1, 0, none⟩ = some (.string ⟨#[]⟩) ∧ W.cell? ⟨w.heap.size + 1, 1, none⟩ = some (.slice none 0 0) ∧ W.cell? ⟨w.heap.size + 1, 2, none⟩ = some (.slice none 0 0)) ∧ W.frozen? ⟨w.heap.size + 1, 0, none⟩ = false ∧ W.frozen? ⟨w.heap.size + 1, 1, none⟩ = false ∧ W.frozen? ⟨w.heap.size + 1, 2, none⟩ = false) := by
   have : (W.cell? ⟨w.heap.size + 1, 0, none⟩ = some (.string ⟨#[]⟩) ∧ W.cell? ⟨w.heap.size + 1, 1, none⟩ = some (.slice none 0 0) ∧ W.cell? ⟨w.heap.size + 1, 2, none⟩ = some (.slice none 0 0)) ∧ W.frozen? ⟨w.heap.size + 1, 0, none⟩ = false ∧ W.frozen? ⟨w.heap.size + 1, 1, none⟩ = false ∧ W.frozen? ⟨w.heap.size + 1, 2, none⟩ = false := by
    rw [hW]; refine ⟨⟨?_, ?_, ?_⟩, ?_, ?_, ?_⟩ <;> simp
   exact this
  have HWS := hid hWs
  have hlw : w.heap.size + 1 < W.heap.size := by omega
  clear hW hWs
  refine wp_region_held_drew (S := (fun w' => w'.cell? ⟨w.heap.size, 1, none⟩ = some (.slice (some ad) nc cc))) (by kernel_rfl) ?_ (fun hHeld => ?_)
  · (((try dsimp only); (repeat' apply And.intro) <;> first | (go_keep; done) | (simp (disch := first | omega | (simp <;> omega) | fail) [*]; done) | fail))
  refine tkH 0 ?_
  simp only [Act.put, ptT, ptZ, ptS]
  refine tkH 1 ?_
  simp only [Act.put, ptT, ptZ, ptS]
  refine tkH 2 ?_
  simp only [Act.put, ptT, ptZ, ptS]
  refine tkH 4 ?_
  simp only [Act.put, ptT, ptZ, ptS]
  refine tkH 5 ?_
  simp only [Act.put, ptT, ptZ, ptS]
  refine oneH 3 ?_
  intro K hK
  rw [if_pos (by rfl)]
  refine wp_make_own' _ _ _ 22 rfl W.heap.size 9 i0 (.string ⟨#[]⟩) 1 Tryz.underlying22 hi hz0 hz1 .i64 .i64 _ nc rfl rfl rfl (by rw [hz2]; omega) (by unfold maxLen; omega) (Nat.le_refl _) ?_
  intro w1 hown hgrow
  have hb1 : Below W.heap.size W w1 := ((Below.refl _ _).drew).grown hgrow (Nat.le_refl _) (by intro k h; cases h)
  have O1 := hid hown
  have hs1 := hb1.size
  have k1 : w1.cell? ⟨w.heap.size, 1, none⟩ = some (.slice (some ad) nc cc) := by rw [hb1.cell (p := ⟨w.heap.size, 1, none⟩) (by show w.heap.size < _; omega)]; exact p1
  clear hown hgrow
  refine hK.out _ _ k1 (fun hHeld => ?_)
  clear hK K
  try simp only [Act.put, ptT, ptZ, ptS]
  refine oneH 6 ?_
  intro K hK
  rw [if_pos (by rfl)]
  refine wp_append_own _ _ _ 22 rfl W.heap.size 9 i0 (.string ⟨#[]⟩) 1 16 Tryz.underlying22 hi hz0 hz1 hz2 rfl (by decide) (.slice (some ⟨W.heap.size, 0, none⟩) 0 nc) 0 [] rfl O1.out ad nc cc (strV C) rfl (by rw [strV_length, HNC.out]; omega) ?_ ?_ ?_ ?_ ?_ ?_
  · exact strV_cells ((HT.out.below (chain hA hb1)).cols)
  · intro u hu
   obtain ⟨b, _, rfl⟩ := List.mem_map.1 hu
   rfl
  · unfold maxLen; omega
  · omega
  · exact hs1
  intro v2 w2 own2 hgrow2 hnn2
  try rw [List.nil_append, Nat.zero_add] at own2
  obtain ⟨g, c, rfl⟩ : ∃ g c, v2 = .slice (some ⟨g, 0, none⟩) nc c := by
   rcases own2.2 with ⟨h', _⟩ | ⟨g, c, cur, h', _⟩
   · exact absurd ((hnn2.1 h').1) (by simp)
   · exact ⟨g, c, h'⟩
  have hb2 : Below W.heap.size W w2 := hb1.grown hgrow2 hs1 (by intro k hk; simp [Value.ownBlock] at hk; omega)
  have k2 : w2.cell? ⟨w.heap.size, 1, none⟩ = some (.slice (some ad) nc cc) := by rw [hb2.cell (p := ⟨w.heap.size, 1, none⟩) (by show w.heap.size < _; omega)]; exact p1
  have O2 := hid own2
  have hcap2 : nc ≤ c := by
   rcases O2.out.2 with ⟨h', _⟩ | ⟨g', c', cur, h', _, _, hle, _⟩
   · simp at h'
   · simp at h'; omega
  clear own2 hgrow2 hnn2
  refine hK.out _ _ k2 (fun hHeld => ?_)
  clear hK K
  try simp only [Act.put, ptT, ptZ, ptS]
  refine tkH 7 ?_
  simp only [Act.put, ptT, ptZ, ptS]
  refine wpAnyH_done (by kernel_rfl) ?_ _
  clear hHeld
  obtain ⟨hc2, hf2⟩ := bcell hb2
  have hsz2 := (hb2).size
  have p0' : w2.cell? ⟨w.heap.size, 0, none⟩ = some (.string nm) := by rw [hc2 _ _ (by omega)]; exact p0
  have p1' : w2.cell? ⟨w.heap.size, 1, none⟩ = some (.slice (some ad) nc cc) := by rw [hc2 _ _ (by omega)]; exact p1
  have p2' : w2.cell? ⟨w.heap.size, 2, none⟩ = some (.slice ra nr cr) := by rw [hc2 _ _ (by omega)]; exact p2
  have hxw : Below w.heap.size w w2 := chain hA hb2
  clear hc2 hf2
  go_wp2_with fail
  refine wp_region_held_drew (S := (fun w' => w'.cell? ⟨w.heap.size, 0, none⟩ = some (.string nm) ∧ w'.cell? ⟨w.heap.size, 2, none⟩ = some (.slice ra nr cr))) (by kernel_rfl) ?_ (fun hHeld => ?_)
  · (((try dsimp only); (repeat' apply And.intro) <;> first | (go_keep; done) | (simp (disch := first | omega | (simp <;> omega) | fail) [*]; done) | fail))
  refine tkH 0 ?_
  simp only [Act.put, ptT, ptZ, ptS]
  refine tkH 1 ?_
  simp only [Act.put, ptT, ptZ, ptS]
  refine tkH 2 ?_
  simp only [Act.put, ptT, ptZ, ptS]
  refine tkH 3 ?_
  simp only [Act.put, ptT, ptZ, ptS]
  refine tkH 4 ?_
  simp only [Act.put, ptT, ptZ, ptS]
  refine oneH 5 ?_
  intro K hK
  go_simp
  refine (copied_rowsN ra cr L nr HNR.out _ ((HT.out.below hxw).rows.below (Below.refl _ _).drew) hr1 HMS.out).mono ?_
  rintro e wB ⟨vr, G, D, rfl, own2, hbB, hvr⟩
  obtain ⟨g2, c2, rfl⟩ : ∃ g2 c2, vr = .slice (some ⟨g2, 0, none⟩) nr c2 := by
   rcases own2.outer.2 with ⟨h', _⟩ | ⟨g2, c2, cur, h', _⟩
   · exact absurd h' hvr
   · exact ⟨g2, c2, by rw [h', HNR.out]⟩
  have hxB : Below w2.heap.size w2 wB := undrew hbB
  have hsB := hxB.size
  have hWB : Below W.heap.size W wB := hb2.trans (hxB.mono hsz2)
  obtain ⟨hca, hfa⟩ := bcell hWB
  have OT : Hid (OutTab wB W.heap.size (some ⟨g, 0, none⟩) c (some ⟨g2, 0, none⟩) (nm, C, L) (fun i => some ⟨G i, 0, none⟩) D) := by
   have : OutTab wB W.heap.size (some ⟨g, 0, none⟩) c (some ⟨g2, 0, none⟩) (nm, C, L) (fun i => some ⟨G i, 0, none⟩) D :=
    out_of_own (S := 9) (t := (nm, C, L)) (by decide) (by decide) (by rw [show (nm, C, L).2.1.length = nc from HNC.out]; exact own_below O2.out hxB) (by rw [show (nm, C, L).2.2.length = nr from HNR.out]; exact own2.base hsz2) (by rw [show (nm, C, L).2.1.length = nc from HNC.out]; exact hcap2) HT.out.fit HT.out.name HT.out.len HT.out.lenR (fun i hi => by obtain ⟨_, _, _, _, _, _, _, _, h, _⟩ := HT.out.rows i hi; exact h) (fun i hi => by obtain ⟨_, _, _, _, _, _, _, _, _, h, _⟩ := HT.out.rows i hi; exact h)
   exact this
  obtain ⟨⟨q0, q1, q2⟩, e0, e1, e2⟩ := dd.out
  have t0 : wB.cell? ⟨w.heap.size + 1, 0, none⟩ = some (.string ⟨#[]⟩) := by rw [hca _ _ (by omega)]; exact q0
  have t1 : wB.cell? ⟨w.heap.size + 1, 1, none⟩ = some (.slice none 0 0) := by rw [hca _ _ (by omega)]; exact q1
  have t2 : wB.cell? ⟨w.heap.size + 1, 2, none⟩ = some (.slice none 0 0) := by rw [hca _ _ (by omega)]; exact q2
  have h0 : wB.frozen? ⟨w.heap.size + 1, 0, none⟩ = false := by rw [hfa _ _ (by omega)]; exact e0
  have h1 : wB.frozen? ⟨w.heap.size + 1, 1, none⟩ = false := by rw [hfa _ _ (by omega)]; exact e1
  have h2 : wB.frozen? ⟨w.heap.size + 1, 2, none⟩ = false := by rw [hfa _ _ (by omega)]; exact e2
  have s0 : wB.cell? ⟨w.heap.size, 0, none⟩ = some (.string nm) := by rw [hca _ _ (by omega)]; exact p0
  have s2 : wB.cell? ⟨w.heap.size, 2, none⟩ = some (.slice ra nr cr) := by rw [hca _ _ (by omega)]; exact p2
  have hxf : Below w.heap.size w wB := chain hA hWB
  have hcap2' : nr ≤ c2 := by have := own_cap own2.outer; rw [HNR.out] at this; exact this
  clear own2 hca hfa q0 q1 q2 e0 e1 e2
  go_wp2_with fail
  refine hK.out _ _ ⟨s0, s2⟩ (fun hHeld => ?_)
  clear hK K
  try simp only [Act.put, ptT, ptZ, ptS]
  refine tkH 6 ?_
  simp only [Act.put, ptT, ptZ, ptS]
  refine oneH 7 ?_
  intro K hK
  go_simp
  refine hK.out _ _ ?_ (fun hHeld => ?_)
  · (((try dsimp only); (repeat' apply And.intro) <;> first | (go_keep; done) | (simp (disch := first | omega | (simp <;> omega) | fail) [*]; done) | fail))
  clear hK K
  try simp only [Act.put, ptT, ptZ, ptS]
  refine wpAnyH_done (by kernel_rfl) ?_ _
  go_wp2_with fail
  have hs9 := HWS.out
  refine bodyPost_ret (v := .agg #[.string nm, .slice (some ⟨g, 0, none⟩) nc c, .slice (some ⟨g2, 0, none⟩) nr c2]) (by simp [results, Tryz.results156, go_sem, t0, t1, t2]) rfl ⟨_, _, g2, c2, _, _, rfl, (OT.out.set3 (w.heap.size + 1) (by omega) _ _ _ _ _ _).base (by omega), ?_, hcap2'⟩
  repeat (first | exact hxf | refine Below.setCell ?_ (by first | (simp; done) | (simp; omega)) _)
end Go.Proofs.YtjjkdbmjloolaaaGreatDoor
namespace Go.Proofs.YtjjkdbmjloolaaaGreatDoor
open Go.ChangeShapes Go.WideShapes Go.ChangeAt Go.RowKit Go.Maps
attribute [local go_sem ↓] Go.wp_at_zero Go.wp_at_succ
attribute [local simp] World.cell?_alloc_past World.cell?_alloc_at World.frozen?_alloc_at cell_far cell_off cell_here World.frozen?_alloc_past
def Small (t : TB) : Prop := t.2.1.length ≤ 1048576 ∧ t.2.2.length ≤ 1048576 ∧ ∀ i (h : i < t.2.2.length), t.2.2[i].length ≤ 1048576
end Go.Proofs.YtjjkdbmjloolaaaGreatDoor
namespace Go.Proofs.YtjjkdbmjloolaaaGreatDoor
open Go.ChangeShapes Go.WideShapes Go.ChangeAt Go.RowKit
structure Cur (w : World) (c : Nat) (a : Option Addr) (len cap : Nat) : Prop where
 c0 : w.cell? ⟨c, 0, none⟩ = some (.slice a len cap)
 c1 : ∃ i : Nat, w.cell? ⟨c, 1, none⟩ = some (.int .i64 (i : Int)) ∧ i ≤ len
 c2 : ∃ h : Int, w.cell? ⟨c, 2, none⟩ = some (.int .i64 h)
 f0 : w.frozen? ⟨c, 0, none⟩ = false
 f1 : w.frozen? ⟨c, 1, none⟩ = false
 f2 : w.frozen? ⟨c, 2, none⟩ = false
 lt : c < w.heap.size
 hlen : len ≤ maxLen
 row : ∀ j, j < len → ∃ (rb ro : Nat) (v : Int), a = some ⟨rb, ro, none⟩ ∧ rb < c ∧ w.cell? ⟨rb, ro + j, none⟩ = some (.int .u8 v) ∧ 0 ≤ v ∧ v ≤ 255
theorem Cur.below {w w' : World} {c : Nat} {a : Option Addr} {len cap : Nat} (h : Cur w c a len cap) (hb : Below w.heap.size w w') : Cur w' c a len cap := by
 have hc : ∀ o, w'.cell? ⟨c, o, none⟩ = w.cell? ⟨c, o, none⟩ := fun o => hb.cell (p := ⟨c, o, none⟩) h.lt
 have hf : ∀ o, w'.frozen? ⟨c, o, none⟩ = w.frozen? ⟨c, o, none⟩ := fun o => hb.frozen (p := ⟨c, o, none⟩) h.lt
 refine ⟨by rw [hc]; exact h.c0, by rw [hc]; exact h.c1, by rw [hc]; exact h.c2, by rw [hf]; exact h.f0, by rw [hf]; exact h.f1, by rw [hf]; exact h.f2, Nat.lt_of_lt_of_le h.lt hb.size, h.hlen, ?_⟩
 intro j hj
 obtain ⟨rb, ro, v, ha, hlt, hcell, hv⟩ := h.row j hj
 exact ⟨rb, ro, v, ha, hlt, by rw [hb.cell (p := ⟨rb, ro + j, none⟩) (Nat.lt_trans hlt h.lt)]; exact hcell, hv⟩
theorem Cur.drewN {w : World} {c : Nat} {a : Option Addr} {len cap : Nat} (h : Cur w c a len cap) (n : Nat) : Cur (w.drewN n) c a len cap :=
 ⟨h.c0, h.c1, h.c2, h.f0, h.f1, h.f2, h.lt, h.hlen, h.row⟩
theorem Cur.drew {w : World} {c : Nat} {a : Option Addr} {len cap : Nat} (h : Cur w c a len cap) : Cur w.drew c a len cap :=
 ⟨h.c0, h.c1, h.c2, h.f0, h.f1, h.f2, h.lt, h.hlen, h.row⟩
theorem set_row {w : World} {c : Nat} {a : Option Addr} {len o : Nat} {u : Value} (row : ∀ j, j < len → ∃ (rb ro : Nat) (v : Int), a = some ⟨rb, ro, none⟩ ∧ rb < c ∧ w.cell? ⟨rb, ro + j, none⟩ = some (.int .u8 v) ∧ 0 ≤ v ∧ v ≤ 255) :
  ∀ j, j < len → ∃ (rb ro : Nat) (v : Int), a = some ⟨rb, ro, none⟩ ∧ rb < c ∧ (w.setCell ⟨c, o, none⟩ u).cell? ⟨rb, ro + j, none⟩ = some (.int .u8 v) ∧ 0 ≤ v ∧ v ≤ 255 := by
 intro j hj
 obtain ⟨rb, ro, v, ha, hlt, hcell, hv⟩ := row j hj
 exact ⟨rb, ro, v, ha, hlt, by rw [World.cell?_of_block (w := w) (Below.heap_setCell w _ u rb (Nat.ne_of_lt hlt))]; exact hcell, hv⟩
theorem Cur.set1 {w : World} {c : Nat} {a : Option Addr} {len cap : Nat} (h : Cur w c a len cap) (i : Nat) (hi : i ≤ len) (v : Int) (hv : v = (i : Int)) : Cur (w.setCell ⟨c, 1, none⟩ (.int .i64 v)) c a len cap := by
 subst hv
 obtain ⟨c0, ⟨i', c1, _⟩, ⟨hh, c2⟩, f0, f1, f2, lt, hlen, row⟩ := h
 refine ⟨?_, ⟨i, ?_, hi⟩, ⟨hh, ?_⟩, by rw [World.frozen?_setCell]; exact f0, by rw [World.frozen?_setCell]; exact f1, by rw [World.frozen?_setCell]; exact f2, by simpa using lt, hlen, set_row row⟩
 · rw [World.cell?_setCell_other _ _ _ _ (by simp)]; exact c0
 · exact World.cell?_setCell_same _ _ _ c1
 · rw [World.cell?_setCell_other _ _ _ _ (by simp)]; exact c2
theorem Cur.alloc {w : World} {c : Nat} {a : Option Addr} {len cap : Nat} (h : Cur w c a len cap) (o : Obj) : Cur (w.alloc o) c a len cap :=
 h.below ((Below.refl _ _).alloc (Nat.le_refl _) o)
theorem old3 {w : World} {B : Nat} {x y z : Value} (o : Obj) (h : w.cell? ⟨B, 0, none⟩ = some x ∧ w.cell? ⟨B, 1, none⟩ = some y ∧ w.cell? ⟨B, 2, none⟩ = some z ∧ B < w.heap.size) :
  (w.alloc o).cell? ⟨B, 0, none⟩ = some x ∧ (w.alloc o).cell? ⟨B, 1, none⟩ = some y ∧ (w.alloc o).cell? ⟨B, 2, none⟩ = some z ∧ B < (w.alloc o).heap.size :=
 later3 ((Below.refl _ _).alloc (Nat.le_refl _) o) h
theorem oldF {w : World} {B : Nat} (o : Obj) (hB : B < w.heap.size) (h : w.frozen? ⟨B, 0, none⟩ = false ∧ w.frozen? ⟨B, 1, none⟩ = false ∧ w.frozen? ⟨B, 2, none⟩ = false) :
  (w.alloc o).frozen? ⟨B, 0, none⟩ = false ∧ (w.alloc o).frozen? ⟨B, 1, none⟩ = false ∧ (w.alloc o).frozen? ⟨B, 2, none⟩ = false :=
 frozen3 ((Below.refl _ _).alloc (Nat.le_refl _) o) hB h
theorem keepN {c : Nat} {w1 w2 : World} {v0 v1 v2 : Value} {T : TypeId} (hk : Keep c (w1.alloc (.cells #[v0, v1, v2] T)) w2) (hne : w1.heap.size ≠ c) :
  w2.cell? ⟨w1.heap.size, 0, none⟩ = some v0 ∧ w2.cell? ⟨w1.heap.size, 1, none⟩ = some v1 ∧ w2.cell? ⟨w1.heap.size, 2, none⟩ = some v2 := by
 refine ⟨?_, ?_, ?_⟩
 · rw [hk.cell (by simp) hne]; simp [go_sem]
 · rw [hk.cell (by simp) hne]; simp [go_sem]
 · rw [hk.cell (by simp) hne]; simp [go_sem]
def Has3 (w : World) (B : Nat) (x y z : Value) : Prop :=
 (w.cell? ⟨B, 0, none⟩ = some x ∧ w.cell? ⟨B, 1, none⟩ = some y ∧ w.cell? ⟨B, 2, none⟩ = some z ∧ B < w.heap.size) ∧
 (w.frozen? ⟨B, 0, none⟩ = false ∧ w.frozen? ⟨B, 1, none⟩ = false ∧ w.frozen? ⟨B, 2, none⟩ = false)
theorem Has3.alloc {B : Nat} {w : World} {x y z : Value} (h : Has3 w B x y z) (o : Obj) : Has3 (w.alloc o) B x y z := ⟨old3 o h.1, oldF o h.1.2.2.2 h.2⟩
theorem Has3.new (w : World) (x y z : Value) (T : TypeId) : Has3 (w.alloc (.cells #[x, y, z] T)) w.heap.size x y z :=
 ⟨⟨by simp [go_sem], by simp [go_sem], by simp [go_sem], by simp⟩, by simp [go_sem], by simp [go_sem], by simp [go_sem]⟩
theorem Has3.drew {B : Nat} {w : World} {x y z : Value} (h : Has3 w B x y z) : Has3 w.drew B x y z := h
end Go.Proofs.YtjjkdbmjloolaaaGreatDoor
namespace Go.Proofs.YtjjkdbmjloolaaaGreatDoor
open Go.ChangeShapes Go.WideShapes Go.ChangeAt Go.RowKit
attribute [local go_sem ↓] Go.wp_at_zero Go.wp_at_succ
attribute [local simp] World.cell?_alloc_past World.cell?_alloc_at World.frozen?_alloc_at cell_far cell_off cell_here World.frozen?_alloc_past
theorem Cur.far {w w' : World} {c B : Nat} {a : Option Addr} {len cap : Nat} (h : Cur w c a len cap) (hb : Below B w w') (hB : c < B) : Cur w' c a len cap := by
 refine ⟨?_, ?_, ?_, ?_, ?_, ?_, Nat.lt_of_lt_of_le h.lt hb.size, h.hlen, ?_⟩
 · rw [hb.cell (p := ⟨c, 0, none⟩) hB]; exact h.c0
 · rw [hb.cell (p := ⟨c, 1, none⟩) hB]; exact h.c1
 · rw [hb.cell (p := ⟨c, 2, none⟩) hB]; exact h.c2
 · rw [hb.frozen (p := ⟨c, 0, none⟩) hB]; exact h.f0
 · rw [hb.frozen (p := ⟨c, 1, none⟩) hB]; exact h.f1
 · rw [hb.frozen (p := ⟨c, 2, none⟩) hB]; exact h.f2
 · intro j hj
  obtain ⟨rb, ro, v, ha, hrb, hc, hv⟩ := h.row j hj
  exact ⟨rb, ro, v, ha, hrb, by rw [hb.cell (p := ⟨rb, _, none⟩) (by show rb < B; omega)]; exact hc, hv⟩
theorem Keep.far {c B : Nat} {w w1 w2 : World} (h : Keep c w w1) (hb : Below B w1 w2) (hB : w.heap.size ≤ B) : Keep c w w2 :=
 ⟨hb.os.trans h.os, hb.tape.trans h.tape, hb.output.trans h.output, Nat.le_trans h.size hb.size, fun k hk hc => (hb.block k (by omega)).trans (h.block k hk hc)⟩
theorem Fit.append {l : List CT} {x : CT} (h : Fit l) (hx : x.2.2.size ≤ maxLen) : Fit (l ++ [x]) := by
 intro j hj
 by_cases e : j < l.length
 · rw [List.getElem_append_left e]; exact h j e
 · rw [List.getElem_append_right (by omega)]; simpa using hx
theorem OwnRows.lt {w : World} {base : Nat} {v : Value} {L : List (List CT)} {G C : Nat → Nat} (h : OwnRows w base v L G C) (i : Nat) (hi : i < L.length) : G i < w.heap.size := by
 rcases (h.inner i hi).2 with ⟨h', _⟩ | ⟨g2, c2, cur2, h', _, hg2, _⟩
 · simp [headOf] at h'
 · simp only [headOf, Value.slice.injEq, Option.some.injEq, Addr.mk.injEq, and_true, true_and] at h'
  obtain ⟨rfl, rfl⟩ := h'
  by_cases hl : G i < w.heap.size
  · exact hl
  · rw [Array.getElem?_eq_none (by omega)] at hg2; cases hg2
def Drawn (L : List (List CT)) (n : Nat) : Prop := L.length ≤ n ∧ ∀ i (h : i < L.length), Fit L[i] ∧ L[i].length ≤ 1000
theorem Drawn.append {L : List (List CT)} {n : Nat} {x : List CT} (h : Drawn L n) (hf : Fit x) (hx : x.length ≤ 1000) : Drawn (L ++ [x]) (n + 1) := by
 refine ⟨by have := h.1; simp; omega, fun i hi => ?_⟩
 by_cases e : i < L.length
 · rw [List.getElem_append_left e]; exact h.2 i e
 · rw [List.getElem_append_right (by omega)]; simpa using ⟨hf, hx⟩
end Go.Proofs.YtjjkdbmjloolaaaGreatDoor
