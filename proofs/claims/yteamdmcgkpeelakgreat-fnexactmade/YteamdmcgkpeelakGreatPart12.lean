/-
  A part of the proof: PutI, ShI5, ShOps.
-/
import Derived.Test.YteamdmcgkpeelakGreatPart11
import Derived.Test.YteamdmcgkpeelakGreatPart8
import Derived.Maps.AppendAt
import Derived.Test.YteamdmcgkpeelakGreatPart10

/-
  The contract of the program's Put.
-/
namespace Go.Proofs.YteamdmcgkpeelakGreat
open Go.ChangeShapes Go.WideShapes Go.ChangeAt Go.RowKit
attribute [local go_sem ↓] Go.wp_at_zero Go.wp_at_succ
attribute [local simp] World.cell?_alloc_past World.cell?_alloc_at World.frozen?_alloc_at cell_far cell_off cell_here World.frozen?_alloc_past

theorem own_keepB {w w' : World} {base base' g c : Nat} {e : TypeId} {size n : Nat} {xs : List Value} (h : w.ownsRow base e size (.slice (some ⟨g, 0, none⟩) n c) n xs) (hb : base' ≤ base) (hk : w'.heap[g]? = w.heap[g]?) : w'.ownsRow base' e size (.slice (some ⟨g, 0, none⟩) n c) n xs := by
  refine ⟨h.1, ?_⟩
  rcases h.2 with h' | ⟨g', cap, cur, h', hbg, hg, hr⟩
  · exact .inl h'
  · refine .inr ⟨g', cap, cur, h', by omega, ?_, hr⟩
    simp only [Value.slice.injEq, Option.some.injEq, Addr.mk.injEq, and_true, true_and] at h'
    obtain ⟨rfl, _⟩ := h'
    rw [hk]; exact hg
/-- The heads of rows, by their places. -/
def HK (w : World) (ra : Option Addr) (L : List (List CT)) (A : Nat → Option Addr) (K : Nat → Nat) : Prop :=
  ∀ i, (hi : i < L.length) → ∃ b o, ra = some ⟨b, o, none⟩ ∧ b < w.heap.size ∧ w.cell? ⟨b, o + i, none⟩ = some (.slice (A i) L[i].length (K i)) ∧ RowAt w (A i) L[i] ∧ Fit L[i] ∧ L[i].length ≤ maxLen ∧ (A i = none → K i = 0)
theorem HK.below {w w' : World} {ra : Option Addr} {L : List (List CT)} {A : Nat → Option Addr} {K : Nat → Nat} (h : HK w ra L A K) (hb : Below w.heap.size w w') : HK w' ra L A K := by
  intro i hi
  obtain ⟨b, o, e, hlt, h0, h1, h2, h3, h4⟩ := h i hi
  exact ⟨b, o, e, Nat.lt_of_lt_of_le hlt hb.size, by rw [hb.cell (p := ⟨b, _, none⟩) hlt]; exact h0, h1.below hb, h2, h3, h4⟩
theorem headsP {w : World} {a : Option Addr} {L : List (List CT)} (h : RowsAt w a L) : ∃ A K, HK w a L A K := by
  have hx : ∀ i, ∃ p : Option Addr × Nat, (hi : i < L.length) → ∃ b o, a = some ⟨b, o, none⟩ ∧ b < w.heap.size ∧ w.cell? ⟨b, o + i, none⟩ = some (.slice p.1 L[i].length p.2) ∧ RowAt w p.1 L[i] ∧ Fit L[i] ∧ L[i].length ≤ maxLen ∧ (p.1 = none → p.2 = 0) := by
    intro i
    by_cases hi : i < L.length
    · obtain ⟨b, o, ai, ci, ha, hlt, h0, h1, h2, h3, h4⟩ := h i hi
      exact ⟨(ai, ci), fun _ => ⟨b, o, ha, hlt, h0, h1, h2, h3, h4⟩⟩
    · exact ⟨(none, 0), fun hi' => absurd hi' hi⟩
  obtain ⟨f, hf⟩ := Classical.axiomOfChoice hx
  exact ⟨fun i => (f i).1, fun i => (f i).2, fun i hi => hf i hi⟩
def headsV (A : Nat → Option Addr) (K : Nat → Nat) (L : List (List CT)) : List Value := (List.range L.length).map fun i => .slice (A i) (L.getD i []).length (K i)
theorem headsV_length (A : Nat → Option Addr) (K : Nat → Nat) (L : List (List CT)) : (headsV A K L).length = L.length := by simp [headsV]
theorem headsV_at (A : Nat → Option Addr) (K : Nat → Nat) (L : List (List CT)) (i : Nat) (h : i < L.length) : (headsV A K L)[i]? = some (.slice (A i) L[i].length (K i)) := by
  unfold headsV
  rw [List.getElem?_map, List.getElem?_range h, Option.map_some, getD_at h]
/-- Heads behind each other, and one more, are rows. -/
theorem rows_more {w w' : World} {ra : Option Addr} {L : List (List CT)} {r : List CT} {a : Option Addr} {n cap : Nat} {A : Nat → Option Addr} {K : Nat → Nat} {base g c : Nat} {e : TypeId} (hA : HK w ra L A K)
    (hn : r.length = n) (hr : RowAt w a r) (hf : Fit r) (hm : n ≤ maxLen) (hnil : a = none → cap = 0) (hb : Below w.heap.size w w') (own : w'.ownsRow base e 1 (.slice (some ⟨g, 0, none⟩) (L.length + 1) c) (L.length + 1) (headsV A K L ++ [.slice a n cap])) : RowsAt w' (some ⟨g, 0, none⟩) (L ++ [r]) := by
  have hlt := (own.lt g rfl).2
  intro i hi
  have hi2 : i < L.length + 1 := by simpa using hi
  have hc := own.cellAt i (by omega)
  by_cases hl : i < L.length
  · obtain ⟨b, o, _, _, _, h1, h2, h3, h4⟩ := hA i hl
    rw [List.getElem?_append_left (by rw [headsV_length]; exact hl), headsV_at A K L i hl] at hc
    rw [List.getElem_append_left hl]
    exact ⟨g, 0, A i, K i, rfl, hlt, by rw [Nat.zero_add]; exact hc, h1.below hb, h2, h3, h4⟩
  · have : i = L.length := by omega
    subst this
    rw [List.getElem?_append_right (by rw [headsV_length]; exact Nat.le_refl _), headsV_length, Nat.sub_self] at hc
    simp only [List.getElem_append_right (Nat.le_refl _), Nat.sub_self, List.getElem_cons_zero]
    subst hn
    exact ⟨g, 0, a, cap, rfl, hlt, by rw [Nat.zero_add]; exact hc, hr.below hb, hf, hm, hnil⟩

/-- 'make([]T, 0, n)' as one operation of a region that draws. -/
theorem wp_make_own' {P : Program} (w : World) {o : Oper} {a : Act} {K : Act → World → Prop} {Q : Exit → Act → World → Prop} (l c : Operand) (t : TypeId) (hop : o.op = Op.makeSlice t l c)
    (base : Nat) (e : TypeId) (i : TypeInfo) (z : Value) (size : Nat) (h1 : P.underlying t = some (.slice e)) (h2 : P.info? e = some i) (h3 : i.zero = some z) (h4 : i.size = size)
    (kl kc : IntKind) (C : Int) (n : Nat) (hl : a.eval l = .int kl 0) (hc : a.eval c = .int kc C) (hC : C = (n : Int)) (b2 : i.bytes * n ≤ 281474976710656) (b3 : n ≤ maxLen) (b4 : base ≤ w.heap.size)
    (hK : ∀ w', w'.ownsRow base e size (.slice (some ⟨w.heap.size, 0, none⟩) 0 n) 0 [] → w.grownBy w' none → K (a.put o.dst (.slice (some ⟨w.heap.size, 0, none⟩) 0 n)) w') : o.wp P a w K Q := by
  obtain ⟨w', hrun, r1, r2⟩ := run_make_own (P := P) w base t e i z size h1 h2 h3 h4 kl kc n b2 b3 b4
  subst hC
  unfold Oper.wp
  simp [execOp, hop, hl, hc, hrun, Result.andThen]
  exact hK w' r1 r2
/-- Nothing is appended to a list of the call's own. -/
theorem wp_append_none' {P : Program} {w : World} {o : Oper} {a : Act} {K : Act → World → Prop} {Q : Exit → Act → World → Prop} (s x : Operand) (t : TypeId) (ho : o.op = .call { callee := .builtin .append, args := #[s, x], argTypes := #[t, t] })
    (base : Nat) (e : TypeId) (i : TypeInfo) (size : Nat) (ht : P.underlying t = some (.slice e)) (hi : P.info? e = some i)
    (v : Value) (n : Nat) (xs : List Value) (hs : a.eval s = v) (hown : w.ownsRow base e size v n xs) (hx : a.eval x = .slice none 0 0) (h : K (a.put o.dst v) w) : o.wp P a w K Q := by
  have hrun := run_append_owned_none (P := P) (w := w) base t o.type e i size ht hi v n xs hown
  unfold Oper.wp
  simp [execOp, ho, resolve, invoke, builtin, hs, hx, hrun, Result.andThen]
  exact h

theorem infoTxI : (Tryz.prog.info? 9).map (fun i => (i.zero, i.size, i.bytes)) = some (some (.string ⟨#[]⟩), 1, 16) := by kernel_rfl
theorem copied_rowsN (a : Option Addr) (cap : Nat) (L : List (List CT)) (n : Nat) (hn : L.length = n) (w : World) (hrow : RowsAt w a L) (hm : n ≤ 1048576) (hms : ∀ i (h : i < L.length), L[i].length ≤ 1048576) :
    Calls Tryz.prog 68 #[.slice a n cap] w fun e w' => ∃ v G C, e = .returned v ∧ OwnRows w' w.heap.size v L G C ∧ Below w.heap.size w w' ∧ v ≠ .slice none 0 0 := by
  subst hn; exact copied_rows a cap L w hrow hm hms

set_option maxRecDepth 100000 in
set_option maxHeartbeats 4000000 in
theorem copied_table (ca : Option Addr) (cc : Nat) (ra : Option Addr) (cr : Nat) (t : TB) (nc nr : Nat) (hnc : t.2.1.length = nc) (hnr : t.2.2.length = nr) (w : World) (ht : TabAt w ca cc ra t) (hc1 : nc ≤ 1048576) (hr1 : nr ≤ 1048576) (hms : ∀ i (h : i < t.2.2.length), t.2.2[i].length ≤ 1048576) :
    Calls Tryz.prog 50 #[.agg #[.string t.1, .slice ca nc cc, .slice ra nr cr]] w fun e w' => ∃ g c g2 c2 A D, e = .returned (.agg #[.string t.1, .slice (some ⟨g, 0, none⟩) nc c, .slice (some ⟨g2, 0, none⟩) nr c2]) ∧ OutTab w' w.heap.size (some ⟨g, 0, none⟩) c (some ⟨g2, 0, none⟩) t A D ∧ Below w.heap.size w w' ∧ nr ≤ c2 := by
  obtain ⟨i0, hi, hz0, hz1, hz2⟩ := info_parts infoTxI
  obtain ⟨nm, C, L⟩ := t
  dsimp only at hnc hnr hms ⊢
  have HT : Hid (TabAt w ca cc ra (nm, C, L)) := ht
  have HNC : Hid (C.length = nc) := hnc
  have HNR : Hid (L.length = nr) := hnr
  have HMS : Hid (∀ i (h : i < L.length), L[i].length ≤ 1048576) := hms
  have hnil := ht.nilC
  clear ht hnc hnr hms
  cases ca with
  | none =>
    have hl : C = [] := by
      cases C with
      | nil => rfl
      | cons x l => obtain ⟨b, o, e, _⟩ := HT.out.cols 0 (by simp); cases e
    subst hl
    have hc := hnil rfl
    subst hc
    have h0 : nc = 0 := HNC.out.symm
    subst h0
    go_enter Tryz.func50, Tryz.ntmps50
    go_wp2_with fail
    obtain ⟨W, hW⟩ : ∃ W, W = ((w.alloc (.cells #[.string nm, .slice none 0 0, .slice ra nr cr] 44)).alloc (.cells #[.string ⟨#[]⟩, .slice none 0 0, .slice none 0 0] 44)) := ⟨_, rfl⟩
    rw [← hW]
    have hA : Below w.heap.size w W := by rw [hW]; exact ((Below.refl _ _).alloc (Nat.le_refl _) _).alloc (by simp) _
    have hWs : W.heap.size = w.heap.size + 1 + 1 := by rw [hW]; simp
    have p0 : W.cell? ⟨w.heap.size, 0, none⟩ = some (.string nm) := by rw [hW]; simp
    have p1 : W.cell? ⟨w.heap.size, 1, none⟩ = some (.slice none 0 0) := by rw [hW]; simp
    have p2 : W.cell? ⟨w.heap.size, 2, none⟩ = some (.slice ra nr cr) := by rw [hW]; simp
    have dd : Hid ((W.cell? ⟨w.heap.size + 1, 0, none⟩ = some (.string ⟨#[]⟩) ∧ W.cell? ⟨w.heap.size + 1, 1, none⟩ = some (.slice none 0 0) ∧ W.cell? ⟨w.heap.size + 1, 2, none⟩ = some (.slice none 0 0)) ∧ W.frozen? ⟨w.heap.size + 1, 0, none⟩ = false ∧ W.frozen? ⟨w.heap.size + 1, 1, none⟩ = false ∧ W.frozen? ⟨w.heap.size + 1, 2, none⟩ = false) := by
      have : (W.cell? ⟨w.heap.size + 1, 0, none⟩ = some (.string ⟨#[]⟩) ∧ W.cell? ⟨w.heap.size + 1, 1, none⟩ = some (.slice none 0 0) ∧ W.cell? ⟨w.heap.size + 1, 2, none⟩ = some (.slice none 0 0)) ∧ W.frozen? ⟨w.heap.size + 1, 0, none⟩ = false ∧ W.frozen? ⟨w.heap.size + 1, 1, none⟩ = false ∧ W.frozen? ⟨w.heap.size + 1, 2, none⟩ = false := by
        rw [hW]; refine ⟨⟨?_, ?_, ?_⟩, ?_, ?_, ?_⟩ <;> simp
      exact this
    have HWS : Hid (W.heap.size = w.heap.size + 1 + 1) := hWs
    have hlw : w.heap.size + 1 < W.heap.size := by omega
    clear hW hWs
    refine wp_region_held_drew (S := (fun w' => w'.cell? ⟨w.heap.size, 1, none⟩ = some (.slice none 0 0))) (by kernel_rfl) ?_ (fun hHeld => ?_)
    · (((try dsimp only); (repeat' apply And.intro) <;> first | (go_keep; done) | (simp (disch := first | omega | (simp <;> omega) | fail) [*]; done) | fail))
    refine wpAnyH_take (i := 0) (by simp only [List.getElem?_toArray, List.getElem?_cons_zero]; rfl) (by kernel_rfl) (by kernel_rfl) (by kernel_rfl) (by intro _ _ _ h; exact h) (Or.inl ⟨by rfl, fun w hSw => by (dsimp only at hSw; go_simp; (try with_reducible rfl))⟩) (by assumption) ?_
    simp only [Act.put, List.setIfInBounds_toArray, List.set_cons_zero, List.set_cons_succ]
    refine wpAnyH_take (i := 1) (by simp only [List.getElem?_toArray, List.getElem?_cons_zero, List.getElem?_cons_succ]; rfl) (by kernel_rfl) (by kernel_rfl) (by kernel_rfl) (by intro _ _ _ h; exact h) (Or.inl ⟨by rfl, fun w hSw => by (dsimp only at hSw; go_simp; (try with_reducible rfl))⟩) (by assumption) ?_
    simp only [Act.put, List.setIfInBounds_toArray, List.set_cons_zero, List.set_cons_succ]
    refine wpAnyH_take (i := 2) (by simp only [List.getElem?_toArray, List.getElem?_cons_zero, List.getElem?_cons_succ]; rfl) (by kernel_rfl) (by kernel_rfl) (by kernel_rfl) (by intro _ _ _ h; exact h) (Or.inl ⟨by rfl, fun w hSw => by (dsimp only at hSw; go_simp; (try with_reducible rfl))⟩) (by assumption) ?_
    simp only [Act.put, List.setIfInBounds_toArray, List.set_cons_zero, List.set_cons_succ]
    refine wpAnyH_take (i := 4) (by simp only [List.getElem?_toArray, List.getElem?_cons_zero, List.getElem?_cons_succ]; rfl) (by kernel_rfl) (by kernel_rfl) (by kernel_rfl) (by intro _ _ _ h; exact h) (Or.inl ⟨by rfl, fun w hSw => by (dsimp only at hSw; go_simp; (try with_reducible rfl))⟩) (by assumption) ?_
    simp only [Act.put, List.setIfInBounds_toArray, List.set_cons_zero, List.set_cons_succ]
    refine wpAnyH_take (i := 5) (by simp only [List.getElem?_toArray, List.getElem?_cons_zero, List.getElem?_cons_succ]; rfl) (by kernel_rfl) (by kernel_rfl) (by kernel_rfl) (by intro _ _ _ h; exact h) (Or.inl ⟨by rfl, fun w hSw => by (dsimp only at hSw; go_simp; (try with_reducible rfl))⟩) (by assumption) ?_
    simp only [Act.put, List.setIfInBounds_toArray, List.set_cons_zero, List.set_cons_succ]
    refine wpAnyH_ready (rs := [3]) (by kernel_rfl) (by simp) ?_
    refine AllReadyH.cons (by simp only [List.getElem?_toArray, List.getElem?_cons_zero, List.getElem?_cons_succ]; rfl) ?_ AllReadyH.nil
    intro K hK
    rw [if_pos (by rfl)]
    refine wp_make_own' _ _ _ 23 rfl W.heap.size 9 i0 (.string ⟨#[]⟩) 1 Tryz.underlying23 hi hz0 hz1 .i64 .i64 _ 0 rfl rfl rfl (by rw [hz2]; omega) (by unfold maxLen; omega) (Nat.le_refl _) ?_
    intro w1 hown hgrow
    have hb1 : Below W.heap.size W w1 := ((Below.refl _ _).drew).grown hgrow (Nat.le_refl _) (by intro k h; cases h)
    have O1 : Hid (w1.ownsRow W.heap.size 9 1 (.slice (some ⟨W.heap.size, 0, none⟩) 0 0) 0 []) := hown
    have hs1 := hb1.size
    have k1 : w1.cell? ⟨w.heap.size, 1, none⟩ = some (.slice none 0 0) := by rw [hb1.cell (p := ⟨w.heap.size, 1, none⟩) (by show w.heap.size < _; omega)]; exact p1
    clear hown hgrow
    refine hK.out _ _ k1 (fun hHeld => ?_)
    clear hK K
    try simp only [Act.put, List.setIfInBounds_toArray, List.set_cons_zero, List.set_cons_succ]
    refine wpAnyH_ready (rs := [6]) (by kernel_rfl) (by simp) ?_
    refine AllReadyH.cons (by simp only [List.getElem?_toArray, List.getElem?_cons_zero, List.getElem?_cons_succ]; rfl) ?_ AllReadyH.nil
    intro K hK
    rw [if_pos (by rfl)]
    refine wp_append_none' _ _ 23 rfl W.heap.size 9 i0 1 Tryz.underlying23 hi (.slice (some ⟨W.heap.size, 0, none⟩) 0 0) 0 [] rfl O1.out rfl ?_
    refine hK.out _ _ k1 (fun hHeld => ?_)
    clear hK K
    try simp only [Act.put, List.setIfInBounds_toArray, List.set_cons_zero, List.set_cons_succ]
    refine wpAnyH_take (i := 7) (by simp only [List.getElem?_toArray, List.getElem?_cons_zero, List.getElem?_cons_succ]; rfl) (by kernel_rfl) (by kernel_rfl) (by kernel_rfl) (by intro _ _ _ h; exact h) (Or.inl ⟨by rfl, fun w hSw => by (dsimp only at hSw; go_simp; (try with_reducible rfl))⟩) (by assumption) ?_
    simp only [Act.put, List.setIfInBounds_toArray, List.set_cons_zero, List.set_cons_succ]
    refine wpAnyH_done (by kernel_rfl) ?_ _
    clear hHeld
    obtain ⟨hc2, hf2⟩ := bcell hb1
    have hsz2 := (hb1).size
    have p0' : w1.cell? ⟨w.heap.size, 0, none⟩ = some (.string nm) := by rw [hc2 _ _ (by omega)]; exact p0
    have p1' : w1.cell? ⟨w.heap.size, 1, none⟩ = some (.slice none 0 0) := by rw [hc2 _ _ (by omega)]; exact p1
    have p2' : w1.cell? ⟨w.heap.size, 2, none⟩ = some (.slice ra nr cr) := by rw [hc2 _ _ (by omega)]; exact p2
    have hxw : Below w.heap.size w w1 := chain hA hb1
    clear hc2 hf2
    go_wp2_with fail
    refine wp_region_held_drew (S := (fun w' => w'.cell? ⟨w.heap.size, 0, none⟩ = some (.string nm) ∧ w'.cell? ⟨w.heap.size, 2, none⟩ = some (.slice ra nr cr))) (by kernel_rfl) ?_ (fun hHeld => ?_)
    · (((try dsimp only); (repeat' apply And.intro) <;> first | (go_keep; done) | (simp (disch := first | omega | (simp <;> omega) | fail) [*]; done) | fail))
    refine wpAnyH_take (i := 0) (by simp only [List.getElem?_toArray, List.getElem?_cons_zero]; rfl) (by kernel_rfl) (by kernel_rfl) (by kernel_rfl) (by intro _ _ _ h; exact h) (Or.inl ⟨by rfl, fun w hSw => by (dsimp only at hSw; go_simp; (try with_reducible rfl))⟩) (by assumption) ?_
    simp only [Act.put, List.setIfInBounds_toArray, List.set_cons_zero, List.set_cons_succ]
    refine wpAnyH_take (i := 1) (by simp only [List.getElem?_toArray, List.getElem?_cons_zero, List.getElem?_cons_succ]; rfl) (by kernel_rfl) (by kernel_rfl) (by kernel_rfl) (by intro _ _ _ h; exact h) (Or.inl ⟨by rfl, fun w hSw => by (dsimp only at hSw; go_simp; (try with_reducible rfl))⟩) (by assumption) ?_
    simp only [Act.put, List.setIfInBounds_toArray, List.set_cons_zero, List.set_cons_succ]
    refine wpAnyH_take (i := 2) (by simp only [List.getElem?_toArray, List.getElem?_cons_zero, List.getElem?_cons_succ]; rfl) (by kernel_rfl) (by kernel_rfl) (by kernel_rfl) (by intro _ _ _ h; exact h) (Or.inl ⟨by rfl, fun w hSw => by (dsimp only at hSw; go_simp; (try with_reducible rfl))⟩) (by assumption) ?_
    simp only [Act.put, List.setIfInBounds_toArray, List.set_cons_zero, List.set_cons_succ]
    refine wpAnyH_take (i := 3) (by simp only [List.getElem?_toArray, List.getElem?_cons_zero, List.getElem?_cons_succ]; rfl) (by kernel_rfl) (by kernel_rfl) (by kernel_rfl) (by intro _ _ _ h; exact h) (Or.inl ⟨by rfl, fun w hSw => by (dsimp only at hSw; go_simp; (try with_reducible rfl))⟩) (by assumption) ?_
    simp only [Act.put, List.setIfInBounds_toArray, List.set_cons_zero, List.set_cons_succ]
    refine wpAnyH_take (i := 4) (by simp only [List.getElem?_toArray, List.getElem?_cons_zero, List.getElem?_cons_succ]; rfl) (by kernel_rfl) (by kernel_rfl) (by kernel_rfl) (by intro _ _ _ h; exact h) (Or.inl ⟨by rfl, fun w hSw => by (dsimp only at hSw; go_simp; (try with_reducible rfl))⟩) (by assumption) ?_
    simp only [Act.put, List.setIfInBounds_toArray, List.set_cons_zero, List.set_cons_succ]
    refine wpAnyH_ready (rs := [5]) (by kernel_rfl) (by simp) ?_
    refine AllReadyH.cons (by simp only [List.getElem?_toArray, List.getElem?_cons_zero, List.getElem?_cons_succ]; rfl) ?_ AllReadyH.nil
    intro K hK
    go_simp
    refine (copied_rowsN ra cr L nr HNR.out _ ((HT.out.below hxw).rows.below (Below.refl _ _).drew) hr1 HMS.out).mono ?_
    rintro e wB ⟨vr, G, D, rfl, own2, hbB, hvr⟩
    obtain ⟨g2, c2, rfl⟩ : ∃ g2 c2, vr = .slice (some ⟨g2, 0, none⟩) nr c2 := by
      rcases own2.outer.2 with ⟨h', _⟩ | ⟨g2, c2, cur, h', _⟩
      · exact absurd h' hvr
      · exact ⟨g2, c2, by rw [h', HNR.out]⟩
    have hxB : Below w1.heap.size w1 wB := undrew hbB
    have hsB := hxB.size
    have hWB : Below W.heap.size W wB := hb1.trans (hxB.mono hsz2)
    obtain ⟨hca, hfa⟩ := bcell hWB
    have OT : Hid (OutTab wB W.heap.size (some ⟨W.heap.size, 0, none⟩) 0 (some ⟨g2, 0, none⟩) (nm, [], L) (fun i => some ⟨G i, 0, none⟩) D) := by
      have : OutTab wB W.heap.size (some ⟨W.heap.size, 0, none⟩) 0 (some ⟨g2, 0, none⟩) (nm, [], L) (fun i => some ⟨G i, 0, none⟩) D :=
        out_of_own (S := 9) (t := (nm, [], L)) (by decide) (by decide) (own_below O1.out hxB) (by rw [show (nm, [], L).2.2.length = nr from HNR.out]; exact own2.base hsz2) (Nat.le_refl _) HT.out.fit HT.out.name HT.out.len HT.out.lenR (fun i hi => by obtain ⟨_, _, _, _, _, _, _, _, h, _⟩ := HT.out.rows i hi; exact h) (fun i hi => by obtain ⟨_, _, _, _, _, _, _, _, _, h, _⟩ := HT.out.rows i hi; exact h)
      exact this
    obtain ⟨⟨q0, q1, q2⟩, e0, e1, e2⟩ := dd.out
    have t0 : wB.cell? ⟨w.heap.size + 1, 0, none⟩ = some (.string ⟨#[]⟩) := by rw [hca _ _ (by omega)]; exact q0
    have t1 : wB.cell? ⟨w.heap.size + 1, 1, none⟩ = some (.slice none 0 0) := by rw [hca _ _ (by omega)]; exact q1
    have t2 : wB.cell? ⟨w.heap.size + 1, 2, none⟩ = some (.slice none 0 0) := by rw [hca _ _ (by omega)]; exact q2
    have h0 : wB.frozen? ⟨w.heap.size + 1, 0, none⟩ = false := by rw [hfa _ _ (by omega)]; exact e0
    have h1 : wB.frozen? ⟨w.heap.size + 1, 1, none⟩ = false := by rw [hfa _ _ (by omega)]; exact e1
    have h2 : wB.frozen? ⟨w.heap.size + 1, 2, none⟩ = false := by rw [hfa _ _ (by omega)]; exact e2
    have s0 : wB.cell? ⟨w.heap.size, 0, none⟩ = some (.string nm) := by rw [hca _ _ (by omega)]; exact p0
    have s2 : wB.cell? ⟨w.heap.size, 2, none⟩ = some (.slice ra nr cr) := by rw [hca _ _ (by omega)]; exact p2
    have hxf : Below w.heap.size w wB := chain hA hWB
    have hcap2' : nr ≤ c2 := by have := own_cap own2.outer; rw [HNR.out] at this; exact this
    clear own2 hca hfa q0 q1 q2 e0 e1 e2
    go_wp2_with fail
    refine hK.out _ _ ⟨s0, s2⟩ (fun hHeld => ?_)
    clear hK K
    try simp only [Act.put, List.setIfInBounds_toArray, List.set_cons_zero, List.set_cons_succ]
    refine wpAnyH_take (i := 6) (by simp only [List.getElem?_toArray, List.getElem?_cons_zero, List.getElem?_cons_succ]; rfl) (by kernel_rfl) (by kernel_rfl) (by kernel_rfl) (by intro _ _ _ h; exact h) (Or.inl ⟨by rfl, fun w hSw => by (dsimp only at hSw; go_simp; (try with_reducible rfl))⟩) (by assumption) ?_
    simp only [Act.put, List.setIfInBounds_toArray, List.set_cons_zero, List.set_cons_succ]
    refine wpAnyH_ready (rs := [7]) (by kernel_rfl) (by simp) ?_
    refine AllReadyH.cons (by simp only [List.getElem?_toArray, List.getElem?_cons_zero, List.getElem?_cons_succ]; rfl) ?_ AllReadyH.nil
    intro K hK
    go_simp
    refine hK.out _ _ ?_ (fun hHeld => ?_)
    · (((try dsimp only); (repeat' apply And.intro) <;> first | (go_keep; done) | (simp (disch := first | omega | (simp <;> omega) | fail) [*]; done) | fail))
    clear hK K
    try simp only [Act.put, List.setIfInBounds_toArray, List.set_cons_zero, List.set_cons_succ]
    refine wpAnyH_done (by kernel_rfl) ?_ _
    go_wp2_with fail
    have hs9 := HWS.out
    refine bodyPost_ret (v := .agg #[.string nm, .slice (some ⟨W.heap.size, 0, none⟩) 0 0, .slice (some ⟨g2, 0, none⟩) nr c2]) (by simp [results, Tryz.results50, go_sem, t0, t1, t2]) rfl ⟨_, _, g2, c2, _, _, rfl, (OT.out.set3 (w.heap.size + 1) (by omega) _ _ _ _ _ _).base (by omega), ?_, hcap2'⟩
    repeat (first | exact hxf | refine Below.setCell ?_ (by first | (simp; done) | (simp; omega)) _)
  | some ad =>
    go_enter Tryz.func50, Tryz.ntmps50
    go_wp2_with fail
    obtain ⟨W, hW⟩ : ∃ W, W = ((w.alloc (.cells #[.string nm, .slice (some ad) nc cc, .slice ra nr cr] 44)).alloc (.cells #[.string ⟨#[]⟩, .slice none 0 0, .slice none 0 0] 44)) := ⟨_, rfl⟩
    rw [← hW]
    have hA : Below w.heap.size w W := by rw [hW]; exact ((Below.refl _ _).alloc (Nat.le_refl _) _).alloc (by simp) _
    have hWs : W.heap.size = w.heap.size + 1 + 1 := by rw [hW]; simp
    have p0 : W.cell? ⟨w.heap.size, 0, none⟩ = some (.string nm) := by rw [hW]; simp
    have p1 : W.cell? ⟨w.heap.size, 1, none⟩ = some (.slice (some ad) nc cc) := by rw [hW]; simp
    have p2 : W.cell? ⟨w.heap.size, 2, none⟩ = some (.slice ra nr cr) := by rw [hW]; simp
    have dd : Hid ((W.cell? ⟨w.heap.size + 1, 0, none⟩ = some (.string ⟨#[]⟩) ∧ W.cell? ⟨w.heap.size + 1, 1, none⟩ = some (.slice none 0 0) ∧ W.cell? ⟨w.heap.size + 1, 2, none⟩ = some (.slice none 0 0)) ∧ W.frozen? ⟨w.heap.size + 1, 0, none⟩ = false ∧ W.frozen? ⟨w.heap.size + 1, 1, none⟩ = false ∧ W.frozen? ⟨w.heap.size + 1, 2, none⟩ = false) := by
      have : (W.cell? ⟨w.heap.size + 1, 0, none⟩ = some (.string ⟨#[]⟩) ∧ W.cell? ⟨w.heap.size + 1, 1, none⟩ = some (.slice none 0 0) ∧ W.cell? ⟨w.heap.size + 1, 2, none⟩ = some (.slice none 0 0)) ∧ W.frozen? ⟨w.heap.size + 1, 0, none⟩ = false ∧ W.frozen? ⟨w.heap.size + 1, 1, none⟩ = false ∧ W.frozen? ⟨w.heap.size + 1, 2, none⟩ = false := by
        rw [hW]; refine ⟨⟨?_, ?_, ?_⟩, ?_, ?_, ?_⟩ <;> simp
      exact this
    have HWS : Hid (W.heap.size = w.heap.size + 1 + 1) := hWs
    have hlw : w.heap.size + 1 < W.heap.size := by omega
    clear hW hWs
    refine wp_region_held_drew (S := (fun w' => w'.cell? ⟨w.heap.size, 1, none⟩ = some (.slice (some ad) nc cc))) (by kernel_rfl) ?_ (fun hHeld => ?_)
    · (((try dsimp only); (repeat' apply And.intro) <;> first | (go_keep; done) | (simp (disch := first | omega | (simp <;> omega) | fail) [*]; done) | fail))
    refine wpAnyH_take (i := 0) (by simp only [List.getElem?_toArray, List.getElem?_cons_zero]; rfl) (by kernel_rfl) (by kernel_rfl) (by kernel_rfl) (by intro _ _ _ h; exact h) (Or.inl ⟨by rfl, fun w hSw => by (dsimp only at hSw; go_simp; (try with_reducible rfl))⟩) (by assumption) ?_
    simp only [Act.put, List.setIfInBounds_toArray, List.set_cons_zero, List.set_cons_succ]
    refine wpAnyH_take (i := 1) (by simp only [List.getElem?_toArray, List.getElem?_cons_zero, List.getElem?_cons_succ]; rfl) (by kernel_rfl) (by kernel_rfl) (by kernel_rfl) (by intro _ _ _ h; exact h) (Or.inl ⟨by rfl, fun w hSw => by (dsimp only at hSw; go_simp; (try with_reducible rfl))⟩) (by assumption) ?_
    simp only [Act.put, List.setIfInBounds_toArray, List.set_cons_zero, List.set_cons_succ]
    refine wpAnyH_take (i := 2) (by simp only [List.getElem?_toArray, List.getElem?_cons_zero, List.getElem?_cons_succ]; rfl) (by kernel_rfl) (by kernel_rfl) (by kernel_rfl) (by intro _ _ _ h; exact h) (Or.inl ⟨by rfl, fun w hSw => by (dsimp only at hSw; go_simp; (try with_reducible rfl))⟩) (by assumption) ?_
    simp only [Act.put, List.setIfInBounds_toArray, List.set_cons_zero, List.set_cons_succ]
    refine wpAnyH_take (i := 4) (by simp only [List.getElem?_toArray, List.getElem?_cons_zero, List.getElem?_cons_succ]; rfl) (by kernel_rfl) (by kernel_rfl) (by kernel_rfl) (by intro _ _ _ h; exact h) (Or.inl ⟨by rfl, fun w hSw => by (dsimp only at hSw; go_simp; (try with_reducible rfl))⟩) (by assumption) ?_
    simp only [Act.put, List.setIfInBounds_toArray, List.set_cons_zero, List.set_cons_succ]
    refine wpAnyH_take (i := 5) (by simp only [List.getElem?_toArray, List.getElem?_cons_zero, List.getElem?_cons_succ]; rfl) (by kernel_rfl) (by kernel_rfl) (by kernel_rfl) (by intro _ _ _ h; exact h) (Or.inl ⟨by rfl, fun w hSw => by (dsimp only at hSw; go_simp; (try with_reducible rfl))⟩) (by assumption) ?_
    simp only [Act.put, List.setIfInBounds_toArray, List.set_cons_zero, List.set_cons_succ]
    refine wpAnyH_ready (rs := [3]) (by kernel_rfl) (by simp) ?_
    refine AllReadyH.cons (by simp only [List.getElem?_toArray, List.getElem?_cons_zero, List.getElem?_cons_succ]; rfl) ?_ AllReadyH.nil
    intro K hK
    rw [if_pos (by rfl)]
    refine wp_make_own' _ _ _ 23 rfl W.heap.size 9 i0 (.string ⟨#[]⟩) 1 Tryz.underlying23 hi hz0 hz1 .i64 .i64 _ nc rfl rfl rfl (by rw [hz2]; omega) (by unfold maxLen; omega) (Nat.le_refl _) ?_
    intro w1 hown hgrow
    have hb1 : Below W.heap.size W w1 := ((Below.refl _ _).drew).grown hgrow (Nat.le_refl _) (by intro k h; cases h)
    have O1 : Hid (w1.ownsRow W.heap.size 9 1 (.slice (some ⟨W.heap.size, 0, none⟩) 0 nc) 0 []) := hown
    have hs1 := hb1.size
    have k1 : w1.cell? ⟨w.heap.size, 1, none⟩ = some (.slice (some ad) nc cc) := by rw [hb1.cell (p := ⟨w.heap.size, 1, none⟩) (by show w.heap.size < _; omega)]; exact p1
    clear hown hgrow
    refine hK.out _ _ k1 (fun hHeld => ?_)
    clear hK K
    try simp only [Act.put, List.setIfInBounds_toArray, List.set_cons_zero, List.set_cons_succ]
    refine wpAnyH_ready (rs := [6]) (by kernel_rfl) (by simp) ?_
    refine AllReadyH.cons (by simp only [List.getElem?_toArray, List.getElem?_cons_zero, List.getElem?_cons_succ]; rfl) ?_ AllReadyH.nil
    intro K hK
    rw [if_pos (by rfl)]
    refine wp_append_own _ _ _ 23 rfl W.heap.size 9 i0 (.string ⟨#[]⟩) 1 16 Tryz.underlying23 hi hz0 hz1 hz2 rfl (by decide) (.slice (some ⟨W.heap.size, 0, none⟩) 0 nc) 0 [] rfl O1.out ad nc cc (strV C) rfl (by rw [strV_length, HNC.out]; omega) ?_ ?_ ?_ ?_ ?_ ?_
    · exact strV_cells ((HT.out.below (chain hA hb1)).cols)
    · intro u hu
      obtain ⟨b, _, rfl⟩ := List.mem_map.1 hu
      rfl
    · unfold maxLen; omega
    · omega
    · exact hs1
    intro v2 w2 own2 hgrow2 hnn2
    try rw [List.nil_append, Nat.zero_add] at own2
    obtain ⟨g, c, rfl⟩ : ∃ g c, v2 = .slice (some ⟨g, 0, none⟩) nc c := by
      rcases own2.2 with ⟨h', _⟩ | ⟨g, c, cur, h', _⟩
      · exact absurd ((hnn2.1 h').1) (by simp)
      · exact ⟨g, c, h'⟩
    have hb2 : Below W.heap.size W w2 := hb1.grown hgrow2 hs1 (by intro k hk; simp [Value.ownBlock] at hk; omega)
    have k2 : w2.cell? ⟨w.heap.size, 1, none⟩ = some (.slice (some ad) nc cc) := by rw [hb2.cell (p := ⟨w.heap.size, 1, none⟩) (by show w.heap.size < _; omega)]; exact p1
    have O2 : Hid (w2.ownsRow W.heap.size 9 1 (.slice (some ⟨g, 0, none⟩) nc c) nc (strV C)) := own2
    have hcap2 : nc ≤ c := by
      rcases O2.out.2 with ⟨h', _⟩ | ⟨g', c', cur, h', _, _, hle, _⟩
      · simp at h'
      · simp at h'; omega
    clear own2 hgrow2 hnn2
    refine hK.out _ _ k2 (fun hHeld => ?_)
    clear hK K
    try simp only [Act.put, List.setIfInBounds_toArray, List.set_cons_zero, List.set_cons_succ]
    refine wpAnyH_take (i := 7) (by simp only [List.getElem?_toArray, List.getElem?_cons_zero, List.getElem?_cons_succ]; rfl) (by kernel_rfl) (by kernel_rfl) (by kernel_rfl) (by intro _ _ _ h; exact h) (Or.inl ⟨by rfl, fun w hSw => by (dsimp only at hSw; go_simp; (try with_reducible rfl))⟩) (by assumption) ?_
    simp only [Act.put, List.setIfInBounds_toArray, List.set_cons_zero, List.set_cons_succ]
    refine wpAnyH_done (by kernel_rfl) ?_ _
    clear hHeld
    obtain ⟨hc2, hf2⟩ := bcell hb2
    have hsz2 := (hb2).size
    have p0' : w2.cell? ⟨w.heap.size, 0, none⟩ = some (.string nm) := by rw [hc2 _ _ (by omega)]; exact p0
    have p1' : w2.cell? ⟨w.heap.size, 1, none⟩ = some (.slice (some ad) nc cc) := by rw [hc2 _ _ (by omega)]; exact p1
    have p2' : w2.cell? ⟨w.heap.size, 2, none⟩ = some (.slice ra nr cr) := by rw [hc2 _ _ (by omega)]; exact p2
    have hxw : Below w.heap.size w w2 := chain hA hb2
    clear hc2 hf2
    go_wp2_with fail
    refine wp_region_held_drew (S := (fun w' => w'.cell? ⟨w.heap.size, 0, none⟩ = some (.string nm) ∧ w'.cell? ⟨w.heap.size, 2, none⟩ = some (.slice ra nr cr))) (by kernel_rfl) ?_ (fun hHeld => ?_)
    · (((try dsimp only); (repeat' apply And.intro) <;> first | (go_keep; done) | (simp (disch := first | omega | (simp <;> omega) | fail) [*]; done) | fail))
    refine wpAnyH_take (i := 0) (by simp only [List.getElem?_toArray, List.getElem?_cons_zero]; rfl) (by kernel_rfl) (by kernel_rfl) (by kernel_rfl) (by intro _ _ _ h; exact h) (Or.inl ⟨by rfl, fun w hSw => by (dsimp only at hSw; go_simp; (try with_reducible rfl))⟩) (by assumption) ?_
    simp only [Act.put, List.setIfInBounds_toArray, List.set_cons_zero, List.set_cons_succ]
    refine wpAnyH_take (i := 1) (by simp only [List.getElem?_toArray, List.getElem?_cons_zero, List.getElem?_cons_succ]; rfl) (by kernel_rfl) (by kernel_rfl) (by kernel_rfl) (by intro _ _ _ h; exact h) (Or.inl ⟨by rfl, fun w hSw => by (dsimp only at hSw; go_simp; (try with_reducible rfl))⟩) (by assumption) ?_
    simp only [Act.put, List.setIfInBounds_toArray, List.set_cons_zero, List.set_cons_succ]
    refine wpAnyH_take (i := 2) (by simp only [List.getElem?_toArray, List.getElem?_cons_zero, List.getElem?_cons_succ]; rfl) (by kernel_rfl) (by kernel_rfl) (by kernel_rfl) (by intro _ _ _ h; exact h) (Or.inl ⟨by rfl, fun w hSw => by (dsimp only at hSw; go_simp; (try with_reducible rfl))⟩) (by assumption) ?_
    simp only [Act.put, List.setIfInBounds_toArray, List.set_cons_zero, List.set_cons_succ]
    refine wpAnyH_take (i := 3) (by simp only [List.getElem?_toArray, List.getElem?_cons_zero, List.getElem?_cons_succ]; rfl) (by kernel_rfl) (by kernel_rfl) (by kernel_rfl) (by intro _ _ _ h; exact h) (Or.inl ⟨by rfl, fun w hSw => by (dsimp only at hSw; go_simp; (try with_reducible rfl))⟩) (by assumption) ?_
    simp only [Act.put, List.setIfInBounds_toArray, List.set_cons_zero, List.set_cons_succ]
    refine wpAnyH_take (i := 4) (by simp only [List.getElem?_toArray, List.getElem?_cons_zero, List.getElem?_cons_succ]; rfl) (by kernel_rfl) (by kernel_rfl) (by kernel_rfl) (by intro _ _ _ h; exact h) (Or.inl ⟨by rfl, fun w hSw => by (dsimp only at hSw; go_simp; (try with_reducible rfl))⟩) (by assumption) ?_
    simp only [Act.put, List.setIfInBounds_toArray, List.set_cons_zero, List.set_cons_succ]
    refine wpAnyH_ready (rs := [5]) (by kernel_rfl) (by simp) ?_
    refine AllReadyH.cons (by simp only [List.getElem?_toArray, List.getElem?_cons_zero, List.getElem?_cons_succ]; rfl) ?_ AllReadyH.nil
    intro K hK
    go_simp
    refine (copied_rowsN ra cr L nr HNR.out _ ((HT.out.below hxw).rows.below (Below.refl _ _).drew) hr1 HMS.out).mono ?_
    rintro e wB ⟨vr, G, D, rfl, own2, hbB, hvr⟩
    obtain ⟨g2, c2, rfl⟩ : ∃ g2 c2, vr = .slice (some ⟨g2, 0, none⟩) nr c2 := by
      rcases own2.outer.2 with ⟨h', _⟩ | ⟨g2, c2, cur, h', _⟩
      · exact absurd h' hvr
      · exact ⟨g2, c2, by rw [h', HNR.out]⟩
    have hxB : Below w2.heap.size w2 wB := undrew hbB
    have hsB := hxB.size
    have hWB : Below W.heap.size W wB := hb2.trans (hxB.mono hsz2)
    obtain ⟨hca, hfa⟩ := bcell hWB
    have OT : Hid (OutTab wB W.heap.size (some ⟨g, 0, none⟩) c (some ⟨g2, 0, none⟩) (nm, C, L) (fun i => some ⟨G i, 0, none⟩) D) := by
      have : OutTab wB W.heap.size (some ⟨g, 0, none⟩) c (some ⟨g2, 0, none⟩) (nm, C, L) (fun i => some ⟨G i, 0, none⟩) D :=
        out_of_own (S := 9) (t := (nm, C, L)) (by decide) (by decide) (by rw [show (nm, C, L).2.1.length = nc from HNC.out]; exact own_below O2.out hxB) (by rw [show (nm, C, L).2.2.length = nr from HNR.out]; exact own2.base hsz2) (by rw [show (nm, C, L).2.1.length = nc from HNC.out]; exact hcap2) HT.out.fit HT.out.name HT.out.len HT.out.lenR (fun i hi => by obtain ⟨_, _, _, _, _, _, _, _, h, _⟩ := HT.out.rows i hi; exact h) (fun i hi => by obtain ⟨_, _, _, _, _, _, _, _, _, h, _⟩ := HT.out.rows i hi; exact h)
      exact this
    obtain ⟨⟨q0, q1, q2⟩, e0, e1, e2⟩ := dd.out
    have t0 : wB.cell? ⟨w.heap.size + 1, 0, none⟩ = some (.string ⟨#[]⟩) := by rw [hca _ _ (by omega)]; exact q0
    have t1 : wB.cell? ⟨w.heap.size + 1, 1, none⟩ = some (.slice none 0 0) := by rw [hca _ _ (by omega)]; exact q1
    have t2 : wB.cell? ⟨w.heap.size + 1, 2, none⟩ = some (.slice none 0 0) := by rw [hca _ _ (by omega)]; exact q2
    have h0 : wB.frozen? ⟨w.heap.size + 1, 0, none⟩ = false := by rw [hfa _ _ (by omega)]; exact e0
    have h1 : wB.frozen? ⟨w.heap.size + 1, 1, none⟩ = false := by rw [hfa _ _ (by omega)]; exact e1
    have h2 : wB.frozen? ⟨w.heap.size + 1, 2, none⟩ = false := by rw [hfa _ _ (by omega)]; exact e2
    have s0 : wB.cell? ⟨w.heap.size, 0, none⟩ = some (.string nm) := by rw [hca _ _ (by omega)]; exact p0
    have s2 : wB.cell? ⟨w.heap.size, 2, none⟩ = some (.slice ra nr cr) := by rw [hca _ _ (by omega)]; exact p2
    have hxf : Below w.heap.size w wB := chain hA hWB
    have hcap2' : nr ≤ c2 := by have := own_cap own2.outer; rw [HNR.out] at this; exact this
    clear own2 hca hfa q0 q1 q2 e0 e1 e2
    go_wp2_with fail
    refine hK.out _ _ ⟨s0, s2⟩ (fun hHeld => ?_)
    clear hK K
    try simp only [Act.put, List.setIfInBounds_toArray, List.set_cons_zero, List.set_cons_succ]
    refine wpAnyH_take (i := 6) (by simp only [List.getElem?_toArray, List.getElem?_cons_zero, List.getElem?_cons_succ]; rfl) (by kernel_rfl) (by kernel_rfl) (by kernel_rfl) (by intro _ _ _ h; exact h) (Or.inl ⟨by rfl, fun w hSw => by (dsimp only at hSw; go_simp; (try with_reducible rfl))⟩) (by assumption) ?_
    simp only [Act.put, List.setIfInBounds_toArray, List.set_cons_zero, List.set_cons_succ]
    refine wpAnyH_ready (rs := [7]) (by kernel_rfl) (by simp) ?_
    refine AllReadyH.cons (by simp only [List.getElem?_toArray, List.getElem?_cons_zero, List.getElem?_cons_succ]; rfl) ?_ AllReadyH.nil
    intro K hK
    go_simp
    refine hK.out _ _ ?_ (fun hHeld => ?_)
    · (((try dsimp only); (repeat' apply And.intro) <;> first | (go_keep; done) | (simp (disch := first | omega | (simp <;> omega) | fail) [*]; done) | fail))
    clear hK K
    try simp only [Act.put, List.setIfInBounds_toArray, List.set_cons_zero, List.set_cons_succ]
    refine wpAnyH_done (by kernel_rfl) ?_ _
    go_wp2_with fail
    have hs9 := HWS.out
    refine bodyPost_ret (v := .agg #[.string nm, .slice (some ⟨g, 0, none⟩) nc c, .slice (some ⟨g2, 0, none⟩) nr c2]) (by simp [results, Tryz.results50, go_sem, t0, t1, t2]) rfl ⟨_, _, g2, c2, _, _, rfl, (OT.out.set3 (w.heap.size + 1) (by omega) _ _ _ _ _ _).base (by omega), ?_, hcap2'⟩
    repeat (first | exact hxf | refine Below.setCell ?_ (by first | (simp; done) | (simp; omega)) _)

end Go.Proofs.YteamdmcgkpeelakGreat

/-
  The contracts of the program's shelf: asked for a name, and told as a list of tables in memory of its own.
-/
namespace Go.Proofs.YteamdmcgkpeelakGreat
open Go.ChangeShapes Go.WideShapes Go.ChangeAt Go.RowKit Go.Maps
attribute [local go_sem ↓] Go.wp_at_zero Go.wp_at_succ
attribute [local simp] World.cell?_alloc_past World.cell?_alloc_at World.frozen?_alloc_at cell_far cell_off cell_here World.frozen?_alloc_past

/-- Tables that can be copied. -/
def Small (t : TB) : Prop := t.2.1.length ≤ 1048576 ∧ t.2.2.length ≤ 1048576 ∧ ∀ i (h : i < t.2.2.length), t.2.2[i].length ≤ 1048576
theorem has_impl (w0 : World) (B n : Nat) (U : List TB) (w : World) (h : ShelfT w0 w B n U) (s : ByteArray) (hs : s.size ≤ maxLen) (b : Bool) (hb : decide (s ∈ namesT U) = b) :
    Calls Tryz.prog 26 #[.map (some B), .string s] w fun e w' => e = .returned (.bool b) ∧ Below w.heap.size w w' := by
  obtain ⟨_, f, hS, hH⟩ := h
  refine has_at B n (namesT U) f w hS (fun x hx => ?_) s hs b hb
  obtain ⟨t, ht, e⟩ := List.mem_map.1 hx
  obtain ⟨ca, cc, ra, cr, ef, _⟩ := hH t ht
  exact ⟨ca, _, cc, ra, _, cr, by rw [← e]; exact ef⟩

theorem infoTI : (Tryz.prog.info? 44).map (fun i => (i.zero, i.size, i.bytes)) = some (some (.agg #[.string ⟨#[]⟩, .slice none 0 0, .slice none 0 0]), 3, 64) := by kernel_rfl


/-- What is told: a list of tables in memory of its own. -/
def ListOut (w : World) (n : Nat) (V : List TB) (e : Ending) (w' : World) : Prop := ∃ a cap Q, e = .returned (.slice a n cap) ∧ OutTs w' w.heap.size a V Q ∧ Below w.heap.size w w' ∧ n ≤ cap
set_option maxRecDepth 100000 in
set_option maxHeartbeats 4000000 in
theorem listed_impl (w0 : World) (B m : Nat) (U V : List TB) (hp : V.Perm U) (hr : risesN (namesT V) = true) (n : Nat) (hn : V.length = n) (hn6 : n ≤ 1048576) (hsm : ∀ t, t ∈ V → Small t) (w : World) (hS : ShelfT w0 w B m U) (h0 : Below w0.heap.size w0 w) :
    Calls Tryz.prog 28 #[.map (some B)] w (ListOut w n V) := by
  obtain ⟨i0, hti, hz0, hz1, hz2⟩ := info_parts infoTI
  obtain ⟨hnd, f, hSh, hH⟩ := hS
  have hlU : (namesT U).length = n := by rw [namesT_length, ← hp.length_eq]; exact hn
  have hsrt : srt (namesT U) = namesT V := srt_is hr (hp.map _)
  have HSh : Hid (ShelfAt w B m (namesT U) f) := hSh
  have hH2 : ∀ t, t ∈ V → t.1 ∈ namesT U ∧ HoldsT w0 f t := fun t ht => ⟨List.mem_map_of_mem (hp.mem_iff.1 ht), hH t (hp.mem_iff.1 ht)⟩
  have HH : Hid (∀ t, t ∈ V → t.1 ∈ namesT U ∧ HoldsT w0 f t) := hH2
  have HSM : Hid (∀ t, t ∈ V → Small t) := hsm
  have HN : Hid (V.length = n) := hn
  have HLU : Hid ((namesT U).length = n) := hlU
  have HSRT : Hid (srt (namesT U) = namesT V) := hsrt
  have hlen := fun ty => hSh.len ty
  have HSh0 : Hid (B < w.heap.size) := hSh.lt
  rw [hlU] at hlen
  clear hnd hH hp hr hn hsm hH2 hlU hsrt hSh
  go_enter Tryz.func28, Tryz.ntmps28
  go_wp2_with (at_make; refine wpList_make_own _ rfl _ _ 26 rfl w.heap.size 44 i0 (.agg #[.string ⟨#[]⟩, .slice none 0 0, .slice none 0 0]) 3 Tryz.underlying26 hti hz0 hz1 .i64 .i64 _ n rfl rfl rfl (by rw [hz2]; omega) (by unfold maxLen; omega) (by simp) ?_)
  intro w1 hown1 hgrow1
  have hb1 : Below w.heap.size w w1 := (Below.refl _ _).grown hgrow1 (Nat.le_refl _) (by intro k h; cases h)
  have own1 : Hid (OwnTs w1 w.heap.size (.slice (some ⟨w.heap.size, 0, none⟩) 0 n) V (fun _ => ⟨none, 0, none, 0, fun _ => none, fun _ => 0⟩) 0) := OwnTs.start _ hown1
  have HSh1 : Hid (ShelfAt w1 B m (namesT U) f) := HSh.out.below hb1
  have hs1 : w.heap.size ≤ w1.heap.size := hb1.size
  clear hown1 hgrow1 hlen HSh
  go_wp2_with fail
  refine (names_impl B m (namesT U) f _ HSh1.out (by rw [HLU.out]; omega)).mono ?_
  rintro e w2 ⟨v2, rfl, own2, _, hb2⟩
  rw [HSRT.out, HLU.out] at own2
  obtain ⟨ga, gc, hv2, hst, _, _⟩ := own_strsF own2 (by rw [namesT_length]; exact HN.out)
  subst hv2
  have hGN : ∀ b, inBlk ga (namesT V).length b → w1.heap.size ≤ b ∧ b < w2.heap.size := by
    rintro b ⟨_, o, rfl⟩
    exact own2.lt b rfl
  have HGN : Hid (∀ b, inBlk ga (namesT V).length b → w1.heap.size ≤ b ∧ b < w2.heap.size) := hGN
  have HST : Hid (StrsAt w2 ga (namesT V)) := hst
  have HSh2 : Hid (ShelfAt w2 B m (namesT U) f) := HSh1.out.below hb2
  have hBw : B < w.heap.size := HSh0.out
  have hx2 := chain hb1 hb2
  have hs12 : w1.heap.size ≤ w2.heap.size := hb2.size
  have hw1 : w.heap.size < w1.heap.size := (own1.out.own.lt _ rfl).2
  have own2' : Hid (∃ Q, OwnTs w2 w.heap.size (.slice (some ⟨w.heap.size, 0, none⟩) 0 n) V Q 0) := ⟨_, own1.out.below hb2⟩
  clear own2 own1 HSh1 hst hb1 hb2 hs1 hGN
  go_wp2
  go_loopw [3, 12] (fun v kk wr => ∃ k : Nat, k ≤ n ∧ kk = .int .i64 k ∧ Hid (∃ Q, OwnTs wr w.heap.size v V Q k) ∧ Hid (StrsAt wr ga (namesT V)) ∧ Hid (ShelfAt wr B m (namesT U) f) ∧ Hid (∀ g, v.ownBlock = some g → g < w1.heap.size ∨ w2.heap.size ≤ g) ∧ Below w.heap.size w wr ∧ w2.heap.size ≤ wr.heap.size) (fun _ kk _ => n - (intOf kk).toNat)
  case atStart =>
    have hg : ∀ g, (Value.slice (some ⟨w.heap.size, 0, none⟩) 0 n).ownBlock = some g → g < w1.heap.size ∨ w2.heap.size ≤ g := by
      intro g hg
      simp [Value.ownBlock] at hg
      omega
    exact ⟨0, Nat.zero_le _, rfl, own2', HST, HSh2, hg, hx2, Nat.le_refl _⟩
  case round =>
    obtain ⟨k, hk, rfl, hOw, hSt, hShr, hGv, hbw, hszr⟩ := hrel
    by_cases hlt : k < n
    · have hlt' : Hid (k < V.length) := by have := HN.out; exact show k < V.length by omega
      obtain ⟨gn, on, rfl, hgw, c0⟩ := hSt.out k (by rw [namesT_length]; exact hlt'.out)
      rw [namesT_at V k hlt'.out] at c0
      have hi0 : (0 : Int) ≤ (k : Int) := by omega
      have hi1 : (k : Int) < (n : Int) := by omega
      obtain ⟨Q, hO⟩ := hOw.out
      have HO : Hid (OwnTs wr w.heap.size _ V Q k) := hO
      have hmem : (V[k]'hlt'.out) ∈ V := List.getElem_mem hlt'.out
      obtain ⟨hin, ca, cc, ra, cr, hf, hta⟩ := HH.out _ hmem
      have hsml := HSM.out _ hmem
      have hnmL := hta.name
      have hrun := (hShr.out.found _ hnmL hin).1
      rw [hf] at hrun
      have HTA : Hid (TabAt wr ca cc ra (V[k]'hlt'.out)) := hta.below (h0.trans (hbw.mono h0.size))
      have HSS : Hid (Small (V[k]'hlt'.out)) := hsml
      obtain ⟨t, ht⟩ : ∃ t, (V[k]'hlt'.out) = t := ⟨_, rfl⟩
      rw [ht] at c0 hrun HTA HSS
      have HVK : Hid ((V[k]'hlt'.out) = t) := ht
      clear hO hOw hin hf hta hsml hnmL hmem ht
      obtain ⟨nc, hnc⟩ : ∃ z, t.2.1.length = z := ⟨_, rfl⟩
      obtain ⟨nr, hnr⟩ : ∃ z, t.2.2.length = z := ⟨_, rfl⟩
      obtain ⟨nm, hnm⟩ : ∃ z, t.1 = z := ⟨_, rfl⟩
      rw [hnc, hnr, hnm] at hrun
      rw [hnm] at c0
      have HNC : Hid (t.2.1.length = nc) := hnc
      have HNR : Hid (t.2.2.length = nr) := hnr
      have HNM : Hid (t.1 = nm) := hnm
      clear hnc hnr hnm
      have hncS : nc ≤ 1048576 := by rw [← HNC.out]; exact HSS.out.1
      have hnrS : nr ≤ 1048576 := by rw [← HNR.out]; exact HSS.out.2.1
      go_wp2_with fail
      rw [← HNM.out]
      refine (copied_table ca cc ra cr t nc nr HNC.out HNR.out _ HTA.out hncS hnrS HSS.out.2.2).mono ?_
      rintro e w3 ⟨g1, c1, g2, c2, A, D, rfl, hOT, hb3, _⟩
      rw [HNM.out]
      have hq : Hid (OutT w3 wr.heap.size ⟨some ⟨g1, 0, none⟩, c1, some ⟨g2, 0, none⟩, c2, A, D⟩ (V[k]'hlt'.out)) := by
        have : OutT w3 wr.heap.size ⟨some ⟨g1, 0, none⟩, c1, some ⟨g2, 0, none⟩, c2, A, D⟩ (V[k]'hlt'.out) := by rw [HVK.out]; exact hOT
        exact this
      have O3 := own_below HO.out.own hb3
      have HB3 : Hid (Below wr.heap.size wr w3) := hb3
      have hs3 : wr.heap.size ≤ w3.heap.size := hb3.size
      have hs3w : w.heap.size ≤ w3.heap.size := by have := hbw.size; omega
      clear hOT hb3 hrun c0 HTA
      go_wp2_with (at_builtin; refine wpList_append_own_at _ rfl _ _ 26 rfl w.heap.size 44 i0 (.agg #[.string ⟨#[]⟩, .slice none 0 0, .slice none 0 0]) 3 64 Tryz.underlying26 hti hz0 hz1 hz2 rfl (by decide) _ _ _ rfl (O3.alloc _) ⟨w3.heap.size, 0, none⟩ 1 1 [.string nm, .slice (some ⟨g1, 0, none⟩) nc c1, .slice (some ⟨g2, 0, none⟩) nr c2] rfl rfl ?c1 ?c2 ?c3 ?c4 ?c5 ?_)
      case c1 =>
        intro j u hj
        match j, hj with
        | 0, hj => simp at hj; subst hj; simp [Addr.add]
        | 1, hj => simp at hj; subst hj; simp [Addr.add]
        | 2, hj => simp at hj; subst hj; simp [Addr.add]
      case c2 => intro u hu; simp at hu; rcases hu with rfl | rfl | rfl <;> rfl
      case c3 => unfold maxLen; omega
      case c4 => omega
      case c5 => simp; omega
      intro v' w4 own4 hgrow hnn hloc
      have hx4 : Below w.heap.size w w4 := by
        refine ((hbw.trans (HB3.out.mono hbw.size)).alloc hs3w _).grown hgrow (by simp; omega) ?_
        intro j hj
        exact (O3.lt j hj).1
      have hsa : (w3.alloc (.cells #[.string nm, .slice (some ⟨g1, 0, none⟩) nc c1, .slice (some ⟨g2, 0, none⟩) nr c2] 44)).heap.size = w3.heap.size + 1 := by simp
      have hs4 : w2.heap.size ≤ w4.heap.size := by have := hgrow.size; omega
      have ST4 : Hid (StrsAt w4 (some ⟨gn, on, none⟩) (namesT V)) := by
        have h1 := (hSt.out.below HB3.out).below ((Below.refl _ _).alloc (Nat.le_refl _) (.cells #[.string nm, .slice (some ⟨g1, 0, none⟩) nc c1, .slice (some ⟨g2, 0, none⟩) nr c2] 44))
        have : StrsAt w4 (some ⟨gn, on, none⟩) (namesT V) := h1.keepS (KeepS.grown hgrow) (fun b hb e => by
          have h2 := HGN.out b hb
          have h3 := hGv.out b e.symm
          omega)
        exact this
      have SH4 : Hid (ShelfAt w4 B m (namesT U) f) := by
        have : ShelfAt w4 B m (namesT U) f := hShr.out.block ((hx4.block B hBw).trans (hbw.block B hBw).symm)
        exact this
      have GV4 : Hid (∀ g, v'.ownBlock = some g → g < w1.heap.size ∨ w2.heap.size ≤ g) := by
        have : ∀ g, v'.ownBlock = some g → g < w1.heap.size ∨ w2.heap.size ≤ g := by
          intro g hg
          rcases hloc with e | e
          · rw [e] at hg; exact hGv.out g hg
          · rw [hg] at e
            injection e with e
            omega
        exact this
      have OW4 : Hid (∃ Q, OwnTs w4 w.heap.size v' V Q (k + 1)) := by
        refine ⟨_, OwnTs.snoc HO.out hlt'.out hbw.size HB3.out hq.out ?_ hgrow (by first | exact hloc | (rw [hsa]; exact hloc))⟩
        unfold headV
        rw [HVK.out, HNM.out, HNC.out, HNR.out]
        exact own4
      clear own4 hgrow hnn hloc O3 HO hq HB3 hSt hShr hGv hsa
      go_wp2
      go_roundw
      case rel => exact ⟨k + 1, by omega, by go_num, OW4, ST4, SH4, GV4, hx4, hs4⟩
      case measure => simp [intOf]; omega
    · have hkl : k = n := by omega
      subst hkl
      have hnn : ¬ (k : Int) < (k : Int) := by omega
      obtain ⟨Q, hO⟩ := hOw.out
      obtain ⟨a, cap, hv, hout, hcap⟩ := hO.out HN.out
      subst hv
      have FIN : Hid (ListOut w k V (.returned (.slice a k cap)) wr) := ⟨a, cap, Q, rfl, hout, hbw, hcap⟩
      clear hO hout hOw
      go_wp2
      go_ret
      exact FIN.out
end Go.Proofs.YteamdmcgkpeelakGreat

/-
  What becomes of a base, without any program: with a table more, without one, with another one in its place.
-/
namespace Go.Proofs.YteamdmcgkpeelakGreat
open Go.ChangeShapes Go.WideShapes Go.ChangeAt Go.RowKit Go.Maps

theorem baseB_parts {T : List TB} (h : baseB T = true) : (∀ t, t ∈ T → tableB t = true) ∧ risesN (namesT T) = true ∧ T.length ≤ 5 := by
  unfold baseB at h
  simp only [Bool.and_eq_true, decide_eq_true_eq] at h
  exact ⟨fun t ht => List.all_eq_true.1 h.1.1 t ht, h.1.2, h.2⟩
theorem baseB_of {T : List TB} (h1 : ∀ t, t ∈ T → tableB t = true) (h2 : risesN (namesT T) = true) (h3 : T.length ≤ 5) : baseB T = true := by
  unfold baseB
  simp only [Bool.and_eq_true, decide_eq_true_eq]
  exact ⟨⟨List.all_eq_true.2 h1, h2⟩, h3⟩
theorem tableB_small {t : TB} (h : tableB t = true) : Small t := by
  unfold tableB namesB at h
  simp only [Bool.and_eq_true, decide_eq_true_eq] at h
  obtain ⟨⟨_, ⟨_, h2⟩, h3⟩, h4⟩ := h
  have hc : t.2.1.length ≤ 6 := by
    have := h2
    omega
  refine ⟨by omega, by omega, fun i hi => ?_⟩
  have := List.all_eq_true.1 h4 _ (List.getElem_mem hi)
  unfold rowOk at this
  simp only [Bool.and_eq_true, decide_eq_true_eq] at this
  omega
/-- A table in its place among those whose names rise. -/
def insT (T : List TB) (t : TB) : List TB := T.takeWhile (fun u => Op.bytesLess u.1.toList t.1.toList) ++ t :: T.dropWhile (fun u => Op.bytesLess u.1.toList t.1.toList)
theorem insT_perm (T : List TB) (t : TB) : (insT T t).Perm (T ++ [t]) := by
  unfold insT
  have h : T.takeWhile (fun u => Op.bytesLess u.1.toList t.1.toList) ++ T.dropWhile (fun u => Op.bytesLess u.1.toList t.1.toList) = T := List.takeWhile_append_dropWhile
  conv => rhs; rw [← h]
  rw [List.append_assoc]
  exact List.Perm.append_left _ (List.perm_append_singleton t _).symm
theorem insT_length (T : List TB) (t : TB) : (insT T t).length = T.length + 1 := by rw [(insT_perm T t).length_eq]; simp
theorem rises_pair (T : List TB) : risesN (namesT T) = true ↔ T.Pairwise (fun u v => ltN u.1 v.1) := by
  rw [risesN_iff]; exact List.pairwise_map
theorem insT_rises {T : List TB} {t : TB} (h : risesN (namesT T) = true) (hn : t.1 ∉ namesT T) : risesN (namesT (insT T t)) = true := by
  rw [rises_pair] at h ⊢
  have hT := h
  induction T with
  | nil => exact List.pairwise_singleton _ _
  | cons u T ih =>
    obtain ⟨hu, hr⟩ := List.pairwise_cons.1 h
    have hn' : t.1 ∉ namesT T := fun hm => hn (by unfold namesT at hm ⊢; rw [List.map_cons]; exact List.mem_cons_of_mem _ hm)
    have hne : u.1 ≠ t.1 := fun e => hn (by unfold namesT; rw [List.map_cons, e]; exact List.mem_cons_self)
    by_cases hlt : Op.bytesLess u.1.toList t.1.toList = true
    · have e : insT (u :: T) t = u :: insT T t := by unfold insT; rw [List.takeWhile_cons, List.dropWhile_cons, if_pos hlt, if_pos hlt, List.cons_append]
      rw [e]
      refine List.pairwise_cons.2 ⟨fun x hx => ?_, ih hr hn' hr⟩
      rcases List.mem_append.1 ((insT_perm T t).mem_iff.1 hx) with hx | hx
      · exact hu x hx
      · rw [List.mem_singleton] at hx; subst hx; exact hlt
    · have e : insT (u :: T) t = t :: u :: T := by unfold insT; rw [List.takeWhile_cons, List.dropWhile_cons, if_neg hlt, if_neg hlt]; rfl
      rw [e]
      have htu : ltN t.1 u.1 := by
        unfold ltN
        cases hb : Op.bytesLess t.1.toList u.1.toList
        · exact absurd (bl_tri (by simpa using hlt) hb) hne
        · rfl
      refine List.pairwise_cons.2 ⟨fun x hx => ?_, hT⟩
      rcases List.mem_cons.1 hx with rfl | hx
      · exact htu
      · exact bl_trans htu (hu x hx)
/-- Without the table of that name. -/
def dropT (T : List TB) (s : ByteArray) : List TB := T.filter (fun u => decide (u.1 ≠ s))
theorem dropT_names (T : List TB) (s : ByteArray) : namesT (dropT T s) = cutK (namesT T) s := by
  unfold dropT namesT cutK
  rw [List.filter_map]; rfl
theorem dropT_rises {T : List TB} {s : ByteArray} (h : risesN (namesT T) = true) : risesN (namesT (dropT T s)) = true := by
  rw [rises_pair] at h ⊢
  exact h.filter _
/-- With t in the place of the one of its name. -/
def replT (T : List TB) (t : TB) : List TB := T.map (fun u => if u.1 = t.1 then t else u)
theorem replT_names (T : List TB) (t : TB) : namesT (replT T t) = namesT T := by
  unfold replT namesT
  rw [List.map_map]
  refine List.map_congr_left fun u _ => ?_
  show (if u.1 = t.1 then t else u).1 = u.1
  split
  · rename_i e; exact e.symm
  · rfl
theorem replT_length (T : List TB) (t : TB) : (replT T t).length = T.length := List.length_map _

def droppedR (T : List TB) (s : ByteArray) : List TB × Bool := if baseB T = true then (dropT T s, decide (s ∈ namesT T)) else ([], false)
def madeR (T : List TB) (t : TB) : List TB × Bool := if baseB T = true then (if t.1 ∉ namesT T ∧ T.length ≠ 5 ∧ tableB t = true then (insT T t, true) else (T, false)) else ([], false)
def replacedR (T : List TB) (t : TB) : List TB × Bool := if baseB T = true then (if t.1 ∈ namesT T ∧ tableB t = true then (replT T t, true) else (T, false)) else ([], false)
theorem ShelfT.added {w0 w w' : World} {B n : Nat} {U : List TB} {t : TB} {ca : Option Addr} {cc : Nat} {ra : Option Addr} {cr : Nat} {f : ByteArray → Value} {D : DataW Value} (hown : w.ownsMap Tryz.prog 9 tokR B n D) (hS : Says D (namesT U) f) (hH : ∀ u, u ∈ U → HoldsT w0 f u) (hn : t.1 ∉ namesT U) (ht : TabAt w0 ca cc ra t)
    (hown' : w'.ownsMap Tryz.prog 9 tokR B (n + 1) (D.put (keyL t.1) (.held (.agg #[.string t.1, .slice ca t.2.1.length cc, .slice ra t.2.2.length cr])))) : ShelfT w0 w' B (n + 1) (U ++ [t]) := by
  have hS' := hS.put hown.isMap t.1 (.agg #[.string t.1, .slice ca t.2.1.length cc, .slice ra t.2.2.length cr])
  rw [show putK (namesT U) t.1 = namesT (U ++ [t]) by rw [namesT_snoc]; exact if_neg hn] at hS'
  refine ⟨hS'.nodup, _, ⟨_, hown', hS'⟩, fun u hu => ?_⟩
  rcases List.mem_append.1 hu with hu | hu
  · have hne : u.1 ≠ t.1 := fun e => hn (by rw [← e]; exact List.mem_map_of_mem hu)
    obtain ⟨a1, a2, a3, a4, e, h⟩ := hH u hu
    exact ⟨a1, a2, a3, a4, by unfold putF; rw [if_neg hne]; exact e, h⟩
  · rw [List.mem_singleton] at hu
    subst hu
    exact ⟨ca, cc, ra, cr, by unfold putF; rw [if_pos rfl], ht⟩
theorem ShelfT.swapped {w0 w w' : World} {B n : Nat} {U : List TB} {t : TB} {ca : Option Addr} {cc : Nat} {ra : Option Addr} {cr : Nat} {f : ByteArray → Value} {D : DataW Value} (hown : w.ownsMap Tryz.prog 9 tokR B n D) (hS : Says D (namesT U) f) (hH : ∀ u, u ∈ U → HoldsT w0 f u) (hn : t.1 ∈ namesT U) (ht : TabAt w0 ca cc ra t)
    (hown' : w'.ownsMap Tryz.prog 9 tokR B (n + 1) (D.put (keyL t.1) (.held (.agg #[.string t.1, .slice ca t.2.1.length cc, .slice ra t.2.2.length cr])))) : ShelfT w0 w' B (n + 1) (replT U t) := by
  have hS' := hS.put hown.isMap t.1 (.agg #[.string t.1, .slice ca t.2.1.length cc, .slice ra t.2.2.length cr])
  rw [show putK (namesT U) t.1 = namesT (replT U t) by rw [replT_names]; exact if_pos hn] at hS'
  refine ⟨hS'.nodup, _, ⟨_, hown', hS'⟩, fun u hu => ?_⟩
  unfold replT at hu
  obtain ⟨x, hx, e⟩ := List.mem_map.1 hu
  split at e
  · subst e
    exact ⟨ca, cc, ra, cr, by unfold putF; rw [if_pos rfl], ht⟩
  · rename_i hne
    subst e
    obtain ⟨a1, a2, a3, a4, e, h⟩ := hH x hx
    exact ⟨a1, a2, a3, a4, by unfold putF; rw [if_neg hne]; exact e, h⟩
theorem ShelfT.cut {w0 w' : World} {B n : Nat} {U : List TB} {s : ByteArray} {f : ByteArray → Value} {D : DataW Value} (hS : Says D (namesT U) f) (hH : ∀ u, u ∈ U → HoldsT w0 f u)
    (hown' : w'.ownsMap Tryz.prog 9 tokR B n (D.del (keyL s))) : ShelfT w0 w' B n (dropT U s) := by
  have hS' := hS.del s
  rw [← dropT_names] at hS'
  exact ⟨hS'.nodup, f, ⟨_, hown', hS'⟩, fun u hu => hH u (List.mem_filter.1 hu).1⟩
end Go.Proofs.YteamdmcgkpeelakGreat
