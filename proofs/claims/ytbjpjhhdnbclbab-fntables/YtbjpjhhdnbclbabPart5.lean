/-
  A part of the proof: OutTab, PutS.
-/
import Derived.Test.YtbjpjhhdnbclbabPart4

/-
  A table in memory of its own: what the marks want of it, and the contracts of the law's helpers that mark a table, and look whether the marks are still there.
-/
namespace Go.Proofs.Ytbjpjhhdnbclbab
open Go.ChangeShapes Go.WideShapes Go.ChangeAt Go.RowKit
attribute [local go_sem ↓] Go.wp_at_zero Go.wp_at_succ
attribute [local simp] World.cell?_alloc_past World.cell?_alloc_at World.frozen?_alloc_at cell_far cell_off cell_here World.frozen?_alloc_past

theorem StrsAt.keepS {P : Nat → Prop} {w w' : World} {a : Option Addr} {l : List ByteArray} (h : StrsAt w a l) (hk : KeepS P w w') (hP : ∀ b, inBlk a l.length b → ¬ P b) : StrsAt w' a l := by
  intro j hj
  obtain ⟨b, o, ha, hlt, h0⟩ := h j hj
  exact ⟨b, o, ha, Nat.lt_of_lt_of_le hlt hk.size, by rw [hk.cell hlt (hP b ⟨by omega, o, ha⟩)]; exact h0⟩
theorem FreeS.keepS {P : Nat → Prop} {w w' : World} {a : Option Addr} {l : List ByteArray} (hf : FreeS w a l.length) (h : StrsAt w a l) (hk : KeepS P w w') (hP : ∀ b, inBlk a l.length b → ¬ P b) : FreeS w' a l.length := by
  intro b o ha j hj
  obtain ⟨b', o', ha', hlt, _⟩ := h j hj
  rw [ha] at ha'
  cases ha'
  rw [hk.frozen hlt (hP b ⟨by omega, o, ha⟩)]
  exact hf b o ha j hj
theorem HeadsAt.keepN {P : Nat → Prop} {w w' : World} {a : Option Addr} {L : List (List CT)} {A : Nat → Option Addr} {C : Nat → Nat} (h : HeadsAt w a L A C) (hk : KeepS P w w') (hP : ∀ b o, 0 < L.length → a = some ⟨b, o, none⟩ → ¬ P b) : HeadsAt w' a L A C := by
  intro i hi
  obtain ⟨b, o, ha, hlt, h0⟩ := h i hi
  exact ⟨b, o, ha, Nat.lt_of_lt_of_le hlt hk.size, by rw [hk.cell hlt (hP b o (by omega) ha)]; exact h0⟩
theorem Marked.keep0 {P : Nat → Prop} {w w' : World} {L : List (List CT)} {A : Nat → Option Addr} {k : Nat} (h : Marked w L A k 0) (hk : KeepS P w w') (hP : ∀ b, rowBlks L A b → ¬ P b) : Marked w' L A k 0 := by
  intro j hj
  obtain ⟨_, h2, h3⟩ := h j hj
  have hq : ∀ b, inBlk (A j) L[j].length b → ¬ P b := fun b hb => hP b ⟨j, hj, hb⟩
  exact ⟨fun hlt => by omega, fun _ => (h2 (Nat.zero_le _)).keepS hk hq, h3.keepS (h2 (Nat.zero_le _)) hk hq⟩
theorem Marked.keepL {P : Nat → Prop} {w w' : World} {L : List (List CT)} {A : Nat → Option Addr} {k : Nat} (h : Marked w L A k L.length) (hk : KeepS P w w') (hP : ∀ b, rowBlks L A b → ¬ P b) : Marked w' L A k L.length := by
  intro j hj
  obtain ⟨h1, _, h3⟩ := h j hj
  have hq : ∀ b, inBlk (A j) L[j].length b → ¬ P b := fun b hb => hP b ⟨j, hj, hb⟩
  refine ⟨fun _ => (h1 hj).keepS hk (by rw [marks_length]; exact hq), fun hle => by omega, ?_⟩
  have := Free.keepS (l := marks (k + 3 * offs L j) L[j].length) (by rw [marks_length]; exact h3) (h1 hj) hk (by rw [marks_length]; exact hq)
  rwa [marks_length] at this

/-- The blocks of a table. -/
def tabBlks (ca ra : Option Addr) (t : TB) (A : Nat → Option Addr) (b : Nat) : Prop :=
  inBlk ca t.2.1.length b ∨ rowBlks t.2.2 A b ∨ (0 < t.2.2.length ∧ ∃ o, ra = some ⟨b, o, none⟩)
/-- A table whose lists share no memory, all of it at base or behind. -/
structure OutTab (w : World) (base : Nat) (ca : Option Addr) (cc : Nat) (ra : Option Addr) (t : TB) (A : Nat → Option Addr) (C : Nat → Nat) : Prop where
  cols : StrsAt w ca t.2.1
  fit : FitS t.2.1
  len : t.2.1.length ≤ maxLen
  cap : t.2.1.length ≤ cc
  nilC : ca = none → cc = 0
  lenR : t.2.2.length ≤ maxLen
  name : t.1.size ≤ maxLen
  fitR : ∀ i (hi : i < t.2.2.length), Fit t.2.2[i]
  lenL : ∀ i (hi : i < t.2.2.length), t.2.2[i].length ≤ maxLen
  nilR : ∀ i, A i = none → C i = 0
  free : FreeS w ca t.2.1.length
  heads : HeadsAt w ra t.2.2 A C
  un : ∀ k, Marked w t.2.2 A k 0
  ap : Apart ra t.2.2 A
  colR : ∀ b, inBlk ca t.2.1.length b → ¬ rowBlks t.2.2 A b
  colH : ∀ b, inBlk ca t.2.1.length b → 0 < t.2.2.length → ∀ o, ra ≠ some ⟨b, o, none⟩
  lo : ∀ b, tabBlks ca ra t A b → base ≤ b
theorem OutTab.tab {w : World} {base : Nat} {ca : Option Addr} {cc : Nat} {ra : Option Addr} {t : TB} {A : Nat → Option Addr} {C : Nat → Nat} (h : OutTab w base ca cc ra t A C) : TabAt w ca cc ra t := by
  refine ⟨h.cols, h.fit, h.len, h.cap, h.nilC, ?_, h.lenR, h.name⟩
  intro i hi
  obtain ⟨b, o, e, hlt, c0⟩ := h.heads i hi
  exact ⟨b, o, A i, C i, e, hlt, c0, (h.un 0 i hi).2.1 (Nat.zero_le _), h.fitR i hi, h.lenL i hi, h.nilR i⟩
theorem OutTab.keepS {w w' : World} {P : Nat → Prop} {base : Nat} {ca : Option Addr} {cc : Nat} {ra : Option Addr} {t : TB} {A : Nat → Option Addr} {C : Nat → Nat} (h : OutTab w base ca cc ra t A C) (hk : KeepS P w w') (hP : ∀ b, tabBlks ca ra t A b → ¬ P b) : OutTab w' base ca cc ra t A C :=
  ⟨h.cols.keepS hk (fun b hb => hP b (.inl hb)), h.fit, h.len, h.cap, h.nilC, h.lenR, h.name, h.fitR, h.lenL, h.nilR, h.free.keepS h.cols hk (fun b hb => hP b (.inl hb)), h.heads.keepN hk (fun b o h0 e => hP b (.inr (.inr ⟨h0, o, e⟩))),
    fun k => (h.un k).keep0 hk (fun b hb => hP b (.inr (.inl hb))), h.ap, h.colR, h.colH, h.lo⟩
theorem OutTab.below {w w' : World} {base : Nat} {ca : Option Addr} {cc : Nat} {ra : Option Addr} {t : TB} {A : Nat → Option Addr} {C : Nat → Nat} (h : OutTab w base ca cc ra t A C) (hb : Below w.heap.size w w') : OutTab w' base ca cc ra t A C :=
  h.keepS (KeepS.ofBelow (P := fun _ => False) hb) (fun _ _ h => h)
theorem OutTab.lt {w : World} {base : Nat} {ca : Option Addr} {cc : Nat} {ra : Option Addr} {t : TB} {A : Nat → Option Addr} {C : Nat → Nat} (h : OutTab w base ca cc ra t A C) (b : Nat) (hb : tabBlks ca ra t A b) : b < w.heap.size := by
  rcases hb with ⟨h0, o, e⟩ | ⟨i, hi, h0, o, e⟩ | ⟨h0, o, e⟩
  · obtain ⟨b', o', e', hlt, _⟩ := h.cols 0 h0
    rw [e] at e'; cases e'; exact hlt
  · obtain ⟨b', o', e', hlt, _⟩ := (h.un 0 i hi).2.1 (Nat.zero_le _) 0 h0
    rw [e] at e'; cases e'; exact hlt
  · obtain ⟨b', o', e', hlt, _⟩ := h.heads 0 h0
    rw [e] at e'; cases e'; exact hlt

theorem own_freeS {w : World} {base g n c : Nat} {e : TypeId} {xs : List Value} (h : w.ownsRow base e 1 (.slice (some ⟨g, 0, none⟩) n c) n xs) : FreeS w (some ⟨g, 0, none⟩) n := by
  intro b o e j hj
  cases e
  rw [Nat.zero_add]
  exact h.frozenAt j

/-- Columns and rows that a call laid are a table in memory of its own. -/
theorem out_of_own {w : World} {base g c g2 c2 : Nat} {S : TypeId} {t : TB} {G D : Nat → Nat} (hS : S ≠ 29) (hS2 : S ≠ 49) (ho : w.ownsRow base S 1 (.slice (some ⟨g, 0, none⟩) t.2.1.length c) t.2.1.length (strV t.2.1)) (hr : OwnRows w base (.slice (some ⟨g2, 0, none⟩) t.2.2.length c2) t.2.2 G D)
    (hcap : t.2.1.length ≤ c) (hf : FitS t.2.1) (hn : t.1.size ≤ maxLen) (hc : t.2.1.length ≤ maxLen) (hrl : t.2.2.length ≤ maxLen) (hfr : ∀ i (hi : i < t.2.2.length), Fit t.2.2[i]) (hmr : ∀ i (hi : i < t.2.2.length), t.2.2[i].length ≤ maxLen) :
    OutTab w base (some ⟨g, 0, none⟩) c (some ⟨g2, 0, none⟩) t (fun i => some ⟨G i, 0, none⟩) D := by
  refine ⟨own_strs ho, hf, hc, hcap, (fun e => by cases e), hrl, hn, hfr, hmr, (fun i e => by cases e), own_freeS ho, hr.heads, fun k => hr.unmarked k, hr.apartA, ?_, ?_, ?_⟩
  · rintro b ⟨_, o, e⟩ ⟨i, hi, _, o', e'⟩
    cases e
    have := hr.inner i hi
    unfold headOf at this
    refine own_other ho this hS2 ?_
    simp only [Option.some.injEq, Addr.mk.injEq] at e'
    rw [e'.1]; rfl
  · rintro b ⟨_, o, e⟩ _ o' e'
    cases e
    cases e'
    exact own_other ho hr.outer hS rfl
  · rintro b (⟨_, o, e⟩ | hb | ⟨_, o, e⟩)
    · cases e; exact (ho.lt _ rfl).1
    · exact hr.blks _ hb
    · cases e; exact (hr.outer.lt _ rfl).1

/-- The marked table. -/
structure MarkedT (w : World) (ca ra : Option Addr) (t : TB) (A : Nat → Option Addr) (C : Nat → Nat) (k : Nat) : Prop where
  cols : StrsAt w ca (marksS k t.2.1.length)
  heads : HeadsAt w ra t.2.2 A C
  rows : Marked w t.2.2 A (k + t.2.1.length) t.2.2.length
theorem MarkedT.below {w w' : World} {ca ra : Option Addr} {t : TB} {A : Nat → Option Addr} {C : Nat → Nat} {k : Nat} (h : MarkedT w ca ra t A C k) (hb : Below w.heap.size w w') : MarkedT w' ca ra t A C k :=
  ⟨h.cols.below hb, h.heads.below hb, h.rows.below hb⟩
/-- The number behind the marks. -/
def markN (t : TB) (k : Nat) : Nat := k + t.2.1.length + 3 * offs t.2.2 t.2.2.length

end Go.Proofs.Ytbjpjhhdnbclbab

/-
  What Put answers, and the contract of the model's Put.
-/
namespace Go.Proofs.Ytbjpjhhdnbclbab
open Go.ChangeShapes Go.WideShapes Go.ChangeAt Go.RowKit
attribute [local go_sem ↓] Go.wp_at_zero Go.wp_at_succ
attribute [local simp] World.cell?_alloc_past World.cell?_alloc_at World.frozen?_alloc_at cell_far cell_off cell_here World.frozen?_alloc_past

def zeroT : TB := (⟨#[]⟩, [], [])
def putT (t : TB) (r : List CT) : TB := (t.1, t.2.1, t.2.2 ++ [r])
/-- The table that Put answers, and whether it was put. -/
def putR (t : TB) (r : List CT) : TB × Bool := if tableB t = true then (if tableB (putT t r) = true then (putT t r, true) else (t, false)) else (zeroT, false)
/-- Put's answer: a table in memory of its own, and the word. -/
def PutOut (w : World) (T : TB) (b : Bool) (e : Ending) (w' : World) : Prop :=
  ∃ ca cc ra cr A C, e = .returned (.tuple #[.agg #[.string T.1, .slice ca T.2.1.length cc, .slice ra T.2.2.length cr], .bool b]) ∧ OutTab w' w.heap.size ca cc ra T A C ∧ Below w.heap.size w w' ∧ T.2.2.length ≤ cr
theorem table_row' {t : TB} (h : tableB t = true) (i : Nat) (hi : i < t.2.2.length) : t.2.2[i].length = t.2.1.length ∧ t.2.2[i].all okC = true := by
  unfold tableB at h
  rw [Bool.and_eq_true, List.all_eq_true] at h
  have := h.2 _ (List.getElem_mem hi)
  unfold rowOk at this
  rw [Bool.and_eq_true, decide_eq_true_eq] at this
  exact this
theorem table_len' {t : TB} (h : tableB t = true) : t.2.1.length ≤ 6 ∧ t.2.2.length ≤ 60 := by
  unfold tableB at h
  rw [Bool.and_eq_true, Bool.and_eq_true, Bool.and_eq_true, decide_eq_true_eq] at h
  have h2 := h.1.2.1
  unfold namesB at h2
  rw [Bool.and_eq_true, Bool.and_eq_true, decide_eq_true_eq, decide_eq_true_eq] at h2
  have := h2.2.2
  exact ⟨by omega, h.1.2.2⟩
theorem own_cap {w : World} {base n g c : Nat} {e : TypeId} {size m : Nat} {xs : List Value} (h : w.ownsRow base e size (.slice (some ⟨g, 0, none⟩) m c) n xs) : n ≤ c := by
  rcases h.2 with ⟨h1, _⟩ | ⟨g', c', cur, h', _, _, hle, _⟩
  · simp at h1
  · simp only [Value.slice.injEq] at h'
    omega
theorem out_zero (w : World) (base : Nat) : OutTab w base none 0 none zeroT (fun _ => none) (fun _ => 0) where
  cols := fun j hj => absurd hj (Nat.not_lt_zero _)
  fit := fun j hj => absurd hj (Nat.not_lt_zero _)
  len := Nat.zero_le _
  cap := Nat.le_refl _
  nilC := fun _ => rfl
  lenR := Nat.zero_le _
  name := Nat.zero_le _
  fitR := fun j hj => absurd hj (Nat.not_lt_zero _)
  lenL := fun j hj => absurd hj (Nat.not_lt_zero _)
  nilR := fun _ _ => rfl
  free := fun b o e => (by cases e)
  heads := fun j hj => absurd hj (Nat.not_lt_zero _)
  un := fun k j hj => absurd hj (Nat.not_lt_zero _)
  ap := ⟨fun j hj => absurd hj (Nat.not_lt_zero _), fun i j hi => absurd hi (Nat.not_lt_zero _)⟩
  colR := by rintro b ⟨_, o, e⟩; cases e
  colH := by rintro b ⟨_, o, e⟩; cases e
  lo := by
    rintro b (⟨_, o, e⟩ | ⟨i, hi, _⟩ | ⟨_, o, e⟩)
    · cases e
    · exact absurd hi (Nat.not_lt_zero _)
    · cases e
theorem own_setT {w : World} {base : Nat} {e : TypeId} {size : Nat} {v : Value} {n : Nat} {xs : List Value} {c : Nat} {T : TypeId} {cur : Array Value} {fz : Nat × Nat} (h : w.ownsRow base e size v n xs) (hc : w.heap[c]? = some (.cells cur T fz)) (hT : T ≠ e) (i : Nat) (u : Value) : (w.setCell ⟨c, i, none⟩ u).ownsRow base e size v n xs := by
  refine ⟨h.1, ?_⟩
  rcases h.2 with h' | ⟨g, cap, cur, h', hbg, hg, hr⟩
  · exact .inl h'
  · refine .inr ⟨g, cap, cur, h', hbg, ?_, hr⟩
    have hlt : g < w.heap.size := by
      by_cases hl : g < w.heap.size
      · exact hl
      · rw [Array.getElem?_eq_none (by omega)] at hg; cases hg
    have hne : g ≠ c := by
      rintro rfl
      rw [hc] at hg
      simp at hg
      exact hT hg.2.1
    rw [((Keep.refl c w).setCell (p := ⟨c, i, none⟩) (Or.inl rfl) u).block g hlt hne]; exact hg
theorem OwnRows.setT {w : World} {base : Nat} {v : Value} {L : List (List CT)} {G C : Nat → Nat} {c : Nat} {T : TypeId} {cur : Array Value} {fz : Nat × Nat} (h : OwnRows w base v L G C) (hc : w.heap[c]? = some (.cells cur T fz)) (h1 : T ≠ 29) (h2 : T ≠ 49) (i : Nat) (u : Value) : OwnRows (w.setCell ⟨c, i, none⟩ u) base v L G C :=
  ⟨own_setT h.outer hc h1 i u, fun j hj => own_setT (h.inner j hj) hc h2 i u, h.apart⟩
theorem OwnRows.base {w : World} {b1 b2 : Nat} {v : Value} {L : List (List CT)} {G C : Nat → Nat} (h : OwnRows w b1 v L G C) (hle : b2 ≤ b1) : OwnRows w b2 v L G C :=
  ⟨own_base h.outer hle, fun j hj => own_base (h.inner j hj) hle, h.apart⟩

theorem OutTab.base {w : World} {b1 b2 : Nat} {ca : Option Addr} {cc : Nat} {ra : Option Addr} {t : TB} {A : Nat → Option Addr} {C : Nat → Nat} (h : OutTab w b1 ca cc ra t A C) (hle : b2 ≤ b1) : OutTab w b2 ca cc ra t A C :=
  ⟨h.cols, h.fit, h.len, h.cap, h.nilC, h.lenR, h.name, h.fitR, h.lenL, h.nilR, h.free, h.heads, h.un, h.ap, h.colR, h.colH, fun b hb => Nat.le_trans hle (h.lo b hb)⟩
/-- Three stores into a block that is not the table's. -/
theorem OutTab.set3 {w : World} {base : Nat} {ca : Option Addr} {cc : Nat} {ra : Option Addr} {t : TB} {A : Nat → Option Addr} {C : Nat → Nat} (h : OutTab w base ca cc ra t A C) (c : Nat) (hc : c < base) (i j k : Nat) (x y z : Value) : OutTab (((w.setCell ⟨c, i, none⟩ x).setCell ⟨c, j, none⟩ y).setCell ⟨c, k, none⟩ z) base ca cc ra t A C := by
  refine h.keepS (P := fun b => b = c) ?_ (fun b hb e => by have := h.lo b hb; omega)
  exact (((KeepS.refl (fun b => b = c) w).setCell (p := ⟨c, i, none⟩) rfl x).setCell (p := ⟨c, j, none⟩) rfl y).setCell (p := ⟨c, k, none⟩) rfl z
theorem append_each {P : List CT → Prop} {L : List (List CT)} {r : List CT} (h : ∀ i (hi : i < L.length), P L[i]) (hr : P r) : ∀ i (hi : i < (L ++ [r]).length), P (L ++ [r])[i] := by
  intro i hi
  by_cases hl : i < L.length
  · rw [List.getElem_append_left hl]; exact h i hl
  · have : i = L.length := by simp at hi; omega
    subst this
    rw [List.getElem_append_right (Nat.le_refl _)]
    simpa using hr

/-- The model's step: the head of a new row behind the others, then the slice into the table's own block. -/
theorem put_step {W2 w3 w4 : World} {base g c g2 c2 g4 c4 gr cr n nr cb : Nat} {o : Obj} {nm : ByteArray} {C : List ByteArray} {L : List (List CT)} {r : List CT} {G D : Nat → Nat} {cur : Array Value} {fz : Nat × Nat}
    (O1 : W2.ownsRow base 9 1 (.slice (some ⟨g, 0, none⟩) C.length c) C.length (strV C)) (O2 : OwnRows W2 base (.slice (some ⟨g2, 0, none⟩) nr c2) L G D) (hob : W2.heap[cb]? = some (.cells cur 32 fz)) (hnr : L.length = nr) (hn : r.length = n)
    (hx3 : Below W2.heap.size W2 w3) (hbs : base ≤ W2.heap.size) (hgr : W2.heap.size ≤ gr) (ownr : w3.ownsRow W2.heap.size 49 3 (.slice (some ⟨gr, 0, none⟩) r.length cr) r.length (flat r))
    (own4 : w4.ownsRow base 29 1 (.slice (some ⟨g4, 0, none⟩) (nr + 1) c4) (L.length + 1) ((List.range L.length).map (headOf G D L) ++ [.slice (some ⟨gr, 0, none⟩) n cr])) (hgrow : (w3.alloc o).grownBy w4 (Value.slice (some ⟨g2, 0, none⟩) nr c2).ownBlock)
    (hgg : g2 < cb) (hcc : C.length ≤ c) (hf : FitS C) (hnm : nm.size ≤ maxLen) (hC : C.length ≤ maxLen) (hL : nr + 1 ≤ maxLen) (hfr : ∀ i (hi : i < L.length), Fit L[i]) (hlr : ∀ i (hi : i < L.length), L[i].length ≤ maxLen) (hfr1 : Fit r) (hlr1 : n ≤ maxLen) (u : Value) :
    ∃ G' D', OutTab (w4.setCell ⟨cb, 2, none⟩ u) base (some ⟨g, 0, none⟩) c (some ⟨g4, 0, none⟩) (putT (nm, C, L) r) G' D' := by
  subst hnr hn
  have hcb : cb < W2.heap.size := by
    by_cases hl : cb < W2.heap.size
    · exact hl
    · rw [Array.getElem?_eq_none (by omega)] at hob; cases hob
  have h3 := hx3.size
  have hbk : w4.heap[cb]? = some (.cells cur 32 fz) := by
    rw [hgrow.block cb (by simp; omega) (by simp [Value.ownBlock]; omega)]
    show (w3.heap.push _)[cb]? = _
    rw [Array.getElem?_push_lt (by omega), ← Array.getElem?_eq_getElem (by omega), hx3.block cb hcb]; exact hob
  obtain ⟨G', D', S⟩ := O2.step hx3 hgr (own_base ownr hbs) own4 hgrow
  have C4 := ((own_below O1 hx3).alloc o).kept hgrow (.inr (own_other O1 O2.outer (by decide)))
  have S5 := S.setT (i := 2) (u := u) hbk (by decide) (by decide)
  have C5 := own_setT (i := 2) (u := u) C4 hbk (by decide)
  have e : (L ++ [r]).length = L.length + 1 := by simp
  refine ⟨_, _, out_of_own (S := 9) (t := putT (nm, C, L) r) (by decide) (by decide) C5 (by rw [← e] at S5; exact S5) hcc hf hnm hC (by rw [← e] at hL; exact hL) (append_each (P := fun l => Fit l) hfr hfr1) (append_each (P := fun l => l.length ≤ maxLen) hlr hlr1)⟩

theorem infoRowP : (Try.prog.info? 29).map (fun i => (i.zero, i.size, i.bytes)) = some (some (.slice none 0 0), 1, 24) := by kernel_rfl
theorem row_specN (n : Nat) (a : Option Addr) (cap : Nat) (l : List CT) (hn : l.length = n) (w : World) (hrow : RowAt w a l) (hnil : a = none → cap = 0) (hm : n ≤ 1048576) :
    Calls Try.prog 31 #[.slice a n cap] w fun e w' => ∃ g c, e = .returned (.slice (some ⟨g, 0, none⟩) n c) ∧ w.heap.size ≤ g ∧
      w'.ownsRow w.heap.size 49 3 (.slice (some ⟨g, 0, none⟩) l.length c) l.length (flat l) ∧ Below w.heap.size w w' := by
  subst hn; exact row_spec a cap l w hrow hnil hm

set_option maxRecDepth 100000 in
set_option maxHeartbeats 4000000 in
theorem put_spec (ca : Option Addr) (cc : Nat) (ra : Option Addr) (cr : Nat) (t : TB) (nc nr : Nat) (hnc : t.2.1.length = nc) (hnr : t.2.2.length = nr) (a : Option Addr) (cap : Nat) (r : List CT) (n : Nat) (hn : r.length = n) (w : World) (ht : TabAt w ca cc ra t) (hrow : RowAt w a r) (hfit : Fit r) (hnil : a = none → cap = 0) (hm : n ≤ 1048576) (T : TB) (b : Bool) (hT : putR t r = (T, b)) :
    Calls Try.prog 17 #[.agg #[.string t.1, .slice ca nc cc, .slice ra nr cr], .slice a n cap] w fun e w' => PutOut w T b e w' := by
  obtain ⟨nm, C, L⟩ := t
  dsimp only at hnc hnr ⊢
  have HT : Hid (TabAt w ca cc ra (nm, C, L)) := ht
  have HR : Hid (RowAt w a r) := hrow
  have HNC : Hid (C.length = nc) := hnc
  have HNR : Hid (L.length = nr) := hnr
  have HN : Hid (r.length = n) := hn
  obtain ⟨W, hW⟩ : ∃ W, W = ((w.alloc (.cells #[.string nm, .slice ca nc cc, .slice ra nr cr] 32)).alloc (.cells #[.string ⟨#[]⟩, .slice none 0 0, .slice none 0 0] 32)) := ⟨_, rfl⟩
  have hA : Below w.heap.size w W := by rw [hW]; exact ((Below.refl _ _).alloc (Nat.le_refl _) _).alloc (by simp) _
  unfold putR at hT
  obtain ⟨q, hq⟩ : ∃ q, tableB (nm, C, L) = q := ⟨_, rfl⟩
  have HQ : Hid (tableB (nm, C, L) = q) := hq
  rw [hq] at hT
  clear ht hrow hnc hnr hn hq
  cases q
  · rw [if_neg (by simp)] at hT
    obtain ⟨rfl, rfl⟩ := Prod.mk.inj hT
    clear hT
    go_enter Try.func17, Try.ntmps17
    go_wp2_with fail
    rw [← hW]
    refine (table_spec ca cc ra cr (nm, C, L) nc nr HNC.out HNR.out _ (HT.out.below hA) false HQ.out).mono ?_
    rintro e w1 ⟨rfl, hb1⟩
    have hx := chain hA hb1
    obtain ⟨hc, hf⟩ := bcell hb1
    have hs : W.heap.size = w.heap.size + 1 + 1 := by rw [hW]; simp
    have q0 : w1.cell? ⟨w.heap.size + 1, 0, none⟩ = some (.string ⟨#[]⟩) := by rw [hc _ _ (by omega), hW]; simp
    have q1 : w1.cell? ⟨w.heap.size + 1, 1, none⟩ = some (.slice none 0 0) := by rw [hc _ _ (by omega), hW]; simp
    have q2 : w1.cell? ⟨w.heap.size + 1, 2, none⟩ = some (.slice none 0 0) := by rw [hc _ _ (by omega), hW]; simp
    have f0 : w1.frozen? ⟨w.heap.size + 1, 0, none⟩ = false := by rw [hf _ _ (by omega), hW]; simp
    have f1 : w1.frozen? ⟨w.heap.size + 1, 1, none⟩ = false := by rw [hf _ _ (by omega), hW]; simp
    have f2 : w1.frozen? ⟨w.heap.size + 1, 2, none⟩ = false := by rw [hf _ _ (by omega), hW]; simp
    clear hc hf hb1 hW hA hs
    go_wp2
    refine bodyPost_ret (v := .tuple #[.agg #[.string ⟨#[]⟩, .slice none 0 0, .slice none 0 0], .bool false]) (by simp [results, Try.results17, go_sem, q0, q1, q2]) rfl ⟨none, 0, none, 0, _, _, rfl, out_zero _ _, ?_, Nat.le_refl _⟩
    repeat (first | exact hx | refine Below.setCell ?_ (by first | (simp; done) | (simp; omega)) _)
  · rw [if_pos rfl] at hT
    have h60 := table_len' HQ.out
    have hcl : nc ≤ 1048576 := by have := h60.1; rw [show (nm, C, L).2.1.length = nc from HNC.out] at this; omega
    have hrl : nr ≤ 60 := by have := h60.2; rw [show (nm, C, L).2.2.length = nr from HNR.out] at this; omega
    have HMS : Hid (∀ i (h : i < L.length), L[i].length ≤ 1048576) := by
      have : ∀ i (h : i < L.length), L[i].length ≤ 1048576 := fun i hi => by
        have h1 := (table_row' HQ.out i hi).1
        have h2 := h60.1
        have e : (nm, C, L).2.2[i].length = L[i].length := rfl
        omega
      exact this
    have HTT : Hid ((if tableB (putT (nm, C, L) r) = true then (putT (nm, C, L) r, true) else ((nm, C, L), false)) = (T, b)) := hT
    clear hT h60
    go_enter Try.func17, Try.ntmps17
    go_wp2_with fail
    rw [← hW]
    refine (table_spec ca cc ra cr (nm, C, L) nc nr HNC.out HNR.out _ (HT.out.below hA) true HQ.out).mono ?_
    rintro e w1 ⟨rfl, hb1⟩
    have hx := chain hA hb1
    obtain ⟨hc, hf⟩ := bcell hb1
    have hs : W.heap.size = w.heap.size + 1 + 1 := by rw [hW]; simp
    have hs1 := hb1.size
    have p0 : w1.cell? ⟨w.heap.size, 0, none⟩ = some (.string nm) := by rw [hc _ _ (by omega), hW]; simp
    have p1 : w1.cell? ⟨w.heap.size, 1, none⟩ = some (.slice ca nc cc) := by rw [hc _ _ (by omega), hW]; simp
    have p2 : w1.cell? ⟨w.heap.size, 2, none⟩ = some (.slice ra nr cr) := by rw [hc _ _ (by omega), hW]; simp
    have q0 : w1.cell? ⟨w.heap.size + 1, 0, none⟩ = some (.string ⟨#[]⟩) := by rw [hc _ _ (by omega), hW]; simp
    have q1 : w1.cell? ⟨w.heap.size + 1, 1, none⟩ = some (.slice none 0 0) := by rw [hc _ _ (by omega), hW]; simp
    have q2 : w1.cell? ⟨w.heap.size + 1, 2, none⟩ = some (.slice none 0 0) := by rw [hc _ _ (by omega), hW]; simp
    have f0 : w1.frozen? ⟨w.heap.size + 1, 0, none⟩ = false := by rw [hf _ _ (by omega), hW]; simp
    have f1 : w1.frozen? ⟨w.heap.size + 1, 1, none⟩ = false := by rw [hf _ _ (by omega), hW]; simp
    have f2 : w1.frozen? ⟨w.heap.size + 1, 2, none⟩ = false := by rw [hf _ _ (by omega), hW]; simp
    have hw1 : w.heap.size + 1 < w1.heap.size := by omega
    have H1 : Hid (TabAt w1 ca cc ra (nm, C, L)) := HT.out.below hx
    have QQ : Hid ((w1.cell? ⟨w.heap.size, 0, none⟩ = some (.string nm) ∧ w1.cell? ⟨w.heap.size, 1, none⟩ = some (.slice ca nc cc) ∧ w1.cell? ⟨w.heap.size, 2, none⟩ = some (.slice ra nr cr)) ∧ (w1.cell? ⟨w.heap.size + 1, 0, none⟩ = some (.string ⟨#[]⟩) ∧ w1.cell? ⟨w.heap.size + 1, 1, none⟩ = some (.slice none 0 0) ∧ w1.cell? ⟨w.heap.size + 1, 2, none⟩ = some (.slice none 0 0)) ∧ (w1.frozen? ⟨w.heap.size + 1, 0, none⟩ = false ∧ w1.frozen? ⟨w.heap.size + 1, 1, none⟩ = false ∧ w1.frozen? ⟨w.heap.size + 1, 2, none⟩ = false)) := ⟨⟨p0, p1, p2⟩, ⟨q0, q1, q2⟩, f0, f1, f2⟩
    have R1 : Hid (RowAt w1 a r) := HR.out.below hx
    clear hc hf hb1 hW hA hs hs1 HT HR
    go_wp2_with fail
    refine (copy_spec ca cc ra cr (nm, C, L) nc nr HNC.out HNR.out _ H1.out hcl (by omega) HMS.out).mono ?_
    rintro e w2 ⟨g, c, g2, c2, G, D, rfl, hg, hcc, own1, own2, hb2⟩
    have h12 := hb2.size
    have hgg : g2 < w2.heap.size := (own2.outer.lt g2 rfl).2
    have hgl : w1.heap.size ≤ g2 := (own2.outer.lt g2 rfl).1
    obtain ⟨W2, hW2⟩ : ∃ W2, W2 = (w2.alloc (.cells #[.string nm, .slice (some ⟨g, 0, none⟩) nc c, .slice (some ⟨g2, 0, none⟩) nr c2] 32)) := ⟨_, rfl⟩
    have hA2 : Below w2.heap.size w2 W2 := by rw [hW2]; exact (Below.refl _ _).alloc (Nat.le_refl _) _
    have hob : W2.heap[w2.heap.size]? = some (.cells #[.string nm, .slice (some ⟨g, 0, none⟩) nc c, .slice (some ⟨g2, 0, none⟩) nr c2] 32 (0, 0)) := by rw [hW2]; show (w2.heap.push _)[w2.heap.size]? = _; simp
    have o0 : W2.cell? ⟨w2.heap.size, 0, none⟩ = some (.string nm) := by rw [hW2]; simp
    have o1 : W2.cell? ⟨w2.heap.size, 1, none⟩ = some (.slice (some ⟨g, 0, none⟩) nc c) := by rw [hW2]; simp
    have of2 : W2.frozen? ⟨w2.heap.size, 2, none⟩ = false := by rw [hW2]; simp
    have o2 : W2.cell? ⟨w2.heap.size, 2, none⟩ = some (.slice (some ⟨g2, 0, none⟩) nr c2) := by rw [hW2]; simp
    have SZ2 : Hid (W2.heap.size = w2.heap.size + 1) := by
      have : W2.heap.size = w2.heap.size + 1 := by rw [hW2]; simp
      exact this
    have hlt2 : w2.heap.size < W2.heap.size := by have := SZ2.out; omega
    have OB : Hid (W2.heap[w2.heap.size]? = some (.cells #[.string nm, .slice (some ⟨g, 0, none⟩) nc c, .slice (some ⟨g2, 0, none⟩) nr c2] 32 (0, 0))) := hob
    have hxw : Below w1.heap.size w1 W2 := chain hb2 hA2
    have O1 : Hid (W2.ownsRow w1.heap.size 9 1 (.slice (some ⟨g, 0, none⟩) C.length c) C.length (strV C)) := own_below own1 hA2
    have O2 : Hid (OwnRows W2 w1.heap.size (.slice (some ⟨g2, 0, none⟩) nr c2) L G D) := own2.below hA2
    have R2 : Hid (RowAt W2 a r) := R1.out.below hxw
    clear own1 own2 hb2 hob hA2 R1 p0 p1 p2 q0 q1 q2 f0 f1 f2
    obtain ⟨i0, hi, hz0, hz1, hz2⟩ := info_parts infoRowP
    go_wp2_with fail
    rw [← hW2]
    clear hW2
    refine wp_region_any (by kernel_rfl) (show wpAny _ _ _ _ _ _ _ W2.drew from ?_)
    refine wpAny_take (i := 0) (by simp only [List.getElem?_toArray, List.getElem?_cons_zero]; rfl) (by kernel_rfl) (by kernel_rfl) (by kernel_rfl) (by intro _ _ _ h; exact h) (Or.inl ⟨by rfl, fun w => by (go_simp; (try with_reducible rfl))⟩) ?_
    simp only [Act.put, List.setIfInBounds_toArray, List.set_cons_zero, List.set_cons_succ]
    refine wpAny_take (i := 2) (by simp only [List.getElem?_toArray, List.getElem?_cons_zero, List.getElem?_cons_succ]; rfl) (by kernel_rfl) (by kernel_rfl) (by kernel_rfl) (by intro _ _ _ h; exact h) (Or.inl ⟨by rfl, fun w => by (go_simp; (try with_reducible rfl))⟩) ?_
    simp only [Act.put, List.setIfInBounds_toArray, List.set_cons_zero, List.set_cons_succ]
    refine wpAny_ready (rs := [1, 3]) (by kernel_rfl) (by simp) ?_
    refine AllReady.cons (by simp only [List.getElem?_toArray, List.getElem?_cons_zero, List.getElem?_cons_succ]; rfl) ?_ (AllReady.cons (by simp only [List.getElem?_toArray, List.getElem?_cons_zero, List.getElem?_cons_succ]; rfl) ?_ AllReady.nil)
    · intro K hK
      go_simp
      refine hK _ _ ?_
      clear hK K
      try simp only [Act.put, List.setIfInBounds_toArray, List.set_cons_zero, List.set_cons_succ]
      refine wpAny_ready (rs := [3]) (by kernel_rfl) (by simp) ?_
      refine AllReady.cons (by simp only [List.getElem?_toArray, List.getElem?_cons_zero, List.getElem?_cons_succ]; rfl) ?_ AllReady.nil
      intro K hK
      go_simp
      refine (row_specN n a cap r HN.out _ (R2.out.below (Below.refl _ _).drew) hnil hm).mono ?_
      rintro e w3 ⟨gr, cr3, rfl, hgr, ownr, hb3⟩
      have hx3 : Below W2.heap.size W2 w3 := undrew hb3
      have o3 : w3.cell? ⟨w2.heap.size, 2, none⟩ = some (.slice (some ⟨g2, 0, none⟩) nr c2) := by rw [hx3.cell (p := ⟨w2.heap.size, 2, none⟩) hlt2]; exact o2
      have hlt3 : w2.heap.size < w3.heap.size := by have := hx3.size; omega
      clear hb3
      go_wp2_with fail
      try clear hK K
      try simp only [Act.put, List.setIfInBounds_toArray, List.set_cons_zero, List.set_cons_succ]
      refine wpAny_ready (rs := [4]) (by kernel_rfl) (by simp) ?_
      refine AllReady.cons (by simp only [List.getElem?_toArray, List.getElem?_cons_zero, List.getElem?_cons_succ]; rfl) ?_ AllReady.nil
      intro K hK
      go_simp
      refine hK _ _ ?_
      clear hK K
      try simp only [Act.put, List.setIfInBounds_toArray, List.set_cons_zero, List.set_cons_succ]
      refine wpAny_ready (rs := [5]) (by kernel_rfl) (by simp) ?_
      refine AllReady.cons (by simp only [List.getElem?_toArray, List.getElem?_cons_zero, List.getElem?_cons_succ]; rfl) ?_ AllReady.nil
      intro K hK
      rw [if_pos (by rfl)]
      refine wp_append_own _ _ _ 24 rfl w1.heap.size 29 i0 (.slice none 0 0) 1 24 Try.underlying24 hi hz0 hz1 hz2 rfl (by decide) (.slice (some ⟨g2, 0, none⟩) nr c2) L.length ((List.range L.length).map (headOf G D L)) rfl ((O2.out.below hx3).outer.alloc _) ⟨w3.heap.size, 0, none⟩ 1 1 [.slice (some ⟨gr, 0, none⟩) n cr3] rfl rfl ?_ ?_ ?_ ?_ ?_ ?_
      · intro j u hj
        match j, hj with
        | 0, hj => simp at hj; subst hj; simp [Addr.add]
      · intro u hu; simp at hu; subst hu; rfl
      · rw [HNR.out]; unfold maxLen; omega
      · rw [HNR.out]; omega
      · have h8 := hx3.size; have h9 := hxw.size; simp; omega
      intro v' w4 own4 hgrow hnn
      obtain ⟨g4, c4, rfl, hcap4⟩ : ∃ g4 c4, v' = .slice (some ⟨g4, 0, none⟩) (nr + 1) c4 ∧ nr + 1 ≤ c4 := by
        rcases own4.2 with ⟨_, h0⟩ | ⟨g4, c4, cur, h', _, _, hle, _⟩
        · omega
        · exact ⟨g4, c4, by rw [h', HNR.out], by rw [← HNR.out]; exact hle⟩
      have FF : Hid (∃ G' D', OutTab (w4.setCell ⟨w2.heap.size, 2, none⟩ (.slice (some ⟨g4, 0, none⟩) (nr + 1) c4)) w1.heap.size (some ⟨g, 0, none⟩) c (some ⟨g4, 0, none⟩) (putT (nm, C, L) r) G' D') := put_step O1.out O2.out OB.out HNR.out HN.out hx3 hxw.size hgr ownr own4 hgrow hgg (by rw [HNC.out]; exact hcc) H1.out.fit H1.out.name H1.out.len (by unfold maxLen; omega) (fun i hi => by obtain ⟨_, _, _, _, _, _, _, _, h, _⟩ := H1.out.rows i hi; exact h) (fun i hi => by obtain ⟨_, _, _, _, _, _, _, _, _, h, _⟩ := H1.out.rows i hi; exact h) hfit (by unfold maxLen; omega) _
      have hs3 := hx3.size
      have hbk : w4.heap[w2.heap.size]? = W2.heap[w2.heap.size]? := by
        rw [hgrow.block w2.heap.size (by simp; omega) (by simp [Value.ownBlock]; omega)]
        show (w3.heap.push _)[w2.heap.size]? = _
        rw [Array.getElem?_push_lt (by omega), ← Array.getElem?_eq_getElem (by omega), hx3.block _ hlt2]
      have u0 : w4.cell? ⟨w2.heap.size, 0, none⟩ = some (.string nm) := (World.cell?_of_block (a := ⟨w2.heap.size, 0, none⟩) hbk).trans o0
      have u1 : w4.cell? ⟨w2.heap.size, 1, none⟩ = some (.slice (some ⟨g, 0, none⟩) nc c) := (World.cell?_of_block (a := ⟨w2.heap.size, 1, none⟩) hbk).trans o1
      have u2 : w4.cell? ⟨w2.heap.size, 2, none⟩ = some (.slice (some ⟨g2, 0, none⟩) nr c2) := (World.cell?_of_block (a := ⟨w2.heap.size, 2, none⟩) hbk).trans o2
      have uf : w4.frozen? ⟨w2.heap.size, 2, none⟩ = false := (World.frozen?_of_block (a := ⟨w2.heap.size, 2, none⟩) hbk).trans of2
      have hsw : w1.heap.size ≤ W2.heap.size := hxw.size
      have hx4 : Below w1.heap.size w1 w4 := (hxw.trans ((hx3.mono hsw).alloc (by omega) _)).grown hgrow (by simp; omega) (by intro k hk; simp [Value.ownBlock] at hk; omega)
      have hs4 := hx4.size
      refine hK _ _ ?_
      clear hK K
      try simp only [Act.put, List.setIfInBounds_toArray, List.set_cons_zero, List.set_cons_succ]
      clear own4 hgrow hnn hbk
      refine wpAny_take (i := 6) (by simp only [List.getElem?_toArray, List.getElem?_cons_zero, List.getElem?_cons_succ]; rfl) (by kernel_rfl) (by kernel_rfl) (by kernel_rfl) (by intro _ _ _ h; exact h) (Or.inl ⟨by rfl, fun w => by (go_simp; (try with_reducible rfl))⟩) ?_
      simp only [Act.put, List.setIfInBounds_toArray, List.set_cons_zero, List.set_cons_succ]
      refine wpAny_ready (rs := [7]) (by kernel_rfl) (by simp) ?_
      refine AllReady.cons (by simp only [List.getElem?_toArray, List.getElem?_cons_zero, List.getElem?_cons_succ]; rfl) ?_ AllReady.nil
      intro K hK
      go_simp
      refine hK _ _ ?_
      clear hK K
      try simp only [Act.put, List.setIfInBounds_toArray, List.set_cons_zero, List.set_cons_succ]
      refine wpAny_done (by kernel_rfl) ?_ _
      obtain ⟨w5, hw5⟩ : ∃ w5, w5 = w4.setCell ⟨w2.heap.size, 2, none⟩ (.slice (some ⟨g4, 0, none⟩) (nr + 1) c4) := ⟨_, rfl⟩
      rw [← hw5]
      have hx5 : Below w1.heap.size w1 w5 := by rw [hw5]; exact hx4.setCell (p := ⟨w2.heap.size, 2, none⟩) h12 _
      have y0 : w5.cell? ⟨w2.heap.size, 0, none⟩ = some (.string nm) := by rw [hw5, cell_off _ _ _ _ _ (by omega)]; exact u0
      have y1 : w5.cell? ⟨w2.heap.size, 1, none⟩ = some (.slice (some ⟨g, 0, none⟩) nc c) := by rw [hw5, cell_off _ _ _ _ _ (by omega)]; exact u1
      have y2 : w5.cell? ⟨w2.heap.size, 2, none⟩ = some (.slice (some ⟨g4, 0, none⟩) (nr + 1) c4) := by rw [hw5, cell_here _ _ _ _ (by rw [u2]; rfl)]
      have hl5 : w2.heap.size < w5.heap.size := by
        have h8 : w5.heap.size = w4.heap.size := by rw [hw5]; simp
        have h9 := World.block_lt_of_cell? w4 _ u0
        have h10 : w2.heap.size < w4.heap.size := h9
        omega
      rw [← hw5] at FF
      obtain ⟨A5, D5, F5⟩ := FF.out
      have F5' : Hid (OutTab w5 w1.heap.size (some ⟨g, 0, none⟩) c (some ⟨g4, 0, none⟩) (putT (nm, C, L) r) A5 D5) := F5
      obtain ⟨q, hq⟩ : ∃ q, tableB (putT (nm, C, L) r) = q := ⟨_, rfl⟩
      have HQ5 : Hid (tableB (putT (nm, C, L) r) = q) := hq
      have hT := HTT.out
      rw [hq] at hT
      have hnc5 : Hid ((putT (nm, C, L) r).2.1.length = nc) := HNC.out
      have hnr5 : Hid ((putT (nm, C, L) r).2.2.length = nr + 1) := by
        have : (putT (nm, C, L) r).2.2.length = nr + 1 := by rw [← HNR.out]; exact List.length_append
        exact this
      clear FF F5 hq hw5 u0 u1 u2 uf o0 o1 o2 of2 OB ownr hx3 o3 HTT
      clear hx4 hs4
      clear w4
      go_wp2_with fail
      refine (table_spec _ _ _ _ (putT (nm, C, L) r) nc (nr + 1) hnc5.out hnr5.out _ F5'.out.tab q HQ5.out).mono ?_
      rintro e w6 ⟨rfl, hb6⟩
      obtain ⟨y0, y1, y2, y3⟩ := later3 hb6 ⟨y0, y1, y2, hl5⟩
      have hx6 : Below w1.heap.size w1 w6 := hx5.trans (hb6.mono hx5.size)
      have F6 : Hid (OutTab w6 w1.heap.size (some ⟨g, 0, none⟩) c (some ⟨g4, 0, none⟩) (putT (nm, C, L) r) A5 D5) := F5'.out.below hb6
      have hs6 := hx6.size
      obtain ⟨hc6, hf6⟩ := bcell hx6
      obtain ⟨⟨p0, p1, p2⟩, ⟨q0, q1, q2⟩, f0, f1, f2⟩ := QQ.out
      rw [← hc6 _ _ (by omega)] at p0 p1 p2 q0 q1 q2
      rw [← hf6 _ _ (by omega)] at f0 f1 f2
      clear hc6 hf6 hb6 F5' hx5 hl5 QQ
      cases q
      · rw [if_neg (by simp)] at hT
        obtain ⟨rfl, rfl⟩ := Prod.mk.inj hT
        clear hT
        go_wp2_with fail
        refine (copy_spec ca cc ra cr (nm, C, L) nc nr HNC.out HNR.out _ (H1.out.below hx6) hcl (by omega) HMS.out).mono ?_
        rintro e w7 ⟨g7, c7, g8, c8, G7, D7, rfl, hg7, hc7, own7, own8, hb7⟩
        obtain ⟨hc, hf⟩ := bcell hb7
        rw [← hc _ _ (by omega)] at q0 q1 q2
        rw [← hf _ _ (by omega)] at f0 f1 f2
        have hx7 : Below w.heap.size w w7 := chain hx (hx6.trans (hb7.mono hs6))
        have OT : Hid (OutTab w7 w6.heap.size (some ⟨g7, 0, none⟩) c7 (some ⟨g8, 0, none⟩) (nm, C, L) (fun i => some ⟨G7 i, 0, none⟩) D7) := by
          have : OutTab w7 w6.heap.size (some ⟨g7, 0, none⟩) c7 (some ⟨g8, 0, none⟩) (nm, C, L) (fun i => some ⟨G7 i, 0, none⟩) D7 :=
            out_of_own (S := 9) (t := (nm, C, L)) (by decide) (by decide) own7 (by rw [show (nm, C, L).2.2.length = nr from HNR.out]; exact own8) (by rw [show (nm, C, L).2.1.length = nc from HNC.out]; exact hc7) H1.out.fit H1.out.name H1.out.len H1.out.lenR (fun i hi => by obtain ⟨_, _, _, _, _, _, _, _, h, _⟩ := H1.out.rows i hi; exact h) (fun i hi => by obtain ⟨_, _, _, _, _, _, _, _, _, h, _⟩ := H1.out.rows i hi; exact h)
          exact this
        have hcap8 : (nm, C, L).2.2.length ≤ c8 := own_cap own8.outer
        clear own7 own8 hb7 hc hf
        go_wp2_with fail
        refine bodyPost_ret (v := .tuple #[.agg #[.string nm, .slice (some ⟨g7, 0, none⟩) nc c7, .slice (some ⟨g8, 0, none⟩) nr c8], .bool false]) (by simp [results, Try.results17, go_sem, q0, q1, q2]) rfl ⟨_, c7, _, c8, _, _, by rw [show (nm, C, L).2.1.length = nc from HNC.out, show (nm, C, L).2.2.length = nr from HNR.out], (OT.out.set3 (w.heap.size + 1) (by omega) _ _ _ _ _ _).base (by omega), ?_, hcap8⟩
        repeat (first | exact hx7 | refine Below.setCell ?_ (by first | (simp; done) | (simp; omega)) _)
      · rw [if_pos (by simp)] at hT
        obtain ⟨rfl, rfl⟩ := Prod.mk.inj hT
        clear hT
        have hx7 : Below w.heap.size w w6 := chain hx hx6
        go_wp2_with fail
        refine bodyPost_ret (v := .tuple #[.agg #[.string nm, .slice (some ⟨g, 0, none⟩) nc c, .slice (some ⟨g4, 0, none⟩) (nr + 1) c4], .bool true]) (by simp [results, Try.results17, go_sem, q0, q1, q2]) rfl ⟨_, c, _, c4, _, _, by rw [hnc5.out, hnr5.out]; rfl, (F6.out.set3 (w.heap.size + 1) (by omega) _ _ _ _ _ _).base (by omega), ?_, by rw [hnr5.out]; exact hcap4⟩
        repeat (first | exact hx7 | refine Below.setCell ?_ (by first | (simp; done) | (simp; omega)) _)
    · intro K hK
      go_simp
      refine (row_specN n a cap r HN.out _ (R2.out.below (Below.refl _ _).drew) hnil hm).mono ?_
      rintro e w3 ⟨gr, cr3, rfl, hgr, ownr, hb3⟩
      have hx3 : Below W2.heap.size W2 w3 := undrew hb3
      have o3 : w3.cell? ⟨w2.heap.size, 2, none⟩ = some (.slice (some ⟨g2, 0, none⟩) nr c2) := by rw [hx3.cell (p := ⟨w2.heap.size, 2, none⟩) hlt2]; exact o2
      have hlt3 : w2.heap.size < w3.heap.size := by have := hx3.size; omega
      clear hb3
      go_wp2_with fail
      try clear hK K
      try simp only [Act.put, List.setIfInBounds_toArray, List.set_cons_zero, List.set_cons_succ]
      refine wpAny_ready (rs := [1, 4]) (by kernel_rfl) (by simp) ?_
      refine AllReady.cons (by simp only [List.getElem?_toArray, List.getElem?_cons_zero, List.getElem?_cons_succ]; rfl) ?_ (AllReady.cons (by simp only [List.getElem?_toArray, List.getElem?_cons_zero, List.getElem?_cons_succ]; rfl) ?_ AllReady.nil)
      · intro K hK
        go_simp
        refine hK _ _ ?_
        clear hK K
        try simp only [Act.put, List.setIfInBounds_toArray, List.set_cons_zero, List.set_cons_succ]
        refine wpAny_ready (rs := [4]) (by kernel_rfl) (by simp) ?_
        refine AllReady.cons (by simp only [List.getElem?_toArray, List.getElem?_cons_zero, List.getElem?_cons_succ]; rfl) ?_ AllReady.nil
        intro K hK
        go_simp
        refine hK _ _ ?_
        clear hK K
        try simp only [Act.put, List.setIfInBounds_toArray, List.set_cons_zero, List.set_cons_succ]
        refine wpAny_ready (rs := [5]) (by kernel_rfl) (by simp) ?_
        refine AllReady.cons (by simp only [List.getElem?_toArray, List.getElem?_cons_zero, List.getElem?_cons_succ]; rfl) ?_ AllReady.nil
        intro K hK
        rw [if_pos (by rfl)]
        refine wp_append_own _ _ _ 24 rfl w1.heap.size 29 i0 (.slice none 0 0) 1 24 Try.underlying24 hi hz0 hz1 hz2 rfl (by decide) (.slice (some ⟨g2, 0, none⟩) nr c2) L.length ((List.range L.length).map (headOf G D L)) rfl ((O2.out.below hx3).outer.alloc _) ⟨w3.heap.size, 0, none⟩ 1 1 [.slice (some ⟨gr, 0, none⟩) n cr3] rfl rfl ?_ ?_ ?_ ?_ ?_ ?_
        · intro j u hj
          match j, hj with
          | 0, hj => simp at hj; subst hj; simp [Addr.add]
        · intro u hu; simp at hu; subst hu; rfl
        · rw [HNR.out]; unfold maxLen; omega
        · rw [HNR.out]; omega
        · have h8 := hx3.size; have h9 := hxw.size; simp; omega
        intro v' w4 own4 hgrow hnn
        obtain ⟨g4, c4, rfl, hcap4⟩ : ∃ g4 c4, v' = .slice (some ⟨g4, 0, none⟩) (nr + 1) c4 ∧ nr + 1 ≤ c4 := by
          rcases own4.2 with ⟨_, h0⟩ | ⟨g4, c4, cur, h', _, _, hle, _⟩
          · omega
          · exact ⟨g4, c4, by rw [h', HNR.out], by rw [← HNR.out]; exact hle⟩
        have FF : Hid (∃ G' D', OutTab (w4.setCell ⟨w2.heap.size, 2, none⟩ (.slice (some ⟨g4, 0, none⟩) (nr + 1) c4)) w1.heap.size (some ⟨g, 0, none⟩) c (some ⟨g4, 0, none⟩) (putT (nm, C, L) r) G' D') := put_step O1.out O2.out OB.out HNR.out HN.out hx3 hxw.size hgr ownr own4 hgrow hgg (by rw [HNC.out]; exact hcc) H1.out.fit H1.out.name H1.out.len (by unfold maxLen; omega) (fun i hi => by obtain ⟨_, _, _, _, _, _, _, _, h, _⟩ := H1.out.rows i hi; exact h) (fun i hi => by obtain ⟨_, _, _, _, _, _, _, _, _, h, _⟩ := H1.out.rows i hi; exact h) hfit (by unfold maxLen; omega) _
        have hs3 := hx3.size
        have hbk : w4.heap[w2.heap.size]? = W2.heap[w2.heap.size]? := by
          rw [hgrow.block w2.heap.size (by simp; omega) (by simp [Value.ownBlock]; omega)]
          show (w3.heap.push _)[w2.heap.size]? = _
          rw [Array.getElem?_push_lt (by omega), ← Array.getElem?_eq_getElem (by omega), hx3.block _ hlt2]
        have u0 : w4.cell? ⟨w2.heap.size, 0, none⟩ = some (.string nm) := (World.cell?_of_block (a := ⟨w2.heap.size, 0, none⟩) hbk).trans o0
        have u1 : w4.cell? ⟨w2.heap.size, 1, none⟩ = some (.slice (some ⟨g, 0, none⟩) nc c) := (World.cell?_of_block (a := ⟨w2.heap.size, 1, none⟩) hbk).trans o1
        have u2 : w4.cell? ⟨w2.heap.size, 2, none⟩ = some (.slice (some ⟨g2, 0, none⟩) nr c2) := (World.cell?_of_block (a := ⟨w2.heap.size, 2, none⟩) hbk).trans o2
        have uf : w4.frozen? ⟨w2.heap.size, 2, none⟩ = false := (World.frozen?_of_block (a := ⟨w2.heap.size, 2, none⟩) hbk).trans of2
        have hsw : w1.heap.size ≤ W2.heap.size := hxw.size
        have hx4 : Below w1.heap.size w1 w4 := (hxw.trans ((hx3.mono hsw).alloc (by omega) _)).grown hgrow (by simp; omega) (by intro k hk; simp [Value.ownBlock] at hk; omega)
        have hs4 := hx4.size
        refine hK _ _ ?_
        clear hK K
        try simp only [Act.put, List.setIfInBounds_toArray, List.set_cons_zero, List.set_cons_succ]
        clear own4 hgrow hnn hbk
        refine wpAny_take (i := 6) (by simp only [List.getElem?_toArray, List.getElem?_cons_zero, List.getElem?_cons_succ]; rfl) (by kernel_rfl) (by kernel_rfl) (by kernel_rfl) (by intro _ _ _ h; exact h) (Or.inl ⟨by rfl, fun w => by (go_simp; (try with_reducible rfl))⟩) ?_
        simp only [Act.put, List.setIfInBounds_toArray, List.set_cons_zero, List.set_cons_succ]
        refine wpAny_ready (rs := [7]) (by kernel_rfl) (by simp) ?_
        refine AllReady.cons (by simp only [List.getElem?_toArray, List.getElem?_cons_zero, List.getElem?_cons_succ]; rfl) ?_ AllReady.nil
        intro K hK
        go_simp
        refine hK _ _ ?_
        clear hK K
        try simp only [Act.put, List.setIfInBounds_toArray, List.set_cons_zero, List.set_cons_succ]
        refine wpAny_done (by kernel_rfl) ?_ _
        obtain ⟨w5, hw5⟩ : ∃ w5, w5 = w4.setCell ⟨w2.heap.size, 2, none⟩ (.slice (some ⟨g4, 0, none⟩) (nr + 1) c4) := ⟨_, rfl⟩
        rw [← hw5]
        have hx5 : Below w1.heap.size w1 w5 := by rw [hw5]; exact hx4.setCell (p := ⟨w2.heap.size, 2, none⟩) h12 _
        have y0 : w5.cell? ⟨w2.heap.size, 0, none⟩ = some (.string nm) := by rw [hw5, cell_off _ _ _ _ _ (by omega)]; exact u0
        have y1 : w5.cell? ⟨w2.heap.size, 1, none⟩ = some (.slice (some ⟨g, 0, none⟩) nc c) := by rw [hw5, cell_off _ _ _ _ _ (by omega)]; exact u1
        have y2 : w5.cell? ⟨w2.heap.size, 2, none⟩ = some (.slice (some ⟨g4, 0, none⟩) (nr + 1) c4) := by rw [hw5, cell_here _ _ _ _ (by rw [u2]; rfl)]
        have hl5 : w2.heap.size < w5.heap.size := by
          have h8 : w5.heap.size = w4.heap.size := by rw [hw5]; simp
          have h9 := World.block_lt_of_cell? w4 _ u0
          have h10 : w2.heap.size < w4.heap.size := h9
          omega
        rw [← hw5] at FF
        obtain ⟨A5, D5, F5⟩ := FF.out
        have F5' : Hid (OutTab w5 w1.heap.size (some ⟨g, 0, none⟩) c (some ⟨g4, 0, none⟩) (putT (nm, C, L) r) A5 D5) := F5
        obtain ⟨q, hq⟩ : ∃ q, tableB (putT (nm, C, L) r) = q := ⟨_, rfl⟩
        have HQ5 : Hid (tableB (putT (nm, C, L) r) = q) := hq
        have hT := HTT.out
        rw [hq] at hT
        have hnc5 : Hid ((putT (nm, C, L) r).2.1.length = nc) := HNC.out
        have hnr5 : Hid ((putT (nm, C, L) r).2.2.length = nr + 1) := by
          have : (putT (nm, C, L) r).2.2.length = nr + 1 := by rw [← HNR.out]; exact List.length_append
          exact this
        clear FF F5 hq hw5 u0 u1 u2 uf o0 o1 o2 of2 OB ownr hx3 o3 HTT
        clear hx4 hs4
        clear w4
        go_wp2_with fail
        refine (table_spec _ _ _ _ (putT (nm, C, L) r) nc (nr + 1) hnc5.out hnr5.out _ F5'.out.tab q HQ5.out).mono ?_
        rintro e w6 ⟨rfl, hb6⟩
        obtain ⟨y0, y1, y2, y3⟩ := later3 hb6 ⟨y0, y1, y2, hl5⟩
        have hx6 : Below w1.heap.size w1 w6 := hx5.trans (hb6.mono hx5.size)
        have F6 : Hid (OutTab w6 w1.heap.size (some ⟨g, 0, none⟩) c (some ⟨g4, 0, none⟩) (putT (nm, C, L) r) A5 D5) := F5'.out.below hb6
        have hs6 := hx6.size
        obtain ⟨hc6, hf6⟩ := bcell hx6
        obtain ⟨⟨p0, p1, p2⟩, ⟨q0, q1, q2⟩, f0, f1, f2⟩ := QQ.out
        rw [← hc6 _ _ (by omega)] at p0 p1 p2 q0 q1 q2
        rw [← hf6 _ _ (by omega)] at f0 f1 f2
        clear hc6 hf6 hb6 F5' hx5 hl5 QQ
        cases q
        · rw [if_neg (by simp)] at hT
          obtain ⟨rfl, rfl⟩ := Prod.mk.inj hT
          clear hT
          go_wp2_with fail
          refine (copy_spec ca cc ra cr (nm, C, L) nc nr HNC.out HNR.out _ (H1.out.below hx6) hcl (by omega) HMS.out).mono ?_
          rintro e w7 ⟨g7, c7, g8, c8, G7, D7, rfl, hg7, hc7, own7, own8, hb7⟩
          obtain ⟨hc, hf⟩ := bcell hb7
          rw [← hc _ _ (by omega)] at q0 q1 q2
          rw [← hf _ _ (by omega)] at f0 f1 f2
          have hx7 : Below w.heap.size w w7 := chain hx (hx6.trans (hb7.mono hs6))
          have OT : Hid (OutTab w7 w6.heap.size (some ⟨g7, 0, none⟩) c7 (some ⟨g8, 0, none⟩) (nm, C, L) (fun i => some ⟨G7 i, 0, none⟩) D7) := by
            have : OutTab w7 w6.heap.size (some ⟨g7, 0, none⟩) c7 (some ⟨g8, 0, none⟩) (nm, C, L) (fun i => some ⟨G7 i, 0, none⟩) D7 :=
              out_of_own (S := 9) (t := (nm, C, L)) (by decide) (by decide) own7 (by rw [show (nm, C, L).2.2.length = nr from HNR.out]; exact own8) (by rw [show (nm, C, L).2.1.length = nc from HNC.out]; exact hc7) H1.out.fit H1.out.name H1.out.len H1.out.lenR (fun i hi => by obtain ⟨_, _, _, _, _, _, _, _, h, _⟩ := H1.out.rows i hi; exact h) (fun i hi => by obtain ⟨_, _, _, _, _, _, _, _, _, h, _⟩ := H1.out.rows i hi; exact h)
            exact this
          have hcap8 : (nm, C, L).2.2.length ≤ c8 := own_cap own8.outer
          clear own7 own8 hb7 hc hf
          go_wp2_with fail
          refine bodyPost_ret (v := .tuple #[.agg #[.string nm, .slice (some ⟨g7, 0, none⟩) nc c7, .slice (some ⟨g8, 0, none⟩) nr c8], .bool false]) (by simp [results, Try.results17, go_sem, q0, q1, q2]) rfl ⟨_, c7, _, c8, _, _, by rw [show (nm, C, L).2.1.length = nc from HNC.out, show (nm, C, L).2.2.length = nr from HNR.out], (OT.out.set3 (w.heap.size + 1) (by omega) _ _ _ _ _ _).base (by omega), ?_, hcap8⟩
          repeat (first | exact hx7 | refine Below.setCell ?_ (by first | (simp; done) | (simp; omega)) _)
        · rw [if_pos (by simp)] at hT
          obtain ⟨rfl, rfl⟩ := Prod.mk.inj hT
          clear hT
          have hx7 : Below w.heap.size w w6 := chain hx hx6
          go_wp2_with fail
          refine bodyPost_ret (v := .tuple #[.agg #[.string nm, .slice (some ⟨g, 0, none⟩) nc c, .slice (some ⟨g4, 0, none⟩) (nr + 1) c4], .bool true]) (by simp [results, Try.results17, go_sem, q0, q1, q2]) rfl ⟨_, c, _, c4, _, _, by rw [hnc5.out, hnr5.out]; rfl, (F6.out.set3 (w.heap.size + 1) (by omega) _ _ _ _ _ _).base (by omega), ?_, by rw [hnr5.out]; exact hcap4⟩
          repeat (first | exact hx7 | refine Below.setCell ?_ (by first | (simp; done) | (simp; omega)) _)
      · intro K hK
        go_simp
        refine hK _ _ ?_
        clear hK K
        try simp only [Act.put, List.setIfInBounds_toArray, List.set_cons_zero, List.set_cons_succ]
        refine wpAny_ready (rs := [1]) (by kernel_rfl) (by simp) ?_
        refine AllReady.cons (by simp only [List.getElem?_toArray, List.getElem?_cons_zero, List.getElem?_cons_succ]; rfl) ?_ AllReady.nil
        intro K hK
        go_simp
        refine hK _ _ ?_
        clear hK K
        try simp only [Act.put, List.setIfInBounds_toArray, List.set_cons_zero, List.set_cons_succ]
        refine wpAny_ready (rs := [5]) (by kernel_rfl) (by simp) ?_
        refine AllReady.cons (by simp only [List.getElem?_toArray, List.getElem?_cons_zero, List.getElem?_cons_succ]; rfl) ?_ AllReady.nil
        intro K hK
        rw [if_pos (by rfl)]
        refine wp_append_own _ _ _ 24 rfl w1.heap.size 29 i0 (.slice none 0 0) 1 24 Try.underlying24 hi hz0 hz1 hz2 rfl (by decide) (.slice (some ⟨g2, 0, none⟩) nr c2) L.length ((List.range L.length).map (headOf G D L)) rfl ((O2.out.below hx3).outer.alloc _) ⟨w3.heap.size, 0, none⟩ 1 1 [.slice (some ⟨gr, 0, none⟩) n cr3] rfl rfl ?_ ?_ ?_ ?_ ?_ ?_
        · intro j u hj
          match j, hj with
          | 0, hj => simp at hj; subst hj; simp [Addr.add]
        · intro u hu; simp at hu; subst hu; rfl
        · rw [HNR.out]; unfold maxLen; omega
        · rw [HNR.out]; omega
        · have h8 := hx3.size; have h9 := hxw.size; simp; omega
        intro v' w4 own4 hgrow hnn
        obtain ⟨g4, c4, rfl, hcap4⟩ : ∃ g4 c4, v' = .slice (some ⟨g4, 0, none⟩) (nr + 1) c4 ∧ nr + 1 ≤ c4 := by
          rcases own4.2 with ⟨_, h0⟩ | ⟨g4, c4, cur, h', _, _, hle, _⟩
          · omega
          · exact ⟨g4, c4, by rw [h', HNR.out], by rw [← HNR.out]; exact hle⟩
        have FF : Hid (∃ G' D', OutTab (w4.setCell ⟨w2.heap.size, 2, none⟩ (.slice (some ⟨g4, 0, none⟩) (nr + 1) c4)) w1.heap.size (some ⟨g, 0, none⟩) c (some ⟨g4, 0, none⟩) (putT (nm, C, L) r) G' D') := put_step O1.out O2.out OB.out HNR.out HN.out hx3 hxw.size hgr ownr own4 hgrow hgg (by rw [HNC.out]; exact hcc) H1.out.fit H1.out.name H1.out.len (by unfold maxLen; omega) (fun i hi => by obtain ⟨_, _, _, _, _, _, _, _, h, _⟩ := H1.out.rows i hi; exact h) (fun i hi => by obtain ⟨_, _, _, _, _, _, _, _, _, h, _⟩ := H1.out.rows i hi; exact h) hfit (by unfold maxLen; omega) _
        have hs3 := hx3.size
        have hbk : w4.heap[w2.heap.size]? = W2.heap[w2.heap.size]? := by
          rw [hgrow.block w2.heap.size (by simp; omega) (by simp [Value.ownBlock]; omega)]
          show (w3.heap.push _)[w2.heap.size]? = _
          rw [Array.getElem?_push_lt (by omega), ← Array.getElem?_eq_getElem (by omega), hx3.block _ hlt2]
        have u0 : w4.cell? ⟨w2.heap.size, 0, none⟩ = some (.string nm) := (World.cell?_of_block (a := ⟨w2.heap.size, 0, none⟩) hbk).trans o0
        have u1 : w4.cell? ⟨w2.heap.size, 1, none⟩ = some (.slice (some ⟨g, 0, none⟩) nc c) := (World.cell?_of_block (a := ⟨w2.heap.size, 1, none⟩) hbk).trans o1
        have u2 : w4.cell? ⟨w2.heap.size, 2, none⟩ = some (.slice (some ⟨g2, 0, none⟩) nr c2) := (World.cell?_of_block (a := ⟨w2.heap.size, 2, none⟩) hbk).trans o2
        have uf : w4.frozen? ⟨w2.heap.size, 2, none⟩ = false := (World.frozen?_of_block (a := ⟨w2.heap.size, 2, none⟩) hbk).trans of2
        have hsw : w1.heap.size ≤ W2.heap.size := hxw.size
        have hx4 : Below w1.heap.size w1 w4 := (hxw.trans ((hx3.mono hsw).alloc (by omega) _)).grown hgrow (by simp; omega) (by intro k hk; simp [Value.ownBlock] at hk; omega)
        have hs4 := hx4.size
        refine hK _ _ ?_
        clear hK K
        try simp only [Act.put, List.setIfInBounds_toArray, List.set_cons_zero, List.set_cons_succ]
        clear own4 hgrow hnn hbk
        refine wpAny_take (i := 6) (by simp only [List.getElem?_toArray, List.getElem?_cons_zero, List.getElem?_cons_succ]; rfl) (by kernel_rfl) (by kernel_rfl) (by kernel_rfl) (by intro _ _ _ h; exact h) (Or.inl ⟨by rfl, fun w => by (go_simp; (try with_reducible rfl))⟩) ?_
        simp only [Act.put, List.setIfInBounds_toArray, List.set_cons_zero, List.set_cons_succ]
        refine wpAny_ready (rs := [7]) (by kernel_rfl) (by simp) ?_
        refine AllReady.cons (by simp only [List.getElem?_toArray, List.getElem?_cons_zero, List.getElem?_cons_succ]; rfl) ?_ AllReady.nil
        intro K hK
        go_simp
        refine hK _ _ ?_
        clear hK K
        try simp only [Act.put, List.setIfInBounds_toArray, List.set_cons_zero, List.set_cons_succ]
        refine wpAny_done (by kernel_rfl) ?_ _
        obtain ⟨w5, hw5⟩ : ∃ w5, w5 = w4.setCell ⟨w2.heap.size, 2, none⟩ (.slice (some ⟨g4, 0, none⟩) (nr + 1) c4) := ⟨_, rfl⟩
        rw [← hw5]
        have hx5 : Below w1.heap.size w1 w5 := by rw [hw5]; exact hx4.setCell (p := ⟨w2.heap.size, 2, none⟩) h12 _
        have y0 : w5.cell? ⟨w2.heap.size, 0, none⟩ = some (.string nm) := by rw [hw5, cell_off _ _ _ _ _ (by omega)]; exact u0
        have y1 : w5.cell? ⟨w2.heap.size, 1, none⟩ = some (.slice (some ⟨g, 0, none⟩) nc c) := by rw [hw5, cell_off _ _ _ _ _ (by omega)]; exact u1
        have y2 : w5.cell? ⟨w2.heap.size, 2, none⟩ = some (.slice (some ⟨g4, 0, none⟩) (nr + 1) c4) := by rw [hw5, cell_here _ _ _ _ (by rw [u2]; rfl)]
        have hl5 : w2.heap.size < w5.heap.size := by
          have h8 : w5.heap.size = w4.heap.size := by rw [hw5]; simp
          have h9 := World.block_lt_of_cell? w4 _ u0
          have h10 : w2.heap.size < w4.heap.size := h9
          omega
        rw [← hw5] at FF
        obtain ⟨A5, D5, F5⟩ := FF.out
        have F5' : Hid (OutTab w5 w1.heap.size (some ⟨g, 0, none⟩) c (some ⟨g4, 0, none⟩) (putT (nm, C, L) r) A5 D5) := F5
        obtain ⟨q, hq⟩ : ∃ q, tableB (putT (nm, C, L) r) = q := ⟨_, rfl⟩
        have HQ5 : Hid (tableB (putT (nm, C, L) r) = q) := hq
        have hT := HTT.out
        rw [hq] at hT
        have hnc5 : Hid ((putT (nm, C, L) r).2.1.length = nc) := HNC.out
        have hnr5 : Hid ((putT (nm, C, L) r).2.2.length = nr + 1) := by
          have : (putT (nm, C, L) r).2.2.length = nr + 1 := by rw [← HNR.out]; exact List.length_append
          exact this
        clear FF F5 hq hw5 u0 u1 u2 uf o0 o1 o2 of2 OB ownr hx3 o3 HTT
        clear hx4 hs4
        clear w4
        go_wp2_with fail
        refine (table_spec _ _ _ _ (putT (nm, C, L) r) nc (nr + 1) hnc5.out hnr5.out _ F5'.out.tab q HQ5.out).mono ?_
        rintro e w6 ⟨rfl, hb6⟩
        obtain ⟨y0, y1, y2, y3⟩ := later3 hb6 ⟨y0, y1, y2, hl5⟩
        have hx6 : Below w1.heap.size w1 w6 := hx5.trans (hb6.mono hx5.size)
        have F6 : Hid (OutTab w6 w1.heap.size (some ⟨g, 0, none⟩) c (some ⟨g4, 0, none⟩) (putT (nm, C, L) r) A5 D5) := F5'.out.below hb6
        have hs6 := hx6.size
        obtain ⟨hc6, hf6⟩ := bcell hx6
        obtain ⟨⟨p0, p1, p2⟩, ⟨q0, q1, q2⟩, f0, f1, f2⟩ := QQ.out
        rw [← hc6 _ _ (by omega)] at p0 p1 p2 q0 q1 q2
        rw [← hf6 _ _ (by omega)] at f0 f1 f2
        clear hc6 hf6 hb6 F5' hx5 hl5 QQ
        cases q
        · rw [if_neg (by simp)] at hT
          obtain ⟨rfl, rfl⟩ := Prod.mk.inj hT
          clear hT
          go_wp2_with fail
          refine (copy_spec ca cc ra cr (nm, C, L) nc nr HNC.out HNR.out _ (H1.out.below hx6) hcl (by omega) HMS.out).mono ?_
          rintro e w7 ⟨g7, c7, g8, c8, G7, D7, rfl, hg7, hc7, own7, own8, hb7⟩
          obtain ⟨hc, hf⟩ := bcell hb7
          rw [← hc _ _ (by omega)] at q0 q1 q2
          rw [← hf _ _ (by omega)] at f0 f1 f2
          have hx7 : Below w.heap.size w w7 := chain hx (hx6.trans (hb7.mono hs6))
          have OT : Hid (OutTab w7 w6.heap.size (some ⟨g7, 0, none⟩) c7 (some ⟨g8, 0, none⟩) (nm, C, L) (fun i => some ⟨G7 i, 0, none⟩) D7) := by
            have : OutTab w7 w6.heap.size (some ⟨g7, 0, none⟩) c7 (some ⟨g8, 0, none⟩) (nm, C, L) (fun i => some ⟨G7 i, 0, none⟩) D7 :=
              out_of_own (S := 9) (t := (nm, C, L)) (by decide) (by decide) own7 (by rw [show (nm, C, L).2.2.length = nr from HNR.out]; exact own8) (by rw [show (nm, C, L).2.1.length = nc from HNC.out]; exact hc7) H1.out.fit H1.out.name H1.out.len H1.out.lenR (fun i hi => by obtain ⟨_, _, _, _, _, _, _, _, h, _⟩ := H1.out.rows i hi; exact h) (fun i hi => by obtain ⟨_, _, _, _, _, _, _, _, _, h, _⟩ := H1.out.rows i hi; exact h)
            exact this
          have hcap8 : (nm, C, L).2.2.length ≤ c8 := own_cap own8.outer
          clear own7 own8 hb7 hc hf
          go_wp2_with fail
          refine bodyPost_ret (v := .tuple #[.agg #[.string nm, .slice (some ⟨g7, 0, none⟩) nc c7, .slice (some ⟨g8, 0, none⟩) nr c8], .bool false]) (by simp [results, Try.results17, go_sem, q0, q1, q2]) rfl ⟨_, c7, _, c8, _, _, by rw [show (nm, C, L).2.1.length = nc from HNC.out, show (nm, C, L).2.2.length = nr from HNR.out], (OT.out.set3 (w.heap.size + 1) (by omega) _ _ _ _ _ _).base (by omega), ?_, hcap8⟩
          repeat (first | exact hx7 | refine Below.setCell ?_ (by first | (simp; done) | (simp; omega)) _)
        · rw [if_pos (by simp)] at hT
          obtain ⟨rfl, rfl⟩ := Prod.mk.inj hT
          clear hT
          have hx7 : Below w.heap.size w w6 := chain hx hx6
          go_wp2_with fail
          refine bodyPost_ret (v := .tuple #[.agg #[.string nm, .slice (some ⟨g, 0, none⟩) nc c, .slice (some ⟨g4, 0, none⟩) (nr + 1) c4], .bool true]) (by simp [results, Try.results17, go_sem, q0, q1, q2]) rfl ⟨_, c, _, c4, _, _, by rw [hnc5.out, hnr5.out]; rfl, (F6.out.set3 (w.heap.size + 1) (by omega) _ _ _ _ _ _).base (by omega), ?_, by rw [hnr5.out]; exact hcap4⟩
          repeat (first | exact hx7 | refine Below.setCell ?_ (by first | (simp; done) | (simp; omega)) _)

end Go.Proofs.Ytbjpjhhdnbclbab
