/-
  A part of the proof: TabsOwn, Tab6, PutS, SortMath, SortedS, CopyI, PutI, ShI5.
-/
import Derived.Test.YteamdmcgkpeelalGreatDoorPart10
import Derived.Maps.AppendAt
import Derived.Test.YteamdmcgkpeelalGreatDoorPart4
import Derived.Test.YteamdmcgkpeelalGreatDoorPart8
import Derived.Test.YteamdmcgkpeelalGreatDoorPart9
import Derived.Test.YteamdmcgkpeelalGreatDoorPart5

/-
  A list of tables that a call makes, one behind the other: the heads in a row of its own, each table's lists newer than those ahead of it.
-/
namespace Go.Proofs.YteamdmcgkpeelalGreatDoor
open Go.ChangeShapes Go.WideShapes Go.ChangeAt Go.RowKit

def zeroTB : TB := (⟨#[]⟩, [], [])
def headV (t : TB) (q : TAd) : List Value := [.string t.1, .slice q.ca t.2.1.length q.cc, .slice q.ra t.2.2.length q.cr]
/-- The heads of the first k tables, cell by cell. -/
def tabsV (V : List TB) (Q : Nat → TAd) : Nat → List Value
  | 0 => []
  | k + 1 => tabsV V Q k ++ headV (V.getD k zeroTB) (Q k)
theorem tabsV_length (V : List TB) (Q : Nat → TAd) (k : Nat) : (tabsV V Q k).length = k * 3 := by
  induction k with
  | zero => rfl
  | succ k ih => rw [tabsV, List.length_append, ih]; simp [headV]; omega
theorem tabsV_congr {V : List TB} {Q Q' : Nat → TAd} {k : Nat} (h : ∀ i, i < k → Q i = Q' i) : tabsV V Q k = tabsV V Q' k := by
  induction k with
  | zero => rfl
  | succ k ih => rw [tabsV, tabsV, ih (fun i hi => h i (by omega)), h k (by omega)]
theorem getD_tb {V : List TB} {k : Nat} (h : k < V.length) : V.getD k zeroTB = V[k] := by simp [List.getD, List.getElem?_eq_getElem h]
theorem tabsV_at {V : List TB} {Q : Nat → TAd} {k i j : Nat} (hi : i < k) (hj : j < 3) : (tabsV V Q k)[i * 3 + j]? = (headV (V.getD i zeroTB) (Q i))[j]? := by
  induction k with
  | zero => omega
  | succ k ih =>
    rw [tabsV]
    by_cases e : i = k
    · subst e
      rw [List.getElem?_append_right (by rw [tabsV_length]; omega), tabsV_length]
      congr 1
      omega
    · rw [List.getElem?_append_left (by rw [tabsV_length]; omega)]
      exact ih (by omega)
structure OwnTs (w : World) (base : Nat) (v : Value) (V : List TB) (Q : Nat → TAd) (k : Nat) : Prop where
  own : w.ownsRow base 37 3 v k (tabsV V Q k)
  tabs : ∀ i (_ : i < V.length), i < k → OutT w base (Q i) V[i]
  apart : ∀ i j (_ : i < V.length) (_ : j < V.length) b, i < k → j < k → i ≠ j → (Q i).blks V[i] b → ¬ (Q j).blks V[j] b
  head : ∀ g, v.ownBlock = some g → ∀ i (_ : i < V.length), i < k → ¬ (Q i).blks V[i] g
theorem KeepS.grown {w w' : World} {row : Option Nat} (h : w.grownBy w' row) : KeepS (fun b => some b = row) w w' := ⟨h.os, h.tape, h.output, h.size, fun k hk hn => h.block k hk hn⟩
theorem OwnTs.below {w w' : World} {base : Nat} {v : Value} {V : List TB} {Q : Nat → TAd} {k : Nat} (h : OwnTs w base v V Q k) (hb : Below w.heap.size w w') : OwnTs w' base v V Q k :=
  ⟨own_below h.own hb, fun i hi hk => (h.tabs i hi hk).below hb, h.apart, h.head⟩
theorem OwnTs.start {w : World} {base : Nat} {v : Value} {V : List TB} (Q : Nat → TAd) (h : w.ownsRow base 37 3 v 0 []) : OwnTs w base v V Q 0 :=
  ⟨h, fun i _ h => by omega, fun i j _ _ b h => by omega, fun g _ i _ h => by omega⟩
/-- One table more at the end. -/
theorem OwnTs.snoc {wr w1 w3 : World} {base : Nat} {v v' : Value} {V : List TB} {Q : Nat → TAd} {k : Nat} {q : TAd} {ob : Obj} (h : OwnTs wr base v V Q k) (hk : k < V.length) (hbase : base ≤ wr.heap.size) (hb : Below wr.heap.size wr w1) (hq : OutT w1 wr.heap.size q V[k])
    (hown : w3.ownsRow base 37 3 v' (k + 1) (tabsV V Q k ++ headV V[k] q)) (hgrow : (w1.alloc ob).grownBy w3 v.ownBlock) (hloc : v'.ownBlock = v.ownBlock ∨ v'.ownBlock = some (w1.alloc ob).heap.size) : OwnTs w3 base v' V (setQ Q k q) (k + 1) := by
  have hA : Below w1.heap.size w1 (w1.alloc ob) := (Below.refl _ _).alloc (Nat.le_refl _) _
  have far : ∀ i (hi : i < V.length) b, i < k → (Q i).blks V[i] b → b < wr.heap.size := fun i hi b hik hb => (h.tabs i hi hik).lt b hb
  have near : ∀ b, q.blks V[k] b → wr.heap.size ≤ b ∧ b < w1.heap.size := fun b hb => ⟨hq.lo b hb, OutTab.lt hq b hb⟩
  have KG := KeepS.grown hgrow
  have hgl : ∀ g, v.ownBlock = some g → g < wr.heap.size := fun g hg => (h.own.lt g hg).2
  refine ⟨?_, ?_, ?_, ?_⟩
  · rw [show tabsV V (setQ Q k q) (k + 1) = tabsV V Q k ++ headV V[k] q by
      rw [tabsV, setQ_at, getD_tb hk, tabsV_congr (Q' := Q) (fun i hi => setQ_old Q q (by omega))]]
    exact hown
  · intro i hi hlt
    by_cases e : i = k
    · subst e
      rw [setQ_at]
      refine OutTab.keepS ((hq.below hA).lower hbase) KG (fun b hb e => ?_)
      have := (near b hb).1
      have := hgl b e.symm
      omega
    · rw [setQ_old Q q e]
      exact OutTab.keepS (((h.tabs i hi (by omega)).below hb).below hA) KG (fun b hb e => h.head b e.symm i hi (by omega) hb)
  · intro i j hi hj b hil hjl hij hbi hbj
    by_cases ei : i = k
    · subst ei
      rw [setQ_at] at hbi
      rw [setQ_old Q q (Ne.symm hij)] at hbj
      have := (near b hbi).1
      have := far j hj b (by omega) hbj
      omega
    · rw [setQ_old Q q ei] at hbi
      by_cases ej : j = k
      · subst ej
        rw [setQ_at] at hbj
        have := (near b hbj).1
        have := far i hi b (by omega) hbi
        omega
      · rw [setQ_old Q q ej] at hbj
        exact h.apart i j hi hj b (by omega) (by omega) hij hbi hbj
  · intro g hg i hi hlt hbi
    have hsz : (w1.alloc ob).heap.size = w1.heap.size + 1 := by simp
    have hs1 := hb.size
    rcases hloc with e | e
    · rw [e] at hg
      by_cases ei : i = k
      · subst ei
        rw [setQ_at] at hbi
        have := (near g hbi).1
        have := hgl g hg
        omega
      · rw [setQ_old Q q ei] at hbi
        exact h.head g hg i hi (by omega) hbi
    · rw [hg] at e
      injection e with e
      by_cases ei : i = k
      · subst ei
        rw [setQ_at] at hbi
        have := (near g hbi).2
        omega
      · rw [setQ_old Q q ei] at hbi
        have := far i hi g (by omega) hbi
        omega
/-- All of them: a list of tables in memory of its own. -/
theorem OwnTs.out {w : World} {base : Nat} {v : Value} {V : List TB} {Q : Nat → TAd} {n : Nat} (hn : V.length = n) (h : OwnTs w base v V Q n) : ∃ a cap, v = .slice a n cap ∧ OutTs w base a V Q ∧ n ≤ cap := by
  subst hn
  rcases h.own.2 with ⟨e, h0⟩ | ⟨g, cap, cur, e, hbg, hg, hc, _⟩
  · have hV : V = [] := List.eq_nil_of_length_eq_zero h0
    subst hV
    exact ⟨none, 0, e, ⟨fun i hi => by simp at hi, fun i hi => by simp at hi, fun i j hi => by simp at hi, fun i hi => by simp at hi, fun g o h => by simp at h⟩, Nat.le_refl _⟩
  · subst e
    have hgl : g < w.heap.size := (h.own.lt g rfl).2
    have cel : ∀ i (hi : i < V.length) j, j < 3 → w.cell? ⟨g, i * 3 + j, none⟩ = (headV V[i] (Q i))[j]? := by
      intro i hi j hj
      rw [h.own.cellAt _ (by omega), tabsV_at hi hj, getD_tb hi]
    refine ⟨some ⟨g, 0, none⟩, cap, rfl, ⟨?_, h.tabs, h.apart, fun i hi g' o hm e => by cases e; exact h.head g rfl i hi hm, fun g' o _ e => by cases e; exact hbg⟩, hc⟩
    intro i hi _
    refine ⟨g, 0, rfl, hgl, ?_, ?_, ?_, h.own.frozenAt _⟩
    · have := cel i hi 0 (by omega); simpa [headV] using this
    · have := cel i hi 1 (by omega); simpa [headV] using this
    · have := cel i hi 2 (by omega); simpa [headV] using this
end Go.Proofs.YteamdmcgkpeelalGreatDoor

/-
  The contracts of the model's copies of a list of texts and of a table: all of it lies in new memory.
-/
namespace Go.Proofs.YteamdmcgkpeelalGreatDoor
open Go.ChangeShapes Go.WideShapes Go.ChangeAt Go.RowKit
attribute [local go_sem ↓] Go.wp_at_zero Go.wp_at_succ
attribute [local simp] World.cell?_alloc_past World.cell?_alloc_at World.frozen?_alloc_at cell_far cell_off cell_here World.frozen?_alloc_past

theorem strV_cells {w : World} {ad : Addr} {l : List ByteArray} (h : StrsAt w (some ad) l) : ∀ j u, (strV l)[j]? = some u → w.cell? (ad.add j) = some u := by
  intro j u hu
  have hj : j < l.length := by have := (List.getElem?_eq_some_iff.1 hu).1; rw [strV_length] at this; exact this
  unfold strV at hu
  rw [List.getElem?_map, List.getElem?_eq_getElem hj] at hu
  obtain ⟨b, o, e, _, c0⟩ := h j hj
  cases e
  have hadd : (⟨b, o, none⟩ : Addr).add j = ⟨b, o + j, none⟩ := by unfold Addr.add; split <;> simp_all
  rw [hadd, c0]
  simpa using hu
theorem own_keepC {w w' : World} {c base base' : Nat} {e : TypeId} {size n : Nat} {v : Value} {xs : List Value} (h : w.ownsRow base e size v n xs) (hk : Keep c w w') (hc : c < base) (hb : base' ≤ base) : w'.ownsRow base' e size v n xs := by
  refine ⟨h.1, ?_⟩
  rcases h.2 with h' | ⟨g, cap, cur, h', hbg, hg, hr⟩
  · exact .inl h'
  · refine .inr ⟨g, cap, cur, h', by omega, ?_, hr⟩
    have hlt : g < w.heap.size := by
      by_cases hl : g < w.heap.size
      · exact hl
      · rw [Array.getElem?_eq_none (by omega)] at hg; cases hg
    rw [hk.block g hlt (by omega)]; exact hg
theorem OwnRows.keepC {w w' : World} {c base base' : Nat} {v : Value} {L : List (List CT)} {G C : Nat → Nat} (h : OwnRows w base v L G C) (hk : Keep c w w') (hc : c < base) (hb : base' ≤ base) : OwnRows w' base' v L G C :=
  ⟨own_keepC h.outer hk hc hb, fun i hi => own_keepC (h.inner i hi) hk hc hb, h.apart⟩

end Go.Proofs.YteamdmcgkpeelalGreatDoor

/-
  What Put answers, and the contract of the model's Put.
-/
namespace Go.Proofs.YteamdmcgkpeelalGreatDoor
open Go.ChangeShapes Go.WideShapes Go.ChangeAt Go.RowKit
attribute [local go_sem ↓] Go.wp_at_zero Go.wp_at_succ
attribute [local simp] World.cell?_alloc_past World.cell?_alloc_at World.frozen?_alloc_at cell_far cell_off cell_here World.frozen?_alloc_past

def zeroT : TB := (⟨#[]⟩, [], [])
def putT (t : TB) (r : List CT) : TB := (t.1, t.2.1, t.2.2 ++ [r])
/-- The table that Put answers, and whether it was put. -/
def putR (t : TB) (r : List CT) : TB × Bool := if tableB t = true then (if tableB (putT t r) = true then (putT t r, true) else (t, false)) else (zeroT, false)
/-- Put's answer: a table in memory of its own, and the word. -/
def PutOut (w : World) (T : TB) (b : Bool) (e : Ending) (w' : World) : Prop :=
  ∃ ca cc ra cr A C, e = .returned (.tuple #[.agg #[.string T.1, .slice ca T.2.1.length cc, .slice ra T.2.2.length cr], .bool b]) ∧ OutTab w' w.heap.size ca cc ra T A C ∧ Below w.heap.size w w' ∧ T.2.2.length ≤ cr
theorem table_row' {t : TB} (h : tableB t = true) (i : Nat) (hi : i < t.2.2.length) : t.2.2[i].length = t.2.1.length ∧ t.2.2[i].all okC = true := by
  unfold tableB at h
  rw [Bool.and_eq_true, List.all_eq_true] at h
  have := h.2 _ (List.getElem_mem hi)
  unfold rowOk at this
  rw [Bool.and_eq_true, decide_eq_true_eq] at this
  exact this
theorem table_len' {t : TB} (h : tableB t = true) : t.2.1.length ≤ 6 ∧ t.2.2.length ≤ 60 := by
  unfold tableB at h
  rw [Bool.and_eq_true, Bool.and_eq_true, Bool.and_eq_true, decide_eq_true_eq] at h
  have h2 := h.1.2.1
  unfold namesB at h2
  rw [Bool.and_eq_true, Bool.and_eq_true, decide_eq_true_eq, decide_eq_true_eq] at h2
  have := h2.2.2
  exact ⟨by omega, h.1.2.2⟩
theorem own_cap {w : World} {base n g c : Nat} {e : TypeId} {size m : Nat} {xs : List Value} (h : w.ownsRow base e size (.slice (some ⟨g, 0, none⟩) m c) n xs) : n ≤ c := by
  rcases h.2 with ⟨h1, _⟩ | ⟨g', c', cur, h', _, _, hle, _⟩
  · simp at h1
  · simp only [Value.slice.injEq] at h'
    omega
theorem out_zero (w : World) (base : Nat) : OutTab w base none 0 none zeroT (fun _ => none) (fun _ => 0) where
  cols := fun j hj => absurd hj (Nat.not_lt_zero _)
  fit := fun j hj => absurd hj (Nat.not_lt_zero _)
  len := Nat.zero_le _
  cap := Nat.le_refl _
  nilC := fun _ => rfl
  lenR := Nat.zero_le _
  name := Nat.zero_le _
  fitR := fun j hj => absurd hj (Nat.not_lt_zero _)
  lenL := fun j hj => absurd hj (Nat.not_lt_zero _)
  nilR := fun _ _ => rfl
  free := fun b o e => (by cases e)
  heads := fun j hj => absurd hj (Nat.not_lt_zero _)
  un := fun k j hj => absurd hj (Nat.not_lt_zero _)
  ap := ⟨fun j hj => absurd hj (Nat.not_lt_zero _), fun i j hi => absurd hi (Nat.not_lt_zero _)⟩
  colR := by rintro b ⟨_, o, e⟩; cases e
  colH := by rintro b ⟨_, o, e⟩; cases e
  lo := by
    rintro b (⟨_, o, e⟩ | ⟨i, hi, _⟩ | ⟨_, o, e⟩)
    · cases e
    · exact absurd hi (Nat.not_lt_zero _)
    · cases e
theorem own_setT {w : World} {base : Nat} {e : TypeId} {size : Nat} {v : Value} {n : Nat} {xs : List Value} {c : Nat} {T : TypeId} {cur : Array Value} {fz : Nat × Nat} (h : w.ownsRow base e size v n xs) (hc : w.heap[c]? = some (.cells cur T fz)) (hT : T ≠ e) (i : Nat) (u : Value) : (w.setCell ⟨c, i, none⟩ u).ownsRow base e size v n xs := by
  refine ⟨h.1, ?_⟩
  rcases h.2 with h' | ⟨g, cap, cur, h', hbg, hg, hr⟩
  · exact .inl h'
  · refine .inr ⟨g, cap, cur, h', hbg, ?_, hr⟩
    have hlt : g < w.heap.size := by
      by_cases hl : g < w.heap.size
      · exact hl
      · rw [Array.getElem?_eq_none (by omega)] at hg; cases hg
    have hne : g ≠ c := by
      rintro rfl
      rw [hc] at hg
      simp at hg
      exact hT hg.2.1
    rw [((Keep.refl c w).setCell (p := ⟨c, i, none⟩) (Or.inl rfl) u).block g hlt hne]; exact hg
theorem OwnRows.setT {w : World} {base : Nat} {v : Value} {L : List (List CT)} {G C : Nat → Nat} {c : Nat} {T : TypeId} {cur : Array Value} {fz : Nat × Nat} (h : OwnRows w base v L G C) (hc : w.heap[c]? = some (.cells cur T fz)) (h1 : T ≠ 40) (h2 : T ≠ 55) (i : Nat) (u : Value) : OwnRows (w.setCell ⟨c, i, none⟩ u) base v L G C :=
  ⟨own_setT h.outer hc h1 i u, fun j hj => own_setT (h.inner j hj) hc h2 i u, h.apart⟩
theorem OwnRows.base {w : World} {b1 b2 : Nat} {v : Value} {L : List (List CT)} {G C : Nat → Nat} (h : OwnRows w b1 v L G C) (hle : b2 ≤ b1) : OwnRows w b2 v L G C :=
  ⟨own_base h.outer hle, fun j hj => own_base (h.inner j hj) hle, h.apart⟩

theorem OutTab.base {w : World} {b1 b2 : Nat} {ca : Option Addr} {cc : Nat} {ra : Option Addr} {t : TB} {A : Nat → Option Addr} {C : Nat → Nat} (h : OutTab w b1 ca cc ra t A C) (hle : b2 ≤ b1) : OutTab w b2 ca cc ra t A C :=
  ⟨h.cols, h.fit, h.len, h.cap, h.nilC, h.lenR, h.name, h.fitR, h.lenL, h.nilR, h.free, h.heads, h.un, h.ap, h.colR, h.colH, fun b hb => Nat.le_trans hle (h.lo b hb)⟩
/-- Three stores into a block that is not the table's. -/
theorem OutTab.set3 {w : World} {base : Nat} {ca : Option Addr} {cc : Nat} {ra : Option Addr} {t : TB} {A : Nat → Option Addr} {C : Nat → Nat} (h : OutTab w base ca cc ra t A C) (c : Nat) (hc : c < base) (i j k : Nat) (x y z : Value) : OutTab (((w.setCell ⟨c, i, none⟩ x).setCell ⟨c, j, none⟩ y).setCell ⟨c, k, none⟩ z) base ca cc ra t A C := by
  refine h.keepS (P := fun b => b = c) ?_ (fun b hb e => by have := h.lo b hb; omega)
  exact (((KeepS.refl (fun b => b = c) w).setCell (p := ⟨c, i, none⟩) rfl x).setCell (p := ⟨c, j, none⟩) rfl y).setCell (p := ⟨c, k, none⟩) rfl z
theorem append_each {P : List CT → Prop} {L : List (List CT)} {r : List CT} (h : ∀ i (hi : i < L.length), P L[i]) (hr : P r) : ∀ i (hi : i < (L ++ [r]).length), P (L ++ [r])[i] := by
  intro i hi
  by_cases hl : i < L.length
  · rw [List.getElem_append_left hl]; exact h i hl
  · have : i = L.length := by simp at hi; omega
    subst this
    rw [List.getElem_append_right (Nat.le_refl _)]
    simpa using hr

/-- The model's step: the head of a new row behind the others, then the slice into the table's own block. -/
theorem put_step {W2 w3 w4 : World} {base g c g2 c2 g4 c4 gr cr n nr cb : Nat} {o : Obj} {nm : ByteArray} {C : List ByteArray} {L : List (List CT)} {r : List CT} {G D : Nat → Nat} {cur : Array Value} {fz : Nat × Nat}
    (O1 : W2.ownsRow base 9 1 (.slice (some ⟨g, 0, none⟩) C.length c) C.length (strV C)) (O2 : OwnRows W2 base (.slice (some ⟨g2, 0, none⟩) nr c2) L G D) (hob : W2.heap[cb]? = some (.cells cur 37 fz)) (hnr : L.length = nr) (hn : r.length = n)
    (hx3 : Below W2.heap.size W2 w3) (hbs : base ≤ W2.heap.size) (hgr : W2.heap.size ≤ gr) (ownr : w3.ownsRow W2.heap.size 55 3 (.slice (some ⟨gr, 0, none⟩) r.length cr) r.length (flat r))
    (own4 : w4.ownsRow base 40 1 (.slice (some ⟨g4, 0, none⟩) (nr + 1) c4) (L.length + 1) ((List.range L.length).map (headOf G D L) ++ [.slice (some ⟨gr, 0, none⟩) n cr])) (hgrow : (w3.alloc o).grownBy w4 (Value.slice (some ⟨g2, 0, none⟩) nr c2).ownBlock)
    (hgg : g2 < cb) (hcc : C.length ≤ c) (hf : FitS C) (hnm : nm.size ≤ maxLen) (hC : C.length ≤ maxLen) (hL : nr + 1 ≤ maxLen) (hfr : ∀ i (hi : i < L.length), Fit L[i]) (hlr : ∀ i (hi : i < L.length), L[i].length ≤ maxLen) (hfr1 : Fit r) (hlr1 : n ≤ maxLen) (u : Value) :
    ∃ G' D', OutTab (w4.setCell ⟨cb, 2, none⟩ u) base (some ⟨g, 0, none⟩) c (some ⟨g4, 0, none⟩) (putT (nm, C, L) r) G' D' := by
  subst hnr hn
  have hcb : cb < W2.heap.size := by
    by_cases hl : cb < W2.heap.size
    · exact hl
    · rw [Array.getElem?_eq_none (by omega)] at hob; cases hob
  have h3 := hx3.size
  have hbk : w4.heap[cb]? = some (.cells cur 37 fz) := by
    rw [hgrow.block cb (by simp; omega) (by simp [Value.ownBlock]; omega)]
    show (w3.heap.push _)[cb]? = _
    rw [Array.getElem?_push_lt (by omega), ← Array.getElem?_eq_getElem (by omega), hx3.block cb hcb]; exact hob
  obtain ⟨G', D', S⟩ := O2.step hx3 hgr (own_base ownr hbs) own4 hgrow
  have C4 := ((own_below O1 hx3).alloc o).kept hgrow (.inr (own_other O1 O2.outer (by decide)))
  have S5 := S.setT (i := 2) (u := u) hbk (by decide) (by decide)
  have C5 := own_setT (i := 2) (u := u) C4 hbk (by decide)
  have e : (L ++ [r]).length = L.length + 1 := by simp
  refine ⟨_, _, out_of_own (S := 9) (t := putT (nm, C, L) r) (by decide) (by decide) C5 (by rw [← e] at S5; exact S5) hcc hf hnm hC (by rw [← e] at hL; exact hL) (append_each (P := fun l => Fit l) hfr hfr1) (append_each (P := fun l => l.length ≤ maxLen) hlr hlr1)⟩

end Go.Proofs.YteamdmcgkpeelalGreatDoor

/-
  Places put in order one by one, without any program: what is moved towards the front, and when all is in order.
-/
namespace Go.Proofs.YteamdmcgkpeelalGreatDoor

/-- The first m are in order. -/
def SortedTo (lt : Nat → Nat → Bool) (p : List Nat) (m : Nat) : Prop := ∀ x y, x < y → y < m → lt (p.getD y 0) (p.getD x 0) = false
/-- So are those up to i but for place k, which may be too far behind. -/
def InsAt (lt : Nat → Nat → Bool) (p : List Nat) (i k : Nat) : Prop :=
  (∀ x y, x < y → y ≤ i → x ≠ k → y ≠ k → lt (p.getD y 0) (p.getD x 0) = false) ∧ (∀ y, k < y → y ≤ i → lt (p.getD y 0) (p.getD k 0) = false)
/-- Who stands where: i at place k, lesser ones up to i, and behind it each one at its own. -/
def PlAt (p : List Nat) (n i k : Nat) : Prop := p.getD k 0 = i ∧ (∀ x, x ≤ i → x ≠ k → p.getD x 0 < i) ∧ (∀ x, i < x → x < n → p.getD x 0 = x)

theorem InsAt.start {lt : Nat → Nat → Bool} {p : List Nat} {i : Nat} (h : SortedTo lt p i) : InsAt lt p i i :=
  ⟨fun x y hxy hy _ hyk => h x y hxy (by omega), fun y h1 h2 => by omega⟩
theorem InsAt.done {lt : Nat → Nat → Bool} {p : List Nat} {i k N : Nat} (S : Strict lt N) (hp : ∀ x ∈ p, x < N) (hi : i < p.length) (hk : k ≤ i) (h : InsAt lt p i k) (hd : k = 0 ∨ lt (p.getD k 0) (p.getD (k - 1) 0) = false) : SortedTo lt p (i + 1) := by
  intro x y hxy hy
  by_cases e1 : x = k
  · subst e1; exact h.2 y hxy (by omega)
  · by_cases e2 : y = k
    · subst e2
      rcases hd with rfl | hd
      · omega
      · by_cases e3 : x = y - 1
        · subst e3; exact hd
        · exact S.neg (mem_lt hp (by omega)) (mem_lt hp (by omega)) hd (h.1 x (y - 1) (by omega) (by omega) (by omega) (by omega))
    · exact h.1 x y hxy (by omega) e1 e2
theorem InsAt.step {lt : Nat → Nat → Bool} {p : List Nat} {i k N : Nat} (S : Strict lt N) (hi : i < p.length) (hk : k ≤ i) (h0 : 0 < k) (h : InsAt lt p i k) (hl : lt (p.getD k 0) (p.getD (k - 1) 0) = true) : InsAt lt (swap 0 p (k - 1) k) i (k - 1) := by
  have h1 : k - 1 < p.length := by omega
  have h2 : k < p.length := by omega
  refine ⟨fun x y hxy hy hx hyk => ?_, fun y hy hyi => ?_⟩
  · rw [swap_getD _ _ _ _ _ h1 h2, swap_getD _ _ _ _ _ h1 h2, if_neg hx, if_neg hyk]
    by_cases e1 : y = k
    · subst e1
      rw [if_pos rfl, if_neg (by omega)]
      exact h.1 x (y - 1) (by omega) (by omega) (by omega) (by omega)
    · rw [if_neg e1]
      by_cases e2 : x = k
      · subst e2
        rw [if_pos rfl]
        exact h.1 (x - 1) y (by omega) (by omega) (by omega) (by omega)
      · rw [if_neg e2]
        exact h.1 x y hxy hy e2 e1
  · rw [swap_getD _ _ _ _ _ h1 h2, swap_getD _ _ _ _ _ h1 h2, if_neg (by omega : ¬ k - 1 = k), if_pos rfl]
    by_cases e1 : y = k
    · subst e1
      rw [if_pos rfl]
      exact S.asym hl
    · rw [if_neg e1, if_neg (by omega)]
      exact h.2 y (by omega) hyi
theorem PlAt.step {p : List Nat} {n i k : Nat} (hi : i < p.length) (hk : k ≤ i) (h0 : 0 < k) (h : PlAt p n i k) : PlAt (swap 0 p (k - 1) k) n i (k - 1) := by
  have h1 : k - 1 < p.length := by omega
  have h2 : k < p.length := by omega
  refine ⟨?_, fun x hx hxk => ?_, fun x hx hxn => ?_⟩
  · rw [swap_getD _ _ _ _ _ h1 h2, if_neg (by omega), if_pos rfl]; exact h.1
  · rw [swap_getD _ _ _ _ _ h1 h2]
    by_cases e1 : x = k
    · rw [if_pos e1]; exact h.2.1 (k - 1) (by omega) (by omega)
    · rw [if_neg e1, if_neg hxk]; exact h.2.1 x hx e1
  · rw [swap_getD _ _ _ _ _ h1 h2, if_neg (by omega), if_neg (by omega)]; exact h.2.2 x hx hxn

theorem SortedTo.pairwise {lt : Nat → Nat → Bool} {p : List Nat} (h : SortedTo lt p p.length) : p.Pairwise (fun x y => lt y x = false) := by
  rw [List.pairwise_iff_getElem]
  intro i j hi hj hij
  have := h i j hij hj
  simpa [List.getD, List.getElem?_eq_getElem hi, List.getElem?_eq_getElem hj] using this

/-- The cell of a row by which it is put in order. -/
def keyOf (L : List (List CT3)) (at_ : Int) (i : Nat) : CT3 := (L.getD i []).getD at_.toNat (0, 0, ⟨#[]⟩)
/-- Has each row that place? -/
def Reach (L : List (List CT3)) (at_ : Int) : Prop := ∀ i (h : i < L.length), 0 ≤ at_ ∧ at_ < (L[i].length : Int)
/-- The places of the rows in the order that is asked for; as they are where one has no such place. -/
structure IsOrder (L : List (List CT3)) (at_ : Int) (down : Bool) (p : List Nat) : Prop where
  perm : p.Perm (List.range L.length)
  inOrder : Reach L at_ → p.Pairwise (fun x y => placeLt (keyOf L at_) down y x = false)
  asTheyAre : ¬ Reach L at_ → p = List.range L.length
theorem IsOrder.one {L : List (List CT3)} {at_ : Int} {down : Bool} {p q : List Nat} (h : IsOrder L at_ down p) (k : IsOrder L at_ down q) : p = q := by
  by_cases hr : Reach L at_
  · exact one_order (placeLt_strict (keyOf L at_) down L.length) h.perm k.perm (h.inOrder hr) (k.inOrder hr)
  · rw [h.asTheyAre hr, k.asTheyAre hr]

/-- The rows at these places. -/
def rowsOf (L : List (List CT3)) (p : List Nat) : List (List CT3) := p.map fun i => L.getD i []
theorem rowsOf_length (L : List (List CT3)) (p : List Nat) : (rowsOf L p).length = p.length := by simp [rowsOf]
theorem rowsOf_range (L : List (List CT3)) : rowsOf L (List.range L.length) = L := by
  apply List.ext_getElem
  · simp [rowsOf]
  · intro i h1 h2; simp [rowsOf, List.getD, List.getElem?_eq_getElem h2]
theorem rowsOf_getD (L : List (List CT3)) (p : List Nat) (k : Nat) (hk : k < p.length) : (rowsOf L p).getD k [] = L.getD (p.getD k 0) [] := by
  simp [rowsOf, List.getD, List.getElem?_eq_getElem hk]
theorem rowsOf_swap (L : List (List CT3)) (p : List Nat) (i j : Nat) (hi : i < p.length) (hj : j < p.length) : swap [] (rowsOf L p) i j = rowsOf L (swap 0 p i j) := by
  apply List.ext_getElem
  · simp [rowsOf, swap]
  · intro k h1 h2
    have hk : k < p.length := by simpa [rowsOf, swap] using h1
    have e1 : (swap [] (rowsOf L p) i j)[k] = (swap [] (rowsOf L p) i j).getD k [] := by simp [List.getD, List.getElem?_eq_getElem h1]
    have e2 : (rowsOf L (swap 0 p i j))[k] = (rowsOf L (swap 0 p i j)).getD k [] := by simp [List.getD, List.getElem?_eq_getElem h2]
    rw [e1, e2, swap_getD _ _ _ _ _ (by simpa [rowsOf] using hi) (by simpa [rowsOf] using hj), rowsOf_getD L (swap 0 p i j) k (by simpa [swap] using hk), swap_getD 0 p i j k hi hj, rowsOf_getD L p i hi, rowsOf_getD L p j hj, rowsOf_getD L p k hk]
    by_cases e3 : k = j
    · simp [e3]
    · by_cases e4 : k = i
      · subst e4; simp [e3]
      · simp [e3, e4]

/-- The question whether i goes ahead of one that comes before it is that of their cells alone. -/
theorem placeLt_before (key : Nat → CT3) (down : Bool) (i j : Nat) (h : j < i) : placeLt key down i j = if down = true then lessC (key j) (key i) else lessC (key i) (key j) := by
  unfold placeLt
  cases h1 : lessC (key i) (key j)
  · cases h2 : lessC (key j) (key i)
    · cases down <;> simp <;> omega
    · cases down <;> simp
  · rw [lessC_asym h1]; cases down <;> simp

end Go.Proofs.YteamdmcgkpeelalGreatDoor

/-
  The contract of the model's Sorted: rows in new memory, in the order of their places that is asked for.
-/
namespace Go.Proofs.YteamdmcgkpeelalGreatDoor
open Go.ChangeShapes Go.WideShapes Go.ChangeAt Go.RowKit
attribute [local go_sem ↓] Go.wp_at_zero Go.wp_at_succ

/-- Where one comes from when two change places. -/
def sw (i j k : Nat) : Nat := if k = j then i else if k = i then j else k
theorem sw_lt {i j k n : Nat} (hi : i < n) (hj : j < n) (hk : k < n) : sw i j k < n := by unfold sw; split <;> (try split) <;> omega
theorem sw_inj {i j a b : Nat} (h : sw i j a = sw i j b) : a = b := by
  unfold sw at h
  split at h <;> split at h <;> (try split at h) <;> (try split at h) <;> omega
theorem swap_sw {α : Type} (d : α) (s : List α) (i j k : Nat) (hi : i < s.length) (hj : j < s.length) : (swap d s i j).getD k d = s.getD (sw i j k) d := by
  rw [swap_getD _ _ _ _ _ hi hj]; unfold sw
  split
  · rfl
  · split <;> rfl

/-- Two heads change places. -/
theorem OwnRows.swap {w : World} {base g c : Nat} {L : List (List CT)} {G C : Nat → Nat} (h : OwnRows w base (.slice (some ⟨g, 0, none⟩) L.length c) L G C) (i j : Nat) (hi : i < L.length) (hj : j < L.length) (hij : i ≠ j) :
    OwnRows ((w.setCell ⟨g, j, none⟩ (headOf G C L i)).setCell ⟨g, i, none⟩ (headOf G C L j)) base (.slice (some ⟨g, 0, none⟩) L.length c) (swap [] L i j) (fun k => G (sw i j k)) (fun k => C (sw i j k)) := by
  have s1 := h.outer.stored j (headOf G C L i)
  have s2 := s1.1.stored i (headOf G C L j)
  have hh : ∀ k, headOf (fun k => G (sw i j k)) (fun k => C (sw i j k)) (Go.Proofs.YteamdmcgkpeelalGreatDoor.swap [] L i j) k = headOf G C L (sw i j k) := by
    intro k; simp only [headOf, swap_sw [] L i j k hi hj]
  refine ⟨?_, ?_, ?_⟩
  · rw [swap_length]
    have e : ((List.range L.length).map (headOf (fun k => G (sw i j k)) (fun k => C (sw i j k)) (Go.Proofs.YteamdmcgkpeelalGreatDoor.swap [] L i j))) = (((List.range L.length).map (headOf G C L)).set j (headOf G C L i)).set i (headOf G C L j) := by
      apply List.ext_getElem
      · simp
      · intro k h1 h2
        have hk : k < L.length := by simpa using h1
        simp only [List.getElem_map, List.getElem_range, List.getElem_set]
        rw [hh]
        unfold sw
        by_cases e1 : k = j
        · subst e1; simp [hij]
        · by_cases e2 : k = i
          · subst e2; simp [e1]
          · simp [e1, e2, Ne.symm e1, Ne.symm e2]
    rw [e]; exact s2.1
  · intro k hk
    rw [swap_length] at hk
    rw [hh, swap_sw [] L i j k hi hj]
    have hin := h.inner (sw i j k) (sw_lt hi hj hk)
    have hne : (headOf G C L (sw i j k)).ownBlock ≠ some g := by
      simp only [headOf, Value.ownBlock]
      intro e
      exact own_other h.outer (h.inner (sw i j k) (sw_lt hi hj hk)) (by decide) (by simp only [Value.ownBlock]; exact e.symm)
    exact (hin.kept s1.2 (.inr hne)).kept s2.2 (.inr hne)
  · intro a b ha hb hab
    rw [swap_length] at ha hb
    exact h.apart _ _ (sw_lt hi hj ha) (sw_lt hi hj hb) (fun e => hab (sw_inj e))

theorem getD_get {α : Type} (d : α) (l : List α) (j : Nat) (h : j < l.length) : l.getD j d = l[j] := by simp [List.getD, List.getElem?_eq_getElem h]
/-- The head of a row, and a cell of it. -/
theorem OwnRows.look {w : World} {base g c : Nat} {L : List (List CT)} {G C : Nat → Nat} (h : OwnRows w base (.slice (some ⟨g, 0, none⟩) L.length c) L G C) (i : Nat) (hi : i < L.length) : w.cell? ⟨g, i, none⟩ = some (headOf G C L i) ∧ w.frozen? ⟨g, i, none⟩ = false := by
  refine ⟨?_, h.outer.frozenAt i⟩
  rw [h.outer.cellAt i (by omega), List.getElem?_map, List.getElem?_range hi]; rfl
theorem OwnRows.lookIn {w : World} {base g c : Nat} {L : List (List CT)} {G C : Nat → Nat} (h : OwnRows w base (.slice (some ⟨g, 0, none⟩) L.length c) L G C) (i : Nat) (hi : i < L.length) (j : Nat) (x : CT) (hj : j < (L.getD i []).length) (hx : (L.getD i []).getD j (0, 0, ⟨#[]⟩) = x) :
    w.cell? ⟨G i, j * 3, none⟩ = some (.int .i64 x.1) ∧ w.cell? ⟨G i, j * 3 + 1, none⟩ = some (.int .i64 x.2.1) ∧ w.cell? ⟨G i, j * 3 + 2, none⟩ = some (.string x.2.2) ∧ G i < w.heap.size := by
  have hin := h.inner i hi
  unfold headOf at hin
  obtain ⟨b, o, e, hlt, c0, c1, c2⟩ := own_row hin j hj
  cases e
  have ex : (L.getD i [])[j] = x := by rw [← hx, getD_get _ _ _ hj]
  rw [ex] at c0 c1 c2
  rw [show 0 + j * 3 = j * 3 by omega] at c0 c1 c2
  exact ⟨c0, c1, c2, hlt⟩

/-- Rows in the order of these places, in memory of their own. -/
def Laid (w : World) (base g c : Nat) (L : List (List CT)) (p : List Nat) : Prop := ∃ G C, OwnRows w base (.slice (some ⟨g, 0, none⟩) L.length c) (rowsOf L p) G C
theorem Laid.below {w w' : World} {base g c : Nat} {L : List (List CT)} {p : List Nat} (h : Laid w base g c L p) (hb : Below w.heap.size w w') : Laid w' base g c L p := by
  obtain ⟨G, C, h⟩ := h
  exact ⟨G, C, h.below hb⟩

theorem reach_key {L : List (List CT)} {at_ : Int} (hr : Reach L at_) (q : Nat) (hq : q < L.length) : 0 ≤ at_ ∧ at_.toNat < (L.getD q []).length ∧ (at_.toNat : Int) = at_ := by
  have := hr q hq
  rw [show L.getD q [] = L[q] from by simp [List.getD, List.getElem?_eq_getElem hq]]
  omega

end Go.Proofs.YteamdmcgkpeelalGreatDoor

/-
  The contracts of the program's helpers that take rows over into new memory, and of the question whether each row has a place.
-/
namespace Go.Proofs.YteamdmcgkpeelalGreatDoor
open Go.ChangeShapes Go.WideShapes Go.ChangeAt Go.RowKit
attribute [local go_sem ↓] Go.wp_at_zero Go.wp_at_succ

theorem infoCellI : (Tryz.prog.info? 55).map (fun i => (i.zero, i.size, i.bytes)) = some (some (.agg #[.int .i64 0, .int .i64 0, .string ⟨#[]⟩]), 3, 32) := by kernel_rfl
theorem infoRowI : (Tryz.prog.info? 40).map (fun i => (i.zero, i.size, i.bytes)) = some (some (.slice none 0 0), 1, 24) := by kernel_rfl

end Go.Proofs.YteamdmcgkpeelalGreatDoor

/-
  The contract of the program's Put.
-/
namespace Go.Proofs.YteamdmcgkpeelalGreatDoor
open Go.ChangeShapes Go.WideShapes Go.ChangeAt Go.RowKit
attribute [local go_sem ↓] Go.wp_at_zero Go.wp_at_succ
attribute [local simp] World.cell?_alloc_past World.cell?_alloc_at World.frozen?_alloc_at cell_far cell_off cell_here World.frozen?_alloc_past

theorem own_keepB {w w' : World} {base base' g c : Nat} {e : TypeId} {size n : Nat} {xs : List Value} (h : w.ownsRow base e size (.slice (some ⟨g, 0, none⟩) n c) n xs) (hb : base' ≤ base) (hk : w'.heap[g]? = w.heap[g]?) : w'.ownsRow base' e size (.slice (some ⟨g, 0, none⟩) n c) n xs := by
  refine ⟨h.1, ?_⟩
  rcases h.2 with h' | ⟨g', cap, cur, h', hbg, hg, hr⟩
  · exact .inl h'
  · refine .inr ⟨g', cap, cur, h', by omega, ?_, hr⟩
    simp only [Value.slice.injEq, Option.some.injEq, Addr.mk.injEq, and_true, true_and] at h'
    obtain ⟨rfl, _⟩ := h'
    rw [hk]; exact hg
/-- The heads of rows, by their places. -/
def HK (w : World) (ra : Option Addr) (L : List (List CT)) (A : Nat → Option Addr) (K : Nat → Nat) : Prop :=
  ∀ i, (hi : i < L.length) → ∃ b o, ra = some ⟨b, o, none⟩ ∧ b < w.heap.size ∧ w.cell? ⟨b, o + i, none⟩ = some (.slice (A i) L[i].length (K i)) ∧ RowAt w (A i) L[i] ∧ Fit L[i] ∧ L[i].length ≤ maxLen ∧ (A i = none → K i = 0)
theorem HK.below {w w' : World} {ra : Option Addr} {L : List (List CT)} {A : Nat → Option Addr} {K : Nat → Nat} (h : HK w ra L A K) (hb : Below w.heap.size w w') : HK w' ra L A K := by
  intro i hi
  obtain ⟨b, o, e, hlt, h0, h1, h2, h3, h4⟩ := h i hi
  exact ⟨b, o, e, Nat.lt_of_lt_of_le hlt hb.size, by rw [hb.cell (p := ⟨b, _, none⟩) hlt]; exact h0, h1.below hb, h2, h3, h4⟩
theorem headsP {w : World} {a : Option Addr} {L : List (List CT)} (h : RowsAt w a L) : ∃ A K, HK w a L A K := by
  have hx : ∀ i, ∃ p : Option Addr × Nat, (hi : i < L.length) → ∃ b o, a = some ⟨b, o, none⟩ ∧ b < w.heap.size ∧ w.cell? ⟨b, o + i, none⟩ = some (.slice p.1 L[i].length p.2) ∧ RowAt w p.1 L[i] ∧ Fit L[i] ∧ L[i].length ≤ maxLen ∧ (p.1 = none → p.2 = 0) := by
    intro i
    by_cases hi : i < L.length
    · obtain ⟨b, o, ai, ci, ha, hlt, h0, h1, h2, h3, h4⟩ := h i hi
      exact ⟨(ai, ci), fun _ => ⟨b, o, ha, hlt, h0, h1, h2, h3, h4⟩⟩
    · exact ⟨(none, 0), fun hi' => absurd hi' hi⟩
  obtain ⟨f, hf⟩ := Classical.axiomOfChoice hx
  exact ⟨fun i => (f i).1, fun i => (f i).2, fun i hi => hf i hi⟩
def headsV (A : Nat → Option Addr) (K : Nat → Nat) (L : List (List CT)) : List Value := (List.range L.length).map fun i => .slice (A i) (L.getD i []).length (K i)
theorem headsV_length (A : Nat → Option Addr) (K : Nat → Nat) (L : List (List CT)) : (headsV A K L).length = L.length := by simp [headsV]
theorem headsV_at (A : Nat → Option Addr) (K : Nat → Nat) (L : List (List CT)) (i : Nat) (h : i < L.length) : (headsV A K L)[i]? = some (.slice (A i) L[i].length (K i)) := by
  unfold headsV
  rw [List.getElem?_map, List.getElem?_range h, Option.map_some, getD_at h]
/-- Heads behind each other, and one more, are rows. -/
theorem rows_more {w w' : World} {ra : Option Addr} {L : List (List CT)} {r : List CT} {a : Option Addr} {n cap : Nat} {A : Nat → Option Addr} {K : Nat → Nat} {base g c : Nat} {e : TypeId} (hA : HK w ra L A K)
    (hn : r.length = n) (hr : RowAt w a r) (hf : Fit r) (hm : n ≤ maxLen) (hnil : a = none → cap = 0) (hb : Below w.heap.size w w') (own : w'.ownsRow base e 1 (.slice (some ⟨g, 0, none⟩) (L.length + 1) c) (L.length + 1) (headsV A K L ++ [.slice a n cap])) : RowsAt w' (some ⟨g, 0, none⟩) (L ++ [r]) := by
  have hlt := (own.lt g rfl).2
  intro i hi
  have hi2 : i < L.length + 1 := by simpa using hi
  have hc := own.cellAt i (by omega)
  by_cases hl : i < L.length
  · obtain ⟨b, o, _, _, _, h1, h2, h3, h4⟩ := hA i hl
    rw [List.getElem?_append_left (by rw [headsV_length]; exact hl), headsV_at A K L i hl] at hc
    rw [List.getElem_append_left hl]
    exact ⟨g, 0, A i, K i, rfl, hlt, by rw [Nat.zero_add]; exact hc, h1.below hb, h2, h3, h4⟩
  · have : i = L.length := by omega
    subst this
    rw [List.getElem?_append_right (by rw [headsV_length]; exact Nat.le_refl _), headsV_length, Nat.sub_self] at hc
    simp only [List.getElem_append_right (Nat.le_refl _), Nat.sub_self, List.getElem_cons_zero]
    subst hn
    exact ⟨g, 0, a, cap, rfl, hlt, by rw [Nat.zero_add]; exact hc, hr.below hb, hf, hm, hnil⟩

/-- 'make([]T, 0, n)' as one operation of a region that draws. -/
theorem wp_make_own' {P : Program} (w : World) {o : Oper} {a : Act} {K : Act → World → Prop} {Q : Exit → Act → World → Prop} (l c : Operand) (t : TypeId) (hop : o.op = Op.makeSlice t l c)
    (base : Nat) (e : TypeId) (i : TypeInfo) (z : Value) (size : Nat) (h1 : P.underlying t = some (.slice e)) (h2 : P.info? e = some i) (h3 : i.zero = some z) (h4 : i.size = size)
    (kl kc : IntKind) (C : Int) (n : Nat) (hl : a.eval l = .int kl 0) (hc : a.eval c = .int kc C) (hC : C = (n : Int)) (b2 : i.bytes * n ≤ 281474976710656) (b3 : n ≤ maxLen) (b4 : base ≤ w.heap.size)
    (hK : ∀ w', w'.ownsRow base e size (.slice (some ⟨w.heap.size, 0, none⟩) 0 n) 0 [] → w.grownBy w' none → K (a.put o.dst (.slice (some ⟨w.heap.size, 0, none⟩) 0 n)) w') : o.wp P a w K Q := by
  obtain ⟨w', hrun, r1, r2⟩ := run_make_own (P := P) w base t e i z size h1 h2 h3 h4 kl kc n b2 b3 b4
  subst hC
  unfold Oper.wp
  simp [execOp, hop, hl, hc, hrun, Result.andThen]
  exact hK w' r1 r2
/-- Nothing is appended to a list of the call's own. -/
theorem wp_append_none' {P : Program} {w : World} {o : Oper} {a : Act} {K : Act → World → Prop} {Q : Exit → Act → World → Prop} (s x : Operand) (t : TypeId) (ho : o.op = .call { callee := .builtin .append, args := #[s, x], argTypes := #[t, t] })
    (base : Nat) (e : TypeId) (i : TypeInfo) (size : Nat) (ht : P.underlying t = some (.slice e)) (hi : P.info? e = some i)
    (v : Value) (n : Nat) (xs : List Value) (hs : a.eval s = v) (hown : w.ownsRow base e size v n xs) (hx : a.eval x = .slice none 0 0) (h : K (a.put o.dst v) w) : o.wp P a w K Q := by
  have hrun := run_append_owned_none (P := P) (w := w) base t o.type e i size ht hi v n xs hown
  unfold Oper.wp
  simp [execOp, ho, resolve, invoke, builtin, hs, hx, hrun, Result.andThen]
  exact h

end Go.Proofs.YteamdmcgkpeelalGreatDoor

/-
  The contracts of the program's shelf: asked for a name, and told as a list of tables in memory of its own.
-/
namespace Go.Proofs.YteamdmcgkpeelalGreatDoor
open Go.ChangeShapes Go.WideShapes Go.ChangeAt Go.RowKit Go.Maps
attribute [local go_sem ↓] Go.wp_at_zero Go.wp_at_succ
attribute [local simp] World.cell?_alloc_past World.cell?_alloc_at World.frozen?_alloc_at cell_far cell_off cell_here World.frozen?_alloc_past

/-- Tables that can be copied. -/
def Small (t : TB) : Prop := t.2.1.length ≤ 1048576 ∧ t.2.2.length ≤ 1048576 ∧ ∀ i (h : i < t.2.2.length), t.2.2[i].length ≤ 1048576
theorem has_impl (w0 : World) (B n : Nat) (U : List TB) (w : World) (h : ShelfT w0 w B n U) (s : ByteArray) (hs : s.size ≤ maxLen) (b : Bool) (hb : decide (s ∈ namesT U) = b) :
    Calls Tryz.prog 41 #[.map (some B), .string s] w fun e w' => e = .returned (.bool b) ∧ Below w.heap.size w w' := by
  obtain ⟨_, f, hS, hH⟩ := h
  refine has_at B n (namesT U) f w hS (fun x hx => ?_) s hs b hb
  obtain ⟨t, ht, e⟩ := List.mem_map.1 hx
  obtain ⟨ca, cc, ra, cr, ef, _⟩ := hH t ht
  exact ⟨ca, _, cc, ra, _, cr, by rw [← e]; exact ef⟩

end Go.Proofs.YteamdmcgkpeelalGreatDoor
