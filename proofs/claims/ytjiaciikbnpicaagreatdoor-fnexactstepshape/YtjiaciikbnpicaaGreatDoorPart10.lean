/-
  A part of the proof: TabsOut, TabsOwn, Tab6, PutS, SortMath, SortedS, CopyI.
-/
import Derived.Test.YtjiaciikbnpicaaGreatDoorPart9
import Derived.Maps.AppendAt
import Derived.Test.YtjiaciikbnpicaaGreatDoorPart4
import Derived.Test.YtjiaciikbnpicaaGreatDoorPart8
import Derived.Test.YtjiaciikbnpicaaGreatDoorPart5

/-
  Lists of tables in memory of their own: no two lists of them share any; taken over so by the law's helper; marked, and asked whether the marks are still there.
-/
namespace Go.Proofs.YtjiaciikbnpicaaGreatDoor
open Go.ChangeShapes Go.WideShapes Go.ChangeAt Go.RowKit
attribute [local go_sem ↓] Go.wp_at_zero Go.wp_at_succ
attribute [local simp] World.cell?_alloc_past World.cell?_alloc_at World.frozen?_alloc_at cell_far cell_off cell_here World.frozen?_alloc_past

/-- Where the lists of a table lie. -/
structure TAd where
  ca : Option Addr
  cc : Nat
  ra : Option Addr
  cr : Nat
  A : Nat → Option Addr
  C : Nat → Nat
def TAd.blks (q : TAd) (t : TB) (b : Nat) : Prop := tabBlks q.ca q.ra t q.A b
def OutT (w : World) (base : Nat) (q : TAd) (t : TB) : Prop := OutTab w base q.ca q.cc q.ra t q.A q.C
/-- The heads of the tables, up to the m-th. -/
def HeadsT (w : World) (a : Option Addr) (T : List TB) (Q : Nat → TAd) (m : Nat) : Prop :=
  ∀ i (h : i < T.length), i < m → ∃ g o, a = some ⟨g, o, none⟩ ∧ g < w.heap.size ∧ w.cell? ⟨g, o + i * 3, none⟩ = some (.string T[i].1) ∧ w.cell? ⟨g, o + i * 3 + 1, none⟩ = some (.slice (Q i).ca T[i].2.1.length (Q i).cc) ∧ w.cell? ⟨g, o + i * 3 + 2, none⟩ = some (.slice (Q i).ra T[i].2.2.length (Q i).cr) ∧ w.frozen? ⟨g, o + i * 3, none⟩ = false
theorem HeadsT.keepS {P : Nat → Prop} {w w' : World} {a : Option Addr} {T : List TB} {Q : Nat → TAd} {m : Nat} (h : HeadsT w a T Q m) (hk : KeepS P w w') (hP : ∀ g o, 0 < m → a = some ⟨g, o, none⟩ → ¬ P g) : HeadsT w' a T Q m := by
  intro i hi hm
  obtain ⟨g, o, ha, hlt, c0, c1, c2, f0⟩ := h i hi hm
  have := hP g o (by omega) ha
  exact ⟨g, o, ha, Nat.lt_of_lt_of_le hlt hk.size, by rw [hk.cell hlt this]; exact c0, by rw [hk.cell hlt this]; exact c1, by rw [hk.cell hlt this]; exact c2, by rw [hk.frozen hlt this]; exact f0⟩
/-- The tables up to the m-th lie in memory of their own, each apart from all others and from the heads. -/
structure OutU (w : World) (base : Nat) (a : Option Addr) (T : List TB) (Q : Nat → TAd) (m : Nat) : Prop where
  heads : HeadsT w a T Q m
  tabs : ∀ i (_ : i < T.length), i < m → OutT w base (Q i) T[i]
  apart : ∀ i j (_ : i < T.length) (_ : j < T.length) b, i < m → j < m → i ≠ j → (Q i).blks T[i] b → ¬ (Q j).blks T[j] b
  head : ∀ i (_ : i < T.length) g o, i < m → a = some ⟨g, o, none⟩ → ¬ (Q i).blks T[i] g
  lo : ∀ g o, 0 < m → a = some ⟨g, o, none⟩ → base ≤ g
abbrev OutTs (w : World) (base : Nat) (a : Option Addr) (T : List TB) (Q : Nat → TAd) : Prop := OutU w base a T Q T.length
/-- All their blocks. -/
def tabsBlks (a : Option Addr) (T : List TB) (Q : Nat → TAd) (b : Nat) : Prop := (0 < T.length ∧ ∃ o, a = some ⟨b, o, none⟩) ∨ ∃ i, ∃ h : i < T.length, (Q i).blks T[i] b
theorem OutU.lies {w : World} {base : Nat} {a : Option Addr} {T : List TB} {Q : Nat → TAd} (h : OutTs w base a T Q) : TabsAt w a T := by
  intro i hi
  obtain ⟨g, o, ha, hlt, c0, c1, c2, _⟩ := h.heads i hi hi
  exact ⟨g, o, _, _, _, _, ha, hlt, c0, c1, c2, (h.tabs i hi hi).tab⟩
theorem OutU.keepS {P : Nat → Prop} {w w' : World} {base : Nat} {a : Option Addr} {T : List TB} {Q : Nat → TAd} {m : Nat} (h : OutU w base a T Q m) (hk : KeepS P w w') (hH : ∀ g o, 0 < m → a = some ⟨g, o, none⟩ → ¬ P g) (hP : ∀ i (hi : i < T.length) b, i < m → (Q i).blks T[i] b → ¬ P b) : OutU w' base a T Q m :=
  ⟨h.heads.keepS hk hH, fun i hi hm => (h.tabs i hi hm).keepS hk (fun b hb => hP i hi b hm hb), h.apart, h.head, h.lo⟩
theorem OutU.below {w w' : World} {base : Nat} {a : Option Addr} {T : List TB} {Q : Nat → TAd} {m : Nat} (h : OutU w base a T Q m) (hb : Below w.heap.size w w') : OutU w' base a T Q m :=
  h.keepS (KeepS.ofBelow (P := fun _ => False) hb) (fun _ _ _ _ h => h) (fun _ _ _ _ _ h => h)
/-- What is written lies below. -/
theorem OutU.keepFar {P : Nat → Prop} {w w' : World} {base : Nat} {a : Option Addr} {T : List TB} {Q : Nat → TAd} {m : Nat} (h : OutU w base a T Q m) (hk : KeepS P w w') (hP : ∀ b, P b → b < base) : OutU w' base a T Q m :=
  h.keepS hk (fun g o h0 e hp => by have := hP g hp; have := h.lo g o h0 e; omega) (fun i hi b hm hb hp => by have := hP b hp; have := (h.tabs i hi hm).lo b hb; omega)
theorem OutU.blks_lo {w : World} {base : Nat} {a : Option Addr} {T : List TB} {Q : Nat → TAd} (h : OutTs w base a T Q) (b : Nat) (hb : tabsBlks a T Q b) : base ≤ b := by
  rcases hb with ⟨h0, o, e⟩ | ⟨i, hi, hb⟩
  · exact h.lo b o h0 e
  · exact (h.tabs i hi hi).lo b hb
theorem OutU.blks_lt {w : World} {base : Nat} {a : Option Addr} {T : List TB} {Q : Nat → TAd} (h : OutTs w base a T Q) (b : Nat) (hb : tabsBlks a T Q b) : b < w.heap.size := by
  rcases hb with ⟨h0, o, e⟩ | ⟨i, hi, hb⟩
  · obtain ⟨g, o', ha, hlt, _⟩ := h.heads 0 h0 h0
    rw [e] at ha; cases ha; exact hlt
  · exact (h.tabs i hi hi).lt b hb
theorem OutT.below {w w' : World} {base : Nat} {q : TAd} {t : TB} (h : OutT w base q t) (hb : Below w.heap.size w w') : OutT w' base q t := OutTab.below h hb
theorem OutT.lower {w : World} {base base' : Nat} {q : TAd} {t : TB} (h : OutT w base q t) (hb : base' ≤ base) : OutT w base' q t :=
  ⟨h.cols, h.fit, h.len, h.cap, h.nilC, h.lenR, h.name, h.fitR, h.lenL, h.nilR, h.free, h.heads, h.un, h.ap, h.colR, h.colH, fun b hb' => Nat.le_trans hb (h.lo b hb')⟩
def setQ (Q : Nat → TAd) (m : Nat) (q : TAd) : Nat → TAd := fun i => if i = m then q else Q i
theorem setQ_at (Q : Nat → TAd) (m : Nat) (q : TAd) : setQ Q m q m = q := if_pos rfl
theorem setQ_old (Q : Nat → TAd) {m i : Nat} (q : TAd) (h : i ≠ m) : setQ Q m q i = Q i := if_neg h
/-- One table more: its lists are newer than all that was there. -/
theorem OutU.snoc {w w' : World} {base : Nat} {a a' : Option Addr} {T : List TB} {Q : Nat → TAd} {m B : Nat} {q : TAd} (h : OutU w base a T Q m) (hm : m < T.length) (hB : w.heap.size ≤ B) (hbase : base ≤ B) (hq : OutT w' B q T[m])
    (hold : ∀ i (hi : i < T.length), i < m → OutT w' base (Q i) T[i]) (hh : HeadsT w' a' T (setQ Q m q) (m + 1)) (hlo : ∀ g o, a' = some ⟨g, o, none⟩ → base ≤ g)
    (hhd : ∀ g o, a' = some ⟨g, o, none⟩ → (∀ i (hi : i < T.length), i < m → ¬ (Q i).blks T[i] g) ∧ ¬ q.blks T[m] g) : OutU w' base a' T (setQ Q m q) (m + 1) := by
  have far : ∀ i (hi : i < T.length) b, i < m → (Q i).blks T[i] b → b < B := fun i hi b him hb => Nat.lt_of_lt_of_le ((h.tabs i hi him).lt b hb) hB
  have near : ∀ b, q.blks T[m] b → B ≤ b := fun b hb => hq.lo b hb
  refine ⟨hh, ?_, ?_, ?_, fun g o _ e => hlo g o e⟩
  · intro i hi hlt
    by_cases e : i = m
    · subst e; rw [setQ_at]; exact hq.lower hbase
    · rw [setQ_old Q q e]; exact hold i hi (by omega)
  · intro i j hi hj b hil hjl hij hbi hbj
    by_cases ei : i = m
    · subst ei
      rw [setQ_at] at hbi
      rw [setQ_old Q q (Ne.symm hij)] at hbj
      have := near b hbi
      have := far j hj b (by omega) hbj
      omega
    · rw [setQ_old Q q ei] at hbi
      by_cases ej : j = m
      · subst ej
        rw [setQ_at] at hbj
        have := near b hbj
        have := far i hi b (by omega) hbi
        omega
      · rw [setQ_old Q q ej] at hbj
        exact h.apart i j hi hj b (by omega) (by omega) hij hbi hbj
  · intro i hi g o hil e
    by_cases ei : i = m
    · subst ei; rw [setQ_at]; exact (hhd g o e).2
    · rw [setQ_old Q q ei]; exact (hhd g o e).1 i hi (by omega)

/-- The first m tables are taken over into block g. -/
structure TakQ (w : World) (g : Nat) (T : List TB) (Q : Nat → TAd) (m : Nat) : Prop where
  lt : g < w.heap.size
  there : ∀ q, q < T.length * 3 → ∃ u, w.cell? ⟨g, q, none⟩ = some u
  free : ∀ q, w.frozen? ⟨g, q, none⟩ = false
  out : OutU w g (some ⟨g, 0, none⟩) T Q m
  above : ∀ i (_ : i < T.length) b, i < m → (Q i).blks T[i] b → g < b
theorem TakQ.below {w w' : World} {g : Nat} {T : List TB} {Q : Nat → TAd} {m : Nat} (h : TakQ w g T Q m) (hb : Below w.heap.size w w') : TakQ w' g T Q m where
  lt := Nat.lt_of_lt_of_le h.lt hb.size
  there q hq := by obtain ⟨u, hu⟩ := h.there q hq; exact ⟨u, by rw [hb.cell (p := ⟨g, q, none⟩) h.lt]; exact hu⟩
  free q := by rw [hb.frozen (p := ⟨g, q, none⟩) h.lt]; exact h.free q
  out := h.out.below hb
  above := h.above
theorem TakQ.step {w wr : World} {g : Nat} {T : List TB} {Q : Nat → TAd} {m : Nat} {q : TAd} (h0 : TakQ wr g T Q m) (hb : Below wr.heap.size wr w) (hm : m < T.length) (t : TB) (ht : T[m] = t) (N : OutT w wr.heap.size q t) :
    TakQ (((w.setCell ⟨g, m * 3, none⟩ (.string t.1)).setCell ⟨g, m * 3 + 1, none⟩ (.slice q.ca t.2.1.length q.cc)).setCell ⟨g, m * 3 + 2, none⟩ (.slice q.ra t.2.2.length q.cr)) g T (setQ Q m q) (m + 1) := by
  subst ht
  have h := h0.below hb
  have hlt := h0.lt
  obtain ⟨u0, e0⟩ := h.there (m * 3) (by omega)
  obtain ⟨u1, e1⟩ := h.there (m * 3 + 1) (by omega)
  obtain ⟨u2, e2⟩ := h.there (m * 3 + 2) (by omega)
  obtain ⟨W, hW⟩ : ∃ W, W = (((w.setCell ⟨g, m * 3, none⟩ (.string T[m].1)).setCell ⟨g, m * 3 + 1, none⟩ (.slice q.ca T[m].2.1.length q.cc)).setCell ⟨g, m * 3 + 2, none⟩ (.slice q.ra T[m].2.2.length q.cr)) := ⟨_, rfl⟩
  have off : ∀ p, p ≠ m * 3 → p ≠ m * 3 + 1 → p ≠ m * 3 + 2 → W.cell? ⟨g, p, none⟩ = w.cell? ⟨g, p, none⟩ := by
    intro p h0 h1 h2
    rw [hW, cell_off _ _ _ _ _ h2, cell_off _ _ _ _ _ h1, cell_off _ _ _ _ _ h0]
  have a0 : W.cell? ⟨g, m * 3, none⟩ = some (.string T[m].1) := by
    rw [hW, cell_off _ _ _ _ _ (by omega), cell_off _ _ _ _ _ (by omega), cell_here _ _ _ _ (by rw [e0]; rfl)]
  have a1 : W.cell? ⟨g, m * 3 + 1, none⟩ = some (.slice q.ca T[m].2.1.length q.cc) := by
    rw [hW, cell_off _ _ _ _ _ (by omega), cell_here _ _ _ _ (by rw [cell_off _ _ _ _ _ (by omega), e1]; rfl)]
  have a2 : W.cell? ⟨g, m * 3 + 2, none⟩ = some (.slice q.ra T[m].2.2.length q.cr) := by
    rw [hW, cell_here _ _ _ _ (by rw [cell_off _ _ _ _ _ (by omega), cell_off _ _ _ _ _ (by omega), e2]; rfl)]
  have fr : ∀ p, W.frozen? ⟨g, p, none⟩ = false := by
    intro p; rw [hW, World.frozen?_setCell, World.frozen?_setCell, World.frozen?_setCell]; exact h.free p
  have K : KeepS (fun b => b = g) w W := by
    rw [hW]
    exact (((KeepS.refl (fun b => b = g) w).setCell (p := ⟨g, m * 3, none⟩) rfl _).setCell (p := ⟨g, m * 3 + 1, none⟩) rfl _).setCell (p := ⟨g, m * 3 + 2, none⟩) rfl _
  rw [← hW]
  clear hW
  have nearG : ∀ b, q.blks T[m] b → g < b := fun b hb => Nat.lt_of_lt_of_le hlt (N.lo b hb)
  have hgW : g < W.heap.size := Nat.lt_of_lt_of_le h.lt K.size
  refine ⟨hgW, ?_, fr, ?_, ?_⟩
  · intro p hp
    by_cases h0 : p = m * 3
    · subst h0; exact ⟨_, a0⟩
    by_cases h1 : p = m * 3 + 1
    · subst h1; exact ⟨_, a1⟩
    by_cases h2 : p = m * 3 + 2
    · subst h2; exact ⟨_, a2⟩
    rw [off p h0 h1 h2]; exact h.there p hp
  · refine OutU.snoc (B := wr.heap.size) h0.out hm (Nat.le_refl _) (by omega) (OutTab.keepS N K (fun b hb e => by have := nearG b hb; omega)) (fun i hi hlt => OutTab.keepS (h.out.tabs i hi hlt) K (fun b hb e => by have := h.above i hi b hlt hb; omega)) ?_ (fun g' o e => by cases e; exact Nat.le_refl _) ?_
    · intro i hi hlt
      refine ⟨g, 0, rfl, hgW, ?_⟩
      rw [Nat.zero_add]
      by_cases e : i = m
      · subst e
        rw [setQ_at]
        exact ⟨a0, a1, a2, fr _⟩
      · obtain ⟨g', o', eg, _, c0, c1, c2, _⟩ := h.out.heads i hi (by omega)
        cases eg
        rw [Nat.zero_add] at c0 c1 c2
        rw [setQ_old Q q e, off _ (by omega) (by omega) (by omega), off _ (by omega) (by omega) (by omega), off _ (by omega) (by omega) (by omega)]
        exact ⟨c0, c1, c2, fr _⟩
    · intro g' o e
      cases e
      exact ⟨fun i hi hlt hb => by have := h.above i hi g hlt hb; omega, fun hb => by have := nearG g hb; omega⟩
  · intro i hi b hlt hb
    by_cases e : i = m
    · subst e; rw [setQ_at] at hb; exact nearG b hb
    · rw [setQ_old Q q e] at hb; exact h.above i hi b (by omega) hb

set_option maxHeartbeats 4000000 in
theorem totabs_out (a : Option Addr) (cap : Nat) (T : List TB) (n : Nat) (hn : T.length = n) (w : World) (hrow : TabsAt w a T) (hm : n ≤ 1048576) (hms : ∀ i (h : i < T.length), T[i].2.1.length ≤ 1048576 ∧ T[i].2.2.length ≤ 1048576 ∧ ∀ j (hj : j < T[i].2.2.length), T[i].2.2[j].length ≤ 1048576) :
    Calls Tryz.prog 18 #[.slice a n cap] w fun e w' => ∃ g Q, e = .returned (.slice (some ⟨g, 0, none⟩) n n) ∧ OutTs w' w.heap.size (some ⟨g, 0, none⟩) T Q ∧ Below w.heap.size w w' := by
  obtain ⟨i0, hi, hz0, hz1, hz2⟩ := info_parts infoT
  have hR : Hid (TabsAt w a T) := hrow
  have hN : Hid (T.length = n) := hn
  have hMS : Hid (∀ i (h : i < T.length), T[i].2.1.length ≤ 1048576 ∧ T[i].2.2.length ≤ 1048576 ∧ ∀ j (hj : j < T[i].2.2.length), T[i].2.2[j].length ≤ 1048576) := hms
  clear hrow hn hms
  go_enter Tryz.func18, Tryz.ntmps18
  go_wp2_with (at_make; refine wpList_make_full _ rfl _ _ 24 rfl w.heap.size 40 i0 (.agg #[.string ⟨#[]⟩, .slice none 0 0, .slice none 0 0]) 3 Tryz.underlying24 hi hz0 hz1 .i64 .i64 _ _ n rfl rfl rfl rfl ?b2 ?b3 (Nat.le_refl _) ?_)
  case b2 => rw [hz2]; omega
  case b3 => unfold maxLen; omega
  intro w1 hown hgrow
  have hb1 : Below w.heap.size w w1 := (Below.refl _ _).grown hgrow (Nat.le_refl _) (by intro k h; cases h)
  generalize (madeCells _ _).toList = z at hown
  have hT : Hid (∃ Q, TakQ w1 w.heap.size T Q 0) := by
    refine ⟨fun _ => ⟨none, 0, none, 0, fun _ => none, fun _ => 0⟩, (hown.lt _ rfl).2, ?_, fun q => hown.frozenAt q, ⟨fun i _ h => by omega, fun i _ h => by omega, fun i j _ _ b h => by omega, fun i _ g o h => by omega, fun g o h => by omega⟩, fun i _ b h => by omega⟩
    intro q hq
    have := hN.out
    exact ⟨_, (hown.cellAt q (by omega)).trans (List.getElem?_eq_getElem (by rw [hown.1]; omega))⟩
  clear hown hgrow
  go_wp2
  go_loopw [4] (fun i wr => ∃ m : Nat, m ≤ n ∧ i = .int .i64 m ∧ Hid (∃ Q, TakQ wr w.heap.size T Q m) ∧ Below w.heap.size w wr)
    (fun i _ => n - (intOf i).toNat)
  case atStart => exact ⟨0, Nat.zero_le _, rfl, hT, hb1⟩
  case round =>
    obtain ⟨m, hmL, rfl, hT1, hb⟩ := hrel
    obtain ⟨Q, hTQ⟩ := hT1.out
    have hT2 : Hid (TakQ wr w.heap.size T Q m) := hTQ
    clear hTQ hT1
    by_cases hlt : m < n
    · have hlt' : Hid (m < T.length) := by have := hN.out; exact show m < T.length by omega
      obtain ⟨b, o, ca, cc, ra, cr, rfl, hbw, c0, c1, c2, ht⟩ := hR.out.below hb m hlt'.out
      have hi0 : (0 : Int) ≤ (m : Int) := by omega
      have hi1 : (m : Int) < (n : Int) := by omega
      have HT : Hid (TabAt wr ca cc ra (T[m]'hlt'.out)) := ht
      have HM : Hid (_ ∧ _ ∧ _) := hMS.out m hlt'.out
      clear ht
      obtain ⟨x, hx⟩ : ∃ x, (T[m]'hlt'.out) = x := ⟨_, rfl⟩
      rw [hx] at c0 c1 c2 HT HM
      have HXE : Hid ((T[m]'hlt'.out) = x) := hx
      clear hx
      obtain ⟨nc, hnc⟩ : ∃ k, x.2.1.length = k := ⟨_, rfl⟩
      obtain ⟨nr, hnr⟩ : ∃ k, x.2.2.length = k := ⟨_, rfl⟩
      rw [hnc] at c1
      rw [hnr] at c2
      have HNC : Hid (x.2.1.length = nc) := hnc
      have HNR : Hid (x.2.2.length = nr) := hnr
      have hbg : w.heap.size < wr.heap.size := hT2.out.lt
      have hFit : Hid (∀ i (hi : i < x.2.2.length), Fit x.2.2[i]) := by
        have h0 : ∀ i (hi : i < x.2.2.length), Fit x.2.2[i] := fun i hi => by
          obtain ⟨_, _, _, _, _, _, _, _, h, _⟩ := HT.out.rows i hi; exact h
        exact h0
      have hLen : Hid (∀ i (hi : i < x.2.2.length), x.2.2[i].length ≤ maxLen) := by
        have h0 : ∀ i (hi : i < x.2.2.length), x.2.2[i].length ≤ maxLen := fun i hi => by
          obtain ⟨_, _, _, _, _, _, _, _, _, h, _⟩ := HT.out.rows i hi; exact h
        exact h0
      clear hnc hnr
      go_wp2_with fail
      refine (totab_laws ca cc ra cr x nc nr HNC.out HNR.out _ HT.out (by have := HM.out.1; rw [HNC.out] at this; exact this) (by have := HM.out.2.1; rw [HNR.out] at this; exact this) HM.out.2.2).mono ?_
      rintro e w2 ⟨g1, g2, rfl, hnew, hb2⟩
      have hx2 := chain hb hb2
      obtain ⟨A, C, hO⟩ := hnew.out HT.out.fit HT.out.name HT.out.len HT.out.lenR hFit.out hLen.out
      have T2 := hT2.out.below hb2
      have hTT := TakQ.step (q := ⟨some ⟨g1, 0, none⟩, x.2.1.length, some ⟨g2, 0, none⟩, x.2.2.length, A, C⟩) hT2.out hb2 hlt'.out x HXE.out hO
      dsimp only at hTT
      rw [HNC.out, HNR.out] at hTT
      have HTT : Hid (∃ Q, TakQ (((w2.setCell ⟨w.heap.size, m * 3, none⟩ (.string x.1)).setCell ⟨w.heap.size, m * 3 + 1, none⟩ (.slice (some ⟨g1, 0, none⟩) nc nc)).setCell ⟨w.heap.size, m * 3 + 2, none⟩ (.slice (some ⟨g2, 0, none⟩) nr nr)) w.heap.size T Q (m + 1)) := ⟨_, hTT⟩
      have hlq := hlt'.out
      obtain ⟨u0, g0⟩ := T2.there (m * 3) (by omega)
      obtain ⟨u1, g1'⟩ := T2.there (m * 3 + 1) (by omega)
      obtain ⟨u2, g2'⟩ := T2.there (m * 3 + 2) (by omega)
      have f0 := T2.free (m * 3)
      have f1 := T2.free (m * 3 + 1)
      have f2 := T2.free (m * 3 + 2)
      clear hTT T2 hb2 hnew hlq hT2 hO
      go_wp2
      go_roundw
      case rel => exact ⟨m + 1, by omega, by go_num, HTT, ((hx2.setCell (Nat.le_refl _) _).setCell (Nat.le_refl _) _).setCell (Nat.le_refl _) _⟩
      case measure => simp [intOf]; omega
    · have hkl : m = n := by omega
      subst hkl
      go_wp2
      go_ret
      exact ⟨_, Q, rfl, by have := hT2.out.out; rw [← hN.out] at this; exact this, hb⟩
end Go.Proofs.YtjiaciikbnpicaaGreatDoor

/-
  A list of tables that a call makes, one behind the other: the heads in a row of its own, each table's lists newer than those ahead of it.
-/
namespace Go.Proofs.YtjiaciikbnpicaaGreatDoor
open Go.ChangeShapes Go.WideShapes Go.ChangeAt Go.RowKit

def zeroTB : TB := (⟨#[]⟩, [], [])
def headV (t : TB) (q : TAd) : List Value := [.string t.1, .slice q.ca t.2.1.length q.cc, .slice q.ra t.2.2.length q.cr]
/-- The heads of the first k tables, cell by cell. -/
def tabsV (V : List TB) (Q : Nat → TAd) : Nat → List Value
  | 0 => []
  | k + 1 => tabsV V Q k ++ headV (V.getD k zeroTB) (Q k)
theorem tabsV_length (V : List TB) (Q : Nat → TAd) (k : Nat) : (tabsV V Q k).length = k * 3 := by
  induction k with
  | zero => rfl
  | succ k ih => rw [tabsV, List.length_append, ih]; simp [headV]; omega
theorem tabsV_congr {V : List TB} {Q Q' : Nat → TAd} {k : Nat} (h : ∀ i, i < k → Q i = Q' i) : tabsV V Q k = tabsV V Q' k := by
  induction k with
  | zero => rfl
  | succ k ih => rw [tabsV, tabsV, ih (fun i hi => h i (by omega)), h k (by omega)]
theorem getD_tb {V : List TB} {k : Nat} (h : k < V.length) : V.getD k zeroTB = V[k] := by simp [List.getD, List.getElem?_eq_getElem h]
theorem tabsV_at {V : List TB} {Q : Nat → TAd} {k i j : Nat} (hi : i < k) (hj : j < 3) : (tabsV V Q k)[i * 3 + j]? = (headV (V.getD i zeroTB) (Q i))[j]? := by
  induction k with
  | zero => omega
  | succ k ih =>
    rw [tabsV]
    by_cases e : i = k
    · subst e
      rw [List.getElem?_append_right (by rw [tabsV_length]; omega), tabsV_length]
      congr 1
      omega
    · rw [List.getElem?_append_left (by rw [tabsV_length]; omega)]
      exact ih (by omega)
structure OwnTs (w : World) (base : Nat) (v : Value) (V : List TB) (Q : Nat → TAd) (k : Nat) : Prop where
  own : w.ownsRow base 40 3 v k (tabsV V Q k)
  tabs : ∀ i (_ : i < V.length), i < k → OutT w base (Q i) V[i]
  apart : ∀ i j (_ : i < V.length) (_ : j < V.length) b, i < k → j < k → i ≠ j → (Q i).blks V[i] b → ¬ (Q j).blks V[j] b
  head : ∀ g, v.ownBlock = some g → ∀ i (_ : i < V.length), i < k → ¬ (Q i).blks V[i] g
theorem KeepS.grown {w w' : World} {row : Option Nat} (h : w.grownBy w' row) : KeepS (fun b => some b = row) w w' := ⟨h.os, h.tape, h.output, h.size, fun k hk hn => h.block k hk hn⟩
theorem OwnTs.below {w w' : World} {base : Nat} {v : Value} {V : List TB} {Q : Nat → TAd} {k : Nat} (h : OwnTs w base v V Q k) (hb : Below w.heap.size w w') : OwnTs w' base v V Q k :=
  ⟨own_below h.own hb, fun i hi hk => (h.tabs i hi hk).below hb, h.apart, h.head⟩
theorem OwnTs.start {w : World} {base : Nat} {v : Value} {V : List TB} (Q : Nat → TAd) (h : w.ownsRow base 40 3 v 0 []) : OwnTs w base v V Q 0 :=
  ⟨h, fun i _ h => by omega, fun i j _ _ b h => by omega, fun g _ i _ h => by omega⟩
/-- One table more at the end. -/
theorem OwnTs.snoc {wr w1 w3 : World} {base : Nat} {v v' : Value} {V : List TB} {Q : Nat → TAd} {k : Nat} {q : TAd} {ob : Obj} (h : OwnTs wr base v V Q k) (hk : k < V.length) (hbase : base ≤ wr.heap.size) (hb : Below wr.heap.size wr w1) (hq : OutT w1 wr.heap.size q V[k])
    (hown : w3.ownsRow base 40 3 v' (k + 1) (tabsV V Q k ++ headV V[k] q)) (hgrow : (w1.alloc ob).grownBy w3 v.ownBlock) (hloc : v'.ownBlock = v.ownBlock ∨ v'.ownBlock = some (w1.alloc ob).heap.size) : OwnTs w3 base v' V (setQ Q k q) (k + 1) := by
  have hA : Below w1.heap.size w1 (w1.alloc ob) := (Below.refl _ _).alloc (Nat.le_refl _) _
  have far : ∀ i (hi : i < V.length) b, i < k → (Q i).blks V[i] b → b < wr.heap.size := fun i hi b hik hb => (h.tabs i hi hik).lt b hb
  have near : ∀ b, q.blks V[k] b → wr.heap.size ≤ b ∧ b < w1.heap.size := fun b hb => ⟨hq.lo b hb, OutTab.lt hq b hb⟩
  have KG := KeepS.grown hgrow
  have hgl : ∀ g, v.ownBlock = some g → g < wr.heap.size := fun g hg => (h.own.lt g hg).2
  refine ⟨?_, ?_, ?_, ?_⟩
  · rw [show tabsV V (setQ Q k q) (k + 1) = tabsV V Q k ++ headV V[k] q by
      rw [tabsV, setQ_at, getD_tb hk, tabsV_congr (Q' := Q) (fun i hi => setQ_old Q q (by omega))]]
    exact hown
  · intro i hi hlt
    by_cases e : i = k
    · subst e
      rw [setQ_at]
      refine OutTab.keepS ((hq.below hA).lower hbase) KG (fun b hb e => ?_)
      have := (near b hb).1
      have := hgl b e.symm
      omega
    · rw [setQ_old Q q e]
      exact OutTab.keepS (((h.tabs i hi (by omega)).below hb).below hA) KG (fun b hb e => h.head b e.symm i hi (by omega) hb)
  · intro i j hi hj b hil hjl hij hbi hbj
    by_cases ei : i = k
    · subst ei
      rw [setQ_at] at hbi
      rw [setQ_old Q q (Ne.symm hij)] at hbj
      have := (near b hbi).1
      have := far j hj b (by omega) hbj
      omega
    · rw [setQ_old Q q ei] at hbi
      by_cases ej : j = k
      · subst ej
        rw [setQ_at] at hbj
        have := (near b hbj).1
        have := far i hi b (by omega) hbi
        omega
      · rw [setQ_old Q q ej] at hbj
        exact h.apart i j hi hj b (by omega) (by omega) hij hbi hbj
  · intro g hg i hi hlt hbi
    have hsz : (w1.alloc ob).heap.size = w1.heap.size + 1 := by simp
    have hs1 := hb.size
    rcases hloc with e | e
    · rw [e] at hg
      by_cases ei : i = k
      · subst ei
        rw [setQ_at] at hbi
        have := (near g hbi).1
        have := hgl g hg
        omega
      · rw [setQ_old Q q ei] at hbi
        exact h.head g hg i hi (by omega) hbi
    · rw [hg] at e
      injection e with e
      by_cases ei : i = k
      · subst ei
        rw [setQ_at] at hbi
        have := (near g hbi).2
        omega
      · rw [setQ_old Q q ei] at hbi
        have := far i hi g (by omega) hbi
        omega
/-- All of them: a list of tables in memory of its own. -/
theorem OwnTs.out {w : World} {base : Nat} {v : Value} {V : List TB} {Q : Nat → TAd} {n : Nat} (hn : V.length = n) (h : OwnTs w base v V Q n) : ∃ a cap, v = .slice a n cap ∧ OutTs w base a V Q ∧ n ≤ cap := by
  subst hn
  rcases h.own.2 with ⟨e, h0⟩ | ⟨g, cap, cur, e, hbg, hg, hc, _⟩
  · have hV : V = [] := List.eq_nil_of_length_eq_zero h0
    subst hV
    exact ⟨none, 0, e, ⟨fun i hi => by simp at hi, fun i hi => by simp at hi, fun i j hi => by simp at hi, fun i hi => by simp at hi, fun g o h => by simp at h⟩, Nat.le_refl _⟩
  · subst e
    have hgl : g < w.heap.size := (h.own.lt g rfl).2
    have cel : ∀ i (hi : i < V.length) j, j < 3 → w.cell? ⟨g, i * 3 + j, none⟩ = (headV V[i] (Q i))[j]? := by
      intro i hi j hj
      rw [h.own.cellAt _ (by omega), tabsV_at hi hj, getD_tb hi]
    refine ⟨some ⟨g, 0, none⟩, cap, rfl, ⟨?_, h.tabs, h.apart, fun i hi g' o hm e => by cases e; exact h.head g rfl i hi hm, fun g' o _ e => by cases e; exact hbg⟩, hc⟩
    intro i hi _
    refine ⟨g, 0, rfl, hgl, ?_, ?_, ?_, h.own.frozenAt _⟩
    · have := cel i hi 0 (by omega); simpa [headV] using this
    · have := cel i hi 1 (by omega); simpa [headV] using this
    · have := cel i hi 2 (by omega); simpa [headV] using this
end Go.Proofs.YtjiaciikbnpicaaGreatDoor

/-
  The contracts of the model's copies of a list of texts and of a table: all of it lies in new memory.
-/
namespace Go.Proofs.YtjiaciikbnpicaaGreatDoor
open Go.ChangeShapes Go.WideShapes Go.ChangeAt Go.RowKit
attribute [local go_sem ↓] Go.wp_at_zero Go.wp_at_succ
attribute [local simp] World.cell?_alloc_past World.cell?_alloc_at World.frozen?_alloc_at cell_far cell_off cell_here World.frozen?_alloc_past

theorem strV_cells {w : World} {ad : Addr} {l : List ByteArray} (h : StrsAt w (some ad) l) : ∀ j u, (strV l)[j]? = some u → w.cell? (ad.add j) = some u := by
  intro j u hu
  have hj : j < l.length := by have := (List.getElem?_eq_some_iff.1 hu).1; rw [strV_length] at this; exact this
  unfold strV at hu
  rw [List.getElem?_map, List.getElem?_eq_getElem hj] at hu
  obtain ⟨b, o, e, _, c0⟩ := h j hj
  cases e
  have hadd : (⟨b, o, none⟩ : Addr).add j = ⟨b, o + j, none⟩ := by unfold Addr.add; split <;> simp_all
  rw [hadd, c0]
  simpa using hu
theorem infoTx : (Tryz.prog.info? 9).map (fun i => (i.zero, i.size, i.bytes)) = some (some (.string ⟨#[]⟩), 1, 16) := by kernel_rfl

set_option maxRecDepth 100000 in
set_option maxHeartbeats 1000000 in
theorem texts_spec (a : Option Addr) (cap : Nat) (l : List ByteArray) (n : Nat) (hn : l.length = n) (w : World) (hrow : StrsAt w a l) (hnil : a = none → cap = 0) (hm : n ≤ 1048576) :
    Calls Tryz.prog 39 #[.slice a n cap] w fun e w' => ∃ g c, e = .returned (.slice (some ⟨g, 0, none⟩) n c) ∧ w.heap.size ≤ g ∧ n ≤ c ∧
      w'.ownsRow w.heap.size 9 1 (.slice (some ⟨g, 0, none⟩) l.length c) l.length (strV l) ∧ Below w.heap.size w w' := by
  subst hn
  obtain ⟨i0, hi, hz0, hz1, hz2⟩ := info_parts infoTx
  have hR : Hid (StrsAt w a l) := hrow
  clear hrow
  have own0 : Hid ((w.alloc (.cells #[] 9)).ownsRow w.heap.size 9 1 (.slice (some ⟨w.heap.size, 0, none⟩) 0 0) 0 []) :=
    ⟨rfl, .inr ⟨w.heap.size, 0, #[], rfl, Nat.le_refl _, by show (w.heap.push _)[w.heap.size]? = _; simp, Nat.le_refl _, by unfold maxLen; omega, rfl, rfl⟩⟩
  have hb0 : Below w.heap.size w (w.alloc (.cells #[] 9)) := (Below.refl _ _).alloc (Nat.le_refl _) _
  cases a with
  | none =>
    have hl : l = [] := by
      cases l with
      | nil => rfl
      | cons x l => obtain ⟨b, o, e, _⟩ := hR.out 0 (by simp); cases e
    subst hl
    have hc := hnil rfl
    subst hc
    go_enter Tryz.func39, Tryz.ntmps39
    go_wp2_with (at_builtin; refine wpList_append_own_none rfl _ _ 28 rfl w.heap.size 9 i0 1 Tryz.underlying28 hi (.slice (some ⟨w.heap.size, 0, none⟩) 0 0) 0 [] rfl own0.out rfl ?_)
    go_ret
    refine ⟨w.heap.size, 0, rfl, ?_⟩
    first | exact ⟨Nat.le_refl _, Nat.le_refl _, own0.out, hb0⟩ | exact ⟨Nat.le_refl _, own0.out, hb0⟩ | exact ⟨own0.out, hb0⟩
  | some ad =>
    go_enter Tryz.func39, Tryz.ntmps39
    go_wp2_with (at_builtin; refine wpList_append_own _ rfl _ _ 28 rfl w.heap.size 9 i0 (.string ⟨#[]⟩) 1 16 Tryz.underlying28 hi hz0 hz1 hz2 rfl (by decide) (.slice (some ⟨w.heap.size, 0, none⟩) 0 0) 0 [] rfl own0.out ad l.length cap (strV l) rfl (by rw [strV_length]; omega) ?c1 ?c2 ?c3 ?c4 ?c5 ?_)
    case c1 => exact strV_cells (hR.out.below hb0)
    case c2 =>
      intro u hu
      obtain ⟨b, _, rfl⟩ := List.mem_map.1 hu
      rfl
    case c3 => unfold maxLen; omega
    case c4 => omega
    case c5 => simp
    intro v' w1 hown hgrow hnn
    have hx : Below w.heap.size w w1 := hb0.grown hgrow (by simp) (by intro k hk; simp [Value.ownBlock] at hk; omega)
    rcases hown.2 with ⟨h', _⟩ | ⟨g, c, cur, h', hbg, hg, hle, hr⟩
    · exact absurd h' hnn
    · subst h'
      go_wp2
      go_ret
      exact ⟨g, c, rfl, hbg, by omega, hown, hx⟩

end Go.Proofs.YtjiaciikbnpicaaGreatDoor

/-
  What Put answers, and the contract of the model's Put.
-/
namespace Go.Proofs.YtjiaciikbnpicaaGreatDoor
open Go.ChangeShapes Go.WideShapes Go.ChangeAt Go.RowKit
attribute [local go_sem ↓] Go.wp_at_zero Go.wp_at_succ
attribute [local simp] World.cell?_alloc_past World.cell?_alloc_at World.frozen?_alloc_at cell_far cell_off cell_here World.frozen?_alloc_past

def zeroT : TB := (⟨#[]⟩, [], [])
theorem own_cap {w : World} {base n g c : Nat} {e : TypeId} {size m : Nat} {xs : List Value} (h : w.ownsRow base e size (.slice (some ⟨g, 0, none⟩) m c) n xs) : n ≤ c := by
  rcases h.2 with ⟨h1, _⟩ | ⟨g', c', cur, h', _, _, hle, _⟩
  · simp at h1
  · simp only [Value.slice.injEq] at h'
    omega
theorem out_zero (w : World) (base : Nat) : OutTab w base none 0 none zeroT (fun _ => none) (fun _ => 0) where
  cols := fun j hj => absurd hj (Nat.not_lt_zero _)
  fit := fun j hj => absurd hj (Nat.not_lt_zero _)
  len := Nat.zero_le _
  cap := Nat.le_refl _
  nilC := fun _ => rfl
  lenR := Nat.zero_le _
  name := Nat.zero_le _
  fitR := fun j hj => absurd hj (Nat.not_lt_zero _)
  lenL := fun j hj => absurd hj (Nat.not_lt_zero _)
  nilR := fun _ _ => rfl
  free := fun b o e => (by cases e)
  heads := fun j hj => absurd hj (Nat.not_lt_zero _)
  un := fun k j hj => absurd hj (Nat.not_lt_zero _)
  ap := ⟨fun j hj => absurd hj (Nat.not_lt_zero _), fun i j hi => absurd hi (Nat.not_lt_zero _)⟩
  colR := by rintro b ⟨_, o, e⟩; cases e
  colH := by rintro b ⟨_, o, e⟩; cases e
  lo := by
    rintro b (⟨_, o, e⟩ | ⟨i, hi, _⟩ | ⟨_, o, e⟩)
    · cases e
    · exact absurd hi (Nat.not_lt_zero _)
    · cases e
theorem OwnRows.base {w : World} {b1 b2 : Nat} {v : Value} {L : List (List CT)} {G C : Nat → Nat} (h : OwnRows w b1 v L G C) (hle : b2 ≤ b1) : OwnRows w b2 v L G C :=
  ⟨own_base h.outer hle, fun j hj => own_base (h.inner j hj) hle, h.apart⟩

theorem OutTab.base {w : World} {b1 b2 : Nat} {ca : Option Addr} {cc : Nat} {ra : Option Addr} {t : TB} {A : Nat → Option Addr} {C : Nat → Nat} (h : OutTab w b1 ca cc ra t A C) (hle : b2 ≤ b1) : OutTab w b2 ca cc ra t A C :=
  ⟨h.cols, h.fit, h.len, h.cap, h.nilC, h.lenR, h.name, h.fitR, h.lenL, h.nilR, h.free, h.heads, h.un, h.ap, h.colR, h.colH, fun b hb => Nat.le_trans hle (h.lo b hb)⟩
/-- Three stores into a block that is not the table's. -/
theorem OutTab.set3 {w : World} {base : Nat} {ca : Option Addr} {cc : Nat} {ra : Option Addr} {t : TB} {A : Nat → Option Addr} {C : Nat → Nat} (h : OutTab w base ca cc ra t A C) (c : Nat) (hc : c < base) (i j k : Nat) (x y z : Value) : OutTab (((w.setCell ⟨c, i, none⟩ x).setCell ⟨c, j, none⟩ y).setCell ⟨c, k, none⟩ z) base ca cc ra t A C := by
  refine h.keepS (P := fun b => b = c) ?_ (fun b hb e => by have := h.lo b hb; omega)
  exact (((KeepS.refl (fun b => b = c) w).setCell (p := ⟨c, i, none⟩) rfl x).setCell (p := ⟨c, j, none⟩) rfl y).setCell (p := ⟨c, k, none⟩) rfl z
end Go.Proofs.YtjiaciikbnpicaaGreatDoor

/-
  Places put in order one by one, without any program: what is moved towards the front, and when all is in order.
-/
namespace Go.Proofs.YtjiaciikbnpicaaGreatDoor

/-- The first m are in order. -/
def SortedTo (lt : Nat → Nat → Bool) (p : List Nat) (m : Nat) : Prop := ∀ x y, x < y → y < m → lt (p.getD y 0) (p.getD x 0) = false
/-- So are those up to i but for place k, which may be too far behind. -/
def InsAt (lt : Nat → Nat → Bool) (p : List Nat) (i k : Nat) : Prop :=
  (∀ x y, x < y → y ≤ i → x ≠ k → y ≠ k → lt (p.getD y 0) (p.getD x 0) = false) ∧ (∀ y, k < y → y ≤ i → lt (p.getD y 0) (p.getD k 0) = false)
/-- Who stands where: i at place k, lesser ones up to i, and behind it each one at its own. -/
def PlAt (p : List Nat) (n i k : Nat) : Prop := p.getD k 0 = i ∧ (∀ x, x ≤ i → x ≠ k → p.getD x 0 < i) ∧ (∀ x, i < x → x < n → p.getD x 0 = x)

theorem InsAt.start {lt : Nat → Nat → Bool} {p : List Nat} {i : Nat} (h : SortedTo lt p i) : InsAt lt p i i :=
  ⟨fun x y hxy hy _ hyk => h x y hxy (by omega), fun y h1 h2 => by omega⟩
theorem InsAt.done {lt : Nat → Nat → Bool} {p : List Nat} {i k N : Nat} (S : Strict lt N) (hp : ∀ x ∈ p, x < N) (hi : i < p.length) (hk : k ≤ i) (h : InsAt lt p i k) (hd : k = 0 ∨ lt (p.getD k 0) (p.getD (k - 1) 0) = false) : SortedTo lt p (i + 1) := by
  intro x y hxy hy
  by_cases e1 : x = k
  · subst e1; exact h.2 y hxy (by omega)
  · by_cases e2 : y = k
    · subst e2
      rcases hd with rfl | hd
      · omega
      · by_cases e3 : x = y - 1
        · subst e3; exact hd
        · exact S.neg (mem_lt hp (by omega)) (mem_lt hp (by omega)) hd (h.1 x (y - 1) (by omega) (by omega) (by omega) (by omega))
    · exact h.1 x y hxy (by omega) e1 e2
theorem InsAt.step {lt : Nat → Nat → Bool} {p : List Nat} {i k N : Nat} (S : Strict lt N) (hi : i < p.length) (hk : k ≤ i) (h0 : 0 < k) (h : InsAt lt p i k) (hl : lt (p.getD k 0) (p.getD (k - 1) 0) = true) : InsAt lt (swap 0 p (k - 1) k) i (k - 1) := by
  have h1 : k - 1 < p.length := by omega
  have h2 : k < p.length := by omega
  refine ⟨fun x y hxy hy hx hyk => ?_, fun y hy hyi => ?_⟩
  · rw [swap_getD _ _ _ _ _ h1 h2, swap_getD _ _ _ _ _ h1 h2, if_neg hx, if_neg hyk]
    by_cases e1 : y = k
    · subst e1
      rw [if_pos rfl, if_neg (by omega)]
      exact h.1 x (y - 1) (by omega) (by omega) (by omega) (by omega)
    · rw [if_neg e1]
      by_cases e2 : x = k
      · subst e2
        rw [if_pos rfl]
        exact h.1 (x - 1) y (by omega) (by omega) (by omega) (by omega)
      · rw [if_neg e2]
        exact h.1 x y hxy hy e2 e1
  · rw [swap_getD _ _ _ _ _ h1 h2, swap_getD _ _ _ _ _ h1 h2, if_neg (by omega : ¬ k - 1 = k), if_pos rfl]
    by_cases e1 : y = k
    · subst e1
      rw [if_pos rfl]
      exact S.asym hl
    · rw [if_neg e1, if_neg (by omega)]
      exact h.2 y (by omega) hyi
theorem PlAt.step {p : List Nat} {n i k : Nat} (hi : i < p.length) (hk : k ≤ i) (h0 : 0 < k) (h : PlAt p n i k) : PlAt (swap 0 p (k - 1) k) n i (k - 1) := by
  have h1 : k - 1 < p.length := by omega
  have h2 : k < p.length := by omega
  refine ⟨?_, fun x hx hxk => ?_, fun x hx hxn => ?_⟩
  · rw [swap_getD _ _ _ _ _ h1 h2, if_neg (by omega), if_pos rfl]; exact h.1
  · rw [swap_getD _ _ _ _ _ h1 h2]
    by_cases e1 : x = k
    · rw [if_pos e1]; exact h.2.1 (k - 1) (by omega) (by omega)
    · rw [if_neg e1, if_neg hxk]; exact h.2.1 x hx e1
  · rw [swap_getD _ _ _ _ _ h1 h2, if_neg (by omega), if_neg (by omega)]; exact h.2.2 x hx hxn

/-- The cell of a row by which it is put in order. -/
def keyOf (L : List (List CT3)) (at_ : Int) (i : Nat) : CT3 := (L.getD i []).getD at_.toNat (0, 0, ⟨#[]⟩)
/-- Has each row that place? -/
def Reach (L : List (List CT3)) (at_ : Int) : Prop := ∀ i (h : i < L.length), 0 ≤ at_ ∧ at_ < (L[i].length : Int)
/-- The places of the rows in the order that is asked for; as they are where one has no such place. -/
structure IsOrder (L : List (List CT3)) (at_ : Int) (down : Bool) (p : List Nat) : Prop where
  perm : p.Perm (List.range L.length)
  inOrder : Reach L at_ → p.Pairwise (fun x y => placeLt (keyOf L at_) down y x = false)
  asTheyAre : ¬ Reach L at_ → p = List.range L.length
theorem IsOrder.one {L : List (List CT3)} {at_ : Int} {down : Bool} {p q : List Nat} (h : IsOrder L at_ down p) (k : IsOrder L at_ down q) : p = q := by
  by_cases hr : Reach L at_
  · exact one_order (placeLt_strict (keyOf L at_) down L.length) h.perm k.perm (h.inOrder hr) (k.inOrder hr)
  · rw [h.asTheyAre hr, k.asTheyAre hr]

/-- The rows at these places. -/
def rowsOf (L : List (List CT3)) (p : List Nat) : List (List CT3) := p.map fun i => L.getD i []
end Go.Proofs.YtjiaciikbnpicaaGreatDoor

/-
  The contract of the model's Sorted: rows in new memory, in the order of their places that is asked for.
-/
namespace Go.Proofs.YtjiaciikbnpicaaGreatDoor
open Go.ChangeShapes Go.WideShapes Go.ChangeAt Go.RowKit
attribute [local go_sem ↓] Go.wp_at_zero Go.wp_at_succ

/-- Where one comes from when two change places. -/
def sw (i j k : Nat) : Nat := if k = j then i else if k = i then j else k
theorem sw_lt {i j k n : Nat} (hi : i < n) (hj : j < n) (hk : k < n) : sw i j k < n := by unfold sw; split <;> (try split) <;> omega
theorem sw_inj {i j a b : Nat} (h : sw i j a = sw i j b) : a = b := by
  unfold sw at h
  split at h <;> split at h <;> (try split at h) <;> (try split at h) <;> omega
theorem swap_sw {α : Type} (d : α) (s : List α) (i j k : Nat) (hi : i < s.length) (hj : j < s.length) : (swap d s i j).getD k d = s.getD (sw i j k) d := by
  rw [swap_getD _ _ _ _ _ hi hj]; unfold sw
  split
  · rfl
  · split <;> rfl

/-- Two heads change places. -/
theorem OwnRows.swap {w : World} {base g c : Nat} {L : List (List CT)} {G C : Nat → Nat} (h : OwnRows w base (.slice (some ⟨g, 0, none⟩) L.length c) L G C) (i j : Nat) (hi : i < L.length) (hj : j < L.length) (hij : i ≠ j) :
    OwnRows ((w.setCell ⟨g, j, none⟩ (headOf G C L i)).setCell ⟨g, i, none⟩ (headOf G C L j)) base (.slice (some ⟨g, 0, none⟩) L.length c) (swap [] L i j) (fun k => G (sw i j k)) (fun k => C (sw i j k)) := by
  have s1 := h.outer.stored j (headOf G C L i)
  have s2 := s1.1.stored i (headOf G C L j)
  have hh : ∀ k, headOf (fun k => G (sw i j k)) (fun k => C (sw i j k)) (Go.Proofs.YtjiaciikbnpicaaGreatDoor.swap [] L i j) k = headOf G C L (sw i j k) := by
    intro k; simp only [headOf, swap_sw [] L i j k hi hj]
  refine ⟨?_, ?_, ?_⟩
  · rw [swap_length]
    have e : ((List.range L.length).map (headOf (fun k => G (sw i j k)) (fun k => C (sw i j k)) (Go.Proofs.YtjiaciikbnpicaaGreatDoor.swap [] L i j))) = (((List.range L.length).map (headOf G C L)).set j (headOf G C L i)).set i (headOf G C L j) := by
      apply List.ext_getElem
      · simp
      · intro k h1 h2
        have hk : k < L.length := by simpa using h1
        simp only [List.getElem_map, List.getElem_range, List.getElem_set]
        rw [hh]
        unfold sw
        by_cases e1 : k = j
        · subst e1; simp [hij]
        · by_cases e2 : k = i
          · subst e2; simp [e1]
          · simp [e1, e2, Ne.symm e1, Ne.symm e2]
    rw [e]; exact s2.1
  · intro k hk
    rw [swap_length] at hk
    rw [hh, swap_sw [] L i j k hi hj]
    have hin := h.inner (sw i j k) (sw_lt hi hj hk)
    have hne : (headOf G C L (sw i j k)).ownBlock ≠ some g := by
      simp only [headOf, Value.ownBlock]
      intro e
      exact own_other h.outer (h.inner (sw i j k) (sw_lt hi hj hk)) (by decide) (by simp only [Value.ownBlock]; exact e.symm)
    exact (hin.kept s1.2 (.inr hne)).kept s2.2 (.inr hne)
  · intro a b ha hb hab
    rw [swap_length] at ha hb
    exact h.apart _ _ (sw_lt hi hj ha) (sw_lt hi hj hb) (fun e => hab (sw_inj e))

/-- Rows in the order of these places, in memory of their own. -/
def Laid (w : World) (base g c : Nat) (L : List (List CT)) (p : List Nat) : Prop := ∃ G C, OwnRows w base (.slice (some ⟨g, 0, none⟩) L.length c) (rowsOf L p) G C
theorem Laid.below {w w' : World} {base g c : Nat} {L : List (List CT)} {p : List Nat} (h : Laid w base g c L p) (hb : Below w.heap.size w w') : Laid w' base g c L p := by
  obtain ⟨G, C, h⟩ := h
  exact ⟨G, C, h.below hb⟩

end Go.Proofs.YtjiaciikbnpicaaGreatDoor

/-
  The contracts of the program's helpers that take rows over into new memory, and of the question whether each row has a place.
-/
namespace Go.Proofs.YtjiaciikbnpicaaGreatDoor
open Go.ChangeShapes Go.WideShapes Go.ChangeAt Go.RowKit
attribute [local go_sem ↓] Go.wp_at_zero Go.wp_at_succ

theorem infoCellI : (Tryz.prog.info? 114).map (fun i => (i.zero, i.size, i.bytes)) = some (some (.agg #[.int .i64 0, .int .i64 0, .string ⟨#[]⟩]), 3, 32) := by kernel_rfl
theorem infoRowI : (Tryz.prog.info? 112).map (fun i => (i.zero, i.size, i.bytes)) = some (some (.slice none 0 0), 1, 24) := by kernel_rfl

set_option maxRecDepth 100000 in
set_option maxHeartbeats 1000000 in
theorem copied_row (a : Option Addr) (cap : Nat) (l : List CT) (w : World) (hrow : RowAt w a l) (hnil : a = none → cap = 0) (hm : l.length ≤ 1048576) :
    Calls Tryz.prog 169 #[.slice a l.length cap] w fun e w' => ∃ g c, e = .returned (.slice (some ⟨g, 0, none⟩) l.length c) ∧ w.heap.size ≤ g ∧
      w'.ownsRow w.heap.size 114 3 (.slice (some ⟨g, 0, none⟩) l.length c) l.length (flat l) ∧ Below w.heap.size w w' := by
  obtain ⟨i0, hi, hz0, hz1, hz2⟩ := info_parts infoCellI
  have hR : Hid (RowAt w a l) := hrow
  clear hrow
  cases a with
  | none =>
    have hl : l = [] := by
      cases l with
      | nil => rfl
      | cons x l => obtain ⟨b, o, e, _⟩ := hR.out 0 (by simp); cases e
    subst hl
    have hc := hnil rfl
    subst hc
    go_enter Tryz.func169, Tryz.ntmps169
    go_wp2_with (at_make; refine wpList_make_own _ rfl _ _ 112 rfl w.heap.size 114 i0 (.agg #[.int .i64 0, .int .i64 0, .string ⟨#[]⟩]) 3 Tryz.underlying112 hi hz0 hz1 .i64 .i64 _ 0 rfl rfl rfl (by rw [hz2]; omega) (by unfold maxLen; omega) (Nat.le_refl _) ?_)
    intro w1 hown hgrow
    have hx : Below w.heap.size w w1 := (Below.refl _ _).grown hgrow (Nat.le_refl _) (by intro k h; cases h)
    have hO : Hid (w1.ownsRow w.heap.size 114 3 (.slice (some ⟨w.heap.size, 0, none⟩) 0 0) 0 []) := hown
    clear hown
    go_wp2_with (at_builtin; refine wpList_append_own_none rfl _ _ 112 rfl w.heap.size 114 i0 3 Tryz.underlying112 hi (.slice (some ⟨w.heap.size, 0, none⟩) 0 0) 0 [] rfl hO.out rfl ?_)
    go_wp2
    go_ret
    exact ⟨w.heap.size, 0, rfl, Nat.le_refl _, hO.out, hx⟩
  | some ad =>
    go_enter Tryz.func169, Tryz.ntmps169
    go_wp2_with (at_make; refine wpList_make_own _ rfl _ _ 112 rfl w.heap.size 114 i0 (.agg #[.int .i64 0, .int .i64 0, .string ⟨#[]⟩]) 3 Tryz.underlying112 hi hz0 hz1 .i64 .i64 _ l.length rfl rfl rfl (by rw [hz2]; omega) (by unfold maxLen; omega) (Nat.le_refl _) ?_)
    intro w1 hown hgrow
    have hb0 : Below w.heap.size w w1 := (Below.refl _ _).grown hgrow (Nat.le_refl _) (by intro k h; cases h)
    have hO : Hid (w1.ownsRow w.heap.size 114 3 (.slice (some ⟨w.heap.size, 0, none⟩) 0 l.length) 0 []) := hown
    clear hown hgrow
    go_wp2_with (at_builtin; refine wpList_append_own _ rfl _ _ 112 rfl w.heap.size 114 i0 (.agg #[.int .i64 0, .int .i64 0, .string ⟨#[]⟩]) 3 32 Tryz.underlying112 hi hz0 hz1 hz2 rfl (by decide) (.slice (some ⟨w.heap.size, 0, none⟩) 0 l.length) 0 [] rfl hO.out ad l.length cap (flat l) rfl (flat_length l) ?c1 (flat_one l) ?c3 ?c4 ?c5 ?_)
    case c1 => intro j u hj; exact flat_cells (hR.out.below hb0) j u hj
    case c3 => unfold maxLen; omega
    case c4 => omega
    case c5 => exact hb0.size
    intro v' w2 hown hgrow hnn
    have hx : Below w.heap.size w w2 := hb0.grown hgrow hb0.size (by intro k hk; simp [Value.ownBlock] at hk; omega)
    rcases hown.2 with ⟨h', _⟩ | ⟨g, c, cur, h', hbg, hr⟩
    · exact absurd h' hnn
    · subst h'
      go_wp2
      go_ret
      exact ⟨g, c, rfl, hbg, hown, hx⟩

set_option maxRecDepth 100000 in
set_option maxHeartbeats 2000000 in
theorem copied_rows (a : Option Addr) (cap : Nat) (L : List (List CT)) (w : World) (hrow : RowsAt w a L) (hm : L.length ≤ 1048576) (hms : ∀ i (h : i < L.length), L[i].length ≤ 1048576) :
    Calls Tryz.prog 155 #[.slice a L.length cap] w fun e w' => ∃ v G C, e = .returned v ∧ OwnRows w' w.heap.size v L G C ∧ Below w.heap.size w w' ∧ v ≠ .slice none 0 0 := by
  obtain ⟨i0, hi, hz0, hz1, hz2⟩ := info_parts infoRowI
  have hR : Hid (RowsAt w a L) := hrow
  have hMS : Hid (∀ i (h : i < L.length), L[i].length ≤ 1048576) := hms
  clear hrow hms
  go_enter Tryz.func155, Tryz.ntmps155
  go_wp2_with (at_make; refine wpList_make_own _ rfl _ _ 38 rfl w.heap.size 112 i0 (.slice none 0 0) 1 Tryz.underlying38 hi hz0 hz1 .i64 .i64 _ L.length rfl rfl rfl (by rw [hz2]; omega) (by unfold maxLen; omega) (Nat.le_refl _) ?_)
  intro w0 hown0 hgrow0
  have hb0 : Below w.heap.size w w0 := (Below.refl _ _).grown hgrow0 (Nat.le_refl _) (by intro k h; cases h)
  have own0 : Hid (∃ G C, OwnRows w0 w.heap.size (.slice (some ⟨w.heap.size, 0, none⟩) 0 L.length) (L.take 0) G C) := by
    refine ⟨fun _ => 0, fun _ => 0, hown0, ?_, ?_⟩
    · intro i hi; simp at hi
    · intro i j hi; simp at hi
  clear hown0 hgrow0
  go_wp2
  go_loopw [3, 11] (fun v i wr => ∃ m : Nat, m ≤ L.length ∧ i = .int .i64 m ∧ Hid (∃ G C, OwnRows wr w.heap.size v (L.take m) G C) ∧ Below w.heap.size w wr ∧ v ≠ .slice none 0 0)
    (fun _ i _ => L.length - (intOf i).toNat)
  case atStart => exact ⟨0, Nat.zero_le _, rfl, own0, hb0, by simp⟩
  case round =>
    obtain ⟨m, hmL, rfl, hO, hb, hvn⟩ := hrel
    by_cases hlt : m < L.length
    · obtain ⟨b, o, ai, ci, ha, hbw, c0, hra, _, _, hnil⟩ := hR.out.below hb m hlt
      have hi0 : (0 : Int) ≤ (m : Int) := by omega
      have hi1 : (m : Int) < (L.length : Int) := by omega
      have hRA : Hid (RowAt wr ai L[m]) := hra
      have hml := hMS.out m hlt
      have htk := List.take_succ_eq_append_getElem hlt
      clear hra
      generalize L[m] = x at c0 hRA hml htk
      subst ha
      obtain ⟨G, C, O⟩ := hO.out
      have hlen : (L.take m).length = m := by rw [List.length_take]; omega
      have hOO : Hid (OwnRows wr w.heap.size _ (L.take m) G C) := O
      clear O hO
      go_wp2_with fail
      refine (copied_row _ _ _ _ hRA.out hnil hml).mono ?_
      rintro e w1 ⟨g, c, rfl, hg, own, hb1⟩
      have O1 := hOO.out.below hb1
      have hx := chain hb hb1
      go_wp2_with (at_builtin; refine wpList_append_own _ rfl _ _ 38 rfl w.heap.size 112 i0 (.slice none 0 0) 1 24 Tryz.underlying38 hi hz0 hz1 hz2 rfl (by decide) _ _ _ rfl (O1.outer.alloc _) ⟨w1.heap.size, 0, none⟩ 1 1 [.slice (some ⟨g, 0, none⟩) x.length c] rfl rfl ?c1 ?c2 ?c3 ?c4 ?c5 ?_)
      case c1 =>
        intro j u hj
        match j, hj with
        | 0, hj => simp at hj; subst hj; simp [Addr.add]
      case c2 => intro u hu; simp at hu; subst hu; rfl
      case c3 => rw [hlen]; unfold maxLen; omega
      case c4 => rw [hlen]; omega
      case c5 => have := hx.size; simp; omega
      intro v' w2 own2 hgrow hnn
      have S := hOO.out.step hb1 hg (own_base own hb.size) (by rw [hlen]; exact own2) hgrow
      rw [← htk] at S
      have hx2 : Below w.heap.size w w2 := by
        refine (hx.alloc hx.size _).grown hgrow (by have := hx.size; simp; omega) ?_
        intro k hk
        rcases O1.outer.2 with ⟨h, _⟩ | ⟨g', c', cur, h, hbg, _⟩
        · rw [h] at hk; simp [Value.ownBlock] at hk
        · rw [h] at hk; simp [Value.ownBlock] at hk; omega
      have hvn2 : v' ≠ .slice none 0 0 := by first | exact hnn | exact fun e => hvn (hnn.1 e).1
      have SS : Hid (∃ G C, OwnRows w2 w.heap.size v' (L.take (m + 1)) G C) := S
      clear S own2 hgrow hnn own O1 hOO
      go_wp2
      go_roundw
      case rel => exact ⟨m + 1, by omega, by go_num, SS, hx2, hvn2⟩
      case measure => simp [intOf]; omega
    · have hkl : m = L.length := by omega
      subst hkl
      rw [List.take_length] at hO
      go_wp2
      go_ret
      obtain ⟨G, C, O⟩ := hO.out
      exact ⟨_, G, C, rfl, O, hb, hvn⟩

end Go.Proofs.YtjiaciikbnpicaaGreatDoor
