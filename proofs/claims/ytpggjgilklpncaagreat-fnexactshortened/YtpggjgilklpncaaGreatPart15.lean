/-
  A part of the proof: TabsOut, TabsOwn.
-/
import Derived.Test.YtpggjgilklpncaaGreatPart14
import Derived.Test.YtpggjgilklpncaaGreatPart13
import Derived.Maps.AppendAt

/-
  Lists of tables in memory of their own: no two lists of them share any; taken over so by the law's helper; marked, and asked whether the marks are still there.
-/
namespace Go.Proofs.YtpggjgilklpncaaGreat
open Go.ChangeShapes Go.WideShapes Go.ChangeAt Go.RowKit
attribute [local go_sem ↓] Go.wp_at_zero Go.wp_at_succ
attribute [local simp] World.cell?_alloc_past World.cell?_alloc_at World.frozen?_alloc_at cell_far cell_off cell_here World.frozen?_alloc_past

/-- Where the lists of a table lie. -/
structure TAd where
  ca : Option Addr
  cc : Nat
  ra : Option Addr
  cr : Nat
  A : Nat → Option Addr
  C : Nat → Nat
def TAd.blks (q : TAd) (t : TB) (b : Nat) : Prop := tabBlks q.ca q.ra t q.A b
def OutT (w : World) (base : Nat) (q : TAd) (t : TB) : Prop := OutTab w base q.ca q.cc q.ra t q.A q.C
/-- The heads of the tables, up to the m-th. -/
def HeadsT (w : World) (a : Option Addr) (T : List TB) (Q : Nat → TAd) (m : Nat) : Prop :=
  ∀ i (h : i < T.length), i < m → ∃ g o, a = some ⟨g, o, none⟩ ∧ g < w.heap.size ∧ w.cell? ⟨g, o + i * 3, none⟩ = some (.string T[i].1) ∧ w.cell? ⟨g, o + i * 3 + 1, none⟩ = some (.slice (Q i).ca T[i].2.1.length (Q i).cc) ∧ w.cell? ⟨g, o + i * 3 + 2, none⟩ = some (.slice (Q i).ra T[i].2.2.length (Q i).cr) ∧ w.frozen? ⟨g, o + i * 3, none⟩ = false
theorem HeadsT.keepS {P : Nat → Prop} {w w' : World} {a : Option Addr} {T : List TB} {Q : Nat → TAd} {m : Nat} (h : HeadsT w a T Q m) (hk : KeepS P w w') (hP : ∀ g o, 0 < m → a = some ⟨g, o, none⟩ → ¬ P g) : HeadsT w' a T Q m := by
  intro i hi hm
  obtain ⟨g, o, ha, hlt, c0, c1, c2, f0⟩ := h i hi hm
  have := hP g o (by omega) ha
  exact ⟨g, o, ha, Nat.lt_of_lt_of_le hlt hk.size, by rw [hk.cell hlt this]; exact c0, by rw [hk.cell hlt this]; exact c1, by rw [hk.cell hlt this]; exact c2, by rw [hk.frozen hlt this]; exact f0⟩
/-- The tables up to the m-th lie in memory of their own, each apart from all others and from the heads. -/
structure OutU (w : World) (base : Nat) (a : Option Addr) (T : List TB) (Q : Nat → TAd) (m : Nat) : Prop where
  heads : HeadsT w a T Q m
  tabs : ∀ i (_ : i < T.length), i < m → OutT w base (Q i) T[i]
  apart : ∀ i j (_ : i < T.length) (_ : j < T.length) b, i < m → j < m → i ≠ j → (Q i).blks T[i] b → ¬ (Q j).blks T[j] b
  head : ∀ i (_ : i < T.length) g o, i < m → a = some ⟨g, o, none⟩ → ¬ (Q i).blks T[i] g
  lo : ∀ g o, 0 < m → a = some ⟨g, o, none⟩ → base ≤ g
abbrev OutTs (w : World) (base : Nat) (a : Option Addr) (T : List TB) (Q : Nat → TAd) : Prop := OutU w base a T Q T.length
/-- All their blocks. -/
def tabsBlks (a : Option Addr) (T : List TB) (Q : Nat → TAd) (b : Nat) : Prop := (0 < T.length ∧ ∃ o, a = some ⟨b, o, none⟩) ∨ ∃ i, ∃ h : i < T.length, (Q i).blks T[i] b
theorem OutU.lies {w : World} {base : Nat} {a : Option Addr} {T : List TB} {Q : Nat → TAd} (h : OutTs w base a T Q) : TabsAt w a T := by
  intro i hi
  obtain ⟨g, o, ha, hlt, c0, c1, c2, _⟩ := h.heads i hi hi
  exact ⟨g, o, _, _, _, _, ha, hlt, c0, c1, c2, (h.tabs i hi hi).tab⟩
theorem OutU.keepS {P : Nat → Prop} {w w' : World} {base : Nat} {a : Option Addr} {T : List TB} {Q : Nat → TAd} {m : Nat} (h : OutU w base a T Q m) (hk : KeepS P w w') (hH : ∀ g o, 0 < m → a = some ⟨g, o, none⟩ → ¬ P g) (hP : ∀ i (hi : i < T.length) b, i < m → (Q i).blks T[i] b → ¬ P b) : OutU w' base a T Q m :=
  ⟨h.heads.keepS hk hH, fun i hi hm => (h.tabs i hi hm).keepS hk (fun b hb => hP i hi b hm hb), h.apart, h.head, h.lo⟩
theorem OutU.below {w w' : World} {base : Nat} {a : Option Addr} {T : List TB} {Q : Nat → TAd} {m : Nat} (h : OutU w base a T Q m) (hb : Below w.heap.size w w') : OutU w' base a T Q m :=
  h.keepS (KeepS.ofBelow (P := fun _ => False) hb) (fun _ _ _ _ h => h) (fun _ _ _ _ _ h => h)
/-- What is written lies below. -/
theorem OutU.keepFar {P : Nat → Prop} {w w' : World} {base : Nat} {a : Option Addr} {T : List TB} {Q : Nat → TAd} {m : Nat} (h : OutU w base a T Q m) (hk : KeepS P w w') (hP : ∀ b, P b → b < base) : OutU w' base a T Q m :=
  h.keepS hk (fun g o h0 e hp => by have := hP g hp; have := h.lo g o h0 e; omega) (fun i hi b hm hb hp => by have := hP b hp; have := (h.tabs i hi hm).lo b hb; omega)
theorem OutU.blks_lo {w : World} {base : Nat} {a : Option Addr} {T : List TB} {Q : Nat → TAd} (h : OutTs w base a T Q) (b : Nat) (hb : tabsBlks a T Q b) : base ≤ b := by
  rcases hb with ⟨h0, o, e⟩ | ⟨i, hi, hb⟩
  · exact h.lo b o h0 e
  · exact (h.tabs i hi hi).lo b hb
theorem OutU.blks_lt {w : World} {base : Nat} {a : Option Addr} {T : List TB} {Q : Nat → TAd} (h : OutTs w base a T Q) (b : Nat) (hb : tabsBlks a T Q b) : b < w.heap.size := by
  rcases hb with ⟨h0, o, e⟩ | ⟨i, hi, hb⟩
  · obtain ⟨g, o', ha, hlt, _⟩ := h.heads 0 h0 h0
    rw [e] at ha; cases ha; exact hlt
  · exact (h.tabs i hi hi).lt b hb
theorem OutT.below {w w' : World} {base : Nat} {q : TAd} {t : TB} (h : OutT w base q t) (hb : Below w.heap.size w w') : OutT w' base q t := OutTab.below h hb
theorem OutT.lower {w : World} {base base' : Nat} {q : TAd} {t : TB} (h : OutT w base q t) (hb : base' ≤ base) : OutT w base' q t :=
  ⟨h.cols, h.fit, h.len, h.cap, h.nilC, h.lenR, h.name, h.fitR, h.lenL, h.nilR, h.free, h.heads, h.un, h.ap, h.colR, h.colH, fun b hb' => Nat.le_trans hb (h.lo b hb')⟩
def setQ (Q : Nat → TAd) (m : Nat) (q : TAd) : Nat → TAd := fun i => if i = m then q else Q i
theorem setQ_at (Q : Nat → TAd) (m : Nat) (q : TAd) : setQ Q m q m = q := if_pos rfl
theorem setQ_old (Q : Nat → TAd) {m i : Nat} (q : TAd) (h : i ≠ m) : setQ Q m q i = Q i := if_neg h
/-- One table more: its lists are newer than all that was there. -/
theorem OutU.snoc {w w' : World} {base : Nat} {a a' : Option Addr} {T : List TB} {Q : Nat → TAd} {m B : Nat} {q : TAd} (h : OutU w base a T Q m) (hm : m < T.length) (hB : w.heap.size ≤ B) (hbase : base ≤ B) (hq : OutT w' B q T[m])
    (hold : ∀ i (hi : i < T.length), i < m → OutT w' base (Q i) T[i]) (hh : HeadsT w' a' T (setQ Q m q) (m + 1)) (hlo : ∀ g o, a' = some ⟨g, o, none⟩ → base ≤ g)
    (hhd : ∀ g o, a' = some ⟨g, o, none⟩ → (∀ i (hi : i < T.length), i < m → ¬ (Q i).blks T[i] g) ∧ ¬ q.blks T[m] g) : OutU w' base a' T (setQ Q m q) (m + 1) := by
  have far : ∀ i (hi : i < T.length) b, i < m → (Q i).blks T[i] b → b < B := fun i hi b him hb => Nat.lt_of_lt_of_le ((h.tabs i hi him).lt b hb) hB
  have near : ∀ b, q.blks T[m] b → B ≤ b := fun b hb => hq.lo b hb
  refine ⟨hh, ?_, ?_, ?_, fun g o _ e => hlo g o e⟩
  · intro i hi hlt
    by_cases e : i = m
    · subst e; rw [setQ_at]; exact hq.lower hbase
    · rw [setQ_old Q q e]; exact hold i hi (by omega)
  · intro i j hi hj b hil hjl hij hbi hbj
    by_cases ei : i = m
    · subst ei
      rw [setQ_at] at hbi
      rw [setQ_old Q q (Ne.symm hij)] at hbj
      have := near b hbi
      have := far j hj b (by omega) hbj
      omega
    · rw [setQ_old Q q ei] at hbi
      by_cases ej : j = m
      · subst ej
        rw [setQ_at] at hbj
        have := near b hbj
        have := far i hi b (by omega) hbi
        omega
      · rw [setQ_old Q q ej] at hbj
        exact h.apart i j hi hj b (by omega) (by omega) hij hbi hbj
  · intro i hi g o hil e
    by_cases ei : i = m
    · subst ei; rw [setQ_at]; exact (hhd g o e).2
    · rw [setQ_old Q q ei]; exact (hhd g o e).1 i hi (by omega)

/-- The first m tables are taken over into block g. -/
structure TakQ (w : World) (g : Nat) (T : List TB) (Q : Nat → TAd) (m : Nat) : Prop where
  lt : g < w.heap.size
  there : ∀ q, q < T.length * 3 → ∃ u, w.cell? ⟨g, q, none⟩ = some u
  free : ∀ q, w.frozen? ⟨g, q, none⟩ = false
  out : OutU w g (some ⟨g, 0, none⟩) T Q m
  above : ∀ i (_ : i < T.length) b, i < m → (Q i).blks T[i] b → g < b
theorem TakQ.below {w w' : World} {g : Nat} {T : List TB} {Q : Nat → TAd} {m : Nat} (h : TakQ w g T Q m) (hb : Below w.heap.size w w') : TakQ w' g T Q m where
  lt := Nat.lt_of_lt_of_le h.lt hb.size
  there q hq := by obtain ⟨u, hu⟩ := h.there q hq; exact ⟨u, by rw [hb.cell (p := ⟨g, q, none⟩) h.lt]; exact hu⟩
  free q := by rw [hb.frozen (p := ⟨g, q, none⟩) h.lt]; exact h.free q
  out := h.out.below hb
  above := h.above
theorem TakQ.step {w wr : World} {g : Nat} {T : List TB} {Q : Nat → TAd} {m : Nat} {q : TAd} (h0 : TakQ wr g T Q m) (hb : Below wr.heap.size wr w) (hm : m < T.length) (t : TB) (ht : T[m] = t) (N : OutT w wr.heap.size q t) :
    TakQ (((w.setCell ⟨g, m * 3, none⟩ (.string t.1)).setCell ⟨g, m * 3 + 1, none⟩ (.slice q.ca t.2.1.length q.cc)).setCell ⟨g, m * 3 + 2, none⟩ (.slice q.ra t.2.2.length q.cr)) g T (setQ Q m q) (m + 1) := by
  subst ht
  have h := h0.below hb
  have hlt := h0.lt
  obtain ⟨u0, e0⟩ := h.there (m * 3) (by omega)
  obtain ⟨u1, e1⟩ := h.there (m * 3 + 1) (by omega)
  obtain ⟨u2, e2⟩ := h.there (m * 3 + 2) (by omega)
  obtain ⟨W, hW⟩ : ∃ W, W = (((w.setCell ⟨g, m * 3, none⟩ (.string T[m].1)).setCell ⟨g, m * 3 + 1, none⟩ (.slice q.ca T[m].2.1.length q.cc)).setCell ⟨g, m * 3 + 2, none⟩ (.slice q.ra T[m].2.2.length q.cr)) := ⟨_, rfl⟩
  have off : ∀ p, p ≠ m * 3 → p ≠ m * 3 + 1 → p ≠ m * 3 + 2 → W.cell? ⟨g, p, none⟩ = w.cell? ⟨g, p, none⟩ := by
    intro p h0 h1 h2
    rw [hW, cell_off _ _ _ _ _ h2, cell_off _ _ _ _ _ h1, cell_off _ _ _ _ _ h0]
  have a0 : W.cell? ⟨g, m * 3, none⟩ = some (.string T[m].1) := by
    rw [hW, cell_off _ _ _ _ _ (by omega), cell_off _ _ _ _ _ (by omega), cell_here _ _ _ _ (by rw [e0]; rfl)]
  have a1 : W.cell? ⟨g, m * 3 + 1, none⟩ = some (.slice q.ca T[m].2.1.length q.cc) := by
    rw [hW, cell_off _ _ _ _ _ (by omega), cell_here _ _ _ _ (by rw [cell_off _ _ _ _ _ (by omega), e1]; rfl)]
  have a2 : W.cell? ⟨g, m * 3 + 2, none⟩ = some (.slice q.ra T[m].2.2.length q.cr) := by
    rw [hW, cell_here _ _ _ _ (by rw [cell_off _ _ _ _ _ (by omega), cell_off _ _ _ _ _ (by omega), e2]; rfl)]
  have fr : ∀ p, W.frozen? ⟨g, p, none⟩ = false := by
    intro p; rw [hW, World.frozen?_setCell, World.frozen?_setCell, World.frozen?_setCell]; exact h.free p
  have K : KeepS (fun b => b = g) w W := by
    rw [hW]
    exact (((KeepS.refl (fun b => b = g) w).setCell (p := ⟨g, m * 3, none⟩) rfl _).setCell (p := ⟨g, m * 3 + 1, none⟩) rfl _).setCell (p := ⟨g, m * 3 + 2, none⟩) rfl _
  rw [← hW]
  clear hW
  have nearG : ∀ b, q.blks T[m] b → g < b := fun b hb => Nat.lt_of_lt_of_le hlt (N.lo b hb)
  have hgW : g < W.heap.size := Nat.lt_of_lt_of_le h.lt K.size
  refine ⟨hgW, ?_, fr, ?_, ?_⟩
  · intro p hp
    by_cases h0 : p = m * 3
    · subst h0; exact ⟨_, a0⟩
    by_cases h1 : p = m * 3 + 1
    · subst h1; exact ⟨_, a1⟩
    by_cases h2 : p = m * 3 + 2
    · subst h2; exact ⟨_, a2⟩
    rw [off p h0 h1 h2]; exact h.there p hp
  · refine OutU.snoc (B := wr.heap.size) h0.out hm (Nat.le_refl _) (by omega) (OutTab.keepS N K (fun b hb e => by have := nearG b hb; omega)) (fun i hi hlt => OutTab.keepS (h.out.tabs i hi hlt) K (fun b hb e => by have := h.above i hi b hlt hb; omega)) ?_ (fun g' o e => by cases e; exact Nat.le_refl _) ?_
    · intro i hi hlt
      refine ⟨g, 0, rfl, hgW, ?_⟩
      rw [Nat.zero_add]
      by_cases e : i = m
      · subst e
        rw [setQ_at]
        exact ⟨a0, a1, a2, fr _⟩
      · obtain ⟨g', o', eg, _, c0, c1, c2, _⟩ := h.out.heads i hi (by omega)
        cases eg
        rw [Nat.zero_add] at c0 c1 c2
        rw [setQ_old Q q e, off _ (by omega) (by omega) (by omega), off _ (by omega) (by omega) (by omega), off _ (by omega) (by omega) (by omega)]
        exact ⟨c0, c1, c2, fr _⟩
    · intro g' o e
      cases e
      exact ⟨fun i hi hlt hb => by have := h.above i hi g hlt hb; omega, fun hb => by have := nearG g hb; omega⟩
  · intro i hi b hlt hb
    by_cases e : i = m
    · subst e; rw [setQ_at] at hb; exact nearG b hb
    · rw [setQ_old Q q e] at hb; exact h.above i hi b (by omega) hb

set_option maxHeartbeats 4000000 in
theorem totabs_out (a : Option Addr) (cap : Nat) (T : List TB) (n : Nat) (hn : T.length = n) (w : World) (hrow : TabsAt w a T) (hm : n ≤ 1048576) (hms : ∀ i (h : i < T.length), T[i].2.1.length ≤ 1048576 ∧ T[i].2.2.length ≤ 1048576 ∧ ∀ j (hj : j < T[i].2.2.length), T[i].2.2[j].length ≤ 1048576) :
    Calls Tryz.prog 6 #[.slice a n cap] w fun e w' => ∃ g Q, e = .returned (.slice (some ⟨g, 0, none⟩) n n) ∧ OutTs w' w.heap.size (some ⟨g, 0, none⟩) T Q ∧ Below w.heap.size w w' := by
  obtain ⟨i0, hi, hz0, hz1, hz2⟩ := info_parts infoT
  have hR : Hid (TabsAt w a T) := hrow
  have hN : Hid (T.length = n) := hn
  have hMS : Hid (∀ i (h : i < T.length), T[i].2.1.length ≤ 1048576 ∧ T[i].2.2.length ≤ 1048576 ∧ ∀ j (hj : j < T[i].2.2.length), T[i].2.2[j].length ≤ 1048576) := hms
  clear hrow hn hms
  go_enter Tryz.func6, Tryz.ntmps6
  go_wp2_with (at_make; refine wpList_make_full _ rfl _ _ 24 rfl w.heap.size 40 i0 (.agg #[.string ⟨#[]⟩, .slice none 0 0, .slice none 0 0]) 3 Tryz.underlying24 hi hz0 hz1 .i64 .i64 _ _ n rfl rfl rfl rfl ?b2 ?b3 (Nat.le_refl _) ?_)
  case b2 => rw [hz2]; omega
  case b3 => unfold maxLen; omega
  intro w1 hown hgrow
  have hb1 : Below w.heap.size w w1 := (Below.refl _ _).grown hgrow (Nat.le_refl _) (by intro k h; cases h)
  generalize (madeCells _ _).toList = z at hown
  have hT : Hid (∃ Q, TakQ w1 w.heap.size T Q 0) := by
    refine ⟨fun _ => ⟨none, 0, none, 0, fun _ => none, fun _ => 0⟩, (hown.lt _ rfl).2, ?_, fun q => hown.frozenAt q, ⟨fun i _ h => by omega, fun i _ h => by omega, fun i j _ _ b h => by omega, fun i _ g o h => by omega, fun g o h => by omega⟩, fun i _ b h => by omega⟩
    intro q hq
    have := hN.out
    exact ⟨_, (hown.cellAt q (by omega)).trans (List.getElem?_eq_getElem (by rw [hown.1]; omega))⟩
  clear hown hgrow
  go_wp2
  go_loopw [4] (fun i wr => ∃ m : Nat, m ≤ n ∧ i = .int .i64 m ∧ Hid (∃ Q, TakQ wr w.heap.size T Q m) ∧ Below w.heap.size w wr)
    (fun i _ => n - (intOf i).toNat)
  case atStart => exact ⟨0, Nat.zero_le _, rfl, hT, hb1⟩
  case round =>
    obtain ⟨m, hmL, rfl, hT1, hb⟩ := hrel
    obtain ⟨Q, hTQ⟩ := hT1.out
    have hT2 : Hid (TakQ wr w.heap.size T Q m) := hTQ
    clear hTQ hT1
    by_cases hlt : m < n
    · have hlt' : Hid (m < T.length) := by have := hN.out; exact show m < T.length by omega
      obtain ⟨b, o, ca, cc, ra, cr, rfl, hbw, c0, c1, c2, ht⟩ := hR.out.below hb m hlt'.out
      have hi0 : (0 : Int) ≤ (m : Int) := by omega
      have hi1 : (m : Int) < (n : Int) := by omega
      have HT : Hid (TabAt wr ca cc ra (T[m]'hlt'.out)) := ht
      have HM : Hid (_ ∧ _ ∧ _) := hMS.out m hlt'.out
      clear ht
      obtain ⟨x, hx⟩ : ∃ x, (T[m]'hlt'.out) = x := ⟨_, rfl⟩
      rw [hx] at c0 c1 c2 HT HM
      have HXE : Hid ((T[m]'hlt'.out) = x) := hx
      clear hx
      obtain ⟨nc, hnc⟩ : ∃ k, x.2.1.length = k := ⟨_, rfl⟩
      obtain ⟨nr, hnr⟩ : ∃ k, x.2.2.length = k := ⟨_, rfl⟩
      rw [hnc] at c1
      rw [hnr] at c2
      have HNC : Hid (x.2.1.length = nc) := hnc
      have HNR : Hid (x.2.2.length = nr) := hnr
      have hbg : w.heap.size < wr.heap.size := hT2.out.lt
      have hFit : Hid (∀ i (hi : i < x.2.2.length), Fit x.2.2[i]) := by
        have h0 : ∀ i (hi : i < x.2.2.length), Fit x.2.2[i] := fun i hi => by
          obtain ⟨_, _, _, _, _, _, _, _, h, _⟩ := HT.out.rows i hi; exact h
        exact h0
      have hLen : Hid (∀ i (hi : i < x.2.2.length), x.2.2[i].length ≤ maxLen) := by
        have h0 : ∀ i (hi : i < x.2.2.length), x.2.2[i].length ≤ maxLen := fun i hi => by
          obtain ⟨_, _, _, _, _, _, _, _, _, h, _⟩ := HT.out.rows i hi; exact h
        exact h0
      clear hnc hnr
      go_wp2_with fail
      refine (totab_laws ca cc ra cr x nc nr HNC.out HNR.out _ HT.out (by have := HM.out.1; rw [HNC.out] at this; exact this) (by have := HM.out.2.1; rw [HNR.out] at this; exact this) HM.out.2.2).mono ?_
      rintro e w2 ⟨g1, g2, rfl, hnew, hb2⟩
      have hx2 := chain hb hb2
      obtain ⟨A, C, hO⟩ := hnew.out HT.out.fit HT.out.name HT.out.len HT.out.lenR hFit.out hLen.out
      have T2 := hT2.out.below hb2
      have hTT := TakQ.step (q := ⟨some ⟨g1, 0, none⟩, x.2.1.length, some ⟨g2, 0, none⟩, x.2.2.length, A, C⟩) hT2.out hb2 hlt'.out x HXE.out hO
      dsimp only at hTT
      rw [HNC.out, HNR.out] at hTT
      have HTT : Hid (∃ Q, TakQ (((w2.setCell ⟨w.heap.size, m * 3, none⟩ (.string x.1)).setCell ⟨w.heap.size, m * 3 + 1, none⟩ (.slice (some ⟨g1, 0, none⟩) nc nc)).setCell ⟨w.heap.size, m * 3 + 2, none⟩ (.slice (some ⟨g2, 0, none⟩) nr nr)) w.heap.size T Q (m + 1)) := ⟨_, hTT⟩
      have hlq := hlt'.out
      obtain ⟨u0, g0⟩ := T2.there (m * 3) (by omega)
      obtain ⟨u1, g1'⟩ := T2.there (m * 3 + 1) (by omega)
      obtain ⟨u2, g2'⟩ := T2.there (m * 3 + 2) (by omega)
      have f0 := T2.free (m * 3)
      have f1 := T2.free (m * 3 + 1)
      have f2 := T2.free (m * 3 + 2)
      clear hTT T2 hb2 hnew hlq hT2 hO
      go_wp2
      go_roundw
      case rel => exact ⟨m + 1, by omega, by go_num, HTT, ((hx2.setCell (Nat.le_refl _) _).setCell (Nat.le_refl _) _).setCell (Nat.le_refl _) _⟩
      case measure => simp [intOf]; omega
    · have hkl : m = n := by omega
      subst hkl
      go_wp2
      go_ret
      exact ⟨_, Q, rfl, by have := hT2.out.out; rw [← hN.out] at this; exact this, hb⟩
end Go.Proofs.YtpggjgilklpncaaGreat

/-
  A list of tables that a call makes, one behind the other: the heads in a row of its own, each table's lists newer than those ahead of it.
-/
namespace Go.Proofs.YtpggjgilklpncaaGreat
open Go.ChangeShapes Go.WideShapes Go.ChangeAt Go.RowKit

def zeroTB : TB := (⟨#[]⟩, [], [])
def headV (t : TB) (q : TAd) : List Value := [.string t.1, .slice q.ca t.2.1.length q.cc, .slice q.ra t.2.2.length q.cr]
/-- The heads of the first k tables, cell by cell. -/
def tabsV (V : List TB) (Q : Nat → TAd) : Nat → List Value
  | 0 => []
  | k + 1 => tabsV V Q k ++ headV (V.getD k zeroTB) (Q k)
theorem tabsV_length (V : List TB) (Q : Nat → TAd) (k : Nat) : (tabsV V Q k).length = k * 3 := by
  induction k with
  | zero => rfl
  | succ k ih => rw [tabsV, List.length_append, ih]; simp [headV]; omega
theorem tabsV_congr {V : List TB} {Q Q' : Nat → TAd} {k : Nat} (h : ∀ i, i < k → Q i = Q' i) : tabsV V Q k = tabsV V Q' k := by
  induction k with
  | zero => rfl
  | succ k ih => rw [tabsV, tabsV, ih (fun i hi => h i (by omega)), h k (by omega)]
theorem getD_tb {V : List TB} {k : Nat} (h : k < V.length) : V.getD k zeroTB = V[k] := by simp [List.getD, List.getElem?_eq_getElem h]
theorem tabsV_at {V : List TB} {Q : Nat → TAd} {k i j : Nat} (hi : i < k) (hj : j < 3) : (tabsV V Q k)[i * 3 + j]? = (headV (V.getD i zeroTB) (Q i))[j]? := by
  induction k with
  | zero => omega
  | succ k ih =>
    rw [tabsV]
    by_cases e : i = k
    · subst e
      rw [List.getElem?_append_right (by rw [tabsV_length]; omega), tabsV_length]
      congr 1
      omega
    · rw [List.getElem?_append_left (by rw [tabsV_length]; omega)]
      exact ih (by omega)
structure OwnTs (w : World) (base : Nat) (v : Value) (V : List TB) (Q : Nat → TAd) (k : Nat) : Prop where
  own : w.ownsRow base 40 3 v k (tabsV V Q k)
  tabs : ∀ i (_ : i < V.length), i < k → OutT w base (Q i) V[i]
  apart : ∀ i j (_ : i < V.length) (_ : j < V.length) b, i < k → j < k → i ≠ j → (Q i).blks V[i] b → ¬ (Q j).blks V[j] b
  head : ∀ g, v.ownBlock = some g → ∀ i (_ : i < V.length), i < k → ¬ (Q i).blks V[i] g
theorem KeepS.grown {w w' : World} {row : Option Nat} (h : w.grownBy w' row) : KeepS (fun b => some b = row) w w' := ⟨h.os, h.tape, h.output, h.size, fun k hk hn => h.block k hk hn⟩
theorem OwnTs.below {w w' : World} {base : Nat} {v : Value} {V : List TB} {Q : Nat → TAd} {k : Nat} (h : OwnTs w base v V Q k) (hb : Below w.heap.size w w') : OwnTs w' base v V Q k :=
  ⟨own_below h.own hb, fun i hi hk => (h.tabs i hi hk).below hb, h.apart, h.head⟩
theorem OwnTs.start {w : World} {base : Nat} {v : Value} {V : List TB} (Q : Nat → TAd) (h : w.ownsRow base 40 3 v 0 []) : OwnTs w base v V Q 0 :=
  ⟨h, fun i _ h => by omega, fun i j _ _ b h => by omega, fun g _ i _ h => by omega⟩
/-- One table more at the end. -/
theorem OwnTs.snoc {wr w1 w3 : World} {base : Nat} {v v' : Value} {V : List TB} {Q : Nat → TAd} {k : Nat} {q : TAd} {ob : Obj} (h : OwnTs wr base v V Q k) (hk : k < V.length) (hbase : base ≤ wr.heap.size) (hb : Below wr.heap.size wr w1) (hq : OutT w1 wr.heap.size q V[k])
    (hown : w3.ownsRow base 40 3 v' (k + 1) (tabsV V Q k ++ headV V[k] q)) (hgrow : (w1.alloc ob).grownBy w3 v.ownBlock) (hloc : v'.ownBlock = v.ownBlock ∨ v'.ownBlock = some (w1.alloc ob).heap.size) : OwnTs w3 base v' V (setQ Q k q) (k + 1) := by
  have hA : Below w1.heap.size w1 (w1.alloc ob) := (Below.refl _ _).alloc (Nat.le_refl _) _
  have far : ∀ i (hi : i < V.length) b, i < k → (Q i).blks V[i] b → b < wr.heap.size := fun i hi b hik hb => (h.tabs i hi hik).lt b hb
  have near : ∀ b, q.blks V[k] b → wr.heap.size ≤ b ∧ b < w1.heap.size := fun b hb => ⟨hq.lo b hb, OutTab.lt hq b hb⟩
  have KG := KeepS.grown hgrow
  have hgl : ∀ g, v.ownBlock = some g → g < wr.heap.size := fun g hg => (h.own.lt g hg).2
  refine ⟨?_, ?_, ?_, ?_⟩
  · rw [show tabsV V (setQ Q k q) (k + 1) = tabsV V Q k ++ headV V[k] q by
      rw [tabsV, setQ_at, getD_tb hk, tabsV_congr (Q' := Q) (fun i hi => setQ_old Q q (by omega))]]
    exact hown
  · intro i hi hlt
    by_cases e : i = k
    · subst e
      rw [setQ_at]
      refine OutTab.keepS ((hq.below hA).lower hbase) KG (fun b hb e => ?_)
      have := (near b hb).1
      have := hgl b e.symm
      omega
    · rw [setQ_old Q q e]
      exact OutTab.keepS (((h.tabs i hi (by omega)).below hb).below hA) KG (fun b hb e => h.head b e.symm i hi (by omega) hb)
  · intro i j hi hj b hil hjl hij hbi hbj
    by_cases ei : i = k
    · subst ei
      rw [setQ_at] at hbi
      rw [setQ_old Q q (Ne.symm hij)] at hbj
      have := (near b hbi).1
      have := far j hj b (by omega) hbj
      omega
    · rw [setQ_old Q q ei] at hbi
      by_cases ej : j = k
      · subst ej
        rw [setQ_at] at hbj
        have := (near b hbj).1
        have := far i hi b (by omega) hbi
        omega
      · rw [setQ_old Q q ej] at hbj
        exact h.apart i j hi hj b (by omega) (by omega) hij hbi hbj
  · intro g hg i hi hlt hbi
    have hsz : (w1.alloc ob).heap.size = w1.heap.size + 1 := by simp
    have hs1 := hb.size
    rcases hloc with e | e
    · rw [e] at hg
      by_cases ei : i = k
      · subst ei
        rw [setQ_at] at hbi
        have := (near g hbi).1
        have := hgl g hg
        omega
      · rw [setQ_old Q q ei] at hbi
        exact h.head g hg i hi (by omega) hbi
    · rw [hg] at e
      injection e with e
      by_cases ei : i = k
      · subst ei
        rw [setQ_at] at hbi
        have := (near g hbi).2
        omega
      · rw [setQ_old Q q ei] at hbi
        have := far i hi g (by omega) hbi
        omega
/-- All of them: a list of tables in memory of its own. -/
theorem OwnTs.out {w : World} {base : Nat} {v : Value} {V : List TB} {Q : Nat → TAd} {n : Nat} (hn : V.length = n) (h : OwnTs w base v V Q n) : ∃ a cap, v = .slice a n cap ∧ OutTs w base a V Q ∧ n ≤ cap := by
  subst hn
  rcases h.own.2 with ⟨e, h0⟩ | ⟨g, cap, cur, e, hbg, hg, hc, _⟩
  · have hV : V = [] := List.eq_nil_of_length_eq_zero h0
    subst hV
    exact ⟨none, 0, e, ⟨fun i hi => by simp at hi, fun i hi => by simp at hi, fun i j hi => by simp at hi, fun i hi => by simp at hi, fun g o h => by simp at h⟩, Nat.le_refl _⟩
  · subst e
    have hgl : g < w.heap.size := (h.own.lt g rfl).2
    have cel : ∀ i (hi : i < V.length) j, j < 3 → w.cell? ⟨g, i * 3 + j, none⟩ = (headV V[i] (Q i))[j]? := by
      intro i hi j hj
      rw [h.own.cellAt _ (by omega), tabsV_at hi hj, getD_tb hi]
    refine ⟨some ⟨g, 0, none⟩, cap, rfl, ⟨?_, h.tabs, h.apart, fun i hi g' o hm e => by cases e; exact h.head g rfl i hi hm, fun g' o _ e => by cases e; exact hbg⟩, hc⟩
    intro i hi _
    refine ⟨g, 0, rfl, hgl, ?_, ?_, ?_, h.own.frozenAt _⟩
    · have := cel i hi 0 (by omega); simpa [headV] using this
    · have := cel i hi 1 (by omega); simpa [headV] using this
    · have := cel i hi 2 (by omega); simpa [headV] using this
end Go.Proofs.YtpggjgilklpncaaGreat
