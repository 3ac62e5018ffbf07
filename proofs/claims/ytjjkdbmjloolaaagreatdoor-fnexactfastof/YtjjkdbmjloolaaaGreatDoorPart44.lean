/-
  A part of the proof: SivOut.
-/
import Derived.Test.YtjjkdbmjloolaaaGreatDoorPart1
import Derived.Test.YtjjkdbmjloolaaaGreatDoorPart33
import Derived.Test.YtjjkdbmjloolaaaGreatDoorPart43
import Derived.Test.YtjjkdbmjloolaaaGreatDoorPart27

namespace Go.Proofs.YtjjkdbmjloolaaaGreatDoor
open Go.ChangeShapes Go.WideShapes Go.ChangeAt Go.RowKit
attribute [local go_sem ↓] Go.wp_at_zero Go.wp_at_succ
attribute [local simp] World.cell?_alloc_past World.cell?_alloc_at World.frozen?_alloc_at cell_far cell_off cell_here World.frozen?_alloc_past
structure VAd where
 na : Option Addr
 nc : Nat
 sa : Option Addr
 sc : Nat
def VAd.blks (q : VAd) (s : SV) (b : Nat) : Prop := inBlk q.na s.names.length b ∨ inBlk q.sa s.sum.length b
structure OutV (w : World) (base : Nat) (q : VAd) (s : SV) : Prop where
 siv : SivAt w q.na q.nc q.sa s
 freeN : FreeS w q.na s.names.length
 freeI : FreeItm w q.sa s.sum.length
 ap : ∀ b, inBlk q.na s.names.length b → ¬ inBlk q.sa s.sum.length b
 lo : ∀ b, q.blks s b → base ≤ b
theorem OutV.lt {w : World} {base : Nat} {q : VAd} {s : SV} (h : OutV w base q s) (b : Nat) (hb : q.blks s b) : b < w.heap.size := by
 rcases hb with ⟨h0, o, e⟩ | ⟨h0, o, e⟩
 · obtain ⟨b', o', e', hlt, _⟩ := h.siv.names 0 h0
  rw [e] at e'; cases e'; exact hlt
 · obtain ⟨b', o', e', hlt, _⟩ := h.siv.sum 0 h0
  rw [e] at e'; cases e'; exact hlt
theorem OutV.keepS {P : Nat → Prop} {w w' : World} {base : Nat} {q : VAd} {s : SV} (h : OutV w base q s) (hk : KeepS P w w') (hP : ∀ b, q.blks s b → ¬ P b) : OutV w' base q s := by
 refine ⟨⟨h.siv.names.keepS hk (fun b hb => hP b (.inl hb)), h.siv.fitN, h.siv.lenN, h.siv.capN, h.siv.nilN, h.siv.sum.keepS hk (fun b hb => hP b (.inr hb)), h.siv.fitI, h.siv.lenI, h.siv.name⟩, ?_, ?_, h.ap, h.lo⟩
 · intro b o e j hj
  have hb : q.blks s b := .inl ⟨by omega, o, e⟩
  rw [hk.frozen (h.lt b hb) (hP b hb)]
  exact h.freeN b o e j hj
 · intro b o e j hj
  have hb : q.blks s b := .inr ⟨by omega, o, e⟩
  rw [hk.frozen (h.lt b hb) (hP b hb)]
  exact h.freeI b o e j hj
theorem OutV.below {w w' : World} {base : Nat} {q : VAd} {s : SV} (h : OutV w base q s) (hb : Below w.heap.size w w') : OutV w' base q s :=
 h.keepS (KeepS.ofBelow (P := fun _ => False) hb) (fun _ _ h => h)
theorem OutV.lower {w : World} {base base' : Nat} {q : VAd} {s : SV} (h : OutV w base q s) (hb : base' ≤ base) : OutV w base' q s :=
 ⟨h.siv, h.freeN, h.freeI, h.ap, fun b hb' => Nat.le_trans hb (h.lo b hb')⟩
def Cells7 (w : World) (g p : Nat) (s : SV) (q : VAd) : Prop :=
 w.cell? ⟨g, p, none⟩ = some (.int .i64 s.kind) ∧ w.cell? ⟨g, p + 1, none⟩ = some (.string s.name) ∧ w.cell? ⟨g, p + 2, none⟩ = some (.slice q.na s.names.length q.nc) ∧ w.cell? ⟨g, p + 3, none⟩ = some (.slice q.sa s.sum.length q.sc) ∧ w.cell? ⟨g, p + 4, none⟩ = some (.bool s.down) ∧ w.cell? ⟨g, p + 5, none⟩ = some (.int .i64 s.count) ∧ w.cell? ⟨g, p + 6, none⟩ = some (.int .i64 s.skip)
theorem Cells7.same {w w' : World} {g p : Nat} {s : SV} {q : VAd} (h : Cells7 w g p s q) (hc : ∀ j, j < 7 → w'.cell? ⟨g, p + j, none⟩ = w.cell? ⟨g, p + j, none⟩) : Cells7 w' g p s q := by
 obtain ⟨h0, h1, h2, h3, h4, h5, h6⟩ := h
 have c0 := hc 0 (by omega)
 rw [Nat.add_zero] at c0
 exact ⟨c0.trans h0, (hc 1 (by omega)).trans h1, (hc 2 (by omega)).trans h2, (hc 3 (by omega)).trans h3, (hc 4 (by omega)).trans h4, (hc 5 (by omega)).trans h5, (hc 6 (by omega)).trans h6⟩
def HeadsV (w : World) (a : Option Addr) (T : List SV) (Q : Nat → VAd) (m : Nat) : Prop :=
 ∀ i (h : i < T.length), i < m → ∃ g o, a = some ⟨g, o, none⟩ ∧ g < w.heap.size ∧ Cells7 w g (o + i * 7) T[i] (Q i) ∧ ∀ j, j < 7 → w.frozen? ⟨g, o + i * 7 + j, none⟩ = false
theorem HeadsV.keepS {P : Nat → Prop} {w w' : World} {a : Option Addr} {T : List SV} {Q : Nat → VAd} {m : Nat} (h : HeadsV w a T Q m) (hk : KeepS P w w') (hP : ∀ g o, 0 < m → a = some ⟨g, o, none⟩ → ¬ P g) : HeadsV w' a T Q m := by
 intro i hi hm
 obtain ⟨g, o, ha, hlt, c, f⟩ := h i hi hm
 have := hP g o (by omega) ha
 exact ⟨g, o, ha, Nat.lt_of_lt_of_le hlt hk.size, c.same (fun j _ => hk.cell hlt this), fun j hj => by rw [hk.frozen hlt this]; exact f j hj⟩
structure OutW (w : World) (base : Nat) (a : Option Addr) (T : List SV) (Q : Nat → VAd) (m : Nat) : Prop where
 heads : HeadsV w a T Q m
 sivs : ∀ i (_ : i < T.length), i < m → OutV w base (Q i) T[i]
 apart : ∀ i j (_ : i < T.length) (_ : j < T.length) b, i < m → j < m → i ≠ j → (Q i).blks T[i] b → ¬ (Q j).blks T[j] b
 head : ∀ i (_ : i < T.length) g o, i < m → a = some ⟨g, o, none⟩ → ¬ (Q i).blks T[i] g
 lo : ∀ g o, 0 < m → a = some ⟨g, o, none⟩ → base ≤ g
abbrev OutVs (w : World) (base : Nat) (a : Option Addr) (T : List SV) (Q : Nat → VAd) : Prop := OutW w base a T Q T.length
def sivsBlks (a : Option Addr) (T : List SV) (Q : Nat → VAd) (b : Nat) : Prop := (0 < T.length ∧ ∃ o, a = some ⟨b, o, none⟩) ∨ ∃ i, ∃ h : i < T.length, (Q i).blks T[i] b
theorem OutW.lies {w : World} {base : Nat} {a : Option Addr} {T : List SV} {Q : Nat → VAd} (h : OutVs w base a T Q) : SivsAt w a T := by
 intro i hi
 obtain ⟨g, o, ha, hlt, c, _⟩ := h.heads i hi hi
 exact ⟨g, o, _, _, _, _, ha, hlt, c, (h.sivs i hi hi).siv⟩
theorem OutW.keepS {P : Nat → Prop} {w w' : World} {base : Nat} {a : Option Addr} {T : List SV} {Q : Nat → VAd} {m : Nat} (h : OutW w base a T Q m) (hk : KeepS P w w') (hH : ∀ g o, 0 < m → a = some ⟨g, o, none⟩ → ¬ P g) (hP : ∀ i (hi : i < T.length) b, i < m → (Q i).blks T[i] b → ¬ P b) : OutW w' base a T Q m :=
 ⟨h.heads.keepS hk hH, fun i hi hm => (h.sivs i hi hm).keepS hk (fun b hb => hP i hi b hm hb), h.apart, h.head, h.lo⟩
theorem OutW.below {w w' : World} {base : Nat} {a : Option Addr} {T : List SV} {Q : Nat → VAd} {m : Nat} (h : OutW w base a T Q m) (hb : Below w.heap.size w w') : OutW w' base a T Q m :=
 h.keepS (KeepS.ofBelow (P := fun _ => False) hb) (fun _ _ _ _ h => h) (fun _ _ _ _ _ h => h)
theorem OutW.keepFar {P : Nat → Prop} {w w' : World} {base : Nat} {a : Option Addr} {T : List SV} {Q : Nat → VAd} {m : Nat} (h : OutW w base a T Q m) (hk : KeepS P w w') (hP : ∀ b, P b → b < base) : OutW w' base a T Q m :=
 h.keepS hk (fun g o h0 e hp => by have := hP g hp; have := h.lo g o h0 e; omega) (fun i hi b hm hb hp => by have := hP b hp; have := (h.sivs i hi hm).lo b hb; omega)
theorem OutW.blks_lo {w : World} {base : Nat} {a : Option Addr} {T : List SV} {Q : Nat → VAd} (h : OutVs w base a T Q) (b : Nat) (hb : sivsBlks a T Q b) : base ≤ b := by
 rcases hb with ⟨h0, o, e⟩ | ⟨i, hi, hb⟩
 · exact h.lo b o h0 e
 · exact (h.sivs i hi hi).lo b hb
theorem OutW.blks_lt {w : World} {base : Nat} {a : Option Addr} {T : List SV} {Q : Nat → VAd} (h : OutVs w base a T Q) (b : Nat) (hb : sivsBlks a T Q b) : b < w.heap.size := by
 rcases hb with ⟨h0, o, e⟩ | ⟨i, hi, hb⟩
 · obtain ⟨g, o', ha, hlt, _⟩ := h.heads 0 h0 h0
  rw [e] at ha; cases ha; exact hlt
 · exact (h.sivs i hi hi).lt b hb
def setV (Q : Nat → VAd) (m : Nat) (q : VAd) : Nat → VAd := fun i => if i = m then q else Q i
theorem setV_at (Q : Nat → VAd) (m : Nat) (q : VAd) : setV Q m q m = q := if_pos rfl
theorem setV_old (Q : Nat → VAd) {m i : Nat} (q : VAd) (h : i ≠ m) : setV Q m q i = Q i := if_neg h
theorem OutW.snoc {w w' : World} {base : Nat} {a a' : Option Addr} {T : List SV} {Q : Nat → VAd} {m B : Nat} {q : VAd} (h : OutW w base a T Q m) (hm : m < T.length) (hB : w.heap.size ≤ B) (hbase : base ≤ B) (hq : OutV w' B q T[m])
  (hold : ∀ i (hi : i < T.length), i < m → OutV w' base (Q i) T[i]) (hh : HeadsV w' a' T (setV Q m q) (m + 1)) (hlo : ∀ g o, a' = some ⟨g, o, none⟩ → base ≤ g)
  (hhd : ∀ g o, a' = some ⟨g, o, none⟩ → (∀ i (hi : i < T.length), i < m → ¬ (Q i).blks T[i] g) ∧ ¬ q.blks T[m] g) : OutW w' base a' T (setV Q m q) (m + 1) := by
 have far : ∀ i (hi : i < T.length) b, i < m → (Q i).blks T[i] b → b < B := fun i hi b him hb => Nat.lt_of_lt_of_le ((h.sivs i hi him).lt b hb) hB
 have near : ∀ b, q.blks T[m] b → B ≤ b := fun b hb => hq.lo b hb
 refine ⟨hh, ?_, ?_, ?_, fun g o _ e => hlo g o e⟩
 · intro i hi hlt
  by_cases e : i = m
  · subst e; rw [setV_at]; exact hq.lower hbase
  · rw [setV_old Q q e]; exact hold i hi (by omega)
 · intro i j hi hj b hil hjl hij hbi hbj
  by_cases ei : i = m
  · subst ei
   rw [setV_at] at hbi
   rw [setV_old Q q (Ne.symm hij)] at hbj
   have := near b hbi
   have := far j hj b (by omega) hbj
   omega
  · rw [setV_old Q q ei] at hbi
   by_cases ej : j = m
   · subst ej
    rw [setV_at] at hbj
    have := near b hbj
    have := far i hi b (by omega) hbi
    omega
   · rw [setV_old Q q ej] at hbj
    exact h.apart i j hi hj b (by omega) (by omega) hij hbi hbj
 · intro i hi g o hil e
  by_cases ei : i = m
  · subst ei; rw [setV_at]; exact (hhd g o e).2
  · rw [setV_old Q q ei]; exact (hhd g o e).1 i hi (by omega)
theorem NewSiv.out {w : World} {base g g2 : Nat} {s : SV} (h : NewSiv w base g g2 s) (hf : FitS s.names) (hn : s.name.size ≤ maxLen) (hc : s.names.length ≤ maxLen) (hi : FitItm s.sum) (hr : s.sum.length ≤ maxLen) :
  OutV w base ⟨some ⟨g, 0, none⟩, s.names.length, some ⟨g2, 0, none⟩, s.sum.length⟩ s := by
 have ha := h.apart
 have hl := h.lo
 refine ⟨h.lies hf hn hc hi hr, ?_, own_freeItm h.sum, ?_, ?_⟩
 · intro b o e j hj
  cases e
  exact h.names.frozenAt _
 · rintro b ⟨_, o, e⟩ ⟨_, o', e'⟩
  cases e; cases e'
  omega
 · rintro b (⟨_, o, e⟩ | ⟨_, o, e⟩) <;> (cases e; omega)
structure TakW (w : World) (g : Nat) (T : List SV) (Q : Nat → VAd) (m : Nat) : Prop where
 lt : g < w.heap.size
 there : ∀ q, q < T.length * 7 → ∃ u, w.cell? ⟨g, q, none⟩ = some u
 free : ∀ q, w.frozen? ⟨g, q, none⟩ = false
 out : OutW w g (some ⟨g, 0, none⟩) T Q m
 above : ∀ i (_ : i < T.length) b, i < m → (Q i).blks T[i] b → g < b
theorem TakW.below {w w' : World} {g : Nat} {T : List SV} {Q : Nat → VAd} {m : Nat} (h : TakW w g T Q m) (hb : Below w.heap.size w w') : TakW w' g T Q m where
 lt := Nat.lt_of_lt_of_le h.lt hb.size
 there q hq := by obtain ⟨u, hu⟩ := h.there q hq; exact ⟨u, by rw [hb.cell (p := ⟨g, q, none⟩) h.lt]; exact hu⟩
 free q := by rw [hb.frozen (p := ⟨g, q, none⟩) h.lt]; exact h.free q
 out := h.out.below hb
 above := h.above
def set7 (w : World) (g p : Nat) (v0 v1 v2 v3 v4 v5 v6 : Value) : World := ((((((w.setCell ⟨g, p, none⟩ v0).setCell ⟨g, p + 1, none⟩ v1).setCell ⟨g, p + 2, none⟩ v2).setCell ⟨g, p + 3, none⟩ v3).setCell ⟨g, p + 4, none⟩ v4).setCell ⟨g, p + 5, none⟩ v5).setCell ⟨g, p + 6, none⟩ v6
theorem set7_keep (w : World) (g p : Nat) (v0 v1 v2 v3 v4 v5 v6 : Value) : KeepS (fun b => b = g) w (set7 w g p v0 v1 v2 v3 v4 v5 v6) :=
 (((((((KeepS.refl (fun b => b = g) w).setCell (p := ⟨g, p, none⟩) rfl _).setCell (p := ⟨g, p + 1, none⟩) rfl _).setCell (p := ⟨g, p + 2, none⟩) rfl _).setCell (p := ⟨g, p + 3, none⟩) rfl _).setCell (p := ⟨g, p + 4, none⟩) rfl _).setCell (p := ⟨g, p + 5, none⟩) rfl _).setCell (p := ⟨g, p + 6, none⟩) rfl _
theorem set7_frozen (w : World) (g p : Nat) (v0 v1 v2 v3 v4 v5 v6 : Value) (r : Addr) : (set7 w g p v0 v1 v2 v3 v4 v5 v6).frozen? r = w.frozen? r := by
 unfold set7
 rw [World.frozen?_setCell, World.frozen?_setCell, World.frozen?_setCell, World.frozen?_setCell, World.frozen?_setCell, World.frozen?_setCell, World.frozen?_setCell]
theorem set7_off (w : World) (g p : Nat) (v0 v1 v2 v3 v4 v5 v6 : Value) (r : Nat) (h : r < p ∨ p + 7 ≤ r) : (set7 w g p v0 v1 v2 v3 v4 v5 v6).cell? ⟨g, r, none⟩ = w.cell? ⟨g, r, none⟩ := by
 unfold set7
 rw [cell_off _ _ _ _ _ (by omega), cell_off _ _ _ _ _ (by omega), cell_off _ _ _ _ _ (by omega), cell_off _ _ _ _ _ (by omega), cell_off _ _ _ _ _ (by omega), cell_off _ _ _ _ _ (by omega), cell_off _ _ _ _ _ (by omega)]
theorem set7_at {w : World} {g p : Nat} (v0 v1 v2 v3 v4 v5 v6 : Value) (h : ∀ j, j < 7 → ∃ u, w.cell? ⟨g, p + j, none⟩ = some u) :
  (set7 w g p v0 v1 v2 v3 v4 v5 v6).cell? ⟨g, p, none⟩ = some v0 ∧ (set7 w g p v0 v1 v2 v3 v4 v5 v6).cell? ⟨g, p + 1, none⟩ = some v1 ∧ (set7 w g p v0 v1 v2 v3 v4 v5 v6).cell? ⟨g, p + 2, none⟩ = some v2 ∧ (set7 w g p v0 v1 v2 v3 v4 v5 v6).cell? ⟨g, p + 3, none⟩ = some v3 ∧ (set7 w g p v0 v1 v2 v3 v4 v5 v6).cell? ⟨g, p + 4, none⟩ = some v4 ∧ (set7 w g p v0 v1 v2 v3 v4 v5 v6).cell? ⟨g, p + 5, none⟩ = some v5 ∧ (set7 w g p v0 v1 v2 v3 v4 v5 v6).cell? ⟨g, p + 6, none⟩ = some v6 := by
 obtain ⟨u0, e0⟩ := h 0 (by omega)
 rw [Nat.add_zero] at e0
 obtain ⟨u1, e1⟩ := h 1 (by omega)
 obtain ⟨u2, e2⟩ := h 2 (by omega)
 obtain ⟨u3, e3⟩ := h 3 (by omega)
 obtain ⟨u4, e4⟩ := h 4 (by omega)
 obtain ⟨u5, e5⟩ := h 5 (by omega)
 obtain ⟨u6, e6⟩ := h 6 (by omega)
 unfold set7
 refine ⟨?_, ?_, ?_, ?_, ?_, ?_, ?_⟩
 · rw [cell_off _ _ _ _ _ (by omega), cell_off _ _ _ _ _ (by omega), cell_off _ _ _ _ _ (by omega), cell_off _ _ _ _ _ (by omega), cell_off _ _ _ _ _ (by omega), cell_off _ _ _ _ _ (by omega), cell_here _ _ _ _ (by rw [e0]; rfl)]
 · rw [cell_off _ _ _ _ _ (by omega), cell_off _ _ _ _ _ (by omega), cell_off _ _ _ _ _ (by omega), cell_off _ _ _ _ _ (by omega), cell_off _ _ _ _ _ (by omega), cell_here _ _ _ _ (by rw [cell_off _ _ _ _ _ (by omega), e1]; rfl)]
 · rw [cell_off _ _ _ _ _ (by omega), cell_off _ _ _ _ _ (by omega), cell_off _ _ _ _ _ (by omega), cell_off _ _ _ _ _ (by omega), cell_here _ _ _ _ (by rw [cell_off _ _ _ _ _ (by omega), cell_off _ _ _ _ _ (by omega), e2]; rfl)]
 · rw [cell_off _ _ _ _ _ (by omega), cell_off _ _ _ _ _ (by omega), cell_off _ _ _ _ _ (by omega), cell_here _ _ _ _ (by rw [cell_off _ _ _ _ _ (by omega), cell_off _ _ _ _ _ (by omega), cell_off _ _ _ _ _ (by omega), e3]; rfl)]
 · rw [cell_off _ _ _ _ _ (by omega), cell_off _ _ _ _ _ (by omega), cell_here _ _ _ _ (by rw [cell_off _ _ _ _ _ (by omega), cell_off _ _ _ _ _ (by omega), cell_off _ _ _ _ _ (by omega), cell_off _ _ _ _ _ (by omega), e4]; rfl)]
 · rw [cell_off _ _ _ _ _ (by omega), cell_here _ _ _ _ (by rw [cell_off _ _ _ _ _ (by omega), cell_off _ _ _ _ _ (by omega), cell_off _ _ _ _ _ (by omega), cell_off _ _ _ _ _ (by omega), cell_off _ _ _ _ _ (by omega), e5]; rfl)]
 · rw [cell_here _ _ _ _ (by rw [cell_off _ _ _ _ _ (by omega), cell_off _ _ _ _ _ (by omega), cell_off _ _ _ _ _ (by omega), cell_off _ _ _ _ _ (by omega), cell_off _ _ _ _ _ (by omega), cell_off _ _ _ _ _ (by omega), e6]; rfl)]
theorem TakW.step {w wr : World} {g : Nat} {T : List SV} {Q : Nat → VAd} {m : Nat} {q : VAd} (h0 : TakW wr g T Q m) (hb : Below wr.heap.size wr w) (hm : m < T.length) (t : SV) (ht : T[m] = t) (N : OutV w wr.heap.size q t) :
  TakW (set7 w g (m * 7) (.int .i64 t.kind) (.string t.name) (.slice q.na t.names.length q.nc) (.slice q.sa t.sum.length q.sc) (.bool t.down) (.int .i64 t.count) (.int .i64 t.skip)) g T (setV Q m q) (m + 1) := by
 subst ht
 have h := h0.below hb
 have hlt := h0.lt
 have hat := set7_at (w := w) (g := g) (p := m * 7) (.int .i64 T[m].kind) (.string T[m].name) (.slice q.na T[m].names.length q.nc) (.slice q.sa T[m].sum.length q.sc) (.bool T[m].down) (.int .i64 T[m].count) (.int .i64 T[m].skip) (fun j hj => h.there _ (by omega))
 have hoff := set7_off w g (m * 7) (.int .i64 T[m].kind) (.string T[m].name) (.slice q.na T[m].names.length q.nc) (.slice q.sa T[m].sum.length q.sc) (.bool T[m].down) (.int .i64 T[m].count) (.int .i64 T[m].skip)
 have hfr := set7_frozen w g (m * 7) (.int .i64 T[m].kind) (.string T[m].name) (.slice q.na T[m].names.length q.nc) (.slice q.sa T[m].sum.length q.sc) (.bool T[m].down) (.int .i64 T[m].count) (.int .i64 T[m].skip)
 have K := set7_keep w g (m * 7) (.int .i64 T[m].kind) (.string T[m].name) (.slice q.na T[m].names.length q.nc) (.slice q.sa T[m].sum.length q.sc) (.bool T[m].down) (.int .i64 T[m].count) (.int .i64 T[m].skip)
 generalize set7 w g (m * 7) (.int .i64 T[m].kind) (.string T[m].name) (.slice q.na T[m].names.length q.nc) (.slice q.sa T[m].sum.length q.sc) (.bool T[m].down) (.int .i64 T[m].count) (.int .i64 T[m].skip) = W at hat hoff hfr K ⊢
 have nearG : ∀ b, q.blks T[m] b → g < b := fun b hb => Nat.lt_of_lt_of_le hlt (N.lo b hb)
 have hgW : g < W.heap.size := Nat.lt_of_lt_of_le h.lt K.size
 have fr : ∀ p, W.frozen? ⟨g, p, none⟩ = false := fun p => (hfr _).trans (h.free p)
 refine ⟨hgW, ?_, fr, ?_, ?_⟩
 · intro p hp
  by_cases hr : p < m * 7 ∨ m * 7 + 7 ≤ p
  · rw [hoff p hr]; exact h.there p hp
  · have : p = m * 7 ∨ p = m * 7 + 1 ∨ p = m * 7 + 2 ∨ p = m * 7 + 3 ∨ p = m * 7 + 4 ∨ p = m * 7 + 5 ∨ p = m * 7 + 6 := by omega
   obtain ⟨a0, a1, a2, a3, a4, a5, a6⟩ := hat
   rcases this with rfl | rfl | rfl | rfl | rfl | rfl | rfl
   · exact ⟨_, a0⟩
   · exact ⟨_, a1⟩
   · exact ⟨_, a2⟩
   · exact ⟨_, a3⟩
   · exact ⟨_, a4⟩
   · exact ⟨_, a5⟩
   · exact ⟨_, a6⟩
 · refine OutW.snoc (B := wr.heap.size) h0.out hm (Nat.le_refl _) (by omega) (N.keepS K (fun b hb e => by have := nearG b hb; omega)) (fun i hi hlt => (h.out.sivs i hi hlt).keepS K (fun b hb e => by have := h.above i hi b hlt hb; omega)) ?_ (fun g' o e => by cases e; exact Nat.le_refl _) ?_
  · intro i hi hlt
   refine ⟨g, 0, rfl, hgW, ?_, fun j _ => fr _⟩
   rw [Nat.zero_add]
   by_cases e : i = m
   · subst e
    rw [setV_at]
    exact hat
   · obtain ⟨g', o', eg, _, c, _⟩ := h.out.heads i hi (by omega)
    cases eg
    rw [Nat.zero_add] at c
    rw [setV_old Q q e]
    exact c.same (fun j hj => hoff _ (by omega))
  · intro g' o e
   cases e
   exact ⟨fun i hi hlt hb => by have := h.above i hi g hlt hb; omega, fun hb => by have := nearG g hb; omega⟩
 · intro i hi b hlt hb
  by_cases e : i = m
  · subst e; rw [setV_at] at hb; exact nearG b hb
  · rw [setV_old Q q e] at hb; exact h.above i hi b (by omega) hb
set_option maxRecDepth 100000 in
set_option maxHeartbeats 4000000 in
theorem tosivs_out (a : Option Addr) (cap : Nat) (T : List SV) (n : Nat) (hn : T.length = n) (w : World) (hrow : SivsAt w a T) (hm : n ≤ 1048576) (hms : ∀ i (h : i < T.length), MildV T[i]) :
  Calls Tryz.prog 8 #[.slice a n cap] w fun e w' => ∃ g Q, e = .returned (.slice (some ⟨g, 0, none⟩) n n) ∧ OutVs w' w.heap.size (some ⟨g, 0, none⟩) T Q ∧ Below w.heap.size w w' := by
 obtain ⟨i0, hi, hz0, hz1, hz2⟩ := info_parts infoV
 have hR := hid hrow
 have hN := hid hn
 have hMS := hid hms
 clear hrow hn hms
 go_enter Tryz.func8, Tryz.ntmps8
 go_wp2_with (at_make; refine wpList_make_full _ rfl _ _ 33 rfl w.heap.size 55 i0 (.agg #[.int .i64 0, .string ⟨#[]⟩, .slice none 0 0, .slice none 0 0, .bool false, .int .i64 0, .int .i64 0]) 7 Tryz.underlying33 hi hz0 hz1 .i64 .i64 _ _ n rfl rfl rfl rfl ?b2 ?b3 (Nat.le_refl _) ?_)
 case b2 => rw [hz2]; omega
 case b3 => unfold maxLen; omega
 intro w1 hown hgrow
 have hb1 : Below w.heap.size w w1 := (Below.refl _ _).grown hgrow (Nat.le_refl _) (by intro k h; cases h)
 generalize (madeCells _ _).toList = z at hown
 have hT : Hid (∃ Q, TakW w1 w.heap.size T Q 0) := by
  refine ⟨fun _ => ⟨none, 0, none, 0⟩, (hown.lt _ rfl).2, ?_, fun q => hown.frozenAt q, ⟨fun i _ h => by omega, fun i _ h => by omega, fun i j _ _ b h => by omega, fun i _ g o h => by omega, fun g o h => by omega⟩, fun i _ b h => by omega⟩
  intro q hq
  have := hN.out
  exact ⟨_, (hown.cellAt q (by omega)).trans (List.getElem?_eq_getElem (by rw [hown.1]; omega))⟩
 clear hown hgrow
 go_wp2
 go_loopw [4] (fun i wr => ∃ m : Nat, m ≤ n ∧ i = .int .i64 m ∧ Hid (∃ Q, TakW wr w.heap.size T Q m) ∧ Below w.heap.size w wr)
  (fun i _ => n - (intOf i).toNat)
 case atStart => exact ⟨0, Nat.zero_le _, rfl, hT, hb1⟩
 case round =>
  obtain ⟨m, hmL, rfl, hT1, hb⟩ := hrel
  obtain ⟨Q, hTQ⟩ := hT1.out
  have hT2 := hid hTQ
  clear hTQ hT1
  by_cases hlt : m < n
  · have hlt' : Hid (m < T.length) := by have := hN.out; exact show m < T.length by omega
   obtain ⟨b, o, na, nc, sa, sc, rfl, hbw, ⟨c0, c1, c2, c3, c4, c5, c6⟩, ht⟩ := hR.out.below hb m hlt'.out
   have hi0 : (0 : Int) ≤ (m : Int) := by omega
   have hi1 : (m : Int) < (n : Int) := by omega
   have HT := hid ht
   have HM : Hid (MildV (T[m]'hlt'.out)) := hMS.out m hlt'.out
   clear ht
   obtain ⟨x, hx⟩ : ∃ x, (T[m]'hlt'.out) = x := ⟨_, rfl⟩
   rw [hx] at c0 c1 c2 c3 c4 c5 c6 HT HM
   have HXE := hid hx
   clear hx
   obtain ⟨nn, hnn⟩ : ∃ k, x.names.length = k := ⟨_, rfl⟩
   obtain ⟨sn, hsn⟩ : ∃ k, x.sum.length = k := ⟨_, rfl⟩
   rw [hnn] at c2
   rw [hsn] at c3
   have HNC := hid hnn
   have HNR := hid hsn
   have hbg : w.heap.size < wr.heap.size := hT2.out.lt
   clear hnn hsn
   go_wp2_with fail
   refine (tosiv_laws na nc sa sc x nn sn HNC.out HNR.out _ HT.out (by have := HM.out.2.1; rw [HNC.out] at this; exact this) (by have := HM.out.2.2.2.1; rw [HNR.out] at this; exact this)).mono ?_
   rintro e w2 ⟨g1, g2, rfl, hnew, hb2⟩
   have hx2 := chain hb hb2
   have T2 := hT2.out.below hb2
   have hTT := TakW.step (q := ⟨some ⟨g1, 0, none⟩, x.names.length, some ⟨g2, 0, none⟩, x.sum.length⟩) hT2.out hb2 hlt'.out x HXE.out (hnew.out HT.out.fitN HT.out.name HT.out.lenN HT.out.fitI HT.out.lenI)
   dsimp only at hTT
   rw [HNC.out, HNR.out] at hTT
   have HTT : Hid (∃ Q, TakW (((((((w2.setCell ⟨w.heap.size, m * 7, none⟩ (.int .i64 x.kind)).setCell ⟨w.heap.size, m * 7 + 1, none⟩ (.string x.name)).setCell ⟨w.heap.size, m * 7 + 2, none⟩ (.slice (some ⟨g1, 0, none⟩) nn nn)).setCell ⟨w.heap.size, m * 7 + 3, none⟩ (.slice (some ⟨g2, 0, none⟩) sn sn)).setCell ⟨w.heap.size, m * 7 + 4, none⟩ (.bool x.down)).setCell ⟨w.heap.size, m * 7 + 5, none⟩ (.int .i64 x.count)).setCell ⟨w.heap.size, m * 7 + 6, none⟩ (.int .i64 x.skip)) w.heap.size T Q (m + 1)) := ⟨_, hTT⟩
   have hlq := hlt'.out
   obtain ⟨u0, y0⟩ := T2.there (m * 7) (by omega)
   have f0 := T2.free (m * 7)
   obtain ⟨u1, y1⟩ := T2.there (m * 7 + 1) (by omega)
   have f1 := T2.free (m * 7 + 1)
   obtain ⟨u2, y2⟩ := T2.there (m * 7 + 2) (by omega)
   have f2 := T2.free (m * 7 + 2)
   obtain ⟨u3, y3⟩ := T2.there (m * 7 + 3) (by omega)
   have f3 := T2.free (m * 7 + 3)
   obtain ⟨u4, y4⟩ := T2.there (m * 7 + 4) (by omega)
   have f4 := T2.free (m * 7 + 4)
   obtain ⟨u5, y5⟩ := T2.there (m * 7 + 5) (by omega)
   have f5 := T2.free (m * 7 + 5)
   obtain ⟨u6, y6⟩ := T2.there (m * 7 + 6) (by omega)
   have f6 := T2.free (m * 7 + 6)
   clear hTT T2 hb2 hnew hlq hT2 HM HT HXE HNC HNR
   go_wp2
   go_roundw
   case rel => exact ⟨m + 1, by omega, by go_num, HTT, (((((((hx2.setCell (Nat.le_refl _) _).setCell (Nat.le_refl _) _).setCell (Nat.le_refl _) _).setCell (Nat.le_refl _) _).setCell (Nat.le_refl _) _).setCell (Nat.le_refl _) _).setCell (Nat.le_refl _) _)⟩
   case measure => simp [intOf]; omega
  · have hkl : m = n := by omega
   subst hkl
   go_wp2
   go_ret
   exact ⟨_, Q, rfl, by have := hT2.out.out; rw [← hN.out] at this; exact this, hb⟩
end Go.Proofs.YtjjkdbmjloolaaaGreatDoor
