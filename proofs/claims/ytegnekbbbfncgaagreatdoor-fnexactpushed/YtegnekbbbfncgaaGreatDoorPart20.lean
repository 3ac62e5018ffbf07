/-
  A part of the proof: ShI3, ShHas, Box, ShI4, Tabs2, TabsZ, TabsOut, TabsOwn, ShI5.
-/
import Derived.Test.YtegnekbbbfncgaaGreatDoorPart13
import Derived.Test.YtegnekbbbfncgaaGreatDoorPart19
import Derived.Test.YtegnekbbbfncgaaGreatDoorPart12
import Derived.Maps.AppendAt
import Derived.Test.YtegnekbbbfncgaaGreatDoorPart14

/-
  The contract of the program's question whether all tables of a list are right.
-/
namespace Go.Proofs.YtegnekbbbfncgaaGreatDoor
open Go.ChangeShapes Go.WideShapes Go.ChangeAt Go.RowKit
attribute [local go_sem ↓] Go.wp_at_zero Go.wp_at_succ
attribute [local simp] World.cell?_alloc_past World.cell?_alloc_at World.frozen?_alloc_at cell_far cell_off cell_here World.frozen?_alloc_past

end Go.Proofs.YtegnekbbbfncgaaGreatDoor

/-
  The contracts of a shelf that is asked for a name.
-/
namespace Go.Proofs.YtegnekbbbfncgaaGreatDoor
open Go.ChangeShapes Go.WideShapes Go.ChangeAt Go.RowKit Go.Maps
attribute [local go_sem ↓] Go.wp_at_zero Go.wp_at_succ

theorem ShelfAt.len {w : World} {B n : Nat} {ks : List ByteArray} {f : ByteArray → Value} (h : ShelfAt w B n ks f) (ty : TypeId) : (Builtin.len_ #[155] ty #[.map (some B)]).run Tryz.prog w = .ok (.int .i64 ks.length) w := by
  obtain ⟨D, hown, S⟩ := h
  rw [hown.len Tryz.underlying155 ty, size_keys hown S]

end Go.Proofs.YtegnekbbbfncgaaGreatDoor

/-
  Values in a block, a row of its own, a marked table: what stays of them.
-/
namespace Go.Proofs.YtegnekbbbfncgaaGreatDoor
open Go.ChangeShapes Go.WideShapes Go.ChangeAt Go.RowKit

/-- Three values in a block. -/
def Box (w : World) (B : Nat) (x y z : Value) : Prop := w.cell? ⟨B, 0, none⟩ = some x ∧ w.cell? ⟨B, 1, none⟩ = some y ∧ w.cell? ⟨B, 2, none⟩ = some z ∧ B < w.heap.size
theorem Box.below {w w' : World} {B : Nat} {x y z : Value} (h : Box w B x y z) (hb : Below w.heap.size w w') : Box w' B x y z := later3 hb h
theorem Box.keepS {w w' : World} {P : Nat → Prop} {B : Nat} {x y z : Value} (h : Box w B x y z) (hk : KeepS P w w') (hn : ¬ P B) : Box w' B x y z :=
  ⟨by rw [hk.cell h.2.2.2 hn]; exact h.1, by rw [hk.cell h.2.2.2 hn]; exact h.2.1, by rw [hk.cell h.2.2.2 hn]; exact h.2.2.1, Nat.lt_of_lt_of_le h.2.2.2 hk.size⟩
/-- A row of its own in block g. -/
structure OutRow (w : World) (g : Nat) (r : List CT) : Prop where
  at_ : RowAt w (some ⟨g, 0, none⟩) r
  free : Free w (some ⟨g, 0, none⟩) r.length
  lt : g < w.heap.size
theorem OutRow.keepS {w w' : World} {P : Nat → Prop} {g : Nat} {r : List CT} (h : OutRow w g r) (hk : KeepS P w w') (hn : ¬ P g) : OutRow w' g r := by
  have hq : ∀ b, inBlk (some ⟨g, 0, none⟩) r.length b → ¬ P b := by
    rintro b ⟨_, o, e⟩
    cases e; exact hn
  exact ⟨h.at_.keepS hk hq, h.free.keepS h.at_ hk hq, Nat.lt_of_lt_of_le h.lt hk.size⟩
theorem OutRow.below {w w' : World} {g : Nat} {r : List CT} (h : OutRow w g r) (hb : Below w.heap.size w w') : OutRow w' g r :=
  h.keepS (KeepS.ofBelow (P := fun _ => False) hb) (fun h => h)
theorem MarkedT.keepS {w w' : World} {P : Nat → Prop} {ca ra : Option Addr} {t : TB} {A : Nat → Option Addr} {C : Nat → Nat} {k : Nat} (h : MarkedT w ca ra t A C k) (hk : KeepS P w w') (hP : ∀ b, tabBlks ca ra t A b → ¬ P b) : MarkedT w' ca ra t A C k :=
  ⟨h.cols.keepS hk (fun b hb => hP b (.inl (by rw [marksS_length] at hb; exact hb))), h.heads.keepN hk (fun b o h0 e => hP b (.inr (.inr ⟨h0, o, e⟩))), h.rows.keepL hk (fun b hb => hP b (.inr (.inl hb)))⟩

end Go.Proofs.YtegnekbbbfncgaaGreatDoor

/-
  The contract of the program's shelf made of a list of tables.
-/
namespace Go.Proofs.YtegnekbbbfncgaaGreatDoor
open Go.ChangeShapes Go.WideShapes Go.ChangeAt Go.RowKit Go.Maps
attribute [local go_sem ↓] Go.wp_at_zero Go.wp_at_succ
attribute [local simp] World.cell?_alloc_past World.cell?_alloc_at World.frozen?_alloc_at cell_far cell_off cell_here World.frozen?_alloc_past

/-- What the shelf has at the table's name is that table, which lies where it says. -/
def HoldsT (w : World) (f : ByteArray → Value) (t : TB) : Prop :=
  ∃ ca cc ra cr, f t.1 = .agg #[.string t.1, .slice ca t.2.1.length cc, .slice ra t.2.2.length cr] ∧ TabAt w ca cc ra t
theorem HoldsT.below {w w' : World} {f : ByteArray → Value} {t : TB} (h : HoldsT w f t) (hb : Below w.heap.size w w') : HoldsT w' f t := by
  obtain ⟨ca, cc, ra, cr, e, ht⟩ := h
  exact ⟨ca, cc, ra, cr, e, ht.below hb⟩
/-- The shelf has just these tables, which lay there in world w0 already. -/
def ShelfT (w0 w : World) (B n : Nat) (U : List TB) : Prop := (namesT U).Nodup ∧ ∃ f, ShelfAt w B n (namesT U) f ∧ ∀ t, t ∈ U → HoldsT w0 f t
theorem ShelfT.below {w0 w w' : World} {B n : Nat} {U : List TB} (h : ShelfT w0 w B n U) (hb : Below w.heap.size w w') : ShelfT w0 w' B n U := by
  obtain ⟨hn, f, hs, ht⟩ := h
  exact ⟨hn, f, hs.below hb, ht⟩
/-- The k-th step: the shelf has the first k tables' names, and of each name the first table. -/
def ShInv (w0 w : World) (B : Nat) (T : List TB) (k : Nat) : Prop :=
  ∃ f, ShelfAt w B k (ksOf (namesT (T.take k))) f ∧ ∀ j (hj : j < T.length), j < k → (∀ i (hi : i < T.length), i < j → T[i].1 ≠ T[j].1) → HoldsT w0 f T[j]
theorem ShInv.below {w0 w w' : World} {B : Nat} {T : List TB} {k : Nat} (h : ShInv w0 w B T k) (hb : Below w.heap.size w w') : ShInv w0 w' B T k := by
  obtain ⟨f, hs, ht⟩ := h
  exact ⟨f, hs.below hb, ht⟩
theorem namesT_snoc (T : List TB) (t : TB) : namesT (T ++ [t]) = namesT T ++ [t.1] := by simp [namesT]
theorem names_take_mem {T : List TB} {k j : Nat} (hj : j < T.length) (hk : j < k) : T[j].1 ∈ namesT (T.take k) :=
  List.mem_map.2 ⟨T[j], List.mem_iff_getElem.2 ⟨j, by rw [List.length_take]; omega, List.getElem_take⟩, rfl⟩
/-- A name that was not there is put there. -/
theorem ShInv.step {w0 w' : World} {B : Nat} {T : List TB} {k : Nat} {t : TB} {D : DataW Value} {f : ByteArray → Value} {ca : Option Addr} {cc : Nat} {ra : Option Addr} {cr : Nat} (hkl : k < T.length) (ht0 : T[k] = t)
    (hS : Says D (ksOf (namesT (T.take k))) f) (hD : IsMap D) (hH : ∀ j (hj : j < T.length), j < k → (∀ i (hi : i < T.length), i < j → T[i].1 ≠ T[j].1) → HoldsT w0 f T[j]) (ht : TabAt w0 ca cc ra t) (hno : t.1 ∉ ksOf (namesT (T.take k)))
    (hown : w'.ownsMap Tryz.prog 9 tokR B (k + 1) (D.put (keyL t.1) (.held (.agg #[.string t.1, .slice ca t.2.1.length cc, .slice ra t.2.2.length cr])))) : ShInv w0 w' B T (k + 1) := by
  refine ⟨putF f t.1 (.agg #[.string t.1, .slice ca t.2.1.length cc, .slice ra t.2.2.length cr]), ⟨_, hown, ?_⟩, ?_⟩
  · rw [List.take_succ_eq_append_getElem hkl, ht0, namesT_snoc, ksOf_snoc]
    exact hS.put hD t.1 _
  · intro j hj hjk hf
    by_cases e : j = k
    · subst e
      rw [ht0]
      exact ⟨ca, cc, ra, cr, by unfold putF; rw [if_pos rfl], ht⟩
    · have hne : T[j].1 ≠ t.1 := fun e2 => hno (by rw [mem_ksOf, ← e2]; exact names_take_mem hj (by omega))
      obtain ⟨a1, a2, a3, a4, e3, h⟩ := hH j hj (by omega) hf
      exact ⟨a1, a2, a3, a4, by unfold putF; rw [if_neg hne]; exact e3, h⟩
end Go.Proofs.YtegnekbbbfncgaaGreatDoor

/-
  The contract of the law's helper that takes a list of tables over: all of it lies in new memory.
-/
namespace Go.Proofs.YtegnekbbbfncgaaGreatDoor
open Go.ChangeShapes Go.WideShapes Go.ChangeAt Go.RowKit
attribute [local go_sem ↓] Go.wp_at_zero Go.wp_at_succ

/-- The first m tables are taken over into block g, their lists behind it. -/
structure TakT (w : World) (g : Nat) (T : List TB) (m : Nat) : Prop where
  lt : g < w.heap.size
  there : ∀ q, q < T.length * 3 → ∃ u, w.cell? ⟨g, q, none⟩ = some u
  free : ∀ q, w.frozen? ⟨g, q, none⟩ = false
  tabs : ∀ i (_ : i < T.length), i < m → ∃ g1 g2, w.cell? ⟨g, i * 3, none⟩ = some (.string T[i].1) ∧ w.cell? ⟨g, i * 3 + 1, none⟩ = some (.slice (some ⟨g1, 0, none⟩) T[i].2.1.length T[i].2.1.length) ∧ w.cell? ⟨g, i * 3 + 2, none⟩ = some (.slice (some ⟨g2, 0, none⟩) T[i].2.2.length T[i].2.2.length) ∧ NewTab w (g + 1) g1 g2 T[i]
theorem TakT.below {w w' : World} {g : Nat} {T : List TB} {m : Nat} (h : TakT w g T m) (hb : Below w.heap.size w w') : TakT w' g T m where
  lt := Nat.lt_of_lt_of_le h.lt hb.size
  there q hq := by obtain ⟨u, hu⟩ := h.there q hq; exact ⟨u, by rw [hb.cell (p := ⟨g, q, none⟩) h.lt]; exact hu⟩
  free q := by rw [hb.frozen (p := ⟨g, q, none⟩) h.lt]; exact h.free q
  tabs i hi hm := by
    obtain ⟨g1, g2, c0, c1, c2, N⟩ := h.tabs i hi hm
    exact ⟨g1, g2, by rw [hb.cell (p := ⟨g, _, none⟩) h.lt]; exact c0, by rw [hb.cell (p := ⟨g, _, none⟩) h.lt]; exact c1, by rw [hb.cell (p := ⟨g, _, none⟩) h.lt]; exact c2, N.below hb⟩
theorem NewTab.lower {w : World} {base base' g g2 : Nat} {t : TB} (h : NewTab w base g g2 t) (hb : base' ≤ base) : NewTab w base' g g2 t :=
  ⟨Nat.le_trans hb h.lo, own_keepG h.cols hb rfl, h.apart, h.rows⟩
/-- One table more is taken over: its three cells are written. -/
theorem TakT.step {w : World} {g : Nat} {T : List TB} {m g1 g2 : Nat} (h : TakT w g T m) (hm : m < T.length) (t : TB) (ht : T[m] = t) (N : NewTab w (g + 1) g1 g2 t) :
    TakT (((w.setCell ⟨g, m * 3, none⟩ (.string t.1)).setCell ⟨g, m * 3 + 1, none⟩ (.slice (some ⟨g1, 0, none⟩) t.2.1.length t.2.1.length)).setCell ⟨g, m * 3 + 2, none⟩ (.slice (some ⟨g2, 0, none⟩) t.2.2.length t.2.2.length)) g T (m + 1) := by
  subst ht
  obtain ⟨u0, e0⟩ := h.there (m * 3) (by omega)
  obtain ⟨u1, e1⟩ := h.there (m * 3 + 1) (by omega)
  obtain ⟨u2, e2⟩ := h.there (m * 3 + 2) (by omega)
  have off : ∀ q, q ≠ m * 3 → q ≠ m * 3 + 1 → q ≠ m * 3 + 2 → (((w.setCell ⟨g, m * 3, none⟩ (.string T[m].1)).setCell ⟨g, m * 3 + 1, none⟩ (.slice (some ⟨g1, 0, none⟩) T[m].2.1.length T[m].2.1.length)).setCell ⟨g, m * 3 + 2, none⟩ (.slice (some ⟨g2, 0, none⟩) T[m].2.2.length T[m].2.2.length)).cell? ⟨g, q, none⟩ = w.cell? ⟨g, q, none⟩ := by
    intro q h0 h1 h2
    rw [cell_off _ _ _ _ _ h2, cell_off _ _ _ _ _ h1, cell_off _ _ _ _ _ h0]
  have a0 : (((w.setCell ⟨g, m * 3, none⟩ (.string T[m].1)).setCell ⟨g, m * 3 + 1, none⟩ (.slice (some ⟨g1, 0, none⟩) T[m].2.1.length T[m].2.1.length)).setCell ⟨g, m * 3 + 2, none⟩ (.slice (some ⟨g2, 0, none⟩) T[m].2.2.length T[m].2.2.length)).cell? ⟨g, m * 3, none⟩ = some (.string T[m].1) := by
    rw [cell_off _ _ _ _ _ (by omega), cell_off _ _ _ _ _ (by omega), cell_here _ _ _ _ (by rw [e0]; rfl)]
  have a1 : (((w.setCell ⟨g, m * 3, none⟩ (.string T[m].1)).setCell ⟨g, m * 3 + 1, none⟩ (.slice (some ⟨g1, 0, none⟩) T[m].2.1.length T[m].2.1.length)).setCell ⟨g, m * 3 + 2, none⟩ (.slice (some ⟨g2, 0, none⟩) T[m].2.2.length T[m].2.2.length)).cell? ⟨g, m * 3 + 1, none⟩ = some (.slice (some ⟨g1, 0, none⟩) T[m].2.1.length T[m].2.1.length) := by
    rw [cell_off _ _ _ _ _ (by omega), cell_here _ _ _ _ (by rw [cell_off _ _ _ _ _ (by omega), e1]; rfl)]
  have a2 : (((w.setCell ⟨g, m * 3, none⟩ (.string T[m].1)).setCell ⟨g, m * 3 + 1, none⟩ (.slice (some ⟨g1, 0, none⟩) T[m].2.1.length T[m].2.1.length)).setCell ⟨g, m * 3 + 2, none⟩ (.slice (some ⟨g2, 0, none⟩) T[m].2.2.length T[m].2.2.length)).cell? ⟨g, m * 3 + 2, none⟩ = some (.slice (some ⟨g2, 0, none⟩) T[m].2.2.length T[m].2.2.length) := by
    rw [cell_here _ _ _ _ (by rw [cell_off _ _ _ _ _ (by omega), cell_off _ _ _ _ _ (by omega), e2]; rfl)]
  have K : KeepS (fun b => b = g) w (((w.setCell ⟨g, m * 3, none⟩ (.string T[m].1)).setCell ⟨g, m * 3 + 1, none⟩ (.slice (some ⟨g1, 0, none⟩) T[m].2.1.length T[m].2.1.length)).setCell ⟨g, m * 3 + 2, none⟩ (.slice (some ⟨g2, 0, none⟩) T[m].2.2.length T[m].2.2.length)) :=
    (((KeepS.refl (fun b => b = g) w).setCell (p := ⟨g, m * 3, none⟩) rfl _).setCell (p := ⟨g, m * 3 + 1, none⟩) rfl _).setCell (p := ⟨g, m * 3 + 2, none⟩) rfl _
  refine ⟨Nat.lt_of_lt_of_le h.lt K.size, ?_, ?_, ?_⟩
  · intro q hq
    by_cases h0 : q = m * 3
    · subst h0; exact ⟨_, a0⟩
    by_cases h1 : q = m * 3 + 1
    · subst h1; exact ⟨_, a1⟩
    by_cases h2 : q = m * 3 + 2
    · subst h2; exact ⟨_, a2⟩
    rw [off q h0 h1 h2]; exact h.there q hq
  · intro q
    rw [World.frozen?_setCell, World.frozen?_setCell, World.frozen?_setCell]; exact h.free q
  · intro i hi hlt
    by_cases e : i = m
    · subst e
      exact ⟨g1, g2, a0, a1, a2, N.keepS K (fun b hb => by have := N.lo; omega)⟩
    · obtain ⟨p1, p2, c0, c1, c2, M⟩ := h.tabs i hi (by omega)
      exact ⟨p1, p2, by rw [off _ (by omega) (by omega) (by omega)]; exact c0, by rw [off _ (by omega) (by omega) (by omega)]; exact c1, by rw [off _ (by omega) (by omega) (by omega)]; exact c2, M.keepS K (fun b hb => by have := M.lo; omega)⟩
theorem TakT.lies {w : World} {g : Nat} {T : List TB} (h : TakT w g T T.length) (hf : ∀ i (hi : i < T.length), FitS T[i].2.1 ∧ T[i].1.size ≤ maxLen ∧ T[i].2.1.length ≤ maxLen ∧ T[i].2.2.length ≤ maxLen ∧ (∀ j (hj : j < T[i].2.2.length), Fit T[i].2.2[j]) ∧ (∀ j (hj : j < T[i].2.2.length), T[i].2.2[j].length ≤ maxLen)) : TabsAt w (some ⟨g, 0, none⟩) T := by
  intro i hi
  obtain ⟨g1, g2, c0, c1, c2, N⟩ := h.tabs i hi hi
  obtain ⟨f1, f2, f3, f4, f5, f6⟩ := hf i hi
  exact ⟨g, 0, _, _, _, _, rfl, h.lt, by rw [Nat.zero_add]; exact c0, by rw [Nat.zero_add]; exact c1, by rw [Nat.zero_add]; exact c2, N.lies f1 f2 f3 f4 f5 f6⟩
end Go.Proofs.YtegnekbbbfncgaaGreatDoor

/-
  What a law holds of a list of tables that is not too great: each is of a bearable size, and a copy of all of them can be taken.
-/
namespace Go.Proofs.YtegnekbbbfncgaaGreatDoor
open Go.ChangeShapes Go.WideShapes Go.ChangeAt Go.RowKit

end Go.Proofs.YtegnekbbbfncgaaGreatDoor

/-
  Lists of tables in memory of their own: no two lists of them share any; taken over so by the law's helper; marked, and asked whether the marks are still there.
-/
namespace Go.Proofs.YtegnekbbbfncgaaGreatDoor
open Go.ChangeShapes Go.WideShapes Go.ChangeAt Go.RowKit
attribute [local go_sem ↓] Go.wp_at_zero Go.wp_at_succ
attribute [local simp] World.cell?_alloc_past World.cell?_alloc_at World.frozen?_alloc_at cell_far cell_off cell_here World.frozen?_alloc_past

/-- Where the lists of a table lie. -/
structure TAd where
  ca : Option Addr
  cc : Nat
  ra : Option Addr
  cr : Nat
  A : Nat → Option Addr
  C : Nat → Nat
def TAd.blks (q : TAd) (t : TB) (b : Nat) : Prop := tabBlks q.ca q.ra t q.A b
def OutT (w : World) (base : Nat) (q : TAd) (t : TB) : Prop := OutTab w base q.ca q.cc q.ra t q.A q.C
/-- The heads of the tables, up to the m-th. -/
def HeadsT (w : World) (a : Option Addr) (T : List TB) (Q : Nat → TAd) (m : Nat) : Prop :=
  ∀ i (h : i < T.length), i < m → ∃ g o, a = some ⟨g, o, none⟩ ∧ g < w.heap.size ∧ w.cell? ⟨g, o + i * 3, none⟩ = some (.string T[i].1) ∧ w.cell? ⟨g, o + i * 3 + 1, none⟩ = some (.slice (Q i).ca T[i].2.1.length (Q i).cc) ∧ w.cell? ⟨g, o + i * 3 + 2, none⟩ = some (.slice (Q i).ra T[i].2.2.length (Q i).cr) ∧ w.frozen? ⟨g, o + i * 3, none⟩ = false
theorem HeadsT.keepS {P : Nat → Prop} {w w' : World} {a : Option Addr} {T : List TB} {Q : Nat → TAd} {m : Nat} (h : HeadsT w a T Q m) (hk : KeepS P w w') (hP : ∀ g o, 0 < m → a = some ⟨g, o, none⟩ → ¬ P g) : HeadsT w' a T Q m := by
  intro i hi hm
  obtain ⟨g, o, ha, hlt, c0, c1, c2, f0⟩ := h i hi hm
  have := hP g o (by omega) ha
  exact ⟨g, o, ha, Nat.lt_of_lt_of_le hlt hk.size, by rw [hk.cell hlt this]; exact c0, by rw [hk.cell hlt this]; exact c1, by rw [hk.cell hlt this]; exact c2, by rw [hk.frozen hlt this]; exact f0⟩
/-- The tables up to the m-th lie in memory of their own, each apart from all others and from the heads. -/
structure OutU (w : World) (base : Nat) (a : Option Addr) (T : List TB) (Q : Nat → TAd) (m : Nat) : Prop where
  heads : HeadsT w a T Q m
  tabs : ∀ i (_ : i < T.length), i < m → OutT w base (Q i) T[i]
  apart : ∀ i j (_ : i < T.length) (_ : j < T.length) b, i < m → j < m → i ≠ j → (Q i).blks T[i] b → ¬ (Q j).blks T[j] b
  head : ∀ i (_ : i < T.length) g o, i < m → a = some ⟨g, o, none⟩ → ¬ (Q i).blks T[i] g
  lo : ∀ g o, 0 < m → a = some ⟨g, o, none⟩ → base ≤ g
abbrev OutTs (w : World) (base : Nat) (a : Option Addr) (T : List TB) (Q : Nat → TAd) : Prop := OutU w base a T Q T.length
/-- All their blocks. -/
def tabsBlks (a : Option Addr) (T : List TB) (Q : Nat → TAd) (b : Nat) : Prop := (0 < T.length ∧ ∃ o, a = some ⟨b, o, none⟩) ∨ ∃ i, ∃ h : i < T.length, (Q i).blks T[i] b
theorem OutU.lies {w : World} {base : Nat} {a : Option Addr} {T : List TB} {Q : Nat → TAd} (h : OutTs w base a T Q) : TabsAt w a T := by
  intro i hi
  obtain ⟨g, o, ha, hlt, c0, c1, c2, _⟩ := h.heads i hi hi
  exact ⟨g, o, _, _, _, _, ha, hlt, c0, c1, c2, (h.tabs i hi hi).tab⟩
theorem OutU.keepS {P : Nat → Prop} {w w' : World} {base : Nat} {a : Option Addr} {T : List TB} {Q : Nat → TAd} {m : Nat} (h : OutU w base a T Q m) (hk : KeepS P w w') (hH : ∀ g o, 0 < m → a = some ⟨g, o, none⟩ → ¬ P g) (hP : ∀ i (hi : i < T.length) b, i < m → (Q i).blks T[i] b → ¬ P b) : OutU w' base a T Q m :=
  ⟨h.heads.keepS hk hH, fun i hi hm => (h.tabs i hi hm).keepS hk (fun b hb => hP i hi b hm hb), h.apart, h.head, h.lo⟩
theorem OutU.below {w w' : World} {base : Nat} {a : Option Addr} {T : List TB} {Q : Nat → TAd} {m : Nat} (h : OutU w base a T Q m) (hb : Below w.heap.size w w') : OutU w' base a T Q m :=
  h.keepS (KeepS.ofBelow (P := fun _ => False) hb) (fun _ _ _ _ h => h) (fun _ _ _ _ _ h => h)
/-- What is written lies below. -/
theorem OutU.keepFar {P : Nat → Prop} {w w' : World} {base : Nat} {a : Option Addr} {T : List TB} {Q : Nat → TAd} {m : Nat} (h : OutU w base a T Q m) (hk : KeepS P w w') (hP : ∀ b, P b → b < base) : OutU w' base a T Q m :=
  h.keepS hk (fun g o h0 e hp => by have := hP g hp; have := h.lo g o h0 e; omega) (fun i hi b hm hb hp => by have := hP b hp; have := (h.tabs i hi hm).lo b hb; omega)
theorem OutU.blks_lo {w : World} {base : Nat} {a : Option Addr} {T : List TB} {Q : Nat → TAd} (h : OutTs w base a T Q) (b : Nat) (hb : tabsBlks a T Q b) : base ≤ b := by
  rcases hb with ⟨h0, o, e⟩ | ⟨i, hi, hb⟩
  · exact h.lo b o h0 e
  · exact (h.tabs i hi hi).lo b hb
theorem OutU.blks_lt {w : World} {base : Nat} {a : Option Addr} {T : List TB} {Q : Nat → TAd} (h : OutTs w base a T Q) (b : Nat) (hb : tabsBlks a T Q b) : b < w.heap.size := by
  rcases hb with ⟨h0, o, e⟩ | ⟨i, hi, hb⟩
  · obtain ⟨g, o', ha, hlt, _⟩ := h.heads 0 h0 h0
    rw [e] at ha; cases ha; exact hlt
  · exact (h.tabs i hi hi).lt b hb
theorem OutT.below {w w' : World} {base : Nat} {q : TAd} {t : TB} (h : OutT w base q t) (hb : Below w.heap.size w w') : OutT w' base q t := OutTab.below h hb
theorem OutT.lower {w : World} {base base' : Nat} {q : TAd} {t : TB} (h : OutT w base q t) (hb : base' ≤ base) : OutT w base' q t :=
  ⟨h.cols, h.fit, h.len, h.cap, h.nilC, h.lenR, h.name, h.fitR, h.lenL, h.nilR, h.free, h.heads, h.un, h.ap, h.colR, h.colH, fun b hb' => Nat.le_trans hb (h.lo b hb')⟩
def setQ (Q : Nat → TAd) (m : Nat) (q : TAd) : Nat → TAd := fun i => if i = m then q else Q i
theorem setQ_at (Q : Nat → TAd) (m : Nat) (q : TAd) : setQ Q m q m = q := if_pos rfl
theorem setQ_old (Q : Nat → TAd) {m i : Nat} (q : TAd) (h : i ≠ m) : setQ Q m q i = Q i := if_neg h
/-- One table more: its lists are newer than all that was there. -/
theorem OutU.snoc {w w' : World} {base : Nat} {a a' : Option Addr} {T : List TB} {Q : Nat → TAd} {m B : Nat} {q : TAd} (h : OutU w base a T Q m) (hm : m < T.length) (hB : w.heap.size ≤ B) (hbase : base ≤ B) (hq : OutT w' B q T[m])
    (hold : ∀ i (hi : i < T.length), i < m → OutT w' base (Q i) T[i]) (hh : HeadsT w' a' T (setQ Q m q) (m + 1)) (hlo : ∀ g o, a' = some ⟨g, o, none⟩ → base ≤ g)
    (hhd : ∀ g o, a' = some ⟨g, o, none⟩ → (∀ i (hi : i < T.length), i < m → ¬ (Q i).blks T[i] g) ∧ ¬ q.blks T[m] g) : OutU w' base a' T (setQ Q m q) (m + 1) := by
  have far : ∀ i (hi : i < T.length) b, i < m → (Q i).blks T[i] b → b < B := fun i hi b him hb => Nat.lt_of_lt_of_le ((h.tabs i hi him).lt b hb) hB
  have near : ∀ b, q.blks T[m] b → B ≤ b := fun b hb => hq.lo b hb
  refine ⟨hh, ?_, ?_, ?_, fun g o _ e => hlo g o e⟩
  · intro i hi hlt
    by_cases e : i = m
    · subst e; rw [setQ_at]; exact hq.lower hbase
    · rw [setQ_old Q q e]; exact hold i hi (by omega)
  · intro i j hi hj b hil hjl hij hbi hbj
    by_cases ei : i = m
    · subst ei
      rw [setQ_at] at hbi
      rw [setQ_old Q q (Ne.symm hij)] at hbj
      have := near b hbi
      have := far j hj b (by omega) hbj
      omega
    · rw [setQ_old Q q ei] at hbi
      by_cases ej : j = m
      · subst ej
        rw [setQ_at] at hbj
        have := near b hbj
        have := far i hi b (by omega) hbi
        omega
      · rw [setQ_old Q q ej] at hbj
        exact h.apart i j hi hj b (by omega) (by omega) hij hbi hbj
  · intro i hi g o hil e
    by_cases ei : i = m
    · subst ei; rw [setQ_at]; exact (hhd g o e).2
    · rw [setQ_old Q q ei]; exact (hhd g o e).1 i hi (by omega)

/-- The first m tables are taken over into block g. -/
structure TakQ (w : World) (g : Nat) (T : List TB) (Q : Nat → TAd) (m : Nat) : Prop where
  lt : g < w.heap.size
  there : ∀ q, q < T.length * 3 → ∃ u, w.cell? ⟨g, q, none⟩ = some u
  free : ∀ q, w.frozen? ⟨g, q, none⟩ = false
  out : OutU w g (some ⟨g, 0, none⟩) T Q m
  above : ∀ i (_ : i < T.length) b, i < m → (Q i).blks T[i] b → g < b
theorem TakQ.below {w w' : World} {g : Nat} {T : List TB} {Q : Nat → TAd} {m : Nat} (h : TakQ w g T Q m) (hb : Below w.heap.size w w') : TakQ w' g T Q m where
  lt := Nat.lt_of_lt_of_le h.lt hb.size
  there q hq := by obtain ⟨u, hu⟩ := h.there q hq; exact ⟨u, by rw [hb.cell (p := ⟨g, q, none⟩) h.lt]; exact hu⟩
  free q := by rw [hb.frozen (p := ⟨g, q, none⟩) h.lt]; exact h.free q
  out := h.out.below hb
  above := h.above
theorem TakQ.step {w wr : World} {g : Nat} {T : List TB} {Q : Nat → TAd} {m : Nat} {q : TAd} (h0 : TakQ wr g T Q m) (hb : Below wr.heap.size wr w) (hm : m < T.length) (t : TB) (ht : T[m] = t) (N : OutT w wr.heap.size q t) :
    TakQ (((w.setCell ⟨g, m * 3, none⟩ (.string t.1)).setCell ⟨g, m * 3 + 1, none⟩ (.slice q.ca t.2.1.length q.cc)).setCell ⟨g, m * 3 + 2, none⟩ (.slice q.ra t.2.2.length q.cr)) g T (setQ Q m q) (m + 1) := by
  subst ht
  have h := h0.below hb
  have hlt := h0.lt
  obtain ⟨u0, e0⟩ := h.there (m * 3) (by omega)
  obtain ⟨u1, e1⟩ := h.there (m * 3 + 1) (by omega)
  obtain ⟨u2, e2⟩ := h.there (m * 3 + 2) (by omega)
  obtain ⟨W, hW⟩ : ∃ W, W = (((w.setCell ⟨g, m * 3, none⟩ (.string T[m].1)).setCell ⟨g, m * 3 + 1, none⟩ (.slice q.ca T[m].2.1.length q.cc)).setCell ⟨g, m * 3 + 2, none⟩ (.slice q.ra T[m].2.2.length q.cr)) := ⟨_, rfl⟩
  have off : ∀ p, p ≠ m * 3 → p ≠ m * 3 + 1 → p ≠ m * 3 + 2 → W.cell? ⟨g, p, none⟩ = w.cell? ⟨g, p, none⟩ := by
    intro p h0 h1 h2
    rw [hW, cell_off _ _ _ _ _ h2, cell_off _ _ _ _ _ h1, cell_off _ _ _ _ _ h0]
  have a0 : W.cell? ⟨g, m * 3, none⟩ = some (.string T[m].1) := by
    rw [hW, cell_off _ _ _ _ _ (by omega), cell_off _ _ _ _ _ (by omega), cell_here _ _ _ _ (by rw [e0]; rfl)]
  have a1 : W.cell? ⟨g, m * 3 + 1, none⟩ = some (.slice q.ca T[m].2.1.length q.cc) := by
    rw [hW, cell_off _ _ _ _ _ (by omega), cell_here _ _ _ _ (by rw [cell_off _ _ _ _ _ (by omega), e1]; rfl)]
  have a2 : W.cell? ⟨g, m * 3 + 2, none⟩ = some (.slice q.ra T[m].2.2.length q.cr) := by
    rw [hW, cell_here _ _ _ _ (by rw [cell_off _ _ _ _ _ (by omega), cell_off _ _ _ _ _ (by omega), e2]; rfl)]
  have fr : ∀ p, W.frozen? ⟨g, p, none⟩ = false := by
    intro p; rw [hW, World.frozen?_setCell, World.frozen?_setCell, World.frozen?_setCell]; exact h.free p
  have K : KeepS (fun b => b = g) w W := by
    rw [hW]
    exact (((KeepS.refl (fun b => b = g) w).setCell (p := ⟨g, m * 3, none⟩) rfl _).setCell (p := ⟨g, m * 3 + 1, none⟩) rfl _).setCell (p := ⟨g, m * 3 + 2, none⟩) rfl _
  rw [← hW]
  clear hW
  have nearG : ∀ b, q.blks T[m] b → g < b := fun b hb => Nat.lt_of_lt_of_le hlt (N.lo b hb)
  have hgW : g < W.heap.size := Nat.lt_of_lt_of_le h.lt K.size
  refine ⟨hgW, ?_, fr, ?_, ?_⟩
  · intro p hp
    by_cases h0 : p = m * 3
    · subst h0; exact ⟨_, a0⟩
    by_cases h1 : p = m * 3 + 1
    · subst h1; exact ⟨_, a1⟩
    by_cases h2 : p = m * 3 + 2
    · subst h2; exact ⟨_, a2⟩
    rw [off p h0 h1 h2]; exact h.there p hp
  · refine OutU.snoc (B := wr.heap.size) h0.out hm (Nat.le_refl _) (by omega) (OutTab.keepS N K (fun b hb e => by have := nearG b hb; omega)) (fun i hi hlt => OutTab.keepS (h.out.tabs i hi hlt) K (fun b hb e => by have := h.above i hi b hlt hb; omega)) ?_ (fun g' o e => by cases e; exact Nat.le_refl _) ?_
    · intro i hi hlt
      refine ⟨g, 0, rfl, hgW, ?_⟩
      rw [Nat.zero_add]
      by_cases e : i = m
      · subst e
        rw [setQ_at]
        exact ⟨a0, a1, a2, fr _⟩
      · obtain ⟨g', o', eg, _, c0, c1, c2, _⟩ := h.out.heads i hi (by omega)
        cases eg
        rw [Nat.zero_add] at c0 c1 c2
        rw [setQ_old Q q e, off _ (by omega) (by omega) (by omega), off _ (by omega) (by omega) (by omega), off _ (by omega) (by omega) (by omega)]
        exact ⟨c0, c1, c2, fr _⟩
    · intro g' o e
      cases e
      exact ⟨fun i hi hlt hb => by have := h.above i hi g hlt hb; omega, fun hb => by have := nearG g hb; omega⟩
  · intro i hi b hlt hb
    by_cases e : i = m
    · subst e; rw [setQ_at] at hb; exact nearG b hb
    · rw [setQ_old Q q e] at hb; exact h.above i hi b (by omega) hb

end Go.Proofs.YtegnekbbbfncgaaGreatDoor

/-
  A list of tables that a call makes, one behind the other: the heads in a row of its own, each table's lists newer than those ahead of it.
-/
namespace Go.Proofs.YtegnekbbbfncgaaGreatDoor
open Go.ChangeShapes Go.WideShapes Go.ChangeAt Go.RowKit

def zeroTB : TB := (⟨#[]⟩, [], [])
def headV (t : TB) (q : TAd) : List Value := [.string t.1, .slice q.ca t.2.1.length q.cc, .slice q.ra t.2.2.length q.cr]
/-- The heads of the first k tables, cell by cell. -/
def tabsV (V : List TB) (Q : Nat → TAd) : Nat → List Value
  | 0 => []
  | k + 1 => tabsV V Q k ++ headV (V.getD k zeroTB) (Q k)
theorem tabsV_length (V : List TB) (Q : Nat → TAd) (k : Nat) : (tabsV V Q k).length = k * 3 := by
  induction k with
  | zero => rfl
  | succ k ih => rw [tabsV, List.length_append, ih]; simp [headV]; omega
theorem tabsV_congr {V : List TB} {Q Q' : Nat → TAd} {k : Nat} (h : ∀ i, i < k → Q i = Q' i) : tabsV V Q k = tabsV V Q' k := by
  induction k with
  | zero => rfl
  | succ k ih => rw [tabsV, tabsV, ih (fun i hi => h i (by omega)), h k (by omega)]
theorem getD_tb {V : List TB} {k : Nat} (h : k < V.length) : V.getD k zeroTB = V[k] := by simp [List.getD, List.getElem?_eq_getElem h]
theorem tabsV_at {V : List TB} {Q : Nat → TAd} {k i j : Nat} (hi : i < k) (hj : j < 3) : (tabsV V Q k)[i * 3 + j]? = (headV (V.getD i zeroTB) (Q i))[j]? := by
  induction k with
  | zero => omega
  | succ k ih =>
    rw [tabsV]
    by_cases e : i = k
    · subst e
      rw [List.getElem?_append_right (by rw [tabsV_length]; omega), tabsV_length]
      congr 1
      omega
    · rw [List.getElem?_append_left (by rw [tabsV_length]; omega)]
      exact ih (by omega)
structure OwnTs (w : World) (base : Nat) (v : Value) (V : List TB) (Q : Nat → TAd) (k : Nat) : Prop where
  own : w.ownsRow base 75 3 v k (tabsV V Q k)
  tabs : ∀ i (_ : i < V.length), i < k → OutT w base (Q i) V[i]
  apart : ∀ i j (_ : i < V.length) (_ : j < V.length) b, i < k → j < k → i ≠ j → (Q i).blks V[i] b → ¬ (Q j).blks V[j] b
  head : ∀ g, v.ownBlock = some g → ∀ i (_ : i < V.length), i < k → ¬ (Q i).blks V[i] g
theorem KeepS.grown {w w' : World} {row : Option Nat} (h : w.grownBy w' row) : KeepS (fun b => some b = row) w w' := ⟨h.os, h.tape, h.output, h.size, fun k hk hn => h.block k hk hn⟩
theorem OwnTs.below {w w' : World} {base : Nat} {v : Value} {V : List TB} {Q : Nat → TAd} {k : Nat} (h : OwnTs w base v V Q k) (hb : Below w.heap.size w w') : OwnTs w' base v V Q k :=
  ⟨own_below h.own hb, fun i hi hk => (h.tabs i hi hk).below hb, h.apart, h.head⟩
theorem OwnTs.start {w : World} {base : Nat} {v : Value} {V : List TB} (Q : Nat → TAd) (h : w.ownsRow base 75 3 v 0 []) : OwnTs w base v V Q 0 :=
  ⟨h, fun i _ h => by omega, fun i j _ _ b h => by omega, fun g _ i _ h => by omega⟩
/-- One table more at the end. -/
theorem OwnTs.snoc {wr w1 w3 : World} {base : Nat} {v v' : Value} {V : List TB} {Q : Nat → TAd} {k : Nat} {q : TAd} {ob : Obj} (h : OwnTs wr base v V Q k) (hk : k < V.length) (hbase : base ≤ wr.heap.size) (hb : Below wr.heap.size wr w1) (hq : OutT w1 wr.heap.size q V[k])
    (hown : w3.ownsRow base 75 3 v' (k + 1) (tabsV V Q k ++ headV V[k] q)) (hgrow : (w1.alloc ob).grownBy w3 v.ownBlock) (hloc : v'.ownBlock = v.ownBlock ∨ v'.ownBlock = some (w1.alloc ob).heap.size) : OwnTs w3 base v' V (setQ Q k q) (k + 1) := by
  have hA : Below w1.heap.size w1 (w1.alloc ob) := (Below.refl _ _).alloc (Nat.le_refl _) _
  have far : ∀ i (hi : i < V.length) b, i < k → (Q i).blks V[i] b → b < wr.heap.size := fun i hi b hik hb => (h.tabs i hi hik).lt b hb
  have near : ∀ b, q.blks V[k] b → wr.heap.size ≤ b ∧ b < w1.heap.size := fun b hb => ⟨hq.lo b hb, OutTab.lt hq b hb⟩
  have KG := KeepS.grown hgrow
  have hgl : ∀ g, v.ownBlock = some g → g < wr.heap.size := fun g hg => (h.own.lt g hg).2
  refine ⟨?_, ?_, ?_, ?_⟩
  · rw [show tabsV V (setQ Q k q) (k + 1) = tabsV V Q k ++ headV V[k] q by
      rw [tabsV, setQ_at, getD_tb hk, tabsV_congr (Q' := Q) (fun i hi => setQ_old Q q (by omega))]]
    exact hown
  · intro i hi hlt
    by_cases e : i = k
    · subst e
      rw [setQ_at]
      refine OutTab.keepS ((hq.below hA).lower hbase) KG (fun b hb e => ?_)
      have := (near b hb).1
      have := hgl b e.symm
      omega
    · rw [setQ_old Q q e]
      exact OutTab.keepS (((h.tabs i hi (by omega)).below hb).below hA) KG (fun b hb e => h.head b e.symm i hi (by omega) hb)
  · intro i j hi hj b hil hjl hij hbi hbj
    by_cases ei : i = k
    · subst ei
      rw [setQ_at] at hbi
      rw [setQ_old Q q (Ne.symm hij)] at hbj
      have := (near b hbi).1
      have := far j hj b (by omega) hbj
      omega
    · rw [setQ_old Q q ei] at hbi
      by_cases ej : j = k
      · subst ej
        rw [setQ_at] at hbj
        have := (near b hbj).1
        have := far i hi b (by omega) hbi
        omega
      · rw [setQ_old Q q ej] at hbj
        exact h.apart i j hi hj b (by omega) (by omega) hij hbi hbj
  · intro g hg i hi hlt hbi
    have hsz : (w1.alloc ob).heap.size = w1.heap.size + 1 := by simp
    have hs1 := hb.size
    rcases hloc with e | e
    · rw [e] at hg
      by_cases ei : i = k
      · subst ei
        rw [setQ_at] at hbi
        have := (near g hbi).1
        have := hgl g hg
        omega
      · rw [setQ_old Q q ei] at hbi
        exact h.head g hg i hi (by omega) hbi
    · rw [hg] at e
      injection e with e
      by_cases ei : i = k
      · subst ei
        rw [setQ_at] at hbi
        have := (near g hbi).2
        omega
      · rw [setQ_old Q q ei] at hbi
        have := far i hi g (by omega) hbi
        omega
/-- All of them: a list of tables in memory of its own. -/
theorem OwnTs.out {w : World} {base : Nat} {v : Value} {V : List TB} {Q : Nat → TAd} {n : Nat} (hn : V.length = n) (h : OwnTs w base v V Q n) : ∃ a cap, v = .slice a n cap ∧ OutTs w base a V Q ∧ n ≤ cap := by
  subst hn
  rcases h.own.2 with ⟨e, h0⟩ | ⟨g, cap, cur, e, hbg, hg, hc, _⟩
  · have hV : V = [] := List.eq_nil_of_length_eq_zero h0
    subst hV
    exact ⟨none, 0, e, ⟨fun i hi => by simp at hi, fun i hi => by simp at hi, fun i j hi => by simp at hi, fun i hi => by simp at hi, fun g o h => by simp at h⟩, Nat.le_refl _⟩
  · subst e
    have hgl : g < w.heap.size := (h.own.lt g rfl).2
    have cel : ∀ i (hi : i < V.length) j, j < 3 → w.cell? ⟨g, i * 3 + j, none⟩ = (headV V[i] (Q i))[j]? := by
      intro i hi j hj
      rw [h.own.cellAt _ (by omega), tabsV_at hi hj, getD_tb hi]
    refine ⟨some ⟨g, 0, none⟩, cap, rfl, ⟨?_, h.tabs, h.apart, fun i hi g' o hm e => by cases e; exact h.head g rfl i hi hm, fun g' o _ e => by cases e; exact hbg⟩, hc⟩
    intro i hi _
    refine ⟨g, 0, rfl, hgl, ?_, ?_, ?_, h.own.frozenAt _⟩
    · have := cel i hi 0 (by omega); simpa [headV] using this
    · have := cel i hi 1 (by omega); simpa [headV] using this
    · have := cel i hi 2 (by omega); simpa [headV] using this
end Go.Proofs.YtegnekbbbfncgaaGreatDoor

/-
  The contracts of the program's shelf: asked for a name, and told as a list of tables in memory of its own.
-/
namespace Go.Proofs.YtegnekbbbfncgaaGreatDoor
open Go.ChangeShapes Go.WideShapes Go.ChangeAt Go.RowKit Go.Maps
attribute [local go_sem ↓] Go.wp_at_zero Go.wp_at_succ
attribute [local simp] World.cell?_alloc_past World.cell?_alloc_at World.frozen?_alloc_at cell_far cell_off cell_here World.frozen?_alloc_past

end Go.Proofs.YtegnekbbbfncgaaGreatDoor
