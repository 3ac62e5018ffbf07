/-
  A part of the proof: Sh1, ShMath, ShI1, ShI2, ShI3, ShHas, Box, ShI4, Tabs2, TabsZ, TabsOut, TabsOwn, ShI5, Draw1, Draw2, Draw3, Draw4, Draw5, RowDraw, RowDraw2, RowsDraw, TabDraw1, TabInI, SvMath2, SvMath3, SvMath4.
-/
import Derived.Test.YtadbbkpillfjaaaGreatDoorPart1
import Derived.Maps.OwnSet
import Derived.Sort.KeysCollected
import Derived.Test.YtadbbkpillfjaaaGreatDoorPart17
import Derived.Test.YtadbbkpillfjaaaGreatDoorPart2
import Derived.Laws.IdiomCopy
import Derived.Test.YtadbbkpillfjaaaGreatDoorPart12
import Derived.Maps.AppendAt
import Derived.Test.YtadbbkpillfjaaaGreatDoorPart13
import Derived.Deep.RegionHeld3
import Derived.Test.YtadbbkpillfjaaaGreatDoorPart11
import Derived.Test.YtadbbkpillfjaaaGreatDoorPart4

/-
  A map from names to values, as the program's shelf is one: what it holds, told by the list of its names and by what stands at each; made, written, asked, struck and cleared.
-/
namespace Go.Proofs.YtadbbkpillfjaaaGreatDoor
open Go.ChangeShapes Go.WideShapes Go.ChangeAt Go.RowKit Go.Maps

/-- What stands in the map is told as it is. -/
def tokR (v : Value) : Option (DataW Value × List MemPlace) := some (.held v, [])
def keyL (s : ByteArray) : Lit := .string s.data.toList
theorem keyL_inj {s t : ByteArray} (h : keyL s = keyL t) : s = t := by
  unfold keyL at h
  injection h with h
  exact ByteArray.ext (Array.toList_inj.1 h)
instance decMemB (s : ByteArray) (ks : List ByteArray) : Decidable (s ∈ ks) :=
  decidable_of_iff (s.data.toList ∈ ks.map (fun x => x.data.toList)) ⟨fun h => by
    obtain ⟨x, hx, e⟩ := List.mem_map.1 h
    rw [← ByteArray.ext (Array.toList_inj.1 e)]; exact hx, fun h => List.mem_map.2 ⟨s, h, rfl⟩⟩
theorem keyL_key (s : ByteArray) : WideAt.IsKeyLit (keyL s) := True.intro
/-- The map holds these names, each once, and at each what f says. -/
structure Says (D : DataW Value) (ks : List ByteArray) (f : ByteArray → Value) : Prop where
  nodup : ks.Nodup
  has : ∀ s, Maps.has D (keyL s) = decide (s ∈ ks)
  holds : ∀ s, s ∈ ks → ∀ z, D.atKey (keyL s) z = .held (f s)
theorem Says.same {D : DataW Value} {ks : List ByteArray} {f g : ByteArray → Value} (h : Says D ks f) (e : ∀ s, s ∈ ks → f s = g s) : Says D ks g :=
  ⟨h.nodup, h.has, fun s hs z => by rw [h.holds s hs z, e s hs]⟩
/-- A name more, or another value at one that is there. -/
def putK (ks : List ByteArray) (s : ByteArray) : List ByteArray := if s ∈ ks then ks else ks ++ [s]
def putF (f : ByteArray → Value) (s : ByteArray) (v : Value) : ByteArray → Value := fun x => if x = s then v else f x
theorem mem_putK (ks : List ByteArray) (s x : ByteArray) : x ∈ putK ks s ↔ (x = s ∨ x ∈ ks) := by
  unfold putK
  split
  · rename_i h
    exact ⟨Or.inr, fun e => by rcases e with rfl | e <;> assumption⟩
  · simp only [List.mem_append, List.mem_singleton]
    exact Or.comm
theorem nodup_putK {ks : List ByteArray} (h : ks.Nodup) (s : ByteArray) : (putK ks s).Nodup := by
  unfold putK
  split
  · exact h
  · rename_i hn
    refine List.nodup_append.2 ⟨h, List.pairwise_singleton _ _, fun a ha b hb e => ?_⟩
    rw [List.mem_singleton] at hb
    subst hb; subst e; exact hn ha
theorem Says.put {D : DataW Value} {ks : List ByteArray} {f : ByteArray → Value} (h : Says D ks f) (hD : IsMap D) (s : ByteArray) (v : Value) : Says (D.put (keyL s) (.held v)) (putK ks s) (putF f s v) := by
  refine ⟨nodup_putK h.nodup s, fun x => ?_, fun x hx z => ?_⟩
  · by_cases e : x = s
    · subst e
      rw [has_put_same hD (keyL_key x)]
      exact (decide_eq_true ((mem_putK ks x x).2 (Or.inl rfl))).symm
    · rw [has_put_other (fun e' => e (keyL_inj e')), h.has x]
      have : (x ∈ putK ks s) ↔ x ∈ ks := by rw [mem_putK]; exact ⟨fun q => q.resolve_left e, Or.inr⟩
      rw [decide_eq_decide]; exact this.symm
  · by_cases e : x = s
    · subst e
      rw [atKey_put_same hD (keyL_key x)]
      simp [putF]
    · rw [atKey_put_other (fun e' => e (keyL_inj e')), h.holds x (((mem_putK ks s x).1 hx).resolve_left e)]
      simp [putF, e]
/-- Block B is a map of at most n names that holds these. -/
def ShelfAt (w : World) (B n : Nat) (ks : List ByteArray) (f : ByteArray → Value) : Prop :=
  ∃ D, w.ownsMap Tryz.prog 9 tokR B n D ∧ Says D ks f
theorem ShelfAt.lt {w : World} {B n : Nat} {ks : List ByteArray} {f : ByteArray → Value} (h : ShelfAt w B n ks f) : B < w.heap.size := by
  obtain ⟨D, h, _⟩ := h
  exact h.lt
theorem ShelfAt.block {w w' : World} {B n : Nat} {ks : List ByteArray} {f : ByteArray → Value} (h : ShelfAt w B n ks f) (hb : w'.heap[B]? = w.heap[B]?) : ShelfAt w' B n ks f := by
  obtain ⟨D, ⟨es, clock, he, F, hs, hD⟩, S⟩ := h
  exact ⟨D, ⟨es, clock, hb.trans he, F, hs, hD⟩, S⟩
theorem ShelfAt.below {w w' : World} {B n : Nat} {ks : List ByteArray} {f : ByteArray → Value} (h : ShelfAt w B n ks f) (hb : Below w.heap.size w w') : ShelfAt w' B n ks f :=
  h.block (hb.block B h.lt)
end Go.Proofs.YtadbbkpillfjaaaGreatDoor

/-
  Names in their order, without any program: sorted there is but one list; a list of names is its own sorted one, each once, just where the names rise.
-/
namespace Go.Proofs.YtadbbkpillfjaaaGreatDoor
open Go.Maps

/-- The names of a list, each once, where it comes first. -/
def ksOf (l : List ByteArray) : List ByteArray := l.foldl putK []
theorem ksOf_snoc (l : List ByteArray) (x : ByteArray) : ksOf (l ++ [x]) = putK (ksOf l) x := by simp [ksOf, List.foldl_append]
theorem mem_ksOf (l : List ByteArray) (s : ByteArray) : s ∈ ksOf l ↔ s ∈ l := by
  suffices ∀ (l acc : List ByteArray), s ∈ l.foldl putK acc ↔ (s ∈ acc ∨ s ∈ l) by simpa [ksOf] using this l []
  intro l
  induction l with
  | nil => intro acc; simp
  | cons x l ih =>
    intro acc
    rw [List.foldl_cons, ih, mem_putK, List.mem_cons]
    constructor
    · rintro ((h | h) | h)
      · exact .inr (.inl h)
      · exact .inl h
      · exact .inr (.inr h)
    · rintro (h | h | h)
      · exact .inl (.inr h)
      · exact .inl (.inl h)
      · exact .inr h
end Go.Proofs.YtadbbkpillfjaaaGreatDoor

/-
  The contract of the program's shelf that tells its names in order.
-/
namespace Go.Proofs.YtadbbkpillfjaaaGreatDoor
open Go.ChangeShapes Go.WideShapes Go.ChangeAt Go.RowKit
attribute [local go_sem ↓] Go.wp_at_zero Go.wp_at_succ

end Go.Proofs.YtadbbkpillfjaaaGreatDoor

/-
  The contract of the program's order of names: a count and the first five of them, in a struct that can be held against another one.
-/
namespace Go.Proofs.YtadbbkpillfjaaaGreatDoor
open Go.ChangeShapes Go.WideShapes Go.ChangeAt Go.RowKit
attribute [local go_sem ↓] Go.wp_at_zero Go.wp_at_succ
attribute [local simp] World.cell?_alloc_past World.cell?_alloc_at World.frozen?_alloc_at cell_far cell_off cell_here World.frozen?_alloc_past

end Go.Proofs.YtadbbkpillfjaaaGreatDoor

/-
  The contract of the program's question whether all tables of a list are right.
-/
namespace Go.Proofs.YtadbbkpillfjaaaGreatDoor
open Go.ChangeShapes Go.WideShapes Go.ChangeAt Go.RowKit
attribute [local go_sem ↓] Go.wp_at_zero Go.wp_at_succ
attribute [local simp] World.cell?_alloc_past World.cell?_alloc_at World.frozen?_alloc_at cell_far cell_off cell_here World.frozen?_alloc_past

end Go.Proofs.YtadbbkpillfjaaaGreatDoor

/-
  The contracts of a shelf that is asked for a name.
-/
namespace Go.Proofs.YtadbbkpillfjaaaGreatDoor
open Go.ChangeShapes Go.WideShapes Go.ChangeAt Go.RowKit Go.Maps
attribute [local go_sem ↓] Go.wp_at_zero Go.wp_at_succ

end Go.Proofs.YtadbbkpillfjaaaGreatDoor

/-
  Values in a block, a row of its own, a marked table: what stays of them.
-/
namespace Go.Proofs.YtadbbkpillfjaaaGreatDoor
open Go.ChangeShapes Go.WideShapes Go.ChangeAt Go.RowKit

/-- Three values in a block. -/
def Box (w : World) (B : Nat) (x y z : Value) : Prop := w.cell? ⟨B, 0, none⟩ = some x ∧ w.cell? ⟨B, 1, none⟩ = some y ∧ w.cell? ⟨B, 2, none⟩ = some z ∧ B < w.heap.size
theorem Box.below {w w' : World} {B : Nat} {x y z : Value} (h : Box w B x y z) (hb : Below w.heap.size w w') : Box w' B x y z := later3 hb h
theorem Box.keepS {w w' : World} {P : Nat → Prop} {B : Nat} {x y z : Value} (h : Box w B x y z) (hk : KeepS P w w') (hn : ¬ P B) : Box w' B x y z :=
  ⟨by rw [hk.cell h.2.2.2 hn]; exact h.1, by rw [hk.cell h.2.2.2 hn]; exact h.2.1, by rw [hk.cell h.2.2.2 hn]; exact h.2.2.1, Nat.lt_of_lt_of_le h.2.2.2 hk.size⟩
/-- A row of its own in block g. -/
structure OutRow (w : World) (g : Nat) (r : List CT) : Prop where
  at_ : RowAt w (some ⟨g, 0, none⟩) r
  free : Free w (some ⟨g, 0, none⟩) r.length
  lt : g < w.heap.size
theorem OutRow.keepS {w w' : World} {P : Nat → Prop} {g : Nat} {r : List CT} (h : OutRow w g r) (hk : KeepS P w w') (hn : ¬ P g) : OutRow w' g r := by
  have hq : ∀ b, inBlk (some ⟨g, 0, none⟩) r.length b → ¬ P b := by
    rintro b ⟨_, o, e⟩
    cases e; exact hn
  exact ⟨h.at_.keepS hk hq, h.free.keepS h.at_ hk hq, Nat.lt_of_lt_of_le h.lt hk.size⟩
theorem OutRow.below {w w' : World} {g : Nat} {r : List CT} (h : OutRow w g r) (hb : Below w.heap.size w w') : OutRow w' g r :=
  h.keepS (KeepS.ofBelow (P := fun _ => False) hb) (fun h => h)
theorem MarkedT.keepS {w w' : World} {P : Nat → Prop} {ca ra : Option Addr} {t : TB} {A : Nat → Option Addr} {C : Nat → Nat} {k : Nat} (h : MarkedT w ca ra t A C k) (hk : KeepS P w w') (hP : ∀ b, tabBlks ca ra t A b → ¬ P b) : MarkedT w' ca ra t A C k :=
  ⟨h.cols.keepS hk (fun b hb => hP b (.inl (by rw [marksS_length] at hb; exact hb))), h.heads.keepN hk (fun b o h0 e => hP b (.inr (.inr ⟨h0, o, e⟩))), h.rows.keepL hk (fun b hb => hP b (.inr (.inl hb)))⟩

end Go.Proofs.YtadbbkpillfjaaaGreatDoor

/-
  The contract of the program's shelf made of a list of tables.
-/
namespace Go.Proofs.YtadbbkpillfjaaaGreatDoor
open Go.ChangeShapes Go.WideShapes Go.ChangeAt Go.RowKit Go.Maps
attribute [local go_sem ↓] Go.wp_at_zero Go.wp_at_succ
attribute [local simp] World.cell?_alloc_past World.cell?_alloc_at World.frozen?_alloc_at cell_far cell_off cell_here World.frozen?_alloc_past

/-- What the shelf has at the table's name is that table, which lies where it says. -/
def HoldsT (w : World) (f : ByteArray → Value) (t : TB) : Prop :=
  ∃ ca cc ra cr, f t.1 = .agg #[.string t.1, .slice ca t.2.1.length cc, .slice ra t.2.2.length cr] ∧ TabAt w ca cc ra t
theorem HoldsT.below {w w' : World} {f : ByteArray → Value} {t : TB} (h : HoldsT w f t) (hb : Below w.heap.size w w') : HoldsT w' f t := by
  obtain ⟨ca, cc, ra, cr, e, ht⟩ := h
  exact ⟨ca, cc, ra, cr, e, ht.below hb⟩
/-- The shelf has just these tables, which lay there in world w0 already. -/
def ShelfT (w0 w : World) (B n : Nat) (U : List TB) : Prop := (namesT U).Nodup ∧ ∃ f, ShelfAt w B n (namesT U) f ∧ ∀ t, t ∈ U → HoldsT w0 f t
theorem ShelfT.below {w0 w w' : World} {B n : Nat} {U : List TB} (h : ShelfT w0 w B n U) (hb : Below w.heap.size w w') : ShelfT w0 w' B n U := by
  obtain ⟨hn, f, hs, ht⟩ := h
  exact ⟨hn, f, hs.below hb, ht⟩
/-- The k-th step: the shelf has the first k tables' names, and of each name the first table. -/
def ShInv (w0 w : World) (B : Nat) (T : List TB) (k : Nat) : Prop :=
  ∃ f, ShelfAt w B k (ksOf (namesT (T.take k))) f ∧ ∀ j (hj : j < T.length), j < k → (∀ i (hi : i < T.length), i < j → T[i].1 ≠ T[j].1) → HoldsT w0 f T[j]
theorem ShInv.below {w0 w w' : World} {B : Nat} {T : List TB} {k : Nat} (h : ShInv w0 w B T k) (hb : Below w.heap.size w w') : ShInv w0 w' B T k := by
  obtain ⟨f, hs, ht⟩ := h
  exact ⟨f, hs.below hb, ht⟩
theorem namesT_snoc (T : List TB) (t : TB) : namesT (T ++ [t]) = namesT T ++ [t.1] := by simp [namesT]
theorem names_take_mem {T : List TB} {k j : Nat} (hj : j < T.length) (hk : j < k) : T[j].1 ∈ namesT (T.take k) :=
  List.mem_map.2 ⟨T[j], List.mem_iff_getElem.2 ⟨j, by rw [List.length_take]; omega, List.getElem_take⟩, rfl⟩
/-- A name that was not there is put there. -/
theorem ShInv.step {w0 w' : World} {B : Nat} {T : List TB} {k : Nat} {t : TB} {D : DataW Value} {f : ByteArray → Value} {ca : Option Addr} {cc : Nat} {ra : Option Addr} {cr : Nat} (hkl : k < T.length) (ht0 : T[k] = t)
    (hS : Says D (ksOf (namesT (T.take k))) f) (hD : IsMap D) (hH : ∀ j (hj : j < T.length), j < k → (∀ i (hi : i < T.length), i < j → T[i].1 ≠ T[j].1) → HoldsT w0 f T[j]) (ht : TabAt w0 ca cc ra t) (hno : t.1 ∉ ksOf (namesT (T.take k)))
    (hown : w'.ownsMap Tryz.prog 9 tokR B (k + 1) (D.put (keyL t.1) (.held (.agg #[.string t.1, .slice ca t.2.1.length cc, .slice ra t.2.2.length cr])))) : ShInv w0 w' B T (k + 1) := by
  refine ⟨putF f t.1 (.agg #[.string t.1, .slice ca t.2.1.length cc, .slice ra t.2.2.length cr]), ⟨_, hown, ?_⟩, ?_⟩
  · rw [List.take_succ_eq_append_getElem hkl, ht0, namesT_snoc, ksOf_snoc]
    exact hS.put hD t.1 _
  · intro j hj hjk hf
    by_cases e : j = k
    · subst e
      rw [ht0]
      exact ⟨ca, cc, ra, cr, by unfold putF; rw [if_pos rfl], ht⟩
    · have hne : T[j].1 ≠ t.1 := fun e2 => hno (by rw [mem_ksOf, ← e2]; exact names_take_mem hj (by omega))
      obtain ⟨a1, a2, a3, a4, e3, h⟩ := hH j hj (by omega) hf
      exact ⟨a1, a2, a3, a4, by unfold putF; rw [if_neg hne]; exact e3, h⟩
end Go.Proofs.YtadbbkpillfjaaaGreatDoor

/-
  The contract of the law's helper that takes a list of tables over: all of it lies in new memory.
-/
namespace Go.Proofs.YtadbbkpillfjaaaGreatDoor
open Go.ChangeShapes Go.WideShapes Go.ChangeAt Go.RowKit
attribute [local go_sem ↓] Go.wp_at_zero Go.wp_at_succ

end Go.Proofs.YtadbbkpillfjaaaGreatDoor

/-
  What a law holds of a list of tables that is not too great: each is of a bearable size, and a copy of all of them can be taken.
-/
namespace Go.Proofs.YtadbbkpillfjaaaGreatDoor
open Go.ChangeShapes Go.WideShapes Go.ChangeAt Go.RowKit

end Go.Proofs.YtadbbkpillfjaaaGreatDoor

/-
  Lists of tables in memory of their own: no two lists of them share any; taken over so by the law's helper; marked, and asked whether the marks are still there.
-/
namespace Go.Proofs.YtadbbkpillfjaaaGreatDoor
open Go.ChangeShapes Go.WideShapes Go.ChangeAt Go.RowKit
attribute [local go_sem ↓] Go.wp_at_zero Go.wp_at_succ
attribute [local simp] World.cell?_alloc_past World.cell?_alloc_at World.frozen?_alloc_at cell_far cell_off cell_here World.frozen?_alloc_past

/-- Where the lists of a table lie. -/
structure TAd where
  ca : Option Addr
  cc : Nat
  ra : Option Addr
  cr : Nat
  A : Nat → Option Addr
  C : Nat → Nat
def TAd.blks (q : TAd) (t : TB) (b : Nat) : Prop := tabBlks q.ca q.ra t q.A b
def OutT (w : World) (base : Nat) (q : TAd) (t : TB) : Prop := OutTab w base q.ca q.cc q.ra t q.A q.C
/-- The heads of the tables, up to the m-th. -/
def HeadsT (w : World) (a : Option Addr) (T : List TB) (Q : Nat → TAd) (m : Nat) : Prop :=
  ∀ i (h : i < T.length), i < m → ∃ g o, a = some ⟨g, o, none⟩ ∧ g < w.heap.size ∧ w.cell? ⟨g, o + i * 3, none⟩ = some (.string T[i].1) ∧ w.cell? ⟨g, o + i * 3 + 1, none⟩ = some (.slice (Q i).ca T[i].2.1.length (Q i).cc) ∧ w.cell? ⟨g, o + i * 3 + 2, none⟩ = some (.slice (Q i).ra T[i].2.2.length (Q i).cr) ∧ w.frozen? ⟨g, o + i * 3, none⟩ = false
theorem HeadsT.keepS {P : Nat → Prop} {w w' : World} {a : Option Addr} {T : List TB} {Q : Nat → TAd} {m : Nat} (h : HeadsT w a T Q m) (hk : KeepS P w w') (hP : ∀ g o, 0 < m → a = some ⟨g, o, none⟩ → ¬ P g) : HeadsT w' a T Q m := by
  intro i hi hm
  obtain ⟨g, o, ha, hlt, c0, c1, c2, f0⟩ := h i hi hm
  have := hP g o (by omega) ha
  exact ⟨g, o, ha, Nat.lt_of_lt_of_le hlt hk.size, by rw [hk.cell hlt this]; exact c0, by rw [hk.cell hlt this]; exact c1, by rw [hk.cell hlt this]; exact c2, by rw [hk.frozen hlt this]; exact f0⟩
/-- The tables up to the m-th lie in memory of their own, each apart from all others and from the heads. -/
structure OutU (w : World) (base : Nat) (a : Option Addr) (T : List TB) (Q : Nat → TAd) (m : Nat) : Prop where
  heads : HeadsT w a T Q m
  tabs : ∀ i (_ : i < T.length), i < m → OutT w base (Q i) T[i]
  apart : ∀ i j (_ : i < T.length) (_ : j < T.length) b, i < m → j < m → i ≠ j → (Q i).blks T[i] b → ¬ (Q j).blks T[j] b
  head : ∀ i (_ : i < T.length) g o, i < m → a = some ⟨g, o, none⟩ → ¬ (Q i).blks T[i] g
  lo : ∀ g o, 0 < m → a = some ⟨g, o, none⟩ → base ≤ g
abbrev OutTs (w : World) (base : Nat) (a : Option Addr) (T : List TB) (Q : Nat → TAd) : Prop := OutU w base a T Q T.length
/-- All their blocks. -/
def tabsBlks (a : Option Addr) (T : List TB) (Q : Nat → TAd) (b : Nat) : Prop := (0 < T.length ∧ ∃ o, a = some ⟨b, o, none⟩) ∨ ∃ i, ∃ h : i < T.length, (Q i).blks T[i] b
theorem OutU.lies {w : World} {base : Nat} {a : Option Addr} {T : List TB} {Q : Nat → TAd} (h : OutTs w base a T Q) : TabsAt w a T := by
  intro i hi
  obtain ⟨g, o, ha, hlt, c0, c1, c2, _⟩ := h.heads i hi hi
  exact ⟨g, o, _, _, _, _, ha, hlt, c0, c1, c2, (h.tabs i hi hi).tab⟩
theorem OutU.keepS {P : Nat → Prop} {w w' : World} {base : Nat} {a : Option Addr} {T : List TB} {Q : Nat → TAd} {m : Nat} (h : OutU w base a T Q m) (hk : KeepS P w w') (hH : ∀ g o, 0 < m → a = some ⟨g, o, none⟩ → ¬ P g) (hP : ∀ i (hi : i < T.length) b, i < m → (Q i).blks T[i] b → ¬ P b) : OutU w' base a T Q m :=
  ⟨h.heads.keepS hk hH, fun i hi hm => (h.tabs i hi hm).keepS hk (fun b hb => hP i hi b hm hb), h.apart, h.head, h.lo⟩
theorem OutU.below {w w' : World} {base : Nat} {a : Option Addr} {T : List TB} {Q : Nat → TAd} {m : Nat} (h : OutU w base a T Q m) (hb : Below w.heap.size w w') : OutU w' base a T Q m :=
  h.keepS (KeepS.ofBelow (P := fun _ => False) hb) (fun _ _ _ _ h => h) (fun _ _ _ _ _ h => h)
/-- What is written lies below. -/
theorem OutU.keepFar {P : Nat → Prop} {w w' : World} {base : Nat} {a : Option Addr} {T : List TB} {Q : Nat → TAd} {m : Nat} (h : OutU w base a T Q m) (hk : KeepS P w w') (hP : ∀ b, P b → b < base) : OutU w' base a T Q m :=
  h.keepS hk (fun g o h0 e hp => by have := hP g hp; have := h.lo g o h0 e; omega) (fun i hi b hm hb hp => by have := hP b hp; have := (h.tabs i hi hm).lo b hb; omega)
theorem OutU.blks_lo {w : World} {base : Nat} {a : Option Addr} {T : List TB} {Q : Nat → TAd} (h : OutTs w base a T Q) (b : Nat) (hb : tabsBlks a T Q b) : base ≤ b := by
  rcases hb with ⟨h0, o, e⟩ | ⟨i, hi, hb⟩
  · exact h.lo b o h0 e
  · exact (h.tabs i hi hi).lo b hb
theorem OutU.blks_lt {w : World} {base : Nat} {a : Option Addr} {T : List TB} {Q : Nat → TAd} (h : OutTs w base a T Q) (b : Nat) (hb : tabsBlks a T Q b) : b < w.heap.size := by
  rcases hb with ⟨h0, o, e⟩ | ⟨i, hi, hb⟩
  · obtain ⟨g, o', ha, hlt, _⟩ := h.heads 0 h0 h0
    rw [e] at ha; cases ha; exact hlt
  · exact (h.tabs i hi hi).lt b hb
theorem OutT.below {w w' : World} {base : Nat} {q : TAd} {t : TB} (h : OutT w base q t) (hb : Below w.heap.size w w') : OutT w' base q t := OutTab.below h hb
theorem OutT.lower {w : World} {base base' : Nat} {q : TAd} {t : TB} (h : OutT w base q t) (hb : base' ≤ base) : OutT w base' q t :=
  ⟨h.cols, h.fit, h.len, h.cap, h.nilC, h.lenR, h.name, h.fitR, h.lenL, h.nilR, h.free, h.heads, h.un, h.ap, h.colR, h.colH, fun b hb' => Nat.le_trans hb (h.lo b hb')⟩
def setQ (Q : Nat → TAd) (m : Nat) (q : TAd) : Nat → TAd := fun i => if i = m then q else Q i
theorem setQ_at (Q : Nat → TAd) (m : Nat) (q : TAd) : setQ Q m q m = q := if_pos rfl
theorem setQ_old (Q : Nat → TAd) {m i : Nat} (q : TAd) (h : i ≠ m) : setQ Q m q i = Q i := if_neg h
/-- One table more: its lists are newer than all that was there. -/
theorem OutU.snoc {w w' : World} {base : Nat} {a a' : Option Addr} {T : List TB} {Q : Nat → TAd} {m B : Nat} {q : TAd} (h : OutU w base a T Q m) (hm : m < T.length) (hB : w.heap.size ≤ B) (hbase : base ≤ B) (hq : OutT w' B q T[m])
    (hold : ∀ i (hi : i < T.length), i < m → OutT w' base (Q i) T[i]) (hh : HeadsT w' a' T (setQ Q m q) (m + 1)) (hlo : ∀ g o, a' = some ⟨g, o, none⟩ → base ≤ g)
    (hhd : ∀ g o, a' = some ⟨g, o, none⟩ → (∀ i (hi : i < T.length), i < m → ¬ (Q i).blks T[i] g) ∧ ¬ q.blks T[m] g) : OutU w' base a' T (setQ Q m q) (m + 1) := by
  have far : ∀ i (hi : i < T.length) b, i < m → (Q i).blks T[i] b → b < B := fun i hi b him hb => Nat.lt_of_lt_of_le ((h.tabs i hi him).lt b hb) hB
  have near : ∀ b, q.blks T[m] b → B ≤ b := fun b hb => hq.lo b hb
  refine ⟨hh, ?_, ?_, ?_, fun g o _ e => hlo g o e⟩
  · intro i hi hlt
    by_cases e : i = m
    · subst e; rw [setQ_at]; exact hq.lower hbase
    · rw [setQ_old Q q e]; exact hold i hi (by omega)
  · intro i j hi hj b hil hjl hij hbi hbj
    by_cases ei : i = m
    · subst ei
      rw [setQ_at] at hbi
      rw [setQ_old Q q (Ne.symm hij)] at hbj
      have := near b hbi
      have := far j hj b (by omega) hbj
      omega
    · rw [setQ_old Q q ei] at hbi
      by_cases ej : j = m
      · subst ej
        rw [setQ_at] at hbj
        have := near b hbj
        have := far i hi b (by omega) hbi
        omega
      · rw [setQ_old Q q ej] at hbj
        exact h.apart i j hi hj b (by omega) (by omega) hij hbi hbj
  · intro i hi g o hil e
    by_cases ei : i = m
    · subst ei; rw [setQ_at]; exact (hhd g o e).2
    · rw [setQ_old Q q ei]; exact (hhd g o e).1 i hi (by omega)

end Go.Proofs.YtadbbkpillfjaaaGreatDoor

/-
  A list of tables that a call makes, one behind the other: the heads in a row of its own, each table's lists newer than those ahead of it.
-/
namespace Go.Proofs.YtadbbkpillfjaaaGreatDoor
open Go.ChangeShapes Go.WideShapes Go.ChangeAt Go.RowKit

theorem KeepS.grown {w w' : World} {row : Option Nat} (h : w.grownBy w' row) : KeepS (fun b => some b = row) w w' := ⟨h.os, h.tape, h.output, h.size, fun k hk hn => h.block k hk hn⟩
end Go.Proofs.YtadbbkpillfjaaaGreatDoor

/-
  The contracts of the program's shelf: asked for a name, and told as a list of tables in memory of its own.
-/
namespace Go.Proofs.YtadbbkpillfjaaaGreatDoor
open Go.ChangeShapes Go.WideShapes Go.ChangeAt Go.RowKit Go.Maps
attribute [local go_sem ↓] Go.wp_at_zero Go.wp_at_succ
attribute [local simp] World.cell?_alloc_past World.cell?_alloc_at World.frozen?_alloc_at cell_far cell_off cell_here World.frozen?_alloc_past

end Go.Proofs.YtadbbkpillfjaaaGreatDoor

/-
  The contracts of the drawing cursor: where it lies in memory, and that a byte drawn is from 0 to 255.
-/
namespace Go.Proofs.YtadbbkpillfjaaaGreatDoor
open Go.ChangeShapes Go.WideShapes Go.ChangeAt Go.RowKit

/-- A cursor lies at block c: its bytes, how far it has come, its number. -/
structure Cur (w : World) (c : Nat) (a : Option Addr) (len cap : Nat) : Prop where
  c0 : w.cell? ⟨c, 0, none⟩ = some (.slice a len cap)
  c1 : ∃ i : Nat, w.cell? ⟨c, 1, none⟩ = some (.int .i64 (i : Int)) ∧ i ≤ len
  c2 : ∃ h : Int, w.cell? ⟨c, 2, none⟩ = some (.int .i64 h)
  f0 : w.frozen? ⟨c, 0, none⟩ = false
  f1 : w.frozen? ⟨c, 1, none⟩ = false
  f2 : w.frozen? ⟨c, 2, none⟩ = false
  lt : c < w.heap.size
  hlen : len ≤ maxLen
  row : ∀ j, j < len → ∃ (rb ro : Nat) (v : Int), a = some ⟨rb, ro, none⟩ ∧ rb < c ∧ w.cell? ⟨rb, ro + j, none⟩ = some (.int .u8 v) ∧ 0 ≤ v ∧ v ≤ 255

theorem Cur.below {w w' : World} {c : Nat} {a : Option Addr} {len cap : Nat} (h : Cur w c a len cap) (hb : Below w.heap.size w w') : Cur w' c a len cap := by
  have hc : ∀ o, w'.cell? ⟨c, o, none⟩ = w.cell? ⟨c, o, none⟩ := fun o => hb.cell (p := ⟨c, o, none⟩) h.lt
  have hf : ∀ o, w'.frozen? ⟨c, o, none⟩ = w.frozen? ⟨c, o, none⟩ := fun o => hb.frozen (p := ⟨c, o, none⟩) h.lt
  refine ⟨by rw [hc]; exact h.c0, by rw [hc]; exact h.c1, by rw [hc]; exact h.c2, by rw [hf]; exact h.f0, by rw [hf]; exact h.f1, by rw [hf]; exact h.f2, Nat.lt_of_lt_of_le h.lt hb.size, h.hlen, ?_⟩
  intro j hj
  obtain ⟨rb, ro, v, ha, hlt, hcell, hv⟩ := h.row j hj
  exact ⟨rb, ro, v, ha, hlt, by rw [hb.cell (p := ⟨rb, ro + j, none⟩) (Nat.lt_trans hlt h.lt)]; exact hcell, hv⟩

theorem Cur.drewN {w : World} {c : Nat} {a : Option Addr} {len cap : Nat} (h : Cur w c a len cap) (n : Nat) : Cur (w.drewN n) c a len cap :=
  ⟨h.c0, h.c1, h.c2, h.f0, h.f1, h.f2, h.lt, h.hlen, h.row⟩
theorem Cur.drew {w : World} {c : Nat} {a : Option Addr} {len cap : Nat} (h : Cur w c a len cap) : Cur w.drew c a len cap :=
  ⟨h.c0, h.c1, h.c2, h.f0, h.f1, h.f2, h.lt, h.hlen, h.row⟩

theorem Cur.alloc {w : World} {c : Nat} {a : Option Addr} {len cap : Nat} (h : Cur w c a len cap) (o : Obj) : Cur (w.alloc o) c a len cap :=
  h.below ((Below.refl _ _).alloc (Nat.le_refl _) o)

end Go.Proofs.YtadbbkpillfjaaaGreatDoor

/-
  The contracts of the cursor's making and of a drawn cell: whatever is drawn, it is a cell whose text is no longer than a text may be.
-/
namespace Go.Proofs.YtadbbkpillfjaaaGreatDoor
open Go.ChangeShapes Go.WideShapes Go.ChangeAt Go.RowKit

end Go.Proofs.YtadbbkpillfjaaaGreatDoor

/-
  The contract of a drawn cell.
-/
namespace Go.Proofs.YtadbbkpillfjaaaGreatDoor
open Go.ChangeShapes Go.WideShapes Go.ChangeAt Go.RowKit

theorem old3 {w : World} {B : Nat} {x y z : Value} (o : Obj) (h : w.cell? ⟨B, 0, none⟩ = some x ∧ w.cell? ⟨B, 1, none⟩ = some y ∧ w.cell? ⟨B, 2, none⟩ = some z ∧ B < w.heap.size) :
    (w.alloc o).cell? ⟨B, 0, none⟩ = some x ∧ (w.alloc o).cell? ⟨B, 1, none⟩ = some y ∧ (w.alloc o).cell? ⟨B, 2, none⟩ = some z ∧ B < (w.alloc o).heap.size :=
  later3 ((Below.refl _ _).alloc (Nat.le_refl _) o) h
theorem oldF {w : World} {B : Nat} (o : Obj) (hB : B < w.heap.size) (h : w.frozen? ⟨B, 0, none⟩ = false ∧ w.frozen? ⟨B, 1, none⟩ = false ∧ w.frozen? ⟨B, 2, none⟩ = false) :
    (w.alloc o).frozen? ⟨B, 0, none⟩ = false ∧ (w.alloc o).frozen? ⟨B, 1, none⟩ = false ∧ (w.alloc o).frozen? ⟨B, 2, none⟩ = false :=
  frozen3 ((Below.refl _ _).alloc (Nat.le_refl _) o) hB h

end Go.Proofs.YtadbbkpillfjaaaGreatDoor

/-
  The contract of a drawn cell that may be wrong.
-/
namespace Go.Proofs.YtadbbkpillfjaaaGreatDoor
open Go.ChangeShapes Go.WideShapes Go.ChangeAt Go.RowKit

theorem keepN {c : Nat} {w1 w2 : World} {v0 v1 v2 : Value} {T : TypeId} (hk : Keep c (w1.alloc (.cells #[v0, v1, v2] T)) w2) (hne : w1.heap.size ≠ c) :
    w2.cell? ⟨w1.heap.size, 0, none⟩ = some v0 ∧ w2.cell? ⟨w1.heap.size, 1, none⟩ = some v1 ∧ w2.cell? ⟨w1.heap.size, 2, none⟩ = some v2 := by
  refine ⟨?_, ?_, ?_⟩
  · rw [hk.cell (by simp) hne]; simp [go_sem]
  · rw [hk.cell (by simp) hne]; simp [go_sem]
  · rw [hk.cell (by simp) hne]; simp [go_sem]

end Go.Proofs.YtadbbkpillfjaaaGreatDoor

/-
  The contract of two drawn cells.
-/
namespace Go.Proofs.YtadbbkpillfjaaaGreatDoor
open Go.ChangeShapes Go.WideShapes Go.ChangeAt Go.RowKit

/-- Three cells of a block, and that they may be written. -/
def Has3 (w : World) (B : Nat) (x y z : Value) : Prop :=
  (w.cell? ⟨B, 0, none⟩ = some x ∧ w.cell? ⟨B, 1, none⟩ = some y ∧ w.cell? ⟨B, 2, none⟩ = some z ∧ B < w.heap.size) ∧
  (w.frozen? ⟨B, 0, none⟩ = false ∧ w.frozen? ⟨B, 1, none⟩ = false ∧ w.frozen? ⟨B, 2, none⟩ = false)

theorem Has3.alloc {B : Nat} {w : World} {x y z : Value} (h : Has3 w B x y z) (o : Obj) : Has3 (w.alloc o) B x y z := ⟨old3 o h.1, oldF o h.1.2.2.2 h.2⟩
theorem Has3.new (w : World) (x y z : Value) (T : TypeId) : Has3 (w.alloc (.cells #[x, y, z] T)) w.heap.size x y z :=
  ⟨⟨by simp [go_sem], by simp [go_sem], by simp [go_sem], by simp⟩, by simp [go_sem], by simp [go_sem], by simp [go_sem]⟩
theorem Has3.drew {B : Nat} {w : World} {x y z : Value} (h : Has3 w B x y z) : Has3 w.drew B x y z := h
end Go.Proofs.YtadbbkpillfjaaaGreatDoor

/-
  Rows that are drawn: the contracts of the model's draws of a row, and of two rows that are held against each other.
-/
namespace Go.Proofs.YtadbbkpillfjaaaGreatDoor
open Go.ChangeShapes Go.WideShapes Go.ChangeAt Go.RowKit
attribute [local go_sem ↓] Go.wp_at_zero Go.wp_at_succ
attribute [local simp] World.cell?_alloc_past World.cell?_alloc_at World.frozen?_alloc_at cell_far cell_off cell_here World.frozen?_alloc_past

theorem Cur.far {w w' : World} {c B : Nat} {a : Option Addr} {len cap : Nat} (h : Cur w c a len cap) (hb : Below B w w') (hB : c < B) : Cur w' c a len cap := by
  refine ⟨?_, ?_, ?_, ?_, ?_, ?_, Nat.lt_of_lt_of_le h.lt hb.size, h.hlen, ?_⟩
  · rw [hb.cell (p := ⟨c, 0, none⟩) hB]; exact h.c0
  · rw [hb.cell (p := ⟨c, 1, none⟩) hB]; exact h.c1
  · rw [hb.cell (p := ⟨c, 2, none⟩) hB]; exact h.c2
  · rw [hb.frozen (p := ⟨c, 0, none⟩) hB]; exact h.f0
  · rw [hb.frozen (p := ⟨c, 1, none⟩) hB]; exact h.f1
  · rw [hb.frozen (p := ⟨c, 2, none⟩) hB]; exact h.f2
  · intro j hj
    obtain ⟨rb, ro, v, ha, hrb, hc, hv⟩ := h.row j hj
    exact ⟨rb, ro, v, ha, hrb, by rw [hb.cell (p := ⟨rb, _, none⟩) (by show rb < B; omega)]; exact hc, hv⟩
theorem Keep.far {c B : Nat} {w w1 w2 : World} (h : Keep c w w1) (hb : Below B w1 w2) (hB : w.heap.size ≤ B) : Keep c w w2 :=
  ⟨hb.os.trans h.os, hb.tape.trans h.tape, hb.output.trans h.output, Nat.le_trans h.size hb.size, fun k hk hc => (hb.block k (by omega)).trans (h.block k hk hc)⟩
theorem Fit.append {l : List CT} {x : CT} (h : Fit l) (hx : x.2.2.size ≤ maxLen) : Fit (l ++ [x]) := by
  intro j hj
  by_cases e : j < l.length
  · rw [List.getElem_append_left e]; exact h j e
  · rw [List.getElem_append_right (by omega)]; simpa using hx

end Go.Proofs.YtadbbkpillfjaaaGreatDoor

/-
  The contract of the draw of two rows.
-/
namespace Go.Proofs.YtadbbkpillfjaaaGreatDoor
open Go.ChangeShapes Go.WideShapes Go.ChangeAt Go.RowKit
attribute [local go_sem ↓] Go.wp_at_zero Go.wp_at_succ
attribute [local simp] World.cell?_alloc_past World.cell?_alloc_at World.frozen?_alloc_at cell_far cell_off cell_here World.frozen?_alloc_past

end Go.Proofs.YtadbbkpillfjaaaGreatDoor

/-
  The contract of the model's draw of several rows.
-/
namespace Go.Proofs.YtadbbkpillfjaaaGreatDoor
open Go.ChangeShapes Go.WideShapes Go.ChangeAt Go.RowKit
attribute [local go_sem ↓] Go.wp_at_zero Go.wp_at_succ
attribute [local simp] World.cell?_alloc_past World.cell?_alloc_at World.frozen?_alloc_at cell_far cell_off cell_here World.frozen?_alloc_past

/-- Rows that were drawn: few, short, and their texts fit. -/
def Drawn (L : List (List CT)) (n : Nat) : Prop := L.length ≤ n ∧ ∀ i (h : i < L.length), Fit L[i] ∧ L[i].length ≤ 1000
theorem Drawn.append {L : List (List CT)} {n : Nat} {x : List CT} (h : Drawn L n) (hf : Fit x) (hx : x.length ≤ 1000) : Drawn (L ++ [x]) (n + 1) := by
  refine ⟨by have := h.1; simp; omega, fun i hi => ?_⟩
  by_cases e : i < L.length
  · rw [List.getElem_append_left e]; exact h.2 i e
  · rw [List.getElem_append_right (by omega)]; simpa using ⟨hf, hx⟩
end Go.Proofs.YtadbbkpillfjaaaGreatDoor

/-
  A table that is being drawn: the block of its three fields, its columns and rows in memory of the call's own; the small draws of stage 5.
-/
namespace Go.Proofs.YtadbbkpillfjaaaGreatDoor
open Go.ChangeShapes Go.WideShapes Go.ChangeAt Go.RowKit
attribute [local go_sem ↓] Go.wp_at_zero Go.wp_at_succ
attribute [local simp] World.cell?_alloc_past World.cell?_alloc_at World.frozen?_alloc_at cell_far cell_off cell_here World.frozen?_alloc_past

end Go.Proofs.YtadbbkpillfjaaaGreatDoor

/-
  TableIn: which table it is, and the contract of the program's.
-/
namespace Go.Proofs.YtadbbkpillfjaaaGreatDoor
open Go.ChangeShapes Go.WideShapes Go.ChangeAt Go.RowKit Go.Maps
attribute [local go_sem ↓] Go.wp_at_zero Go.wp_at_succ
attribute [local simp] World.cell?_alloc_past World.cell?_alloc_at World.frozen?_alloc_at cell_far cell_off cell_here World.frozen?_alloc_past

end Go.Proofs.YtadbbkpillfjaaaGreatDoor

/-
  Sieves without any program: what the text of a sieve is read as, and that a right sieve is read from its text.
-/
namespace Go.Proofs.YtadbbkpillfjaaaGreatDoor

end Go.Proofs.YtadbbkpillfjaaaGreatDoor

/-
  Sieves without any program: a right sieve is read from its text.
-/
namespace Go.Proofs.YtadbbkpillfjaaaGreatDoor

end Go.Proofs.YtadbbkpillfjaaaGreatDoor

/-
  Questions without any program: what a text is read as, and that a question is read from its text.
-/
namespace Go.Proofs.YtadbbkpillfjaaaGreatDoor

end Go.Proofs.YtadbbkpillfjaaaGreatDoor
