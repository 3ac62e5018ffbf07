/-
  A part of the proof: Mem, Math, Walk1, Walk2, Eql, Walk3, Walk4, Base, KeyMath.
-/
import Derived.Test.YteamdmcgkpeelalGreatDoorRows
import Derived.WalkKit
import Derived.ProofKit
import Derived.OpenShut
import Derived.Handy
import Derived.Deep.QuietTactic
import Derived.BigQuiet
import Derived.Deep.RegionWith
import Derived.Deep.RegionHeld3
import Derived.Deep.DeepCutAuto
import Derived.Deep.DrawnRows
import Derived.Lib.ItoaNum
import Derived.Lib.ParseIntB

/-
  Worlds alone, no function: new blocks in later worlds, cells written and read again.
-/
namespace Go.Proofs.YteamdmcgkpeelalGreatDoor
open Go.ChangeShapes Go.WideShapes Go.ChangeAt Go.RowKit

theorem ret_bool {a b : Bool} (h : a = b) : Ending.returned (.bool a) = .returned (.bool b) := by rw [h]

theorem ret_int {k : IntKind} {a b : Int} (h : a = b) : Ending.returned (.int k a) = .returned (.int k b) := by rw [h]

theorem bcell {W w1 : World} (hb : Below W.heap.size W w1) : (∀ b o, b < W.heap.size → w1.cell? ⟨b, o, none⟩ = W.cell? ⟨b, o, none⟩) ∧ (∀ b o, b < W.heap.size → w1.frozen? ⟨b, o, none⟩ = W.frozen? ⟨b, o, none⟩) :=
  ⟨fun b o h => hb.cell (p := ⟨b, o, none⟩) h, fun b o h => hb.frozen (p := ⟨b, o, none⟩) h⟩

/-- What a boxed cell holds, in every later world. -/
theorem box3 {w w1 : World} {a b c : Value} {T : TypeId} (hb : Below (w.alloc (.cells #[a, b, c] T)).heap.size (w.alloc (.cells #[a, b, c] T)) w1) :
    w1.cell? ⟨w.heap.size, 0, none⟩ = some a ∧ w1.cell? ⟨w.heap.size, 1, none⟩ = some b ∧ w1.cell? ⟨w.heap.size, 2, none⟩ = some c ∧ w.heap.size < w1.heap.size := by
  refine ⟨?_, ?_, ?_, ?_⟩
  · rw [hb.cell (p := ⟨w.heap.size, 0, none⟩) (by simp)]; simp [go_sem]
  · rw [hb.cell (p := ⟨w.heap.size, 1, none⟩) (by simp)]; simp [go_sem]
  · rw [hb.cell (p := ⟨w.heap.size, 2, none⟩) (by simp)]; simp [go_sem]
  · have := hb.size; simp at this; omega

/-- The same, one call later. -/
theorem later3 {B : Nat} {w1 w2 : World} {a b c : Value} (hb : Below w1.heap.size w1 w2) (h : w1.cell? ⟨B, 0, none⟩ = some a ∧ w1.cell? ⟨B, 1, none⟩ = some b ∧ w1.cell? ⟨B, 2, none⟩ = some c ∧ B < w1.heap.size) :
    w2.cell? ⟨B, 0, none⟩ = some a ∧ w2.cell? ⟨B, 1, none⟩ = some b ∧ w2.cell? ⟨B, 2, none⟩ = some c ∧ B < w2.heap.size := by
  obtain ⟨h0, h1, h2, h3⟩ := h
  refine ⟨?_, ?_, ?_, ?_⟩
  · rw [hb.cell (p := ⟨B, 0, none⟩) h3]; exact h0
  · rw [hb.cell (p := ⟨B, 1, none⟩) h3]; exact h1
  · rw [hb.cell (p := ⟨B, 2, none⟩) h3]; exact h2
  · have := hb.size; omega

theorem chain {w w' w'' : World} (h : Below w.heap.size w w') (k : Below w'.heap.size w' w'') : Below w.heap.size w w'' := h.trans (k.mono h.size)
theorem chainA {w w'' : World} {o : Obj} (k : Below (w.alloc o).heap.size (w.alloc o) w'') : Below w.heap.size w w'' := chain ((Below.refl _ _).alloc (Nat.le_refl _) _) k

/-- A boxed cell and a new block behind it. -/
theorem two3 {w w1 : World} {a b c : Value} {T : TypeId} {x y z : Value} {U : TypeId}
    (hb : Below ((w.alloc (.cells #[a, b, c] T)).alloc (.cells #[x, y, z] U)).heap.size ((w.alloc (.cells #[a, b, c] T)).alloc (.cells #[x, y, z] U)) w1) :
    (w1.cell? ⟨w.heap.size, 0, none⟩ = some a ∧ w1.cell? ⟨w.heap.size, 1, none⟩ = some b ∧ w1.cell? ⟨w.heap.size, 2, none⟩ = some c ∧ w.heap.size < w1.heap.size) ∧
    (w1.cell? ⟨w.heap.size + 1, 0, none⟩ = some x ∧ w1.cell? ⟨w.heap.size + 1, 1, none⟩ = some y ∧ w1.cell? ⟨w.heap.size + 1, 2, none⟩ = some z ∧ w.heap.size + 1 < w1.heap.size) ∧
    (w1.frozen? ⟨w.heap.size + 1, 0, none⟩ = false ∧ w1.frozen? ⟨w.heap.size + 1, 1, none⟩ = false ∧ w1.frozen? ⟨w.heap.size + 1, 2, none⟩ = false) := by
  refine ⟨⟨?_, ?_, ?_, ?_⟩, ⟨?_, ?_, ?_, ?_⟩, ?_, ?_, ?_⟩
  · rw [hb.cell (p := ⟨w.heap.size, 0, none⟩) (by simp; omega)]; simp [go_sem]
  · rw [hb.cell (p := ⟨w.heap.size, 1, none⟩) (by simp; omega)]; simp [go_sem]
  · rw [hb.cell (p := ⟨w.heap.size, 2, none⟩) (by simp; omega)]; simp [go_sem]
  · have := hb.size; simp at this; omega
  · rw [hb.cell (p := ⟨w.heap.size + 1, 0, none⟩) (by simp)]; simp [go_sem]
  · rw [hb.cell (p := ⟨w.heap.size + 1, 1, none⟩) (by simp)]; simp [go_sem]
  · rw [hb.cell (p := ⟨w.heap.size + 1, 2, none⟩) (by simp)]; simp [go_sem]
  · have := hb.size; simp at this; omega
  · rw [hb.frozen (p := ⟨w.heap.size + 1, 0, none⟩) (by simp)]; simp [go_sem]
  · rw [hb.frozen (p := ⟨w.heap.size + 1, 1, none⟩) (by simp)]; simp [go_sem]
  · rw [hb.frozen (p := ⟨w.heap.size + 1, 2, none⟩) (by simp)]; simp [go_sem]

/-- A new block of three, in every later world, and that it may be written. -/
theorem box3F {w w1 : World} {a b c : Value} {T : TypeId} (hb : Below (w.alloc (.cells #[a, b, c] T)).heap.size (w.alloc (.cells #[a, b, c] T)) w1) :
    (w1.cell? ⟨w.heap.size, 0, none⟩ = some a ∧ w1.cell? ⟨w.heap.size, 1, none⟩ = some b ∧ w1.cell? ⟨w.heap.size, 2, none⟩ = some c ∧ w.heap.size < w1.heap.size) ∧
    (w1.frozen? ⟨w.heap.size, 0, none⟩ = false ∧ w1.frozen? ⟨w.heap.size, 1, none⟩ = false ∧ w1.frozen? ⟨w.heap.size, 2, none⟩ = false) := by
  refine ⟨box3 hb, ?_, ?_, ?_⟩
  · rw [hb.frozen (p := ⟨w.heap.size, 0, none⟩) (by simp)]; simp [go_sem]
  · rw [hb.frozen (p := ⟨w.heap.size, 1, none⟩) (by simp)]; simp [go_sem]
  · rw [hb.frozen (p := ⟨w.heap.size, 2, none⟩) (by simp)]; simp [go_sem]

theorem frozen3 {B : Nat} {w1 w2 : World} (hb : Below w1.heap.size w1 w2) (hB : B < w1.heap.size)
    (h : w1.frozen? ⟨B, 0, none⟩ = false ∧ w1.frozen? ⟨B, 1, none⟩ = false ∧ w1.frozen? ⟨B, 2, none⟩ = false) :
    w2.frozen? ⟨B, 0, none⟩ = false ∧ w2.frozen? ⟨B, 1, none⟩ = false ∧ w2.frozen? ⟨B, 2, none⟩ = false := by
  obtain ⟨h0, h1, h2⟩ := h
  refine ⟨?_, ?_, ?_⟩
  · rw [hb.frozen (p := ⟨B, 0, none⟩) hB]; exact h0
  · rw [hb.frozen (p := ⟨B, 1, none⟩) hB]; exact h1
  · rw [hb.frozen (p := ⟨B, 2, none⟩) hB]; exact h2

theorem chainAA {w w'' : World} {o o' : Obj} (k : Below ((w.alloc o).alloc o').heap.size ((w.alloc o).alloc o') w'') : Below w.heap.size w w'' := chainA (chainA k)

theorem undrew {w w1 : World} (h : Below w.drew.heap.size w.drew w1) : Below w.heap.size w w1 := ((Below.refl w.heap.size w).drew).trans h

theorem belowN {B : Nat} {a w : World} (h : Below B a w) (n : Nat) : Below B a (w.drewN n) := h.trans ⟨rfl, rfl, rfl, Nat.le_refl _, fun _ _ => rfl⟩

theorem cell_far (w : World) (m j n i : Nat) (v : Value) (h : n ≠ m) : (w.setCell ⟨m, j, none⟩ v).cell? ⟨n, i, none⟩ = w.cell? ⟨n, i, none⟩ :=
  World.cell?_of_block (w := w) (Below.heap_setCell w _ v n h)

theorem cell_off (w : World) (m j i : Nat) (v : Value) (h : i ≠ j) : (w.setCell ⟨m, j, none⟩ v).cell? ⟨m, i, none⟩ = w.cell? ⟨m, i, none⟩ :=
  World.cell?_setCell_other w ⟨m, j, none⟩ ⟨m, i, none⟩ v (fun e => h (by cases e; rfl))
theorem cell_here (w : World) (m i : Nat) (v : Value) (h : (w.cell? ⟨m, i, none⟩).isSome = true) : (w.setCell ⟨m, i, none⟩ v).cell? ⟨m, i, none⟩ = some v :=
  World.cell?_setCell_same' w ⟨m, i, none⟩ v h

section
attribute [local simp] World.cell?_alloc_past World.cell?_alloc_at World.frozen?_alloc_at
/-- Three new blocks, in every later world. -/
theorem three3 {w w1 : World} {a b c : Value} {T : TypeId} {x y z : Value} {U : TypeId} {p q r : Value} {V : TypeId}
    (hb : Below (((w.alloc (.cells #[a, b, c] T)).alloc (.cells #[x, y, z] U)).alloc (.cells #[p, q, r] V)).heap.size (((w.alloc (.cells #[a, b, c] T)).alloc (.cells #[x, y, z] U)).alloc (.cells #[p, q, r] V)) w1) :
    (w1.cell? ⟨w.heap.size, 0, none⟩ = some a ∧ w1.cell? ⟨w.heap.size, 1, none⟩ = some b ∧ w1.cell? ⟨w.heap.size, 2, none⟩ = some c ∧ w.heap.size < w1.heap.size) ∧
    (w1.cell? ⟨w.heap.size + 1, 0, none⟩ = some x ∧ w1.cell? ⟨w.heap.size + 1, 1, none⟩ = some y ∧ w1.cell? ⟨w.heap.size + 1, 2, none⟩ = some z ∧ w.heap.size + 1 < w1.heap.size) ∧
    (w1.cell? ⟨w.heap.size + 1 + 1, 0, none⟩ = some p ∧ w1.cell? ⟨w.heap.size + 1 + 1, 1, none⟩ = some q ∧ w1.cell? ⟨w.heap.size + 1 + 1, 2, none⟩ = some r ∧ w.heap.size + 1 + 1 < w1.heap.size) ∧
    (w1.frozen? ⟨w.heap.size + 1 + 1, 0, none⟩ = false ∧ w1.frozen? ⟨w.heap.size + 1 + 1, 1, none⟩ = false ∧ w1.frozen? ⟨w.heap.size + 1 + 1, 2, none⟩ = false) := by
  have hs : w.heap.size + 1 + 1 + 1 ≤ w1.heap.size := by have := hb.size; simp at this; omega
  refine ⟨⟨?_, ?_, ?_, ?_⟩, ⟨?_, ?_, ?_, ?_⟩, ⟨?_, ?_, ?_, ?_⟩, ?_, ?_, ?_⟩
  · rw [hb.cell (p := ⟨w.heap.size, 0, none⟩) (by simp; try omega)]; simp (disch := first | omega | (simp <;> omega) | fail)
  · rw [hb.cell (p := ⟨w.heap.size, 1, none⟩) (by simp; try omega)]; simp (disch := first | omega | (simp <;> omega) | fail)
  · rw [hb.cell (p := ⟨w.heap.size, 2, none⟩) (by simp; try omega)]; simp (disch := first | omega | (simp <;> omega) | fail)
  · omega
  · rw [hb.cell (p := ⟨w.heap.size + 1, 0, none⟩) (by simp; try omega)]; simp (disch := first | omega | (simp <;> omega) | fail)
  · rw [hb.cell (p := ⟨w.heap.size + 1, 1, none⟩) (by simp; try omega)]; simp (disch := first | omega | (simp <;> omega) | fail)
  · rw [hb.cell (p := ⟨w.heap.size + 1, 2, none⟩) (by simp; try omega)]; simp (disch := first | omega | (simp <;> omega) | fail)
  · omega
  · rw [hb.cell (p := ⟨w.heap.size + 1 + 1, 0, none⟩) (by simp; try omega)]; simp (disch := first | omega | (simp <;> omega) | fail)
  · rw [hb.cell (p := ⟨w.heap.size + 1 + 1, 1, none⟩) (by simp; try omega)]; simp (disch := first | omega | (simp <;> omega) | fail)
  · rw [hb.cell (p := ⟨w.heap.size + 1 + 1, 2, none⟩) (by simp; try omega)]; simp (disch := first | omega | (simp <;> omega) | fail)
  · omega
  · rw [hb.frozen (p := ⟨w.heap.size + 1 + 1, 0, none⟩) (by simp)]; simp (disch := first | omega | (simp <;> omega) | fail)
  · rw [hb.frozen (p := ⟨w.heap.size + 1 + 1, 1, none⟩) (by simp)]; simp (disch := first | omega | (simp <;> omega) | fail)
  · rw [hb.frozen (p := ⟨w.heap.size + 1 + 1, 2, none⟩) (by simp)]; simp (disch := first | omega | (simp <;> omega) | fail)

end

/-- Of what was there nothing has turned but block c. -/
structure Keep (c : Nat) (w w' : World) : Prop where
  os : w'.os = w.os
  tape : w'.tape = w.tape
  output : w'.output = w.output
  size : w.heap.size ≤ w'.heap.size
  block : ∀ k, k < w.heap.size → k ≠ c → w'.heap[k]? = w.heap[k]?

theorem Keep.refl (c : Nat) (w : World) : Keep c w w := ⟨rfl, rfl, rfl, Nat.le_refl _, fun _ _ _ => rfl⟩
theorem Keep.trans {c : Nat} {a b d : World} (h : Keep c a b) (k : Keep c b d) : Keep c a d :=
  ⟨k.os.trans h.os, k.tape.trans h.tape, k.output.trans h.output, Nat.le_trans h.size k.size, fun i hi hc => (k.block i (Nat.lt_of_lt_of_le hi h.size) hc).trans (h.block i hi hc)⟩
theorem Keep.ofBelow {c : Nat} {w w' : World} (h : Below w.heap.size w w') : Keep c w w' := ⟨h.os, h.tape, h.output, h.size, fun k hk _ => h.block k hk⟩
theorem Keep.drew {c : Nat} {a w : World} (h : Keep c a w) : Keep c a w.drew := ⟨h.os, h.tape, h.output, h.size, h.block⟩
theorem Keep.drewN {c : Nat} {a w : World} (h : Keep c a w) (n : Nat) : Keep c a (w.drewN n) := ⟨h.os, h.tape, h.output, h.size, h.block⟩
theorem Keep.alloc {c : Nat} {a w : World} (h : Keep c a w) (o : Obj) : Keep c a (w.alloc o) :=
  h.trans (Keep.ofBelow ((Below.refl _ _).alloc (Nat.le_refl _) o))
theorem Keep.setCell {c : Nat} {a w : World} (h : Keep c a w) {p : Addr} (hp : p.block = c ∨ a.heap.size ≤ p.block) (u : Value) : Keep c a (w.setCell p u) :=
  ⟨h.os, h.tape, h.output, Nat.le_trans h.size (by simp), fun k hk hc => (Below.heap_setCell w p u k (by rcases hp with hp | hp <;> omega)).trans (h.block k hk hc)⟩
theorem Keep.cell {c : Nat} {w w' : World} (h : Keep c w w') {b o : Nat} (hb : b < w.heap.size) (hc : b ≠ c) : w'.cell? ⟨b, o, none⟩ = w.cell? ⟨b, o, none⟩ :=
  World.cell?_of_block (w := w) (h.block b hb hc)
theorem Keep.frozen {c : Nat} {w w' : World} (h : Keep c w w') {b o : Nat} (hb : b < w.heap.size) (hc : b ≠ c) : w'.frozen? ⟨b, o, none⟩ = w.frozen? ⟨b, o, none⟩ :=
  World.frozen?_of_block (w := w) (h.block b hb hc)
theorem Keep.below {c B : Nat} {w w' : World} (h : Keep c w w') (hc : B ≤ c) (hB : B ≤ w.heap.size) : Below B w w' :=
  ⟨h.os, h.tape, h.output, h.size, fun k hk => h.block k (by omega) (by omega)⟩

/-- What three cells of another block hold, behind a draw. -/
theorem keep3 {c B : Nat} {w1 w2 : World} {x y z : Value} (hk : Keep c w1 w2) (hne : B ≠ c) (h : w1.cell? ⟨B, 0, none⟩ = some x ∧ w1.cell? ⟨B, 1, none⟩ = some y ∧ w1.cell? ⟨B, 2, none⟩ = some z ∧ B < w1.heap.size) :
    w2.cell? ⟨B, 0, none⟩ = some x ∧ w2.cell? ⟨B, 1, none⟩ = some y ∧ w2.cell? ⟨B, 2, none⟩ = some z ∧ B < w2.heap.size := by
  obtain ⟨h0, h1, h2, h3⟩ := h
  exact ⟨by rw [hk.cell h3 hne]; exact h0, by rw [hk.cell h3 hne]; exact h1, by rw [hk.cell h3 hne]; exact h2, Nat.lt_of_lt_of_le h3 hk.size⟩
theorem keepF {c B : Nat} {w1 w2 : World} (hk : Keep c w1 w2) (hne : B ≠ c) (hB : B < w1.heap.size) (h : w1.frozen? ⟨B, 0, none⟩ = false ∧ w1.frozen? ⟨B, 1, none⟩ = false ∧ w1.frozen? ⟨B, 2, none⟩ = false) :
    w2.frozen? ⟨B, 0, none⟩ = false ∧ w2.frozen? ⟨B, 1, none⟩ = false ∧ w2.frozen? ⟨B, 2, none⟩ = false := by
  obtain ⟨h0, h1, h2⟩ := h
  exact ⟨by rw [hk.frozen hB hne]; exact h0, by rw [hk.frozen hB hne]; exact h1, by rw [hk.frozen hB hne]; exact h2⟩

/-- Of what was there nothing has turned but the blocks of P. -/
structure KeepS (P : Nat → Prop) (w w' : World) : Prop where
  os : w'.os = w.os
  tape : w'.tape = w.tape
  output : w'.output = w.output
  size : w.heap.size ≤ w'.heap.size
  block : ∀ k, k < w.heap.size → ¬ P k → w'.heap[k]? = w.heap[k]?
theorem KeepS.refl (P : Nat → Prop) (w : World) : KeepS P w w := ⟨rfl, rfl, rfl, Nat.le_refl _, fun _ _ _ => rfl⟩
theorem KeepS.trans {P : Nat → Prop} {a b d : World} (h : KeepS P a b) (k : KeepS P b d) : KeepS P a d :=
  ⟨k.os.trans h.os, k.tape.trans h.tape, k.output.trans h.output, Nat.le_trans h.size k.size, fun i hi hc => (k.block i (Nat.lt_of_lt_of_le hi h.size) hc).trans (h.block i hi hc)⟩
theorem KeepS.ofBelow {P : Nat → Prop} {w w' : World} (h : Below w.heap.size w w') : KeepS P w w' := ⟨h.os, h.tape, h.output, h.size, fun k hk _ => h.block k hk⟩
theorem KeepS.mono {P Q : Nat → Prop} {w w' : World} (h : KeepS P w w') (hpq : ∀ k, P k → Q k) : KeepS Q w w' := ⟨h.os, h.tape, h.output, h.size, fun k hk hn => h.block k hk (fun hp => hn (hpq k hp))⟩
theorem KeepS.setCell {P : Nat → Prop} {a w : World} (h : KeepS P a w) {p : Addr} (hp : P p.block) (u : Value) : KeepS P a (w.setCell p u) :=
  ⟨h.os, h.tape, h.output, Nat.le_trans h.size (by simp), fun k hk hc => (Below.heap_setCell w p u k (fun e => hc (e ▸ hp))).trans (h.block k hk hc)⟩
theorem KeepS.cell {P : Nat → Prop} {w w' : World} (h : KeepS P w w') {b o : Nat} (hb : b < w.heap.size) (hc : ¬ P b) : w'.cell? ⟨b, o, none⟩ = w.cell? ⟨b, o, none⟩ :=
  World.cell?_of_block (w := w) (h.block b hb hc)
theorem KeepS.frozen {P : Nat → Prop} {w w' : World} (h : KeepS P w w') {b o : Nat} (hb : b < w.heap.size) (hc : ¬ P b) : w'.frozen? ⟨b, o, none⟩ = w.frozen? ⟨b, o, none⟩ :=
  World.frozen?_of_block (w := w) (h.block b hb hc)
theorem KeepS.below {P : Nat → Prop} {B : Nat} {w w' : World} (h : KeepS P w w') (hP : ∀ k, P k → B ≤ k) (hB : B ≤ w.heap.size) : Below B w w' :=
  ⟨h.os, h.tape, h.output, h.size, fun k hk => h.block k (by omega) (fun hp => by have := hP k hp; omega)⟩

end Go.Proofs.YteamdmcgkpeelalGreatDoor

/-
  Plain facts on bytes, lists and integers that the walks of this seat use: what a right cell is, and what is reckoned of two; no Go in sight.
-/
namespace Go.Proofs.YteamdmcgkpeelalGreatDoor
open Go.RowKit

/-- All bytes are of a to z. -/
def lets (l : List UInt8) : Bool := l.all fun c => decide (97 ≤ c.toNat) && decide (c.toNat ≤ 122)

theorem take_snoc (s : ByteArray) (k : Nat) (h : k < s.size) : s.data.toList.take (k + 1) = s.data.toList.take k ++ [s[k]] := by
  rw [List.take_succ_eq_append_getElem (by simpa using h)]; rfl

theorem lets_nil : lets [] = true := rfl

theorem lets_snoc (l : List UInt8) (c : UInt8) : lets (l ++ [c]) = (lets l && (decide (97 ≤ c.toNat) && decide (c.toNat ≤ 122))) := by
  unfold lets; rw [List.all_append]; simp [List.all_cons]

theorem lets_more (s : ByteArray) (k : Nat) (h : k < s.size) (hl : lets (s.data.toList.take k) = true) (h1 : 97 ≤ s[k].toNat) (h2 : s[k].toNat ≤ 122) :
    lets (s.data.toList.take (k + 1)) = true := by
  rw [take_snoc s k h, lets_snoc, hl]; simp [h1, h2]

theorem lets_not (s : ByteArray) (k : Nat) (h : k < s.size) (hc : s[k].toNat < 97 ∨ 122 < s[k].toNat) : lets s.data.toList = false := by
  have hm : s[k] ∈ s.data.toList := by
    have : s.data.toList[k]'(by simpa using h) = s[k] := rfl
    rw [← this]; exact List.getElem_mem _
  unfold lets
  rw [Bool.eq_false_iff]
  intro ha
  rw [List.all_eq_true] at ha
  have := ha _ hm
  simp only [Bool.and_eq_true, decide_eq_true_eq] at this
  omega

theorem lets_all (s : ByteArray) (k : Nat) (h : s.size ≤ k) (hl : lets (s.data.toList.take k) = true) : lets s.data.toList = true := by
  rwa [List.take_of_length_le (by simpa using h)] at hl

/-- A number that a cell may hold. -/
def numB (n : Int) : Bool := decide (-1000000000 ≤ n) && decide (n ≤ 1000000000)

/-- A right cell. -/
def okB (k n : Int) (t : ByteArray) : Bool :=
  if k = 0 then n == 0 && t.toList.isEmpty
  else if k = 1 then numB n && t.toList.isEmpty
  else if k = 2 then (lets t.data.toList && decide ((t.size : Int) ≤ 12)) && n == 0
  else if k = 3 then (decide (0 ≤ n) && decide (n ≤ 1)) && t.toList.isEmpty
  else false

theorem and_no {a b : Bool} (c : Bool) (h : ¬(a = true ∧ b = true)) : false = ((a && b) && c) := by
  cases a <;> cases b <;> simp_all

end Go.Proofs.YteamdmcgkpeelalGreatDoor

/-
  The contracts of the small functions: which texts are letters, which numbers fit.
-/
namespace Go.Proofs.YteamdmcgkpeelalGreatDoor
open Go.ChangeShapes Go.WideShapes Go.ChangeAt Go.RowKit

set_option maxHeartbeats 400000 in
theorem letters_spec (s : ByteArray) (m : Int) (w : World) (hs : s.size ≤ maxLen) :
    Calls Tryz.prog 58 #[.string s, .int .i64 m] w fun e w' => e = .returned (.bool (lets s.data.toList && decide ((s.size : Int) ≤ m))) ∧ w' = w := by
  unfold maxLen at hs
  go_enter Tryz.func58, Tryz.ntmps58
  go_wp2
  go_loop [5] (fun i => ∃ k : Nat, k ≤ s.size ∧ i = .int .i64 k ∧ Hid (lets (s.data.toList.take k) = true)) (fun i => s.size - (intOf i).toNat)
  case atStart => exact ⟨0, Nat.zero_le _, rfl, by show lets (s.data.toList.take 0) = true; simp [lets]⟩
  case round =>
    obtain ⟨k, hk, rfl, hl⟩ := hrel
    by_cases hlt : k < s.size
    · go_wp2
      all_goals first
        | (go_ret; exact ⟨ret_bool (by simp [lets_not s k hlt (by omega)]), rfl⟩)
        | (go_round
           case rel => exact ⟨k + 1, by omega, by go_num, lets_more s k hlt hl.out (by omega) (by omega)⟩
           case measure => simp [intOf]; omega)
    · go_wp2
      go_ret
      exact ⟨ret_bool (by simp [lets_all s k (by omega) hl.out]), rfl⟩

set_option maxHeartbeats 400000 in
theorem textFits_impl (s : ByteArray) (w : World) (hs : s.size ≤ maxLen) :
    Calls Tryz.prog 63 #[.string s] w fun e w' => e = .returned (.bool (lets s.data.toList && decide ((s.size : Int) ≤ 12))) ∧ w' = w := by
  unfold maxLen at hs
  by_cases h12 : (s.size : Int) ≤ 12
  · go_enter Tryz.func63, Tryz.ntmps63
    go_wp2
    go_loop [9] (fun i => ∃ k : Nat, k ≤ s.size ∧ i = .int .i64 k ∧ Hid (lets (s.data.toList.take k) = true)) (fun i => s.size - (intOf i).toNat)
    case atStart => exact ⟨0, Nat.zero_le _, rfl, by show lets (s.data.toList.take 0) = true; simp [lets]⟩
    case round =>
      obtain ⟨k, hk, rfl, hl⟩ := hrel
      by_cases hlt : k < s.size
      · go_wp2
        all_goals first
          | (go_ret; exact ⟨ret_bool (by simp [lets_not s k hlt (by omega)]), rfl⟩)
          | (go_round
             case rel => exact ⟨k + 1, by omega, by go_num, lets_more s k hlt hl.out (by omega) (by omega)⟩
             case measure => simp [intOf]; omega)
      · go_wp2
        go_ret
        exact ⟨ret_bool (by simp [lets_all s k (by omega) hl.out]), rfl⟩
  · go_enter Tryz.func63, Tryz.ntmps63
    go_wp2
    go_ret
    exact ⟨ret_bool (by simp [h12]), rfl⟩

theorem in_spec (x a b : Int) (w : World) :
    Calls Tryz.prog 60 #[.int .i64 x, .int .i64 a, .int .i64 b] w fun e w' => e = .returned (.bool (decide (a ≤ x) && decide (x ≤ b))) ∧ w' = w := by
  go_enter Tryz.func60, Tryz.ntmps60
  go_wp2
  all_goals go_ret
  all_goals exact ⟨ret_bool (by first | (simp; done) | (simp; omega)), rfl⟩

theorem number_spec (x : Int) (w : World) :
    Calls Tryz.prog 76 #[.int .i64 x] w fun e w' => e = .returned (.bool (numB x)) ∧ w' = w := by
  go_enter Tryz.func76, Tryz.ntmps76
  go_wp2_with (go_at_call 60; refine (in_spec _ _ _ _).mono ?_; rintro e w' ⟨rfl, rfl⟩)
  all_goals go_ret
  all_goals exact ⟨ret_bool (by first | (simp [numB]; done) | (simp [numB]; omega)), rfl⟩

theorem numberFits_impl (x : Int) (w : World) :
    Calls Tryz.prog 89 #[.int .i64 x] w fun e w' => e = .returned (.bool (numB x)) ∧ w' = w := by
  go_enter Tryz.func89, Tryz.ntmps89
  go_wp2
  all_goals go_ret
  all_goals exact ⟨ret_bool (by first | (simp [numB]; done) | (simp [numB]; omega)), rfl⟩

end Go.Proofs.YteamdmcgkpeelalGreatDoor

/-
  The contracts of the laws' own helpers (a cell taken over, its size, two cells held against each other) and of both functions that ask whether a cell is right.
-/
namespace Go.Proofs.YteamdmcgkpeelalGreatDoor
open Go.ChangeShapes Go.WideShapes Go.ChangeAt Go.RowKit

theorem sz_laws (k n : Int) (t : ByteArray) (l : Int) (w : World) (ht : t.size ≤ maxLen) (h0 : 0 ≤ l) (h1 : l ≤ 1048576) :
    Calls Tryz.prog 57 #[.agg #[.int .i64 k, .int .i64 n, .string t], .int .i64 l] w fun e w' => e = .returned (.int .i64 (if l < (t.size : Int) then -1 else l - t.size)) ∧ Below w.heap.size w w' := by
  unfold maxLen at ht
  by_cases hl : l < (t.size : Int)
  · have hl' : l - (t.size : Int) < 0 := by omega
    go_enter Tryz.func57, Tryz.ntmps57
    go_wp2
    go_ret
    exact ⟨rfl, by go_grown⟩
  · have hl' : ¬ l - (t.size : Int) < 0 := by omega
    go_enter Tryz.func57, Tryz.ntmps57
    go_wp2
    go_ret
    exact ⟨rfl, by go_grown⟩

theorem to_laws (k n : Int) (t : ByteArray) (w : World) :
    Calls Tryz.prog 62 #[.agg #[.int .i64 k, .int .i64 n, .string t]] w fun e w' => e = .returned (.agg #[.int .i64 k, .int .i64 n, .string t]) ∧ Below w.heap.size w w' := by
  go_enter Tryz.func62, Tryz.ntmps62
  go_wp2
  go_returns
  exact ⟨rfl, by go_grown⟩

theorem ok_spec (k n : Int) (t : ByteArray) (w : World) (ht : t.size ≤ maxLen) :
    Calls Tryz.prog 61 #[.agg #[.int .i64 k, .int .i64 n, .string t]] w fun e w' => e = .returned (.bool (okB k n t)) ∧ Below w.heap.size w w' := by
  by_cases k0 : k = 0
  · subst k0
    go_enter Tryz.func61, Tryz.ntmps61
    go_wp2
    all_goals go_ret
    all_goals exact ⟨ret_bool (by simp [okB, *]), by go_grown⟩
  by_cases k1 : k = 1
  · subst k1
    go_enter Tryz.func61, Tryz.ntmps61
    go_wp2_with (go_at_call 76; refine (number_spec _ _).mono ?_; rintro e w' ⟨rfl, rfl⟩)
    all_goals go_ret
    all_goals exact ⟨ret_bool (by simp [okB, *]), by go_grown⟩
  by_cases k2 : k = 2
  · subst k2
    go_enter Tryz.func61, Tryz.ntmps61
    cases hL : (lets t.data.toList && decide ((t.size : Int) ≤ 12))
    all_goals
      go_wp2_with (go_at_call 58; refine (letters_spec _ _ _ ht).mono ?_; rintro e w' ⟨rfl, rfl⟩)
      go_ret
      exact ⟨ret_bool (by simp only [okB, hL]; simp), by go_grown⟩
  by_cases k3 : k = 3
  · subst k3
    go_enter Tryz.func61, Tryz.ntmps61
    go_wp2_with (go_at_call 60; refine (in_spec _ _ _ _).mono ?_; rintro e w' ⟨rfl, rfl⟩)
    all_goals go_ret
    all_goals exact ⟨ret_bool (by simp [okB, *]), by go_grown⟩
  · go_enter Tryz.func61, Tryz.ntmps61
    go_wp2
    go_ret
    exact ⟨ret_bool (by simp [okB, *]), by go_grown⟩

end Go.Proofs.YteamdmcgkpeelalGreatDoor

/-
  Two cells held against each other by Go's own comparison: field by field.
-/
namespace Go.Proofs.YteamdmcgkpeelalGreatDoor
open Go.ChangeShapes Go.WideShapes Go.ChangeAt Go.RowKit

/-- Are two cells one? -/
def sameB (a b : Int) (s : ByteArray) (c d : Int) (u : ByteArray) : Bool := (a == c && b == d) && s.toList == u.toList

theorem run_eql (a b : Int) (s : ByteArray) (c d : Int) (u : ByteArray) (w : World) :
    (binOp .eql 55 (.agg #[.int .i64 a, .int .i64 b, .string s]) (.agg #[.int .i64 c, .int .i64 d, .string u])).run Tryz.prog w = .ok (.bool (sameB a b s c d u)) w := by
  by_cases h1 : a = c
  · by_cases h2 : b = d
    · subst h1 h2
      go_simp
      by_cases h3 : s.toList = u.toList
      · rw [if_pos h3]; simp [sameB, h3]
      · rw [if_neg h3]; simp [sameB, h3]
    · go_simp
      simp [sameB, h2]
  · go_simp
    simp [sameB, h1]

theorem run_neq (a b : Int) (s : ByteArray) (c d : Int) (u : ByteArray) (w : World) :
    (binOp .neq 55 (.agg #[.int .i64 a, .int .i64 b, .string s]) (.agg #[.int .i64 c, .int .i64 d, .string u])).run Tryz.prog w = .ok (.bool !(sameB a b s c d u)) w := by
  by_cases h1 : a = c
  · by_cases h2 : b = d
    · subst h1 h2
      go_simp
      by_cases h3 : s.toList = u.toList
      · rw [if_pos h3]; simp [sameB, h3]
      · rw [if_neg h3]; simp [sameB, h3]
    · go_simp
      simp [sameB, h2]
  · go_simp
    simp [sameB, h1]

theorem bytes_eq {s u : ByteArray} (h : s.toList = u.toList) : s = u := by
  rw [ByteArray.toList_eq, ByteArray.toList_eq] at h
  cases s with
  | mk x => cases u with
    | mk y => simp at h; rw [h]

theorem sameB_eq {a b : Int} {s : ByteArray} {c d : Int} {u : ByteArray} : sameB a b s c d u = true ↔ a = c ∧ b = d ∧ s = u := by
  unfold sameB
  simp only [Bool.and_eq_true, beq_iff_eq]
  exact ⟨fun ⟨⟨h1, h2⟩, h3⟩ => ⟨h1, h2, bytes_eq h3⟩, fun ⟨h1, h2, h3⟩ => ⟨⟨h1, h2⟩, by rw [h3]⟩⟩

theorem sameB_refl (a b : Int) (s : ByteArray) : sameB a b s a b s = true := sameB_eq.2 ⟨rfl, rfl, rfl⟩

end Go.Proofs.YteamdmcgkpeelalGreatDoor

/-
  The contracts of the program's own question whether a cell is right: by its shape.
-/
namespace Go.Proofs.YteamdmcgkpeelalGreatDoor
open Go.ChangeShapes Go.WideShapes Go.ChangeAt Go.RowKit

theorem shape0 (n : Int) (t : ByteArray) (w : World) :
    Calls Tryz.prog 70 #[.agg #[.int .i64 0, .int .i64 n, .string t]] w fun e w' => e = .returned (.iface 139 (.agg #[])) ∧ Below w.heap.size w w' := by
  go_enter Tryz.func70, Tryz.ntmps70
  go_wp2
  go_ret
  exact ⟨rfl, by go_grown⟩

theorem shape1 (n : Int) (t : ByteArray) (w : World) :
    Calls Tryz.prog 70 #[.agg #[.int .i64 1, .int .i64 n, .string t]] w fun e w' => e = .returned (.iface 141 (.agg #[.int .i64 n])) ∧ Below w.heap.size w w' := by
  go_enter Tryz.func70, Tryz.ntmps70
  go_wp2
  go_ret
  exact ⟨rfl, by go_grown⟩

theorem shape2 (n : Int) (t : ByteArray) (w : World) :
    Calls Tryz.prog 70 #[.agg #[.int .i64 2, .int .i64 n, .string t]] w fun e w' => e = .returned (.iface 143 (.agg #[.string t])) ∧ Below w.heap.size w w' := by
  go_enter Tryz.func70, Tryz.ntmps70
  go_wp2
  go_ret
  exact ⟨rfl, by go_grown⟩

theorem shape3 (n : Int) (t : ByteArray) (w : World) :
    Calls Tryz.prog 70 #[.agg #[.int .i64 3, .int .i64 n, .string t]] w fun e w' => e = .returned (.iface 144 (.agg #[.int .i64 n])) ∧ Below w.heap.size w w' := by
  go_enter Tryz.func70, Tryz.ntmps70
  go_wp2
  go_ret
  exact ⟨rfl, by go_grown⟩

theorem shape4 (k n : Int) (t : ByteArray) (w : World) (k0 : k ≠ 0) (k1 : k ≠ 1) (k2 : k ≠ 2) (k3 : k ≠ 3) :
    Calls Tryz.prog 70 #[.agg #[.int .i64 k, .int .i64 n, .string t]] w fun e w' => e = .returned (.iface 145 (.agg #[])) ∧ Below w.heap.size w w' := by
  go_enter Tryz.func70, Tryz.ntmps70
  go_wp2
  go_ret
  exact ⟨rfl, by go_grown⟩

theorem asserts_noneShape : (∀ (v : Value) (w : World), (Instr.typeAssert (.iface 139 v) 116 139 true).run Tryz.prog w = .ok (.tuple #[v, .bool true]) w) :=
  fun v w => by kernel_rfl

theorem asserts_numberShape : (∀ (v : Value) (w : World), (Instr.typeAssert (.iface 141 v) 116 139 true).run Tryz.prog w = .ok (.tuple #[.agg #[], .bool false]) w) ∧ (∀ (v : Value) (w : World), (Instr.typeAssert (.iface 141 v) 116 141 true).run Tryz.prog w = .ok (.tuple #[v, .bool true]) w) :=
  ⟨fun v w => by kernel_rfl, fun v w => by kernel_rfl⟩

theorem asserts_textShape : (∀ (v : Value) (w : World), (Instr.typeAssert (.iface 143 v) 116 139 true).run Tryz.prog w = .ok (.tuple #[.agg #[], .bool false]) w) ∧ (∀ (v : Value) (w : World), (Instr.typeAssert (.iface 143 v) 116 141 true).run Tryz.prog w = .ok (.tuple #[.agg #[.int .i64 0], .bool false]) w) ∧ (∀ (v : Value) (w : World), (Instr.typeAssert (.iface 143 v) 116 143 true).run Tryz.prog w = .ok (.tuple #[v, .bool true]) w) :=
  ⟨fun v w => by kernel_rfl, fun v w => by kernel_rfl, fun v w => by kernel_rfl⟩

theorem asserts_truthShape : (∀ (v : Value) (w : World), (Instr.typeAssert (.iface 144 v) 116 139 true).run Tryz.prog w = .ok (.tuple #[.agg #[], .bool false]) w) ∧ (∀ (v : Value) (w : World), (Instr.typeAssert (.iface 144 v) 116 141 true).run Tryz.prog w = .ok (.tuple #[.agg #[.int .i64 0], .bool false]) w) ∧ (∀ (v : Value) (w : World), (Instr.typeAssert (.iface 144 v) 116 143 true).run Tryz.prog w = .ok (.tuple #[.agg #[.string ⟨#[]⟩], .bool false]) w) ∧ (∀ (v : Value) (w : World), (Instr.typeAssert (.iface 144 v) 116 144 true).run Tryz.prog w = .ok (.tuple #[v, .bool true]) w) :=
  ⟨fun v w => by kernel_rfl, fun v w => by kernel_rfl, fun v w => by kernel_rfl, fun v w => by kernel_rfl⟩

theorem asserts_strangeShape : (∀ (v : Value) (w : World), (Instr.typeAssert (.iface 145 v) 116 139 true).run Tryz.prog w = .ok (.tuple #[.agg #[], .bool false]) w) ∧ (∀ (v : Value) (w : World), (Instr.typeAssert (.iface 145 v) 116 141 true).run Tryz.prog w = .ok (.tuple #[.agg #[.int .i64 0], .bool false]) w) ∧ (∀ (v : Value) (w : World), (Instr.typeAssert (.iface 145 v) 116 143 true).run Tryz.prog w = .ok (.tuple #[.agg #[.string ⟨#[]⟩], .bool false]) w) ∧ (∀ (v : Value) (w : World), (Instr.typeAssert (.iface 145 v) 116 144 true).run Tryz.prog w = .ok (.tuple #[.agg #[.int .i64 0], .bool false]) w) :=
  ⟨fun v w => by kernel_rfl, fun v w => by kernel_rfl, fun v w => by kernel_rfl, fun v w => by kernel_rfl⟩

theorem shapeOk0 (w : World) :
    Calls Tryz.prog 71 #[.iface 139 (.agg #[])] w fun e w' => e = .returned (.bool true) ∧ Below w.heap.size w w' := by
  have q0 := asserts_noneShape
  go_enter Tryz.func71, Tryz.ntmps71
  go_wp2
  go_ret
  exact ⟨rfl, by go_grown⟩

theorem shapeOk1 (n : Int) (w : World) :
    Calls Tryz.prog 71 #[.iface 141 (.agg #[.int .i64 n])] w fun e w' => e = .returned (.bool (numB n)) ∧ Below w.heap.size w w' := by
  obtain ⟨q0, q1⟩ := asserts_numberShape
  go_enter Tryz.func71, Tryz.ntmps71
  go_wp2_with (go_at_call 89; refine (numberFits_impl _ _).mono ?_; rintro e w' ⟨rfl, rfl⟩)
  go_ret
  exact ⟨rfl, by go_grown⟩

theorem shapeOk2 (t : ByteArray) (w : World) (ht : t.size ≤ maxLen) :
    Calls Tryz.prog 71 #[.iface 143 (.agg #[.string t])] w fun e w' => e = .returned (.bool (lets t.data.toList && decide ((t.size : Int) ≤ 12))) ∧ Below w.heap.size w w' := by
  obtain ⟨q0, q1, q2⟩ := asserts_textShape
  go_enter Tryz.func71, Tryz.ntmps71
  go_wp2_with (go_at_call 63; refine (textFits_impl _ _ ht).mono ?_; rintro e w' ⟨rfl, rfl⟩)
  go_ret
  exact ⟨rfl, by go_grown⟩

theorem shapeOk3 (n : Int) (w : World) :
    Calls Tryz.prog 71 #[.iface 144 (.agg #[.int .i64 n])] w fun e w' => e = .returned (.bool (decide (0 ≤ n) && decide (n ≤ 1))) ∧ Below w.heap.size w w' := by
  obtain ⟨q0, q1, q2, q3⟩ := asserts_truthShape
  go_enter Tryz.func71, Tryz.ntmps71
  go_wp2
  all_goals go_ret
  all_goals exact ⟨ret_bool (by first | (simp [*]; done) | (rw [Bool.eq_iff_iff]; simp; omega)), by go_grown⟩

theorem shapeOk4 (w : World) :
    Calls Tryz.prog 71 #[.iface 145 (.agg #[])] w fun e w' => e = .returned (.bool false) ∧ Below w.heap.size w w' := by
  obtain ⟨q0, q1, q2, q3⟩ := asserts_strangeShape
  go_enter Tryz.func71, Tryz.ntmps71
  go_wp2
  go_ret
  exact ⟨rfl, by go_grown⟩

end Go.Proofs.YteamdmcgkpeelalGreatDoor

/-
  The program's question whether a cell is right answers as it should, at every cell.
-/
namespace Go.Proofs.YteamdmcgkpeelalGreatDoor
open Go.ChangeShapes Go.WideShapes Go.ChangeAt Go.RowKit

theorem cell0 (w : World) :
    Calls Tryz.prog 128 #[.agg #[]] w fun e w' => e = .returned (.agg #[.int .i64 0, .int .i64 0, .string ⟨#[]⟩]) ∧ Below w.heap.size w w' := by
  go_enter Tryz.func128, Tryz.ntmps128
  go_wp2
  go_returns
  exact ⟨rfl, by go_grown⟩

theorem cell1 (n : Int) (w : World) :
    Calls Tryz.prog 129 #[.agg #[.int .i64 n]] w fun e w' => e = .returned (.agg #[.int .i64 1, .int .i64 n, .string ⟨#[]⟩]) ∧ Below w.heap.size w w' := by
  go_enter Tryz.func129, Tryz.ntmps129
  go_wp2
  go_returns
  exact ⟨rfl, by go_grown⟩

theorem cell2 (t : ByteArray) (w : World) :
    Calls Tryz.prog 130 #[.agg #[.string t]] w fun e w' => e = .returned (.agg #[.int .i64 2, .int .i64 0, .string t]) ∧ Below w.heap.size w w' := by
  go_enter Tryz.func130, Tryz.ntmps130
  go_wp2
  go_returns
  exact ⟨rfl, by go_grown⟩

theorem cell3 (n : Int) (w : World) :
    Calls Tryz.prog 131 #[.agg #[.int .i64 n]] w fun e w' => e = .returned (.agg #[.int .i64 3, .int .i64 n, .string ⟨#[]⟩]) ∧ Below w.heap.size w w' := by
  go_enter Tryz.func131, Tryz.ntmps131
  go_wp2
  go_returns
  exact ⟨rfl, by go_grown⟩

theorem shapeOk1b (n : Int) (b : Bool) (hg : numB n = b) (w : World) :
    Calls Tryz.prog 71 #[.iface 141 (.agg #[.int .i64 n])] w fun e w' => e = .returned (.bool b) ∧ Below w.heap.size w w' := by
  subst hg; exact shapeOk1 n w
theorem shapeOk2b (t : ByteArray) (b : Bool) (hg : (lets t.data.toList && decide ((t.size : Int) ≤ 12)) = b) (w : World) (ht : t.size ≤ maxLen) :
    Calls Tryz.prog 71 #[.iface 143 (.agg #[.string t])] w fun e w' => e = .returned (.bool b) ∧ Below w.heap.size w w' := by
  subst hg; exact shapeOk2 t w ht
theorem shapeOk3b (n : Int) (b : Bool) (hg : (decide (0 ≤ n) && decide (n ≤ 1)) = b) (w : World) :
    Calls Tryz.prog 71 #[.iface 144 (.agg #[.int .i64 n])] w fun e w' => e = .returned (.bool b) ∧ Below w.heap.size w w' := by
  subst hg; exact shapeOk3 n w

theorem toList_empty : (⟨#[]⟩ : ByteArray).toList = [] := by rw [ByteArray.toList_eq]
theorem same0 (n : Int) (t : ByteArray) : okB 0 n t = sameB 0 0 ⟨#[]⟩ 0 n t := by
  rw [Bool.eq_iff_iff, sameB_eq]
  unfold okB
  rw [if_pos rfl, Bool.and_eq_true, beq_iff_eq, List.isEmpty_iff]
  exact ⟨fun ⟨h1, h2⟩ => ⟨rfl, h1.symm, bytes_eq (by rw [h2, toList_empty])⟩, fun ⟨_, h1, h2⟩ => ⟨h1.symm, by rw [← h2, toList_empty]⟩⟩
theorem same1 (n : Int) (t : ByteArray) (k : Int) : t.toList.isEmpty = sameB k n ⟨#[]⟩ k n t := by
  rw [Bool.eq_iff_iff, sameB_eq, List.isEmpty_iff]
  exact ⟨fun h2 => ⟨rfl, rfl, bytes_eq (by rw [h2, toList_empty])⟩, fun ⟨_, _, h2⟩ => by rw [← h2, toList_empty]⟩
theorem same2 (n : Int) (t : ByteArray) (k : Int) : (n == 0) = sameB k 0 t k n t := by
  rw [Bool.eq_iff_iff, sameB_eq, beq_iff_eq]
  exact ⟨fun h => ⟨rfl, h.symm, rfl⟩, fun ⟨_, h, _⟩ => h.symm⟩

set_option maxHeartbeats 400000 in
theorem ok_impl0 (n : Int) (t : ByteArray) (w : World) :
    Calls Tryz.prog 51 #[.agg #[.int .i64 0, .int .i64 n, .string t]] w fun e w' => e = .returned (.bool (okB 0 n t)) ∧ Below w.heap.size w w' := by
  have hq := run_eql
  rw [show okB 0 n t = sameB 0 0 ⟨#[]⟩ 0 n t from same0 n t]
  go_enter Tryz.func51, Tryz.ntmps51
  go_wp2_with fail
  refine (shape0 _ _ _).mono ?_
  rintro e w1 ⟨rfl, hb1⟩
  obtain ⟨a1, b1, c1, d1⟩ := box3 hb1
  go_wp2_with fail
  first | go_region_with (first
    | (go_at_call 71; refine (shapeOk0 _).mono ?_; rintro e w2 ⟨rfl, hb2⟩; obtain ⟨a2, b2, c2, d2⟩ := later3 hb2 ⟨a1, b1, c1, d1⟩)
    | (go_at_call 128; refine (cell0 _).mono ?_; rintro e w3 ⟨rfl, hb3⟩; obtain ⟨a3, b3, c3, d3⟩ := later3 hb3 ⟨a2, b2, c2, d2⟩)) | fail
  all_goals go_wp2
  all_goals go_ret
  all_goals exact ⟨rfl, chain (chain (chainA hb1).drew hb2) hb3⟩

set_option maxHeartbeats 400000 in
theorem ok_impl1 (n : Int) (t : ByteArray) (w : World) :
    Calls Tryz.prog 51 #[.agg #[.int .i64 1, .int .i64 n, .string t]] w fun e w' => e = .returned (.bool (okB 1 n t)) ∧ Below w.heap.size w w' := by
  have hq := run_eql
  cases hg : numB n
  · rw [show okB 1 n t = false from by simp only [okB, hg]; simp]
    go_enter Tryz.func51, Tryz.ntmps51
    go_wp2_with fail
    refine (shape1 _ _ _).mono ?_
    rintro e w1 ⟨rfl, hb1⟩
    obtain ⟨a1, b1, c1, d1⟩ := box3 hb1
    go_wp2_with fail
    first | go_region_with (first
      | (go_at_call 71; refine (shapeOk1b _ _ hg _).mono ?_; rintro e w2 ⟨rfl, hb2⟩; obtain ⟨a2, b2, c2, d2⟩ := later3 hb2 ⟨a1, b1, c1, d1⟩)
      | (go_at_call 129; refine (cell1 _ _).mono ?_; rintro e w3 ⟨rfl, hb3⟩; obtain ⟨a3, b3, c3, d3⟩ := later3 hb3 ⟨a2, b2, c2, d2⟩)) | fail
    all_goals go_wp2
    all_goals go_ret
    all_goals exact ⟨rfl, chain (chainA hb1).drew hb2⟩
  · rw [show okB 1 n t = sameB 1 n ⟨#[]⟩ 1 n t from by rw [← same1]; simp [okB, hg]]
    go_enter Tryz.func51, Tryz.ntmps51
    go_wp2_with fail
    refine (shape1 _ _ _).mono ?_
    rintro e w1 ⟨rfl, hb1⟩
    obtain ⟨a1, b1, c1, d1⟩ := box3 hb1
    go_wp2_with fail
    first | go_region_with (first
      | (go_at_call 71; refine (shapeOk1b _ _ hg _).mono ?_; rintro e w2 ⟨rfl, hb2⟩; obtain ⟨a2, b2, c2, d2⟩ := later3 hb2 ⟨a1, b1, c1, d1⟩)
      | (go_at_call 129; refine (cell1 _ _).mono ?_; rintro e w3 ⟨rfl, hb3⟩; obtain ⟨a3, b3, c3, d3⟩ := later3 hb3 ⟨a2, b2, c2, d2⟩)) | fail
    all_goals go_wp2
    all_goals go_ret
    all_goals exact ⟨rfl, chain (chain (chainA hb1).drew hb2) hb3⟩

set_option maxHeartbeats 400000 in
theorem ok_impl2 (n : Int) (t : ByteArray) (w : World) (ht : t.size ≤ maxLen) :
    Calls Tryz.prog 51 #[.agg #[.int .i64 2, .int .i64 n, .string t]] w fun e w' => e = .returned (.bool (okB 2 n t)) ∧ Below w.heap.size w w' := by
  have hq := run_eql
  cases hg : (lets t.data.toList && decide ((t.size : Int) ≤ 12))
  · rw [show okB 2 n t = false from by simp only [okB, hg]; simp]
    go_enter Tryz.func51, Tryz.ntmps51
    go_wp2_with fail
    refine (shape2 _ _ _).mono ?_
    rintro e w1 ⟨rfl, hb1⟩
    obtain ⟨a1, b1, c1, d1⟩ := box3 hb1
    go_wp2_with fail
    first | go_region_with (first
      | (go_at_call 71; refine (shapeOk2b _ _ hg _ ht).mono ?_; rintro e w2 ⟨rfl, hb2⟩; obtain ⟨a2, b2, c2, d2⟩ := later3 hb2 ⟨a1, b1, c1, d1⟩)
      | (go_at_call 130; refine (cell2 _ _).mono ?_; rintro e w3 ⟨rfl, hb3⟩; obtain ⟨a3, b3, c3, d3⟩ := later3 hb3 ⟨a2, b2, c2, d2⟩)) | fail
    all_goals go_wp2
    all_goals go_ret
    all_goals exact ⟨rfl, chain (chainA hb1).drew hb2⟩
  · rw [show okB 2 n t = sameB 2 0 t 2 n t from by rw [← same2]; simp only [okB, hg]; simp]
    go_enter Tryz.func51, Tryz.ntmps51
    go_wp2_with fail
    refine (shape2 _ _ _).mono ?_
    rintro e w1 ⟨rfl, hb1⟩
    obtain ⟨a1, b1, c1, d1⟩ := box3 hb1
    go_wp2_with fail
    first | go_region_with (first
      | (go_at_call 71; refine (shapeOk2b _ _ hg _ ht).mono ?_; rintro e w2 ⟨rfl, hb2⟩; obtain ⟨a2, b2, c2, d2⟩ := later3 hb2 ⟨a1, b1, c1, d1⟩)
      | (go_at_call 130; refine (cell2 _ _).mono ?_; rintro e w3 ⟨rfl, hb3⟩; obtain ⟨a3, b3, c3, d3⟩ := later3 hb3 ⟨a2, b2, c2, d2⟩)) | fail
    all_goals go_wp2
    all_goals go_ret
    all_goals exact ⟨rfl, chain (chain (chainA hb1).drew hb2) hb3⟩

set_option maxHeartbeats 400000 in
theorem ok_impl3 (n : Int) (t : ByteArray) (w : World) :
    Calls Tryz.prog 51 #[.agg #[.int .i64 3, .int .i64 n, .string t]] w fun e w' => e = .returned (.bool (okB 3 n t)) ∧ Below w.heap.size w w' := by
  have hq := run_eql
  cases hg : (decide (0 ≤ n) && decide (n ≤ 1))
  · rw [show okB 3 n t = false from by simp only [okB, hg]; simp]
    go_enter Tryz.func51, Tryz.ntmps51
    go_wp2_with fail
    refine (shape3 _ _ _).mono ?_
    rintro e w1 ⟨rfl, hb1⟩
    obtain ⟨a1, b1, c1, d1⟩ := box3 hb1
    go_wp2_with fail
    first | go_region_with (first
      | (go_at_call 71; refine (shapeOk3b _ _ hg _).mono ?_; rintro e w2 ⟨rfl, hb2⟩; obtain ⟨a2, b2, c2, d2⟩ := later3 hb2 ⟨a1, b1, c1, d1⟩)
      | (go_at_call 131; refine (cell3 _ _).mono ?_; rintro e w3 ⟨rfl, hb3⟩; obtain ⟨a3, b3, c3, d3⟩ := later3 hb3 ⟨a2, b2, c2, d2⟩)) | fail
    all_goals go_wp2
    all_goals go_ret
    all_goals exact ⟨rfl, chain (chainA hb1).drew hb2⟩
  · rw [show okB 3 n t = sameB 3 n ⟨#[]⟩ 3 n t from by rw [← same1]; simp only [okB, hg]; simp]
    go_enter Tryz.func51, Tryz.ntmps51
    go_wp2_with fail
    refine (shape3 _ _ _).mono ?_
    rintro e w1 ⟨rfl, hb1⟩
    obtain ⟨a1, b1, c1, d1⟩ := box3 hb1
    go_wp2_with fail
    first | go_region_with (first
      | (go_at_call 71; refine (shapeOk3b _ _ hg _).mono ?_; rintro e w2 ⟨rfl, hb2⟩; obtain ⟨a2, b2, c2, d2⟩ := later3 hb2 ⟨a1, b1, c1, d1⟩)
      | (go_at_call 131; refine (cell3 _ _).mono ?_; rintro e w3 ⟨rfl, hb3⟩; obtain ⟨a3, b3, c3, d3⟩ := later3 hb3 ⟨a2, b2, c2, d2⟩)) | fail
    all_goals go_wp2
    all_goals go_ret
    all_goals exact ⟨rfl, chain (chain (chainA hb1).drew hb2) hb3⟩

set_option maxHeartbeats 400000 in
theorem ok_impl4 (k n : Int) (t : ByteArray) (w : World) (k0 : k ≠ 0) (k1 : k ≠ 1) (k2 : k ≠ 2) (k3 : k ≠ 3) :
    Calls Tryz.prog 51 #[.agg #[.int .i64 k, .int .i64 n, .string t]] w fun e w' => e = .returned (.bool (okB k n t)) ∧ Below w.heap.size w w' := by
  rw [show okB k n t = false from by simp [okB, k0, k1, k2, k3]]
  go_enter Tryz.func51, Tryz.ntmps51
  go_wp2_with fail
  refine (shape4 _ _ _ _ k0 k1 k2 k3).mono ?_
  rintro e w1 ⟨rfl, hb1⟩
  obtain ⟨a1, b1, c1, d1⟩ := box3 hb1
  go_wp2_with fail
  first | go_region_with (go_at_call 71; refine (shapeOk4 _).mono ?_; rintro e w2 ⟨rfl, hb2⟩; obtain ⟨a2, b2, c2, d2⟩ := later3 hb2 ⟨a1, b1, c1, d1⟩) | fail
  all_goals go_wp2
  all_goals go_ret
  all_goals exact ⟨rfl, chain (chainA hb1).drew hb2⟩

theorem ok_impl (k n : Int) (t : ByteArray) (w : World) (ht : t.size ≤ maxLen) :
    Calls Tryz.prog 51 #[.agg #[.int .i64 k, .int .i64 n, .string t]] w fun e w' => e = .returned (.bool (okB k n t)) ∧ Below w.heap.size w w' := by
  by_cases k0 : k = 0
  · subst k0; exact ok_impl0 n t w
  by_cases k1 : k = 1
  · subst k1; exact ok_impl1 n t w
  by_cases k2 : k = 2
  · subst k2; exact ok_impl2 n t w ht
  by_cases k3 : k = 3
  · subst k3; exact ok_impl3 n t w
  · exact ok_impl4 k n t w k0 k1 k2 k3

end Go.Proofs.YteamdmcgkpeelalGreatDoor

/-
  What every walk over cells uses: both questions whether a cell is right with the answer as a letter, new blocks in later worlds, cells written and read again.
-/
namespace Go.Proofs.YteamdmcgkpeelalGreatDoor
open Go.ChangeShapes Go.WideShapes Go.ChangeAt Go.RowKit

theorem ok_implb (k n : Int) (t : ByteArray) (b : Bool) (hb : okB k n t = b) (w : World) (ht : t.size ≤ maxLen) :
    Calls Tryz.prog 51 #[.agg #[.int .i64 k, .int .i64 n, .string t]] w fun e w' => e = .returned (.bool b) ∧ Below w.heap.size w w' := by
  subst hb; exact ok_impl k n t w ht

theorem ok_specb (k n : Int) (t : ByteArray) (b : Bool) (hb : okB k n t = b) (w : World) (ht : t.size ≤ maxLen) :
    Calls Tryz.prog 61 #[.agg #[.int .i64 k, .int .i64 n, .string t]] w fun e w' => e = .returned (.bool b) ∧ Below w.heap.size w w' := by
  subst hb; exact ok_spec k n t w ht

theorem eq_laws (a b : Int) (s : ByteArray) (w : World) :
    Calls Tryz.prog 75 #[.agg #[.int .i64 a, .int .i64 b, .string s], .agg #[.int .i64 a, .int .i64 b, .string s]] w fun e w' => e = .returned (.bool true) ∧ Below w.heap.size w w' := by
  go_enter Tryz.func75, Tryz.ntmps75
  go_wp2
  all_goals go_ret
  all_goals exact ⟨rfl, by go_grown⟩

end Go.Proofs.YteamdmcgkpeelalGreatDoor

/-
  Numerals without any program: what a list of digits spells, and that a numeral without noughts ahead is the one of what it spells.
-/
namespace Go.Proofs.YteamdmcgkpeelalGreatDoor

def isDig (c : UInt8) : Bool := decide (48 ≤ c.toNat) && decide (c.toNat ≤ 57)
/-- What digits spell behind acc. -/
def valFrom (acc : Nat) : List UInt8 → Nat
  | [] => acc
  | c :: r => valFrom (acc * 10 + (c.toNat - 48)) r
theorem valFrom_nil (acc : Nat) : valFrom acc [] = acc := rfl
theorem valFrom_one (acc : Nat) (c : UInt8) : valFrom acc [c] = acc * 10 + (c.toNat - 48) := rfl
theorem valFrom_append (l m : List UInt8) (acc : Nat) : valFrom acc (l ++ m) = valFrom (valFrom acc l) m := by
  induction l generalizing acc with
  | nil => rfl
  | cons c l ih => exact ih _
theorem valFrom_snoc (l : List UInt8) (c : UInt8) (acc : Nat) : valFrom acc (l ++ [c]) = valFrom acc l * 10 + (c.toNat - 48) := by rw [valFrom_append]; rfl
theorem valFrom_mono (l : List UInt8) (acc : Nat) : acc ≤ valFrom acc l := by
  induction l generalizing acc with
  | nil => exact Nat.le_refl _
  | cons c l ih => exact Nat.le_trans (by omega) (ih _)
theorem valFrom_lt (l : List UInt8) (acc : Nat) (h : ∀ c ∈ l, isDig c = true) : valFrom acc l < (acc + 1) * 10 ^ l.length := by
  induction l generalizing acc with
  | nil => rw [valFrom_nil, List.length_nil, Nat.pow_zero]; omega
  | cons c l ih =>
    have hc : isDig c = true := h c (by simp)
    unfold isDig at hc
    simp at hc
    have := ih (acc * 10 + (c.toNat - 48)) (fun x hx => h x (by simp [hx]))
    refine Nat.lt_of_lt_of_le this ?_
    rw [List.length_cons, Nat.pow_succ, Nat.mul_comm (10 ^ l.length) 10, ← Nat.mul_assoc]
    exact Nat.mul_le_mul_right (10 ^ l.length) (show acc * 10 + (c.toNat - 48) + 1 ≤ (acc + 1) * 10 by omega)
theorem dig_of (c : UInt8) (h : isDig c = true) : UInt8.ofNat (48 + (c.toNat - 48)) = c := by
  unfold isDig at h
  simp at h
  rw [show 48 + (c.toNat - 48) = c.toNat by omega]
  simp
theorem dig_toNat (u : Nat) (h : u < 10) : (UInt8.ofNat (48 + u)).toNat = 48 + u := by
  rw [UInt8.toNat_ofNat_of_lt']
  exact Nat.lt_of_lt_of_le (show 48 + u < 58 by omega) (by decide)
theorem isDig_of (u : Nat) (h : u < 10) : isDig (UInt8.ofNat (48 + u)) = true := by
  unfold isDig; rw [dig_toNat u h]; simp; omega
/-- No nought ahead, but for 0 itself. -/
def Plain (l : List UInt8) : Prop := l ≠ [] ∧ (∀ c ∈ l, isDig c = true) ∧ (l.head? = some 48 → l.length = 1)
theorem Plain.pos {l : List UInt8} (h : Plain l) (h1 : l.length ≠ 1) : 1 ≤ valFrom 0 l := by
  obtain ⟨h0, hd, hh⟩ := h
  cases l with
  | nil => exact absurd rfl h0
  | cons c r =>
    have hc := hd c (by simp)
    have : c ≠ 48 := fun e => h1 (hh (by simp [e]))
    have h48 : c.toNat ≠ 48 := fun e => this (UInt8.toNat_inj.1 (by simpa using e))
    unfold isDig at hc
    simp at hc
    exact Nat.le_trans (by omega) (valFrom_mono r _)
/-- A numeral without noughts ahead is that of what it spells. -/
theorem decDigits_val : ∀ (n : Nat) (l : List UInt8), l.length = n → Plain l → Lib.decDigits (valFrom 0 l) = l := by
  intro n
  induction n with
  | zero => intro l hl h; exact absurd (List.length_eq_zero_iff.1 hl) h.1
  | succ n ih =>
    intro l hl h
    rcases List.eq_nil_or_concat l with rfl | ⟨r, c, hr⟩
    · exact absurd rfl h.1
    · have hr : l = r ++ [c] := by rw [hr, List.concat_eq_append]
      subst hr
      have hc := h.2.1 c (by simp)
      have hc2 := hc
      unfold isDig at hc2
      simp at hc2
      rw [valFrom_snoc]
      cases r with
      | nil =>
        rw [valFrom_nil, show 0 * 10 + (c.toNat - 48) = c.toNat - 48 by omega, Lib.decDigits_one (by omega), dig_of c hc]
        rfl
      | cons d r =>
        have P : Plain (d :: r) := ⟨by simp, fun x hx => h.2.1 x (by simp at hx ⊢; rcases hx with h | h <;> simp [h]), fun e => by
          have := h.2.2 (by simpa using e)
          simp at this⟩
        have hne : d ≠ 48 := fun e => by
          have := h.2.2 (by simp [e])
          simp at this
        have hpos : 1 ≤ valFrom 0 (d :: r) := by
          by_cases h1 : (d :: r).length = 1
          · have : r = [] := by simpa using h1
            subst this
            have hd := P.2.1 d (by simp)
            unfold isDig at hd
            simp at hd
            have h48 : d.toNat ≠ 48 := fun e => hne (UInt8.toNat_inj.1 (by simpa using e))
            rw [valFrom_one]; omega
          · exact P.pos h1
        have hIH := ih (d :: r) (by simp at hl ⊢; omega) P
        rw [Lib.decDigits, dif_neg (by omega), show (valFrom 0 (d :: r) * 10 + (c.toNat - 48)) / 10 = valFrom 0 (d :: r) by omega, hIH,
          show (valFrom 0 (d :: r) * 10 + (c.toNat - 48)) % 10 = c.toNat - 48 by omega, dig_of c hc]
/-- A numeral spells its number, and has no nought ahead. -/
theorem decDigits_plain (u : Nat) : valFrom 0 (Lib.decDigits u) = u ∧ Plain (Lib.decDigits u) ∧ (Lib.decDigits u).head? ≠ none := by
  induction u using Nat.strongRecOn with
  | _ u ih =>
    by_cases h : u < 10
    · rw [Lib.decDigits_one h]
      refine ⟨?_, ⟨by simp, ?_, fun _ => rfl⟩, by simp⟩
      · rw [valFrom_one, dig_toNat u h]; omega
      · intro c hc; rw [List.mem_singleton] at hc; subst hc; exact isDig_of u h
    · obtain ⟨h1, h2, h3⟩ := ih (u / 10) (by omega)
      rw [Lib.decDigits, dif_neg h]
      have hm : u % 10 < 10 := by omega
      refine ⟨?_, ⟨by simp, ?_, ?_⟩, ?_⟩
      · rw [valFrom_snoc, h1, dig_toNat _ hm]; omega
      · intro c hc
        rcases List.mem_append.1 hc with h | h
        · exact h2.2.1 c h
        · rw [List.mem_singleton] at h; subst h; exact isDig_of _ hm
      · intro e
        exfalso
        cases hD : Lib.decDigits (u / 10) with
        | nil => exact h2.1 hD
        | cons d r =>
          rw [hD] at e h1 h2
          have e48 : d = 48 := by simpa using e
          have hl := h2.2.2 (by simp [e48])
          have : r = [] := by simpa using hl
          subst this
          rw [e48] at h1
          have : u / 10 = 0 := by rw [← h1]; rfl
          omega
      · simp
theorem decDigits_len (u : Nat) (h : u < 10000000000) : (Lib.decDigits u).length ≤ 10 := by
  rw [Lib.decDigits_length]
  have : ∀ (k v : Nat), v < 10 ^ (k + 1) → Lib.nDigits v ≤ k + 1 := by
    intro k
    induction k with
    | zero => intro v hv; rw [Lib.nDigits_small (by simpa using hv)]; omega
    | succ k ih =>
      intro v hv
      by_cases h10 : v < 10
      · rw [Lib.nDigits_small h10]; omega
      · rw [Lib.nDigits_big h10]
        have := ih (v / 10) (by rw [Nat.pow_succ] at hv; omega)
        omega
  exact this 9 u (by simpa using h)
/-- What ParseUint makes of digits that spell no more than a uint64 holds. -/
theorem parseUintM_val (l : List UInt8) (acc : Nat) (hd : ∀ c ∈ l, isDig c = true) (hv : valFrom acc l ≤ 18446744073709551615) : Lib.parseUintM 18446744073709551615 acc l = .ok (valFrom acc l) := by
  induction l generalizing acc with
  | nil => rfl
  | cons c r ih =>
    have hc := hd c (by simp)
    unfold isDig at hc
    simp at hc
    have hm := valFrom_mono r (acc * 10 + (c.toNat - 48))
    have hv' : valFrom (acc * 10 + (c.toNat - 48)) r ≤ 18446744073709551615 := hv
    rw [Lib.parseUintM, if_pos hc, if_neg (by omega), if_neg (by omega), ih _ (fun x hx => hd x (by simp [hx])) hv']
    rfl
theorem itoa_nonneg (n : Int) (h : 0 ≤ n) : Lib.itoa n = Lib.decDigits n.toNat := by unfold Lib.itoa; rw [if_neg (by omega)]
theorem itoa_neg (n : Int) (h : n < 0) : Lib.itoa n = 45 :: Lib.decDigits n.natAbs := by unfold Lib.itoa; rw [if_pos h]
/-- What is parsed of a numeral is its number. -/
theorem parse_itoa (n : Int) (h0 : -1000000000 ≤ n) (h1 : n ≤ 1000000000) : Lib.parseIntB 64 (Lib.itoa n) = .ok n := by
  have key : ∀ u : Nat, u ≤ 1000000000 → Lib.parseUintB 64 (Lib.decDigits u) = .ok u := by
    intro u hu
    obtain ⟨v, p, _⟩ := decDigits_plain u
    unfold Lib.parseUintB
    rw [if_neg p.1]
    have := parseUintM_val (Lib.decDigits u) 0 p.2.1 (by omega)
    rw [v] at this
    simpa using this
  by_cases hn : n < 0
  · rw [itoa_neg n hn]
    unfold Lib.parseIntB
    simp only []
    rw [if_pos (by decide), key n.natAbs (by omega)]
    simp only []
    rw [if_neg (by simp), if_neg (by simp; omega), if_pos (by decide)]
    congr 1; omega
  · rw [itoa_nonneg n (by omega)]
    obtain ⟨v, p, _⟩ := decDigits_plain n.toNat
    have k := key n.toNat (by omega)
    cases hD : Lib.decDigits n.toNat with
    | nil => exact absurd hD p.1
    | cons c r =>
      rw [hD] at k p
      have hc := p.2.1 c (by simp)
      unfold isDig at hc
      simp at hc
      unfold Lib.parseIntB
      simp only []
      rw [if_neg (by omega), k]
      simp only []
      rw [if_neg (by simp; omega), if_neg (by simp; omega), if_neg (by omega)]
      congr 1; omega

/-- What a numeral of at most ten digits, of just the form, spells. -/
def readMost (l : List UInt8) : Option Int :=
  let neg : Bool := decide (l.head? = some 45)
  let r := if neg = true then l.drop 1 else l
  if r.length < 1 ∨ 10 < r.length then none
  else if r.all isDig = true then
    if r.head? = some 48 ∧ (neg = true ∨ 1 < l.length) then none
    else some (if neg = true then -(valFrom 0 r : Int) else valFrom 0 r)
  else none
theorem readMost_itoa (n : Int) (h0 : -9999999999 ≤ n) (h1 : n ≤ 9999999999) : readMost (Lib.itoa n) = some n := by
  by_cases hn : n < 0
  · obtain ⟨v, p, _⟩ := decDigits_plain n.natAbs
    have hl := decDigits_len n.natAbs (by omega)
    have hp : (Lib.decDigits n.natAbs).length ≠ 0 := fun e => p.1 (List.length_eq_zero_iff.1 e)
    rw [itoa_neg n hn]
    unfold readMost
    simp only [List.head?_cons, decide_true, if_true, List.drop_succ_cons, List.drop_zero]
    rw [if_neg (by omega), if_pos (List.all_eq_true.2 p.2.1), if_neg, v]
    · congr 1; omega
    · rintro ⟨e, _⟩
      have h1 := p.2.2 e
      cases hD : Lib.decDigits n.natAbs with
      | nil => exact p.1 hD
      | cons c r =>
        rw [hD] at e h1 v
        have e' : c = 48 := by simpa using e
        have : r = [] := by simpa using h1
        subst this e'
        have : n.natAbs = 0 := by rw [← v]; rfl
        omega
  · obtain ⟨v, p, _⟩ := decDigits_plain n.toNat
    have hl := decDigits_len n.toNat (by omega)
    have hp : (Lib.decDigits n.toNat).length ≠ 0 := fun e => p.1 (List.length_eq_zero_iff.1 e)
    rw [itoa_nonneg n (by omega)]
    have hh : ¬ (Lib.decDigits n.toNat).head? = some 45 := by
      intro e
      cases hD : Lib.decDigits n.toNat with
      | nil => exact p.1 hD
      | cons c r =>
        rw [hD] at e p
        have e' : c = 45 := by simpa using e
        have := p.2.1 c (by simp)
        subst e'
        exact absurd this (by decide)
    unfold readMost
    simp only [hh, decide_false, Bool.false_eq_true, if_false, false_or]
    rw [if_neg (by omega), if_pos (List.all_eq_true.2 p.2.1), if_neg, v]
    · congr 1; omega
    · rintro ⟨e, h⟩
      have := p.2.2 e
      omega
theorem readMost_some {l : List UInt8} {n : Int} (h : readMost l = some n) : l = Lib.itoa n := by
  unfold readMost at h
  by_cases hh : l.head? = some 45
  · simp only [hh, decide_true, if_true] at h
    split at h
    · cases h
    · rename_i hlen
      split at h
      · rename_i hd
        split at h
        · cases h
        · rename_i h48
          injection h with h
          cases l with
          | nil => simp at hh
          | cons c r =>
            have e : c = 45 := by simpa using hh
            subst e
            simp only [List.drop_succ_cons, List.drop_zero] at *
            have P : Plain r := ⟨fun e => by subst e; simp at hlen, List.all_eq_true.1 hd, fun e => absurd ⟨e, .inl trivial⟩ h48⟩
            have hpos : 1 ≤ valFrom 0 r := by
              by_cases h1 : r.length = 1
              · cases r with
                | nil => exact absurd rfl P.1
                | cons d r =>
                  have : r = [] := by simpa using h1
                  subst this
                  have hd' := P.2.1 d (by simp)
                  unfold isDig at hd'
                  simp at hd'
                  have hne : d ≠ 48 := fun e => h48 ⟨by simp [e], .inl trivial⟩
                  have : d.toNat ≠ 48 := fun e => hne (UInt8.toNat_inj.1 (by simpa using e))
                  rw [valFrom_one]; omega
              · exact P.pos h1
            rw [itoa_neg n (by omega), show n.natAbs = valFrom 0 r by omega, decDigits_val _ r rfl P]
      · cases h
  · simp only [hh, decide_false, Bool.false_eq_true, if_false, false_or] at h
    split at h
    · cases h
    · rename_i hlen
      split at h
      · rename_i hd
        split at h
        · cases h
        · rename_i h48
          injection h with h
          have P : Plain l := ⟨fun e => by subst e; simp at hlen, List.all_eq_true.1 hd, fun e => by
            by_cases h1 : 1 < l.length
            · exact absurd ⟨e, h1⟩ h48
            · omega⟩
          rw [itoa_nonneg n (by omega), show n.toNat = valFrom 0 l by omega, decDigits_val _ l rfl P]
      · cases h
end Go.Proofs.YteamdmcgkpeelalGreatDoor
