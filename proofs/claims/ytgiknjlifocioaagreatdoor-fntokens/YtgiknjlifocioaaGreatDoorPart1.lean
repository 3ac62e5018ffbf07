/-
  A part of the proof: Mem, Math, Walk1, Walk2, Eql, Walk3, Walk4, Base, Draw1, Draw2.
-/
import Derived.Test.YtgiknjlifocioaaGreatDoorRows
import Derived.WalkKit
import Derived.ProofKit
import Derived.OpenShut
import Derived.Handy
import Derived.Deep.QuietTactic
import Derived.BigQuiet
import Derived.Deep.RegionWith
import Derived.Deep.RegionHeld3
import Derived.Deep.DeepCutAuto
import Derived.Deep.DrawnRows

/-
  Worlds alone, no function: new blocks in later worlds, cells written and read again.
-/
namespace Go.Proofs.YtgiknjlifocioaaGreatDoor
open Go.ChangeShapes Go.WideShapes Go.ChangeAt Go.RowKit

theorem ret_bool {a b : Bool} (h : a = b) : Ending.returned (.bool a) = .returned (.bool b) := by rw [h]

theorem ret_int {k : IntKind} {a b : Int} (h : a = b) : Ending.returned (.int k a) = .returned (.int k b) := by rw [h]

theorem bcell {W w1 : World} (hb : Below W.heap.size W w1) : (∀ b o, b < W.heap.size → w1.cell? ⟨b, o, none⟩ = W.cell? ⟨b, o, none⟩) ∧ (∀ b o, b < W.heap.size → w1.frozen? ⟨b, o, none⟩ = W.frozen? ⟨b, o, none⟩) :=
  ⟨fun b o h => hb.cell (p := ⟨b, o, none⟩) h, fun b o h => hb.frozen (p := ⟨b, o, none⟩) h⟩

/-- What a boxed cell holds, in every later world. -/
theorem box3 {w w1 : World} {a b c : Value} {T : TypeId} (hb : Below (w.alloc (.cells #[a, b, c] T)).heap.size (w.alloc (.cells #[a, b, c] T)) w1) :
    w1.cell? ⟨w.heap.size, 0, none⟩ = some a ∧ w1.cell? ⟨w.heap.size, 1, none⟩ = some b ∧ w1.cell? ⟨w.heap.size, 2, none⟩ = some c ∧ w.heap.size < w1.heap.size := by
  refine ⟨?_, ?_, ?_, ?_⟩
  · rw [hb.cell (p := ⟨w.heap.size, 0, none⟩) (by simp)]; simp [go_sem]
  · rw [hb.cell (p := ⟨w.heap.size, 1, none⟩) (by simp)]; simp [go_sem]
  · rw [hb.cell (p := ⟨w.heap.size, 2, none⟩) (by simp)]; simp [go_sem]
  · have := hb.size; simp at this; omega

/-- The same, one call later. -/
theorem later3 {B : Nat} {w1 w2 : World} {a b c : Value} (hb : Below w1.heap.size w1 w2) (h : w1.cell? ⟨B, 0, none⟩ = some a ∧ w1.cell? ⟨B, 1, none⟩ = some b ∧ w1.cell? ⟨B, 2, none⟩ = some c ∧ B < w1.heap.size) :
    w2.cell? ⟨B, 0, none⟩ = some a ∧ w2.cell? ⟨B, 1, none⟩ = some b ∧ w2.cell? ⟨B, 2, none⟩ = some c ∧ B < w2.heap.size := by
  obtain ⟨h0, h1, h2, h3⟩ := h
  refine ⟨?_, ?_, ?_, ?_⟩
  · rw [hb.cell (p := ⟨B, 0, none⟩) h3]; exact h0
  · rw [hb.cell (p := ⟨B, 1, none⟩) h3]; exact h1
  · rw [hb.cell (p := ⟨B, 2, none⟩) h3]; exact h2
  · have := hb.size; omega

theorem chain {w w' w'' : World} (h : Below w.heap.size w w') (k : Below w'.heap.size w' w'') : Below w.heap.size w w'' := h.trans (k.mono h.size)
theorem chainA {w w'' : World} {o : Obj} (k : Below (w.alloc o).heap.size (w.alloc o) w'') : Below w.heap.size w w'' := chain ((Below.refl _ _).alloc (Nat.le_refl _) _) k

/-- A boxed cell and a new block behind it. -/
theorem two3 {w w1 : World} {a b c : Value} {T : TypeId} {x y z : Value} {U : TypeId}
    (hb : Below ((w.alloc (.cells #[a, b, c] T)).alloc (.cells #[x, y, z] U)).heap.size ((w.alloc (.cells #[a, b, c] T)).alloc (.cells #[x, y, z] U)) w1) :
    (w1.cell? ⟨w.heap.size, 0, none⟩ = some a ∧ w1.cell? ⟨w.heap.size, 1, none⟩ = some b ∧ w1.cell? ⟨w.heap.size, 2, none⟩ = some c ∧ w.heap.size < w1.heap.size) ∧
    (w1.cell? ⟨w.heap.size + 1, 0, none⟩ = some x ∧ w1.cell? ⟨w.heap.size + 1, 1, none⟩ = some y ∧ w1.cell? ⟨w.heap.size + 1, 2, none⟩ = some z ∧ w.heap.size + 1 < w1.heap.size) ∧
    (w1.frozen? ⟨w.heap.size + 1, 0, none⟩ = false ∧ w1.frozen? ⟨w.heap.size + 1, 1, none⟩ = false ∧ w1.frozen? ⟨w.heap.size + 1, 2, none⟩ = false) := by
  refine ⟨⟨?_, ?_, ?_, ?_⟩, ⟨?_, ?_, ?_, ?_⟩, ?_, ?_, ?_⟩
  · rw [hb.cell (p := ⟨w.heap.size, 0, none⟩) (by simp; omega)]; simp [go_sem]
  · rw [hb.cell (p := ⟨w.heap.size, 1, none⟩) (by simp; omega)]; simp [go_sem]
  · rw [hb.cell (p := ⟨w.heap.size, 2, none⟩) (by simp; omega)]; simp [go_sem]
  · have := hb.size; simp at this; omega
  · rw [hb.cell (p := ⟨w.heap.size + 1, 0, none⟩) (by simp)]; simp [go_sem]
  · rw [hb.cell (p := ⟨w.heap.size + 1, 1, none⟩) (by simp)]; simp [go_sem]
  · rw [hb.cell (p := ⟨w.heap.size + 1, 2, none⟩) (by simp)]; simp [go_sem]
  · have := hb.size; simp at this; omega
  · rw [hb.frozen (p := ⟨w.heap.size + 1, 0, none⟩) (by simp)]; simp [go_sem]
  · rw [hb.frozen (p := ⟨w.heap.size + 1, 1, none⟩) (by simp)]; simp [go_sem]
  · rw [hb.frozen (p := ⟨w.heap.size + 1, 2, none⟩) (by simp)]; simp [go_sem]

/-- A new block of three, in every later world, and that it may be written. -/
theorem box3F {w w1 : World} {a b c : Value} {T : TypeId} (hb : Below (w.alloc (.cells #[a, b, c] T)).heap.size (w.alloc (.cells #[a, b, c] T)) w1) :
    (w1.cell? ⟨w.heap.size, 0, none⟩ = some a ∧ w1.cell? ⟨w.heap.size, 1, none⟩ = some b ∧ w1.cell? ⟨w.heap.size, 2, none⟩ = some c ∧ w.heap.size < w1.heap.size) ∧
    (w1.frozen? ⟨w.heap.size, 0, none⟩ = false ∧ w1.frozen? ⟨w.heap.size, 1, none⟩ = false ∧ w1.frozen? ⟨w.heap.size, 2, none⟩ = false) := by
  refine ⟨box3 hb, ?_, ?_, ?_⟩
  · rw [hb.frozen (p := ⟨w.heap.size, 0, none⟩) (by simp)]; simp [go_sem]
  · rw [hb.frozen (p := ⟨w.heap.size, 1, none⟩) (by simp)]; simp [go_sem]
  · rw [hb.frozen (p := ⟨w.heap.size, 2, none⟩) (by simp)]; simp [go_sem]

theorem frozen3 {B : Nat} {w1 w2 : World} (hb : Below w1.heap.size w1 w2) (hB : B < w1.heap.size)
    (h : w1.frozen? ⟨B, 0, none⟩ = false ∧ w1.frozen? ⟨B, 1, none⟩ = false ∧ w1.frozen? ⟨B, 2, none⟩ = false) :
    w2.frozen? ⟨B, 0, none⟩ = false ∧ w2.frozen? ⟨B, 1, none⟩ = false ∧ w2.frozen? ⟨B, 2, none⟩ = false := by
  obtain ⟨h0, h1, h2⟩ := h
  refine ⟨?_, ?_, ?_⟩
  · rw [hb.frozen (p := ⟨B, 0, none⟩) hB]; exact h0
  · rw [hb.frozen (p := ⟨B, 1, none⟩) hB]; exact h1
  · rw [hb.frozen (p := ⟨B, 2, none⟩) hB]; exact h2

theorem chainAA {w w'' : World} {o o' : Obj} (k : Below ((w.alloc o).alloc o').heap.size ((w.alloc o).alloc o') w'') : Below w.heap.size w w'' := chainA (chainA k)

theorem undrew {w w1 : World} (h : Below w.drew.heap.size w.drew w1) : Below w.heap.size w w1 := ((Below.refl w.heap.size w).drew).trans h

theorem belowN {B : Nat} {a w : World} (h : Below B a w) (n : Nat) : Below B a (w.drewN n) := h.trans ⟨rfl, rfl, rfl, Nat.le_refl _, fun _ _ => rfl⟩

theorem cell_far (w : World) (m j n i : Nat) (v : Value) (h : n ≠ m) : (w.setCell ⟨m, j, none⟩ v).cell? ⟨n, i, none⟩ = w.cell? ⟨n, i, none⟩ :=
  World.cell?_of_block (w := w) (Below.heap_setCell w _ v n h)

theorem cell_off (w : World) (m j i : Nat) (v : Value) (h : i ≠ j) : (w.setCell ⟨m, j, none⟩ v).cell? ⟨m, i, none⟩ = w.cell? ⟨m, i, none⟩ :=
  World.cell?_setCell_other w ⟨m, j, none⟩ ⟨m, i, none⟩ v (fun e => h (by cases e; rfl))
theorem cell_here (w : World) (m i : Nat) (v : Value) (h : (w.cell? ⟨m, i, none⟩).isSome = true) : (w.setCell ⟨m, i, none⟩ v).cell? ⟨m, i, none⟩ = some v :=
  World.cell?_setCell_same' w ⟨m, i, none⟩ v h

section
attribute [local simp] World.cell?_alloc_past World.cell?_alloc_at World.frozen?_alloc_at
/-- Three new blocks, in every later world. -/
theorem three3 {w w1 : World} {a b c : Value} {T : TypeId} {x y z : Value} {U : TypeId} {p q r : Value} {V : TypeId}
    (hb : Below (((w.alloc (.cells #[a, b, c] T)).alloc (.cells #[x, y, z] U)).alloc (.cells #[p, q, r] V)).heap.size (((w.alloc (.cells #[a, b, c] T)).alloc (.cells #[x, y, z] U)).alloc (.cells #[p, q, r] V)) w1) :
    (w1.cell? ⟨w.heap.size, 0, none⟩ = some a ∧ w1.cell? ⟨w.heap.size, 1, none⟩ = some b ∧ w1.cell? ⟨w.heap.size, 2, none⟩ = some c ∧ w.heap.size < w1.heap.size) ∧
    (w1.cell? ⟨w.heap.size + 1, 0, none⟩ = some x ∧ w1.cell? ⟨w.heap.size + 1, 1, none⟩ = some y ∧ w1.cell? ⟨w.heap.size + 1, 2, none⟩ = some z ∧ w.heap.size + 1 < w1.heap.size) ∧
    (w1.cell? ⟨w.heap.size + 1 + 1, 0, none⟩ = some p ∧ w1.cell? ⟨w.heap.size + 1 + 1, 1, none⟩ = some q ∧ w1.cell? ⟨w.heap.size + 1 + 1, 2, none⟩ = some r ∧ w.heap.size + 1 + 1 < w1.heap.size) ∧
    (w1.frozen? ⟨w.heap.size + 1 + 1, 0, none⟩ = false ∧ w1.frozen? ⟨w.heap.size + 1 + 1, 1, none⟩ = false ∧ w1.frozen? ⟨w.heap.size + 1 + 1, 2, none⟩ = false) := by
  have hs : w.heap.size + 1 + 1 + 1 ≤ w1.heap.size := by have := hb.size; simp at this; omega
  refine ⟨⟨?_, ?_, ?_, ?_⟩, ⟨?_, ?_, ?_, ?_⟩, ⟨?_, ?_, ?_, ?_⟩, ?_, ?_, ?_⟩
  · rw [hb.cell (p := ⟨w.heap.size, 0, none⟩) (by simp; try omega)]; simp (disch := first | omega | (simp <;> omega) | fail)
  · rw [hb.cell (p := ⟨w.heap.size, 1, none⟩) (by simp; try omega)]; simp (disch := first | omega | (simp <;> omega) | fail)
  · rw [hb.cell (p := ⟨w.heap.size, 2, none⟩) (by simp; try omega)]; simp (disch := first | omega | (simp <;> omega) | fail)
  · omega
  · rw [hb.cell (p := ⟨w.heap.size + 1, 0, none⟩) (by simp; try omega)]; simp (disch := first | omega | (simp <;> omega) | fail)
  · rw [hb.cell (p := ⟨w.heap.size + 1, 1, none⟩) (by simp; try omega)]; simp (disch := first | omega | (simp <;> omega) | fail)
  · rw [hb.cell (p := ⟨w.heap.size + 1, 2, none⟩) (by simp; try omega)]; simp (disch := first | omega | (simp <;> omega) | fail)
  · omega
  · rw [hb.cell (p := ⟨w.heap.size + 1 + 1, 0, none⟩) (by simp; try omega)]; simp (disch := first | omega | (simp <;> omega) | fail)
  · rw [hb.cell (p := ⟨w.heap.size + 1 + 1, 1, none⟩) (by simp; try omega)]; simp (disch := first | omega | (simp <;> omega) | fail)
  · rw [hb.cell (p := ⟨w.heap.size + 1 + 1, 2, none⟩) (by simp; try omega)]; simp (disch := first | omega | (simp <;> omega) | fail)
  · omega
  · rw [hb.frozen (p := ⟨w.heap.size + 1 + 1, 0, none⟩) (by simp)]; simp (disch := first | omega | (simp <;> omega) | fail)
  · rw [hb.frozen (p := ⟨w.heap.size + 1 + 1, 1, none⟩) (by simp)]; simp (disch := first | omega | (simp <;> omega) | fail)
  · rw [hb.frozen (p := ⟨w.heap.size + 1 + 1, 2, none⟩) (by simp)]; simp (disch := first | omega | (simp <;> omega) | fail)

end

/-- Of what was there nothing has turned but block c. -/
structure Keep (c : Nat) (w w' : World) : Prop where
  os : w'.os = w.os
  tape : w'.tape = w.tape
  output : w'.output = w.output
  size : w.heap.size ≤ w'.heap.size
  block : ∀ k, k < w.heap.size → k ≠ c → w'.heap[k]? = w.heap[k]?

theorem Keep.refl (c : Nat) (w : World) : Keep c w w := ⟨rfl, rfl, rfl, Nat.le_refl _, fun _ _ _ => rfl⟩
theorem Keep.trans {c : Nat} {a b d : World} (h : Keep c a b) (k : Keep c b d) : Keep c a d :=
  ⟨k.os.trans h.os, k.tape.trans h.tape, k.output.trans h.output, Nat.le_trans h.size k.size, fun i hi hc => (k.block i (Nat.lt_of_lt_of_le hi h.size) hc).trans (h.block i hi hc)⟩
theorem Keep.ofBelow {c : Nat} {w w' : World} (h : Below w.heap.size w w') : Keep c w w' := ⟨h.os, h.tape, h.output, h.size, fun k hk _ => h.block k hk⟩
theorem Keep.drew {c : Nat} {a w : World} (h : Keep c a w) : Keep c a w.drew := ⟨h.os, h.tape, h.output, h.size, h.block⟩
theorem Keep.drewN {c : Nat} {a w : World} (h : Keep c a w) (n : Nat) : Keep c a (w.drewN n) := ⟨h.os, h.tape, h.output, h.size, h.block⟩
theorem Keep.alloc {c : Nat} {a w : World} (h : Keep c a w) (o : Obj) : Keep c a (w.alloc o) :=
  h.trans (Keep.ofBelow ((Below.refl _ _).alloc (Nat.le_refl _) o))
theorem Keep.setCell {c : Nat} {a w : World} (h : Keep c a w) {p : Addr} (hp : p.block = c ∨ a.heap.size ≤ p.block) (u : Value) : Keep c a (w.setCell p u) :=
  ⟨h.os, h.tape, h.output, Nat.le_trans h.size (by simp), fun k hk hc => (Below.heap_setCell w p u k (by rcases hp with hp | hp <;> omega)).trans (h.block k hk hc)⟩
theorem Keep.cell {c : Nat} {w w' : World} (h : Keep c w w') {b o : Nat} (hb : b < w.heap.size) (hc : b ≠ c) : w'.cell? ⟨b, o, none⟩ = w.cell? ⟨b, o, none⟩ :=
  World.cell?_of_block (w := w) (h.block b hb hc)
theorem Keep.frozen {c : Nat} {w w' : World} (h : Keep c w w') {b o : Nat} (hb : b < w.heap.size) (hc : b ≠ c) : w'.frozen? ⟨b, o, none⟩ = w.frozen? ⟨b, o, none⟩ :=
  World.frozen?_of_block (w := w) (h.block b hb hc)
theorem Keep.below {c B : Nat} {w w' : World} (h : Keep c w w') (hc : B ≤ c) (hB : B ≤ w.heap.size) : Below B w w' :=
  ⟨h.os, h.tape, h.output, h.size, fun k hk => h.block k (by omega) (by omega)⟩

/-- What three cells of another block hold, behind a draw. -/
theorem keep3 {c B : Nat} {w1 w2 : World} {x y z : Value} (hk : Keep c w1 w2) (hne : B ≠ c) (h : w1.cell? ⟨B, 0, none⟩ = some x ∧ w1.cell? ⟨B, 1, none⟩ = some y ∧ w1.cell? ⟨B, 2, none⟩ = some z ∧ B < w1.heap.size) :
    w2.cell? ⟨B, 0, none⟩ = some x ∧ w2.cell? ⟨B, 1, none⟩ = some y ∧ w2.cell? ⟨B, 2, none⟩ = some z ∧ B < w2.heap.size := by
  obtain ⟨h0, h1, h2, h3⟩ := h
  exact ⟨by rw [hk.cell h3 hne]; exact h0, by rw [hk.cell h3 hne]; exact h1, by rw [hk.cell h3 hne]; exact h2, Nat.lt_of_lt_of_le h3 hk.size⟩
theorem keepF {c B : Nat} {w1 w2 : World} (hk : Keep c w1 w2) (hne : B ≠ c) (hB : B < w1.heap.size) (h : w1.frozen? ⟨B, 0, none⟩ = false ∧ w1.frozen? ⟨B, 1, none⟩ = false ∧ w1.frozen? ⟨B, 2, none⟩ = false) :
    w2.frozen? ⟨B, 0, none⟩ = false ∧ w2.frozen? ⟨B, 1, none⟩ = false ∧ w2.frozen? ⟨B, 2, none⟩ = false := by
  obtain ⟨h0, h1, h2⟩ := h
  exact ⟨by rw [hk.frozen hB hne]; exact h0, by rw [hk.frozen hB hne]; exact h1, by rw [hk.frozen hB hne]; exact h2⟩

/-- Of what was there nothing has turned but the blocks of P. -/
structure KeepS (P : Nat → Prop) (w w' : World) : Prop where
  os : w'.os = w.os
  tape : w'.tape = w.tape
  output : w'.output = w.output
  size : w.heap.size ≤ w'.heap.size
  block : ∀ k, k < w.heap.size → ¬ P k → w'.heap[k]? = w.heap[k]?
theorem KeepS.refl (P : Nat → Prop) (w : World) : KeepS P w w := ⟨rfl, rfl, rfl, Nat.le_refl _, fun _ _ _ => rfl⟩
theorem KeepS.trans {P : Nat → Prop} {a b d : World} (h : KeepS P a b) (k : KeepS P b d) : KeepS P a d :=
  ⟨k.os.trans h.os, k.tape.trans h.tape, k.output.trans h.output, Nat.le_trans h.size k.size, fun i hi hc => (k.block i (Nat.lt_of_lt_of_le hi h.size) hc).trans (h.block i hi hc)⟩
theorem KeepS.ofBelow {P : Nat → Prop} {w w' : World} (h : Below w.heap.size w w') : KeepS P w w' := ⟨h.os, h.tape, h.output, h.size, fun k hk _ => h.block k hk⟩
theorem KeepS.mono {P Q : Nat → Prop} {w w' : World} (h : KeepS P w w') (hpq : ∀ k, P k → Q k) : KeepS Q w w' := ⟨h.os, h.tape, h.output, h.size, fun k hk hn => h.block k hk (fun hp => hn (hpq k hp))⟩
theorem KeepS.setCell {P : Nat → Prop} {a w : World} (h : KeepS P a w) {p : Addr} (hp : P p.block) (u : Value) : KeepS P a (w.setCell p u) :=
  ⟨h.os, h.tape, h.output, Nat.le_trans h.size (by simp), fun k hk hc => (Below.heap_setCell w p u k (fun e => hc (e ▸ hp))).trans (h.block k hk hc)⟩
theorem KeepS.cell {P : Nat → Prop} {w w' : World} (h : KeepS P w w') {b o : Nat} (hb : b < w.heap.size) (hc : ¬ P b) : w'.cell? ⟨b, o, none⟩ = w.cell? ⟨b, o, none⟩ :=
  World.cell?_of_block (w := w) (h.block b hb hc)
theorem KeepS.frozen {P : Nat → Prop} {w w' : World} (h : KeepS P w w') {b o : Nat} (hb : b < w.heap.size) (hc : ¬ P b) : w'.frozen? ⟨b, o, none⟩ = w.frozen? ⟨b, o, none⟩ :=
  World.frozen?_of_block (w := w) (h.block b hb hc)
theorem KeepS.below {P : Nat → Prop} {B : Nat} {w w' : World} (h : KeepS P w w') (hP : ∀ k, P k → B ≤ k) (hB : B ≤ w.heap.size) : Below B w w' :=
  ⟨h.os, h.tape, h.output, h.size, fun k hk => h.block k (by omega) (fun hp => by have := hP k hp; omega)⟩

end Go.Proofs.YtgiknjlifocioaaGreatDoor

/-
  Plain facts on bytes, lists and integers that the walks of this seat use: what a right cell is, and what is reckoned of two; no Go in sight.
-/
namespace Go.Proofs.YtgiknjlifocioaaGreatDoor
open Go.RowKit

/-- All bytes are of a to z. -/
def lets (l : List UInt8) : Bool := l.all fun c => decide (97 ≤ c.toNat) && decide (c.toNat ≤ 122)

theorem take_snoc (s : ByteArray) (k : Nat) (h : k < s.size) : s.data.toList.take (k + 1) = s.data.toList.take k ++ [s[k]] := by
  rw [List.take_succ_eq_append_getElem (by simpa using h)]; rfl

theorem lets_nil : lets [] = true := rfl

theorem lets_snoc (l : List UInt8) (c : UInt8) : lets (l ++ [c]) = (lets l && (decide (97 ≤ c.toNat) && decide (c.toNat ≤ 122))) := by
  unfold lets; rw [List.all_append]; simp [List.all_cons]

theorem lets_more (s : ByteArray) (k : Nat) (h : k < s.size) (hl : lets (s.data.toList.take k) = true) (h1 : 97 ≤ s[k].toNat) (h2 : s[k].toNat ≤ 122) :
    lets (s.data.toList.take (k + 1)) = true := by
  rw [take_snoc s k h, lets_snoc, hl]; simp [h1, h2]

theorem lets_not (s : ByteArray) (k : Nat) (h : k < s.size) (hc : s[k].toNat < 97 ∨ 122 < s[k].toNat) : lets s.data.toList = false := by
  have hm : s[k] ∈ s.data.toList := by
    have : s.data.toList[k]'(by simpa using h) = s[k] := rfl
    rw [← this]; exact List.getElem_mem _
  unfold lets
  rw [Bool.eq_false_iff]
  intro ha
  rw [List.all_eq_true] at ha
  have := ha _ hm
  simp only [Bool.and_eq_true, decide_eq_true_eq] at this
  omega

theorem lets_all (s : ByteArray) (k : Nat) (h : s.size ≤ k) (hl : lets (s.data.toList.take k) = true) : lets s.data.toList = true := by
  rwa [List.take_of_length_le (by simpa using h)] at hl

/-- A number that a cell may hold. -/
def numB (n : Int) : Bool := decide (-1000000000 ≤ n) && decide (n ≤ 1000000000)

/-- A right cell. -/
def okB (k n : Int) (t : ByteArray) : Bool :=
  if k = 0 then n == 0 && t.toList.isEmpty
  else if k = 1 then numB n && t.toList.isEmpty
  else if k = 2 then (lets t.data.toList && decide ((t.size : Int) ≤ 12)) && n == 0
  else if k = 3 then (decide (0 ≤ n) && decide (n ≤ 1)) && t.toList.isEmpty
  else false

theorem and_no {a b : Bool} (c : Bool) (h : ¬(a = true ∧ b = true)) : false = ((a && b) && c) := by
  cases a <;> cases b <;> simp_all

end Go.Proofs.YtgiknjlifocioaaGreatDoor

/-
  The contracts of the small functions: which texts are letters, which numbers fit.
-/
namespace Go.Proofs.YtgiknjlifocioaaGreatDoor
open Go.ChangeShapes Go.WideShapes Go.ChangeAt Go.RowKit

set_option maxHeartbeats 400000 in
theorem letters_spec (s : ByteArray) (m : Int) (w : World) (hs : s.size ≤ maxLen) :
    Calls Tryz.prog 51 #[.string s, .int .i64 m] w fun e w' => e = .returned (.bool (lets s.data.toList && decide ((s.size : Int) ≤ m))) ∧ w' = w := by
  unfold maxLen at hs
  go_enter Tryz.func51, Tryz.ntmps51
  go_wp2
  go_loop [5] (fun i => ∃ k : Nat, k ≤ s.size ∧ i = .int .i64 k ∧ Hid (lets (s.data.toList.take k) = true)) (fun i => s.size - (intOf i).toNat)
  case atStart => exact ⟨0, Nat.zero_le _, rfl, by show lets (s.data.toList.take 0) = true; simp [lets]⟩
  case round =>
    obtain ⟨k, hk, rfl, hl⟩ := hrel
    by_cases hlt : k < s.size
    · go_wp2
      all_goals first
        | (go_ret; exact ⟨ret_bool (by simp [lets_not s k hlt (by omega)]), rfl⟩)
        | (go_round
           case rel => exact ⟨k + 1, by omega, by go_num, lets_more s k hlt hl.out (by omega) (by omega)⟩
           case measure => simp [intOf]; omega)
    · go_wp2
      go_ret
      exact ⟨ret_bool (by simp [lets_all s k (by omega) hl.out]), rfl⟩

set_option maxHeartbeats 400000 in
theorem textFits_impl (s : ByteArray) (w : World) (hs : s.size ≤ maxLen) :
    Calls Tryz.prog 68 #[.string s] w fun e w' => e = .returned (.bool (lets s.data.toList && decide ((s.size : Int) ≤ 12))) ∧ w' = w := by
  unfold maxLen at hs
  by_cases h12 : (s.size : Int) ≤ 12
  · go_enter Tryz.func68, Tryz.ntmps68
    go_wp2
    go_loop [9] (fun i => ∃ k : Nat, k ≤ s.size ∧ i = .int .i64 k ∧ Hid (lets (s.data.toList.take k) = true)) (fun i => s.size - (intOf i).toNat)
    case atStart => exact ⟨0, Nat.zero_le _, rfl, by show lets (s.data.toList.take 0) = true; simp [lets]⟩
    case round =>
      obtain ⟨k, hk, rfl, hl⟩ := hrel
      by_cases hlt : k < s.size
      · go_wp2
        all_goals first
          | (go_ret; exact ⟨ret_bool (by simp [lets_not s k hlt (by omega)]), rfl⟩)
          | (go_round
             case rel => exact ⟨k + 1, by omega, by go_num, lets_more s k hlt hl.out (by omega) (by omega)⟩
             case measure => simp [intOf]; omega)
      · go_wp2
        go_ret
        exact ⟨ret_bool (by simp [lets_all s k (by omega) hl.out]), rfl⟩
  · go_enter Tryz.func68, Tryz.ntmps68
    go_wp2
    go_ret
    exact ⟨ret_bool (by simp [h12]), rfl⟩

theorem in_spec (x a b : Int) (w : World) :
    Calls Tryz.prog 52 #[.int .i64 x, .int .i64 a, .int .i64 b] w fun e w' => e = .returned (.bool (decide (a ≤ x) && decide (x ≤ b))) ∧ w' = w := by
  go_enter Tryz.func52, Tryz.ntmps52
  go_wp2
  all_goals go_ret
  all_goals exact ⟨ret_bool (by first | (simp; done) | (simp; omega)), rfl⟩

theorem number_spec (x : Int) (w : World) :
    Calls Tryz.prog 50 #[.int .i64 x] w fun e w' => e = .returned (.bool (numB x)) ∧ w' = w := by
  go_enter Tryz.func50, Tryz.ntmps50
  go_wp2_with (go_at_call 52; refine (in_spec _ _ _ _).mono ?_; rintro e w' ⟨rfl, rfl⟩)
  all_goals go_ret
  all_goals exact ⟨ret_bool (by first | (simp [numB]; done) | (simp [numB]; omega)), rfl⟩

theorem numberFits_impl (x : Int) (w : World) :
    Calls Tryz.prog 63 #[.int .i64 x] w fun e w' => e = .returned (.bool (numB x)) ∧ w' = w := by
  go_enter Tryz.func63, Tryz.ntmps63
  go_wp2
  all_goals go_ret
  all_goals exact ⟨ret_bool (by first | (simp [numB]; done) | (simp [numB]; omega)), rfl⟩

end Go.Proofs.YtgiknjlifocioaaGreatDoor

/-
  The contracts of the laws' own helpers (a cell taken over, its size, two cells held against each other) and of both functions that ask whether a cell is right.
-/
namespace Go.Proofs.YtgiknjlifocioaaGreatDoor
open Go.ChangeShapes Go.WideShapes Go.ChangeAt Go.RowKit

theorem ok_spec (k n : Int) (t : ByteArray) (w : World) (ht : t.size ≤ maxLen) :
    Calls Tryz.prog 30 #[.agg #[.int .i64 k, .int .i64 n, .string t]] w fun e w' => e = .returned (.bool (okB k n t)) ∧ Below w.heap.size w w' := by
  by_cases k0 : k = 0
  · subst k0
    go_enter Tryz.func30, Tryz.ntmps30
    go_wp2
    all_goals go_ret
    all_goals exact ⟨ret_bool (by simp [okB, *]), by go_grown⟩
  by_cases k1 : k = 1
  · subst k1
    go_enter Tryz.func30, Tryz.ntmps30
    go_wp2_with (go_at_call 50; refine (number_spec _ _).mono ?_; rintro e w' ⟨rfl, rfl⟩)
    all_goals go_ret
    all_goals exact ⟨ret_bool (by simp [okB, *]), by go_grown⟩
  by_cases k2 : k = 2
  · subst k2
    go_enter Tryz.func30, Tryz.ntmps30
    cases hL : (lets t.data.toList && decide ((t.size : Int) ≤ 12))
    all_goals
      go_wp2_with (go_at_call 51; refine (letters_spec _ _ _ ht).mono ?_; rintro e w' ⟨rfl, rfl⟩)
      go_ret
      exact ⟨ret_bool (by simp only [okB, hL]; simp), by go_grown⟩
  by_cases k3 : k = 3
  · subst k3
    go_enter Tryz.func30, Tryz.ntmps30
    go_wp2_with (go_at_call 52; refine (in_spec _ _ _ _).mono ?_; rintro e w' ⟨rfl, rfl⟩)
    all_goals go_ret
    all_goals exact ⟨ret_bool (by simp [okB, *]), by go_grown⟩
  · go_enter Tryz.func30, Tryz.ntmps30
    go_wp2
    go_ret
    exact ⟨ret_bool (by simp [okB, *]), by go_grown⟩

end Go.Proofs.YtgiknjlifocioaaGreatDoor

/-
  Two cells held against each other by Go's own comparison: field by field.
-/
namespace Go.Proofs.YtgiknjlifocioaaGreatDoor
open Go.ChangeShapes Go.WideShapes Go.ChangeAt Go.RowKit

/-- Are two cells one? -/
def sameB (a b : Int) (s : ByteArray) (c d : Int) (u : ByteArray) : Bool := (a == c && b == d) && s.toList == u.toList

theorem run_eql (a b : Int) (s : ByteArray) (c d : Int) (u : ByteArray) (w : World) :
    (binOp .eql 31 (.agg #[.int .i64 a, .int .i64 b, .string s]) (.agg #[.int .i64 c, .int .i64 d, .string u])).run Tryz.prog w = .ok (.bool (sameB a b s c d u)) w := by
  by_cases h1 : a = c
  · by_cases h2 : b = d
    · subst h1 h2
      go_simp
      by_cases h3 : s.toList = u.toList
      · rw [if_pos h3]; simp [sameB, h3]
      · rw [if_neg h3]; simp [sameB, h3]
    · go_simp
      simp [sameB, h2]
  · go_simp
    simp [sameB, h1]

theorem run_neq (a b : Int) (s : ByteArray) (c d : Int) (u : ByteArray) (w : World) :
    (binOp .neq 31 (.agg #[.int .i64 a, .int .i64 b, .string s]) (.agg #[.int .i64 c, .int .i64 d, .string u])).run Tryz.prog w = .ok (.bool !(sameB a b s c d u)) w := by
  by_cases h1 : a = c
  · by_cases h2 : b = d
    · subst h1 h2
      go_simp
      by_cases h3 : s.toList = u.toList
      · rw [if_pos h3]; simp [sameB, h3]
      · rw [if_neg h3]; simp [sameB, h3]
    · go_simp
      simp [sameB, h2]
  · go_simp
    simp [sameB, h1]

theorem bytes_eq {s u : ByteArray} (h : s.toList = u.toList) : s = u := by
  rw [ByteArray.toList_eq, ByteArray.toList_eq] at h
  cases s with
  | mk x => cases u with
    | mk y => simp at h; rw [h]

theorem sameB_eq {a b : Int} {s : ByteArray} {c d : Int} {u : ByteArray} : sameB a b s c d u = true ↔ a = c ∧ b = d ∧ s = u := by
  unfold sameB
  simp only [Bool.and_eq_true, beq_iff_eq]
  exact ⟨fun ⟨⟨h1, h2⟩, h3⟩ => ⟨h1, h2, bytes_eq h3⟩, fun ⟨h1, h2, h3⟩ => ⟨⟨h1, h2⟩, by rw [h3]⟩⟩

theorem sameB_refl (a b : Int) (s : ByteArray) : sameB a b s a b s = true := sameB_eq.2 ⟨rfl, rfl, rfl⟩

end Go.Proofs.YtgiknjlifocioaaGreatDoor

/-
  The contracts of the program's own question whether a cell is right: by its shape.
-/
namespace Go.Proofs.YtgiknjlifocioaaGreatDoor
open Go.ChangeShapes Go.WideShapes Go.ChangeAt Go.RowKit

theorem shape0 (n : Int) (t : ByteArray) (w : World) :
    Calls Tryz.prog 45 #[.agg #[.int .i64 0, .int .i64 n, .string t]] w fun e w' => e = .returned (.iface 94 (.agg #[])) ∧ Below w.heap.size w w' := by
  go_enter Tryz.func45, Tryz.ntmps45
  go_wp2
  go_ret
  exact ⟨rfl, by go_grown⟩

theorem shape1 (n : Int) (t : ByteArray) (w : World) :
    Calls Tryz.prog 45 #[.agg #[.int .i64 1, .int .i64 n, .string t]] w fun e w' => e = .returned (.iface 96 (.agg #[.int .i64 n])) ∧ Below w.heap.size w w' := by
  go_enter Tryz.func45, Tryz.ntmps45
  go_wp2
  go_ret
  exact ⟨rfl, by go_grown⟩

theorem shape2 (n : Int) (t : ByteArray) (w : World) :
    Calls Tryz.prog 45 #[.agg #[.int .i64 2, .int .i64 n, .string t]] w fun e w' => e = .returned (.iface 98 (.agg #[.string t])) ∧ Below w.heap.size w w' := by
  go_enter Tryz.func45, Tryz.ntmps45
  go_wp2
  go_ret
  exact ⟨rfl, by go_grown⟩

theorem shape3 (n : Int) (t : ByteArray) (w : World) :
    Calls Tryz.prog 45 #[.agg #[.int .i64 3, .int .i64 n, .string t]] w fun e w' => e = .returned (.iface 99 (.agg #[.int .i64 n])) ∧ Below w.heap.size w w' := by
  go_enter Tryz.func45, Tryz.ntmps45
  go_wp2
  go_ret
  exact ⟨rfl, by go_grown⟩

theorem shape4 (k n : Int) (t : ByteArray) (w : World) (k0 : k ≠ 0) (k1 : k ≠ 1) (k2 : k ≠ 2) (k3 : k ≠ 3) :
    Calls Tryz.prog 45 #[.agg #[.int .i64 k, .int .i64 n, .string t]] w fun e w' => e = .returned (.iface 100 (.agg #[])) ∧ Below w.heap.size w w' := by
  go_enter Tryz.func45, Tryz.ntmps45
  go_wp2
  go_ret
  exact ⟨rfl, by go_grown⟩

theorem asserts_noneShape : (∀ (v : Value) (w : World), (Instr.typeAssert (.iface 94 v) 65 94 true).run Tryz.prog w = .ok (.tuple #[v, .bool true]) w) :=
  fun v w => by kernel_rfl

theorem asserts_numberShape : (∀ (v : Value) (w : World), (Instr.typeAssert (.iface 96 v) 65 94 true).run Tryz.prog w = .ok (.tuple #[.agg #[], .bool false]) w) ∧ (∀ (v : Value) (w : World), (Instr.typeAssert (.iface 96 v) 65 96 true).run Tryz.prog w = .ok (.tuple #[v, .bool true]) w) :=
  ⟨fun v w => by kernel_rfl, fun v w => by kernel_rfl⟩

theorem asserts_textShape : (∀ (v : Value) (w : World), (Instr.typeAssert (.iface 98 v) 65 94 true).run Tryz.prog w = .ok (.tuple #[.agg #[], .bool false]) w) ∧ (∀ (v : Value) (w : World), (Instr.typeAssert (.iface 98 v) 65 96 true).run Tryz.prog w = .ok (.tuple #[.agg #[.int .i64 0], .bool false]) w) ∧ (∀ (v : Value) (w : World), (Instr.typeAssert (.iface 98 v) 65 98 true).run Tryz.prog w = .ok (.tuple #[v, .bool true]) w) :=
  ⟨fun v w => by kernel_rfl, fun v w => by kernel_rfl, fun v w => by kernel_rfl⟩

theorem asserts_truthShape : (∀ (v : Value) (w : World), (Instr.typeAssert (.iface 99 v) 65 94 true).run Tryz.prog w = .ok (.tuple #[.agg #[], .bool false]) w) ∧ (∀ (v : Value) (w : World), (Instr.typeAssert (.iface 99 v) 65 96 true).run Tryz.prog w = .ok (.tuple #[.agg #[.int .i64 0], .bool false]) w) ∧ (∀ (v : Value) (w : World), (Instr.typeAssert (.iface 99 v) 65 98 true).run Tryz.prog w = .ok (.tuple #[.agg #[.string ⟨#[]⟩], .bool false]) w) ∧ (∀ (v : Value) (w : World), (Instr.typeAssert (.iface 99 v) 65 99 true).run Tryz.prog w = .ok (.tuple #[v, .bool true]) w) :=
  ⟨fun v w => by kernel_rfl, fun v w => by kernel_rfl, fun v w => by kernel_rfl, fun v w => by kernel_rfl⟩

theorem asserts_strangeShape : (∀ (v : Value) (w : World), (Instr.typeAssert (.iface 100 v) 65 94 true).run Tryz.prog w = .ok (.tuple #[.agg #[], .bool false]) w) ∧ (∀ (v : Value) (w : World), (Instr.typeAssert (.iface 100 v) 65 96 true).run Tryz.prog w = .ok (.tuple #[.agg #[.int .i64 0], .bool false]) w) ∧ (∀ (v : Value) (w : World), (Instr.typeAssert (.iface 100 v) 65 98 true).run Tryz.prog w = .ok (.tuple #[.agg #[.string ⟨#[]⟩], .bool false]) w) ∧ (∀ (v : Value) (w : World), (Instr.typeAssert (.iface 100 v) 65 99 true).run Tryz.prog w = .ok (.tuple #[.agg #[.int .i64 0], .bool false]) w) :=
  ⟨fun v w => by kernel_rfl, fun v w => by kernel_rfl, fun v w => by kernel_rfl, fun v w => by kernel_rfl⟩

theorem shapeOk0 (w : World) :
    Calls Tryz.prog 46 #[.iface 94 (.agg #[])] w fun e w' => e = .returned (.bool true) ∧ Below w.heap.size w w' := by
  have q0 := asserts_noneShape
  go_enter Tryz.func46, Tryz.ntmps46
  go_wp2
  go_ret
  exact ⟨rfl, by go_grown⟩

theorem shapeOk1 (n : Int) (w : World) :
    Calls Tryz.prog 46 #[.iface 96 (.agg #[.int .i64 n])] w fun e w' => e = .returned (.bool (numB n)) ∧ Below w.heap.size w w' := by
  obtain ⟨q0, q1⟩ := asserts_numberShape
  go_enter Tryz.func46, Tryz.ntmps46
  go_wp2_with (go_at_call 63; refine (numberFits_impl _ _).mono ?_; rintro e w' ⟨rfl, rfl⟩)
  go_ret
  exact ⟨rfl, by go_grown⟩

theorem shapeOk2 (t : ByteArray) (w : World) (ht : t.size ≤ maxLen) :
    Calls Tryz.prog 46 #[.iface 98 (.agg #[.string t])] w fun e w' => e = .returned (.bool (lets t.data.toList && decide ((t.size : Int) ≤ 12))) ∧ Below w.heap.size w w' := by
  obtain ⟨q0, q1, q2⟩ := asserts_textShape
  go_enter Tryz.func46, Tryz.ntmps46
  go_wp2_with (go_at_call 68; refine (textFits_impl _ _ ht).mono ?_; rintro e w' ⟨rfl, rfl⟩)
  go_ret
  exact ⟨rfl, by go_grown⟩

theorem shapeOk3 (n : Int) (w : World) :
    Calls Tryz.prog 46 #[.iface 99 (.agg #[.int .i64 n])] w fun e w' => e = .returned (.bool (decide (0 ≤ n) && decide (n ≤ 1))) ∧ Below w.heap.size w w' := by
  obtain ⟨q0, q1, q2, q3⟩ := asserts_truthShape
  go_enter Tryz.func46, Tryz.ntmps46
  go_wp2
  all_goals go_ret
  all_goals exact ⟨ret_bool (by first | (simp [*]; done) | (rw [Bool.eq_iff_iff]; simp; omega)), by go_grown⟩

theorem shapeOk4 (w : World) :
    Calls Tryz.prog 46 #[.iface 100 (.agg #[])] w fun e w' => e = .returned (.bool false) ∧ Below w.heap.size w w' := by
  obtain ⟨q0, q1, q2, q3⟩ := asserts_strangeShape
  go_enter Tryz.func46, Tryz.ntmps46
  go_wp2
  go_ret
  exact ⟨rfl, by go_grown⟩

end Go.Proofs.YtgiknjlifocioaaGreatDoor

/-
  The program's question whether a cell is right answers as it should, at every cell.
-/
namespace Go.Proofs.YtgiknjlifocioaaGreatDoor
open Go.ChangeShapes Go.WideShapes Go.ChangeAt Go.RowKit

theorem cell0 (w : World) :
    Calls Tryz.prog 72 #[.agg #[]] w fun e w' => e = .returned (.agg #[.int .i64 0, .int .i64 0, .string ⟨#[]⟩]) ∧ Below w.heap.size w w' := by
  go_enter Tryz.func72, Tryz.ntmps72
  go_wp2
  go_returns
  exact ⟨rfl, by go_grown⟩

theorem cell1 (n : Int) (w : World) :
    Calls Tryz.prog 79 #[.agg #[.int .i64 n]] w fun e w' => e = .returned (.agg #[.int .i64 1, .int .i64 n, .string ⟨#[]⟩]) ∧ Below w.heap.size w w' := by
  go_enter Tryz.func79, Tryz.ntmps79
  go_wp2
  go_returns
  exact ⟨rfl, by go_grown⟩

theorem cell2 (t : ByteArray) (w : World) :
    Calls Tryz.prog 77 #[.agg #[.string t]] w fun e w' => e = .returned (.agg #[.int .i64 2, .int .i64 0, .string t]) ∧ Below w.heap.size w w' := by
  go_enter Tryz.func77, Tryz.ntmps77
  go_wp2
  go_returns
  exact ⟨rfl, by go_grown⟩

theorem cell3 (n : Int) (w : World) :
    Calls Tryz.prog 83 #[.agg #[.int .i64 n]] w fun e w' => e = .returned (.agg #[.int .i64 3, .int .i64 n, .string ⟨#[]⟩]) ∧ Below w.heap.size w w' := by
  go_enter Tryz.func83, Tryz.ntmps83
  go_wp2
  go_returns
  exact ⟨rfl, by go_grown⟩

theorem shapeOk1b (n : Int) (b : Bool) (hg : numB n = b) (w : World) :
    Calls Tryz.prog 46 #[.iface 96 (.agg #[.int .i64 n])] w fun e w' => e = .returned (.bool b) ∧ Below w.heap.size w w' := by
  subst hg; exact shapeOk1 n w
theorem shapeOk2b (t : ByteArray) (b : Bool) (hg : (lets t.data.toList && decide ((t.size : Int) ≤ 12)) = b) (w : World) (ht : t.size ≤ maxLen) :
    Calls Tryz.prog 46 #[.iface 98 (.agg #[.string t])] w fun e w' => e = .returned (.bool b) ∧ Below w.heap.size w w' := by
  subst hg; exact shapeOk2 t w ht
theorem shapeOk3b (n : Int) (b : Bool) (hg : (decide (0 ≤ n) && decide (n ≤ 1)) = b) (w : World) :
    Calls Tryz.prog 46 #[.iface 99 (.agg #[.int .i64 n])] w fun e w' => e = .returned (.bool b) ∧ Below w.heap.size w w' := by
  subst hg; exact shapeOk3 n w

theorem toList_empty : (⟨#[]⟩ : ByteArray).toList = [] := by rw [ByteArray.toList_eq]
theorem same0 (n : Int) (t : ByteArray) : okB 0 n t = sameB 0 0 ⟨#[]⟩ 0 n t := by
  rw [Bool.eq_iff_iff, sameB_eq]
  unfold okB
  rw [if_pos rfl, Bool.and_eq_true, beq_iff_eq, List.isEmpty_iff]
  exact ⟨fun ⟨h1, h2⟩ => ⟨rfl, h1.symm, bytes_eq (by rw [h2, toList_empty])⟩, fun ⟨_, h1, h2⟩ => ⟨h1.symm, by rw [← h2, toList_empty]⟩⟩
theorem same1 (n : Int) (t : ByteArray) (k : Int) : t.toList.isEmpty = sameB k n ⟨#[]⟩ k n t := by
  rw [Bool.eq_iff_iff, sameB_eq, List.isEmpty_iff]
  exact ⟨fun h2 => ⟨rfl, rfl, bytes_eq (by rw [h2, toList_empty])⟩, fun ⟨_, _, h2⟩ => by rw [← h2, toList_empty]⟩
theorem same2 (n : Int) (t : ByteArray) (k : Int) : (n == 0) = sameB k 0 t k n t := by
  rw [Bool.eq_iff_iff, sameB_eq, beq_iff_eq]
  exact ⟨fun h => ⟨rfl, h.symm, rfl⟩, fun ⟨_, h, _⟩ => h.symm⟩

set_option maxHeartbeats 400000 in
theorem ok_impl0 (n : Int) (t : ByteArray) (w : World) :
    Calls Tryz.prog 27 #[.agg #[.int .i64 0, .int .i64 n, .string t]] w fun e w' => e = .returned (.bool (okB 0 n t)) ∧ Below w.heap.size w w' := by
  have hq := run_eql
  rw [show okB 0 n t = sameB 0 0 ⟨#[]⟩ 0 n t from same0 n t]
  go_enter Tryz.func27, Tryz.ntmps27
  go_wp2_with fail
  refine (shape0 _ _ _).mono ?_
  rintro e w1 ⟨rfl, hb1⟩
  obtain ⟨a1, b1, c1, d1⟩ := box3 hb1
  go_wp2_with fail
  first | go_region_with (first
    | (go_at_call 46; refine (shapeOk0 _).mono ?_; rintro e w2 ⟨rfl, hb2⟩; obtain ⟨a2, b2, c2, d2⟩ := later3 hb2 ⟨a1, b1, c1, d1⟩)
    | (go_at_call 72; refine (cell0 _).mono ?_; rintro e w3 ⟨rfl, hb3⟩; obtain ⟨a3, b3, c3, d3⟩ := later3 hb3 ⟨a2, b2, c2, d2⟩)) | fail
  all_goals go_wp2
  all_goals go_ret
  all_goals exact ⟨rfl, chain (chain (chainA hb1).drew hb2) hb3⟩

set_option maxHeartbeats 400000 in
theorem ok_impl1 (n : Int) (t : ByteArray) (w : World) :
    Calls Tryz.prog 27 #[.agg #[.int .i64 1, .int .i64 n, .string t]] w fun e w' => e = .returned (.bool (okB 1 n t)) ∧ Below w.heap.size w w' := by
  have hq := run_eql
  cases hg : numB n
  · rw [show okB 1 n t = false from by simp only [okB, hg]; simp]
    go_enter Tryz.func27, Tryz.ntmps27
    go_wp2_with fail
    refine (shape1 _ _ _).mono ?_
    rintro e w1 ⟨rfl, hb1⟩
    obtain ⟨a1, b1, c1, d1⟩ := box3 hb1
    go_wp2_with fail
    first | go_region_with (first
      | (go_at_call 46; refine (shapeOk1b _ _ hg _).mono ?_; rintro e w2 ⟨rfl, hb2⟩; obtain ⟨a2, b2, c2, d2⟩ := later3 hb2 ⟨a1, b1, c1, d1⟩)
      | (go_at_call 79; refine (cell1 _ _).mono ?_; rintro e w3 ⟨rfl, hb3⟩; obtain ⟨a3, b3, c3, d3⟩ := later3 hb3 ⟨a2, b2, c2, d2⟩)) | fail
    all_goals go_wp2
    all_goals go_ret
    all_goals exact ⟨rfl, chain (chainA hb1).drew hb2⟩
  · rw [show okB 1 n t = sameB 1 n ⟨#[]⟩ 1 n t from by rw [← same1]; simp [okB, hg]]
    go_enter Tryz.func27, Tryz.ntmps27
    go_wp2_with fail
    refine (shape1 _ _ _).mono ?_
    rintro e w1 ⟨rfl, hb1⟩
    obtain ⟨a1, b1, c1, d1⟩ := box3 hb1
    go_wp2_with fail
    first | go_region_with (first
      | (go_at_call 46; refine (shapeOk1b _ _ hg _).mono ?_; rintro e w2 ⟨rfl, hb2⟩; obtain ⟨a2, b2, c2, d2⟩ := later3 hb2 ⟨a1, b1, c1, d1⟩)
      | (go_at_call 79; refine (cell1 _ _).mono ?_; rintro e w3 ⟨rfl, hb3⟩; obtain ⟨a3, b3, c3, d3⟩ := later3 hb3 ⟨a2, b2, c2, d2⟩)) | fail
    all_goals go_wp2
    all_goals go_ret
    all_goals exact ⟨rfl, chain (chain (chainA hb1).drew hb2) hb3⟩

set_option maxHeartbeats 400000 in
theorem ok_impl2 (n : Int) (t : ByteArray) (w : World) (ht : t.size ≤ maxLen) :
    Calls Tryz.prog 27 #[.agg #[.int .i64 2, .int .i64 n, .string t]] w fun e w' => e = .returned (.bool (okB 2 n t)) ∧ Below w.heap.size w w' := by
  have hq := run_eql
  cases hg : (lets t.data.toList && decide ((t.size : Int) ≤ 12))
  · rw [show okB 2 n t = false from by simp only [okB, hg]; simp]
    go_enter Tryz.func27, Tryz.ntmps27
    go_wp2_with fail
    refine (shape2 _ _ _).mono ?_
    rintro e w1 ⟨rfl, hb1⟩
    obtain ⟨a1, b1, c1, d1⟩ := box3 hb1
    go_wp2_with fail
    first | go_region_with (first
      | (go_at_call 46; refine (shapeOk2b _ _ hg _ ht).mono ?_; rintro e w2 ⟨rfl, hb2⟩; obtain ⟨a2, b2, c2, d2⟩ := later3 hb2 ⟨a1, b1, c1, d1⟩)
      | (go_at_call 77; refine (cell2 _ _).mono ?_; rintro e w3 ⟨rfl, hb3⟩; obtain ⟨a3, b3, c3, d3⟩ := later3 hb3 ⟨a2, b2, c2, d2⟩)) | fail
    all_goals go_wp2
    all_goals go_ret
    all_goals exact ⟨rfl, chain (chainA hb1).drew hb2⟩
  · rw [show okB 2 n t = sameB 2 0 t 2 n t from by rw [← same2]; simp only [okB, hg]; simp]
    go_enter Tryz.func27, Tryz.ntmps27
    go_wp2_with fail
    refine (shape2 _ _ _).mono ?_
    rintro e w1 ⟨rfl, hb1⟩
    obtain ⟨a1, b1, c1, d1⟩ := box3 hb1
    go_wp2_with fail
    first | go_region_with (first
      | (go_at_call 46; refine (shapeOk2b _ _ hg _ ht).mono ?_; rintro e w2 ⟨rfl, hb2⟩; obtain ⟨a2, b2, c2, d2⟩ := later3 hb2 ⟨a1, b1, c1, d1⟩)
      | (go_at_call 77; refine (cell2 _ _).mono ?_; rintro e w3 ⟨rfl, hb3⟩; obtain ⟨a3, b3, c3, d3⟩ := later3 hb3 ⟨a2, b2, c2, d2⟩)) | fail
    all_goals go_wp2
    all_goals go_ret
    all_goals exact ⟨rfl, chain (chain (chainA hb1).drew hb2) hb3⟩

set_option maxHeartbeats 400000 in
theorem ok_impl3 (n : Int) (t : ByteArray) (w : World) :
    Calls Tryz.prog 27 #[.agg #[.int .i64 3, .int .i64 n, .string t]] w fun e w' => e = .returned (.bool (okB 3 n t)) ∧ Below w.heap.size w w' := by
  have hq := run_eql
  cases hg : (decide (0 ≤ n) && decide (n ≤ 1))
  · rw [show okB 3 n t = false from by simp only [okB, hg]; simp]
    go_enter Tryz.func27, Tryz.ntmps27
    go_wp2_with fail
    refine (shape3 _ _ _).mono ?_
    rintro e w1 ⟨rfl, hb1⟩
    obtain ⟨a1, b1, c1, d1⟩ := box3 hb1
    go_wp2_with fail
    first | go_region_with (first
      | (go_at_call 46; refine (shapeOk3b _ _ hg _).mono ?_; rintro e w2 ⟨rfl, hb2⟩; obtain ⟨a2, b2, c2, d2⟩ := later3 hb2 ⟨a1, b1, c1, d1⟩)
      | (go_at_call 83; refine (cell3 _ _).mono ?_; rintro e w3 ⟨rfl, hb3⟩; obtain ⟨a3, b3, c3, d3⟩ := later3 hb3 ⟨a2, b2, c2, d2⟩)) | fail
    all_goals go_wp2
    all_goals go_ret
    all_goals exact ⟨rfl, chain (chainA hb1).drew hb2⟩
  · rw [show okB 3 n t = sameB 3 n ⟨#[]⟩ 3 n t from by rw [← same1]; simp only [okB, hg]; simp]
    go_enter Tryz.func27, Tryz.ntmps27
    go_wp2_with fail
    refine (shape3 _ _ _).mono ?_
    rintro e w1 ⟨rfl, hb1⟩
    obtain ⟨a1, b1, c1, d1⟩ := box3 hb1
    go_wp2_with fail
    first | go_region_with (first
      | (go_at_call 46; refine (shapeOk3b _ _ hg _).mono ?_; rintro e w2 ⟨rfl, hb2⟩; obtain ⟨a2, b2, c2, d2⟩ := later3 hb2 ⟨a1, b1, c1, d1⟩)
      | (go_at_call 83; refine (cell3 _ _).mono ?_; rintro e w3 ⟨rfl, hb3⟩; obtain ⟨a3, b3, c3, d3⟩ := later3 hb3 ⟨a2, b2, c2, d2⟩)) | fail
    all_goals go_wp2
    all_goals go_ret
    all_goals exact ⟨rfl, chain (chain (chainA hb1).drew hb2) hb3⟩

set_option maxHeartbeats 400000 in
theorem ok_impl4 (k n : Int) (t : ByteArray) (w : World) (k0 : k ≠ 0) (k1 : k ≠ 1) (k2 : k ≠ 2) (k3 : k ≠ 3) :
    Calls Tryz.prog 27 #[.agg #[.int .i64 k, .int .i64 n, .string t]] w fun e w' => e = .returned (.bool (okB k n t)) ∧ Below w.heap.size w w' := by
  rw [show okB k n t = false from by simp [okB, k0, k1, k2, k3]]
  go_enter Tryz.func27, Tryz.ntmps27
  go_wp2_with fail
  refine (shape4 _ _ _ _ k0 k1 k2 k3).mono ?_
  rintro e w1 ⟨rfl, hb1⟩
  obtain ⟨a1, b1, c1, d1⟩ := box3 hb1
  go_wp2_with fail
  first | go_region_with (go_at_call 46; refine (shapeOk4 _).mono ?_; rintro e w2 ⟨rfl, hb2⟩; obtain ⟨a2, b2, c2, d2⟩ := later3 hb2 ⟨a1, b1, c1, d1⟩) | fail
  all_goals go_wp2
  all_goals go_ret
  all_goals exact ⟨rfl, chain (chainA hb1).drew hb2⟩

theorem ok_impl (k n : Int) (t : ByteArray) (w : World) (ht : t.size ≤ maxLen) :
    Calls Tryz.prog 27 #[.agg #[.int .i64 k, .int .i64 n, .string t]] w fun e w' => e = .returned (.bool (okB k n t)) ∧ Below w.heap.size w w' := by
  by_cases k0 : k = 0
  · subst k0; exact ok_impl0 n t w
  by_cases k1 : k = 1
  · subst k1; exact ok_impl1 n t w
  by_cases k2 : k = 2
  · subst k2; exact ok_impl2 n t w ht
  by_cases k3 : k = 3
  · subst k3; exact ok_impl3 n t w
  · exact ok_impl4 k n t w k0 k1 k2 k3

end Go.Proofs.YtgiknjlifocioaaGreatDoor

/-
  What every walk over cells uses: both questions whether a cell is right with the answer as a letter, new blocks in later worlds, cells written and read again.
-/
namespace Go.Proofs.YtgiknjlifocioaaGreatDoor
open Go.ChangeShapes Go.WideShapes Go.ChangeAt Go.RowKit

theorem ok_implb (k n : Int) (t : ByteArray) (b : Bool) (hb : okB k n t = b) (w : World) (ht : t.size ≤ maxLen) :
    Calls Tryz.prog 27 #[.agg #[.int .i64 k, .int .i64 n, .string t]] w fun e w' => e = .returned (.bool b) ∧ Below w.heap.size w w' := by
  subst hb; exact ok_impl k n t w ht

theorem ok_specb (k n : Int) (t : ByteArray) (b : Bool) (hb : okB k n t = b) (w : World) (ht : t.size ≤ maxLen) :
    Calls Tryz.prog 30 #[.agg #[.int .i64 k, .int .i64 n, .string t]] w fun e w' => e = .returned (.bool b) ∧ Below w.heap.size w w' := by
  subst hb; exact ok_spec k n t w ht

theorem truth_specb (b : Bool) (n : Int) (hn : (if b = true then 1 else 0) = n) (w : World) :
    Calls Tryz.prog 64 #[.bool b] w fun e w' => e = .returned (.agg #[.int .i64 3, .int .i64 n, .string ⟨#[]⟩]) ∧ Below w.heap.size w w' := by
  subst hn
  cases b
  all_goals
    go_enter Tryz.func64, Tryz.ntmps64
    go_wp2
    go_returns
    exact ⟨rfl, by go_grown⟩

end Go.Proofs.YtgiknjlifocioaaGreatDoor

/-
  The contracts of the drawing cursor: where it lies in memory, and that a byte drawn is from 0 to 255.
-/
namespace Go.Proofs.YtgiknjlifocioaaGreatDoor
open Go.ChangeShapes Go.WideShapes Go.ChangeAt Go.RowKit

/-- A cursor lies at block c: its bytes, how far it has come, its number. -/
structure Cur (w : World) (c : Nat) (a : Option Addr) (len cap : Nat) : Prop where
  c0 : w.cell? ⟨c, 0, none⟩ = some (.slice a len cap)
  c1 : ∃ i : Nat, w.cell? ⟨c, 1, none⟩ = some (.int .i64 (i : Int)) ∧ i ≤ len
  c2 : ∃ h : Int, w.cell? ⟨c, 2, none⟩ = some (.int .i64 h)
  f0 : w.frozen? ⟨c, 0, none⟩ = false
  f1 : w.frozen? ⟨c, 1, none⟩ = false
  f2 : w.frozen? ⟨c, 2, none⟩ = false
  lt : c < w.heap.size
  hlen : len ≤ maxLen
  row : ∀ j, j < len → ∃ (rb ro : Nat) (v : Int), a = some ⟨rb, ro, none⟩ ∧ rb < c ∧ w.cell? ⟨rb, ro + j, none⟩ = some (.int .u8 v) ∧ 0 ≤ v ∧ v ≤ 255

theorem Cur.below {w w' : World} {c : Nat} {a : Option Addr} {len cap : Nat} (h : Cur w c a len cap) (hb : Below w.heap.size w w') : Cur w' c a len cap := by
  have hc : ∀ o, w'.cell? ⟨c, o, none⟩ = w.cell? ⟨c, o, none⟩ := fun o => hb.cell (p := ⟨c, o, none⟩) h.lt
  have hf : ∀ o, w'.frozen? ⟨c, o, none⟩ = w.frozen? ⟨c, o, none⟩ := fun o => hb.frozen (p := ⟨c, o, none⟩) h.lt
  refine ⟨by rw [hc]; exact h.c0, by rw [hc]; exact h.c1, by rw [hc]; exact h.c2, by rw [hf]; exact h.f0, by rw [hf]; exact h.f1, by rw [hf]; exact h.f2, Nat.lt_of_lt_of_le h.lt hb.size, h.hlen, ?_⟩
  intro j hj
  obtain ⟨rb, ro, v, ha, hlt, hcell, hv⟩ := h.row j hj
  exact ⟨rb, ro, v, ha, hlt, by rw [hb.cell (p := ⟨rb, ro + j, none⟩) (Nat.lt_trans hlt h.lt)]; exact hcell, hv⟩

theorem Cur.drewN {w : World} {c : Nat} {a : Option Addr} {len cap : Nat} (h : Cur w c a len cap) (n : Nat) : Cur (w.drewN n) c a len cap :=
  ⟨h.c0, h.c1, h.c2, h.f0, h.f1, h.f2, h.lt, h.hlen, h.row⟩
theorem Cur.drew {w : World} {c : Nat} {a : Option Addr} {len cap : Nat} (h : Cur w c a len cap) : Cur w.drew c a len cap :=
  ⟨h.c0, h.c1, h.c2, h.f0, h.f1, h.f2, h.lt, h.hlen, h.row⟩

theorem set_row {w : World} {c : Nat} {a : Option Addr} {len o : Nat} {u : Value} (row : ∀ j, j < len → ∃ (rb ro : Nat) (v : Int), a = some ⟨rb, ro, none⟩ ∧ rb < c ∧ w.cell? ⟨rb, ro + j, none⟩ = some (.int .u8 v) ∧ 0 ≤ v ∧ v ≤ 255) :
    ∀ j, j < len → ∃ (rb ro : Nat) (v : Int), a = some ⟨rb, ro, none⟩ ∧ rb < c ∧ (w.setCell ⟨c, o, none⟩ u).cell? ⟨rb, ro + j, none⟩ = some (.int .u8 v) ∧ 0 ≤ v ∧ v ≤ 255 := by
  intro j hj
  obtain ⟨rb, ro, v, ha, hlt, hcell, hv⟩ := row j hj
  exact ⟨rb, ro, v, ha, hlt, by rw [World.cell?_of_block (w := w) (Below.heap_setCell w _ u rb (Nat.ne_of_lt hlt))]; exact hcell, hv⟩

theorem Cur.set2 {w : World} {c : Nat} {a : Option Addr} {len cap : Nat} (h : Cur w c a len cap) (v : Int) : Cur (w.setCell ⟨c, 2, none⟩ (.int .i64 v)) c a len cap := by
  obtain ⟨c0, ⟨i, c1, hi⟩, ⟨hh, c2⟩, f0, f1, f2, lt, hlen, row⟩ := h
  refine ⟨?_, ⟨i, ?_, hi⟩, ⟨v, ?_⟩, by rw [World.frozen?_setCell]; exact f0, by rw [World.frozen?_setCell]; exact f1, by rw [World.frozen?_setCell]; exact f2, by simpa using lt, hlen, set_row row⟩
  · rw [World.cell?_setCell_other _ _ _ _ (by simp)]; exact c0
  · rw [World.cell?_setCell_other _ _ _ _ (by simp)]; exact c1
  · exact World.cell?_setCell_same _ _ _ c2

theorem Cur.set1 {w : World} {c : Nat} {a : Option Addr} {len cap : Nat} (h : Cur w c a len cap) (i : Nat) (hi : i ≤ len) (v : Int) (hv : v = (i : Int)) : Cur (w.setCell ⟨c, 1, none⟩ (.int .i64 v)) c a len cap := by
  subst hv
  obtain ⟨c0, ⟨i', c1, _⟩, ⟨hh, c2⟩, f0, f1, f2, lt, hlen, row⟩ := h
  refine ⟨?_, ⟨i, ?_, hi⟩, ⟨hh, ?_⟩, by rw [World.frozen?_setCell]; exact f0, by rw [World.frozen?_setCell]; exact f1, by rw [World.frozen?_setCell]; exact f2, by simpa using lt, hlen, set_row row⟩
  · rw [World.cell?_setCell_other _ _ _ _ (by simp)]; exact c0
  · exact World.cell?_setCell_same _ _ _ c1
  · rw [World.cell?_setCell_other _ _ _ _ (by simp)]; exact c2

/-- A store into a block that was made behind the cursor. -/
theorem Cur.setAbove {w : World} {c : Nat} {a : Option Addr} {len cap : Nat} (h : Cur w c a len cap) {b o : Nat} (hb : c < b) (u : Value) : Cur (w.setCell ⟨b, o, none⟩ u) c a len cap := by
  have hc : ∀ k q, k ≤ c → (w.setCell ⟨b, o, none⟩ u).cell? ⟨k, q, none⟩ = w.cell? ⟨k, q, none⟩ := fun k q hk => World.cell?_of_block (w := w) (Below.heap_setCell w _ u k (by simp; omega))
  obtain ⟨c0, c1, c2, f0, f1, f2, lt, hlen, row⟩ := h
  refine ⟨by rw [hc _ _ (Nat.le_refl _)]; exact c0, by rw [hc _ _ (Nat.le_refl _)]; exact c1, by rw [hc _ _ (Nat.le_refl _)]; exact c2, by rw [World.frozen?_setCell]; exact f0, by rw [World.frozen?_setCell]; exact f1, by rw [World.frozen?_setCell]; exact f2, by simpa using lt, hlen, ?_⟩
  intro j hj
  obtain ⟨rb, ro, v, ha, hlt, hcell, hv⟩ := row j hj
  exact ⟨rb, ro, v, ha, hlt, by rw [hc _ _ (Nat.le_of_lt hlt)]; exact hcell, hv⟩

theorem Cur.alloc {w : World} {c : Nat} {a : Option Addr} {len cap : Nat} (h : Cur w c a len cap) (o : Obj) : Cur (w.alloc o) c a len cap :=
  h.below ((Below.refl _ _).alloc (Nat.le_refl _) o)

theorem i64_and255 (n : Int) : bits .and .i64 n 255 = n % 256 := by
  have h255 : (BitVec.ofInt 64 255).toNat = 2 ^ 8 - 1 := by decide
  have key : (BitVec.ofInt 64 n &&& BitVec.ofInt 64 255).toNat = (n % ((2 ^ 64 : Nat) : Int)).toNat % 2 ^ 8 := by
    rw [BitVec.toNat_and, BitVec.toNat_ofInt, h255, Nat.and_two_pow_sub_one_eq_mod]
  show IntKind.i64.wrap ((BitVec.ofInt 64 n &&& BitVec.ofInt 64 255).toNat : Nat) = n % 256
  rw [key, IntKind.wrap_i64]
  omega

theorem and255 (n : Int) : 0 ≤ bits .and .i64 n 255 ∧ bits .and .i64 n 255 ≤ 255 := by
  rw [i64_and255]; omega

set_option maxHeartbeats 1000000 in
theorem byte_draw {w : World} {c : Nat} {a : Option Addr} {len cap : Nat} (h : Cur w c a len cap) :
    Calls Tryz.prog 36 #[.pointer (some ⟨c, 0, none⟩)] w fun e w' => ∃ x : Int, e = .returned (.int .i64 x) ∧ 0 ≤ x ∧ x ≤ 255 ∧ Cur w' c a len cap ∧ Keep c w w' := by
  have hcur : Hid (Cur w c a len cap) := h
  obtain ⟨c0, ⟨i, c1, hi⟩, ⟨hh, c2⟩, f0, f1, f2, lt, hlen, row⟩ := h
  unfold maxLen at hlen
  by_cases hl : i < len
  · obtain ⟨rb, ro, v, ha, hlt, hcell, hv0, hv1⟩ := row i hl
    have hne : rb ≠ c := Nat.ne_of_lt hlt
    subst ha
    have hi0 : (0 : Int) ≤ (i : Int) := by omega
    have hi1 : (i : Int) < (len : Int) := by omega
    clear row
    go_enter Tryz.func36, Tryz.ntmps36
    go_wp2
    go_quiet (fail)
    go_wp2
    go_quiet (fail)
    go_wp2
    go_quiet (fail)
    go_wp2
    go_ret
    refine ⟨_, rfl, (and255 _).1, (and255 _).2, ?_, ?_⟩
    · exact Cur.set1 ((hcur.out.set2 _).drewN _) (i + 1) (by omega) _ (by omega)
    · exact (((Keep.refl c w).setCell (p := ⟨c, 2, none⟩) (Or.inl rfl) _).drewN _).setCell (p := ⟨c, 1, none⟩) (Or.inl rfl) _
  · clear row
    go_enter Tryz.func36, Tryz.ntmps36
    go_wp2
    go_quiet (fail)
    go_wp2
    go_quiet (fail)
    go_wp2
    go_ret
    refine ⟨_, rfl, (and255 _).1, (and255 _).2, ?_, ?_⟩
    · exact ((hcur.out.set2 _).drewN _).drewN _
    · exact ((((Keep.refl c w).setCell (Or.inl rfl) _).drewN _).drewN _)

/-- A number below n, n from 1 to 256. -/
theorem below_draw {w : World} {c : Nat} {a : Option Addr} {len cap : Nat} (h : Cur w c a len cap) (n : Int) (h0 : 0 < n) (h1 : n ≤ 256) :
    Calls Tryz.prog 20 #[.pointer (some ⟨c, 0, none⟩), .int .i64 n] w fun e w' => ∃ x : Int, e = .returned (.int .i64 x) ∧ 0 ≤ x ∧ x < n ∧ Cur w' c a len cap ∧ Keep c w w' := by
  go_enter Tryz.func20, Tryz.ntmps20
  go_wp2_with fail
  refine (byte_draw h).mono ?_
  rintro e w1 ⟨x, rfl, hx0, hx1, hc1, hk1⟩
  go_wp2
  go_ret
  refine ⟨_, rfl, ?_, ?_, hc1, hk1⟩
  · exact Int.emod_nonneg _ (by omega)
  · exact Int.emod_lt_of_pos _ (by omega)

theorem once_draw {w : World} {c : Nat} {a : Option Addr} {len cap : Nat} (h : Cur w c a len cap) (n : Int) (h0 : 0 < n) (h1 : n ≤ 256) :
    Calls Tryz.prog 19 #[.pointer (some ⟨c, 0, none⟩), .int .i64 n] w fun e w' => ∃ b : Bool, e = .returned (.bool b) ∧ Cur w' c a len cap ∧ Keep c w w' := by
  go_enter Tryz.func19, Tryz.ntmps19
  go_wp2_with fail
  refine (below_draw h n h0 h1).mono ?_
  rintro e w1 ⟨x, rfl, hx0, hx1, hc1, hk1⟩
  go_wp2
  go_ret
  exact ⟨_, rfl, hc1, hk1⟩

theorem from_draw {w : World} {c : Nat} {a : Option Addr} {len cap : Nat} (h : Cur w c a len cap) :
    Calls Tryz.prog 32 #[.pointer (some ⟨c, 0, none⟩), .int .i64 (-1), .int .i64 4] w fun e w' => ∃ x : Int, e = .returned (.int .i64 x) ∧ Cur w' c a len cap ∧ Keep c w w' := by
  go_enter Tryz.func32, Tryz.ntmps32
  go_wp2_with fail
  refine (below_draw h 6 (by omega) (by omega)).mono ?_
  rintro e w1 ⟨x, rfl, hx0, hx1, hc1, hk1⟩
  go_wp2
  go_ret
  exact ⟨_, rfl, hc1, hk1⟩

end Go.Proofs.YtgiknjlifocioaaGreatDoor

/-
  The contracts of the cursor's making and of a drawn cell: whatever is drawn, it is a cell whose text is no longer than a text may be.
-/
namespace Go.Proofs.YtgiknjlifocioaaGreatDoor
open Go.ChangeShapes Go.WideShapes Go.ChangeAt Go.RowKit

set_option maxHeartbeats 1000000 in
theorem new_draw {w : World} {a : Option Addr} {len cap : Nat} (hlen : len ≤ 4096)
    (row : ∀ j, j < len → ∃ (rb ro : Nat) (v : Int), a = some ⟨rb, ro, none⟩ ∧ rb < w.heap.size ∧ w.cell? ⟨rb, ro + j, none⟩ = some (.int .u8 v) ∧ 0 ≤ v ∧ v ≤ 255) :
    Calls Tryz.prog 15 #[.slice a len cap] w fun e w' => ∃ c : Nat, e = .returned (.pointer (some ⟨c, 0, none⟩)) ∧ w.heap.size ≤ c ∧ Cur w' c a len cap ∧ Below w.heap.size w w' := by
  have R := row
  have hR : Hid (∀ j, j < len → ∃ (rb ro : Nat) (v : Int), a = some ⟨rb, ro, none⟩ ∧ rb < w.heap.size ∧ w.cell? ⟨rb, ro + j, none⟩ = some (.int .u8 v) ∧ 0 ≤ v ∧ v ≤ 255) := R
  clear R row
  go_enter Tryz.func15, Tryz.ntmps15
  go_wp2
  go_loop [3, 4] (fun h i => ∃ (k : Nat) (q : Int), k ≤ len ∧ i = .int .i64 k ∧ h = .int .i64 q) (fun _ i => len - (intOf i).toNat)
  case atStart => exact ⟨0, _, Nat.zero_le _, rfl, rfl⟩
  case round =>
    obtain ⟨k, q, hk, rfl, rfl⟩ := hrel
    by_cases hlt : k < len
    · obtain ⟨rb, ro, v, ha, hrb, hcell, hv0, hv1⟩ := hR.out k hlt
      subst ha
      have hi0 : (0 : Int) ≤ (k : Int) := by omega
      have hi1 : (k : Int) < (len : Int) := by omega
      go_wp2
      go_round
      case rel => exact ⟨k + 1, _, by omega, by go_num, rfl⟩
      case measure => simp [intOf]; omega
    · go_wp2
      go_ret
      refine ⟨_, rfl, Nat.le_refl _, ⟨?_, ⟨0, ?_, Nat.zero_le _⟩, ⟨q, ?_⟩, ?_, ?_, ?_, ?_, ?_, ?_⟩, by go_grown⟩
      · simp [go_sem]
      · simp [go_sem]
      · simp [go_sem]
      · simp [go_sem]
      · simp [go_sem]
      · simp [go_sem]
      · simp
      · unfold maxLen; omega
      · intro j hj
        obtain ⟨rb, ro, v, ha, hrb, hcell, hv⟩ := hR.out j hj
        exact ⟨rb, ro, v, ha, hrb, by rw [World.cell?_alloc_lt _ _ _ hrb]; exact hcell, hv⟩

end Go.Proofs.YtgiknjlifocioaaGreatDoor
