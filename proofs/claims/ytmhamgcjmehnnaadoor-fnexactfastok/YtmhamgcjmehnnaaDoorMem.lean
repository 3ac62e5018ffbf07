/-
  Worlds alone, no function: new blocks in later worlds, cells written and read again.
-/
import Derived.Test.YtmhamgcjmehnnaaDoorProg
import GoSem.Claim
import GoSem.ClaimJoined
import GoSem.ClaimMapViews
import Derived.JoinedTies
import Derived.KernelRfl
import Derived.WalkKit
import Derived.ProofKit
import Derived.OpenShut
import Derived.Handy
import Derived.Deep.QuietTactic
import Derived.BigQuiet
import Derived.Deep.RegionWith
import Derived.Deep.RegionHeld3
import Derived.Deep.DeepCutAuto
import Derived.Deep.DrawnRows
namespace Go.Proofs.YtmhamgcjmehnnaaDoor
open Go.ChangeShapes Go.WideShapes Go.ChangeAt Go.RowKit

theorem ret_bool {a b : Bool} (h : a = b) : Ending.returned (.bool a) = .returned (.bool b) := by rw [h]

theorem ret_int {k : IntKind} {a b : Int} (h : a = b) : Ending.returned (.int k a) = .returned (.int k b) := by rw [h]

theorem bcell {W w1 : World} (hb : Below W.heap.size W w1) : (∀ b o, b < W.heap.size → w1.cell? ⟨b, o, none⟩ = W.cell? ⟨b, o, none⟩) ∧ (∀ b o, b < W.heap.size → w1.frozen? ⟨b, o, none⟩ = W.frozen? ⟨b, o, none⟩) :=
  ⟨fun b o h => hb.cell (p := ⟨b, o, none⟩) h, fun b o h => hb.frozen (p := ⟨b, o, none⟩) h⟩

/-- What a boxed cell holds, in every later world. -/
theorem box3 {w w1 : World} {a b c : Value} {T : TypeId} (hb : Below (w.alloc (.cells #[a, b, c] T)).heap.size (w.alloc (.cells #[a, b, c] T)) w1) :
    w1.cell? ⟨w.heap.size, 0, none⟩ = some a ∧ w1.cell? ⟨w.heap.size, 1, none⟩ = some b ∧ w1.cell? ⟨w.heap.size, 2, none⟩ = some c ∧ w.heap.size < w1.heap.size := by
  refine ⟨?_, ?_, ?_, ?_⟩
  · rw [hb.cell (p := ⟨w.heap.size, 0, none⟩) (by simp)]; simp [go_sem]
  · rw [hb.cell (p := ⟨w.heap.size, 1, none⟩) (by simp)]; simp [go_sem]
  · rw [hb.cell (p := ⟨w.heap.size, 2, none⟩) (by simp)]; simp [go_sem]
  · have := hb.size; simp at this; omega

/-- The same, one call later. -/
theorem later3 {B : Nat} {w1 w2 : World} {a b c : Value} (hb : Below w1.heap.size w1 w2) (h : w1.cell? ⟨B, 0, none⟩ = some a ∧ w1.cell? ⟨B, 1, none⟩ = some b ∧ w1.cell? ⟨B, 2, none⟩ = some c ∧ B < w1.heap.size) :
    w2.cell? ⟨B, 0, none⟩ = some a ∧ w2.cell? ⟨B, 1, none⟩ = some b ∧ w2.cell? ⟨B, 2, none⟩ = some c ∧ B < w2.heap.size := by
  obtain ⟨h0, h1, h2, h3⟩ := h
  refine ⟨?_, ?_, ?_, ?_⟩
  · rw [hb.cell (p := ⟨B, 0, none⟩) h3]; exact h0
  · rw [hb.cell (p := ⟨B, 1, none⟩) h3]; exact h1
  · rw [hb.cell (p := ⟨B, 2, none⟩) h3]; exact h2
  · have := hb.size; omega

theorem chain {w w' w'' : World} (h : Below w.heap.size w w') (k : Below w'.heap.size w' w'') : Below w.heap.size w w'' := h.trans (k.mono h.size)
theorem chainA {w w'' : World} {o : Obj} (k : Below (w.alloc o).heap.size (w.alloc o) w'') : Below w.heap.size w w'' := chain ((Below.refl _ _).alloc (Nat.le_refl _) _) k

/-- A boxed cell and a new block behind it. -/
theorem two3 {w w1 : World} {a b c : Value} {T : TypeId} {x y z : Value} {U : TypeId}
    (hb : Below ((w.alloc (.cells #[a, b, c] T)).alloc (.cells #[x, y, z] U)).heap.size ((w.alloc (.cells #[a, b, c] T)).alloc (.cells #[x, y, z] U)) w1) :
    (w1.cell? ⟨w.heap.size, 0, none⟩ = some a ∧ w1.cell? ⟨w.heap.size, 1, none⟩ = some b ∧ w1.cell? ⟨w.heap.size, 2, none⟩ = some c ∧ w.heap.size < w1.heap.size) ∧
    (w1.cell? ⟨w.heap.size + 1, 0, none⟩ = some x ∧ w1.cell? ⟨w.heap.size + 1, 1, none⟩ = some y ∧ w1.cell? ⟨w.heap.size + 1, 2, none⟩ = some z ∧ w.heap.size + 1 < w1.heap.size) ∧
    (w1.frozen? ⟨w.heap.size + 1, 0, none⟩ = false ∧ w1.frozen? ⟨w.heap.size + 1, 1, none⟩ = false ∧ w1.frozen? ⟨w.heap.size + 1, 2, none⟩ = false) := by
  refine ⟨⟨?_, ?_, ?_, ?_⟩, ⟨?_, ?_, ?_, ?_⟩, ?_, ?_, ?_⟩
  · rw [hb.cell (p := ⟨w.heap.size, 0, none⟩) (by simp; omega)]; simp [go_sem]
  · rw [hb.cell (p := ⟨w.heap.size, 1, none⟩) (by simp; omega)]; simp [go_sem]
  · rw [hb.cell (p := ⟨w.heap.size, 2, none⟩) (by simp; omega)]; simp [go_sem]
  · have := hb.size; simp at this; omega
  · rw [hb.cell (p := ⟨w.heap.size + 1, 0, none⟩) (by simp)]; simp [go_sem]
  · rw [hb.cell (p := ⟨w.heap.size + 1, 1, none⟩) (by simp)]; simp [go_sem]
  · rw [hb.cell (p := ⟨w.heap.size + 1, 2, none⟩) (by simp)]; simp [go_sem]
  · have := hb.size; simp at this; omega
  · rw [hb.frozen (p := ⟨w.heap.size + 1, 0, none⟩) (by simp)]; simp [go_sem]
  · rw [hb.frozen (p := ⟨w.heap.size + 1, 1, none⟩) (by simp)]; simp [go_sem]
  · rw [hb.frozen (p := ⟨w.heap.size + 1, 2, none⟩) (by simp)]; simp [go_sem]

/-- A new block of three, in every later world, and that it may be written. -/
theorem box3F {w w1 : World} {a b c : Value} {T : TypeId} (hb : Below (w.alloc (.cells #[a, b, c] T)).heap.size (w.alloc (.cells #[a, b, c] T)) w1) :
    (w1.cell? ⟨w.heap.size, 0, none⟩ = some a ∧ w1.cell? ⟨w.heap.size, 1, none⟩ = some b ∧ w1.cell? ⟨w.heap.size, 2, none⟩ = some c ∧ w.heap.size < w1.heap.size) ∧
    (w1.frozen? ⟨w.heap.size, 0, none⟩ = false ∧ w1.frozen? ⟨w.heap.size, 1, none⟩ = false ∧ w1.frozen? ⟨w.heap.size, 2, none⟩ = false) := by
  refine ⟨box3 hb, ?_, ?_, ?_⟩
  · rw [hb.frozen (p := ⟨w.heap.size, 0, none⟩) (by simp)]; simp [go_sem]
  · rw [hb.frozen (p := ⟨w.heap.size, 1, none⟩) (by simp)]; simp [go_sem]
  · rw [hb.frozen (p := ⟨w.heap.size, 2, none⟩) (by simp)]; simp [go_sem]

theorem frozen3 {B : Nat} {w1 w2 : World} (hb : Below w1.heap.size w1 w2) (hB : B < w1.heap.size)
    (h : w1.frozen? ⟨B, 0, none⟩ = false ∧ w1.frozen? ⟨B, 1, none⟩ = false ∧ w1.frozen? ⟨B, 2, none⟩ = false) :
    w2.frozen? ⟨B, 0, none⟩ = false ∧ w2.frozen? ⟨B, 1, none⟩ = false ∧ w2.frozen? ⟨B, 2, none⟩ = false := by
  obtain ⟨h0, h1, h2⟩ := h
  refine ⟨?_, ?_, ?_⟩
  · rw [hb.frozen (p := ⟨B, 0, none⟩) hB]; exact h0
  · rw [hb.frozen (p := ⟨B, 1, none⟩) hB]; exact h1
  · rw [hb.frozen (p := ⟨B, 2, none⟩) hB]; exact h2

theorem chainAA {w w'' : World} {o o' : Obj} (k : Below ((w.alloc o).alloc o').heap.size ((w.alloc o).alloc o') w'') : Below w.heap.size w w'' := chainA (chainA k)

theorem undrew {w w1 : World} (h : Below w.drew.heap.size w.drew w1) : Below w.heap.size w w1 := ((Below.refl w.heap.size w).drew).trans h

theorem belowN {B : Nat} {a w : World} (h : Below B a w) (n : Nat) : Below B a (w.drewN n) := h.trans ⟨rfl, rfl, rfl, Nat.le_refl _, fun _ _ => rfl⟩

theorem cell_far (w : World) (m j n i : Nat) (v : Value) (h : n ≠ m) : (w.setCell ⟨m, j, none⟩ v).cell? ⟨n, i, none⟩ = w.cell? ⟨n, i, none⟩ :=
  World.cell?_of_block (w := w) (Below.heap_setCell w _ v n h)

theorem cell_off (w : World) (m j i : Nat) (v : Value) (h : i ≠ j) : (w.setCell ⟨m, j, none⟩ v).cell? ⟨m, i, none⟩ = w.cell? ⟨m, i, none⟩ :=
  World.cell?_setCell_other w ⟨m, j, none⟩ ⟨m, i, none⟩ v (fun e => h (by cases e; rfl))
theorem cell_here (w : World) (m i : Nat) (v : Value) (h : (w.cell? ⟨m, i, none⟩).isSome = true) : (w.setCell ⟨m, i, none⟩ v).cell? ⟨m, i, none⟩ = some v :=
  World.cell?_setCell_same' w ⟨m, i, none⟩ v h

section
attribute [local simp] World.cell?_alloc_past World.cell?_alloc_at World.frozen?_alloc_at
/-- Three new blocks, in every later world. -/
theorem three3 {w w1 : World} {a b c : Value} {T : TypeId} {x y z : Value} {U : TypeId} {p q r : Value} {V : TypeId}
    (hb : Below (((w.alloc (.cells #[a, b, c] T)).alloc (.cells #[x, y, z] U)).alloc (.cells #[p, q, r] V)).heap.size (((w.alloc (.cells #[a, b, c] T)).alloc (.cells #[x, y, z] U)).alloc (.cells #[p, q, r] V)) w1) :
    (w1.cell? ⟨w.heap.size, 0, none⟩ = some a ∧ w1.cell? ⟨w.heap.size, 1, none⟩ = some b ∧ w1.cell? ⟨w.heap.size, 2, none⟩ = some c ∧ w.heap.size < w1.heap.size) ∧
    (w1.cell? ⟨w.heap.size + 1, 0, none⟩ = some x ∧ w1.cell? ⟨w.heap.size + 1, 1, none⟩ = some y ∧ w1.cell? ⟨w.heap.size + 1, 2, none⟩ = some z ∧ w.heap.size + 1 < w1.heap.size) ∧
    (w1.cell? ⟨w.heap.size + 1 + 1, 0, none⟩ = some p ∧ w1.cell? ⟨w.heap.size + 1 + 1, 1, none⟩ = some q ∧ w1.cell? ⟨w.heap.size + 1 + 1, 2, none⟩ = some r ∧ w.heap.size + 1 + 1 < w1.heap.size) ∧
    (w1.frozen? ⟨w.heap.size + 1 + 1, 0, none⟩ = false ∧ w1.frozen? ⟨w.heap.size + 1 + 1, 1, none⟩ = false ∧ w1.frozen? ⟨w.heap.size + 1 + 1, 2, none⟩ = false) := by
  have hs : w.heap.size + 1 + 1 + 1 ≤ w1.heap.size := by have := hb.size; simp at this; omega
  refine ⟨⟨?_, ?_, ?_, ?_⟩, ⟨?_, ?_, ?_, ?_⟩, ⟨?_, ?_, ?_, ?_⟩, ?_, ?_, ?_⟩
  · rw [hb.cell (p := ⟨w.heap.size, 0, none⟩) (by simp; try omega)]; simp (disch := first | omega | (simp <;> omega) | fail)
  · rw [hb.cell (p := ⟨w.heap.size, 1, none⟩) (by simp; try omega)]; simp (disch := first | omega | (simp <;> omega) | fail)
  · rw [hb.cell (p := ⟨w.heap.size, 2, none⟩) (by simp; try omega)]; simp (disch := first | omega | (simp <;> omega) | fail)
  · omega
  · rw [hb.cell (p := ⟨w.heap.size + 1, 0, none⟩) (by simp; try omega)]; simp (disch := first | omega | (simp <;> omega) | fail)
  · rw [hb.cell (p := ⟨w.heap.size + 1, 1, none⟩) (by simp; try omega)]; simp (disch := first | omega | (simp <;> omega) | fail)
  · rw [hb.cell (p := ⟨w.heap.size + 1, 2, none⟩) (by simp; try omega)]; simp (disch := first | omega | (simp <;> omega) | fail)
  · omega
  · rw [hb.cell (p := ⟨w.heap.size + 1 + 1, 0, none⟩) (by simp; try omega)]; simp (disch := first | omega | (simp <;> omega) | fail)
  · rw [hb.cell (p := ⟨w.heap.size + 1 + 1, 1, none⟩) (by simp; try omega)]; simp (disch := first | omega | (simp <;> omega) | fail)
  · rw [hb.cell (p := ⟨w.heap.size + 1 + 1, 2, none⟩) (by simp; try omega)]; simp (disch := first | omega | (simp <;> omega) | fail)
  · omega
  · rw [hb.frozen (p := ⟨w.heap.size + 1 + 1, 0, none⟩) (by simp)]; simp (disch := first | omega | (simp <;> omega) | fail)
  · rw [hb.frozen (p := ⟨w.heap.size + 1 + 1, 1, none⟩) (by simp)]; simp (disch := first | omega | (simp <;> omega) | fail)
  · rw [hb.frozen (p := ⟨w.heap.size + 1 + 1, 2, none⟩) (by simp)]; simp (disch := first | omega | (simp <;> omega) | fail)

end

/-- Of what was there nothing has turned but block c. -/
structure Keep (c : Nat) (w w' : World) : Prop where
  os : w'.os = w.os
  tape : w'.tape = w.tape
  output : w'.output = w.output
  size : w.heap.size ≤ w'.heap.size
  block : ∀ k, k < w.heap.size → k ≠ c → w'.heap[k]? = w.heap[k]?

theorem Keep.refl (c : Nat) (w : World) : Keep c w w := ⟨rfl, rfl, rfl, Nat.le_refl _, fun _ _ _ => rfl⟩
theorem Keep.trans {c : Nat} {a b d : World} (h : Keep c a b) (k : Keep c b d) : Keep c a d :=
  ⟨k.os.trans h.os, k.tape.trans h.tape, k.output.trans h.output, Nat.le_trans h.size k.size, fun i hi hc => (k.block i (Nat.lt_of_lt_of_le hi h.size) hc).trans (h.block i hi hc)⟩
theorem Keep.ofBelow {c : Nat} {w w' : World} (h : Below w.heap.size w w') : Keep c w w' := ⟨h.os, h.tape, h.output, h.size, fun k hk _ => h.block k hk⟩
theorem Keep.drew {c : Nat} {a w : World} (h : Keep c a w) : Keep c a w.drew := ⟨h.os, h.tape, h.output, h.size, h.block⟩
theorem Keep.drewN {c : Nat} {a w : World} (h : Keep c a w) (n : Nat) : Keep c a (w.drewN n) := ⟨h.os, h.tape, h.output, h.size, h.block⟩
theorem Keep.alloc {c : Nat} {a w : World} (h : Keep c a w) (o : Obj) : Keep c a (w.alloc o) :=
  h.trans (Keep.ofBelow ((Below.refl _ _).alloc (Nat.le_refl _) o))
theorem Keep.setCell {c : Nat} {a w : World} (h : Keep c a w) {p : Addr} (hp : p.block = c ∨ a.heap.size ≤ p.block) (u : Value) : Keep c a (w.setCell p u) :=
  ⟨h.os, h.tape, h.output, Nat.le_trans h.size (by simp), fun k hk hc => (Below.heap_setCell w p u k (by rcases hp with hp | hp <;> omega)).trans (h.block k hk hc)⟩
theorem Keep.cell {c : Nat} {w w' : World} (h : Keep c w w') {b o : Nat} (hb : b < w.heap.size) (hc : b ≠ c) : w'.cell? ⟨b, o, none⟩ = w.cell? ⟨b, o, none⟩ :=
  World.cell?_of_block (w := w) (h.block b hb hc)
theorem Keep.frozen {c : Nat} {w w' : World} (h : Keep c w w') {b o : Nat} (hb : b < w.heap.size) (hc : b ≠ c) : w'.frozen? ⟨b, o, none⟩ = w.frozen? ⟨b, o, none⟩ :=
  World.frozen?_of_block (w := w) (h.block b hb hc)
theorem Keep.below {c B : Nat} {w w' : World} (h : Keep c w w') (hc : B ≤ c) (hB : B ≤ w.heap.size) : Below B w w' :=
  ⟨h.os, h.tape, h.output, h.size, fun k hk => h.block k (by omega) (by omega)⟩

/-- What three cells of another block hold, behind a draw. -/
theorem keep3 {c B : Nat} {w1 w2 : World} {x y z : Value} (hk : Keep c w1 w2) (hne : B ≠ c) (h : w1.cell? ⟨B, 0, none⟩ = some x ∧ w1.cell? ⟨B, 1, none⟩ = some y ∧ w1.cell? ⟨B, 2, none⟩ = some z ∧ B < w1.heap.size) :
    w2.cell? ⟨B, 0, none⟩ = some x ∧ w2.cell? ⟨B, 1, none⟩ = some y ∧ w2.cell? ⟨B, 2, none⟩ = some z ∧ B < w2.heap.size := by
  obtain ⟨h0, h1, h2, h3⟩ := h
  exact ⟨by rw [hk.cell h3 hne]; exact h0, by rw [hk.cell h3 hne]; exact h1, by rw [hk.cell h3 hne]; exact h2, Nat.lt_of_lt_of_le h3 hk.size⟩
theorem keepF {c B : Nat} {w1 w2 : World} (hk : Keep c w1 w2) (hne : B ≠ c) (hB : B < w1.heap.size) (h : w1.frozen? ⟨B, 0, none⟩ = false ∧ w1.frozen? ⟨B, 1, none⟩ = false ∧ w1.frozen? ⟨B, 2, none⟩ = false) :
    w2.frozen? ⟨B, 0, none⟩ = false ∧ w2.frozen? ⟨B, 1, none⟩ = false ∧ w2.frozen? ⟨B, 2, none⟩ = false := by
  obtain ⟨h0, h1, h2⟩ := h
  exact ⟨by rw [hk.frozen hB hne]; exact h0, by rw [hk.frozen hB hne]; exact h1, by rw [hk.frozen hB hne]; exact h2⟩

/-- Of what was there nothing has turned but the blocks of P. -/
structure KeepS (P : Nat → Prop) (w w' : World) : Prop where
  os : w'.os = w.os
  tape : w'.tape = w.tape
  output : w'.output = w.output
  size : w.heap.size ≤ w'.heap.size
  block : ∀ k, k < w.heap.size → ¬ P k → w'.heap[k]? = w.heap[k]?
theorem KeepS.refl (P : Nat → Prop) (w : World) : KeepS P w w := ⟨rfl, rfl, rfl, Nat.le_refl _, fun _ _ _ => rfl⟩
theorem KeepS.trans {P : Nat → Prop} {a b d : World} (h : KeepS P a b) (k : KeepS P b d) : KeepS P a d :=
  ⟨k.os.trans h.os, k.tape.trans h.tape, k.output.trans h.output, Nat.le_trans h.size k.size, fun i hi hc => (k.block i (Nat.lt_of_lt_of_le hi h.size) hc).trans (h.block i hi hc)⟩
theorem KeepS.ofBelow {P : Nat → Prop} {w w' : World} (h : Below w.heap.size w w') : KeepS P w w' := ⟨h.os, h.tape, h.output, h.size, fun k hk _ => h.block k hk⟩
theorem KeepS.mono {P Q : Nat → Prop} {w w' : World} (h : KeepS P w w') (hpq : ∀ k, P k → Q k) : KeepS Q w w' := ⟨h.os, h.tape, h.output, h.size, fun k hk hn => h.block k hk (fun hp => hn (hpq k hp))⟩
theorem KeepS.setCell {P : Nat → Prop} {a w : World} (h : KeepS P a w) {p : Addr} (hp : P p.block) (u : Value) : KeepS P a (w.setCell p u) :=
  ⟨h.os, h.tape, h.output, Nat.le_trans h.size (by simp), fun k hk hc => (Below.heap_setCell w p u k (fun e => hc (e ▸ hp))).trans (h.block k hk hc)⟩
theorem KeepS.cell {P : Nat → Prop} {w w' : World} (h : KeepS P w w') {b o : Nat} (hb : b < w.heap.size) (hc : ¬ P b) : w'.cell? ⟨b, o, none⟩ = w.cell? ⟨b, o, none⟩ :=
  World.cell?_of_block (w := w) (h.block b hb hc)
theorem KeepS.frozen {P : Nat → Prop} {w w' : World} (h : KeepS P w w') {b o : Nat} (hb : b < w.heap.size) (hc : ¬ P b) : w'.frozen? ⟨b, o, none⟩ = w.frozen? ⟨b, o, none⟩ :=
  World.frozen?_of_block (w := w) (h.block b hb hc)
theorem KeepS.below {P : Nat → Prop} {B : Nat} {w w' : World} (h : KeepS P w w') (hP : ∀ k, P k → B ≤ k) (hB : B ≤ w.heap.size) : Below B w w' :=
  ⟨h.os, h.tape, h.output, h.size, fun k hk => h.block k (by omega) (fun hp => by have := hP k hp; omega)⟩

end Go.Proofs.YtmhamgcjmehnnaaDoor
