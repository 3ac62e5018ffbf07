/-
  A part of the proof: Hd, Tk, Mem, Math, Walk1, Walk2, Eql, Walk3.
-/
import Derived.Below
import Derived.WalkKit
import Derived.Deep.RegionHeld3
import Derived.Test.YtjjkdbmjloolaaaGreatDoorProg
import GoSem.Claim
import GoSem.ClaimJoined
import GoSem.ClaimMapViews
import Derived.JoinedTies
import Derived.KernelRfl
import Derived.ProofKit
import Derived.OpenShut
import Derived.Handy
import Derived.Deep.QuietTactic
import Derived.BigQuiet
import Derived.Deep.RegionWith
import Derived.Deep.DeepCutAuto
import Derived.Deep.DrawnRows

namespace Go.Proofs.YtjjkdbmjloolaaaGreatDoor
open Go.RowKit
theorem hid {p : Prop} (h : p) : Hid p := h
section
variable {P : Program} {ops : Array Oper} {Q : Exit → Act → World → Prop} {md : Region.Mode} {S : World → Prop} {fuel : Nat} {listed : Array Bool} {a : Act} {w : World} {oi : Oper} {v : Value}
theorem tkH (i : Nat) (h : wpAnyH P md ops Q S fuel (listed.setIfInBounds i true) (a.put oi.dst v) w) (hi : ops[i]? = some oi := by simp only [List.getElem?_toArray, List.getElem?_cons_zero, List.getElem?_cons_succ]; rfl) (hs : Region.noSelect ops = true := by kernel_rfl) (hf : Region.free md ops listed i = true := by kernel_rfl) (hr : (Region.ready md ops listed).contains i = true := by kernel_rfl) (hQ : ∀ c a w, Q (.panic c) (a.put oi.dst v) w → Q (.panic c) a w := by intro _ _ _ h; exact h) (hy : YieldsIf P ops S oi v a := by exact Or.inl ⟨by rfl, fun w hSw => by (dsimp only at hSw; go_simp; (try with_reducible rfl))⟩) (hS : S w := by assumption) : wpAnyH P md ops Q S (fuel + 1) listed a w :=
 wpAnyH_take hi hs hf hr hQ hy hS h
theorem skH (i : Nat) (h : wpAnyH P md ops Q S fuel (listed.setIfInBounds i true) (a.put oi.dst undef) w) (hi : ops[i]? = some oi := by simp only [List.getElem?_toArray, List.getElem?_cons_zero, List.getElem?_cons_succ]; rfl) (hs : Region.noSelect ops = true := by kernel_rfl) (hf : Region.free md ops listed i = true := by kernel_rfl) (hr : (Region.ready md ops listed).contains i = true := by kernel_rfl) (hQ : ∀ c a w, Q (.panic c) (a.put oi.dst undef) w → Q (.panic c) a w := by intro _ _ _ h; exact h) (hy : YieldsIf P ops S oi undef a := by exact Or.inr ⟨by rfl, by rfl⟩) (hS : S w := by assumption) : wpAnyH P md ops Q S (fuel + 1) listed a w :=
 wpAnyH_take hi hs hf hr hQ hy hS h
theorem oneH (i : Nat) (h : ∀ K' : Act → World → Prop, Shut (∀ a w, S w → (S w → wpAnyH P md ops Q S fuel (listed.setIfInBounds i true) a w) → K' a w) → if Region.wanted oi (yielded ops a.tmps) = true then Oper.wp P oi a w K' Q else K' (a.put oi.dst undef) w) (hr : Region.ready md ops listed = [i] := by kernel_rfl) (hi : ops[i]? = some oi := by simp only [List.getElem?_toArray, List.getElem?_cons_zero, List.getElem?_cons_succ]; rfl) : wpAnyH P md ops Q S (fuel + 1) listed a w :=
 wpAnyH_ready hr (by simp) (AllReadyH.cons hi h AllReadyH.nil)
theorem twoH (i j : Nat) {oj : Oper} (h : ∀ K' : Act → World → Prop, Shut (∀ a w, S w → (S w → wpAnyH P md ops Q S fuel (listed.setIfInBounds i true) a w) → K' a w) → if Region.wanted oi (yielded ops a.tmps) = true then Oper.wp P oi a w K' Q else K' (a.put oi.dst undef) w) (h2 : ∀ K' : Act → World → Prop, Shut (∀ a w, S w → (S w → wpAnyH P md ops Q S fuel (listed.setIfInBounds j true) a w) → K' a w) → if Region.wanted oj (yielded ops a.tmps) = true then Oper.wp P oj a w K' Q else K' (a.put oj.dst undef) w) (hr : Region.ready md ops listed = [i, j] := by kernel_rfl) (hi : ops[i]? = some oi := by simp only [List.getElem?_toArray, List.getElem?_cons_zero, List.getElem?_cons_succ]; rfl) (hj : ops[j]? = some oj := by simp only [List.getElem?_toArray, List.getElem?_cons_zero, List.getElem?_cons_succ]; rfl) : wpAnyH P md ops Q S (fuel + 1) listed a w :=
 wpAnyH_ready hr (by simp) (AllReadyH.cons hi h (AllReadyH.cons hj h2 AllReadyH.nil))
theorem tkW (i : Nat) (h : wpAny P md ops Q fuel (listed.setIfInBounds i true) (a.put oi.dst v) w) (hi : ops[i]? = some oi := by simp only [List.getElem?_toArray, List.getElem?_cons_zero, List.getElem?_cons_succ]; rfl) (hs : Region.noSelect ops = true := by kernel_rfl) (hf : Region.free md ops listed i = true := by kernel_rfl) (hr : (Region.ready md ops listed).contains i = true := by kernel_rfl) (hQ : ∀ c a w, Q (.panic c) (a.put oi.dst v) w → Q (.panic c) a w := by intro _ _ _ h; exact h) (hy : Yields P ops oi v a := by exact Or.inl ⟨by rfl, fun w => by (go_simp; (try with_reducible rfl))⟩) : wpAny P md ops Q (fuel + 1) listed a w :=
 wpAny_take hi hs hf hr hQ hy h
end
theorem ptT {α : Type _} (l : List α) (i : Nat) (x : α) : l.toArray.setIfInBounds i x = (l.set i x).toArray := List.setIfInBounds_toArray ..
theorem ptZ {α : Type _} (a : α) (l : List α) (x : α) : (a :: l).set 0 x = x :: l := rfl
theorem ptS {α : Type _} (a : α) (l : List α) (i : Nat) (x : α) : (a :: l).set (i + 1) x = a :: l.set i x := rfl
end Go.Proofs.YtjjkdbmjloolaaaGreatDoor
namespace Go.Proofs.YtjjkdbmjloolaaaGreatDoor
open Go.ChangeShapes Go.WideShapes Go.ChangeAt Go.RowKit
theorem ret_bool {a b : Bool} (h : a = b) : Ending.returned (.bool a) = .returned (.bool b) := by rw [h]
theorem ret_int {k : IntKind} {a b : Int} (h : a = b) : Ending.returned (.int k a) = .returned (.int k b) := by rw [h]
theorem bcell {W w1 : World} (hb : Below W.heap.size W w1) : (∀ b o, b < W.heap.size → w1.cell? ⟨b, o, none⟩ = W.cell? ⟨b, o, none⟩) ∧ (∀ b o, b < W.heap.size → w1.frozen? ⟨b, o, none⟩ = W.frozen? ⟨b, o, none⟩) :=
 ⟨fun b o h => hb.cell (p := ⟨b, o, none⟩) h, fun b o h => hb.frozen (p := ⟨b, o, none⟩) h⟩
theorem box3 {w w1 : World} {a b c : Value} {T : TypeId} (hb : Below (w.alloc (.cells #[a, b, c] T)).heap.size (w.alloc (.cells #[a, b, c] T)) w1) :
  w1.cell? ⟨w.heap.size, 0, none⟩ = some a ∧ w1.cell? ⟨w.heap.size, 1, none⟩ = some b ∧ w1.cell? ⟨w.heap.size, 2, none⟩ = some c ∧ w.heap.size < w1.heap.size := by
 refine ⟨?_, ?_, ?_, ?_⟩
 · rw [hb.cell (p := ⟨w.heap.size, 0, none⟩) (by simp)]; simp [go_sem]
 · rw [hb.cell (p := ⟨w.heap.size, 1, none⟩) (by simp)]; simp [go_sem]
 · rw [hb.cell (p := ⟨w.heap.size, 2, none⟩) (by simp)]; simp [go_sem]
 · have := hb.size; simp at this; omega
theorem later3 {B : Nat} {w1 w2 : World} {a b c : Value} (hb : Below w1.heap.size w1 w2) (h : w1.cell? ⟨B, 0, none⟩ = some a ∧ w1.cell? ⟨B, 1, none⟩ = some b ∧ w1.cell? ⟨B, 2, none⟩ = some c ∧ B < w1.heap.size) :
  w2.cell? ⟨B, 0, none⟩ = some a ∧ w2.cell? ⟨B, 1, none⟩ = some b ∧ w2.cell? ⟨B, 2, none⟩ = some c ∧ B < w2.heap.size := by
 obtain ⟨h0, h1, h2, h3⟩ := h
 refine ⟨?_, ?_, ?_, ?_⟩
 · rw [hb.cell (p := ⟨B, 0, none⟩) h3]; exact h0
 · rw [hb.cell (p := ⟨B, 1, none⟩) h3]; exact h1
 · rw [hb.cell (p := ⟨B, 2, none⟩) h3]; exact h2
 · have := hb.size; omega
theorem chain {w w' w'' : World} (h : Below w.heap.size w w') (k : Below w'.heap.size w' w'') : Below w.heap.size w w'' := h.trans (k.mono h.size)
theorem chainA {w w'' : World} {o : Obj} (k : Below (w.alloc o).heap.size (w.alloc o) w'') : Below w.heap.size w w'' := chain ((Below.refl _ _).alloc (Nat.le_refl _) _) k
theorem box3F {w w1 : World} {a b c : Value} {T : TypeId} (hb : Below (w.alloc (.cells #[a, b, c] T)).heap.size (w.alloc (.cells #[a, b, c] T)) w1) :
  (w1.cell? ⟨w.heap.size, 0, none⟩ = some a ∧ w1.cell? ⟨w.heap.size, 1, none⟩ = some b ∧ w1.cell? ⟨w.heap.size, 2, none⟩ = some c ∧ w.heap.size < w1.heap.size) ∧
  (w1.frozen? ⟨w.heap.size, 0, none⟩ = false ∧ w1.frozen? ⟨w.heap.size, 1, none⟩ = false ∧ w1.frozen? ⟨w.heap.size, 2, none⟩ = false) := by
 refine ⟨box3 hb, ?_, ?_, ?_⟩
 · rw [hb.frozen (p := ⟨w.heap.size, 0, none⟩) (by simp)]; simp [go_sem]
 · rw [hb.frozen (p := ⟨w.heap.size, 1, none⟩) (by simp)]; simp [go_sem]
 · rw [hb.frozen (p := ⟨w.heap.size, 2, none⟩) (by simp)]; simp [go_sem]
theorem frozen3 {B : Nat} {w1 w2 : World} (hb : Below w1.heap.size w1 w2) (hB : B < w1.heap.size)
  (h : w1.frozen? ⟨B, 0, none⟩ = false ∧ w1.frozen? ⟨B, 1, none⟩ = false ∧ w1.frozen? ⟨B, 2, none⟩ = false) :
  w2.frozen? ⟨B, 0, none⟩ = false ∧ w2.frozen? ⟨B, 1, none⟩ = false ∧ w2.frozen? ⟨B, 2, none⟩ = false := by
 obtain ⟨h0, h1, h2⟩ := h
 refine ⟨?_, ?_, ?_⟩
 · rw [hb.frozen (p := ⟨B, 0, none⟩) hB]; exact h0
 · rw [hb.frozen (p := ⟨B, 1, none⟩) hB]; exact h1
 · rw [hb.frozen (p := ⟨B, 2, none⟩) hB]; exact h2
theorem chainAA {w w'' : World} {o o' : Obj} (k : Below ((w.alloc o).alloc o').heap.size ((w.alloc o).alloc o') w'') : Below w.heap.size w w'' := chainA (chainA k)
theorem undrew {w w1 : World} (h : Below w.drew.heap.size w.drew w1) : Below w.heap.size w w1 := ((Below.refl w.heap.size w).drew).trans h
theorem belowN {B : Nat} {a w : World} (h : Below B a w) (n : Nat) : Below B a (w.drewN n) := h.trans ⟨rfl, rfl, rfl, Nat.le_refl _, fun _ _ => rfl⟩
theorem cell_far (w : World) (m j n i : Nat) (v : Value) (h : n ≠ m) : (w.setCell ⟨m, j, none⟩ v).cell? ⟨n, i, none⟩ = w.cell? ⟨n, i, none⟩ :=
 World.cell?_of_block (w := w) (Below.heap_setCell w _ v n h)
theorem cell_off (w : World) (m j i : Nat) (v : Value) (h : i ≠ j) : (w.setCell ⟨m, j, none⟩ v).cell? ⟨m, i, none⟩ = w.cell? ⟨m, i, none⟩ :=
 World.cell?_setCell_other w ⟨m, j, none⟩ ⟨m, i, none⟩ v (fun e => h (by cases e; rfl))
theorem cell_here (w : World) (m i : Nat) (v : Value) (h : (w.cell? ⟨m, i, none⟩).isSome = true) : (w.setCell ⟨m, i, none⟩ v).cell? ⟨m, i, none⟩ = some v :=
 World.cell?_setCell_same' w ⟨m, i, none⟩ v h
section
attribute [local simp] World.cell?_alloc_past World.cell?_alloc_at World.frozen?_alloc_at
end
structure Keep (c : Nat) (w w' : World) : Prop where
 os : w'.os = w.os
 tape : w'.tape = w.tape
 output : w'.output = w.output
 size : w.heap.size ≤ w'.heap.size
 block : ∀ k, k < w.heap.size → k ≠ c → w'.heap[k]? = w.heap[k]?
theorem Keep.refl (c : Nat) (w : World) : Keep c w w := ⟨rfl, rfl, rfl, Nat.le_refl _, fun _ _ _ => rfl⟩
theorem Keep.trans {c : Nat} {a b d : World} (h : Keep c a b) (k : Keep c b d) : Keep c a d :=
 ⟨k.os.trans h.os, k.tape.trans h.tape, k.output.trans h.output, Nat.le_trans h.size k.size, fun i hi hc => (k.block i (Nat.lt_of_lt_of_le hi h.size) hc).trans (h.block i hi hc)⟩
theorem Keep.ofBelow {c : Nat} {w w' : World} (h : Below w.heap.size w w') : Keep c w w' := ⟨h.os, h.tape, h.output, h.size, fun k hk _ => h.block k hk⟩
theorem Keep.drew {c : Nat} {a w : World} (h : Keep c a w) : Keep c a w.drew := ⟨h.os, h.tape, h.output, h.size, h.block⟩
theorem Keep.drewN {c : Nat} {a w : World} (h : Keep c a w) (n : Nat) : Keep c a (w.drewN n) := ⟨h.os, h.tape, h.output, h.size, h.block⟩
theorem Keep.alloc {c : Nat} {a w : World} (h : Keep c a w) (o : Obj) : Keep c a (w.alloc o) :=
 h.trans (Keep.ofBelow ((Below.refl _ _).alloc (Nat.le_refl _) o))
theorem Keep.setCell {c : Nat} {a w : World} (h : Keep c a w) {p : Addr} (hp : p.block = c ∨ a.heap.size ≤ p.block) (u : Value) : Keep c a (w.setCell p u) :=
 ⟨h.os, h.tape, h.output, Nat.le_trans h.size (by simp), fun k hk hc => (Below.heap_setCell w p u k (by rcases hp with hp | hp <;> omega)).trans (h.block k hk hc)⟩
theorem Keep.cell {c : Nat} {w w' : World} (h : Keep c w w') {b o : Nat} (hb : b < w.heap.size) (hc : b ≠ c) : w'.cell? ⟨b, o, none⟩ = w.cell? ⟨b, o, none⟩ :=
 World.cell?_of_block (w := w) (h.block b hb hc)
theorem Keep.frozen {c : Nat} {w w' : World} (h : Keep c w w') {b o : Nat} (hb : b < w.heap.size) (hc : b ≠ c) : w'.frozen? ⟨b, o, none⟩ = w.frozen? ⟨b, o, none⟩ :=
 World.frozen?_of_block (w := w) (h.block b hb hc)
theorem Keep.below {c B : Nat} {w w' : World} (h : Keep c w w') (hc : B ≤ c) (hB : B ≤ w.heap.size) : Below B w w' :=
 ⟨h.os, h.tape, h.output, h.size, fun k hk => h.block k (by omega) (by omega)⟩
structure KeepS (P : Nat → Prop) (w w' : World) : Prop where
 os : w'.os = w.os
 tape : w'.tape = w.tape
 output : w'.output = w.output
 size : w.heap.size ≤ w'.heap.size
 block : ∀ k, k < w.heap.size → ¬ P k → w'.heap[k]? = w.heap[k]?
theorem KeepS.refl (P : Nat → Prop) (w : World) : KeepS P w w := ⟨rfl, rfl, rfl, Nat.le_refl _, fun _ _ _ => rfl⟩
theorem KeepS.trans {P : Nat → Prop} {a b d : World} (h : KeepS P a b) (k : KeepS P b d) : KeepS P a d :=
 ⟨k.os.trans h.os, k.tape.trans h.tape, k.output.trans h.output, Nat.le_trans h.size k.size, fun i hi hc => (k.block i (Nat.lt_of_lt_of_le hi h.size) hc).trans (h.block i hi hc)⟩
theorem KeepS.ofBelow {P : Nat → Prop} {w w' : World} (h : Below w.heap.size w w') : KeepS P w w' := ⟨h.os, h.tape, h.output, h.size, fun k hk _ => h.block k hk⟩
theorem KeepS.mono {P Q : Nat → Prop} {w w' : World} (h : KeepS P w w') (hpq : ∀ k, P k → Q k) : KeepS Q w w' := ⟨h.os, h.tape, h.output, h.size, fun k hk hn => h.block k hk (fun hp => hn (hpq k hp))⟩
theorem KeepS.setCell {P : Nat → Prop} {a w : World} (h : KeepS P a w) {p : Addr} (hp : P p.block) (u : Value) : KeepS P a (w.setCell p u) :=
 ⟨h.os, h.tape, h.output, Nat.le_trans h.size (by simp), fun k hk hc => (Below.heap_setCell w p u k (fun e => hc (e ▸ hp))).trans (h.block k hk hc)⟩
theorem KeepS.cell {P : Nat → Prop} {w w' : World} (h : KeepS P w w') {b o : Nat} (hb : b < w.heap.size) (hc : ¬ P b) : w'.cell? ⟨b, o, none⟩ = w.cell? ⟨b, o, none⟩ :=
 World.cell?_of_block (w := w) (h.block b hb hc)
theorem KeepS.frozen {P : Nat → Prop} {w w' : World} (h : KeepS P w w') {b o : Nat} (hb : b < w.heap.size) (hc : ¬ P b) : w'.frozen? ⟨b, o, none⟩ = w.frozen? ⟨b, o, none⟩ :=
 World.frozen?_of_block (w := w) (h.block b hb hc)
theorem KeepS.below {P : Nat → Prop} {B : Nat} {w w' : World} (h : KeepS P w w') (hP : ∀ k, P k → B ≤ k) (hB : B ≤ w.heap.size) : Below B w w' :=
 ⟨h.os, h.tape, h.output, h.size, fun k hk => h.block k (by omega) (fun hp => by have := hP k hp; omega)⟩
end Go.Proofs.YtjjkdbmjloolaaaGreatDoor
namespace Go.Proofs.YtjjkdbmjloolaaaGreatDoor
open Go.RowKit
def lets (l : List UInt8) : Bool := l.all fun c => decide (97 ≤ c.toNat) && decide (c.toNat ≤ 122)
theorem take_snoc (s : ByteArray) (k : Nat) (h : k < s.size) : s.data.toList.take (k + 1) = s.data.toList.take k ++ [s[k]] := by
 rw [List.take_succ_eq_append_getElem (by simpa using h)]; rfl
theorem lets_snoc (l : List UInt8) (c : UInt8) : lets (l ++ [c]) = (lets l && (decide (97 ≤ c.toNat) && decide (c.toNat ≤ 122))) := by
 unfold lets; rw [List.all_append]; simp [List.all_cons]
theorem lets_more (s : ByteArray) (k : Nat) (h : k < s.size) (hl : lets (s.data.toList.take k) = true) (h1 : 97 ≤ s[k].toNat) (h2 : s[k].toNat ≤ 122) :
  lets (s.data.toList.take (k + 1)) = true := by
 rw [take_snoc s k h, lets_snoc, hl]; simp [h1, h2]
theorem lets_not (s : ByteArray) (k : Nat) (h : k < s.size) (hc : s[k].toNat < 97 ∨ 122 < s[k].toNat) : lets s.data.toList = false := by
 have hm : s[k] ∈ s.data.toList := by
  have : s.data.toList[k]'(by simpa using h) = s[k] := rfl
  rw [← this]; exact List.getElem_mem _
 unfold lets
 rw [Bool.eq_false_iff]
 intro ha
 rw [List.all_eq_true] at ha
 have := ha _ hm
 simp only [Bool.and_eq_true, decide_eq_true_eq] at this
 omega
theorem lets_all (s : ByteArray) (k : Nat) (h : s.size ≤ k) (hl : lets (s.data.toList.take k) = true) : lets s.data.toList = true := by
 rwa [List.take_of_length_le (by simpa using h)] at hl
def numB (n : Int) : Bool := decide (-1000000000 ≤ n) && decide (n ≤ 1000000000)
def okB (k n : Int) (t : ByteArray) : Bool :=
 if k = 0 then n == 0 && t.toList.isEmpty
 else if k = 1 then numB n && t.toList.isEmpty
 else if k = 2 then (lets t.data.toList && decide ((t.size : Int) ≤ 12)) && n == 0
 else if k = 3 then (decide (0 ≤ n) && decide (n ≤ 1)) && t.toList.isEmpty
 else false
end Go.Proofs.YtjjkdbmjloolaaaGreatDoor
namespace Go.Proofs.YtjjkdbmjloolaaaGreatDoor
open Go.ChangeShapes Go.WideShapes Go.ChangeAt Go.RowKit
set_option maxHeartbeats 400000 in
theorem letters_spec (s : ByteArray) (m : Int) (w : World) (hs : s.size ≤ maxLen) :
    Calls Tryz.prog 66 #[.string s, .int .i64 m] w fun e w' => e = .returned (.bool (lets s.data.toList && decide ((s.size : Int) ≤ m))) ∧ w' = w := by
  unfold maxLen at hs
  go_enter Tryz.func66, Tryz.ntmps66
  go_wp2
  go_loop [5] (fun i => ∃ k : Nat, k ≤ s.size ∧ i = .int .i64 k ∧ Hid (lets (s.data.toList.take k) = true)) (fun i => s.size - (intOf i).toNat)
  case atStart => exact ⟨0, Nat.zero_le _, rfl, by show lets (s.data.toList.take 0) = true; simp [lets]⟩
  case round =>
    obtain ⟨k, hk, rfl, hl⟩ := hrel
    by_cases hlt : k < s.size
    · go_wp2
      all_goals first
        | (go_ret; exact ⟨ret_bool (by simp [lets_not s k hlt (by omega)]), rfl⟩)
        | (go_round
           case rel => exact ⟨k + 1, by omega, by go_num, lets_more s k hlt hl.out (by omega) (by omega)⟩
           case measure => simp [intOf]; omega)
    · go_wp2
      go_ret
      exact ⟨ret_bool (by simp [lets_all s k (by omega) hl.out]), rfl⟩
set_option maxHeartbeats 400000 in
theorem textFits_impl (s : ByteArray) (w : World) (hs : s.size ≤ maxLen) :
    Calls Tryz.prog 57 #[.string s] w fun e w' => e = .returned (.bool (lets s.data.toList && decide ((s.size : Int) ≤ 12))) ∧ w' = w := by
  unfold maxLen at hs
  by_cases h12 : (s.size : Int) ≤ 12
  · go_enter Tryz.func57, Tryz.ntmps57
    go_wp2
    go_loop [9] (fun i => ∃ k : Nat, k ≤ s.size ∧ i = .int .i64 k ∧ Hid (lets (s.data.toList.take k) = true)) (fun i => s.size - (intOf i).toNat)
    case atStart => exact ⟨0, Nat.zero_le _, rfl, by show lets (s.data.toList.take 0) = true; simp [lets]⟩
    case round =>
      obtain ⟨k, hk, rfl, hl⟩ := hrel
      by_cases hlt : k < s.size
      · go_wp2
        all_goals first
          | (go_ret; exact ⟨ret_bool (by simp [lets_not s k hlt (by omega)]), rfl⟩)
          | (go_round
             case rel => exact ⟨k + 1, by omega, by go_num, lets_more s k hlt hl.out (by omega) (by omega)⟩
             case measure => simp [intOf]; omega)
      · go_wp2
        go_ret
        exact ⟨ret_bool (by simp [lets_all s k (by omega) hl.out]), rfl⟩
  · go_enter Tryz.func57, Tryz.ntmps57
    go_wp2
    go_ret
    exact ⟨ret_bool (by simp [h12]), rfl⟩
theorem in_spec (x a b : Int) (w : World) :
    Calls Tryz.prog 35 #[.int .i64 x, .int .i64 a, .int .i64 b] w fun e w' => e = .returned (.bool (decide (a ≤ x) && decide (x ≤ b))) ∧ w' = w := by
  go_enter Tryz.func35, Tryz.ntmps35
  go_wp2
  all_goals go_ret
  all_goals exact ⟨ret_bool (by first | (simp; done) | (simp; omega)), rfl⟩
theorem number_spec (x : Int) (w : World) :
    Calls Tryz.prog 134 #[.int .i64 x] w fun e w' => e = .returned (.bool (numB x)) ∧ w' = w := by
  go_enter Tryz.func134, Tryz.ntmps134
  go_wp2_with (go_at_call 35; refine (in_spec _ _ _ _).mono ?_; rintro e w' ⟨rfl, rfl⟩)
  all_goals go_ret
  all_goals exact ⟨ret_bool (by first | (simp [numB]; done) | (simp [numB]; omega)), rfl⟩
theorem numberFits_impl (x : Int) (w : World) :
    Calls Tryz.prog 172 #[.int .i64 x] w fun e w' => e = .returned (.bool (numB x)) ∧ w' = w := by
  go_enter Tryz.func172, Tryz.ntmps172
  go_wp2
  all_goals go_ret
  all_goals exact ⟨ret_bool (by first | (simp [numB]; done) | (simp [numB]; omega)), rfl⟩
theorem sz_laws (k n : Int) (t : ByteArray) (l : Int) (w : World) (ht : t.size ≤ maxLen) (h0 : 0 ≤ l) (h1 : l ≤ 1048576) :
  Calls Tryz.prog 65 #[.agg #[.int .i64 k, .int .i64 n, .string t], .int .i64 l] w fun e w' => e = .returned (.int .i64 (if l < (t.size : Int) then -1 else l - t.size)) ∧ Below w.heap.size w w' := by
 unfold maxLen at ht
 by_cases hl : l < (t.size : Int)
 · have hl' : l - (t.size : Int) < 0 := by omega
  go_enter Tryz.func65, Tryz.ntmps65
  go_wp2
  go_ret
  exact ⟨rfl, by go_grown⟩
 · have hl' : ¬ l - (t.size : Int) < 0 := by omega
  go_enter Tryz.func65, Tryz.ntmps65
  go_wp2
  go_ret
  exact ⟨rfl, by go_grown⟩
theorem to_laws (k n : Int) (t : ByteArray) (w : World) :
  Calls Tryz.prog 75 #[.agg #[.int .i64 k, .int .i64 n, .string t]] w fun e w' => e = .returned (.agg #[.int .i64 k, .int .i64 n, .string t]) ∧ Below w.heap.size w w' := by
 go_enter Tryz.func75, Tryz.ntmps75
 go_wp2
 go_returns
 exact ⟨rfl, by go_grown⟩
theorem ok_spec (k n : Int) (t : ByteArray) (w : World) (ht : t.size ≤ maxLen) :
  Calls Tryz.prog 115 #[.agg #[.int .i64 k, .int .i64 n, .string t]] w fun e w' => e = .returned (.bool (okB k n t)) ∧ Below w.heap.size w w' := by
 by_cases k0 : k = 0
 · subst k0
  go_enter Tryz.func115, Tryz.ntmps115
  go_wp2
  all_goals go_ret
  all_goals exact ⟨ret_bool (by simp [okB, *]), by go_grown⟩
 by_cases k1 : k = 1
 · subst k1
  go_enter Tryz.func115, Tryz.ntmps115
  go_wp2_with (go_at_call 134; refine (number_spec _ _).mono ?_; rintro e w' ⟨rfl, rfl⟩)
  all_goals go_ret
  all_goals exact ⟨ret_bool (by simp [okB, *]), by go_grown⟩
 by_cases k2 : k = 2
 · subst k2
  go_enter Tryz.func115, Tryz.ntmps115
  cases hL : (lets t.data.toList && decide ((t.size : Int) ≤ 12))
  all_goals
   go_wp2_with (go_at_call 66; refine (letters_spec _ _ _ ht).mono ?_; rintro e w' ⟨rfl, rfl⟩)
   go_ret
   exact ⟨ret_bool (by simp only [okB, hL]; simp), by go_grown⟩
 by_cases k3 : k = 3
 · subst k3
  go_enter Tryz.func115, Tryz.ntmps115
  go_wp2_with (go_at_call 35; refine (in_spec _ _ _ _).mono ?_; rintro e w' ⟨rfl, rfl⟩)
  all_goals go_ret
  all_goals exact ⟨ret_bool (by simp [okB, *]), by go_grown⟩
 · go_enter Tryz.func115, Tryz.ntmps115
  go_wp2
  go_ret
  exact ⟨ret_bool (by simp [okB, *]), by go_grown⟩
def sameB (a b : Int) (s : ByteArray) (c d : Int) (u : ByteArray) : Bool := (a == c && b == d) && s.toList == u.toList
theorem run_eql (a b : Int) (s : ByteArray) (c d : Int) (u : ByteArray) (w : World) :
  (binOp .eql 95 (.agg #[.int .i64 a, .int .i64 b, .string s]) (.agg #[.int .i64 c, .int .i64 d, .string u])).run Tryz.prog w = .ok (.bool (sameB a b s c d u)) w := by
 by_cases h1 : a = c
 · by_cases h2 : b = d
  · subst h1 h2
   go_simp
   by_cases h3 : s.toList = u.toList
   · rw [if_pos h3]; simp [sameB, h3]
   · rw [if_neg h3]; simp [sameB, h3]
  · go_simp
   simp [sameB, h2]
 · go_simp
  simp [sameB, h1]
theorem bytes_eq {s u : ByteArray} (h : s.toList = u.toList) : s = u := by
 rw [ByteArray.toList_eq, ByteArray.toList_eq] at h
 cases s with
 | mk x => cases u with
  | mk y => simp at h; rw [h]
theorem sameB_eq {a b : Int} {s : ByteArray} {c d : Int} {u : ByteArray} : sameB a b s c d u = true ↔ a = c ∧ b = d ∧ s = u := by
 unfold sameB
 simp only [Bool.and_eq_true, beq_iff_eq]
 exact ⟨fun ⟨⟨h1, h2⟩, h3⟩ => ⟨h1, h2, bytes_eq h3⟩, fun ⟨h1, h2, h3⟩ => ⟨⟨h1, h2⟩, by rw [h3]⟩⟩
theorem shape0 (n : Int) (t : ByteArray) (w : World) :
  Calls Tryz.prog 157 #[.agg #[.int .i64 0, .int .i64 n, .string t]] w fun e w' => e = .returned (.iface 249 (.agg #[])) ∧ Below w.heap.size w w' := by
 go_enter Tryz.func157, Tryz.ntmps157
 go_wp2
 go_ret
 exact ⟨rfl, by go_grown⟩
theorem shape1 (n : Int) (t : ByteArray) (w : World) :
  Calls Tryz.prog 157 #[.agg #[.int .i64 1, .int .i64 n, .string t]] w fun e w' => e = .returned (.iface 251 (.agg #[.int .i64 n])) ∧ Below w.heap.size w w' := by
 go_enter Tryz.func157, Tryz.ntmps157
 go_wp2
 go_ret
 exact ⟨rfl, by go_grown⟩
theorem shape2 (n : Int) (t : ByteArray) (w : World) :
  Calls Tryz.prog 157 #[.agg #[.int .i64 2, .int .i64 n, .string t]] w fun e w' => e = .returned (.iface 253 (.agg #[.string t])) ∧ Below w.heap.size w w' := by
 go_enter Tryz.func157, Tryz.ntmps157
 go_wp2
 go_ret
 exact ⟨rfl, by go_grown⟩
theorem shape3 (n : Int) (t : ByteArray) (w : World) :
  Calls Tryz.prog 157 #[.agg #[.int .i64 3, .int .i64 n, .string t]] w fun e w' => e = .returned (.iface 254 (.agg #[.int .i64 n])) ∧ Below w.heap.size w w' := by
 go_enter Tryz.func157, Tryz.ntmps157
 go_wp2
 go_ret
 exact ⟨rfl, by go_grown⟩
theorem shape4 (k n : Int) (t : ByteArray) (w : World) (k0 : k ≠ 0) (k1 : k ≠ 1) (k2 : k ≠ 2) (k3 : k ≠ 3) :
  Calls Tryz.prog 157 #[.agg #[.int .i64 k, .int .i64 n, .string t]] w fun e w' => e = .returned (.iface 255 (.agg #[])) ∧ Below w.heap.size w w' := by
 go_enter Tryz.func157, Tryz.ntmps157
 go_wp2
 go_ret
 exact ⟨rfl, by go_grown⟩
theorem asserts_noneShape : (∀ (v : Value) (w : World), (Instr.typeAssert (.iface 249 v) 221 249 true).run Tryz.prog w = .ok (.tuple #[v, .bool true]) w) :=
 fun v w => by kernel_rfl
theorem asserts_numberShape : (∀ (v : Value) (w : World), (Instr.typeAssert (.iface 251 v) 221 249 true).run Tryz.prog w = .ok (.tuple #[.agg #[], .bool false]) w) ∧ (∀ (v : Value) (w : World), (Instr.typeAssert (.iface 251 v) 221 251 true).run Tryz.prog w = .ok (.tuple #[v, .bool true]) w) :=
 ⟨fun v w => by kernel_rfl, fun v w => by kernel_rfl⟩
theorem asserts_textShape : (∀ (v : Value) (w : World), (Instr.typeAssert (.iface 253 v) 221 249 true).run Tryz.prog w = .ok (.tuple #[.agg #[], .bool false]) w) ∧ (∀ (v : Value) (w : World), (Instr.typeAssert (.iface 253 v) 221 251 true).run Tryz.prog w = .ok (.tuple #[.agg #[.int .i64 0], .bool false]) w) ∧ (∀ (v : Value) (w : World), (Instr.typeAssert (.iface 253 v) 221 253 true).run Tryz.prog w = .ok (.tuple #[v, .bool true]) w) :=
 ⟨fun v w => by kernel_rfl, fun v w => by kernel_rfl, fun v w => by kernel_rfl⟩
theorem asserts_truthShape : (∀ (v : Value) (w : World), (Instr.typeAssert (.iface 254 v) 221 249 true).run Tryz.prog w = .ok (.tuple #[.agg #[], .bool false]) w) ∧ (∀ (v : Value) (w : World), (Instr.typeAssert (.iface 254 v) 221 251 true).run Tryz.prog w = .ok (.tuple #[.agg #[.int .i64 0], .bool false]) w) ∧ (∀ (v : Value) (w : World), (Instr.typeAssert (.iface 254 v) 221 253 true).run Tryz.prog w = .ok (.tuple #[.agg #[.string ⟨#[]⟩], .bool false]) w) ∧ (∀ (v : Value) (w : World), (Instr.typeAssert (.iface 254 v) 221 254 true).run Tryz.prog w = .ok (.tuple #[v, .bool true]) w) :=
 ⟨fun v w => by kernel_rfl, fun v w => by kernel_rfl, fun v w => by kernel_rfl, fun v w => by kernel_rfl⟩
theorem asserts_strangeShape : (∀ (v : Value) (w : World), (Instr.typeAssert (.iface 255 v) 221 249 true).run Tryz.prog w = .ok (.tuple #[.agg #[], .bool false]) w) ∧ (∀ (v : Value) (w : World), (Instr.typeAssert (.iface 255 v) 221 251 true).run Tryz.prog w = .ok (.tuple #[.agg #[.int .i64 0], .bool false]) w) ∧ (∀ (v : Value) (w : World), (Instr.typeAssert (.iface 255 v) 221 253 true).run Tryz.prog w = .ok (.tuple #[.agg #[.string ⟨#[]⟩], .bool false]) w) ∧ (∀ (v : Value) (w : World), (Instr.typeAssert (.iface 255 v) 221 254 true).run Tryz.prog w = .ok (.tuple #[.agg #[.int .i64 0], .bool false]) w) :=
 ⟨fun v w => by kernel_rfl, fun v w => by kernel_rfl, fun v w => by kernel_rfl, fun v w => by kernel_rfl⟩
theorem shapeOk0 (w : World) :
  Calls Tryz.prog 158 #[.iface 249 (.agg #[])] w fun e w' => e = .returned (.bool true) ∧ Below w.heap.size w w' := by
 have q0 := asserts_noneShape
 go_enter Tryz.func158, Tryz.ntmps158
 go_wp2
 go_ret
 exact ⟨rfl, by go_grown⟩
theorem shapeOk1 (n : Int) (w : World) :
  Calls Tryz.prog 158 #[.iface 251 (.agg #[.int .i64 n])] w fun e w' => e = .returned (.bool (numB n)) ∧ Below w.heap.size w w' := by
 obtain ⟨q0, q1⟩ := asserts_numberShape
 go_enter Tryz.func158, Tryz.ntmps158
 go_wp2_with (go_at_call 172; refine (numberFits_impl _ _).mono ?_; rintro e w' ⟨rfl, rfl⟩)
 go_ret
 exact ⟨rfl, by go_grown⟩
theorem shapeOk2 (t : ByteArray) (w : World) (ht : t.size ≤ maxLen) :
  Calls Tryz.prog 158 #[.iface 253 (.agg #[.string t])] w fun e w' => e = .returned (.bool (lets t.data.toList && decide ((t.size : Int) ≤ 12))) ∧ Below w.heap.size w w' := by
 obtain ⟨q0, q1, q2⟩ := asserts_textShape
 go_enter Tryz.func158, Tryz.ntmps158
 go_wp2_with (go_at_call 57; refine (textFits_impl _ _ ht).mono ?_; rintro e w' ⟨rfl, rfl⟩)
 go_ret
 exact ⟨rfl, by go_grown⟩
theorem shapeOk3 (n : Int) (w : World) :
  Calls Tryz.prog 158 #[.iface 254 (.agg #[.int .i64 n])] w fun e w' => e = .returned (.bool (decide (0 ≤ n) && decide (n ≤ 1))) ∧ Below w.heap.size w w' := by
 obtain ⟨q0, q1, q2, q3⟩ := asserts_truthShape
 go_enter Tryz.func158, Tryz.ntmps158
 go_wp2
 all_goals go_ret
 all_goals exact ⟨ret_bool (by first | (simp [*]; done) | (rw [Bool.eq_iff_iff]; simp; omega)), by go_grown⟩
theorem shapeOk4 (w : World) :
  Calls Tryz.prog 158 #[.iface 255 (.agg #[])] w fun e w' => e = .returned (.bool false) ∧ Below w.heap.size w w' := by
 obtain ⟨q0, q1, q2, q3⟩ := asserts_strangeShape
 go_enter Tryz.func158, Tryz.ntmps158
 go_wp2
 go_ret
 exact ⟨rfl, by go_grown⟩
end Go.Proofs.YtjjkdbmjloolaaaGreatDoor
