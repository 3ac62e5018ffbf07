/-
  A part of the proof: Sivs, Walk9, Three2, Three3, Three4, RkS, ShpS1.
-/
import Derived.Test.YtegnekbbbfncgaaGreatDoorPart14
import Derived.Test.YtegnekbbbfncgaaGreatDoorPart12
import Derived.Test.YtegnekbbbfncgaaGreatDoorPart13
import Derived.Test.YtegnekbbbfncgaaGreatDoorPart9
import Derived.Test.YtegnekbbbfncgaaGreatDoorPart4
import Derived.Test.YtegnekbbbfncgaaGreatDoorPart7

/-
  Lists of sieves: how a slice of sieves lies in memory, and the contracts of the law's helpers that measure one, hold two that are one against each other, and take one over.
-/
namespace Go.Proofs.YtegnekbbbfncgaaGreatDoor
open Go.ChangeShapes Go.WideShapes Go.ChangeAt Go.RowKit
attribute [local go_sem ↓] Go.wp_at_zero Go.wp_at_succ

/-- The sieves of a slice lie where it says. -/
def SivsAt (w : World) (a : Option Addr) (T : List SV) : Prop :=
  ∀ i (h : i < T.length), ∃ b o na nc sa sc, a = some ⟨b, o, none⟩ ∧ b < w.heap.size ∧ (w.cell? ⟨b, o + i * 7, none⟩ = some (.int .i64 T[i].kind) ∧ w.cell? ⟨b, o + i * 7 + 1, none⟩ = some (.string T[i].name) ∧ w.cell? ⟨b, o + i * 7 + 2, none⟩ = some (.slice na T[i].names.length nc) ∧ w.cell? ⟨b, o + i * 7 + 3, none⟩ = some (.slice sa T[i].sum.length sc) ∧ w.cell? ⟨b, o + i * 7 + 4, none⟩ = some (.bool T[i].down) ∧ w.cell? ⟨b, o + i * 7 + 5, none⟩ = some (.int .i64 T[i].count) ∧ w.cell? ⟨b, o + i * 7 + 6, none⟩ = some (.int .i64 T[i].skip)) ∧ SivAt w na nc sa T[i]
theorem SivsAt.below {w w' : World} {a : Option Addr} {T : List SV} (h : SivsAt w a T) (hb : Below w.heap.size w w') : SivsAt w' a T := by
  intro i hi
  obtain ⟨b, o, na, nc, sa, sc, ha, hlt, ⟨c0, c1, c2, c3, c4, c5, c6⟩, h3⟩ := h i hi
  have key : ∀ p, w'.cell? ⟨b, p, none⟩ = w.cell? ⟨b, p, none⟩ := fun p => hb.cell (p := ⟨b, p, none⟩) hlt
  refine ⟨b, o, na, nc, sa, sc, ha, Nat.lt_of_lt_of_le hlt hb.size, ?_, h3.below hb⟩
  simp only [key]
  exact ⟨c0, c1, c2, c3, c4, c5, c6⟩

/-- The first m sieves are taken over into block g, their lists behind it. -/
structure TakV (w : World) (g : Nat) (T : List SV) (m : Nat) : Prop where
  lt : g < w.heap.size
  there : ∀ q, q < T.length * 7 → ∃ u, w.cell? ⟨g, q, none⟩ = some u
  free : ∀ q, w.frozen? ⟨g, q, none⟩ = false
  sivs : ∀ i (_ : i < T.length), i < m → ∃ g1 g2, (w.cell? ⟨g, i * 7, none⟩ = some (.int .i64 T[i].kind) ∧ w.cell? ⟨g, i * 7 + 1, none⟩ = some (.string T[i].name) ∧ w.cell? ⟨g, i * 7 + 2, none⟩ = some (.slice (some ⟨g1, 0, none⟩) T[i].names.length T[i].names.length) ∧ w.cell? ⟨g, i * 7 + 3, none⟩ = some (.slice (some ⟨g2, 0, none⟩) T[i].sum.length T[i].sum.length) ∧ w.cell? ⟨g, i * 7 + 4, none⟩ = some (.bool T[i].down) ∧ w.cell? ⟨g, i * 7 + 5, none⟩ = some (.int .i64 T[i].count) ∧ w.cell? ⟨g, i * 7 + 6, none⟩ = some (.int .i64 T[i].skip)) ∧ NewSiv w (g + 1) g1 g2 T[i]
theorem TakV.below {w w' : World} {g : Nat} {T : List SV} {m : Nat} (h : TakV w g T m) (hb : Below w.heap.size w w') : TakV w' g T m where
  lt := Nat.lt_of_lt_of_le h.lt hb.size
  there q hq := by obtain ⟨u, hu⟩ := h.there q hq; exact ⟨u, by rw [hb.cell (p := ⟨g, q, none⟩) h.lt]; exact hu⟩
  free q := by rw [hb.frozen (p := ⟨g, q, none⟩) h.lt]; exact h.free q
  sivs i hi hm := by
    obtain ⟨g1, g2, c, N⟩ := h.sivs i hi hm
    have key : ∀ p, w'.cell? ⟨g, p, none⟩ = w.cell? ⟨g, p, none⟩ := fun p => hb.cell (p := ⟨g, p, none⟩) h.lt
    refine ⟨g1, g2, ?_, N.below hb⟩
    simp only [key]
    exact c
theorem TakV.lies {w : World} {g : Nat} {T : List SV} (h : TakV w g T T.length) (hf : ∀ i (hi : i < T.length), FitS T[i].names ∧ T[i].name.size ≤ maxLen ∧ T[i].names.length ≤ maxLen ∧ FitItm T[i].sum ∧ T[i].sum.length ≤ maxLen) : SivsAt w (some ⟨g, 0, none⟩) T := by
  intro i hi
  obtain ⟨g1, g2, c, N⟩ := h.sivs i hi hi
  obtain ⟨f1, f2, f3, f4, f5⟩ := hf i hi
  refine ⟨g, 0, some ⟨g1, 0, none⟩, T[i].names.length, some ⟨g2, 0, none⟩, T[i].sum.length, rfl, h.lt, ?_, N.lies f1 f2 f3 f4 f5⟩
  rw [Nat.zero_add]
  exact c
end Go.Proofs.YtegnekbbbfncgaaGreatDoor

/-
  The contracts of the model's Plus, Less, Times and By.
-/
namespace Go.Proofs.YtegnekbbbfncgaaGreatDoor
open Go.ChangeShapes Go.WideShapes Go.ChangeAt Go.RowKit

end Go.Proofs.YtegnekbbbfncgaaGreatDoor

/-
  The contracts of the program's Both, Either, Not, IsNone and Holds: what comes of right answers, and what else.
-/
namespace Go.Proofs.YtegnekbbbfncgaaGreatDoor
open Go.ChangeShapes Go.WideShapes Go.ChangeAt Go.RowKit
attribute [local go_sem ↓] Go.wp_at_zero Go.wp_at_succ

end Go.Proofs.YtegnekbbbfncgaaGreatDoor

/-
  The contracts of the model's Not, IsNone and Holds: they come to what the program's come to.
-/
namespace Go.Proofs.YtegnekbbbfncgaaGreatDoor
open Go.ChangeShapes Go.WideShapes Go.ChangeAt Go.RowKit
attribute [local go_sem ↓] Go.wp_at_zero Go.wp_at_succ

set_option maxHeartbeats 400000 in
theorem three_specb (k n : Int) (t : ByteArray) (b : Bool) (hb : threeB k n t = b) (w : World) (ht : t.size ≤ maxLen) :
    Calls Tryz.prog 130 #[.agg #[.int .i64 k, .int .i64 n, .string t]] w fun e w' => e = .returned (.bool b) ∧ Below w.heap.size w w' := by
  subst hb
  cases h : okB k n t
  · rw [show threeB k n t = false from by simp [threeB, h]]
    go_enter Tryz.func130, Tryz.ntmps130
    go_wp2_with fail
    refine (ok_specb _ _ _ _ h _ ht).mono ?_
    rintro e w1 ⟨rfl, hb1⟩
    go_wp2
    go_ret
    exact ⟨rfl, chainA hb1⟩
  · rw [show threeB k n t = (k == 3 || k == 0) from by simp [threeB, h]]
    by_cases k3 : k = 3
    · subst k3
      go_enter Tryz.func130, Tryz.ntmps130
      go_wp2_with fail
      refine (ok_specb _ _ _ _ h _ ht).mono ?_
      rintro e w1 ⟨rfl, hb1⟩
      obtain ⟨a1, b1, c1, d1⟩ := box3 hb1
      go_wp2
      go_ret
      exact ⟨rfl, chainA hb1⟩
    · rw [show (k == 3) = false from by simp [k3], Bool.false_or]
      go_enter Tryz.func130, Tryz.ntmps130
      go_wp2_with fail
      refine (ok_specb _ _ _ _ h _ ht).mono ?_
      rintro e w1 ⟨rfl, hb1⟩
      obtain ⟨a1, b1, c1, d1⟩ := box3 hb1
      go_wp2
      go_ret
      exact ⟨ret_bool (by first | rfl | simp [*]), chainA hb1⟩

end Go.Proofs.YtegnekbbbfncgaaGreatDoor

/-
  The contracts of the model's Both and Either: they come to what the program's come to.
-/
namespace Go.Proofs.YtegnekbbbfncgaaGreatDoor
open Go.ChangeShapes Go.WideShapes Go.ChangeAt Go.RowKit
attribute [local go_sem ↓] Go.wp_at_zero Go.wp_at_succ

end Go.Proofs.YtegnekbbbfncgaaGreatDoor

/-
  The contracts of the model's l9One, l9Two and l9Has.
-/
namespace Go.Proofs.YtegnekbbbfncgaaGreatDoor
open Go.ChangeShapes Go.WideShapes Go.ChangeAt Go.RowKit
attribute [local go_sem ↓] Go.wp_at_zero Go.wp_at_succ
attribute [local simp] World.cell?_alloc_past World.cell?_alloc_at World.frozen?_alloc_at cell_far cell_off cell_here World.frozen?_alloc_past

end Go.Proofs.YtegnekbbbfncgaaGreatDoor

/-
  The contract of the model's step of a shape.
-/
namespace Go.Proofs.YtegnekbbbfncgaaGreatDoor
open Go.ChangeShapes Go.WideShapes Go.ChangeAt Go.RowKit
attribute [local go_sem ↓] Go.wp_at_zero Go.wp_at_succ
attribute [local simp] World.cell?_alloc_past World.cell?_alloc_at World.frozen?_alloc_at cell_far cell_off cell_here World.frozen?_alloc_past

/-- Columns of its own and a code. -/
def ShpOut (w : World) (D : List ByteArray) (k : Int) (e : Ending) (w' : World) : Prop :=
  ∃ g n c, D.length = n ∧ e = .returned (.tuple #[.slice (some ⟨g, 0, none⟩) n c, .int .i64 k]) ∧ n ≤ c ∧ w'.ownsRow w.heap.size 9 1 (.slice (some ⟨g, 0, none⟩) n c) n (strV D) ∧ Below w.heap.size w w'
theorem own_keepW {w w' : World} {base base' g c : Nat} {e : TypeId} {size n : Nat} {xs : List Value} (h : w.ownsRow base e size (.slice (some ⟨g, 0, none⟩) n c) n xs) (hb : base' ≤ base) (hk : w'.heap[g]? = w.heap[g]?) : w'.ownsRow base' e size (.slice (some ⟨g, 0, none⟩) n c) n xs := by
  refine ⟨h.1, ?_⟩
  rcases h.2 with h' | ⟨g', cap, cur, h', hbg, hg, hr⟩
  · exact .inl h'
  · refine .inr ⟨g', cap, cur, h', by omega, ?_, hr⟩
    simp only [Value.slice.injEq, Option.some.injEq, Addr.mk.injEq, and_true, true_and] at h'
    obtain ⟨rfl, _⟩ := h'
    rw [hk]; exact hg
end Go.Proofs.YtegnekbbbfncgaaGreatDoor
