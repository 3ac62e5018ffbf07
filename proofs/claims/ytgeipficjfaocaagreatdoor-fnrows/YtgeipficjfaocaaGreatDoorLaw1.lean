/-
  What every law over a drawn code uses: cells that lie in blocks, from world to world; a code that reads the same later; a cell held against itself.
-/
import Derived.Test.YtgeipficjfaocaaGreatDoorDraw6
namespace Go.Proofs.YtgeipficjfaocaaGreatDoor
open Go.ChangeShapes Go.WideShapes Go.ChangeAt Go.RowKit

/-- A cell lies in block B. -/
def C3 (w : World) (B : Nat) (k n : Int) (t : ByteArray) : Prop :=
  w.cell? ⟨B, 0, none⟩ = some (.int .i64 k) ∧ w.cell? ⟨B, 1, none⟩ = some (.int .i64 n) ∧ w.cell? ⟨B, 2, none⟩ = some (.string t) ∧ B < w.heap.size
theorem C3.below {w w' : World} {B : Nat} {k n : Int} {t : ByteArray} (h : C3 w B k n t) (hb : Below w.heap.size w w') : C3 w' B k n t := later3 hb h
theorem C3.step {w w' : World} {B : Nat} {k n : Int} {t : ByteArray} {o : Obj} (h : C3 w B k n t) (hb : Below (w.alloc o).heap.size (w.alloc o) w') : C3 w' B k n t := h.below (chainA hb)
theorem C3.fresh {w w' : World} {k n : Int} {t : ByteArray} {T : TypeId} (hb : Below (w.alloc (.cells #[.int .i64 k, .int .i64 n, .string t] T)).heap.size (w.alloc (.cells #[.int .i64 k, .int .i64 n, .string t] T)) w') : C3 w' w.heap.size k n t := box3 hb

/-- The code that a law is handed, byte by byte. -/
def Code0 (w : World) (a : Option Addr) (len : Nat) : Prop :=
  ∀ j, j < len → ∃ (rb ro : Nat) (v : Int), a = some ⟨rb, ro, none⟩ ∧ rb < w.heap.size ∧ w.cell? ⟨rb, ro + j, none⟩ = some (.int .u8 v) ∧ 0 ≤ v ∧ v ≤ 255
theorem Code0.below {w w' : World} {a : Option Addr} {len : Nat} (h : Code0 w a len) (hb : Below w.heap.size w w') : Code0 w' a len := by
  intro j hj
  obtain ⟨rb, ro, v, ha, hrb, hcell, hv⟩ := h j hj
  exact ⟨rb, ro, v, ha, Nat.lt_of_lt_of_le hrb hb.size, by rw [hb.cell (p := ⟨rb, ro + j, none⟩) hrb]; exact hcell, hv⟩
theorem Code0.alloc {w : World} {a : Option Addr} {len : Nat} (h : Code0 w a len) (o : Obj) : Code0 (w.alloc o) a len := h.below ((Below.refl _ _).alloc (Nat.le_refl _) o)

theorem neq_same (a b : Int) (s : ByteArray) (w : World) :
    (binOp .neq 31 (.agg #[.int .i64 a, .int .i64 b, .string s]) (.agg #[.int .i64 a, .int .i64 b, .string s])).run Tryz.prog w = .ok (.bool false) w := by
  rw [run_neq, sameB_refl]; rfl
theorem eql_same (a b : Int) (s : ByteArray) (w : World) :
    (binOp .eql 31 (.agg #[.int .i64 a, .int .i64 b, .string s]) (.agg #[.int .i64 a, .int .i64 b, .string s])).run Tryz.prog w = .ok (.bool true) w := by
  rw [run_eql, sameB_refl]

theorem big_laws (a : Option Addr) (len cap : Nat) (w : World) :
    Calls Tryz.prog 4 #[.slice a len cap] w fun e w' => e = .returned (.bool (decide (4096 < (len : Int)))) ∧ w = w' := by
  go_enter Tryz.func4, Tryz.ntmps4
  go_wp2
  go_ret
  exact ⟨rfl, rfl⟩

end Go.Proofs.YtgeipficjfaocaaGreatDoor
