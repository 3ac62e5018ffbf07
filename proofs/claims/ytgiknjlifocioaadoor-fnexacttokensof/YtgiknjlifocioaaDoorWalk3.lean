/-
  The contracts of the program's own question whether a cell is right: by its shape.
-/
import Derived.Test.YtgiknjlifocioaaDoorEql
import Derived.Deep.RegionWith
namespace Go.Proofs.YtgiknjlifocioaaDoor
open Go.ChangeShapes Go.WideShapes Go.ChangeAt Go.RowKit

theorem shape0 (n : Int) (t : ByteArray) (w : World) :
    Calls Tryd.prog 51 #[.agg #[.int .i64 0, .int .i64 n, .string t]] w fun e w' => e = .returned (.iface 59 (.agg #[])) ∧ Below w.heap.size w w' := by
  go_enter Tryd.func51, Tryd.ntmps51
  go_wp2
  go_ret
  exact ⟨rfl, by go_grown⟩

theorem shape1 (n : Int) (t : ByteArray) (w : World) :
    Calls Tryd.prog 51 #[.agg #[.int .i64 1, .int .i64 n, .string t]] w fun e w' => e = .returned (.iface 70 (.agg #[.int .i64 n])) ∧ Below w.heap.size w w' := by
  go_enter Tryd.func51, Tryd.ntmps51
  go_wp2
  go_ret
  exact ⟨rfl, by go_grown⟩

theorem shape2 (n : Int) (t : ByteArray) (w : World) :
    Calls Tryd.prog 51 #[.agg #[.int .i64 2, .int .i64 n, .string t]] w fun e w' => e = .returned (.iface 64 (.agg #[.string t])) ∧ Below w.heap.size w w' := by
  go_enter Tryd.func51, Tryd.ntmps51
  go_wp2
  go_ret
  exact ⟨rfl, by go_grown⟩

theorem shape3 (n : Int) (t : ByteArray) (w : World) :
    Calls Tryd.prog 51 #[.agg #[.int .i64 3, .int .i64 n, .string t]] w fun e w' => e = .returned (.iface 76 (.agg #[.int .i64 n])) ∧ Below w.heap.size w w' := by
  go_enter Tryd.func51, Tryd.ntmps51
  go_wp2
  go_ret
  exact ⟨rfl, by go_grown⟩

theorem shape4 (k n : Int) (t : ByteArray) (w : World) (k0 : k ≠ 0) (k1 : k ≠ 1) (k2 : k ≠ 2) (k3 : k ≠ 3) :
    Calls Tryd.prog 51 #[.agg #[.int .i64 k, .int .i64 n, .string t]] w fun e w' => e = .returned (.iface 80 (.agg #[])) ∧ Below w.heap.size w w' := by
  go_enter Tryd.func51, Tryd.ntmps51
  go_wp2
  go_ret
  exact ⟨rfl, by go_grown⟩

theorem asserts_noneShape : (∀ (v : Value) (w : World), (Instr.typeAssert (.iface 59 v) 73 59 true).run Tryd.prog w = .ok (.tuple #[v, .bool true]) w) :=
  fun v w => by kernel_rfl

theorem asserts_numberShape : (∀ (v : Value) (w : World), (Instr.typeAssert (.iface 70 v) 73 59 true).run Tryd.prog w = .ok (.tuple #[.agg #[], .bool false]) w) ∧ (∀ (v : Value) (w : World), (Instr.typeAssert (.iface 70 v) 73 70 true).run Tryd.prog w = .ok (.tuple #[v, .bool true]) w) :=
  ⟨fun v w => by kernel_rfl, fun v w => by kernel_rfl⟩

theorem asserts_textShape : (∀ (v : Value) (w : World), (Instr.typeAssert (.iface 64 v) 73 59 true).run Tryd.prog w = .ok (.tuple #[.agg #[], .bool false]) w) ∧ (∀ (v : Value) (w : World), (Instr.typeAssert (.iface 64 v) 73 70 true).run Tryd.prog w = .ok (.tuple #[.agg #[.int .i64 0], .bool false]) w) ∧ (∀ (v : Value) (w : World), (Instr.typeAssert (.iface 64 v) 73 64 true).run Tryd.prog w = .ok (.tuple #[v, .bool true]) w) :=
  ⟨fun v w => by kernel_rfl, fun v w => by kernel_rfl, fun v w => by kernel_rfl⟩

theorem asserts_truthShape : (∀ (v : Value) (w : World), (Instr.typeAssert (.iface 76 v) 73 59 true).run Tryd.prog w = .ok (.tuple #[.agg #[], .bool false]) w) ∧ (∀ (v : Value) (w : World), (Instr.typeAssert (.iface 76 v) 73 70 true).run Tryd.prog w = .ok (.tuple #[.agg #[.int .i64 0], .bool false]) w) ∧ (∀ (v : Value) (w : World), (Instr.typeAssert (.iface 76 v) 73 64 true).run Tryd.prog w = .ok (.tuple #[.agg #[.string ⟨#[]⟩], .bool false]) w) ∧ (∀ (v : Value) (w : World), (Instr.typeAssert (.iface 76 v) 73 76 true).run Tryd.prog w = .ok (.tuple #[v, .bool true]) w) :=
  ⟨fun v w => by kernel_rfl, fun v w => by kernel_rfl, fun v w => by kernel_rfl, fun v w => by kernel_rfl⟩

theorem asserts_strangeShape : (∀ (v : Value) (w : World), (Instr.typeAssert (.iface 80 v) 73 59 true).run Tryd.prog w = .ok (.tuple #[.agg #[], .bool false]) w) ∧ (∀ (v : Value) (w : World), (Instr.typeAssert (.iface 80 v) 73 70 true).run Tryd.prog w = .ok (.tuple #[.agg #[.int .i64 0], .bool false]) w) ∧ (∀ (v : Value) (w : World), (Instr.typeAssert (.iface 80 v) 73 64 true).run Tryd.prog w = .ok (.tuple #[.agg #[.string ⟨#[]⟩], .bool false]) w) ∧ (∀ (v : Value) (w : World), (Instr.typeAssert (.iface 80 v) 73 76 true).run Tryd.prog w = .ok (.tuple #[.agg #[.int .i64 0], .bool false]) w) :=
  ⟨fun v w => by kernel_rfl, fun v w => by kernel_rfl, fun v w => by kernel_rfl, fun v w => by kernel_rfl⟩

theorem shapeOk0 (w : World) :
    Calls Tryd.prog 53 #[.iface 59 (.agg #[])] w fun e w' => e = .returned (.bool true) ∧ Below w.heap.size w w' := by
  have q0 := asserts_noneShape
  go_enter Tryd.func53, Tryd.ntmps53
  go_wp2
  go_ret
  exact ⟨rfl, by go_grown⟩

theorem shapeOk1 (n : Int) (w : World) :
    Calls Tryd.prog 53 #[.iface 70 (.agg #[.int .i64 n])] w fun e w' => e = .returned (.bool (numB n)) ∧ Below w.heap.size w w' := by
  obtain ⟨q0, q1⟩ := asserts_numberShape
  go_enter Tryd.func53, Tryd.ntmps53
  go_wp2_with (go_at_call 31; refine (numberFits_impl _ _).mono ?_; rintro e w' ⟨rfl, rfl⟩)
  go_ret
  exact ⟨rfl, by go_grown⟩

theorem shapeOk2 (t : ByteArray) (w : World) (ht : t.size ≤ maxLen) :
    Calls Tryd.prog 53 #[.iface 64 (.agg #[.string t])] w fun e w' => e = .returned (.bool (lets t.data.toList && decide ((t.size : Int) ≤ 12))) ∧ Below w.heap.size w w' := by
  obtain ⟨q0, q1, q2⟩ := asserts_textShape
  go_enter Tryd.func53, Tryd.ntmps53
  go_wp2_with (go_at_call 62; refine (textFits_impl _ _ ht).mono ?_; rintro e w' ⟨rfl, rfl⟩)
  go_ret
  exact ⟨rfl, by go_grown⟩

theorem shapeOk3 (n : Int) (w : World) :
    Calls Tryd.prog 53 #[.iface 76 (.agg #[.int .i64 n])] w fun e w' => e = .returned (.bool (decide (0 ≤ n) && decide (n ≤ 1))) ∧ Below w.heap.size w w' := by
  obtain ⟨q0, q1, q2, q3⟩ := asserts_truthShape
  go_enter Tryd.func53, Tryd.ntmps53
  go_wp2
  all_goals go_ret
  all_goals exact ⟨ret_bool (by first | (simp [*]; done) | (rw [Bool.eq_iff_iff]; simp; omega)), by go_grown⟩

theorem shapeOk4 (w : World) :
    Calls Tryd.prog 53 #[.iface 80 (.agg #[])] w fun e w' => e = .returned (.bool false) ∧ Below w.heap.size w w' := by
  obtain ⟨q0, q1, q2, q3⟩ := asserts_strangeShape
  go_enter Tryd.func53, Tryd.ntmps53
  go_wp2
  go_ret
  exact ⟨rfl, by go_grown⟩

end Go.Proofs.YtgiknjlifocioaaDoor
