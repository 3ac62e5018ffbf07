/-
  A part of the proof: ShI2.
-/
import Derived.Test.YtpggjgilklpncaaGreatPart3
import Derived.Laws.IdiomCopy

/-
  The contract of the program's order of names: a count and the first five of them, in a struct that can be held against another one.
-/
namespace Go.Proofs.YtpggjgilklpncaaGreat
open Go.ChangeShapes Go.WideShapes Go.ChangeAt Go.RowKit
attribute [local go_sem ↓] Go.wp_at_zero Go.wp_at_succ
attribute [local simp] World.cell?_alloc_past World.cell?_alloc_at World.frozen?_alloc_at cell_far cell_off cell_here World.frozen?_alloc_past

def ordV (n : Int) (a b c d e : ByteArray) : Value := .agg #[.int .i64 n, .string a, .string b, .string c, .string d, .string e]
theorem info_str1 : (Tryz.prog.info? 9).map (fun i => i.size) = some 1 := by kernel_rfl
set_option maxRecDepth 100000 in
set_option maxHeartbeats 2000000 in
theorem order0 (a : Option Addr) (cap : Nat) (w : World) :
    Calls Tryz.prog 49 #[.slice a 0 cap] w fun e w' => e = .returned (ordV 0 ⟨#[]⟩ ⟨#[]⟩ ⟨#[]⟩ ⟨#[]⟩ ⟨#[]⟩) ∧ Below w.heap.size w w' := by
  have h2 : Below w.heap.size w ((w.alloc (.cells #[.int .i64 0, .string ⟨#[]⟩, .string ⟨#[]⟩, .string ⟨#[]⟩, .string ⟨#[]⟩, .string ⟨#[]⟩] 78)).alloc (.cells #[.int .i64 0, .string ⟨#[]⟩, .string ⟨#[]⟩, .string ⟨#[]⟩, .string ⟨#[]⟩, .string ⟨#[]⟩] 78)) := ((Below.refl _ _).alloc (Nat.le_refl _) _).alloc (by simp) _
  have hcp : ∀ ty, (Builtin.copy_ #[31, 31] ty #[.slice (some ⟨w.heap.size + 1, 1, none⟩) 5 5, .slice a 0 cap]).run Tryz.prog ((w.alloc (.cells #[.int .i64 0, .string ⟨#[]⟩, .string ⟨#[]⟩, .string ⟨#[]⟩, .string ⟨#[]⟩, .string ⟨#[]⟩] 78)).alloc (.cells #[.int .i64 0, .string ⟨#[]⟩, .string ⟨#[]⟩, .string ⟨#[]⟩, .string ⟨#[]⟩, .string ⟨#[]⟩] 78)) = .ok (goInt 0) ((w.alloc (.cells #[.int .i64 0, .string ⟨#[]⟩, .string ⟨#[]⟩, .string ⟨#[]⟩, .string ⟨#[]⟩, .string ⟨#[]⟩] 78)).alloc (.cells #[.int .i64 0, .string ⟨#[]⟩, .string ⟨#[]⟩, .string ⟨#[]⟩, .string ⟨#[]⟩, .string ⟨#[]⟩] 78)) := fun ty => run_copy_none _ 31 31 ty 9 _ _ 5 5 0 cap Tryz.underlying31 info_str1 rfl
  go_enter Tryz.func49, Tryz.ntmps49
  go_wp2
  exact bodyPost_ret (v := ordV 0 ⟨#[]⟩ ⟨#[]⟩ ⟨#[]⟩ ⟨#[]⟩ ⟨#[]⟩) (by simp [results, Tryz.results49, go_sem, ordV]) rfl ⟨rfl, ((Below.refl _ _).alloc (Nat.le_refl _) _).alloc (by simp) _⟩

set_option maxRecDepth 100000 in
set_option maxHeartbeats 2000000 in
theorem order1 (b o cap : Nat) (x0 : ByteArray) (w : World) (hb : b < w.heap.size) (c0 : w.cell? ⟨b, o, none⟩ = some (.string x0)) :
    Calls Tryz.prog 49 #[.slice (some ⟨b, o, none⟩) 1 cap] w fun e w' => e = .returned (ordV 1 x0 ⟨#[]⟩ ⟨#[]⟩ ⟨#[]⟩ ⟨#[]⟩) ∧ Below w.heap.size w w' := by
  have h2 : Below w.heap.size w ((w.alloc (.cells #[.int .i64 0, .string ⟨#[]⟩, .string ⟨#[]⟩, .string ⟨#[]⟩, .string ⟨#[]⟩, .string ⟨#[]⟩] 78)).alloc (.cells #[.int .i64 1, .string ⟨#[]⟩, .string ⟨#[]⟩, .string ⟨#[]⟩, .string ⟨#[]⟩, .string ⟨#[]⟩] 78)) := ((Below.refl _ _).alloc (Nat.le_refl _) _).alloc (by simp) _
  have hcp : ∀ ty, (Builtin.copy_ #[31, 31] ty #[.slice (some ⟨w.heap.size + 1, 1, none⟩) 5 5, .slice (some ⟨b, o, none⟩) 1 cap]).run Tryz.prog ((w.alloc (.cells #[.int .i64 0, .string ⟨#[]⟩, .string ⟨#[]⟩, .string ⟨#[]⟩, .string ⟨#[]⟩, .string ⟨#[]⟩] 78)).alloc (.cells #[.int .i64 1, .string ⟨#[]⟩, .string ⟨#[]⟩, .string ⟨#[]⟩, .string ⟨#[]⟩, .string ⟨#[]⟩] 78)) = .ok (goInt 1) (((w.alloc (.cells #[.int .i64 0, .string ⟨#[]⟩, .string ⟨#[]⟩, .string ⟨#[]⟩, .string ⟨#[]⟩, .string ⟨#[]⟩] 78)).alloc (.cells #[.int .i64 1, .string ⟨#[]⟩, .string ⟨#[]⟩, .string ⟨#[]⟩, .string ⟨#[]⟩, .string ⟨#[]⟩] 78)).setCells (w.heap.size + 1) 1 [.string x0]) := by
    intro ty
    refine run_copy_cells _ 31 31 ty 9 (w.heap.size + 1) 1 5 5 ⟨b, o, none⟩ 1 cap [.string x0] Tryz.underlying31 info_str1 rfl ?_ ?_ ?_ ?_
    · intro j v hj
      match j, hj with
      | 0, hj => simp at hj; subst hj; exact (h2.cell (p := ⟨b, o, none⟩) hb).trans c0
    · intro j hj
      match j, hj with
      | 0, _ => simp
    · intro j hj
      match j, hj with
      | 0, _ => simp
    · intro v hv; simp at hv; subst hv; rfl
  simp only [World.setCells] at hcp
  go_enter Tryz.func49, Tryz.ntmps49
  go_wp2
  exact bodyPost_ret (v := ordV 1 x0 ⟨#[]⟩ ⟨#[]⟩ ⟨#[]⟩ ⟨#[]⟩) (by simp [results, Tryz.results49, go_sem, ordV]) rfl ⟨rfl, ((Below.refl _ _).alloc (Nat.le_refl _) _).alloc (by simp) _⟩

set_option maxRecDepth 100000 in
set_option maxHeartbeats 2000000 in
theorem order2 (b o cap : Nat) (x0 x1 : ByteArray) (w : World) (hb : b < w.heap.size) (c0 : w.cell? ⟨b, o, none⟩ = some (.string x0)) (c1 : w.cell? ⟨b, o + 1, none⟩ = some (.string x1)) :
    Calls Tryz.prog 49 #[.slice (some ⟨b, o, none⟩) 2 cap] w fun e w' => e = .returned (ordV 2 x0 x1 ⟨#[]⟩ ⟨#[]⟩ ⟨#[]⟩) ∧ Below w.heap.size w w' := by
  have h2 : Below w.heap.size w ((w.alloc (.cells #[.int .i64 0, .string ⟨#[]⟩, .string ⟨#[]⟩, .string ⟨#[]⟩, .string ⟨#[]⟩, .string ⟨#[]⟩] 78)).alloc (.cells #[.int .i64 2, .string ⟨#[]⟩, .string ⟨#[]⟩, .string ⟨#[]⟩, .string ⟨#[]⟩, .string ⟨#[]⟩] 78)) := ((Below.refl _ _).alloc (Nat.le_refl _) _).alloc (by simp) _
  have hcp : ∀ ty, (Builtin.copy_ #[31, 31] ty #[.slice (some ⟨w.heap.size + 1, 1, none⟩) 5 5, .slice (some ⟨b, o, none⟩) 2 cap]).run Tryz.prog ((w.alloc (.cells #[.int .i64 0, .string ⟨#[]⟩, .string ⟨#[]⟩, .string ⟨#[]⟩, .string ⟨#[]⟩, .string ⟨#[]⟩] 78)).alloc (.cells #[.int .i64 2, .string ⟨#[]⟩, .string ⟨#[]⟩, .string ⟨#[]⟩, .string ⟨#[]⟩, .string ⟨#[]⟩] 78)) = .ok (goInt 2) (((w.alloc (.cells #[.int .i64 0, .string ⟨#[]⟩, .string ⟨#[]⟩, .string ⟨#[]⟩, .string ⟨#[]⟩, .string ⟨#[]⟩] 78)).alloc (.cells #[.int .i64 2, .string ⟨#[]⟩, .string ⟨#[]⟩, .string ⟨#[]⟩, .string ⟨#[]⟩, .string ⟨#[]⟩] 78)).setCells (w.heap.size + 1) 1 [.string x0, .string x1]) := by
    intro ty
    refine run_copy_cells _ 31 31 ty 9 (w.heap.size + 1) 1 5 5 ⟨b, o, none⟩ 2 cap [.string x0, .string x1] Tryz.underlying31 info_str1 rfl ?_ ?_ ?_ ?_
    · intro j v hj
      match j, hj with
      | 0, hj => simp at hj; subst hj; exact (h2.cell (p := ⟨b, o, none⟩) hb).trans c0
      | 1, hj => simp at hj; subst hj; exact (h2.cell (p := ⟨b, o + 1, none⟩) hb).trans c1
    · intro j hj
      match j, hj with
      | 0, _ => simp
      | 1, _ => simp
    · intro j hj
      match j, hj with
      | 0, _ => simp
      | 1, _ => simp
    · intro v hv; simp at hv; rcases hv with rfl | rfl <;> rfl
  simp only [World.setCells] at hcp
  go_enter Tryz.func49, Tryz.ntmps49
  go_wp2
  exact bodyPost_ret (v := ordV 2 x0 x1 ⟨#[]⟩ ⟨#[]⟩ ⟨#[]⟩) (by simp [results, Tryz.results49, go_sem, ordV]) rfl ⟨rfl, ((Below.refl _ _).alloc (Nat.le_refl _) _).alloc (by simp) _⟩

set_option maxRecDepth 100000 in
set_option maxHeartbeats 2000000 in
theorem order3 (b o cap : Nat) (x0 x1 x2 : ByteArray) (w : World) (hb : b < w.heap.size) (c0 : w.cell? ⟨b, o, none⟩ = some (.string x0)) (c1 : w.cell? ⟨b, o + 1, none⟩ = some (.string x1)) (c2 : w.cell? ⟨b, o + 2, none⟩ = some (.string x2)) :
    Calls Tryz.prog 49 #[.slice (some ⟨b, o, none⟩) 3 cap] w fun e w' => e = .returned (ordV 3 x0 x1 x2 ⟨#[]⟩ ⟨#[]⟩) ∧ Below w.heap.size w w' := by
  have h2 : Below w.heap.size w ((w.alloc (.cells #[.int .i64 0, .string ⟨#[]⟩, .string ⟨#[]⟩, .string ⟨#[]⟩, .string ⟨#[]⟩, .string ⟨#[]⟩] 78)).alloc (.cells #[.int .i64 3, .string ⟨#[]⟩, .string ⟨#[]⟩, .string ⟨#[]⟩, .string ⟨#[]⟩, .string ⟨#[]⟩] 78)) := ((Below.refl _ _).alloc (Nat.le_refl _) _).alloc (by simp) _
  have hcp : ∀ ty, (Builtin.copy_ #[31, 31] ty #[.slice (some ⟨w.heap.size + 1, 1, none⟩) 5 5, .slice (some ⟨b, o, none⟩) 3 cap]).run Tryz.prog ((w.alloc (.cells #[.int .i64 0, .string ⟨#[]⟩, .string ⟨#[]⟩, .string ⟨#[]⟩, .string ⟨#[]⟩, .string ⟨#[]⟩] 78)).alloc (.cells #[.int .i64 3, .string ⟨#[]⟩, .string ⟨#[]⟩, .string ⟨#[]⟩, .string ⟨#[]⟩, .string ⟨#[]⟩] 78)) = .ok (goInt 3) (((w.alloc (.cells #[.int .i64 0, .string ⟨#[]⟩, .string ⟨#[]⟩, .string ⟨#[]⟩, .string ⟨#[]⟩, .string ⟨#[]⟩] 78)).alloc (.cells #[.int .i64 3, .string ⟨#[]⟩, .string ⟨#[]⟩, .string ⟨#[]⟩, .string ⟨#[]⟩, .string ⟨#[]⟩] 78)).setCells (w.heap.size + 1) 1 [.string x0, .string x1, .string x2]) := by
    intro ty
    refine run_copy_cells _ 31 31 ty 9 (w.heap.size + 1) 1 5 5 ⟨b, o, none⟩ 3 cap [.string x0, .string x1, .string x2] Tryz.underlying31 info_str1 rfl ?_ ?_ ?_ ?_
    · intro j v hj
      match j, hj with
      | 0, hj => simp at hj; subst hj; exact (h2.cell (p := ⟨b, o, none⟩) hb).trans c0
      | 1, hj => simp at hj; subst hj; exact (h2.cell (p := ⟨b, o + 1, none⟩) hb).trans c1
      | 2, hj => simp at hj; subst hj; exact (h2.cell (p := ⟨b, o + 2, none⟩) hb).trans c2
    · intro j hj
      match j, hj with
      | 0, _ => simp
      | 1, _ => simp
      | 2, _ => simp
    · intro j hj
      match j, hj with
      | 0, _ => simp
      | 1, _ => simp
      | 2, _ => simp
    · intro v hv; simp at hv; rcases hv with rfl | rfl | rfl <;> rfl
  simp only [World.setCells] at hcp
  go_enter Tryz.func49, Tryz.ntmps49
  go_wp2
  exact bodyPost_ret (v := ordV 3 x0 x1 x2 ⟨#[]⟩ ⟨#[]⟩) (by simp [results, Tryz.results49, go_sem, ordV]) rfl ⟨rfl, ((Below.refl _ _).alloc (Nat.le_refl _) _).alloc (by simp) _⟩

set_option maxRecDepth 100000 in
set_option maxHeartbeats 2000000 in
theorem order4 (b o cap : Nat) (x0 x1 x2 x3 : ByteArray) (w : World) (hb : b < w.heap.size) (c0 : w.cell? ⟨b, o, none⟩ = some (.string x0)) (c1 : w.cell? ⟨b, o + 1, none⟩ = some (.string x1)) (c2 : w.cell? ⟨b, o + 2, none⟩ = some (.string x2)) (c3 : w.cell? ⟨b, o + 3, none⟩ = some (.string x3)) :
    Calls Tryz.prog 49 #[.slice (some ⟨b, o, none⟩) 4 cap] w fun e w' => e = .returned (ordV 4 x0 x1 x2 x3 ⟨#[]⟩) ∧ Below w.heap.size w w' := by
  have h2 : Below w.heap.size w ((w.alloc (.cells #[.int .i64 0, .string ⟨#[]⟩, .string ⟨#[]⟩, .string ⟨#[]⟩, .string ⟨#[]⟩, .string ⟨#[]⟩] 78)).alloc (.cells #[.int .i64 4, .string ⟨#[]⟩, .string ⟨#[]⟩, .string ⟨#[]⟩, .string ⟨#[]⟩, .string ⟨#[]⟩] 78)) := ((Below.refl _ _).alloc (Nat.le_refl _) _).alloc (by simp) _
  have hcp : ∀ ty, (Builtin.copy_ #[31, 31] ty #[.slice (some ⟨w.heap.size + 1, 1, none⟩) 5 5, .slice (some ⟨b, o, none⟩) 4 cap]).run Tryz.prog ((w.alloc (.cells #[.int .i64 0, .string ⟨#[]⟩, .string ⟨#[]⟩, .string ⟨#[]⟩, .string ⟨#[]⟩, .string ⟨#[]⟩] 78)).alloc (.cells #[.int .i64 4, .string ⟨#[]⟩, .string ⟨#[]⟩, .string ⟨#[]⟩, .string ⟨#[]⟩, .string ⟨#[]⟩] 78)) = .ok (goInt 4) (((w.alloc (.cells #[.int .i64 0, .string ⟨#[]⟩, .string ⟨#[]⟩, .string ⟨#[]⟩, .string ⟨#[]⟩, .string ⟨#[]⟩] 78)).alloc (.cells #[.int .i64 4, .string ⟨#[]⟩, .string ⟨#[]⟩, .string ⟨#[]⟩, .string ⟨#[]⟩, .string ⟨#[]⟩] 78)).setCells (w.heap.size + 1) 1 [.string x0, .string x1, .string x2, .string x3]) := by
    intro ty
    refine run_copy_cells _ 31 31 ty 9 (w.heap.size + 1) 1 5 5 ⟨b, o, none⟩ 4 cap [.string x0, .string x1, .string x2, .string x3] Tryz.underlying31 info_str1 rfl ?_ ?_ ?_ ?_
    · intro j v hj
      match j, hj with
      | 0, hj => simp at hj; subst hj; exact (h2.cell (p := ⟨b, o, none⟩) hb).trans c0
      | 1, hj => simp at hj; subst hj; exact (h2.cell (p := ⟨b, o + 1, none⟩) hb).trans c1
      | 2, hj => simp at hj; subst hj; exact (h2.cell (p := ⟨b, o + 2, none⟩) hb).trans c2
      | 3, hj => simp at hj; subst hj; exact (h2.cell (p := ⟨b, o + 3, none⟩) hb).trans c3
    · intro j hj
      match j, hj with
      | 0, _ => simp
      | 1, _ => simp
      | 2, _ => simp
      | 3, _ => simp
    · intro j hj
      match j, hj with
      | 0, _ => simp
      | 1, _ => simp
      | 2, _ => simp
      | 3, _ => simp
    · intro v hv; simp at hv; rcases hv with rfl | rfl | rfl | rfl <;> rfl
  simp only [World.setCells] at hcp
  go_enter Tryz.func49, Tryz.ntmps49
  go_wp2
  exact bodyPost_ret (v := ordV 4 x0 x1 x2 x3 ⟨#[]⟩) (by simp [results, Tryz.results49, go_sem, ordV]) rfl ⟨rfl, ((Below.refl _ _).alloc (Nat.le_refl _) _).alloc (by simp) _⟩

set_option maxRecDepth 100000 in
set_option maxHeartbeats 2000000 in
theorem order5 (b o cap : Nat) (x0 x1 x2 x3 x4 : ByteArray) (w : World) (hb : b < w.heap.size) (c0 : w.cell? ⟨b, o, none⟩ = some (.string x0)) (c1 : w.cell? ⟨b, o + 1, none⟩ = some (.string x1)) (c2 : w.cell? ⟨b, o + 2, none⟩ = some (.string x2)) (c3 : w.cell? ⟨b, o + 3, none⟩ = some (.string x3)) (c4 : w.cell? ⟨b, o + 4, none⟩ = some (.string x4)) :
    Calls Tryz.prog 49 #[.slice (some ⟨b, o, none⟩) 5 cap] w fun e w' => e = .returned (ordV 5 x0 x1 x2 x3 x4) ∧ Below w.heap.size w w' := by
  have h2 : Below w.heap.size w ((w.alloc (.cells #[.int .i64 0, .string ⟨#[]⟩, .string ⟨#[]⟩, .string ⟨#[]⟩, .string ⟨#[]⟩, .string ⟨#[]⟩] 78)).alloc (.cells #[.int .i64 5, .string ⟨#[]⟩, .string ⟨#[]⟩, .string ⟨#[]⟩, .string ⟨#[]⟩, .string ⟨#[]⟩] 78)) := ((Below.refl _ _).alloc (Nat.le_refl _) _).alloc (by simp) _
  have hcp : ∀ ty, (Builtin.copy_ #[31, 31] ty #[.slice (some ⟨w.heap.size + 1, 1, none⟩) 5 5, .slice (some ⟨b, o, none⟩) 5 cap]).run Tryz.prog ((w.alloc (.cells #[.int .i64 0, .string ⟨#[]⟩, .string ⟨#[]⟩, .string ⟨#[]⟩, .string ⟨#[]⟩, .string ⟨#[]⟩] 78)).alloc (.cells #[.int .i64 5, .string ⟨#[]⟩, .string ⟨#[]⟩, .string ⟨#[]⟩, .string ⟨#[]⟩, .string ⟨#[]⟩] 78)) = .ok (goInt 5) (((w.alloc (.cells #[.int .i64 0, .string ⟨#[]⟩, .string ⟨#[]⟩, .string ⟨#[]⟩, .string ⟨#[]⟩, .string ⟨#[]⟩] 78)).alloc (.cells #[.int .i64 5, .string ⟨#[]⟩, .string ⟨#[]⟩, .string ⟨#[]⟩, .string ⟨#[]⟩, .string ⟨#[]⟩] 78)).setCells (w.heap.size + 1) 1 [.string x0, .string x1, .string x2, .string x3, .string x4]) := by
    intro ty
    refine run_copy_cells _ 31 31 ty 9 (w.heap.size + 1) 1 5 5 ⟨b, o, none⟩ 5 cap [.string x0, .string x1, .string x2, .string x3, .string x4] Tryz.underlying31 info_str1 rfl ?_ ?_ ?_ ?_
    · intro j v hj
      match j, hj with
      | 0, hj => simp at hj; subst hj; exact (h2.cell (p := ⟨b, o, none⟩) hb).trans c0
      | 1, hj => simp at hj; subst hj; exact (h2.cell (p := ⟨b, o + 1, none⟩) hb).trans c1
      | 2, hj => simp at hj; subst hj; exact (h2.cell (p := ⟨b, o + 2, none⟩) hb).trans c2
      | 3, hj => simp at hj; subst hj; exact (h2.cell (p := ⟨b, o + 3, none⟩) hb).trans c3
      | 4, hj => simp at hj; subst hj; exact (h2.cell (p := ⟨b, o + 4, none⟩) hb).trans c4
    · intro j hj
      match j, hj with
      | 0, _ => simp
      | 1, _ => simp
      | 2, _ => simp
      | 3, _ => simp
      | 4, _ => simp
    · intro j hj
      match j, hj with
      | 0, _ => simp
      | 1, _ => simp
      | 2, _ => simp
      | 3, _ => simp
      | 4, _ => simp
    · intro v hv; simp at hv; rcases hv with rfl | rfl | rfl | rfl | rfl <;> rfl
  simp only [World.setCells] at hcp
  go_enter Tryz.func49, Tryz.ntmps49
  go_wp2
  exact bodyPost_ret (v := ordV 5 x0 x1 x2 x3 x4) (by simp [results, Tryz.results49, go_sem, ordV]) rfl ⟨rfl, ((Below.refl _ _).alloc (Nat.le_refl _) _).alloc (by simp) _⟩

def nthN (l : List ByteArray) (i : Nat) : ByteArray := l.getD i ⟨#[]⟩
def ordL (l : List ByteArray) : Value := ordV l.length (nthN l 0) (nthN l 1) (nthN l 2) (nthN l 3) (nthN l 4)
theorem order_impl (a : Option Addr) (cap : Nat) (l : List ByteArray) (n : Nat) (hn : l.length = n) (h5 : l.length ≤ 5) (w : World) (hrow : StrsAt w a l) :
    Calls Tryz.prog 49 #[.slice a n cap] w fun e w' => e = .returned (ordL l) ∧ Below w.heap.size w w' := by
  subst hn
  match l, h5, hrow with
  | [], _, _ => exact order0 a cap w
  | [x0], _, hrow =>
    obtain ⟨b, o, rfl, hb, c0⟩ := hrow 0 (by simp)
    exact order1 b o cap x0 w hb c0
  | [x0, x1], _, hrow =>
    obtain ⟨b, o, rfl, hb, c0⟩ := hrow 0 (by simp)
    obtain ⟨b1, o1, e1, _, c1⟩ := hrow 1 (by simp)
    cases e1
    exact order2 b o cap x0 x1 w hb c0 c1
  | [x0, x1, x2], _, hrow =>
    obtain ⟨b, o, rfl, hb, c0⟩ := hrow 0 (by simp)
    obtain ⟨b1, o1, e1, _, c1⟩ := hrow 1 (by simp)
    cases e1
    obtain ⟨b2, o2, e2, _, c2⟩ := hrow 2 (by simp)
    cases e2
    exact order3 b o cap x0 x1 x2 w hb c0 c1 c2
  | [x0, x1, x2, x3], _, hrow =>
    obtain ⟨b, o, rfl, hb, c0⟩ := hrow 0 (by simp)
    obtain ⟨b1, o1, e1, _, c1⟩ := hrow 1 (by simp)
    cases e1
    obtain ⟨b2, o2, e2, _, c2⟩ := hrow 2 (by simp)
    cases e2
    obtain ⟨b3, o3, e3, _, c3⟩ := hrow 3 (by simp)
    cases e3
    exact order4 b o cap x0 x1 x2 x3 w hb c0 c1 c2 c3
  | [x0, x1, x2, x3, x4], _, hrow =>
    obtain ⟨b, o, rfl, hb, c0⟩ := hrow 0 (by simp)
    obtain ⟨b1, o1, e1, _, c1⟩ := hrow 1 (by simp)
    cases e1
    obtain ⟨b2, o2, e2, _, c2⟩ := hrow 2 (by simp)
    cases e2
    obtain ⟨b3, o3, e3, _, c3⟩ := hrow 3 (by simp)
    cases e3
    obtain ⟨b4, o4, e4, _, c4⟩ := hrow 4 (by simp)
    cases e4
    exact order5 b o cap x0 x1 x2 x3 x4 w hb c0 c1 c2 c3 c4
  | _ :: _ :: _ :: _ :: _ :: _ :: _, h, _ => simp at h

def ordEq (n : Int) (a b c d e : ByteArray) (m : Int) (a' b' c' d' e' : ByteArray) : Bool :=
  n == m && (a.toList == a'.toList && (b.toList == b'.toList && (c.toList == c'.toList && (d.toList == d'.toList && e.toList == e'.toList))))
def arrEq (a b c d e a' b' c' d' e' : ByteArray) : Bool :=
  a.toList == a'.toList && (b.toList == b'.toList && (c.toList == c'.toList && (d.toList == d'.toList && e.toList == e'.toList)))
set_option maxRecDepth 100000 in
set_option maxHeartbeats 2000000 in
theorem run_arr (a b c d e a' b' c' d' e' : ByteArray) (w : World) :
    (Op.equalIn 9999 76 (.agg #[.string a, .string b, .string c, .string d, .string e]) (.agg #[.string a', .string b', .string c', .string d', .string e'])).run Tryz.prog w = .ok (arrEq a b c d e a' b' c' d' e') w := by
  have u9 := Tryz.underlying9
  have a9 := Tryz.isAgg9
  have z9 := Tryz.sizeOf9
  unfold arrEq
  rw [show (9999 : Nat) = 9998 + 1 from rfl, Op.equalIn]
  simp only [Sem.run_bind, run_underlying Tryz.underlying76, Result.andThen_ok]
  simp only [Std.Legacy.Range.forIn_eq_forIn_range', Std.Legacy.Range.size, Nat.sub_zero, Nat.add_sub_cancel, Nat.div_one, List.range'_succ, List.range'_zero, List.forIn_cons, List.forIn_nil]
  go_simp
  cases h1 : (a.toList == a'.toList) <;> cases h2 : (b.toList == b'.toList) <;> cases h3 : (c.toList == c'.toList) <;> cases h4 : (d.toList == d'.toList) <;> cases h5 : (e.toList == e'.toList) <;> simp_all
set_option maxHeartbeats 2000000 in
theorem run_ord_neq (n : Int) (a b c d e : ByteArray) (m : Int) (a' b' c' d' e' : ByteArray) (w : World) :
    (binOp .neq 78 (ordV n a b c d e) (ordV m a' b' c' d' e')).run Tryz.prog w = .ok (.bool !(ordEq n a b c d e m a' b' c' d' e')) w := by
  have ha := run_arr a b c d e a' b' c' d' e' w
  have ho : ordEq n a b c d e m a' b' c' d' e' = (n == m && arrEq a b c d e a' b' c' d' e') := rfl
  rw [ho]
  generalize arrEq a b c d e a' b' c' d' e' = r at ha
  unfold ordV
  by_cases h1 : n = m
  · subst h1
    go_simp
    cases r <;> simp
  · go_simp
    try simp [h1]
theorem bytes_eq2 {s u : ByteArray} (h : s.toList = u.toList) : s = u := by
  rw [ByteArray.toList_eq, ByteArray.toList_eq] at h
  exact ByteArray.ext (Array.toList_inj.1 h)
theorem ordEq_iff (l m : List ByteArray) (hl : l.length ≤ 5) (hm : m.length ≤ 5) : ordEq l.length (nthN l 0) (nthN l 1) (nthN l 2) (nthN l 3) (nthN l 4) m.length (nthN m 0) (nthN m 1) (nthN m 2) (nthN m 3) (nthN m 4) = true ↔ l = m := by
  constructor
  · intro h
    unfold ordEq at h
    simp only [Bool.and_eq_true, beq_iff_eq] at h
    obtain ⟨h0, h1, h2, h3, h4, h5⟩ := h
    have hlen : l.length = m.length := by omega
    have key : ∀ i, i < 5 → nthN l i = nthN m i := by
      intro i hi
      match i, hi with
      | 0, _ => exact bytes_eq2 h1
      | 1, _ => exact bytes_eq2 h2
      | 2, _ => exact bytes_eq2 h3
      | 3, _ => exact bytes_eq2 h4
      | 4, _ => exact bytes_eq2 h5
    refine List.ext_getElem hlen fun i h1 h2 => ?_
    have := key i (by omega)
    unfold nthN at this
    rw [← List.getElem_eq_getD (h := h1), ← List.getElem_eq_getD (h := h2)] at this
    exact this
  · intro h
    subst h
    unfold ordEq
    simp

end Go.Proofs.YtpggjgilklpncaaGreat
