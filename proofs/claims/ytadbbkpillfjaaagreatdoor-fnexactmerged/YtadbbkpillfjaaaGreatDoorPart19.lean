/-
  A part of the proof: SvForm, Walk5, Walk6, Walk7, Walk8, RkMath, ShpMath, ShpI1, ShpI2, ShpI3, Walk9, Three4, RkS, ShpS1.
-/
import Derived.Test.YtadbbkpillfjaaaGreatDoorPart18
import Derived.Test.YtadbbkpillfjaaaGreatDoorPart2
import Derived.Deep.QuietTactic
import Derived.BigQuiet
import Derived.Deep.RegionHeld3
import Derived.Deep.DeepCutAuto
import Derived.Deep.DrawnRows
import Derived.Test.YtadbbkpillfjaaaGreatDoorPart4
import Derived.Test.YtadbbkpillfjaaaGreatDoorPart17
import Derived.Test.YtadbbkpillfjaaaGreatDoorPart11
import Derived.Test.YtadbbkpillfjaaaGreatDoorPart8
import Derived.Test.YtadbbkpillfjaaaGreatDoorPart13
import Derived.Test.YtadbbkpillfjaaaGreatDoorPart7

/-
  The program's forms of a sieve without any program: what a kind tells, that a sieve is right by its form just where it is right, and that its text is its pieces.
-/
namespace Go.Proofs.YtadbbkpillfjaaaGreatDoor

/-- What a kind tells. -/
structure FS where
  word : ByteArray
  hasName : Bool
  few : Int
  most : Int
  ahead : ByteArray
  hasSum : Bool
  fall : Bool
  cnt : Int
def formF (k : Int) : FS :=
  if k = 1 then ⟨⟨#[102, 114, 111, 109]⟩, true, 0, 0, ⟨#[]⟩, false, false, 0⟩
  else if k = 2 then ⟨⟨#[119, 104, 101, 114, 101]⟩, false, 0, 0, ⟨#[]⟩, true, false, 0⟩
  else if k = 3 then ⟨⟨#[108, 101, 116]⟩, true, 0, 0, ⟨#[61]⟩, true, false, 0⟩
  else if k = 4 then ⟨⟨#[107, 101, 101, 112]⟩, false, 1, 6, ⟨#[]⟩, false, false, 0⟩
  else if k = 5 then ⟨⟨#[106, 111, 105, 110]⟩, true, 0, 0, ⟨#[111, 110]⟩, true, false, 0⟩
  else if k = 6 then ⟨⟨#[108, 101, 102, 116]⟩, true, 0, 0, ⟨#[111, 110]⟩, true, false, 0⟩
  else if k = 7 then ⟨⟨#[103, 114, 111, 117, 112]⟩, false, 0, 4, ⟨#[]⟩, false, false, 0⟩
  else if k = 8 then ⟨⟨#[111, 114, 100, 101, 114]⟩, true, 0, 0, ⟨#[]⟩, false, true, 0⟩
  else if k = 9 then ⟨⟨#[108, 105, 109, 105, 116]⟩, false, 0, 0, ⟨#[]⟩, false, false, 1000⟩
  else if k = 10 then ⟨⟨#[111, 110, 99, 101]⟩, false, 0, 0, ⟨#[]⟩, false, false, 0⟩ else ⟨⟨#[]⟩, false, 0, 0, ⟨#[]⟩, false, false, 0⟩
def nameF (f : FS) (s : SV) : Bool := if f.hasName = true then nameK s.name else decide (s.name = ⟨#[]⟩)
def namesF (f : FS) (s : SV) : Bool := !(decide ((s.names.length : Int) < f.few) || decide (f.most < (s.names.length : Int))) && (s.names.all nameK && decide s.names.Nodup)
def sumF (f : FS) (s : SV) : Bool := if f.hasSum = true then sumB s.sum else decide (s.sum.length = 0)
def canF (f : FS) (n : Int) : Bool := decide (0 ≤ n) && decide (n ≤ f.cnt)
def rightF (f : FS) (s : SV) : Bool :=
  !decide (f.word = ⟨#[]⟩) && (nameF f s && (namesF f s && (sumF f s && ((f.fall || !s.down) && (canF f s.count && canF f s.skip)))))

theorem nameK_nameB {s : ByteArray} (h : nameK s = true) : nameB s = true := by
  unfold nameK at h
  rw [Bool.and_eq_true] at h
  exact h.1
theorem form_k (k : Int) (h : k < 1 ∨ 10 < k) : formF k = ⟨⟨#[]⟩, false, 0, 0, ⟨#[]⟩, false, false, 0⟩ := by
  unfold formF
  rw [if_neg (show ¬ k = 1 by omega), if_neg (show ¬ k = 2 by omega), if_neg (show ¬ k = 3 by omega), if_neg (show ¬ k = 4 by omega), if_neg (show ¬ k = 5 by omega), if_neg (show ¬ k = 6 by omega), if_neg (show ¬ k = 7 by omega), if_neg (show ¬ k = 8 by omega), if_neg (show ¬ k = 9 by omega), if_neg (show ¬ k = 10 by omega)]
theorem kind_cases {k : Int} (h : ¬ (k < 1 ∨ 10 < k)) : k = 1 ∨ k = 2 ∨ k = 3 ∨ k = 4 ∨ k = 5 ∨ k = 6 ∨ k = 7 ∨ k = 8 ∨ k = 9 ∨ k = 10 := by omega
set_option maxHeartbeats 2000000 in
/-- The program's forms say what a right sieve is. -/
theorem right_form (s : SV) : rightF (formF s.kind) s = sieveB s := by
  obtain ⟨k, nm, N, S, dn, ct, sk⟩ := s
  have hE : S.isEmpty = decide (S.length = 0) := by cases S <;> simp
  have hE2 : N.isEmpty = decide (N.length = 0) := by cases N <;> simp
  have z : ∀ n : Int, (decide (0 ≤ n) && decide (n ≤ 0)) = (n == 0) := by
    intro n
    rw [Bool.eq_iff_iff]
    simp
    omega
  have h0 : N.length = 0 → (N.all nameK && decide N.Nodup) = true := by intro h; have := List.length_eq_zero_iff.1 h; subst this; rfl
  have nz : (!(decide ((N.length : Int) < 0) || decide (0 < (N.length : Int))) && (N.all nameK && decide N.Nodup)) = N.isEmpty := by
    rw [hE2]
    by_cases h : N.length = 0
    · rw [h0 h, h]; rfl
    · rw [decide_eq_true (show (0 : Int) < (N.length : Int) by omega), decide_eq_false h, Bool.or_true]; rfl
  have nl : ∀ lo hi : Int, (!(decide ((N.length : Int) < lo) || decide (hi < (N.length : Int))) && (N.all nameK && decide N.Nodup)) = names10 N lo hi := by
    intro lo hi
    rw [Bool.eq_iff_iff]
    unfold names10 namesB namesD
    simp only [Bool.and_eq_true, Bool.not_eq_true', Bool.or_eq_false_iff, decide_eq_false_iff_not, decide_eq_true_eq, List.all_eq_true]
    constructor
    · rintro ⟨⟨a, b⟩, c, d⟩
      exact ⟨c, ⟨fun x hx => nameK_nameB (c x hx), d⟩, by omega, by omega⟩
    · rintro ⟨c, ⟨_, d⟩, a, b⟩
      exact ⟨⟨by omega, by omega⟩, c, d⟩
  by_cases hk : k < 1 ∨ 10 < k
  · dsimp only
    rw [form_k k hk]
    unfold rightF sieveB
    dsimp only
    rw [if_neg (by omega), if_neg (by omega), if_neg (by omega)]
    rw [show (decide (1 ≤ k) && decide (k ≤ 10)) = false by rw [Bool.eq_false_iff]; simp; omega]
    simp
  rcases kind_cases hk with rfl | rfl | rfl | rfl | rfl | rfl | rfl | rfl | rfl | rfl
  · show (!decide ((⟨#[102, 114, 111, 109]⟩ : ByteArray) = ⟨#[]⟩) && (nameK nm && ((!(decide ((N.length : Int) < 0) || decide (0 < (N.length : Int))) && (N.all nameK && decide N.Nodup)) && (decide (S.length = 0) && ((false || !dn) && ((decide (0 ≤ ct) && decide (ct ≤ 0)) && (decide (0 ≤ sk) && decide (sk ≤ 0)))))))) = sieveB _
    rw [show decide ((⟨#[102, 114, 111, 109]⟩ : ByteArray) = ⟨#[]⟩) = false from rfl, nz, ← hE, z, z]
    show _ = (true && bareB _)
    unfold bareB
    dsimp only
    generalize nameK nm = a
    generalize N.isEmpty = f
    generalize S.isEmpty = e
    generalize (ct == 0) = g
    generalize (sk == 0) = h
    cases a <;> cases f <;> cases e <;> cases g <;> cases h <;> cases dn <;> rfl
  · show (!decide ((⟨#[119, 104, 101, 114, 101]⟩ : ByteArray) = ⟨#[]⟩) && (decide (nm = ⟨#[]⟩) && ((!(decide ((N.length : Int) < 0) || decide (0 < (N.length : Int))) && (N.all nameK && decide N.Nodup)) && (sumB S && ((false || !dn) && ((decide (0 ≤ ct) && decide (ct ≤ 0)) && (decide (0 ≤ sk) && decide (sk ≤ 0)))))))) = sieveB _
    rw [show decide ((⟨#[119, 104, 101, 114, 101]⟩ : ByteArray) = ⟨#[]⟩) = false from rfl, nz, z, z]
    show _ = (true && bareB _)
    unfold bareB
    dsimp only
    generalize decide (nm = ⟨#[]⟩) = c
    generalize N.isEmpty = f
    generalize sumB S = d
    generalize (ct == 0) = g
    generalize (sk == 0) = h
    cases c <;> cases f <;> cases d <;> cases g <;> cases h <;> cases dn <;> rfl
  · show (!decide ((⟨#[108, 101, 116]⟩ : ByteArray) = ⟨#[]⟩) && (nameK nm && ((!(decide ((N.length : Int) < 0) || decide (0 < (N.length : Int))) && (N.all nameK && decide N.Nodup)) && (sumB S && ((false || !dn) && ((decide (0 ≤ ct) && decide (ct ≤ 0)) && (decide (0 ≤ sk) && decide (sk ≤ 0)))))))) = sieveB _
    rw [show decide ((⟨#[108, 101, 116]⟩ : ByteArray) = ⟨#[]⟩) = false from rfl, nz, z, z]
    show _ = (true && bareB _)
    unfold bareB
    dsimp only
    generalize nameK nm = a
    generalize N.isEmpty = f
    generalize sumB S = d
    generalize (ct == 0) = g
    generalize (sk == 0) = h
    cases a <;> cases f <;> cases d <;> cases g <;> cases h <;> cases dn <;> rfl
  · show (!decide ((⟨#[107, 101, 101, 112]⟩ : ByteArray) = ⟨#[]⟩) && (decide (nm = ⟨#[]⟩) && ((!(decide ((N.length : Int) < 1) || decide (6 < (N.length : Int))) && (N.all nameK && decide N.Nodup)) && (decide (S.length = 0) && ((false || !dn) && ((decide (0 ≤ ct) && decide (ct ≤ 0)) && (decide (0 ≤ sk) && decide (sk ≤ 0)))))))) = sieveB _
    rw [show decide ((⟨#[107, 101, 101, 112]⟩ : ByteArray) = ⟨#[]⟩) = false from rfl, nl, ← hE, z, z]
    show _ = (bareB _ && names10 N 1 6)
    unfold bareB
    dsimp only
    generalize decide (nm = ⟨#[]⟩) = c
    generalize names10 N 1 6 = i
    generalize S.isEmpty = e
    generalize (ct == 0) = g
    generalize (sk == 0) = h
    cases c <;> cases i <;> cases e <;> cases g <;> cases h <;> cases dn <;> rfl
  · show (!decide ((⟨#[106, 111, 105, 110]⟩ : ByteArray) = ⟨#[]⟩) && (nameK nm && ((!(decide ((N.length : Int) < 0) || decide (0 < (N.length : Int))) && (N.all nameK && decide N.Nodup)) && (sumB S && ((false || !dn) && ((decide (0 ≤ ct) && decide (ct ≤ 0)) && (decide (0 ≤ sk) && decide (sk ≤ 0)))))))) = sieveB _
    rw [show decide ((⟨#[106, 111, 105, 110]⟩ : ByteArray) = ⟨#[]⟩) = false from rfl, nz, z, z]
    show _ = (true && bareB _)
    unfold bareB
    dsimp only
    generalize nameK nm = a
    generalize N.isEmpty = f
    generalize sumB S = d
    generalize (ct == 0) = g
    generalize (sk == 0) = h
    cases a <;> cases f <;> cases d <;> cases g <;> cases h <;> cases dn <;> rfl
  · show (!decide ((⟨#[108, 101, 102, 116]⟩ : ByteArray) = ⟨#[]⟩) && (nameK nm && ((!(decide ((N.length : Int) < 0) || decide (0 < (N.length : Int))) && (N.all nameK && decide N.Nodup)) && (sumB S && ((false || !dn) && ((decide (0 ≤ ct) && decide (ct ≤ 0)) && (decide (0 ≤ sk) && decide (sk ≤ 0)))))))) = sieveB _
    rw [show decide ((⟨#[108, 101, 102, 116]⟩ : ByteArray) = ⟨#[]⟩) = false from rfl, nz, z, z]
    show _ = (true && bareB _)
    unfold bareB
    dsimp only
    generalize nameK nm = a
    generalize N.isEmpty = f
    generalize sumB S = d
    generalize (ct == 0) = g
    generalize (sk == 0) = h
    cases a <;> cases f <;> cases d <;> cases g <;> cases h <;> cases dn <;> rfl
  · show (!decide ((⟨#[103, 114, 111, 117, 112]⟩ : ByteArray) = ⟨#[]⟩) && (decide (nm = ⟨#[]⟩) && ((!(decide ((N.length : Int) < 0) || decide (4 < (N.length : Int))) && (N.all nameK && decide N.Nodup)) && (decide (S.length = 0) && ((false || !dn) && ((decide (0 ≤ ct) && decide (ct ≤ 0)) && (decide (0 ≤ sk) && decide (sk ≤ 0)))))))) = sieveB _
    rw [show decide ((⟨#[103, 114, 111, 117, 112]⟩ : ByteArray) = ⟨#[]⟩) = false from rfl, nl, ← hE, z, z]
    show _ = (bareB _ && names10 N 0 4)
    unfold bareB
    dsimp only
    generalize decide (nm = ⟨#[]⟩) = c
    generalize names10 N 0 4 = i
    generalize S.isEmpty = e
    generalize (ct == 0) = g
    generalize (sk == 0) = h
    cases c <;> cases i <;> cases e <;> cases g <;> cases h <;> cases dn <;> rfl
  · show (!decide ((⟨#[111, 114, 100, 101, 114]⟩ : ByteArray) = ⟨#[]⟩) && (nameK nm && ((!(decide ((N.length : Int) < 0) || decide (0 < (N.length : Int))) && (N.all nameK && decide N.Nodup)) && (decide (S.length = 0) && ((true || !dn) && ((decide (0 ≤ ct) && decide (ct ≤ 0)) && (decide (0 ≤ sk) && decide (sk ≤ 0)))))))) = sieveB _
    rw [show decide ((⟨#[111, 114, 100, 101, 114]⟩ : ByteArray) = ⟨#[]⟩) = false from rfl, nz, ← hE, z, z]
    show _ = (true && bareB _)
    unfold bareB
    dsimp only
    generalize nameK nm = a
    generalize N.isEmpty = f
    generalize S.isEmpty = e
    generalize (ct == 0) = g
    generalize (sk == 0) = h
    cases a <;> cases f <;> cases e <;> cases g <;> cases h <;> cases dn <;> rfl
  · show (!decide ((⟨#[108, 105, 109, 105, 116]⟩ : ByteArray) = ⟨#[]⟩) && (decide (nm = ⟨#[]⟩) && ((!(decide ((N.length : Int) < 0) || decide (0 < (N.length : Int))) && (N.all nameK && decide N.Nodup)) && (decide (S.length = 0) && ((false || !dn) && ((decide (0 ≤ ct) && decide (ct ≤ 1000)) && (decide (0 ≤ sk) && decide (sk ≤ 1000)))))))) = sieveB _
    rw [show decide ((⟨#[108, 105, 109, 105, 116]⟩ : ByteArray) = ⟨#[]⟩) = false from rfl, nz, ← hE]
    show _ = (bareB _ && ((decide (0 ≤ ct) && decide (ct ≤ 1000)) && (decide (0 ≤ sk) && decide (sk ≤ 1000))))
    unfold bareB
    dsimp only
    generalize decide (nm = ⟨#[]⟩) = c
    generalize N.isEmpty = f
    generalize S.isEmpty = e
    generalize (decide (0 ≤ ct) && decide (ct ≤ 1000)) = g
    generalize (decide (0 ≤ sk) && decide (sk ≤ 1000)) = h
    cases c <;> cases f <;> cases e <;> cases g <;> cases h <;> cases dn <;> rfl
  · show (!decide ((⟨#[111, 110, 99, 101]⟩ : ByteArray) = ⟨#[]⟩) && (decide (nm = ⟨#[]⟩) && ((!(decide ((N.length : Int) < 0) || decide (0 < (N.length : Int))) && (N.all nameK && decide N.Nodup)) && (decide (S.length = 0) && ((false || !dn) && ((decide (0 ≤ ct) && decide (ct ≤ 0)) && (decide (0 ≤ sk) && decide (sk ≤ 0)))))))) = sieveB _
    rw [show decide ((⟨#[111, 110, 99, 101]⟩ : ByteArray) = ⟨#[]⟩) = false from rfl, nz, ← hE, z, z]
    show _ = (true && bareB _)
    unfold bareB
    dsimp only
    generalize decide (nm = ⟨#[]⟩) = c
    generalize N.isEmpty = f
    generalize S.isEmpty = e
    generalize (ct == 0) = g
    generalize (sk == 0) = h
    cases c <;> cases f <;> cases e <;> cases g <;> cases h <;> cases dn <;> rfl
end Go.Proofs.YtadbbkpillfjaaaGreatDoor

/-
  The contracts of what is reckoned with: operands, the four small functions on numbers, the model's own helpers, two cells held against each other.
-/
namespace Go.Proofs.YtadbbkpillfjaaaGreatDoor
open Go.ChangeShapes Go.WideShapes Go.ChangeAt Go.RowKit

end Go.Proofs.YtadbbkpillfjaaaGreatDoor

/-
  The contract of the model's helper that asks whether two cells can be reckoned with.
-/
namespace Go.Proofs.YtadbbkpillfjaaaGreatDoor
open Go.ChangeShapes Go.WideShapes Go.ChangeAt Go.RowKit

end Go.Proofs.YtadbbkpillfjaaaGreatDoor

/-
  The contract of the program's own way to reckon with two cells.
-/
namespace Go.Proofs.YtadbbkpillfjaaaGreatDoor
open Go.ChangeShapes Go.WideShapes Go.ChangeAt Go.RowKit
attribute [local go_sem ↓] Go.wp_at_zero Go.wp_at_succ

attribute [local simp] World.cell?_alloc_past World.cell?_alloc_at World.frozen?_alloc_at cell_far cell_off cell_here World.frozen?_alloc_past

end Go.Proofs.YtadbbkpillfjaaaGreatDoor

/-
  The contracts of Plus, Less, Times and By: the program's and the model's come to the same.
-/
namespace Go.Proofs.YtadbbkpillfjaaaGreatDoor
open Go.ChangeShapes Go.WideShapes Go.ChangeAt Go.RowKit

end Go.Proofs.YtadbbkpillfjaaaGreatDoor

/-
  Reckoning without any program: what a sum comes to of columns and a row, item by item.
-/
namespace Go.Proofs.YtadbbkpillfjaaaGreatDoor

/-- The cell of a column. -/
def colR : List ByteArray → List CK → ByteArray → CK
  | c :: C, r :: R, s => if c = s then r else colR C R s
  | _, _, _ => zeroC
end Go.Proofs.YtadbbkpillfjaaaGreatDoor

/-
  Shapes without any program: the columns behind a sieve and behind a question, the codes, and what holds of them.
-/
namespace Go.Proofs.YtadbbkpillfjaaaGreatDoor

end Go.Proofs.YtadbbkpillfjaaaGreatDoor

/-
  The program's lookedUp, isFree, allThere and tableColumns.
-/
namespace Go.Proofs.YtadbbkpillfjaaaGreatDoor
open Go.ChangeShapes Go.WideShapes Go.ChangeAt Go.RowKit
attribute [local go_sem ↓] Go.wp_at_zero Go.wp_at_succ
attribute [local simp] World.cell?_alloc_past World.cell?_alloc_at World.frozen?_alloc_at cell_far cell_off cell_here World.frozen?_alloc_past

end Go.Proofs.YtadbbkpillfjaaaGreatDoor

/-
  The program's widened and grouped.
-/
namespace Go.Proofs.YtadbbkpillfjaaaGreatDoor
open Go.ChangeShapes Go.WideShapes Go.ChangeAt Go.RowKit
attribute [local go_sem ↓] Go.wp_at_zero Go.wp_at_succ
attribute [local simp] World.cell?_alloc_past World.cell?_alloc_at World.frozen?_alloc_at cell_far cell_off cell_here World.frozen?_alloc_past

end Go.Proofs.YtadbbkpillfjaaaGreatDoor

/-
  The program's grouped, besideTable and stepped, kind by kind.
-/
namespace Go.Proofs.YtadbbkpillfjaaaGreatDoor
open Go.ChangeShapes Go.WideShapes Go.ChangeAt Go.RowKit
attribute [local go_sem ↓] Go.wp_at_zero Go.wp_at_succ
attribute [local simp] World.cell?_alloc_past World.cell?_alloc_at World.frozen?_alloc_at cell_far cell_off cell_here World.frozen?_alloc_past

end Go.Proofs.YtadbbkpillfjaaaGreatDoor

/-
  The contracts of the model's Plus, Less, Times and By.
-/
namespace Go.Proofs.YtadbbkpillfjaaaGreatDoor
open Go.ChangeShapes Go.WideShapes Go.ChangeAt Go.RowKit

end Go.Proofs.YtadbbkpillfjaaaGreatDoor

/-
  The contracts of the model's Both and Either: they come to what the program's come to.
-/
namespace Go.Proofs.YtadbbkpillfjaaaGreatDoor
open Go.ChangeShapes Go.WideShapes Go.ChangeAt Go.RowKit
attribute [local go_sem ↓] Go.wp_at_zero Go.wp_at_succ

end Go.Proofs.YtadbbkpillfjaaaGreatDoor

/-
  The contracts of the model's l9One, l9Two and l9Has.
-/
namespace Go.Proofs.YtadbbkpillfjaaaGreatDoor
open Go.ChangeShapes Go.WideShapes Go.ChangeAt Go.RowKit
attribute [local go_sem ↓] Go.wp_at_zero Go.wp_at_succ
attribute [local simp] World.cell?_alloc_past World.cell?_alloc_at World.frozen?_alloc_at cell_far cell_off cell_here World.frozen?_alloc_past

end Go.Proofs.YtadbbkpillfjaaaGreatDoor

/-
  The contract of the model's step of a shape.
-/
namespace Go.Proofs.YtadbbkpillfjaaaGreatDoor
open Go.ChangeShapes Go.WideShapes Go.ChangeAt Go.RowKit
attribute [local go_sem ↓] Go.wp_at_zero Go.wp_at_succ
attribute [local simp] World.cell?_alloc_past World.cell?_alloc_at World.frozen?_alloc_at cell_far cell_off cell_here World.frozen?_alloc_past

end Go.Proofs.YtadbbkpillfjaaaGreatDoor
