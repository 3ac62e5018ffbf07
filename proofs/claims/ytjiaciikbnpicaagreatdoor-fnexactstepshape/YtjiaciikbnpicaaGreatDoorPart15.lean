/-
  A part of the proof: SvForm, Walk5, Walk6, Walk7, Walk8, Three1, RkMath, ShpMath, ShpI1, ShpI2, Open1.
-/
import Derived.Test.YtjiaciikbnpicaaGreatDoorPart14
import Derived.Test.YtjiaciikbnpicaaGreatDoorPart1
import Derived.Deep.QuietTactic
import Derived.BigQuiet
import Derived.Deep.RegionHeld3
import Derived.Deep.DeepCutAuto
import Derived.Deep.DrawnRows
import Derived.Test.YtjiaciikbnpicaaGreatDoorPart13
import Derived.Test.YtjiaciikbnpicaaGreatDoorPart12
import Derived.Test.YtjiaciikbnpicaaGreatDoorPart3
import Derived.Test.YtjiaciikbnpicaaGreatDoorPart7
import Derived.Test.YtjiaciikbnpicaaGreatDoorPart6
import Derived.Test.YtjiaciikbnpicaaGreatDoorPart2
import Derived.Test.YtjiaciikbnpicaaGreatDoorPart4
import Derived.Test.YtjiaciikbnpicaaGreatDoorPart11
import Derived.Deep.SlicePairs

/-
  The program's forms of a sieve without any program: what a kind tells, that a sieve is right by its form just where it is right, and that its text is its pieces.
-/
namespace Go.Proofs.YtjiaciikbnpicaaGreatDoor

/-- What a kind tells. -/
structure FS where
  word : ByteArray
  hasName : Bool
  few : Int
  most : Int
  ahead : ByteArray
  hasSum : Bool
  fall : Bool
  cnt : Int
def formF (k : Int) : FS :=
  if k = 1 then ⟨⟨#[102, 114, 111, 109]⟩, true, 0, 0, ⟨#[]⟩, false, false, 0⟩
  else if k = 2 then ⟨⟨#[119, 104, 101, 114, 101]⟩, false, 0, 0, ⟨#[]⟩, true, false, 0⟩
  else if k = 3 then ⟨⟨#[108, 101, 116]⟩, true, 0, 0, ⟨#[61]⟩, true, false, 0⟩
  else if k = 4 then ⟨⟨#[107, 101, 101, 112]⟩, false, 1, 6, ⟨#[]⟩, false, false, 0⟩
  else if k = 5 then ⟨⟨#[106, 111, 105, 110]⟩, true, 0, 0, ⟨#[111, 110]⟩, true, false, 0⟩
  else if k = 6 then ⟨⟨#[108, 101, 102, 116]⟩, true, 0, 0, ⟨#[111, 110]⟩, true, false, 0⟩
  else if k = 7 then ⟨⟨#[103, 114, 111, 117, 112]⟩, false, 0, 4, ⟨#[]⟩, false, false, 0⟩
  else if k = 8 then ⟨⟨#[111, 114, 100, 101, 114]⟩, true, 0, 0, ⟨#[]⟩, false, true, 0⟩
  else if k = 9 then ⟨⟨#[108, 105, 109, 105, 116]⟩, false, 0, 0, ⟨#[]⟩, false, false, 1000⟩
  else if k = 10 then ⟨⟨#[111, 110, 99, 101]⟩, false, 0, 0, ⟨#[]⟩, false, false, 0⟩ else ⟨⟨#[]⟩, false, 0, 0, ⟨#[]⟩, false, false, 0⟩
def nameF (f : FS) (s : SV) : Bool := if f.hasName = true then nameK s.name else decide (s.name = ⟨#[]⟩)
def namesF (f : FS) (s : SV) : Bool := !(decide ((s.names.length : Int) < f.few) || decide (f.most < (s.names.length : Int))) && (s.names.all nameK && decide s.names.Nodup)
def sumF (f : FS) (s : SV) : Bool := if f.hasSum = true then sumB s.sum else decide (s.sum.length = 0)
def canF (f : FS) (n : Int) : Bool := decide (0 ≤ n) && decide (n ≤ f.cnt)
def rightF (f : FS) (s : SV) : Bool :=
  !decide (f.word = ⟨#[]⟩) && (nameF f s && (namesF f s && (sumF f s && ((f.fall || !s.down) && (canF f s.count && canF f s.skip)))))

theorem nameK_nameB {s : ByteArray} (h : nameK s = true) : nameB s = true := by
  unfold nameK at h
  rw [Bool.and_eq_true] at h
  exact h.1
theorem form_k (k : Int) (h : k < 1 ∨ 10 < k) : formF k = ⟨⟨#[]⟩, false, 0, 0, ⟨#[]⟩, false, false, 0⟩ := by
  unfold formF
  rw [if_neg (show ¬ k = 1 by omega), if_neg (show ¬ k = 2 by omega), if_neg (show ¬ k = 3 by omega), if_neg (show ¬ k = 4 by omega), if_neg (show ¬ k = 5 by omega), if_neg (show ¬ k = 6 by omega), if_neg (show ¬ k = 7 by omega), if_neg (show ¬ k = 8 by omega), if_neg (show ¬ k = 9 by omega), if_neg (show ¬ k = 10 by omega)]
theorem kind_cases {k : Int} (h : ¬ (k < 1 ∨ 10 < k)) : k = 1 ∨ k = 2 ∨ k = 3 ∨ k = 4 ∨ k = 5 ∨ k = 6 ∨ k = 7 ∨ k = 8 ∨ k = 9 ∨ k = 10 := by omega
set_option maxHeartbeats 2000000 in
/-- The program's forms say what a right sieve is. -/
theorem right_form (s : SV) : rightF (formF s.kind) s = sieveB s := by
  obtain ⟨k, nm, N, S, dn, ct, sk⟩ := s
  have hE : S.isEmpty = decide (S.length = 0) := by cases S <;> simp
  have hE2 : N.isEmpty = decide (N.length = 0) := by cases N <;> simp
  have z : ∀ n : Int, (decide (0 ≤ n) && decide (n ≤ 0)) = (n == 0) := by
    intro n
    rw [Bool.eq_iff_iff]
    simp
    omega
  have h0 : N.length = 0 → (N.all nameK && decide N.Nodup) = true := by intro h; have := List.length_eq_zero_iff.1 h; subst this; rfl
  have nz : (!(decide ((N.length : Int) < 0) || decide (0 < (N.length : Int))) && (N.all nameK && decide N.Nodup)) = N.isEmpty := by
    rw [hE2]
    by_cases h : N.length = 0
    · rw [h0 h, h]; rfl
    · rw [decide_eq_true (show (0 : Int) < (N.length : Int) by omega), decide_eq_false h, Bool.or_true]; rfl
  have nl : ∀ lo hi : Int, (!(decide ((N.length : Int) < lo) || decide (hi < (N.length : Int))) && (N.all nameK && decide N.Nodup)) = names10 N lo hi := by
    intro lo hi
    rw [Bool.eq_iff_iff]
    unfold names10 namesB namesD
    simp only [Bool.and_eq_true, Bool.not_eq_true', Bool.or_eq_false_iff, decide_eq_false_iff_not, decide_eq_true_eq, List.all_eq_true]
    constructor
    · rintro ⟨⟨a, b⟩, c, d⟩
      exact ⟨c, ⟨fun x hx => nameK_nameB (c x hx), d⟩, by omega, by omega⟩
    · rintro ⟨c, ⟨_, d⟩, a, b⟩
      exact ⟨⟨by omega, by omega⟩, c, d⟩
  by_cases hk : k < 1 ∨ 10 < k
  · dsimp only
    rw [form_k k hk]
    unfold rightF sieveB
    dsimp only
    rw [if_neg (by omega), if_neg (by omega), if_neg (by omega)]
    rw [show (decide (1 ≤ k) && decide (k ≤ 10)) = false by rw [Bool.eq_false_iff]; simp; omega]
    simp
  rcases kind_cases hk with rfl | rfl | rfl | rfl | rfl | rfl | rfl | rfl | rfl | rfl
  · show (!decide ((⟨#[102, 114, 111, 109]⟩ : ByteArray) = ⟨#[]⟩) && (nameK nm && ((!(decide ((N.length : Int) < 0) || decide (0 < (N.length : Int))) && (N.all nameK && decide N.Nodup)) && (decide (S.length = 0) && ((false || !dn) && ((decide (0 ≤ ct) && decide (ct ≤ 0)) && (decide (0 ≤ sk) && decide (sk ≤ 0)))))))) = sieveB _
    rw [show decide ((⟨#[102, 114, 111, 109]⟩ : ByteArray) = ⟨#[]⟩) = false from rfl, nz, ← hE, z, z]
    show _ = (true && bareB _)
    unfold bareB
    dsimp only
    generalize nameK nm = a
    generalize N.isEmpty = f
    generalize S.isEmpty = e
    generalize (ct == 0) = g
    generalize (sk == 0) = h
    cases a <;> cases f <;> cases e <;> cases g <;> cases h <;> cases dn <;> rfl
  · show (!decide ((⟨#[119, 104, 101, 114, 101]⟩ : ByteArray) = ⟨#[]⟩) && (decide (nm = ⟨#[]⟩) && ((!(decide ((N.length : Int) < 0) || decide (0 < (N.length : Int))) && (N.all nameK && decide N.Nodup)) && (sumB S && ((false || !dn) && ((decide (0 ≤ ct) && decide (ct ≤ 0)) && (decide (0 ≤ sk) && decide (sk ≤ 0)))))))) = sieveB _
    rw [show decide ((⟨#[119, 104, 101, 114, 101]⟩ : ByteArray) = ⟨#[]⟩) = false from rfl, nz, z, z]
    show _ = (true && bareB _)
    unfold bareB
    dsimp only
    generalize decide (nm = ⟨#[]⟩) = c
    generalize N.isEmpty = f
    generalize sumB S = d
    generalize (ct == 0) = g
    generalize (sk == 0) = h
    cases c <;> cases f <;> cases d <;> cases g <;> cases h <;> cases dn <;> rfl
  · show (!decide ((⟨#[108, 101, 116]⟩ : ByteArray) = ⟨#[]⟩) && (nameK nm && ((!(decide ((N.length : Int) < 0) || decide (0 < (N.length : Int))) && (N.all nameK && decide N.Nodup)) && (sumB S && ((false || !dn) && ((decide (0 ≤ ct) && decide (ct ≤ 0)) && (decide (0 ≤ sk) && decide (sk ≤ 0)))))))) = sieveB _
    rw [show decide ((⟨#[108, 101, 116]⟩ : ByteArray) = ⟨#[]⟩) = false from rfl, nz, z, z]
    show _ = (true && bareB _)
    unfold bareB
    dsimp only
    generalize nameK nm = a
    generalize N.isEmpty = f
    generalize sumB S = d
    generalize (ct == 0) = g
    generalize (sk == 0) = h
    cases a <;> cases f <;> cases d <;> cases g <;> cases h <;> cases dn <;> rfl
  · show (!decide ((⟨#[107, 101, 101, 112]⟩ : ByteArray) = ⟨#[]⟩) && (decide (nm = ⟨#[]⟩) && ((!(decide ((N.length : Int) < 1) || decide (6 < (N.length : Int))) && (N.all nameK && decide N.Nodup)) && (decide (S.length = 0) && ((false || !dn) && ((decide (0 ≤ ct) && decide (ct ≤ 0)) && (decide (0 ≤ sk) && decide (sk ≤ 0)))))))) = sieveB _
    rw [show decide ((⟨#[107, 101, 101, 112]⟩ : ByteArray) = ⟨#[]⟩) = false from rfl, nl, ← hE, z, z]
    show _ = (bareB _ && names10 N 1 6)
    unfold bareB
    dsimp only
    generalize decide (nm = ⟨#[]⟩) = c
    generalize names10 N 1 6 = i
    generalize S.isEmpty = e
    generalize (ct == 0) = g
    generalize (sk == 0) = h
    cases c <;> cases i <;> cases e <;> cases g <;> cases h <;> cases dn <;> rfl
  · show (!decide ((⟨#[106, 111, 105, 110]⟩ : ByteArray) = ⟨#[]⟩) && (nameK nm && ((!(decide ((N.length : Int) < 0) || decide (0 < (N.length : Int))) && (N.all nameK && decide N.Nodup)) && (sumB S && ((false || !dn) && ((decide (0 ≤ ct) && decide (ct ≤ 0)) && (decide (0 ≤ sk) && decide (sk ≤ 0)))))))) = sieveB _
    rw [show decide ((⟨#[106, 111, 105, 110]⟩ : ByteArray) = ⟨#[]⟩) = false from rfl, nz, z, z]
    show _ = (true && bareB _)
    unfold bareB
    dsimp only
    generalize nameK nm = a
    generalize N.isEmpty = f
    generalize sumB S = d
    generalize (ct == 0) = g
    generalize (sk == 0) = h
    cases a <;> cases f <;> cases d <;> cases g <;> cases h <;> cases dn <;> rfl
  · show (!decide ((⟨#[108, 101, 102, 116]⟩ : ByteArray) = ⟨#[]⟩) && (nameK nm && ((!(decide ((N.length : Int) < 0) || decide (0 < (N.length : Int))) && (N.all nameK && decide N.Nodup)) && (sumB S && ((false || !dn) && ((decide (0 ≤ ct) && decide (ct ≤ 0)) && (decide (0 ≤ sk) && decide (sk ≤ 0)))))))) = sieveB _
    rw [show decide ((⟨#[108, 101, 102, 116]⟩ : ByteArray) = ⟨#[]⟩) = false from rfl, nz, z, z]
    show _ = (true && bareB _)
    unfold bareB
    dsimp only
    generalize nameK nm = a
    generalize N.isEmpty = f
    generalize sumB S = d
    generalize (ct == 0) = g
    generalize (sk == 0) = h
    cases a <;> cases f <;> cases d <;> cases g <;> cases h <;> cases dn <;> rfl
  · show (!decide ((⟨#[103, 114, 111, 117, 112]⟩ : ByteArray) = ⟨#[]⟩) && (decide (nm = ⟨#[]⟩) && ((!(decide ((N.length : Int) < 0) || decide (4 < (N.length : Int))) && (N.all nameK && decide N.Nodup)) && (decide (S.length = 0) && ((false || !dn) && ((decide (0 ≤ ct) && decide (ct ≤ 0)) && (decide (0 ≤ sk) && decide (sk ≤ 0)))))))) = sieveB _
    rw [show decide ((⟨#[103, 114, 111, 117, 112]⟩ : ByteArray) = ⟨#[]⟩) = false from rfl, nl, ← hE, z, z]
    show _ = (bareB _ && names10 N 0 4)
    unfold bareB
    dsimp only
    generalize decide (nm = ⟨#[]⟩) = c
    generalize names10 N 0 4 = i
    generalize S.isEmpty = e
    generalize (ct == 0) = g
    generalize (sk == 0) = h
    cases c <;> cases i <;> cases e <;> cases g <;> cases h <;> cases dn <;> rfl
  · show (!decide ((⟨#[111, 114, 100, 101, 114]⟩ : ByteArray) = ⟨#[]⟩) && (nameK nm && ((!(decide ((N.length : Int) < 0) || decide (0 < (N.length : Int))) && (N.all nameK && decide N.Nodup)) && (decide (S.length = 0) && ((true || !dn) && ((decide (0 ≤ ct) && decide (ct ≤ 0)) && (decide (0 ≤ sk) && decide (sk ≤ 0)))))))) = sieveB _
    rw [show decide ((⟨#[111, 114, 100, 101, 114]⟩ : ByteArray) = ⟨#[]⟩) = false from rfl, nz, ← hE, z, z]
    show _ = (true && bareB _)
    unfold bareB
    dsimp only
    generalize nameK nm = a
    generalize N.isEmpty = f
    generalize S.isEmpty = e
    generalize (ct == 0) = g
    generalize (sk == 0) = h
    cases a <;> cases f <;> cases e <;> cases g <;> cases h <;> cases dn <;> rfl
  · show (!decide ((⟨#[108, 105, 109, 105, 116]⟩ : ByteArray) = ⟨#[]⟩) && (decide (nm = ⟨#[]⟩) && ((!(decide ((N.length : Int) < 0) || decide (0 < (N.length : Int))) && (N.all nameK && decide N.Nodup)) && (decide (S.length = 0) && ((false || !dn) && ((decide (0 ≤ ct) && decide (ct ≤ 1000)) && (decide (0 ≤ sk) && decide (sk ≤ 1000)))))))) = sieveB _
    rw [show decide ((⟨#[108, 105, 109, 105, 116]⟩ : ByteArray) = ⟨#[]⟩) = false from rfl, nz, ← hE]
    show _ = (bareB _ && ((decide (0 ≤ ct) && decide (ct ≤ 1000)) && (decide (0 ≤ sk) && decide (sk ≤ 1000))))
    unfold bareB
    dsimp only
    generalize decide (nm = ⟨#[]⟩) = c
    generalize N.isEmpty = f
    generalize S.isEmpty = e
    generalize (decide (0 ≤ ct) && decide (ct ≤ 1000)) = g
    generalize (decide (0 ≤ sk) && decide (sk ≤ 1000)) = h
    cases c <;> cases f <;> cases e <;> cases g <;> cases h <;> cases dn <;> rfl
  · show (!decide ((⟨#[111, 110, 99, 101]⟩ : ByteArray) = ⟨#[]⟩) && (decide (nm = ⟨#[]⟩) && ((!(decide ((N.length : Int) < 0) || decide (0 < (N.length : Int))) && (N.all nameK && decide N.Nodup)) && (decide (S.length = 0) && ((false || !dn) && ((decide (0 ≤ ct) && decide (ct ≤ 0)) && (decide (0 ≤ sk) && decide (sk ≤ 0)))))))) = sieveB _
    rw [show decide ((⟨#[111, 110, 99, 101]⟩ : ByteArray) = ⟨#[]⟩) = false from rfl, nz, ← hE, z, z]
    show _ = (true && bareB _)
    unfold bareB
    dsimp only
    generalize decide (nm = ⟨#[]⟩) = c
    generalize N.isEmpty = f
    generalize S.isEmpty = e
    generalize (ct == 0) = g
    generalize (sk == 0) = h
    cases c <;> cases f <;> cases e <;> cases g <;> cases h <;> cases dn <;> rfl
end Go.Proofs.YtjiaciikbnpicaaGreatDoor

/-
  The contracts of what is reckoned with: operands, the four small functions on numbers, the model's own helpers, two cells held against each other.
-/
namespace Go.Proofs.YtjiaciikbnpicaaGreatDoor
open Go.ChangeShapes Go.WideShapes Go.ChangeAt Go.RowKit

end Go.Proofs.YtjiaciikbnpicaaGreatDoor

/-
  The contract of the model's helper that asks whether two cells can be reckoned with.
-/
namespace Go.Proofs.YtjiaciikbnpicaaGreatDoor
open Go.ChangeShapes Go.WideShapes Go.ChangeAt Go.RowKit

end Go.Proofs.YtjiaciikbnpicaaGreatDoor

/-
  The contract of the program's own way to reckon with two cells.
-/
namespace Go.Proofs.YtjiaciikbnpicaaGreatDoor
open Go.ChangeShapes Go.WideShapes Go.ChangeAt Go.RowKit
attribute [local go_sem ↓] Go.wp_at_zero Go.wp_at_succ

attribute [local simp] World.cell?_alloc_past World.cell?_alloc_at World.frozen?_alloc_at cell_far cell_off cell_here World.frozen?_alloc_past

end Go.Proofs.YtjiaciikbnpicaaGreatDoor

/-
  The contracts of Plus, Less, Times and By: the program's and the model's come to the same.
-/
namespace Go.Proofs.YtjiaciikbnpicaaGreatDoor
open Go.ChangeShapes Go.WideShapes Go.ChangeAt Go.RowKit

end Go.Proofs.YtjiaciikbnpicaaGreatDoor

/-
  The contracts of the program's own small functions on truths: what an answer's rank is, what the lesser, the greater and the turned one of ranks is, and the cell of a rank.
-/
namespace Go.Proofs.YtjiaciikbnpicaaGreatDoor
open Go.ChangeShapes Go.WideShapes Go.ChangeAt Go.RowKit

end Go.Proofs.YtjiaciikbnpicaaGreatDoor

/-
  Reckoning without any program: what a sum comes to of columns and a row, item by item.
-/
namespace Go.Proofs.YtjiaciikbnpicaaGreatDoor

/-- The cell of a column. -/
def colR : List ByteArray → List CK → ByteArray → CK
  | c :: C, r :: R, s => if c = s then r else colR C R s
  | _, _, _ => zeroC
/-- Are all names columns? -/
def hasC (C : List ByteArray) (l : List TI) : Bool := l.all fun x => !(decide (x.1 = 2)) || C.any (fun c => decide (c = x.2.2))
end Go.Proofs.YtjiaciikbnpicaaGreatDoor

/-
  Shapes without any program: the columns behind a sieve and behind a question, the codes, and what holds of them.
-/
namespace Go.Proofs.YtjiaciikbnpicaaGreatDoor

def manyC (l : List ByteArray) : List ByteArray × Int := if l.length ≤ 6 then (l, 0) else ([], 4)
def countT : ByteArray := ⟨#[99, 111, 117, 110, 116]⟩
/-- The first table of that name. -/
def findT (T : List TB) (s : ByteArray) : Option TB := T.find? (fun t => decide (t.1 = s))
def colsOf (T : List TB) (s : ByteArray) : List ByteArray := ((findT T s).map (·.2.1)).getD []
/-- The columns behind one sieve (not the first), and the code. -/
def stepC (T : List TB) (C : List ByteArray) (s : SV) : List ByteArray × Int :=
  if s.kind = 2 then (if hasC C s.sum = true then manyC C else ([], 3))
  else if s.kind = 3 then (if inB C s.name = true then ([], 2) else if hasC C s.sum = true then manyC (C ++ [s.name]) else ([], 3))
  else if s.kind = 5 ∨ s.kind = 6 then
    (if inB (namesT T) s.name = false then ([], 1) else if (colsOf T s.name).any (inB C) = true then ([], 2) else if hasC (C ++ colsOf T s.name) s.sum = true then manyC (C ++ colsOf T s.name) else ([], 3))
  else if s.kind = 4 then (if s.names.all (inB C) = true then manyC s.names else ([], 3))
  else if s.kind = 7 then (if s.names.all (inB C) = true then (if inB s.names countT = true then ([], 2) else manyC (s.names ++ [countT])) else ([], 3))
  else if s.kind = 8 then (if inB C s.name = true then manyC C else ([], 3))
  else manyC C
theorem stepC_2 (T : List TB) (C : List ByteArray) (nm : ByteArray) (N : List ByteArray) (S : List TI) (dn : Bool) (ct sk : Int) : stepC T C ⟨2, nm, N, S, dn, ct, sk⟩ = if hasC C S = true then manyC C else ([], 3) := by simp [stepC]
theorem stepC_3 (T : List TB) (C : List ByteArray) (nm : ByteArray) (N : List ByteArray) (S : List TI) (dn : Bool) (ct sk : Int) : stepC T C ⟨3, nm, N, S, dn, ct, sk⟩ = if inB C nm = true then ([], 2) else if hasC C S = true then manyC (C ++ [nm]) else ([], 3) := by simp [stepC]
theorem stepC_4 (T : List TB) (C : List ByteArray) (nm : ByteArray) (N : List ByteArray) (S : List TI) (dn : Bool) (ct sk : Int) : stepC T C ⟨4, nm, N, S, dn, ct, sk⟩ = if N.all (inB C) = true then manyC N else ([], 3) := by simp [stepC]
theorem stepC_join (k : Int) (hk : k = 5 ∨ k = 6) (T : List TB) (C : List ByteArray) (nm : ByteArray) (N : List ByteArray) (S : List TI) (dn : Bool) (ct sk : Int) : stepC T C ⟨k, nm, N, S, dn, ct, sk⟩ = if inB (namesT T) nm = false then ([], 1) else if (colsOf T nm).any (inB C) = true then ([], 2) else if hasC (C ++ colsOf T nm) S = true then manyC (C ++ colsOf T nm) else ([], 3) := by rcases hk with rfl | rfl <;> simp [stepC]
theorem stepC_7 (T : List TB) (C : List ByteArray) (nm : ByteArray) (N : List ByteArray) (S : List TI) (dn : Bool) (ct sk : Int) : stepC T C ⟨7, nm, N, S, dn, ct, sk⟩ = if N.all (inB C) = true then (if inB N countT = true then ([], 2) else manyC (N ++ [countT])) else ([], 3) := by simp [stepC]
theorem stepC_8 (T : List TB) (C : List ByteArray) (nm : ByteArray) (N : List ByteArray) (S : List TI) (dn : Bool) (ct sk : Int) : stepC T C ⟨8, nm, N, S, dn, ct, sk⟩ = if inB C nm = true then manyC C else ([], 3) := by simp [stepC]
theorem stepC_9 (T : List TB) (C : List ByteArray) (nm : ByteArray) (N : List ByteArray) (S : List TI) (dn : Bool) (ct sk : Int) : stepC T C ⟨9, nm, N, S, dn, ct, sk⟩ = manyC C := by simp [stepC]
theorem stepC_10 (T : List TB) (C : List ByteArray) (nm : ByteArray) (N : List ByteArray) (S : List TI) (dn : Bool) (ct sk : Int) : stepC T C ⟨10, nm, N, S, dn, ct, sk⟩ = manyC C := by simp [stepC]
/-- Sieve by sieve. -/
def shapeF (T : List TB) : List ByteArray → List SV → List ByteArray × Int
  | C, [] => (C, 0)
  | C, s :: l => if (stepC T C s).2 = 0 then shapeF T (stepC T C s).1 l else ([], (stepC T C s).2)
/-- What StepShape answers. -/
def stepShapeR (T : List TB) (C : List ByteArray) (s : SV) : List ByteArray × Int :=
  if ((baseB T && namesB C 1 6) && sieveB s) = true ∧ s.kind ≠ 1 then stepC T C s else ([], 5)
/-- What ShapeOf answers. -/
def shapeR (T : List TB) (l : List SV) : List ByteArray × Int :=
  if (baseB T && askB l) = true then (if inB (namesT T) ((l.head?.map (·.name)).getD ⟨#[]⟩) = false then ([], 1) else shapeF T (colsOf T ((l.head?.map (·.name)).getD ⟨#[]⟩)) l.tail) else ([], 5)

theorem manyC_ok {l D : List ByteArray} (h : manyC l = (D, 0)) : D = l ∧ l.length ≤ 6 := by
  unfold manyC at h
  split at h
  · rename_i h6
    injection h with e1 _
    exact ⟨e1.symm, h6⟩
  · injection h with _ e
    exact absurd e (by decide)
theorem manyC_code (l : List ByteArray) : (manyC l).2 = 0 ∨ manyC l = ([], 4) := by
  unfold manyC
  split
  · exact .inl rfl
  · exact .inr rfl
/-- Where the code is not 0 there is nothing. -/
theorem stepC_none (T : List TB) (C : List ByteArray) (s : SV) (h : (stepC T C s).2 ≠ 0) : (stepC T C s).1 = [] := by
  have key : ∀ l, (manyC l).2 ≠ 0 → (manyC l).1 = [] := by
    intro l hl
    rcases manyC_code l with e | e
    · exact absurd e hl
    · rw [e]
  unfold stepC at h ⊢
  repeat' split
  all_goals first | rfl | (simp_all; done) | (refine key _ ?_; simp_all)
theorem shapeF_none (T : List TB) (l : List SV) : ∀ (C : List ByteArray), (shapeF T C l).2 ≠ 0 → (shapeF T C l).1 = [] := by
  induction l with
  | nil => intro C h; exact absurd rfl h
  | cons s l ih =>
    intro C h
    unfold shapeF at h ⊢
    split
    · rename_i h0
      rw [if_pos h0] at h
      exact ih _ h
    · rfl
theorem findT_some {T : List TB} {s : ByteArray} {t : TB} (h : findT T s = some t) : t ∈ T ∧ t.1 = s := by
  unfold findT at h
  exact ⟨List.mem_of_find?_eq_some h, by simpa using List.find?_some h⟩
theorem findT_iff {T : List TB} {s : ByteArray} : (findT T s).isSome = true ↔ s ∈ namesT T := by
  unfold findT namesT
  rw [List.find?_isSome, List.mem_map]
  simp only [decide_eq_true_eq]
theorem findT_at {T : List TB} {s : ByteArray} {k : Nat} (hk : k < T.length) (he : T[k].1 = s) (hf : ∀ j (hj : j < T.length), j < k → T[j].1 ≠ s) : findT T s = some T[k] := by
  unfold findT
  rw [List.find?_eq_some_iff_getElem]
  exact ⟨by simpa using he, k, hk, rfl, fun j hj => by simpa using hf j (by omega) hj⟩
theorem cols_at {T : List TB} {s : ByteArray} {r : Int} (h : AtIs (namesT T) s r) : (r = -1 ∧ s ∉ namesT T) ∨ ∃ k, ∃ hk : k < T.length, r = (k : Int) ∧ findT T s = some T[k] ∧ colsOf T s = T[k].2.1 ∧ s ∈ namesT T := by
  rcases h with ⟨rfl, h⟩ | ⟨k, hk, rfl, he, hf⟩
  · exact .inl ⟨rfl, h⟩
  · have hk2 := hk
    rw [namesT_length] at hk2
    rw [namesT_at T k hk2] at he
    have h2 := findT_at hk2 he (fun j hj hjk => by
      have := hf j (by rw [namesT_length]; exact hj) hjk
      rw [namesT_at T j hj] at this
      exact this)
    refine .inr ⟨k, hk2, rfl, h2, by unfold colsOf; rw [h2]; rfl, ?_⟩
    rw [← findT_iff, h2]; rfl
theorem base_table {T : List TB} {t : TB} (hb : baseB T = true) (ht : t ∈ T) : tableB t = true := by
  unfold baseB at hb
  simp only [Bool.and_eq_true, List.all_eq_true] at hb
  exact hb.1.1 t ht
theorem table_names {t : TB} (h : tableB t = true) : namesB t.2.1 1 6 = true := by
  unfold tableB at h
  simp only [Bool.and_eq_true] at h
  exact h.1.2.1
theorem cols_names {T : List TB} {s : ByteArray} (hb : baseB T = true) (hs : s ∈ namesT T) : namesB (colsOf T s) 1 6 = true := by
  obtain ⟨t, ht⟩ := Option.isSome_iff_exists.1 (findT_iff.2 hs)
  have := table_names (base_table hb (findT_some ht).1)
  unfold colsOf
  rw [ht]
  exact this
theorem namesB_iff {l : List ByteArray} {lo hi : Int} : namesB l lo hi = true ↔ (∀ x ∈ l, nameB x = true) ∧ l.Nodup ∧ lo ≤ (l.length : Int) ∧ (l.length : Int) ≤ hi := by
  unfold namesB namesD
  simp only [Bool.and_eq_true, decide_eq_true_eq, List.all_eq_true]
  constructor
  · rintro ⟨⟨a, b⟩, c, d⟩; exact ⟨a, b, c, d⟩
  · rintro ⟨a, b, c, d⟩; exact ⟨⟨a, b⟩, c, d⟩
theorem count_name : nameB countT = true := by decide
/-- Columns stay right. -/
theorem stepC_ok {T : List TB} {C D : List ByteArray} {s : SV} (hT : baseB T = true) (hC : namesB C 1 6 = true) (hs : sieveB s = true) (h : stepC T C s = (D, 0)) : namesB D 1 6 = true := by
  have bad : ∀ {k : Int}, k ≠ 0 → (([] : List ByteArray), k) = (D, 0) → False := by
    intro k hk e; injection e with _ e; exact hk e
  obtain ⟨c1, c2, c3, c4⟩ := namesB_iff.1 hC
  have many : ∀ l, (∀ x ∈ l, nameB x = true) → l.Nodup → 1 ≤ l.length → manyC l = (D, 0) → namesB D 1 6 = true := by
    intro l h1 h2 h3 e
    obtain ⟨rfl, h6⟩ := manyC_ok e
    exact namesB_iff.2 ⟨h1, h2, by omega, by omega⟩
  have same : manyC C = (D, 0) → namesB D 1 6 = true := many C c1 c2 (by omega)
  obtain ⟨kd, nm, N, S, dn, ct, sk⟩ := s
  unfold stepC at h
  rcases sieve_kind hs with e | e | e | e | e | e | e | e | e | e <;> (dsimp only at e; subst e; simp only [Int.reduceEq, if_true, if_false, or_false, or_true] at h)
  · exact same h
  · split at h
    · exact same h
    · exact (bad (by decide) h).elim
  · split at h
    · exact (bad (by decide) h).elim
    · rename_i hn
      split at h
      · have hk : nameK nm = true := by
          simp [sieveB, bareB, nameS, sumS, listS] at hs
          exact hs.2.2.1
        refine many _ ?_ ?_ (by simp) h
        · intro x hx
          rcases List.mem_append.1 hx with hx | hx
          · exact c1 x hx
          · obtain rfl := List.mem_singleton.1 hx
            exact nameK_nameB hk
        · rw [List.nodup_append]
          exact ⟨c2, by simp, fun a ha b hb e => by rw [List.mem_singleton] at hb; subst hb; subst e; exact hn (inB_iff.2 ha)⟩
      · exact (bad (by decide) h).elim
  · split at h
    · have hk : names10 N 1 6 = true := by
        simp [sieveB] at hs
        exact hs.2
      unfold names10 at hk
      rw [Bool.and_eq_true] at hk
      obtain ⟨d1, d2, d3, d4⟩ := namesB_iff.1 hk.2
      exact many N d1 d2 (by omega) h
    · exact (bad (by decide) h).elim
  · split at h
    · exact (bad (by decide) h).elim
    · rename_i hn
      split at h
      · exact (bad (by decide) h).elim
      · rename_i hd
        split at h
        · obtain ⟨d1, d2, d3, d4⟩ := namesB_iff.1 (cols_names hT (inB_iff.1 (by simpa using hn)))
          refine many _ ?_ ?_ (by rw [List.length_append]; omega) h
          · intro x hx
            rcases List.mem_append.1 hx with hx | hx
            · exact c1 x hx
            · exact d1 x hx
          · rw [List.nodup_append]
            refine ⟨c2, d2, fun a ha b hb e => hd ?_⟩
            rw [List.any_eq_true]
            exact ⟨b, hb, inB_iff.2 (e ▸ ha)⟩
        · exact (bad (by decide) h).elim
  · split at h
    · exact (bad (by decide) h).elim
    · rename_i hn
      split at h
      · exact (bad (by decide) h).elim
      · rename_i hd
        split at h
        · obtain ⟨d1, d2, d3, d4⟩ := namesB_iff.1 (cols_names hT (inB_iff.1 (by simpa using hn)))
          refine many _ ?_ ?_ (by rw [List.length_append]; omega) h
          · intro x hx
            rcases List.mem_append.1 hx with hx | hx
            · exact c1 x hx
            · exact d1 x hx
          · rw [List.nodup_append]
            refine ⟨c2, d2, fun a ha b hb e => hd ?_⟩
            rw [List.any_eq_true]
            exact ⟨b, hb, inB_iff.2 (e ▸ ha)⟩
        · exact (bad (by decide) h).elim
  · split at h
    · split at h
      · exact (bad (by decide) h).elim
      · rename_i hc
        have hk : names10 N 0 4 = true := by
          simp [sieveB] at hs
          exact hs.2
        unfold names10 at hk
        rw [Bool.and_eq_true] at hk
        obtain ⟨d1, d2, d3, d4⟩ := namesB_iff.1 hk.2
        refine many _ ?_ ?_ (by simp) h
        · intro x hx
          rcases List.mem_append.1 hx with hx | hx
          · exact d1 x hx
          · obtain rfl := List.mem_singleton.1 hx
            exact count_name
        · rw [List.nodup_append]
          exact ⟨d2, by simp, fun a ha b hb e => by rw [List.mem_singleton] at hb; subst hb; subst e; exact hc (inB_iff.2 ha)⟩
    · exact (bad (by decide) h).elim
  · split at h
    · exact same h
    · exact (bad (by decide) h).elim
  · exact same h
  · exact same h
theorem shapeF_ok {T : List TB} (hT : baseB T = true) (l : List SV) : ∀ {C D : List ByteArray}, namesB C 1 6 = true → (∀ s ∈ l, sieveB s = true) → shapeF T C l = (D, 0) → namesB D 1 6 = true := by
  induction l with
  | nil => intro C D hC _ h; injection h with e _; rw [← e]; exact hC
  | cons s l ih =>
    intro C D hC hl h
    unfold shapeF at h
    split at h
    · rename_i h0
      exact ih (stepC_ok hT hC (hl s (by simp)) (Prod.ext rfl h0)) (fun x hx => hl x (by simp [hx])) h
    · rename_i h0
      injection h with _ e
      exact absurd e h0
end Go.Proofs.YtjiaciikbnpicaaGreatDoor

/-
  The program's lookedUp, isFree, allThere and tableColumns.
-/
namespace Go.Proofs.YtjiaciikbnpicaaGreatDoor
open Go.ChangeShapes Go.WideShapes Go.ChangeAt Go.RowKit
attribute [local go_sem ↓] Go.wp_at_zero Go.wp_at_succ
attribute [local simp] World.cell?_alloc_past World.cell?_alloc_at World.frozen?_alloc_at cell_far cell_off cell_here World.frozen?_alloc_past

theorem errV_inv0 {A : Sen} {v : Value} (h : ErrV A 0 v) : v = .nilIface := by
  rcases h with ⟨_, h⟩ | ⟨h, _⟩ | ⟨h, _⟩ | ⟨h, _⟩ | ⟨h, _⟩ | ⟨h, _⟩
  · exact h
  all_goals exact absurd h (by decide)
theorem errV_inv3 {A : Sen} {v : Value} (h : ErrV A 3 v) : ∃ nm, v = .iface 133 (.agg #[.string nm, .iface 304 (.pointer (some A.e3))]) := by
  rcases h with ⟨h, _⟩ | ⟨h, _⟩ | ⟨h, _⟩ | ⟨_, h⟩ | ⟨h, _⟩ | ⟨h, _⟩
  all_goals first | exact h | exact absurd h (by decide)
set_option maxRecDepth 100000 in
set_option maxHeartbeats 4000000 in
theorem looked_impl (n : Nat) (a : Option Addr) (cap : Nat) (l : List ByteArray) (hn : l.length = n) (s : ByteArray) (w : World) (hrow : StrsAt w a l) (hm : n ≤ maxLen) (A : Sen) (hS : SenAt w A) (b : Bool) (hb : inB l s = b) :
    Calls Tryz.prog 96 #[.slice a n cap, .string s] w fun e w' => ∃ v, e = .returned v ∧ ErrV A (if b = true then 0 else 3) v ∧ Below w.heap.size w w' := by
  have HC : Hid (Calls Tryz.prog 134 #[.slice a n cap, .string s] w fun e w' => ∃ r, e = .returned (.int .i64 r) ∧ AtIs l s r ∧ Below w.heap.size w w') := columnof_impl n a cap l hn s w hrow hm
  have HS : Hid (SenAt w A) := hS
  have HB : Hid (inB l s = b) := hb
  clear hrow hn hb hS
  go_enter Tryz.func96, Tryz.ntmps96
  go_wp2_with fail
  refine HC.out.mono ?_
  rintro e w1 ⟨r, rfl, hat, hb1⟩
  have HAT : Hid (AtIs l s r) := hat
  clear hat HC
  by_cases hr : 0 ≤ r
  · have e : b = true := by rw [← HB.out]; exact inB_iff.2 (HAT.out.neg.1 hr)
    subst e
    have hr2 : ¬ r < 0 := by omega
    go_wp2
    go_ret
    exact ⟨_, rfl, errV_0, hb1⟩
  · have e : b = false := by rw [← HB.out]; exact inB_no.2 (fun h => hr (HAT.out.neg.2 h))
    subst e
    have hr2 : r < 0 := by omega
    have hv := (HS.out.below hb1).v3
    go_wp2
    go_ret
    exact ⟨_, rfl, errV_3 _, hb1⟩
set_option maxRecDepth 100000 in
set_option maxHeartbeats 4000000 in
theorem free_col_impl (n : Nat) (a : Option Addr) (cap : Nat) (l : List ByteArray) (hn : l.length = n) (s : ByteArray) (w : World) (hrow : StrsAt w a l) (hm : n ≤ maxLen) (A : Sen) (hS : SenAt w A) (b : Bool) (hb : inB l s = b) :
    Calls Tryz.prog 132 #[.slice a n cap, .string s] w fun e w' => e = .returned (.bool !b) ∧ Below w.heap.size w w' := by
  have hA : Below w.heap.size w (w.alloc (.cells #[.string ⟨#[]⟩, .nilIface] 133)) := (Below.refl _ _).alloc (Nat.le_refl _) _
  have HC : Hid (Calls Tryz.prog 96 #[.slice a n cap, .string s] (w.alloc (.cells #[.string ⟨#[]⟩, .nilIface] 133)) fun e w' => ∃ v, e = .returned v ∧ ErrV A (if b = true then 0 else 3) v ∧ Below (w.alloc (.cells #[.string ⟨#[]⟩, .nilIface] 133)).heap.size (w.alloc (.cells #[.string ⟨#[]⟩, .nilIface] 133)) w') :=
    looked_impl n a cap l hn s _ (hrow.below hA) hm A (hS.below hA) b hb
  have HS : Hid (SenAt w A) := hS
  clear hrow hn hb hS
  go_enter Tryz.func132, Tryz.ntmps132
  go_wp2_with fail
  refine HC.out.mono ?_
  rintro e w1 ⟨v, rfl, hv, hb1⟩
  have hx : Below w.heap.size w w1 := chain hA hb1
  have hsz := hb1.size
  simp only [World.size_alloc] at hsz
  clear HC
  cases b
  · obtain ⟨nm, rfl⟩ := errV_inv3 hv
    have c0 : w1.cell? ⟨w.heap.size, 0, none⟩ = some (.string ⟨#[]⟩) := by rw [hb1.cell (p := ⟨w.heap.size, 0, none⟩) (by simp)]; simp
    have c1 : w1.cell? ⟨w.heap.size, 1, none⟩ = some .nilIface := by rw [hb1.cell (p := ⟨w.heap.size, 1, none⟩) (by simp)]; simp
    have f0 : w1.frozen? ⟨w.heap.size, 0, none⟩ = false := by rw [hb1.frozen (p := ⟨w.heap.size, 0, none⟩) (by simp)]; simp
    have f1 : w1.frozen? ⟨w.heap.size, 1, none⟩ = false := by rw [hb1.frozen (p := ⟨w.heap.size, 1, none⟩) (by simp)]; simp
    have C4 : Hid (w1.cell? ⟨w.heap.size, 0, none⟩ = some (.string ⟨#[]⟩) ∧ w1.cell? ⟨w.heap.size, 1, none⟩ = some .nilIface ∧ w1.frozen? ⟨w.heap.size, 0, none⟩ = false ∧ w1.frozen? ⟨w.heap.size, 1, none⟩ = false) := ⟨c0, c1, f0, f1⟩
    clear hv c0 c1 f0 f1
    go_wp2_with fail
    refine (as_hit nm (.iface 304 (.pointer (some A.e3))) (.string ⟨#[]⟩) .nilIface w.heap.size w1 A (HS.out.below hx) rfl C4.out.1 C4.out.2.1 C4.out.2.2.1 C4.out.2.2.2 (by omega)).mono ?_
    rintro e w2 ⟨rfl, hk⟩
    go_wp2
    go_ret
    exact ⟨rfl, hx.trans (hk.below (Nat.le_refl _) hx.size)⟩
  · obtain rfl := errV_inv0 hv
    clear hv
    go_wp2_with fail
    refine (as_nil _ _).mono ?_
    rintro e w2 ⟨rfl, rfl⟩
    go_wp2
    go_ret
    exact ⟨rfl, hx⟩
set_option maxRecDepth 100000 in
set_option maxHeartbeats 4000000 in
theorem all_there_impl (n : Nat) (a : Option Addr) (cap : Nat) (C : List ByteArray) (hn : C.length = n) (m : Nat) (a2 : Option Addr) (cap2 : Nat) (N : List ByteArray) (hm2 : N.length = m) (w : World) (hrow : StrsAt w a C) (hrow2 : StrsAt w a2 N) (hm : n ≤ maxLen) (hmm : m ≤ maxLen) (A : Sen) (hS : SenAt w A) (b : Bool) (hb : N.all (inB C) = b) :
    Calls Tryz.prog 91 #[.slice a n cap, .slice a2 m cap2] w fun e w' => ∃ v, e = .returned v ∧ ErrV A (if b = true then 0 else 3) v ∧ Below w.heap.size w w' := by
  have HR : Hid (StrsAt w a C) := hrow
  have HR2 : Hid (StrsAt w a2 N) := hrow2
  have HS : Hid (SenAt w A) := hS
  have HB : Hid (N.all (inB C) = b) := hb
  have HN : Hid (C.length = n) := hn
  subst hm2
  clear hrow hrow2 hS hb hn
  unfold maxLen at hm hmm
  go_enter Tryz.func91, Tryz.ntmps91
  go_wp2
  go_loopw [10] (fun kk wr => ∃ k : Nat, k ≤ N.length ∧ kk = .int .i64 k ∧ Hid ((N.take k).all (inB C) = true) ∧ Below w.heap.size w wr) (fun kk _ => N.length - (intOf kk).toNat)
  case atStart => exact ⟨0, Nat.zero_le _, rfl, rfl, Below.refl _ _⟩
  case round =>
    obtain ⟨k, hk, rfl, hall, hbw⟩ := hrel
    by_cases hlt : k < N.length
    · obtain ⟨g, o, rfl, hgw, c0⟩ := HR2.out.below hbw k hlt
      have hi0 : (0 : Int) ≤ (k : Int) := by omega
      have hi1 : (k : Int) < (N.length : Int) := by omega
      have HT : Hid ((N.take (k + 1)).all (inB C) = inB C N[k]) := by
        have : (N.take (k + 1)).all (inB C) = inB C N[k] := by
          rw [List.take_succ_eq_append_getElem hlt, List.all_append, hall.out, Bool.true_and, List.all_cons, List.all_nil, Bool.and_true]
        exact this
      have hno : Hid (inB C N[k] = false → b = false) := by
        have : inB C N[k] = false → b = false := by
          intro e
          rw [← HB.out, Bool.eq_false_iff]
          intro h
          rw [List.all_eq_true.1 h _ (List.getElem_mem hlt)] at e
          cases e
        exact this
      obtain ⟨r, hr⟩ : ∃ r, inB C N[k] = r := ⟨_, rfl⟩
      generalize N[k] = x at c0 HT hr hno
      have HRR : Hid (inB C x = r) := hr
      clear hr
      go_wp2_with fail
      refine (looked_impl n a cap C HN.out x _ (HR.out.below hbw) (by unfold maxLen; omega) A (HS.out.below hbw) r HRR.out).mono ?_
      rintro e wA ⟨v, rfl, hv, hbA⟩
      cases r
      · have e := hno.out HRR.out
        subst e
        obtain ⟨nm, rfl⟩ := errV_inv3 hv
        clear hv
        go_wp2
        go_ret
        exact ⟨_, rfl, errV_3 _, chain hbw hbA⟩
      · obtain rfl := errV_inv0 hv
        clear hv
        go_wp2
        go_roundw
        case rel => exact ⟨k + 1, by omega, by go_num, by rw [HT.out]; exact HRR.out, chain hbw hbA⟩
        case measure => simp [intOf]; omega
    · have hkl : k = N.length := by omega
      subst hkl
      have hnn : ¬ (N.length : Int) < (N.length : Int) := by omega
      have e : b = true := by
        rw [← HB.out]
        have := hall.out
        rw [List.take_length] at this
        exact this
      subst e
      go_wp2
      go_ret
      exact ⟨_, rfl, errV_0, hbw⟩
/-- Columns (where there are any to tell) and the error of a code. -/
def ColOut (w : World) (A : Sen) (D : List ByteArray) (k : Int) (e : Ending) (w' : World) : Prop :=
  ∃ a n c v, e = .returned (.tuple #[.slice a n c, v]) ∧ ErrV A k v ∧ (k = 0 → D.length = n ∧ StrsAt w' a D ∧ (a = none → c = 0) ∧ n ≤ c) ∧ Below w.heap.size w w'
theorem InR.cols {T : List TB} {s : ByteArray} {u : TB} (h : InR T s u true) : inB (namesT T) s = true ∧ colsOf T s = u.2.1 ∧ u ∈ T := by
  rcases h with ⟨h, _⟩ | ⟨_, k, hk, e1, e2, hf⟩
  · cases h
  · have hfd := findT_at hk (e1 ▸ e2) (fun j hj hjk => hf j hj hjk)
    refine ⟨inB_iff.2 ?_, ?_, ?_⟩
    · rw [← e2, ← e1]; exact List.mem_map_of_mem (List.getElem_mem hk)
    · unfold colsOf; rw [hfd, e1]; rfl
    · rw [← e1]; exact List.getElem_mem hk
theorem InR.none {T : List TB} {s : ByteArray} {u : TB} (h : InR T s u false) : inB (namesT T) s = false := by
  rcases h with ⟨_, _, h⟩ | ⟨h, _⟩
  · exact inB_no.2 h
  · cases h
set_option maxRecDepth 100000 in
set_option maxHeartbeats 4000000 in
theorem tablecols_impl (a : Option Addr) (cap : Nat) (T : List TB) (n : Nat) (hn : T.length = n) (w : World) (hrow : TabsAt w a T) (hm : n ≤ 1048576) (hsm : ∀ t, t ∈ T → Small t) (s : ByteArray) (hsz : s.size ≤ maxLen) (A : Sen) (hS : SenAt w A) (D : List ByteArray) (hD : colsOf T s = D) (k : Int) (hk : (if inB (namesT T) s = true then 0 else 1) = k) :
    Calls Tryz.prog 63 #[.slice a n cap, .string s] w (ColOut w A D k) := by
  obtain ⟨u, b, hu⟩ := inR_some T s
  have HC : Hid (Calls Tryz.prog 90 #[.slice a n cap, .string s] w (InOut w u b)) := tablein_impl a cap T n hn w hrow hm hsm s hsz u b hu
  have HS : Hid (SenAt w A) := hS
  have HU : Hid (InR T s u b) := hu
  have HK : Hid ((if inB (namesT T) s = true then (0 : Int) else 1) = k) := hk
  have HD : Hid (colsOf T s = D) := hD
  clear hrow hn hS hu hsm hk hD
  go_enter Tryz.func63, Tryz.ntmps63
  go_wp2_with fail
  refine HC.out.mono ?_
  rintro e w1 ⟨nc, nr, ca, cc, ra, cr, P, Q, rfl, hnc, hnr, hO, hb1⟩
  have HO : Hid (OutTab w1 w.heap.size ca cc ra u P Q) := hO
  have HN : Hid (u.2.1.length = nc) := hnc
  have hsz1 := hb1.size
  clear HC hO hnc hnr
  cases b
  · have hv := (HS.out.below hb1).v1
    have hlt := (HS.out.below hb1).lt.1
    have ek := HK.out
    rw [HU.out.none] at ek
    have ek2 : (1 : Int) = k := ek
    subst ek2
    clear ek
    go_wp2_with fail
    go_quiet (fail)
    go_wp2
    refine bodyPost_ret (v := .tuple #[.slice none 0 0, .iface 133 (.agg #[.string s, .iface 304 (.pointer (some A.e1))])]) (by simp [results, Tryz.results63, go_sem]) rfl ?_
    exact ⟨_, _, _, _, rfl, errV_1 _, fun h => absurd h (by decide), belowN (hb1.alloc hb1.size _) _⟩
  · have ek := HK.out
    rw [HU.out.cols.1] at ek
    have ek2 : (0 : Int) = k := ek
    subst ek2
    clear ek
    have ed := HD.out
    rw [HU.out.cols.2.1] at ed
    subst ed
    go_wp2
    refine bodyPost_ret (v := .tuple #[.slice ca nc cc, .nilIface]) (by simp [results, Tryz.results63, go_sem]) rfl ?_
    exact ⟨_, _, _, _, rfl, errV_0, fun _ => ⟨HN.out, HO.out.cols.below ((Below.refl _ _).alloc (Nat.le_refl _) _), HO.out.nilC, by rw [← HN.out]; exact HO.out.cap⟩, hb1.alloc hb1.size _⟩
end Go.Proofs.YtjiaciikbnpicaaGreatDoor

/-
  The program's widened and grouped.
-/
namespace Go.Proofs.YtjiaciikbnpicaaGreatDoor
open Go.ChangeShapes Go.WideShapes Go.ChangeAt Go.RowKit
attribute [local go_sem ↓] Go.wp_at_zero Go.wp_at_succ
attribute [local simp] World.cell?_alloc_past World.cell?_alloc_at World.frozen?_alloc_at cell_far cell_off cell_here World.frozen?_alloc_past

/-- Columns behind columns: none twice, the sum's names known, and not too many. -/
def widR (C M : List ByteArray) (S : List TI) (K : List ByteArray) : List ByteArray × Int :=
  if M.any (inB C) = true then ([], 2) else if (namesR S).all (inB K) = true then manyC (C ++ M) else ([], 3)
set_option maxRecDepth 100000 in
set_option maxHeartbeats 8000000 in
theorem widened_impl (n : Nat) (a : Option Addr) (cap : Nat) (C : List ByteArray) (hn : C.length = n) (m : Nat) (a2 : Option Addr) (cap2 : Nat) (M : List ByteArray) (hm2 : M.length = m) (sa : Option Addr) (sn sc : Nat) (S : List TI) (hsn : S.length = sn)
    (n3 : Nat) (a3 : Option Addr) (cap3 : Nat) (K : List ByteArray) (hn3 : K.length = n3) (w : World) (hrow : StrsAt w a C) (hrow2 : StrsAt w a2 M) (hI : ItmAt w sa S) (hrow3 : StrsAt w a3 K) (hfit : FitI S) (hna : a = none → cap = 0) (hnb : a2 = none → cap2 = 0) (hpos : 0 < n + m) (hmax : n + m ≤ 1048576) (hm3 : n3 ≤ maxLen) (hsm : sn ≤ maxLen) (hNM : (namesR S).length ≤ maxLen) (A : Sen) (hS : SenAt w A) (D : List ByteArray) (k0 : Int) (hD : widR C M S K = (D, k0)) :
    Calls Tryz.prog 93 #[.slice a n cap, .slice a2 m cap2, .slice sa sn sc, .slice a3 n3 cap3] w (ColOut w A D k0) := by
  have HR : Hid (StrsAt w a C) := hrow
  have HR2 : Hid (StrsAt w a2 M) := hrow2
  have HR3 : Hid (StrsAt w a3 K) := hrow3
  have HI : Hid (ItmAt w sa S) := hI
  have HF : Hid (FitI S) := hfit
  have HS : Hid (SenAt w A) := hS
  have HN : Hid (C.length = n) := hn
  have HN3 : Hid (K.length = n3) := hn3
  have HSN : Hid (S.length = sn) := hsn
  have HNA : Hid (a = none → cap = 0) := hna
  have HNB : Hid (a2 = none → cap2 = 0) := hnb
  have HM3 : Hid (n3 ≤ maxLen) := hm3
  have HSM : Hid (sn ≤ maxLen) := hsm
  have HNM : Hid ((namesR S).length ≤ maxLen) := hNM
  have T2 : Hid (M.any (inB C) = true → k0 = 2) := by
    have : M.any (inB C) = true → k0 = 2 := fun h => by
      have h2 := hD
      unfold widR at h2
      rw [if_pos h] at h2
      exact (congrArg Prod.snd h2).symm
    exact this
  have T3 : Hid (M.any (inB C) = false → (namesR S).all (inB K) = false → k0 = 3) := by
    have : M.any (inB C) = false → (namesR S).all (inB K) = false → k0 = 3 := fun h h' => by
      have h2 := hD
      unfold widR at h2
      rw [if_neg (by rw [h]; decide), if_neg (by rw [h']; decide)] at h2
      exact (congrArg Prod.snd h2).symm
    exact this
  have T4 : Hid (M.any (inB C) = false → (namesR S).all (inB K) = true → (n + m ≤ 6 → D = C ++ M ∧ k0 = 0) ∧ (¬ n + m ≤ 6 → k0 = 4)) := by
    have : M.any (inB C) = false → (namesR S).all (inB K) = true → (n + m ≤ 6 → D = C ++ M ∧ k0 = 0) ∧ (¬ n + m ≤ 6 → k0 = 4) := fun h h' => by
      have h2 := hD
      unfold widR at h2
      rw [if_neg (by rw [h]; decide), if_pos h'] at h2
      unfold manyC at h2
      rw [List.length_append, hn, hm2] at h2
      refine ⟨fun h3 => ?_, fun h3 => ?_⟩
      · rw [if_pos h3] at h2
        exact ⟨(congrArg Prod.fst h2).symm, (congrArg Prod.snd h2).symm⟩
      · rw [if_neg h3] at h2
        exact (congrArg Prod.snd h2).symm
    exact this
  subst hm2
  clear hrow hrow2 hrow3 hI hfit hS hn hn3 hsn hD hna hnb hm3 hsm hNM
  go_enter Tryz.func93, Tryz.ntmps93
  go_wp2
  go_loopw [16] (fun kk wr => ∃ k : Nat, k ≤ M.length ∧ kk = .int .i64 k ∧ Hid ((M.take k).any (inB C) = false) ∧ Below w.heap.size w wr) (fun kk _ => M.length - (intOf kk).toNat)
  case atStart => exact ⟨0, Nat.zero_le _, rfl, rfl, Below.refl _ _⟩
  case round =>
    obtain ⟨k, hk, rfl, hall, hbw⟩ := hrel
    by_cases hlt : k < M.length
    · obtain ⟨g, o, rfl, hgw, c0⟩ := HR2.out.below hbw k hlt
      have hi0 : (0 : Int) ≤ (k : Int) := by omega
      have hi1 : (k : Int) < (M.length : Int) := by omega
      have HT : Hid ((M.take (k + 1)).any (inB C) = inB C M[k]) := by
        have : (M.take (k + 1)).any (inB C) = inB C M[k] := by
          rw [List.take_succ_eq_append_getElem hlt, List.any_append, hall.out, Bool.false_or, List.any_cons, List.any_nil, Bool.or_false]
        exact this
      have hno : Hid (inB C M[k] = true → M.any (inB C) = true) := by
        have : inB C M[k] = true → M.any (inB C) = true := fun e => List.any_eq_true.2 ⟨_, List.getElem_mem hlt, e⟩
        exact this
      obtain ⟨r, hr⟩ : ∃ r, inB C M[k] = r := ⟨_, rfl⟩
      generalize M[k] = x at c0 HT hr hno
      have HRR : Hid (inB C x = r) := hr
      clear hr
      go_wp2_with fail
      refine (free_col_impl n a cap C HN.out x _ (HR.out.below hbw) (by unfold maxLen; omega) A (HS.out.below hbw) r HRR.out).mono ?_
      rintro e wA ⟨rfl, hbA⟩
      cases r
      · go_wp2
        go_roundw
        case rel => exact ⟨k + 1, by omega, by go_num, by rw [HT.out]; exact HRR.out, chain hbw hbA⟩
        case measure => simp [intOf]; omega
      · have e := T2.out (hno.out HRR.out)
        subst e
        have hv := (HS.out.below (chain hbw hbA)).v2
        go_wp2_with fail
        go_quiet (fail)
        go_wp2
        refine bodyPost_ret (v := .tuple #[.slice none 0 0, .iface 304 (.pointer (some A.e2))]) (by simp [results, Tryz.results93, go_sem]) rfl ?_
        exact ⟨_, _, _, _, rfl, errV_2, fun h => absurd h (by decide), belowN (chain hbw hbA) _⟩
    · have hkl : k = M.length := by omega
      subst hkl
      have hnn : ¬ (M.length : Int) < (M.length : Int) := by omega
      have HAny : Hid (M.any (inB C) = false) := by
        have := hall.out
        rw [List.take_length] at this
        exact this
      clear hall T2
      go_wp2_with fail
      refine (namesof_impl sa sc S sn HSN.out _ (HI.out.below hbw) HF.out HSM.out (HS.out.below hbw).pow (HS.out.below hbw).err _ rfl).mono ?_
      rintro e w1 ⟨v, rfl, ⟨hown, hvn⟩, hb1⟩
      obtain ⟨g1, c1, rfl⟩ : ∃ g c, v = .slice (some ⟨g, 0, none⟩) (namesR S).length c := by
        rcases hown.2 with ⟨e', _⟩ | ⟨g, cap, cur, e', _⟩
        · exact absurd e' hvn
        · exact ⟨g, cap, e'⟩
      have HO1 : Hid (StrsAt w1 (some ⟨g1, 0, none⟩) (namesR S)) := own_strs hown
      have hb2 : Below w.heap.size w w1 := chain hbw hb1
      obtain ⟨r, hr⟩ : ∃ r, (namesR S).all (inB K) = r := ⟨_, rfl⟩
      have HRR : Hid ((namesR S).all (inB K) = r) := hr
      clear hown hvn hr hb1 hbw
      go_wp2_with fail
      refine (all_there_impl n3 a3 cap3 K HN3.out _ (some ⟨g1, 0, none⟩) c1 (namesR S) rfl w1 (HR3.out.below hb2) HO1.out HM3.out HNM.out A (HS.out.below hb2) r HRR.out).mono ?_
      rintro e w2 ⟨v, rfl, hv, hb3⟩
      have hb4 : Below w.heap.size w w2 := chain hb2 hb3
      clear hb2 hb3 HO1
      cases r
      · have e := T3.out HAny.out HRR.out
        subst e
        obtain ⟨nm, rfl⟩ := errV_inv3 hv
        clear hv
        go_wp2
        refine bodyPost_ret (v := .tuple #[.slice none 0 0, .iface 133 (.agg #[.string nm, .iface 304 (.pointer (some A.e3))])]) (by simp [results, Tryz.results93, go_sem]) rfl ?_
        exact ⟨_, _, _, _, rfl, errV_3 _, fun h => absurd h (by decide), hb4⟩
      · obtain rfl := errV_inv0 hv
        clear hv
        have hA : Below w2.heap.size w2 (w2.alloc (.cells #[.slice a n cap, .slice a2 M.length cap2] 28)) := (Below.refl _ _).alloc (Nat.le_refl _) _
        have hx := chain hb4 hA
        go_wp2_with fail
        refine (concat_impl w2.heap.size 2 a n cap C a2 M.length cap2 M HN.out rfl (w2.alloc (.cells #[.slice a n cap, .slice a2 M.length cap2] 28)) (by simp) (by simp) (by simp) (HR.out.below hx) (HR2.out.below hx) HNA.out HNB.out hpos hmax).mono ?_
        rintro e w3 ⟨g, c, rfl, hc, hown, hb5⟩
        have hb6 : Below w.heap.size w w3 := chain hx hb5
        have HO : Hid (StrsAt w3 (some ⟨g, 0, none⟩) (C ++ M)) := by
          have hl : (C ++ M).length = n + M.length := by rw [List.length_append, HN.out]
          rw [← hl] at hown
          exact own_strs hown
        have h4 := T4.out HAny.out HRR.out
        clear hown hA hx hb5 hb4
        by_cases h6 : n + M.length ≤ 6
        · obtain ⟨e1, e2⟩ := h4.1 h6
          subst e1 e2
          clear h4
          have hi6 : ¬ ((n : Int) + (M.length : Int) > 6) := by omega
          go_wp2
          refine bodyPost_ret (v := .tuple #[.slice (some ⟨g, 0, none⟩) (n + M.length) c, .nilIface]) (by simp [results, Tryz.results93, go_sem]) rfl ?_
          exact ⟨_, _, _, _, rfl, errV_0, fun _ => ⟨by rw [List.length_append, HN.out], HO.out, (fun h => by cases h), hc⟩, hb6⟩
        · have e1 := h4.2 h6
          subst e1
          clear h4
          have hi6 : ((n : Int) + (M.length : Int) > 6) := by omega
          have hv := (HS.out.below hb6).v4
          go_wp2_with fail
          go_quiet (fail)
          go_wp2
          refine bodyPost_ret (v := .tuple #[.slice none 0 0, .iface 304 (.pointer (some A.e4))]) (by simp [results, Tryz.results93, go_sem]) rfl ?_
          exact ⟨_, _, _, _, rfl, errV_4, fun h => absurd h (by decide), belowN hb6 _⟩
end Go.Proofs.YtjiaciikbnpicaaGreatDoor

/-
  A law's argument that is a slice of cells, opened: which list of cells it is, and where they lie.
-/
namespace Go.Proofs.YtjiaciikbnpicaaGreatDoor
open Go.ChangeShapes Go.WideShapes Go.ChangeAt Go.RowKit Go.Deep

theorem open_cells {H : Type} {enc : TypeId × Value → H} {P : Program} {w : World} {base : Nat} {spare : Nat → Bool} {held : Bool} {t e : TypeId} {f0 f1 f2 : Field} {fuel : Nat} {a : Option Addr} {len cap : Nat} {x : DataW H × List MemPlace}
    (ht : P.underlying t = some (.slice e)) (he : P.underlying e = some (.struct #[f0, f1, f2])) (ce : P.cellsOf e = 3) (o0 : f0.offset = 0) (o1 : f1.offset = 1) (o2 : f2.offset = 2)
    (c0 : P.cellsOf f0.type = 1) (c1 : P.cellsOf f1.type = 1) (c2 : P.cellsOf f2.type = 1) (u0 : P.underlying f0.type = some (.int .i64)) (u1 : P.underlying f1.type = some (.int .i64)) (u2 : P.underlying f2.type = some .string)
    (h : DataW.trod enc P w base spare held fuel t [.slice a len cap] = some x) :
    ∃ l : List CT, l.length = len ∧ RowAt w a l ∧ Fit l ∧ len ≤ maxLen ∧ (a = none → cap = 0) := by
  rcases open_slice ht h with ⟨h0, _⟩ | ⟨ad, len', cap', m, n, D, Pl, hcs, hb, hl, hm, hmm, _, hx⟩
  · simp at h0
    obtain ⟨rfl, rfl, rfl⟩ := h0
    exact ⟨[], rfl, fun j hj => by simp at hj, fun j hj => by simp at hj, by unfold maxLen; omega, fun _ => rfl⟩
  simp at hcs
  obtain ⟨rfl, rfl, rfl⟩ := hcs
  have hlm : len ≤ m := by rw [hmm]; split <;> omega
  have each : ∀ i, i < len → ∃ q : CT, w.cell? (ad.add (i * 3)) = some (.int .i64 q.1) ∧ w.cell? (ad.add (i * 3 + 1)) = some (.int .i64 q.2.1) ∧ w.cell? (ad.add (i * 3 + 2)) = some (.string q.2.2) ∧ q.2.2.size ≤ maxLen := by
    intro i hi
    obtain ⟨cs', h1, h2⟩ := hx i (by omega)
    rw [ce] at h1
    obtain ⟨_, hlen, hcell⟩ := World.cells?_some h1
    obtain ⟨xs, k, hk, hxy, _, hxl, hf⟩ := DataW.trod_struct he h2
    match xs, hxl, cs', hlen with
    | [y0, y1, y2], _, [v0, v1, v2], _ =>
      have g0 := hf 0 f0 rfl
      have g1 := hf 1 f1 rfl
      have g2 := hf 2 f2 rfl
      simp [o0, o1, o2, c0, c1, c2] at g0 g1 g2
      have e0 := hcell 0 (by omega)
      have e1 := hcell 1 (by omega)
      have e2 := hcell 2 (by omega)
      rw [add_add] at e0 e1 e2
      obtain ⟨k0, ek, _, _⟩ := DataW.trod_int u0 g0
      obtain ⟨n0, en, _, _⟩ := DataW.trod_int u1 g1
      obtain ⟨s0, es, _, hs⟩ := DataW.trod_string u2 g2
      simp at ek en es
      subst ek en es
      exact ⟨(k0, n0, s0), by simpa using e0, by simpa using e1, by simpa using e2, hs⟩
  obtain ⟨q, hq⟩ := choose_lt each
  have spot : 0 < len → ad.spot = none := by
    intro h0
    obtain ⟨e0, _⟩ := hq 0 h0
    simpa [Addr.add] using World.cell?_spot e0
  refine ⟨(List.range len).map q, by simp, ?_, ?_, by omega, fun h => by cases h⟩
  · intro j hj
    have hj' : j < len := by simpa using hj
    obtain ⟨b, o, sp⟩ := ad
    have hsp := spot (by omega)
    simp at hsp
    subst hsp
    obtain ⟨e0, e1, e2, _⟩ := hq j hj'
    have hadd : ∀ q, ((⟨b, o, none⟩ : Addr).add q) = ⟨b, o + q, none⟩ := by
      intro q
      unfold Addr.add
      by_cases hq : q = 0 <;> simp [hq]
    rw [hadd] at e0 e1 e2
    refine ⟨b, o, rfl, World.block_lt_of_cell? w _ e0, ?_, ?_, ?_⟩
    · simpa using e0
    · simpa [Nat.add_assoc] using e1
    · simpa [Nat.add_assoc] using e2
  · intro j hj
    have hj' : j < len := by simpa using hj
    simpa using (hq j hj').2.2.2

theorem open_rows {H : Type} {enc : TypeId × Value → H} {P : Program} {w : World} {base : Nat} {spare : Nat → Bool} {held : Bool} {tt t e : TypeId} {f0 f1 f2 : Field} {fuel : Nat} {a : Option Addr} {len cap : Nat} {x : DataW H × List MemPlace}
    (htt : P.underlying tt = some (.slice t)) (ct : P.cellsOf t = 1) (ht : P.underlying t = some (.slice e)) (he : P.underlying e = some (.struct #[f0, f1, f2])) (ce : P.cellsOf e = 3) (o0 : f0.offset = 0) (o1 : f1.offset = 1) (o2 : f2.offset = 2)
    (c0 : P.cellsOf f0.type = 1) (c1 : P.cellsOf f1.type = 1) (c2 : P.cellsOf f2.type = 1) (u0 : P.underlying f0.type = some (.int .i64)) (u1 : P.underlying f1.type = some (.int .i64)) (u2 : P.underlying f2.type = some .string)
    (h : DataW.trod enc P w base spare held fuel tt [.slice a len cap] = some x) :
    ∃ L : List (List CT), L.length = len ∧ RowsAt w a L ∧ len ≤ maxLen ∧ (a = none → cap = 0) := by
  rcases open_slice htt h with ⟨h0, _⟩ | ⟨ad, len', cap', m, n, D, Pl, hcs, hb, hl, hm, hmm, _, hx⟩
  · simp at h0
    obtain ⟨rfl, rfl, rfl⟩ := h0
    exact ⟨[], rfl, fun j hj => by simp at hj, by unfold maxLen; omega, fun _ => rfl⟩
  simp at hcs
  obtain ⟨rfl, rfl, rfl⟩ := hcs
  have hlm : len ≤ m := by rw [hmm]; split <;> omega
  have each : ∀ i, i < len → ∃ l : List CT, ∃ ai ci, w.cell? (ad.add i) = some (.slice ai l.length ci) ∧ RowAt w ai l ∧ Fit l ∧ l.length ≤ maxLen ∧ (ai = none → ci = 0) := by
    intro i hi
    obtain ⟨cs', h1, h2⟩ := hx i (by omega)
    rw [ct, Nat.mul_one] at h1
    obtain ⟨_, hlen, hcell⟩ := World.cells?_some h1
    match cs', hlen with
    | [v], _ =>
      have e0 := hcell 0 (by omega)
      rw [add_add] at e0
      have e1 : w.cell? (ad.add i) = some v := by simpa using e0
      obtain ⟨ai, li, ci, rfl⟩ : ∃ ai li ci, v = .slice ai li ci := by
        rcases open_slice ht h2 with ⟨hv, _⟩ | ⟨a', l', c', _, _, _, _, hv, _⟩
        · simp at hv; exact ⟨_, _, _, hv⟩
        · simp at hv; exact ⟨_, _, _, hv⟩
      obtain ⟨l, hll, hr, hf, hml, hn⟩ := open_cells ht he ce o0 o1 o2 c0 c1 c2 u0 u1 u2 h2
      subst hll
      exact ⟨l, ai, ci, e1, hr, hf, hml, hn⟩
  obtain ⟨q, hq⟩ := choose_lt each
  have spot : 0 < len → ad.spot = none := by
    intro h0
    obtain ⟨ai, ci, e0, _⟩ := hq 0 h0
    simpa [Addr.add] using World.cell?_spot e0
  refine ⟨(List.range len).map q, by simp, ?_, by omega, fun h => by cases h⟩
  intro j hj
  have hj' : j < len := by simpa using hj
  obtain ⟨b, o, sp⟩ := ad
  have hsp := spot (by omega)
  simp at hsp
  subst hsp
  obtain ⟨ai, ci, e0, hr, hf, hml, hn⟩ := hq j hj'
  have hadd : ((⟨b, o, none⟩ : Addr).add j) = ⟨b, o + j, none⟩ := by
    unfold Addr.add
    by_cases hq : j = 0 <;> simp [hq]
  rw [hadd] at e0
  have hg : ((List.range len).map q)[j] = q j := by simp
  rw [hg]
  exact ⟨b, o, ai, ci, rfl, World.block_lt_of_cell? w _ e0, e0, hr, hf, hml, hn⟩

end Go.Proofs.YtjiaciikbnpicaaGreatDoor
