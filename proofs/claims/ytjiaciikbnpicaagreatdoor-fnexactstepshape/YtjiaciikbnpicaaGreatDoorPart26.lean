/-
  A part of the proof: SvMath, SvMath2, SvMath3, SvMath4, SvForm, Walk5, Walk6, Walk7, Walk8, Three1, RkMath, ShpMath.
-/
import Derived.Test.YtjiaciikbnpicaaGreatDoorPart20
import Derived.Test.YtjiaciikbnpicaaGreatDoorPart24
import Derived.Test.YtjiaciikbnpicaaGreatDoorPart4
import Derived.Test.YtjiaciikbnpicaaGreatDoorPart2
import Derived.Deep.QuietTactic
import Derived.BigQuiet
import Derived.Deep.RegionHeld3
import Derived.Deep.DeepCutAuto
import Derived.Deep.DrawnRows
import Derived.Test.YtjiaciikbnpicaaGreatDoorPart22
import Derived.Test.YtjiaciikbnpicaaGreatDoorPart13
import Derived.Test.YtjiaciikbnpicaaGreatDoorPart10

/-
  Sieves without any program: right sieves, questions, their texts, what a text is read as, and that a question is read from its text.
-/
namespace Go.Proofs.YtjiaciikbnpicaaGreatDoor

/-- A sieve. -/
structure SV where
  kind : Int
  name : ByteArray
  names : List ByteArray
  sum : List TI
  down : Bool
  count : Int
  skip : Int
def nameS (k : Int) : Bool := k == 1 || k == 3 || k == 5 || k == 6 || k == 8
def sumS (k : Int) : Bool := k == 2 || k == 3 || k == 5 || k == 6
def listS (k : Int) : Bool := k == 4 || k == 7
/-- Nothing but what its kind tells. -/
def bareB (s : SV) : Bool :=
  ((nameS s.kind || decide (s.name = ⟨#[]⟩)) && ((sumS s.kind || s.sum.isEmpty) && (listS s.kind || s.names.isEmpty)))
  && (((!s.down || s.kind == 8) && (s.kind == 9 || (s.count == 0 && s.skip == 0)))
  && ((!nameS s.kind || nameK s.name) && (!sumS s.kind || sumB s.sum)))
def names10 (l : List ByteArray) (lo hi : Int) : Bool := l.all nameK && namesB l lo hi
def in1000 (n : Int) : Bool := decide (0 ≤ n) && decide (n ≤ 1000)
/-- Is the sieve right? -/
def sieveB (s : SV) : Bool :=
  if s.kind = 4 then bareB s && names10 s.names 1 6 else if s.kind = 7 then bareB s && names10 s.names 0 4
  else if s.kind = 9 then bareB s && (in1000 s.count && in1000 s.skip) else (decide (1 ≤ s.kind) && decide (s.kind ≤ 10)) && bareB s
/-- Is it a question? -/
def firstB : List SV → Bool
  | [] => false
  | x :: l => x.kind == 1 && l.all (fun y => y.kind != 1)
def askB (l : List SV) : Bool := (l.all sieveB && firstB l) && decide (l.length ≤ 8)
end Go.Proofs.YtjiaciikbnpicaaGreatDoor

/-
  Sieves without any program: what the text of a sieve is read as, and that a right sieve is read from its text.
-/
namespace Go.Proofs.YtjiaciikbnpicaaGreatDoor

end Go.Proofs.YtjiaciikbnpicaaGreatDoor

/-
  Sieves without any program: a right sieve is read from its text.
-/
namespace Go.Proofs.YtjiaciikbnpicaaGreatDoor

theorem sieve_kind {s : SV} (h : sieveB s = true) : s.kind = 1 ∨ s.kind = 2 ∨ s.kind = 3 ∨ s.kind = 4 ∨ s.kind = 5 ∨ s.kind = 6 ∨ s.kind = 7 ∨ s.kind = 8 ∨ s.kind = 9 ∨ s.kind = 10 := by
  unfold sieveB at h
  split at h
  · omega
  · split at h
    · omega
    · split at h
      · omega
      · simp only [Bool.and_eq_true, decide_eq_true_eq] at h
        omega
end Go.Proofs.YtjiaciikbnpicaaGreatDoor

/-
  Questions without any program: what a text is read as, and that a question is read from its text.
-/
namespace Go.Proofs.YtjiaciikbnpicaaGreatDoor

end Go.Proofs.YtjiaciikbnpicaaGreatDoor

/-
  The program's forms of a sieve without any program: what a kind tells, that a sieve is right by its form just where it is right, and that its text is its pieces.
-/
namespace Go.Proofs.YtjiaciikbnpicaaGreatDoor

/-- What a kind tells. -/
structure FS where
  word : ByteArray
  hasName : Bool
  few : Int
  most : Int
  ahead : ByteArray
  hasSum : Bool
  fall : Bool
  cnt : Int
def formF (k : Int) : FS :=
  if k = 1 then ⟨⟨#[102, 114, 111, 109]⟩, true, 0, 0, ⟨#[]⟩, false, false, 0⟩
  else if k = 2 then ⟨⟨#[119, 104, 101, 114, 101]⟩, false, 0, 0, ⟨#[]⟩, true, false, 0⟩
  else if k = 3 then ⟨⟨#[108, 101, 116]⟩, true, 0, 0, ⟨#[61]⟩, true, false, 0⟩
  else if k = 4 then ⟨⟨#[107, 101, 101, 112]⟩, false, 1, 6, ⟨#[]⟩, false, false, 0⟩
  else if k = 5 then ⟨⟨#[106, 111, 105, 110]⟩, true, 0, 0, ⟨#[111, 110]⟩, true, false, 0⟩
  else if k = 6 then ⟨⟨#[108, 101, 102, 116]⟩, true, 0, 0, ⟨#[111, 110]⟩, true, false, 0⟩
  else if k = 7 then ⟨⟨#[103, 114, 111, 117, 112]⟩, false, 0, 4, ⟨#[]⟩, false, false, 0⟩
  else if k = 8 then ⟨⟨#[111, 114, 100, 101, 114]⟩, true, 0, 0, ⟨#[]⟩, false, true, 0⟩
  else if k = 9 then ⟨⟨#[108, 105, 109, 105, 116]⟩, false, 0, 0, ⟨#[]⟩, false, false, 1000⟩
  else if k = 10 then ⟨⟨#[111, 110, 99, 101]⟩, false, 0, 0, ⟨#[]⟩, false, false, 0⟩ else ⟨⟨#[]⟩, false, 0, 0, ⟨#[]⟩, false, false, 0⟩
def nameF (f : FS) (s : SV) : Bool := if f.hasName = true then nameK s.name else decide (s.name = ⟨#[]⟩)
def namesF (f : FS) (s : SV) : Bool := !(decide ((s.names.length : Int) < f.few) || decide (f.most < (s.names.length : Int))) && (s.names.all nameK && decide s.names.Nodup)
def sumF (f : FS) (s : SV) : Bool := if f.hasSum = true then sumB s.sum else decide (s.sum.length = 0)
def canF (f : FS) (n : Int) : Bool := decide (0 ≤ n) && decide (n ≤ f.cnt)
def rightF (f : FS) (s : SV) : Bool :=
  !decide (f.word = ⟨#[]⟩) && (nameF f s && (namesF f s && (sumF f s && ((f.fall || !s.down) && (canF f s.count && canF f s.skip)))))

theorem nameK_nameB {s : ByteArray} (h : nameK s = true) : nameB s = true := by
  unfold nameK at h
  rw [Bool.and_eq_true] at h
  exact h.1
theorem form_k (k : Int) (h : k < 1 ∨ 10 < k) : formF k = ⟨⟨#[]⟩, false, 0, 0, ⟨#[]⟩, false, false, 0⟩ := by
  unfold formF
  rw [if_neg (show ¬ k = 1 by omega), if_neg (show ¬ k = 2 by omega), if_neg (show ¬ k = 3 by omega), if_neg (show ¬ k = 4 by omega), if_neg (show ¬ k = 5 by omega), if_neg (show ¬ k = 6 by omega), if_neg (show ¬ k = 7 by omega), if_neg (show ¬ k = 8 by omega), if_neg (show ¬ k = 9 by omega), if_neg (show ¬ k = 10 by omega)]
theorem kind_cases {k : Int} (h : ¬ (k < 1 ∨ 10 < k)) : k = 1 ∨ k = 2 ∨ k = 3 ∨ k = 4 ∨ k = 5 ∨ k = 6 ∨ k = 7 ∨ k = 8 ∨ k = 9 ∨ k = 10 := by omega
set_option maxHeartbeats 2000000 in
/-- The program's forms say what a right sieve is. -/
theorem right_form (s : SV) : rightF (formF s.kind) s = sieveB s := by
  obtain ⟨k, nm, N, S, dn, ct, sk⟩ := s
  have hE : S.isEmpty = decide (S.length = 0) := by cases S <;> simp
  have hE2 : N.isEmpty = decide (N.length = 0) := by cases N <;> simp
  have z : ∀ n : Int, (decide (0 ≤ n) && decide (n ≤ 0)) = (n == 0) := by
    intro n
    rw [Bool.eq_iff_iff]
    simp
    omega
  have h0 : N.length = 0 → (N.all nameK && decide N.Nodup) = true := by intro h; have := List.length_eq_zero_iff.1 h; subst this; rfl
  have nz : (!(decide ((N.length : Int) < 0) || decide (0 < (N.length : Int))) && (N.all nameK && decide N.Nodup)) = N.isEmpty := by
    rw [hE2]
    by_cases h : N.length = 0
    · rw [h0 h, h]; rfl
    · rw [decide_eq_true (show (0 : Int) < (N.length : Int) by omega), decide_eq_false h, Bool.or_true]; rfl
  have nl : ∀ lo hi : Int, (!(decide ((N.length : Int) < lo) || decide (hi < (N.length : Int))) && (N.all nameK && decide N.Nodup)) = names10 N lo hi := by
    intro lo hi
    rw [Bool.eq_iff_iff]
    unfold names10 namesB namesD
    simp only [Bool.and_eq_true, Bool.not_eq_true', Bool.or_eq_false_iff, decide_eq_false_iff_not, decide_eq_true_eq, List.all_eq_true]
    constructor
    · rintro ⟨⟨a, b⟩, c, d⟩
      exact ⟨c, ⟨fun x hx => nameK_nameB (c x hx), d⟩, by omega, by omega⟩
    · rintro ⟨c, ⟨_, d⟩, a, b⟩
      exact ⟨⟨by omega, by omega⟩, c, d⟩
  by_cases hk : k < 1 ∨ 10 < k
  · dsimp only
    rw [form_k k hk]
    unfold rightF sieveB
    dsimp only
    rw [if_neg (by omega), if_neg (by omega), if_neg (by omega)]
    rw [show (decide (1 ≤ k) && decide (k ≤ 10)) = false by rw [Bool.eq_false_iff]; simp; omega]
    simp
  rcases kind_cases hk with rfl | rfl | rfl | rfl | rfl | rfl | rfl | rfl | rfl | rfl
  · show (!decide ((⟨#[102, 114, 111, 109]⟩ : ByteArray) = ⟨#[]⟩) && (nameK nm && ((!(decide ((N.length : Int) < 0) || decide (0 < (N.length : Int))) && (N.all nameK && decide N.Nodup)) && (decide (S.length = 0) && ((false || !dn) && ((decide (0 ≤ ct) && decide (ct ≤ 0)) && (decide (0 ≤ sk) && decide (sk ≤ 0)))))))) = sieveB _
    rw [show decide ((⟨#[102, 114, 111, 109]⟩ : ByteArray) = ⟨#[]⟩) = false from rfl, nz, ← hE, z, z]
    show _ = (true && bareB _)
    unfold bareB
    dsimp only
    generalize nameK nm = a
    generalize N.isEmpty = f
    generalize S.isEmpty = e
    generalize (ct == 0) = g
    generalize (sk == 0) = h
    cases a <;> cases f <;> cases e <;> cases g <;> cases h <;> cases dn <;> rfl
  · show (!decide ((⟨#[119, 104, 101, 114, 101]⟩ : ByteArray) = ⟨#[]⟩) && (decide (nm = ⟨#[]⟩) && ((!(decide ((N.length : Int) < 0) || decide (0 < (N.length : Int))) && (N.all nameK && decide N.Nodup)) && (sumB S && ((false || !dn) && ((decide (0 ≤ ct) && decide (ct ≤ 0)) && (decide (0 ≤ sk) && decide (sk ≤ 0)))))))) = sieveB _
    rw [show decide ((⟨#[119, 104, 101, 114, 101]⟩ : ByteArray) = ⟨#[]⟩) = false from rfl, nz, z, z]
    show _ = (true && bareB _)
    unfold bareB
    dsimp only
    generalize decide (nm = ⟨#[]⟩) = c
    generalize N.isEmpty = f
    generalize sumB S = d
    generalize (ct == 0) = g
    generalize (sk == 0) = h
    cases c <;> cases f <;> cases d <;> cases g <;> cases h <;> cases dn <;> rfl
  · show (!decide ((⟨#[108, 101, 116]⟩ : ByteArray) = ⟨#[]⟩) && (nameK nm && ((!(decide ((N.length : Int) < 0) || decide (0 < (N.length : Int))) && (N.all nameK && decide N.Nodup)) && (sumB S && ((false || !dn) && ((decide (0 ≤ ct) && decide (ct ≤ 0)) && (decide (0 ≤ sk) && decide (sk ≤ 0)))))))) = sieveB _
    rw [show decide ((⟨#[108, 101, 116]⟩ : ByteArray) = ⟨#[]⟩) = false from rfl, nz, z, z]
    show _ = (true && bareB _)
    unfold bareB
    dsimp only
    generalize nameK nm = a
    generalize N.isEmpty = f
    generalize sumB S = d
    generalize (ct == 0) = g
    generalize (sk == 0) = h
    cases a <;> cases f <;> cases d <;> cases g <;> cases h <;> cases dn <;> rfl
  · show (!decide ((⟨#[107, 101, 101, 112]⟩ : ByteArray) = ⟨#[]⟩) && (decide (nm = ⟨#[]⟩) && ((!(decide ((N.length : Int) < 1) || decide (6 < (N.length : Int))) && (N.all nameK && decide N.Nodup)) && (decide (S.length = 0) && ((false || !dn) && ((decide (0 ≤ ct) && decide (ct ≤ 0)) && (decide (0 ≤ sk) && decide (sk ≤ 0)))))))) = sieveB _
    rw [show decide ((⟨#[107, 101, 101, 112]⟩ : ByteArray) = ⟨#[]⟩) = false from rfl, nl, ← hE, z, z]
    show _ = (bareB _ && names10 N 1 6)
    unfold bareB
    dsimp only
    generalize decide (nm = ⟨#[]⟩) = c
    generalize names10 N 1 6 = i
    generalize S.isEmpty = e
    generalize (ct == 0) = g
    generalize (sk == 0) = h
    cases c <;> cases i <;> cases e <;> cases g <;> cases h <;> cases dn <;> rfl
  · show (!decide ((⟨#[106, 111, 105, 110]⟩ : ByteArray) = ⟨#[]⟩) && (nameK nm && ((!(decide ((N.length : Int) < 0) || decide (0 < (N.length : Int))) && (N.all nameK && decide N.Nodup)) && (sumB S && ((false || !dn) && ((decide (0 ≤ ct) && decide (ct ≤ 0)) && (decide (0 ≤ sk) && decide (sk ≤ 0)))))))) = sieveB _
    rw [show decide ((⟨#[106, 111, 105, 110]⟩ : ByteArray) = ⟨#[]⟩) = false from rfl, nz, z, z]
    show _ = (true && bareB _)
    unfold bareB
    dsimp only
    generalize nameK nm = a
    generalize N.isEmpty = f
    generalize sumB S = d
    generalize (ct == 0) = g
    generalize (sk == 0) = h
    cases a <;> cases f <;> cases d <;> cases g <;> cases h <;> cases dn <;> rfl
  · show (!decide ((⟨#[108, 101, 102, 116]⟩ : ByteArray) = ⟨#[]⟩) && (nameK nm && ((!(decide ((N.length : Int) < 0) || decide (0 < (N.length : Int))) && (N.all nameK && decide N.Nodup)) && (sumB S && ((false || !dn) && ((decide (0 ≤ ct) && decide (ct ≤ 0)) && (decide (0 ≤ sk) && decide (sk ≤ 0)))))))) = sieveB _
    rw [show decide ((⟨#[108, 101, 102, 116]⟩ : ByteArray) = ⟨#[]⟩) = false from rfl, nz, z, z]
    show _ = (true && bareB _)
    unfold bareB
    dsimp only
    generalize nameK nm = a
    generalize N.isEmpty = f
    generalize sumB S = d
    generalize (ct == 0) = g
    generalize (sk == 0) = h
    cases a <;> cases f <;> cases d <;> cases g <;> cases h <;> cases dn <;> rfl
  · show (!decide ((⟨#[103, 114, 111, 117, 112]⟩ : ByteArray) = ⟨#[]⟩) && (decide (nm = ⟨#[]⟩) && ((!(decide ((N.length : Int) < 0) || decide (4 < (N.length : Int))) && (N.all nameK && decide N.Nodup)) && (decide (S.length = 0) && ((false || !dn) && ((decide (0 ≤ ct) && decide (ct ≤ 0)) && (decide (0 ≤ sk) && decide (sk ≤ 0)))))))) = sieveB _
    rw [show decide ((⟨#[103, 114, 111, 117, 112]⟩ : ByteArray) = ⟨#[]⟩) = false from rfl, nl, ← hE, z, z]
    show _ = (bareB _ && names10 N 0 4)
    unfold bareB
    dsimp only
    generalize decide (nm = ⟨#[]⟩) = c
    generalize names10 N 0 4 = i
    generalize S.isEmpty = e
    generalize (ct == 0) = g
    generalize (sk == 0) = h
    cases c <;> cases i <;> cases e <;> cases g <;> cases h <;> cases dn <;> rfl
  · show (!decide ((⟨#[111, 114, 100, 101, 114]⟩ : ByteArray) = ⟨#[]⟩) && (nameK nm && ((!(decide ((N.length : Int) < 0) || decide (0 < (N.length : Int))) && (N.all nameK && decide N.Nodup)) && (decide (S.length = 0) && ((true || !dn) && ((decide (0 ≤ ct) && decide (ct ≤ 0)) && (decide (0 ≤ sk) && decide (sk ≤ 0)))))))) = sieveB _
    rw [show decide ((⟨#[111, 114, 100, 101, 114]⟩ : ByteArray) = ⟨#[]⟩) = false from rfl, nz, ← hE, z, z]
    show _ = (true && bareB _)
    unfold bareB
    dsimp only
    generalize nameK nm = a
    generalize N.isEmpty = f
    generalize S.isEmpty = e
    generalize (ct == 0) = g
    generalize (sk == 0) = h
    cases a <;> cases f <;> cases e <;> cases g <;> cases h <;> cases dn <;> rfl
  · show (!decide ((⟨#[108, 105, 109, 105, 116]⟩ : ByteArray) = ⟨#[]⟩) && (decide (nm = ⟨#[]⟩) && ((!(decide ((N.length : Int) < 0) || decide (0 < (N.length : Int))) && (N.all nameK && decide N.Nodup)) && (decide (S.length = 0) && ((false || !dn) && ((decide (0 ≤ ct) && decide (ct ≤ 1000)) && (decide (0 ≤ sk) && decide (sk ≤ 1000)))))))) = sieveB _
    rw [show decide ((⟨#[108, 105, 109, 105, 116]⟩ : ByteArray) = ⟨#[]⟩) = false from rfl, nz, ← hE]
    show _ = (bareB _ && ((decide (0 ≤ ct) && decide (ct ≤ 1000)) && (decide (0 ≤ sk) && decide (sk ≤ 1000))))
    unfold bareB
    dsimp only
    generalize decide (nm = ⟨#[]⟩) = c
    generalize N.isEmpty = f
    generalize S.isEmpty = e
    generalize (decide (0 ≤ ct) && decide (ct ≤ 1000)) = g
    generalize (decide (0 ≤ sk) && decide (sk ≤ 1000)) = h
    cases c <;> cases f <;> cases e <;> cases g <;> cases h <;> cases dn <;> rfl
  · show (!decide ((⟨#[111, 110, 99, 101]⟩ : ByteArray) = ⟨#[]⟩) && (decide (nm = ⟨#[]⟩) && ((!(decide ((N.length : Int) < 0) || decide (0 < (N.length : Int))) && (N.all nameK && decide N.Nodup)) && (decide (S.length = 0) && ((false || !dn) && ((decide (0 ≤ ct) && decide (ct ≤ 0)) && (decide (0 ≤ sk) && decide (sk ≤ 0)))))))) = sieveB _
    rw [show decide ((⟨#[111, 110, 99, 101]⟩ : ByteArray) = ⟨#[]⟩) = false from rfl, nz, ← hE, z, z]
    show _ = (true && bareB _)
    unfold bareB
    dsimp only
    generalize decide (nm = ⟨#[]⟩) = c
    generalize N.isEmpty = f
    generalize S.isEmpty = e
    generalize (ct == 0) = g
    generalize (sk == 0) = h
    cases c <;> cases f <;> cases e <;> cases g <;> cases h <;> cases dn <;> rfl
end Go.Proofs.YtjiaciikbnpicaaGreatDoor

/-
  The contracts of what is reckoned with: operands, the four small functions on numbers, the model's own helpers, two cells held against each other.
-/
namespace Go.Proofs.YtjiaciikbnpicaaGreatDoor
open Go.ChangeShapes Go.WideShapes Go.ChangeAt Go.RowKit

end Go.Proofs.YtjiaciikbnpicaaGreatDoor

/-
  The contract of the model's helper that asks whether two cells can be reckoned with.
-/
namespace Go.Proofs.YtjiaciikbnpicaaGreatDoor
open Go.ChangeShapes Go.WideShapes Go.ChangeAt Go.RowKit

end Go.Proofs.YtjiaciikbnpicaaGreatDoor

/-
  The contract of the program's own way to reckon with two cells.
-/
namespace Go.Proofs.YtjiaciikbnpicaaGreatDoor
open Go.ChangeShapes Go.WideShapes Go.ChangeAt Go.RowKit
attribute [local go_sem ↓] Go.wp_at_zero Go.wp_at_succ

attribute [local simp] World.cell?_alloc_past World.cell?_alloc_at World.frozen?_alloc_at cell_far cell_off cell_here World.frozen?_alloc_past

end Go.Proofs.YtjiaciikbnpicaaGreatDoor

/-
  The contracts of Plus, Less, Times and By: the program's and the model's come to the same.
-/
namespace Go.Proofs.YtjiaciikbnpicaaGreatDoor
open Go.ChangeShapes Go.WideShapes Go.ChangeAt Go.RowKit

end Go.Proofs.YtjiaciikbnpicaaGreatDoor

/-
  The contracts of the program's own small functions on truths: what an answer's rank is, what the lesser, the greater and the turned one of ranks is, and the cell of a rank.
-/
namespace Go.Proofs.YtjiaciikbnpicaaGreatDoor
open Go.ChangeShapes Go.WideShapes Go.ChangeAt Go.RowKit

end Go.Proofs.YtjiaciikbnpicaaGreatDoor

/-
  Reckoning without any program: what a sum comes to of columns and a row, item by item.
-/
namespace Go.Proofs.YtjiaciikbnpicaaGreatDoor

/-- The cell of a column. -/
def colR : List ByteArray → List CK → ByteArray → CK
  | c :: C, r :: R, s => if c = s then r else colR C R s
  | _, _, _ => zeroC
/-- Are all names columns? -/
def hasC (C : List ByteArray) (l : List TI) : Bool := l.all fun x => !(decide (x.1 = 2)) || C.any (fun c => decide (c = x.2.2))
end Go.Proofs.YtjiaciikbnpicaaGreatDoor

/-
  Shapes without any program: the columns behind a sieve and behind a question, the codes, and what holds of them.
-/
namespace Go.Proofs.YtjiaciikbnpicaaGreatDoor

def manyC (l : List ByteArray) : List ByteArray × Int := if l.length ≤ 6 then (l, 0) else ([], 4)
def countT : ByteArray := ⟨#[99, 111, 117, 110, 116]⟩
/-- The first table of that name. -/
def findT (T : List TB) (s : ByteArray) : Option TB := T.find? (fun t => decide (t.1 = s))
def colsOf (T : List TB) (s : ByteArray) : List ByteArray := ((findT T s).map (·.2.1)).getD []
/-- The columns behind one sieve (not the first), and the code. -/
def stepC (T : List TB) (C : List ByteArray) (s : SV) : List ByteArray × Int :=
  if s.kind = 2 then (if hasC C s.sum = true then manyC C else ([], 3))
  else if s.kind = 3 then (if inB C s.name = true then ([], 2) else if hasC C s.sum = true then manyC (C ++ [s.name]) else ([], 3))
  else if s.kind = 5 ∨ s.kind = 6 then
    (if inB (namesT T) s.name = false then ([], 1) else if (colsOf T s.name).any (inB C) = true then ([], 2) else if hasC (C ++ colsOf T s.name) s.sum = true then manyC (C ++ colsOf T s.name) else ([], 3))
  else if s.kind = 4 then (if s.names.all (inB C) = true then manyC s.names else ([], 3))
  else if s.kind = 7 then (if s.names.all (inB C) = true then (if inB s.names countT = true then ([], 2) else manyC (s.names ++ [countT])) else ([], 3))
  else if s.kind = 8 then (if inB C s.name = true then manyC C else ([], 3))
  else manyC C
theorem stepC_2 (T : List TB) (C : List ByteArray) (nm : ByteArray) (N : List ByteArray) (S : List TI) (dn : Bool) (ct sk : Int) : stepC T C ⟨2, nm, N, S, dn, ct, sk⟩ = if hasC C S = true then manyC C else ([], 3) := by simp [stepC]
theorem stepC_3 (T : List TB) (C : List ByteArray) (nm : ByteArray) (N : List ByteArray) (S : List TI) (dn : Bool) (ct sk : Int) : stepC T C ⟨3, nm, N, S, dn, ct, sk⟩ = if inB C nm = true then ([], 2) else if hasC C S = true then manyC (C ++ [nm]) else ([], 3) := by simp [stepC]
theorem stepC_4 (T : List TB) (C : List ByteArray) (nm : ByteArray) (N : List ByteArray) (S : List TI) (dn : Bool) (ct sk : Int) : stepC T C ⟨4, nm, N, S, dn, ct, sk⟩ = if N.all (inB C) = true then manyC N else ([], 3) := by simp [stepC]
theorem stepC_join (k : Int) (hk : k = 5 ∨ k = 6) (T : List TB) (C : List ByteArray) (nm : ByteArray) (N : List ByteArray) (S : List TI) (dn : Bool) (ct sk : Int) : stepC T C ⟨k, nm, N, S, dn, ct, sk⟩ = if inB (namesT T) nm = false then ([], 1) else if (colsOf T nm).any (inB C) = true then ([], 2) else if hasC (C ++ colsOf T nm) S = true then manyC (C ++ colsOf T nm) else ([], 3) := by rcases hk with rfl | rfl <;> simp [stepC]
theorem stepC_7 (T : List TB) (C : List ByteArray) (nm : ByteArray) (N : List ByteArray) (S : List TI) (dn : Bool) (ct sk : Int) : stepC T C ⟨7, nm, N, S, dn, ct, sk⟩ = if N.all (inB C) = true then (if inB N countT = true then ([], 2) else manyC (N ++ [countT])) else ([], 3) := by simp [stepC]
theorem stepC_8 (T : List TB) (C : List ByteArray) (nm : ByteArray) (N : List ByteArray) (S : List TI) (dn : Bool) (ct sk : Int) : stepC T C ⟨8, nm, N, S, dn, ct, sk⟩ = if inB C nm = true then manyC C else ([], 3) := by simp [stepC]
theorem stepC_9 (T : List TB) (C : List ByteArray) (nm : ByteArray) (N : List ByteArray) (S : List TI) (dn : Bool) (ct sk : Int) : stepC T C ⟨9, nm, N, S, dn, ct, sk⟩ = manyC C := by simp [stepC]
theorem stepC_10 (T : List TB) (C : List ByteArray) (nm : ByteArray) (N : List ByteArray) (S : List TI) (dn : Bool) (ct sk : Int) : stepC T C ⟨10, nm, N, S, dn, ct, sk⟩ = manyC C := by simp [stepC]
/-- Sieve by sieve. -/
def shapeF (T : List TB) : List ByteArray → List SV → List ByteArray × Int
  | C, [] => (C, 0)
  | C, s :: l => if (stepC T C s).2 = 0 then shapeF T (stepC T C s).1 l else ([], (stepC T C s).2)
/-- What StepShape answers. -/
def stepShapeR (T : List TB) (C : List ByteArray) (s : SV) : List ByteArray × Int :=
  if ((baseB T && namesB C 1 6) && sieveB s) = true ∧ s.kind ≠ 1 then stepC T C s else ([], 5)
/-- What ShapeOf answers. -/
def shapeR (T : List TB) (l : List SV) : List ByteArray × Int :=
  if (baseB T && askB l) = true then (if inB (namesT T) ((l.head?.map (·.name)).getD ⟨#[]⟩) = false then ([], 1) else shapeF T (colsOf T ((l.head?.map (·.name)).getD ⟨#[]⟩)) l.tail) else ([], 5)

theorem manyC_ok {l D : List ByteArray} (h : manyC l = (D, 0)) : D = l ∧ l.length ≤ 6 := by
  unfold manyC at h
  split at h
  · rename_i h6
    injection h with e1 _
    exact ⟨e1.symm, h6⟩
  · injection h with _ e
    exact absurd e (by decide)
theorem manyC_code (l : List ByteArray) : (manyC l).2 = 0 ∨ manyC l = ([], 4) := by
  unfold manyC
  split
  · exact .inl rfl
  · exact .inr rfl
/-- Where the code is not 0 there is nothing. -/
theorem stepC_none (T : List TB) (C : List ByteArray) (s : SV) (h : (stepC T C s).2 ≠ 0) : (stepC T C s).1 = [] := by
  have key : ∀ l, (manyC l).2 ≠ 0 → (manyC l).1 = [] := by
    intro l hl
    rcases manyC_code l with e | e
    · exact absurd e hl
    · rw [e]
  unfold stepC at h ⊢
  repeat' split
  all_goals first | rfl | (simp_all; done) | (refine key _ ?_; simp_all)
theorem shapeF_none (T : List TB) (l : List SV) : ∀ (C : List ByteArray), (shapeF T C l).2 ≠ 0 → (shapeF T C l).1 = [] := by
  induction l with
  | nil => intro C h; exact absurd rfl h
  | cons s l ih =>
    intro C h
    unfold shapeF at h ⊢
    split
    · rename_i h0
      rw [if_pos h0] at h
      exact ih _ h
    · rfl
theorem findT_some {T : List TB} {s : ByteArray} {t : TB} (h : findT T s = some t) : t ∈ T ∧ t.1 = s := by
  unfold findT at h
  exact ⟨List.mem_of_find?_eq_some h, by simpa using List.find?_some h⟩
theorem findT_iff {T : List TB} {s : ByteArray} : (findT T s).isSome = true ↔ s ∈ namesT T := by
  unfold findT namesT
  rw [List.find?_isSome, List.mem_map]
  simp only [decide_eq_true_eq]
theorem findT_at {T : List TB} {s : ByteArray} {k : Nat} (hk : k < T.length) (he : T[k].1 = s) (hf : ∀ j (hj : j < T.length), j < k → T[j].1 ≠ s) : findT T s = some T[k] := by
  unfold findT
  rw [List.find?_eq_some_iff_getElem]
  exact ⟨by simpa using he, k, hk, rfl, fun j hj => by simpa using hf j (by omega) hj⟩
theorem cols_at {T : List TB} {s : ByteArray} {r : Int} (h : AtIs (namesT T) s r) : (r = -1 ∧ s ∉ namesT T) ∨ ∃ k, ∃ hk : k < T.length, r = (k : Int) ∧ findT T s = some T[k] ∧ colsOf T s = T[k].2.1 ∧ s ∈ namesT T := by
  rcases h with ⟨rfl, h⟩ | ⟨k, hk, rfl, he, hf⟩
  · exact .inl ⟨rfl, h⟩
  · have hk2 := hk
    rw [namesT_length] at hk2
    rw [namesT_at T k hk2] at he
    have h2 := findT_at hk2 he (fun j hj hjk => by
      have := hf j (by rw [namesT_length]; exact hj) hjk
      rw [namesT_at T j hj] at this
      exact this)
    refine .inr ⟨k, hk2, rfl, h2, by unfold colsOf; rw [h2]; rfl, ?_⟩
    rw [← findT_iff, h2]; rfl
theorem base_table {T : List TB} {t : TB} (hb : baseB T = true) (ht : t ∈ T) : tableB t = true := by
  unfold baseB at hb
  simp only [Bool.and_eq_true, List.all_eq_true] at hb
  exact hb.1.1 t ht
theorem table_names {t : TB} (h : tableB t = true) : namesB t.2.1 1 6 = true := by
  unfold tableB at h
  simp only [Bool.and_eq_true] at h
  exact h.1.2.1
theorem cols_names {T : List TB} {s : ByteArray} (hb : baseB T = true) (hs : s ∈ namesT T) : namesB (colsOf T s) 1 6 = true := by
  obtain ⟨t, ht⟩ := Option.isSome_iff_exists.1 (findT_iff.2 hs)
  have := table_names (base_table hb (findT_some ht).1)
  unfold colsOf
  rw [ht]
  exact this
theorem namesB_iff {l : List ByteArray} {lo hi : Int} : namesB l lo hi = true ↔ (∀ x ∈ l, nameB x = true) ∧ l.Nodup ∧ lo ≤ (l.length : Int) ∧ (l.length : Int) ≤ hi := by
  unfold namesB namesD
  simp only [Bool.and_eq_true, decide_eq_true_eq, List.all_eq_true]
  constructor
  · rintro ⟨⟨a, b⟩, c, d⟩; exact ⟨a, b, c, d⟩
  · rintro ⟨a, b, c, d⟩; exact ⟨⟨a, b⟩, c, d⟩
theorem count_name : nameB countT = true := by decide
/-- Columns stay right. -/
theorem stepC_ok {T : List TB} {C D : List ByteArray} {s : SV} (hT : baseB T = true) (hC : namesB C 1 6 = true) (hs : sieveB s = true) (h : stepC T C s = (D, 0)) : namesB D 1 6 = true := by
  have bad : ∀ {k : Int}, k ≠ 0 → (([] : List ByteArray), k) = (D, 0) → False := by
    intro k hk e; injection e with _ e; exact hk e
  obtain ⟨c1, c2, c3, c4⟩ := namesB_iff.1 hC
  have many : ∀ l, (∀ x ∈ l, nameB x = true) → l.Nodup → 1 ≤ l.length → manyC l = (D, 0) → namesB D 1 6 = true := by
    intro l h1 h2 h3 e
    obtain ⟨rfl, h6⟩ := manyC_ok e
    exact namesB_iff.2 ⟨h1, h2, by omega, by omega⟩
  have same : manyC C = (D, 0) → namesB D 1 6 = true := many C c1 c2 (by omega)
  obtain ⟨kd, nm, N, S, dn, ct, sk⟩ := s
  unfold stepC at h
  rcases sieve_kind hs with e | e | e | e | e | e | e | e | e | e <;> (dsimp only at e; subst e; simp only [Int.reduceEq, if_true, if_false, or_false, or_true] at h)
  · exact same h
  · split at h
    · exact same h
    · exact (bad (by decide) h).elim
  · split at h
    · exact (bad (by decide) h).elim
    · rename_i hn
      split at h
      · have hk : nameK nm = true := by
          simp [sieveB, bareB, nameS, sumS, listS] at hs
          exact hs.2.2.1
        refine many _ ?_ ?_ (by simp) h
        · intro x hx
          rcases List.mem_append.1 hx with hx | hx
          · exact c1 x hx
          · obtain rfl := List.mem_singleton.1 hx
            exact nameK_nameB hk
        · rw [List.nodup_append]
          exact ⟨c2, by simp, fun a ha b hb e => by rw [List.mem_singleton] at hb; subst hb; subst e; exact hn (inB_iff.2 ha)⟩
      · exact (bad (by decide) h).elim
  · split at h
    · have hk : names10 N 1 6 = true := by
        simp [sieveB] at hs
        exact hs.2
      unfold names10 at hk
      rw [Bool.and_eq_true] at hk
      obtain ⟨d1, d2, d3, d4⟩ := namesB_iff.1 hk.2
      exact many N d1 d2 (by omega) h
    · exact (bad (by decide) h).elim
  · split at h
    · exact (bad (by decide) h).elim
    · rename_i hn
      split at h
      · exact (bad (by decide) h).elim
      · rename_i hd
        split at h
        · obtain ⟨d1, d2, d3, d4⟩ := namesB_iff.1 (cols_names hT (inB_iff.1 (by simpa using hn)))
          refine many _ ?_ ?_ (by rw [List.length_append]; omega) h
          · intro x hx
            rcases List.mem_append.1 hx with hx | hx
            · exact c1 x hx
            · exact d1 x hx
          · rw [List.nodup_append]
            refine ⟨c2, d2, fun a ha b hb e => hd ?_⟩
            rw [List.any_eq_true]
            exact ⟨b, hb, inB_iff.2 (e ▸ ha)⟩
        · exact (bad (by decide) h).elim
  · split at h
    · exact (bad (by decide) h).elim
    · rename_i hn
      split at h
      · exact (bad (by decide) h).elim
      · rename_i hd
        split at h
        · obtain ⟨d1, d2, d3, d4⟩ := namesB_iff.1 (cols_names hT (inB_iff.1 (by simpa using hn)))
          refine many _ ?_ ?_ (by rw [List.length_append]; omega) h
          · intro x hx
            rcases List.mem_append.1 hx with hx | hx
            · exact c1 x hx
            · exact d1 x hx
          · rw [List.nodup_append]
            refine ⟨c2, d2, fun a ha b hb e => hd ?_⟩
            rw [List.any_eq_true]
            exact ⟨b, hb, inB_iff.2 (e ▸ ha)⟩
        · exact (bad (by decide) h).elim
  · split at h
    · split at h
      · exact (bad (by decide) h).elim
      · rename_i hc
        have hk : names10 N 0 4 = true := by
          simp [sieveB] at hs
          exact hs.2
        unfold names10 at hk
        rw [Bool.and_eq_true] at hk
        obtain ⟨d1, d2, d3, d4⟩ := namesB_iff.1 hk.2
        refine many _ ?_ ?_ (by simp) h
        · intro x hx
          rcases List.mem_append.1 hx with hx | hx
          · exact d1 x hx
          · obtain rfl := List.mem_singleton.1 hx
            exact count_name
        · rw [List.nodup_append]
          exact ⟨d2, by simp, fun a ha b hb e => by rw [List.mem_singleton] at hb; subst hb; subst e; exact hc (inB_iff.2 ha)⟩
    · exact (bad (by decide) h).elim
  · split at h
    · exact same h
    · exact (bad (by decide) h).elim
  · exact same h
  · exact same h
theorem shapeF_ok {T : List TB} (hT : baseB T = true) (l : List SV) : ∀ {C D : List ByteArray}, namesB C 1 6 = true → (∀ s ∈ l, sieveB s = true) → shapeF T C l = (D, 0) → namesB D 1 6 = true := by
  induction l with
  | nil => intro C D hC _ h; injection h with e _; rw [← e]; exact hC
  | cons s l ih =>
    intro C D hC hl h
    unfold shapeF at h
    split at h
    · rename_i h0
      exact ih (stepC_ok hT hC (hl s (by simp)) (Prod.ext rfl h0)) (fun x hx => hl x (by simp [hx])) h
    · rename_i h0
      injection h with _ e
      exact absurd e h0
end Go.Proofs.YtjiaciikbnpicaaGreatDoor
