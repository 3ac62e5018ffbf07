/-
  A part of the proof: SvForm, Tab2, Tabs1, Base1, Walk5.
-/
import Derived.Test.YtjjkdbmjloolaaaGreatDoorPart9
import Derived.Test.YtjjkdbmjloolaaaGreatDoorPart1
import Derived.Test.YtjjkdbmjloolaaaGreatDoorPart8
import Derived.Test.YtjjkdbmjloolaaaGreatDoorPart6
import Derived.Test.YtjjkdbmjloolaaaGreatDoorPart2

namespace Go.Proofs.YtjjkdbmjloolaaaGreatDoor
structure FS where
 word : ByteArray
 hasName : Bool
 few : Int
 most : Int
 ahead : ByteArray
 hasSum : Bool
 fall : Bool
 cnt : Int
def formF (k : Int) : FS :=
 if k = 1 then ⟨⟨#[102, 114, 111, 109]⟩, true, 0, 0, ⟨#[]⟩, false, false, 0⟩
 else if k = 2 then ⟨⟨#[119, 104, 101, 114, 101]⟩, false, 0, 0, ⟨#[]⟩, true, false, 0⟩
 else if k = 3 then ⟨⟨#[108, 101, 116]⟩, true, 0, 0, ⟨#[61]⟩, true, false, 0⟩
 else if k = 4 then ⟨⟨#[107, 101, 101, 112]⟩, false, 1, 6, ⟨#[]⟩, false, false, 0⟩
 else if k = 5 then ⟨⟨#[106, 111, 105, 110]⟩, true, 0, 0, ⟨#[111, 110]⟩, true, false, 0⟩
 else if k = 6 then ⟨⟨#[108, 101, 102, 116]⟩, true, 0, 0, ⟨#[111, 110]⟩, true, false, 0⟩
 else if k = 7 then ⟨⟨#[103, 114, 111, 117, 112]⟩, false, 0, 4, ⟨#[]⟩, false, false, 0⟩
 else if k = 8 then ⟨⟨#[111, 114, 100, 101, 114]⟩, true, 0, 0, ⟨#[]⟩, false, true, 0⟩
 else if k = 9 then ⟨⟨#[108, 105, 109, 105, 116]⟩, false, 0, 0, ⟨#[]⟩, false, false, 1000⟩
 else if k = 10 then ⟨⟨#[111, 110, 99, 101]⟩, false, 0, 0, ⟨#[]⟩, false, false, 0⟩ else ⟨⟨#[]⟩, false, 0, 0, ⟨#[]⟩, false, false, 0⟩
def nameF (f : FS) (s : SV) : Bool := if f.hasName = true then nameK s.name else decide (s.name = ⟨#[]⟩)
def namesF (f : FS) (s : SV) : Bool := !(decide ((s.names.length : Int) < f.few) || decide (f.most < (s.names.length : Int))) && (s.names.all nameK && decide s.names.Nodup)
def sumF (f : FS) (s : SV) : Bool := if f.hasSum = true then sumB s.sum else decide (s.sum.length = 0)
def canF (f : FS) (n : Int) : Bool := decide (0 ≤ n) && decide (n ≤ f.cnt)
def rightF (f : FS) (s : SV) : Bool :=
 !decide (f.word = ⟨#[]⟩) && (nameF f s && (namesF f s && (sumF f s && ((f.fall || !s.down) && (canF f s.count && canF f s.skip)))))
theorem nameK_nameB {s : ByteArray} (h : nameK s = true) : nameB s = true := by
 unfold nameK at h
 rw [Bool.and_eq_true] at h
 exact h.1
theorem form_k (k : Int) (h : k < 1 ∨ 10 < k) : formF k = ⟨⟨#[]⟩, false, 0, 0, ⟨#[]⟩, false, false, 0⟩ := by
 unfold formF
 rw [if_neg (show ¬ k = 1 by omega), if_neg (show ¬ k = 2 by omega), if_neg (show ¬ k = 3 by omega), if_neg (show ¬ k = 4 by omega), if_neg (show ¬ k = 5 by omega), if_neg (show ¬ k = 6 by omega), if_neg (show ¬ k = 7 by omega), if_neg (show ¬ k = 8 by omega), if_neg (show ¬ k = 9 by omega), if_neg (show ¬ k = 10 by omega)]
theorem kind_cases {k : Int} (h : ¬ (k < 1 ∨ 10 < k)) : k = 1 ∨ k = 2 ∨ k = 3 ∨ k = 4 ∨ k = 5 ∨ k = 6 ∨ k = 7 ∨ k = 8 ∨ k = 9 ∨ k = 10 := by omega
set_option maxHeartbeats 2000000 in
theorem right_form (s : SV) : rightF (formF s.kind) s = sieveB s := by
 obtain ⟨k, nm, N, S, dn, ct, sk⟩ := s
 have hE : S.isEmpty = decide (S.length = 0) := by cases S <;> simp
 have hE2 : N.isEmpty = decide (N.length = 0) := by cases N <;> simp
 have z : ∀ n : Int, (decide (0 ≤ n) && decide (n ≤ 0)) = (n == 0) := by
  intro n
  rw [Bool.eq_iff_iff]
  simp
  omega
 have h0 : N.length = 0 → (N.all nameK && decide N.Nodup) = true := by intro h; have := List.length_eq_zero_iff.1 h; subst this; rfl
 have nz : (!(decide ((N.length : Int) < 0) || decide (0 < (N.length : Int))) && (N.all nameK && decide N.Nodup)) = N.isEmpty := by
  rw [hE2]
  by_cases h : N.length = 0
  · rw [h0 h, h]; rfl
  · rw [decide_eq_true (show (0 : Int) < (N.length : Int) by omega), decide_eq_false h, Bool.or_true]; rfl
 have nl : ∀ lo hi : Int, (!(decide ((N.length : Int) < lo) || decide (hi < (N.length : Int))) && (N.all nameK && decide N.Nodup)) = names10 N lo hi := by
  intro lo hi
  rw [Bool.eq_iff_iff]
  unfold names10 namesB namesD
  simp only [Bool.and_eq_true, Bool.not_eq_true', Bool.or_eq_false_iff, decide_eq_false_iff_not, decide_eq_true_eq, List.all_eq_true]
  constructor
  · rintro ⟨⟨a, b⟩, c, d⟩
   exact ⟨c, ⟨fun x hx => nameK_nameB (c x hx), d⟩, by omega, by omega⟩
  · rintro ⟨c, ⟨_, d⟩, a, b⟩
   exact ⟨⟨by omega, by omega⟩, c, d⟩
 by_cases hk : k < 1 ∨ 10 < k
 · dsimp only
  rw [form_k k hk]
  unfold rightF sieveB
  dsimp only
  rw [if_neg (by omega), if_neg (by omega), if_neg (by omega)]
  rw [show (decide (1 ≤ k) && decide (k ≤ 10)) = false by rw [Bool.eq_false_iff]; simp; omega]
  simp
 rcases kind_cases hk with rfl | rfl | rfl | rfl | rfl | rfl | rfl | rfl | rfl | rfl
 · show (!decide ((⟨#[102, 114, 111, 109]⟩ : ByteArray) = ⟨#[]⟩) && (nameK nm && ((!(decide ((N.length : Int) < 0) || decide (0 < (N.length : Int))) && (N.all nameK && decide N.Nodup)) && (decide (S.length = 0) && ((false || !dn) && ((decide (0 ≤ ct) && decide (ct ≤ 0)) && (decide (0 ≤ sk) && decide (sk ≤ 0)))))))) = sieveB _
  rw [show decide ((⟨#[102, 114, 111, 109]⟩ : ByteArray) = ⟨#[]⟩) = false from rfl, nz, ← hE, z, z]
  show _ = (true && bareB _)
  unfold bareB
  dsimp only
  generalize nameK nm = a
  generalize N.isEmpty = f
  generalize S.isEmpty = e
  generalize (ct == 0) = g
  generalize (sk == 0) = h
  cases a <;> cases f <;> cases e <;> cases g <;> cases h <;> cases dn <;> rfl
 · show (!decide ((⟨#[119, 104, 101, 114, 101]⟩ : ByteArray) = ⟨#[]⟩) && (decide (nm = ⟨#[]⟩) && ((!(decide ((N.length : Int) < 0) || decide (0 < (N.length : Int))) && (N.all nameK && decide N.Nodup)) && (sumB S && ((false || !dn) && ((decide (0 ≤ ct) && decide (ct ≤ 0)) && (decide (0 ≤ sk) && decide (sk ≤ 0)))))))) = sieveB _
  rw [show decide ((⟨#[119, 104, 101, 114, 101]⟩ : ByteArray) = ⟨#[]⟩) = false from rfl, nz, z, z]
  show _ = (true && bareB _)
  unfold bareB
  dsimp only
  generalize decide (nm = ⟨#[]⟩) = c
  generalize N.isEmpty = f
  generalize sumB S = d
  generalize (ct == 0) = g
  generalize (sk == 0) = h
  cases c <;> cases f <;> cases d <;> cases g <;> cases h <;> cases dn <;> rfl
 · show (!decide ((⟨#[108, 101, 116]⟩ : ByteArray) = ⟨#[]⟩) && (nameK nm && ((!(decide ((N.length : Int) < 0) || decide (0 < (N.length : Int))) && (N.all nameK && decide N.Nodup)) && (sumB S && ((false || !dn) && ((decide (0 ≤ ct) && decide (ct ≤ 0)) && (decide (0 ≤ sk) && decide (sk ≤ 0)))))))) = sieveB _
  rw [show decide ((⟨#[108, 101, 116]⟩ : ByteArray) = ⟨#[]⟩) = false from rfl, nz, z, z]
  show _ = (true && bareB _)
  unfold bareB
  dsimp only
  generalize nameK nm = a
  generalize N.isEmpty = f
  generalize sumB S = d
  generalize (ct == 0) = g
  generalize (sk == 0) = h
  cases a <;> cases f <;> cases d <;> cases g <;> cases h <;> cases dn <;> rfl
 · show (!decide ((⟨#[107, 101, 101, 112]⟩ : ByteArray) = ⟨#[]⟩) && (decide (nm = ⟨#[]⟩) && ((!(decide ((N.length : Int) < 1) || decide (6 < (N.length : Int))) && (N.all nameK && decide N.Nodup)) && (decide (S.length = 0) && ((false || !dn) && ((decide (0 ≤ ct) && decide (ct ≤ 0)) && (decide (0 ≤ sk) && decide (sk ≤ 0)))))))) = sieveB _
  rw [show decide ((⟨#[107, 101, 101, 112]⟩ : ByteArray) = ⟨#[]⟩) = false from rfl, nl, ← hE, z, z]
  show _ = (bareB _ && names10 N 1 6)
  unfold bareB
  dsimp only
  generalize decide (nm = ⟨#[]⟩) = c
  generalize names10 N 1 6 = i
  generalize S.isEmpty = e
  generalize (ct == 0) = g
  generalize (sk == 0) = h
  cases c <;> cases i <;> cases e <;> cases g <;> cases h <;> cases dn <;> rfl
 · show (!decide ((⟨#[106, 111, 105, 110]⟩ : ByteArray) = ⟨#[]⟩) && (nameK nm && ((!(decide ((N.length : Int) < 0) || decide (0 < (N.length : Int))) && (N.all nameK && decide N.Nodup)) && (sumB S && ((false || !dn) && ((decide (0 ≤ ct) && decide (ct ≤ 0)) && (decide (0 ≤ sk) && decide (sk ≤ 0)))))))) = sieveB _
  rw [show decide ((⟨#[106, 111, 105, 110]⟩ : ByteArray) = ⟨#[]⟩) = false from rfl, nz, z, z]
  show _ = (true && bareB _)
  unfold bareB
  dsimp only
  generalize nameK nm = a
  generalize N.isEmpty = f
  generalize sumB S = d
  generalize (ct == 0) = g
  generalize (sk == 0) = h
  cases a <;> cases f <;> cases d <;> cases g <;> cases h <;> cases dn <;> rfl
 · show (!decide ((⟨#[108, 101, 102, 116]⟩ : ByteArray) = ⟨#[]⟩) && (nameK nm && ((!(decide ((N.length : Int) < 0) || decide (0 < (N.length : Int))) && (N.all nameK && decide N.Nodup)) && (sumB S && ((false || !dn) && ((decide (0 ≤ ct) && decide (ct ≤ 0)) && (decide (0 ≤ sk) && decide (sk ≤ 0)))))))) = sieveB _
  rw [show decide ((⟨#[108, 101, 102, 116]⟩ : ByteArray) = ⟨#[]⟩) = false from rfl, nz, z, z]
  show _ = (true && bareB _)
  unfold bareB
  dsimp only
  generalize nameK nm = a
  generalize N.isEmpty = f
  generalize sumB S = d
  generalize (ct == 0) = g
  generalize (sk == 0) = h
  cases a <;> cases f <;> cases d <;> cases g <;> cases h <;> cases dn <;> rfl
 · show (!decide ((⟨#[103, 114, 111, 117, 112]⟩ : ByteArray) = ⟨#[]⟩) && (decide (nm = ⟨#[]⟩) && ((!(decide ((N.length : Int) < 0) || decide (4 < (N.length : Int))) && (N.all nameK && decide N.Nodup)) && (decide (S.length = 0) && ((false || !dn) && ((decide (0 ≤ ct) && decide (ct ≤ 0)) && (decide (0 ≤ sk) && decide (sk ≤ 0)))))))) = sieveB _
  rw [show decide ((⟨#[103, 114, 111, 117, 112]⟩ : ByteArray) = ⟨#[]⟩) = false from rfl, nl, ← hE, z, z]
  show _ = (bareB _ && names10 N 0 4)
  unfold bareB
  dsimp only
  generalize decide (nm = ⟨#[]⟩) = c
  generalize names10 N 0 4 = i
  generalize S.isEmpty = e
  generalize (ct == 0) = g
  generalize (sk == 0) = h
  cases c <;> cases i <;> cases e <;> cases g <;> cases h <;> cases dn <;> rfl
 · show (!decide ((⟨#[111, 114, 100, 101, 114]⟩ : ByteArray) = ⟨#[]⟩) && (nameK nm && ((!(decide ((N.length : Int) < 0) || decide (0 < (N.length : Int))) && (N.all nameK && decide N.Nodup)) && (decide (S.length = 0) && ((true || !dn) && ((decide (0 ≤ ct) && decide (ct ≤ 0)) && (decide (0 ≤ sk) && decide (sk ≤ 0)))))))) = sieveB _
  rw [show decide ((⟨#[111, 114, 100, 101, 114]⟩ : ByteArray) = ⟨#[]⟩) = false from rfl, nz, ← hE, z, z]
  show _ = (true && bareB _)
  unfold bareB
  dsimp only
  generalize nameK nm = a
  generalize N.isEmpty = f
  generalize S.isEmpty = e
  generalize (ct == 0) = g
  generalize (sk == 0) = h
  cases a <;> cases f <;> cases e <;> cases g <;> cases h <;> cases dn <;> rfl
 · show (!decide ((⟨#[108, 105, 109, 105, 116]⟩ : ByteArray) = ⟨#[]⟩) && (decide (nm = ⟨#[]⟩) && ((!(decide ((N.length : Int) < 0) || decide (0 < (N.length : Int))) && (N.all nameK && decide N.Nodup)) && (decide (S.length = 0) && ((false || !dn) && ((decide (0 ≤ ct) && decide (ct ≤ 1000)) && (decide (0 ≤ sk) && decide (sk ≤ 1000)))))))) = sieveB _
  rw [show decide ((⟨#[108, 105, 109, 105, 116]⟩ : ByteArray) = ⟨#[]⟩) = false from rfl, nz, ← hE]
  show _ = (bareB _ && ((decide (0 ≤ ct) && decide (ct ≤ 1000)) && (decide (0 ≤ sk) && decide (sk ≤ 1000))))
  unfold bareB
  dsimp only
  generalize decide (nm = ⟨#[]⟩) = c
  generalize N.isEmpty = f
  generalize S.isEmpty = e
  generalize (decide (0 ≤ ct) && decide (ct ≤ 1000)) = g
  generalize (decide (0 ≤ sk) && decide (sk ≤ 1000)) = h
  cases c <;> cases f <;> cases e <;> cases g <;> cases h <;> cases dn <;> rfl
 · show (!decide ((⟨#[111, 110, 99, 101]⟩ : ByteArray) = ⟨#[]⟩) && (decide (nm = ⟨#[]⟩) && ((!(decide ((N.length : Int) < 0) || decide (0 < (N.length : Int))) && (N.all nameK && decide N.Nodup)) && (decide (S.length = 0) && ((false || !dn) && ((decide (0 ≤ ct) && decide (ct ≤ 0)) && (decide (0 ≤ sk) && decide (sk ≤ 0)))))))) = sieveB _
  rw [show decide ((⟨#[111, 110, 99, 101]⟩ : ByteArray) = ⟨#[]⟩) = false from rfl, nz, ← hE, z, z]
  show _ = (true && bareB _)
  unfold bareB
  dsimp only
  generalize decide (nm = ⟨#[]⟩) = c
  generalize N.isEmpty = f
  generalize S.isEmpty = e
  generalize (ct == 0) = g
  generalize (sk == 0) = h
  cases c <;> cases f <;> cases e <;> cases g <;> cases h <;> cases dn <;> rfl
end Go.Proofs.YtjjkdbmjloolaaaGreatDoor
namespace Go.Proofs.YtjjkdbmjloolaaaGreatDoor
open Go.ChangeShapes Go.WideShapes Go.ChangeAt Go.RowKit
attribute [local go_sem ↓] Go.wp_at_zero Go.wp_at_succ
attribute [local simp] World.cell?_alloc_past World.cell?_alloc_at World.frozen?_alloc_at cell_far cell_off cell_here World.frozen?_alloc_past
end Go.Proofs.YtjjkdbmjloolaaaGreatDoor
namespace Go.Proofs.YtjjkdbmjloolaaaGreatDoor
open Go.ChangeShapes Go.WideShapes Go.ChangeAt Go.RowKit
attribute [local go_sem ↓] Go.wp_at_zero Go.wp_at_succ
def TabsAt (w : World) (a : Option Addr) (T : List TB) : Prop :=
 ∀ i (h : i < T.length), ∃ b o ca cc ra cr, a = some ⟨b, o, none⟩ ∧ b < w.heap.size ∧ w.cell? ⟨b, o + i * 3, none⟩ = some (.string T[i].1) ∧ w.cell? ⟨b, o + i * 3 + 1, none⟩ = some (.slice ca T[i].2.1.length cc) ∧ w.cell? ⟨b, o + i * 3 + 2, none⟩ = some (.slice ra T[i].2.2.length cr) ∧ TabAt w ca cc ra T[i]
theorem TabsAt.below {w w' : World} {a : Option Addr} {T : List TB} (h : TabsAt w a T) (hb : Below w.heap.size w w') : TabsAt w' a T := by
 intro i hi
 obtain ⟨b, o, ca, cc, ra, cr, ha, hlt, h0, h1, h2, h3⟩ := h i hi
 refine ⟨b, o, ca, cc, ra, cr, ha, Nat.lt_of_lt_of_le hlt hb.size, ?_, ?_, ?_, h3.below hb⟩
 · rw [hb.cell (p := ⟨b, _, none⟩) hlt]; exact h0
 · rw [hb.cell (p := ⟨b, _, none⟩) hlt]; exact h1
 · rw [hb.cell (p := ⟨b, _, none⟩) hlt]; exact h2
def namesT (T : List TB) : List ByteArray := T.map (·.1)
theorem namesT_length (T : List TB) : (namesT T).length = T.length := by simp [namesT]
theorem namesT_at (T : List TB) (k : Nat) (h : k < T.length) : (namesT T)[k]'(by rw [namesT_length]; exact h) = T[k].1 := by simp [namesT]
def risesN : List ByteArray → Bool
 | [] => true
 | x :: l => (match l with | [] => true | y :: _ => Op.bytesLess x.toList y.toList) && risesN l
def baseB (T : List TB) : Bool := T.all tableB && risesN (namesT T) && decide (T.length ≤ 5)
theorem risesN_snoc2 (l : List ByteArray) (x y : ByteArray) : risesN (l ++ [x] ++ [y]) = (risesN (l ++ [x]) && Op.bytesLess x.toList y.toList) := by
 induction l with
 | nil => simp [risesN]
 | cons z l ih =>
  cases l with
  | nil => simp [risesN]
  | cons u l =>
   have e : risesN ((z :: u :: l) ++ [x] ++ [y]) = (Op.bytesLess z.toList u.toList && risesN ((u :: l) ++ [x] ++ [y])) := rfl
   have e2 : risesN ((z :: u :: l) ++ [x]) = (Op.bytesLess z.toList u.toList && risesN ((u :: l) ++ [x])) := rfl
   rw [e, e2, ih, Bool.and_assoc]
theorem risesN_take (l : List ByteArray) (k : Nat) (h : k + 1 < l.length) : risesN (l.take (k + 1 + 1)) = (risesN (l.take (k + 1)) && Op.bytesLess (l[k]).toList (l[k + 1]).toList) := by
 rw [List.take_succ_eq_append_getElem h, List.take_succ_eq_append_getElem (show k < l.length by omega)]
 exact risesN_snoc2 _ _ _
theorem risesN_no (l : List ByteArray) (k : Nat) (h : risesN (l.take k) = false) : risesN l = false := by
 induction l generalizing k with
 | nil => simp [risesN] at h
 | cons x l ih =>
  cases k with
  | zero => simp [risesN] at h
  | succ k =>
   rw [List.take_succ_cons] at h
   cases k with
   | zero => simp [risesN] at h
   | succ k =>
    cases l with
    | nil => simp [risesN] at h
    | cons y l =>
     have e : risesN (x :: y :: l) = (Op.bytesLess x.toList y.toList && risesN (y :: l)) := rfl
     have e2 : risesN (x :: (y :: l).take (k + 1)) = (Op.bytesLess x.toList y.toList && risesN ((y :: l).take (k + 1))) := by rw [List.take_succ_cons]; rfl
     rw [e2] at h
     rw [e]
     cases hb : Op.bytesLess x.toList y.toList
     · rfl
     · rw [hb, Bool.true_and] at h
      rw [ih (k + 1) h, Bool.and_false]
set_option maxHeartbeats 2000000 in
theorem find_spec (a : Option Addr) (cap : Nat) (T : List TB) (n : Nat) (hn : T.length = n) (s : ByteArray) (w : World) (hrow : TabsAt w a T) (hm : n ≤ maxLen) :
  Calls Tryz.prog 71 #[.slice a n cap, .string s] w fun e w' => ∃ r, e = .returned (.int .i64 r) ∧ AtIs (namesT T) s r ∧ Below w.heap.size w w' := by
 have HR := hid hrow
 have HN := hid hn
 clear hrow hn
 unfold maxLen at hm
 go_enter Tryz.func71, Tryz.ntmps71
 go_wp2
 go_loopw [5] (fun kk wr => ∃ k : Nat, k ≤ n ∧ kk = .int .i64 k ∧ Hid (∀ j (hj : j < T.length), j < k → T[j].1 ≠ s) ∧ Below w.heap.size w wr) (fun kk _ => n - (intOf kk).toNat)
 case atStart => exact ⟨0, Nat.zero_le _, rfl, fun j _ h => by omega, Below.refl _ _⟩
 case round =>
  obtain ⟨k, hk, rfl, hall, hbw⟩ := hrel
  by_cases hlt : k < n
  · have hlt' : Hid (k < T.length) := by have := HN.out; exact show k < T.length by omega
   obtain ⟨g, o, ca, cc, ra, cr, rfl, hgw, c0, c1, c2, _⟩ := HR.out.below hbw k hlt'.out
   have hi0 : (0 : Int) ≤ (k : Int) := by omega
   have hi1 : (k : Int) < (n : Int) := by omega
   by_cases e : (T[k]'hlt'.out).1 = s
   · have fin : Hid (AtIs (namesT T) s (k : Int)) := Or.inr ⟨k, by rw [namesT_length]; exact hlt'.out, rfl, by rw [namesT_at T k hlt'.out]; exact e, fun j hj hjk => by rw [namesT_at T j (by rw [namesT_length] at hj; exact hj)]; exact hall.out j (by rw [namesT_length] at hj; exact hj) hjk⟩
    have hq := txt_same e
    clear e
    generalize (T[k]'hlt'.out) = x at c0 c1 c2 hq
    go_wp2
    go_ret
    exact ⟨_, rfl, fin.out, hbw⟩
   · have hall2 : Hid (∀ j (hj : j < T.length), j < k + 1 → T[j].1 ≠ s) := by
     have : ∀ j (hj : j < T.length), j < k + 1 → T[j].1 ≠ s := by
      intro j hj hjk
      by_cases ej : j = k
      · subst ej; exact e
      · exact hall.out j hj (by omega)
     exact this
    have hq := txt_other e
    clear e
    generalize (T[k]'hlt'.out) = x at c0 c1 c2 hq
    go_wp2
    go_roundw
    case rel => exact ⟨k + 1, by omega, by go_num, hall2, hbw⟩
    case measure => simp [intOf]; omega
  · have fin : Hid (AtIs (namesT T) s (-1)) := Or.inl ⟨rfl, fun hmem => by
    obtain ⟨j, hj, e⟩ := List.getElem_of_mem hmem
    rw [namesT_length] at hj
    rw [namesT_at T j hj] at e
    exact hall.out j hj (by have := HN.out; omega) e⟩
   go_wp2
   go_ret
   exact ⟨_, rfl, fin.out, hbw⟩
theorem leq_bl (x y : ByteArray) : (Op.bytesLess x.toList y.toList || x.toList == y.toList) = !Op.bytesLess y.toList x.toList := by
 cases h1 : Op.bytesLess x.toList y.toList
 · cases h3 : Op.bytesLess y.toList x.toList
  · rw [bl_tri h1 h3]; simp
  · by_cases e : x = y
   · subst e; rw [h1] at h3; cases h3
   · rw [txt_other e]; rfl
 · rw [bl_asym h1]; rfl
theorem run_leq (x y : ByteArray) (w : World) : (binOp .leq 9 (.string x) (.string y)).run Tryz.prog w = .ok (.bool (!Op.bytesLess y.toList x.toList)) w := by
 rw [← leq_bl]
 simp [binOp, Op.stringOp, go_sem]
theorem baseB_upto (T : List TB) (k : Nat) (e : ((T.take (k + 1)).all tableB && risesN (namesT (T.take (k + 1)))) = false) : baseB T = false := by
 unfold baseB
 rcases Bool.and_eq_false_iff.1 e with e | e
 · have : T.all tableB = false := by
   rw [List.all_eq_false] at e ⊢
   obtain ⟨x, hx, hy⟩ := e
   exact ⟨x, List.mem_of_mem_take hx, hy⟩
  rw [this]; rfl
 · have : risesN (namesT T) = false := by
   refine risesN_no _ (k + 1) ?_
   rw [← e]; unfold namesT; rw [List.map_take]
  rw [this]; simp
theorem all_takeT (T : List TB) (k : Nat) (h : k < T.length) : (T.take (k + 1)).all tableB = ((T.take k).all tableB && tableB T[k]) := by
 rw [List.take_succ_eq_append_getElem h, List.all_append]; simp
set_option maxHeartbeats 2000000 in
theorem base_spec (a : Option Addr) (cap : Nat) (T : List TB) (n : Nat) (hn : T.length = n) (w : World) (hrow : TabsAt w a T) (hm : n ≤ maxLen) (b : Bool) (hb : baseB T = b) :
  Calls Tryz.prog 52 #[.slice a n cap] w fun e w' => e = .returned (.bool b) ∧ Below w.heap.size w w' := by
 have HR := hid hrow
 have HN := hid hn
 have HB := hid hb
 clear hrow hn hb
 unfold maxLen at hm
 go_enter Tryz.func52, Tryz.ntmps52
 go_wp2
 go_loopw [3] (fun kk wr => ∃ k : Nat, k ≤ n ∧ kk = .int .i64 k ∧ Hid ((T.take k).all tableB = true ∧ risesN (namesT (T.take k)) = true) ∧ Below w.heap.size w wr) (fun kk _ => n - (intOf kk).toNat)
 case atStart => exact ⟨0, Nat.zero_le _, rfl, ⟨rfl, rfl⟩, Below.refl _ _⟩
 case round =>
  obtain ⟨k, hk, rfl, hall, hbw⟩ := hrel
  by_cases hlt : k < n
  · have hlt' : Hid (k < T.length) := by have := HN.out; exact show k < T.length by omega
   have HNO : Hid (((T.take (k + 1)).all tableB && risesN (namesT (T.take (k + 1)))) = false → b = false) := by
    have : ((T.take (k + 1)).all tableB && risesN (namesT (T.take (k + 1)))) = false → b = false := by
     intro e; rw [← HB.out]; exact baseB_upto T k e
    exact this
   have HAL : Hid ((T.take (k + 1)).all tableB = tableB (T[k]'hlt'.out)) := by
    have : (T.take (k + 1)).all tableB = tableB (T[k]'hlt'.out) := by rw [all_takeT T k hlt'.out, hall.out.1, Bool.true_and]
    exact this
   obtain ⟨g, o, ca, cc, ra, cr, rfl, hgw, c0, c1, c2, ht⟩ := HR.out.below hbw k hlt'.out
   have hi0 : (0 : Int) ≤ (k : Int) := by omega
   have hi1 : (k : Int) < (n : Int) := by omega
   have HT := hid ht
   have HX : Hid ((T[k]'hlt'.out) = (T[k]'hlt'.out)) := rfl
   clear ht
   obtain ⟨x, hx⟩ : ∃ x, (T[k]'hlt'.out) = x := ⟨_, rfl⟩
   rw [hx] at c0 c1 c2 HT HAL
   have HXE := hid hx
   clear hx HX
   obtain ⟨nc, hnc⟩ : ∃ m, x.2.1.length = m := ⟨_, rfl⟩
   obtain ⟨nr, hnr⟩ : ∃ m, x.2.2.length = m := ⟨_, rfl⟩
   rw [hnc] at c1
   rw [hnr] at c2
   have HNC := hid hnc
   have HNR := hid hnr
   clear hnc hnr
   obtain ⟨r, hr⟩ : ∃ r, tableB x = r := ⟨_, rfl⟩
   have HRR := hid hr
   clear hr
   by_cases hk0 : k = 0
   · subst hk0
    simp only [Nat.zero_mul, Nat.add_zero] at c0 c1 c2
    go_wp2_with fail
    refine wp_region_held_drew (S := (fun w' => w'.cell? ⟨g, o, none⟩ = some (.string x.1) ∧ w'.cell? ⟨g, o + 1, none⟩ = some (.slice ca nc cc) ∧ w'.cell? ⟨g, o + 2, none⟩ = some (.slice ra nr cr))) (by kernel_rfl) ?_ (fun hHeld => ?_)
    · (((try dsimp only); (repeat' apply And.intro) <;> first | (go_keep; done) | (simp (disch := first | omega | (simp <;> omega) | fail) [*]; done) | fail))
    refine tkH 0 ?_
    simp only [Act.put, ptT, ptZ, ptS]
    refine tkH 1 ?_
    simp only [Act.put, ptT, ptZ, ptS]
    refine tkH 2 ?_
    simp only [Act.put, ptT, ptZ, ptS]
    refine tkH 3 ?_
    simp only [Act.put, ptT, ptZ, ptS]
    refine oneH 4 ?_
    intro K hK
    go_simp
    refine (table_spec ca cc ra cr x nc nr HNC.out HNR.out _ (HT.out.below (Below.refl _ _).drew) r HRR.out).mono ?_
    rintro e wA ⟨rfl, hbA⟩
    obtain ⟨hca, hfa⟩ := bcell hbA
    have hza := hbA.size
    try simp at hza
    have hxA : Below w.heap.size w wA := chain hbw (undrew hbA)
    have yA : g < wA.heap.size := by omega
    cases r
    · go_wp2_with fail
     refine hK.out _ _ ?_ (fun hHeld => ?_)
     · (((try dsimp only); (repeat' apply And.intro) <;> first | (go_keep; done) | (simp (disch := first | omega | (simp <;> omega) | fail) [*]; done) | fail))
     clear hK K
     try simp only [Act.put, ptT, ptZ, ptS]
     refine tkH 5 ?_
     simp only [Act.put, ptT, ptZ, ptS]
     refine tkH 6 ?_
     simp only [Act.put, ptT, ptZ, ptS]
     refine skH 7 ?_
     simp only [Act.put, ptT, ptZ, ptS]
     refine skH 8 ?_
     simp only [Act.put, ptT, ptZ, ptS]
     refine skH 9 ?_
     simp only [Act.put, ptT, ptZ, ptS]
     refine skH 10 ?_
     simp only [Act.put, ptT, ptZ, ptS]
     refine skH 11 ?_
     simp only [Act.put, ptT, ptZ, ptS]
     refine skH 12 ?_
     simp only [Act.put, ptT, ptZ, ptS]
     refine skH 13 ?_
     simp only [Act.put, ptT, ptZ, ptS]
     refine skH 14 ?_
     simp only [Act.put, ptT, ptZ, ptS]
     refine skH 15 ?_
     simp only [Act.put, ptT, ptZ, ptS]
     refine skH 16 ?_
     simp only [Act.put, ptT, ptZ, ptS]
     refine skH 17 ?_
     simp only [Act.put, ptT, ptZ, ptS]
     refine skH 18 ?_
     simp only [Act.put, ptT, ptZ, ptS]
     refine skH 19 ?_
     simp only [Act.put, ptT, ptZ, ptS]
     refine skH 20 ?_
     simp only [Act.put, ptT, ptZ, ptS]
     refine skH 21 ?_
     simp only [Act.put, ptT, ptZ, ptS]
     refine skH 22 ?_
     simp only [Act.put, ptT, ptZ, ptS]
     refine tkH 23 ?_
     simp only [Act.put, ptT, ptZ, ptS]
     refine wpAnyH_done (by kernel_rfl) ?_ _
     have e := HNO.out (by rw [HAL.out, HRR.out]; rfl)
     subst e
     go_wp2
     go_ret
     exact ⟨rfl, hxA⟩
    · go_wp2_with fail
     refine hK.out _ _ ?_ (fun hHeld => ?_)
     · (((try dsimp only); (repeat' apply And.intro) <;> first | (go_keep; done) | (simp (disch := first | omega | (simp <;> omega) | fail) [*]; done) | fail))
     clear hK K
     try simp only [Act.put, ptT, ptZ, ptS]
     refine tkH 5 ?_
     simp only [Act.put, ptT, ptZ, ptS]
     refine tkH 6 ?_
     simp only [Act.put, ptT, ptZ, ptS]
     refine tkH 7 ?_
     simp only [Act.put, ptT, ptZ, ptS]
     refine tkH 8 ?_
     simp only [Act.put, ptT, ptZ, ptS]
     refine tkH 9 ?_
     simp only [Act.put, ptT, ptZ, ptS]
     refine skH 10 ?_
     simp only [Act.put, ptT, ptZ, ptS]
     refine skH 11 ?_
     simp only [Act.put, ptT, ptZ, ptS]
     refine skH 12 ?_
     simp only [Act.put, ptT, ptZ, ptS]
     refine skH 13 ?_
     simp only [Act.put, ptT, ptZ, ptS]
     refine skH 14 ?_
     simp only [Act.put, ptT, ptZ, ptS]
     refine skH 15 ?_
     simp only [Act.put, ptT, ptZ, ptS]
     refine skH 16 ?_
     simp only [Act.put, ptT, ptZ, ptS]
     refine skH 17 ?_
     simp only [Act.put, ptT, ptZ, ptS]
     refine skH 18 ?_
     simp only [Act.put, ptT, ptZ, ptS]
     refine skH 19 ?_
     simp only [Act.put, ptT, ptZ, ptS]
     refine skH 20 ?_
     simp only [Act.put, ptT, ptZ, ptS]
     refine skH 21 ?_
     simp only [Act.put, ptT, ptZ, ptS]
     refine tkH 22 ?_
     simp only [Act.put, ptT, ptZ, ptS]
     refine tkH 23 ?_
     simp only [Act.put, ptT, ptZ, ptS]
     refine wpAnyH_done (by kernel_rfl) ?_ _
     have fin : Hid ((T.take (0 + 1)).all tableB = true ∧ risesN (namesT (T.take (0 + 1))) = true) := ⟨by rw [HAL.out, HRR.out], by rw [List.take_succ_eq_append_getElem hlt'.out]; rfl⟩
     go_wp2
     go_roundw
     case rel => exact ⟨0 + 1, by omega, by go_num, fin, hxA⟩
     case measure => simp [intOf]; omega
   · obtain ⟨m, hm1⟩ : ∃ m, m = k - 1 := ⟨_, rfl⟩
    have hmk : k = m + 1 := by omega
    have hmT : Hid (m < T.length) := by have := hlt'.out; exact show m < T.length by omega
    obtain ⟨g', o', ca', cc', ra', cr', hgg, _, d0, _, _, _⟩ := HR.out.below hbw m hmT.out
    simp only [Option.some.injEq, Addr.mk.injEq, and_true] at hgg
    obtain ⟨rfl, rfl⟩ := hgg
    obtain ⟨y, hy⟩ : ∃ y, (T[m]'hmT.out).1 = y := ⟨_, rfl⟩
    rw [hy] at d0
    have HRI : Hid (risesN (namesT (T.take (k + 1))) = Op.bytesLess y.toList x.1.toList) := by
     have : risesN (namesT (T.take (k + 1))) = Op.bytesLess y.toList x.1.toList := by
      have h2 := hall.out.2
      have hl := hlt'.out
      subst hmk
      unfold namesT at h2 ⊢
      rw [List.map_take] at h2 ⊢
      rw [risesN_take _ m (by rw [List.length_map]; exact hl), h2, Bool.true_and]
      rw [List.getElem_map, List.getElem_map, hy, HXE.out]
     exact this
    have hsub : (k : Int) - 1 = (m : Int) := by omega
    have hm0 : (0 : Int) ≤ (m : Int) := by omega
    have hmn : (m : Int) < (n : Int) := by omega
    have hgt : 0 < k := by omega
    have hwr : IntKind.i64.wrap (m : Int) = (m : Int) := by rw [IntKind.wrap_i64]; omega
    obtain ⟨q, hq⟩ : ∃ q, Op.bytesLess y.toList x.1.toList = q := ⟨_, rfl⟩
    have HQ := hid hq
    clear hy hmk hm1 hq
    go_wp2_with fail
    refine wp_region_held_drew (S := (fun w' => w'.cell? ⟨g, o + k * 3, none⟩ = some (.string x.1) ∧ w'.cell? ⟨g, o + k * 3 + 1, none⟩ = some (.slice ca nc cc) ∧ w'.cell? ⟨g, o + k * 3 + 2, none⟩ = some (.slice ra nr cr) ∧ w'.cell? ⟨g, o + m * 3, none⟩ = some (.string y))) (by kernel_rfl) ?_ (fun hHeld => ?_)
    · (((try dsimp only); (repeat' apply And.intro) <;> first | (go_keep; done) | (simp (disch := first | omega | (simp <;> omega) | fail) [*]; done) | fail))
    refine tkH 0 ?_
    simp only [Act.put, ptT, ptZ, ptS]
    refine tkH 1 ?_
    simp only [Act.put, ptT, ptZ, ptS]
    refine tkH 2 ?_
    simp only [Act.put, ptT, ptZ, ptS]
    refine tkH 3 ?_
    simp only [Act.put, ptT, ptZ, ptS]
    refine oneH 4 ?_
    intro K hK
    go_simp
    refine (table_spec ca cc ra cr x nc nr HNC.out HNR.out _ (HT.out.below (Below.refl _ _).drew) r HRR.out).mono ?_
    rintro e wA ⟨rfl, hbA⟩
    obtain ⟨hca, hfa⟩ := bcell hbA
    have hza := hbA.size
    try simp at hza
    have hxA : Below w.heap.size w wA := chain hbw (undrew hbA)
    have yA : g < wA.heap.size := by omega
    cases r
    · go_wp2_with fail
     refine hK.out _ _ ?_ (fun hHeld => ?_)
     · (((try dsimp only); (repeat' apply And.intro) <;> first | (go_keep; done) | (simp (disch := first | omega | (simp <;> omega) | fail) [*]; done) | fail))
     clear hK K
     try simp only [Act.put, ptT, ptZ, ptS]
     refine tkH 5 ?_
     simp only [Act.put, ptT, ptZ, ptS]
     refine tkH 6 ?_
     simp only [Act.put, ptT, ptZ, ptS]
     refine skH 7 ?_
     simp only [Act.put, ptT, ptZ, ptS]
     refine skH 8 ?_
     simp only [Act.put, ptT, ptZ, ptS]
     refine skH 9 ?_
     simp only [Act.put, ptT, ptZ, ptS]
     refine skH 10 ?_
     simp only [Act.put, ptT, ptZ, ptS]
     refine skH 11 ?_
     simp only [Act.put, ptT, ptZ, ptS]
     refine skH 12 ?_
     simp only [Act.put, ptT, ptZ, ptS]
     refine skH 13 ?_
     simp only [Act.put, ptT, ptZ, ptS]
     refine skH 14 ?_
     simp only [Act.put, ptT, ptZ, ptS]
     refine skH 15 ?_
     simp only [Act.put, ptT, ptZ, ptS]
     refine skH 16 ?_
     simp only [Act.put, ptT, ptZ, ptS]
     refine skH 17 ?_
     simp only [Act.put, ptT, ptZ, ptS]
     refine skH 18 ?_
     simp only [Act.put, ptT, ptZ, ptS]
     refine skH 19 ?_
     simp only [Act.put, ptT, ptZ, ptS]
     refine skH 20 ?_
     simp only [Act.put, ptT, ptZ, ptS]
     refine skH 21 ?_
     simp only [Act.put, ptT, ptZ, ptS]
     refine skH 22 ?_
     simp only [Act.put, ptT, ptZ, ptS]
     refine tkH 23 ?_
     simp only [Act.put, ptT, ptZ, ptS]
     refine wpAnyH_done (by kernel_rfl) ?_ _
     have e := HNO.out (by rw [HAL.out, HRR.out]; rfl)
     subst e
     go_wp2
     go_ret
     exact ⟨rfl, hxA⟩
    · go_wp2_with fail
     refine hK.out _ _ ?_ (fun hHeld => ?_)
     · (((try dsimp only); (repeat' apply And.intro) <;> first | (go_keep; done) | (simp (disch := first | omega | (simp <;> omega) | fail) [*]; done) | fail))
     clear hK K
     try simp only [Act.put, ptT, ptZ, ptS]
     have hq : ∀ w, (binOp .leq 9 (.string x.1) (.string y)).run Tryz.prog w = .ok (.bool (!q)) w := fun w => by rw [← HQ.out]; exact run_leq x.1 y w
     cases q
     · skip
      refine tkH 5 ?_
      simp only [Act.put, ptT, ptZ, ptS]
      refine tkH 6 ?_
      simp only [Act.put, ptT, ptZ, ptS]
      refine tkH 7 ?_
      simp only [Act.put, ptT, ptZ, ptS]
      refine tkH 8 ?_
      simp only [Act.put, ptT, ptZ, ptS]
      refine tkH 9 ?_
      simp only [Act.put, ptT, ptZ, ptS]
      refine tkH 10 ?_
      simp only [Act.put, ptT, ptZ, ptS]
      refine tkH 11 ?_
      simp only [Act.put, ptT, ptZ, ptS]
      refine tkH 12 ?_
      simp only [Act.put, ptT, ptZ, ptS]
      refine tkH 13 ?_
      simp only [Act.put, ptT, ptZ, ptS]
      refine tkH 14 ?_
      simp only [Act.put, ptT, ptZ, ptS]
      refine tkH 15 ?_
      simp only [Act.put, ptT, ptZ, ptS]
      refine tkH 16 ?_
      simp only [Act.put, ptT, ptZ, ptS]
      refine tkH 17 ?_
      simp only [Act.put, ptT, ptZ, ptS]
      refine tkH 18 ?_
      simp only [Act.put, ptT, ptZ, ptS]
      refine tkH 19 ?_
      simp only [Act.put, ptT, ptZ, ptS]
      refine tkH 20 ?_
      simp only [Act.put, ptT, ptZ, ptS]
      refine tkH 21 ?_
      simp only [Act.put, ptT, ptZ, ptS]
      refine tkH 22 ?_
      simp only [Act.put, ptT, ptZ, ptS]
      refine tkH 23 ?_
      simp only [Act.put, ptT, ptZ, ptS]
      refine wpAnyH_done (by kernel_rfl) ?_ _
      have e := HNO.out (by rw [HRI.out, HQ.out, Bool.and_false])
      subst e
      go_wp2
      go_ret
      exact ⟨rfl, hxA⟩
     · skip
      refine tkH 5 ?_
      simp only [Act.put, ptT, ptZ, ptS]
      refine tkH 6 ?_
      simp only [Act.put, ptT, ptZ, ptS]
      refine tkH 7 ?_
      simp only [Act.put, ptT, ptZ, ptS]
      refine tkH 8 ?_
      simp only [Act.put, ptT, ptZ, ptS]
      refine tkH 9 ?_
      simp only [Act.put, ptT, ptZ, ptS]
      refine tkH 10 ?_
      simp only [Act.put, ptT, ptZ, ptS]
      refine tkH 11 ?_
      simp only [Act.put, ptT, ptZ, ptS]
      refine tkH 12 ?_
      simp only [Act.put, ptT, ptZ, ptS]
      refine tkH 13 ?_
      simp only [Act.put, ptT, ptZ, ptS]
      refine tkH 14 ?_
      simp only [Act.put, ptT, ptZ, ptS]
      refine tkH 15 ?_
      simp only [Act.put, ptT, ptZ, ptS]
      refine tkH 16 ?_
      simp only [Act.put, ptT, ptZ, ptS]
      refine tkH 17 ?_
      simp only [Act.put, ptT, ptZ, ptS]
      refine tkH 18 ?_
      simp only [Act.put, ptT, ptZ, ptS]
      refine tkH 19 ?_
      simp only [Act.put, ptT, ptZ, ptS]
      refine tkH 20 ?_
      simp only [Act.put, ptT, ptZ, ptS]
      refine tkH 21 ?_
      simp only [Act.put, ptT, ptZ, ptS]
      refine tkH 22 ?_
      simp only [Act.put, ptT, ptZ, ptS]
      refine tkH 23 ?_
      simp only [Act.put, ptT, ptZ, ptS]
      refine wpAnyH_done (by kernel_rfl) ?_ _
      have fin : Hid ((T.take (k + 1)).all tableB = true ∧ risesN (namesT (T.take (k + 1))) = true) := ⟨by rw [HAL.out, HRR.out], by rw [HRI.out, HQ.out]⟩
      go_wp2
      go_roundw
      case rel => exact ⟨k + 1, by omega, by go_num, fin, hxA⟩
      case measure => simp [intOf]; omega
  · have hkl : k = n := by omega
   subst hkl
   have fin : b = decide ((k : Int) ≤ 5) := by
    have h1 := hall.out.1
    have h2 := hall.out.2
    rw [List.take_of_length_le (by rw [HN.out]; exact Nat.le_refl _)] at h1 h2
    rw [← HB.out]; unfold baseB
    rw [h1, h2, HN.out]
    by_cases h5 : k ≤ 5
    · simp [h5]; omega
    · simp [h5]; omega
   subst fin
   go_wp2
   go_ret
   exact ⟨rfl, hbw⟩
end Go.Proofs.YtjjkdbmjloolaaaGreatDoor
namespace Go.Proofs.YtjjkdbmjloolaaaGreatDoor
open Go.ChangeShapes Go.WideShapes Go.ChangeAt Go.RowKit
end Go.Proofs.YtjjkdbmjloolaaaGreatDoor
