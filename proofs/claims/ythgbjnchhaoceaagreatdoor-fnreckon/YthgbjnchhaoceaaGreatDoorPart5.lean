/-
  A part of the proof: Walk7, Walk8, Truth, Three1, Rank1, Rank2, RkMath.
-/
import Derived.Test.YthgbjnchhaoceaaGreatDoorPart4
import Derived.Deep.RegionHeld3
import Derived.Deep.DeepCutAuto
import Derived.Deep.DrawnRows
import Derived.Test.YthgbjnchhaoceaaGreatDoorPart1
import Derived.Test.YthgbjnchhaoceaaGreatDoorPart3

/-
  The contract of the program's own way to reckon with two cells.
-/
namespace Go.Proofs.YthgbjnchhaoceaaGreatDoor
open Go.ChangeShapes Go.WideShapes Go.ChangeAt Go.RowKit
attribute [local go_sem ↓] Go.wp_at_zero Go.wp_at_succ

/-- What comes of two cells: are both right, both numbers, what is reckoned of them, and the fault: the kind, the number, the fault. -/
def opR (rt kn : Bool) (r f : Int) : Int × Int × Int :=
  if rt = false then (0, 0, 3) else if kn = false then (0, 0, 0) else if f ≠ 0 then (0, 0, f) else if numB r = true then (1, r, 0) else (0, 0, 1)

attribute [local simp] World.cell?_alloc_past World.cell?_alloc_at World.frozen?_alloc_at cell_far cell_off cell_here World.frozen?_alloc_past

set_option maxHeartbeats 2000000 in
theorem reckon (g : Nat) (hent : ∀ (xs : Array Value) (w : World), (callFunc g xs).run Tryz.prog w = .ok (.enter g xs) w) (r f : Int) (k1 n1 : Int) (t1 : ByteArray) (k2 n2 : Int) (t2 : ByteArray) (x1 x2 : Int) (kn1 kn2 rt1 rt2 : Bool)
    (hk1 : knownB k1 n1 t1 = kn1) (hr1 : rightB k1 n1 t1 = rt1) (hx1 : (if kn1 = true then n1 else 0) = x1)
    (hk2 : knownB k2 n2 t2 = kn2) (hr2 : rightB k2 n2 t2 = rt2) (hx2 : (if kn2 = true then n2 else 0) = x2)
    (hg : ∀ w, Calls Tryz.prog g #[.int .i64 x1, .int .i64 x2] w fun e w' => e = .returned (.tuple #[.int .i64 r, .int .i64 f]) ∧ w' = w)
    (w : World) (ht1 : t1.size ≤ maxLen) (ht2 : t2.size ≤ maxLen) :
    Calls Tryz.prog 151 #[.agg #[.int .i64 k1, .int .i64 n1, .string t1], .agg #[.int .i64 k2, .int .i64 n2, .string t2], .func (.func g) #[] #[]] w fun e w' => e = .returned (.tuple #[.agg #[.int .i64 (opR (rt1 && rt2) (kn1 && kn2) r f).1, .int .i64 (opR (rt1 && rt2) (kn1 && kn2) r f).2.1, .string ⟨#[]⟩], .int .i64 (opR (rt1 && rt2) (kn1 && kn2) r f).2.2]) ∧ Below w.heap.size w w' := by
  have O1 : Hid (∀ w, Calls Tryz.prog 166 #[.agg #[.int .i64 k1, .int .i64 n1, .string t1]] w fun e w' => e = .returned (.agg #[.int .i64 x1, .bool kn1, .bool rt1]) ∧ Below w.heap.size w w') := fun w => operand_impl k1 n1 t1 x1 kn1 rt1 hk1 hr1 hx1 w ht1
  have O2 : Hid (∀ w, Calls Tryz.prog 166 #[.agg #[.int .i64 k2, .int .i64 n2, .string t2]] w fun e w' => e = .returned (.agg #[.int .i64 x2, .bool kn2, .bool rt2]) ∧ Below w.heap.size w w') := fun w => operand_impl k2 n2 t2 x2 kn2 rt2 hk2 hr2 hx2 w ht2
  have G : Hid (∀ w, Calls Tryz.prog g #[.int .i64 x1, .int .i64 x2] w fun e w' => e = .returned (.tuple #[.int .i64 r, .int .i64 f]) ∧ w' = w) := hg
  clear hk1 hr1 hx1 hk2 hr2 hx2 hg
  have l2 : ∀ n : Nat, n < n + 1 + 1 := fun n => by omega
  have l3 : ∀ n : Nat, n < n + 1 + 1 + 1 := fun n => by omega
  have l4 : ∀ n : Nat, n < n + 1 + 1 + 1 + 1 := fun n => by omega
  have lm : ∀ a b : Nat, a < b → a < b + 1 := fun a b h => by omega
  have l6 : ∀ n : Nat, n < n + 1 := fun n => by omega
  have l5 : ∀ n : Nat, n < n + 1 + 1 + 1 + 1 + 1 := fun n => by omega
  go_enter Tryz.func151, Tryz.ntmps151
  go_wp2_with fail
  go_cut [8, 9] (fun s8 s9 wc => ∃ b8 b9 : Nat, s8 = .pointer (some ⟨b8, 0, none⟩) ∧ s9 = .pointer (some ⟨b9, 0, none⟩) ∧
    wc.cell? ⟨b8, 0, none⟩ = some (.int .i64 x1) ∧ wc.cell? ⟨b8, 1, none⟩ = some (.bool kn1) ∧ wc.cell? ⟨b8, 2, none⟩ = some (.bool rt1) ∧
    wc.cell? ⟨b9, 0, none⟩ = some (.int .i64 x2) ∧ wc.cell? ⟨b9, 1, none⟩ = some (.bool kn2) ∧ wc.cell? ⟨b9, 2, none⟩ = some (.bool rt2) ∧
    wc.cell? ⟨w.heap.size + 1 + 1, 0, none⟩ = some (.int .i64 0) ∧ wc.cell? ⟨w.heap.size + 1 + 1, 1, none⟩ = some (.int .i64 0) ∧ wc.cell? ⟨w.heap.size + 1 + 1, 2, none⟩ = some (.string ⟨#[]⟩) ∧
    wc.frozen? ⟨w.heap.size + 1 + 1, 0, none⟩ = false ∧ wc.frozen? ⟨w.heap.size + 1 + 1, 1, none⟩ = false ∧ wc.frozen? ⟨w.heap.size + 1 + 1, 2, none⟩ = false ∧
    Below w.heap.size w wc)
  case first =>
    go_region_held3 (fun w' => w'.cell? ⟨w.heap.size, 0, none⟩ = some (.int .i64 k1) ∧ w'.cell? ⟨w.heap.size, 1, none⟩ = some (.int .i64 n1) ∧ w'.cell? ⟨w.heap.size, 2, none⟩ = some (.string t1) ∧
        w'.cell? ⟨w.heap.size + 1, 0, none⟩ = some (.int .i64 k2) ∧ w'.cell? ⟨w.heap.size + 1, 1, none⟩ = some (.int .i64 n2) ∧ w'.cell? ⟨w.heap.size + 1, 2, none⟩ = some (.string t2)) (((try dsimp only); (repeat' apply And.intro) <;> first | (go_keep; done) | (simp (disch := first | omega | (simp <;> omega) | fail) [*]; done) | fail))
      (first
        | (go_at_call_of 166 (Value.string t1); refine (O1.out _).mono ?_; rintro e w1 ⟨rfl, hb1⟩; obtain ⟨hc1, hf1⟩ := bcell hb1; have hz1 := hb1.size; (try simp at hz1); (try have y10 : w.heap.size < w1.heap.size := by omega); (try have y11 : w.heap.size + 1 < w1.heap.size := by omega); (try have y12 : w.heap.size + 1 + 1 < w1.heap.size := by omega); (try have y13 : w.heap.size + 1 + 1 + 1 < w1.heap.size := by omega); (try have y14 : w.heap.size + 1 + 1 + 1 + 1 < w1.heap.size := by omega))
        | (go_at_call_of 166 (Value.string t2); refine (O2.out _).mono ?_; rintro e w2 ⟨rfl, hb2⟩; obtain ⟨hc2, hf2⟩ := bcell hb2; have hz2 := hb2.size; (try simp at hz2); (try have y20 : w.heap.size < w2.heap.size := by omega); (try have y21 : w.heap.size + 1 < w2.heap.size := by omega); (try have y22 : w.heap.size + 1 + 1 < w2.heap.size := by omega); (try have y23 : w.heap.size + 1 + 1 + 1 < w2.heap.size := by omega); (try have y24 : w.heap.size + 1 + 1 + 1 + 1 < w2.heap.size := by omega); (try have v20 : w1.heap.size < w2.heap.size := by omega); (try have v21 : w1.heap.size + 1 < w2.heap.size := by omega)))
    all_goals
      go_wp2_with fail
      go_meet
      case rel =>
        refine ⟨_, _, rfl, rfl, ?_, ?_, ?_, ?_, ?_, ?_, ?_, ?_, ?_, ?_, ?_, ?_, ?_⟩
        all_goals first
          | (simp (disch := first | omega | (simp <;> omega) | (simp (disch := first | omega | (simp <;> omega) | fail) [*]; done) | fail) [*]; done)
          | (repeat' (first | (with_reducible exact Below.refl _ _) | (with_reducible refine Below.alloc ?_ ?_ _) | (with_reducible refine Below.drew ?_) | (with_reducible refine Below.setCell ?_ ?_ _) | (with_reducible refine chain ?_ hb2) | (with_reducible refine chain ?_ hb1) | (simp <;> omega) | omega)
             done)
  case rest =>
    obtain ⟨b8, b9, rfl, rfl, c80, c81, c82, c90, c91, c92, r0, r1, r2, f0, f1, f2, hb⟩ := hcut
    cases rt1
    · go_wp2
      exact bodyPost_ret (v := .tuple #[.agg #[.int .i64 0, .int .i64 0, .string ⟨#[]⟩], .int .i64 3]) (by simp [results, Tryz.results151, go_sem, r0, r1, r2]) rfl ⟨by simp [opR], by go_grown⟩
    cases rt2
    · go_wp2
      exact bodyPost_ret (v := .tuple #[.agg #[.int .i64 0, .int .i64 0, .string ⟨#[]⟩], .int .i64 3]) (by simp [results, Tryz.results151, go_sem, r0, r1, r2]) rfl ⟨by simp [opR], by go_grown⟩
    cases kn1
    · go_wp2
      exact bodyPost_ret (v := .tuple #[.agg #[.int .i64 0, .int .i64 0, .string ⟨#[]⟩], .int .i64 0]) (by simp [results, Tryz.results151, go_sem, r0, r1, r2]) rfl ⟨by simp [opR], by go_grown⟩
    cases kn2
    · go_wp2
      exact bodyPost_ret (v := .tuple #[.agg #[.int .i64 0, .int .i64 0, .string ⟨#[]⟩], .int .i64 0]) (by simp [results, Tryz.results151, go_sem, r0, r1, r2]) rfl ⟨by simp [opR], by go_grown⟩
    by_cases hf : f = 0
    · subst hf
      cases hn : numB r
      · go_wp2_with fail
        refine (G.out _).mono ?_
        rintro e w' ⟨rfl, rfl⟩
        go_wp2_with (go_at_call 135; refine (numberFits_impl _ _).mono ?_; rintro e w' ⟨rfl, rfl⟩)
        exact bodyPost_ret (v := .tuple #[.agg #[.int .i64 0, .int .i64 0, .string ⟨#[]⟩], .int .i64 1]) (by simp [results, Tryz.results151, go_sem, r0, r1, r2]) rfl ⟨by simp [opR, hn], by go_grown⟩
      · go_wp2_with fail
        refine (G.out _).mono ?_
        rintro e w' ⟨rfl, rfl⟩
        go_wp2_with (go_at_call 135; refine (numberFits_impl _ _).mono ?_; rintro e w' ⟨rfl, rfl⟩)
        exact bodyPost_ret (v := .tuple #[.agg #[.int .i64 1, .int .i64 r, .string ⟨#[]⟩], .int .i64 0]) (by simp [results, Tryz.results151, go_sem, r0, r1, r2]) rfl ⟨by simp [opR, hn], by go_grown⟩
    · go_wp2_with fail
      refine (G.out _).mono ?_
      rintro e w' ⟨rfl, rfl⟩
      go_wp2
      exact bodyPost_ret (v := .tuple #[.agg #[.int .i64 0, .int .i64 0, .string ⟨#[]⟩], .int .i64 f]) (by simp [results, Tryz.results151, go_sem, r0, r1, r2]) rfl ⟨by simp [opR, hf], by go_grown⟩

end Go.Proofs.YthgbjnchhaoceaaGreatDoor

/-
  The contracts of Plus, Less, Times and By: the program's and the model's come to the same.
-/
namespace Go.Proofs.YthgbjnchhaoceaaGreatDoor
open Go.ChangeShapes Go.WideShapes Go.ChangeAt Go.RowKit

def addO (a b : Int) : Int × Int := (wrap64 (a + b), 0)
def subO (a b : Int) : Int × Int := (wrap64 (a - b), 0)
def mulO (a b : Int) : Int × Int := (wrap64 (a * b), 0)
def divO (a b : Int) : Int × Int := if b = 0 then (0, 2) else (wrap64 (a.tdiv b), 0)

/-- What comes of two cells: the kind, the number, the fault. -/
def resR (o : Int → Int → Int × Int) (k1 n1 : Int) (t1 : ByteArray) (k2 n2 : Int) (t2 : ByteArray) : Int × Int × Int :=
  opR (rightB k1 n1 t1 && rightB k2 n2 t2) (knownB k1 n1 t1 && knownB k2 n2 t2) (o n1 n2).1 (o n1 n2).2

theorem resR_open (o : Int → Int → Int × Int) (k1 n1 : Int) (t1 : ByteArray) (k2 n2 : Int) (t2 : ByteArray) (x1 x2 : Int) (hx1 : (if knownB k1 n1 t1 = true then n1 else 0) = x1) (hx2 : (if knownB k2 n2 t2 = true then n2 else 0) = x2) :
    resR o k1 n1 t1 k2 n2 t2 = opR (rightB k1 n1 t1 && rightB k2 n2 t2) (knownB k1 n1 t1 && knownB k2 n2 t2) (o x1 x2).1 (o x1 x2).2 := by
  unfold resR
  cases h1 : knownB k1 n1 t1
  · simp [opR]
  · cases h2 : knownB k2 n2 t2
    · simp [opR]
    · rw [h1] at hx1; rw [h2] at hx2
      simp at hx1 hx2
      rw [hx1, hx2]

theorem right_known (k1 n1 : Int) (t1 : ByteArray) (k2 n2 : Int) (t2 : ByteArray) (h : (rightB k1 n1 t1 && rightB k2 n2 t2) = true) :
    (knownB k1 n1 t1 && knownB k2 n2 t2) = !(k1 == 0 || k2 == 0) := by
  simp only [rightB, Bool.and_eq_true, Bool.or_eq_true, beq_iff_eq] at h
  obtain ⟨⟨o1, h1⟩, o2, h2⟩ := h
  unfold knownB
  rw [o1, o2]
  rcases h1 with h1 | h1 <;> rcases h2 with h2 | h2 <;> subst h1 <;> subst h2 <;> rfl

theorem enters_plus (xs : Array Value) (w : World) : (callFunc 152 xs).run Tryz.prog w = .ok (.enter 152 xs) w := by kernel_rfl

set_option maxHeartbeats 400000 in
theorem plus_impl (k1 n1 : Int) (t1 : ByteArray) (k2 n2 : Int) (t2 : ByteArray) (w : World) (ht1 : t1.size ≤ maxLen) (ht2 : t2.size ≤ maxLen) :
    Calls Tryz.prog 125 #[.agg #[.int .i64 k1, .int .i64 n1, .string t1], .agg #[.int .i64 k2, .int .i64 n2, .string t2]] w fun e w' => e = .returned (.tuple #[.agg #[.int .i64 (resR addO k1 n1 t1 k2 n2 t2).1, .int .i64 (resR addO k1 n1 t1 k2 n2 t2).2.1, .string ⟨#[]⟩], .int .i64 (resR addO k1 n1 t1 k2 n2 t2).2.2]) ∧ Below w.heap.size w w' := by
  obtain ⟨x1, hx1⟩ : ∃ x, (if knownB k1 n1 t1 = true then n1 else 0) = x := ⟨_, rfl⟩
  obtain ⟨x2, hx2⟩ : ∃ x, (if knownB k2 n2 t2 = true then n2 else 0) = x := ⟨_, rfl⟩
  rw [resR_open addO k1 n1 t1 k2 n2 t2 x1 x2 hx1 hx2]
  have H : Hid (∀ w, Calls Tryz.prog 151 #[.agg #[.int .i64 k1, .int .i64 n1, .string t1], .agg #[.int .i64 k2, .int .i64 n2, .string t2], .func (.func 152) #[] #[]] w fun e w' => e = .returned (.tuple #[.agg #[.int .i64 (opR (rightB k1 n1 t1 && rightB k2 n2 t2) (knownB k1 n1 t1 && knownB k2 n2 t2) (addO x1 x2).1 (addO x1 x2).2).1, .int .i64 (opR (rightB k1 n1 t1 && rightB k2 n2 t2) (knownB k1 n1 t1 && knownB k2 n2 t2) (addO x1 x2).1 (addO x1 x2).2).2.1, .string ⟨#[]⟩], .int .i64 (opR (rightB k1 n1 t1 && rightB k2 n2 t2) (knownB k1 n1 t1 && knownB k2 n2 t2) (addO x1 x2).1 (addO x1 x2).2).2.2]) ∧ Below w.heap.size w w') := fun w =>
    reckon 152 enters_plus _ _ k1 n1 t1 k2 n2 t2 x1 x2 _ _ _ _ rfl rfl hx1 rfl rfl hx2 (fun w => plus_impl1 x1 x2 w) w ht1 ht2
  clear hx1 hx2
  generalize opR (rightB k1 n1 t1 && rightB k2 n2 t2) (knownB k1 n1 t1 && knownB k2 n2 t2) (addO x1 x2).1 (addO x1 x2).2 = R at H ⊢
  go_enter Tryz.func125, Tryz.ntmps125
  go_wp2_with fail
  refine (H.out _).mono ?_
  rintro e w1 ⟨rfl, hb1⟩
  obtain ⟨⟨a1, b1, c1, d1⟩, ⟨x1, y1, z1, s1⟩, ⟨p1, q1, r1, s2⟩, f0, f1, f2⟩ := three3 hb1
  have hx := chainA (chainAA hb1)
  go_wp2
  exact bodyPost_ret (v := .tuple #[.agg #[.int .i64 R.1, .int .i64 R.2.1, .string ⟨#[]⟩], .int .i64 R.2.2]) (by simp [results, Tryz.results125, go_sem, p1, q1, r1]) rfl ⟨rfl, by go_grown⟩

theorem enters_less (xs : Array Value) (w : World) : (callFunc 153 xs).run Tryz.prog w = .ok (.enter 153 xs) w := by kernel_rfl

set_option maxHeartbeats 400000 in
theorem less_impl (k1 n1 : Int) (t1 : ByteArray) (k2 n2 : Int) (t2 : ByteArray) (w : World) (ht1 : t1.size ≤ maxLen) (ht2 : t2.size ≤ maxLen) :
    Calls Tryz.prog 126 #[.agg #[.int .i64 k1, .int .i64 n1, .string t1], .agg #[.int .i64 k2, .int .i64 n2, .string t2]] w fun e w' => e = .returned (.tuple #[.agg #[.int .i64 (resR subO k1 n1 t1 k2 n2 t2).1, .int .i64 (resR subO k1 n1 t1 k2 n2 t2).2.1, .string ⟨#[]⟩], .int .i64 (resR subO k1 n1 t1 k2 n2 t2).2.2]) ∧ Below w.heap.size w w' := by
  obtain ⟨x1, hx1⟩ : ∃ x, (if knownB k1 n1 t1 = true then n1 else 0) = x := ⟨_, rfl⟩
  obtain ⟨x2, hx2⟩ : ∃ x, (if knownB k2 n2 t2 = true then n2 else 0) = x := ⟨_, rfl⟩
  rw [resR_open subO k1 n1 t1 k2 n2 t2 x1 x2 hx1 hx2]
  have H : Hid (∀ w, Calls Tryz.prog 151 #[.agg #[.int .i64 k1, .int .i64 n1, .string t1], .agg #[.int .i64 k2, .int .i64 n2, .string t2], .func (.func 153) #[] #[]] w fun e w' => e = .returned (.tuple #[.agg #[.int .i64 (opR (rightB k1 n1 t1 && rightB k2 n2 t2) (knownB k1 n1 t1 && knownB k2 n2 t2) (subO x1 x2).1 (subO x1 x2).2).1, .int .i64 (opR (rightB k1 n1 t1 && rightB k2 n2 t2) (knownB k1 n1 t1 && knownB k2 n2 t2) (subO x1 x2).1 (subO x1 x2).2).2.1, .string ⟨#[]⟩], .int .i64 (opR (rightB k1 n1 t1 && rightB k2 n2 t2) (knownB k1 n1 t1 && knownB k2 n2 t2) (subO x1 x2).1 (subO x1 x2).2).2.2]) ∧ Below w.heap.size w w') := fun w =>
    reckon 153 enters_less _ _ k1 n1 t1 k2 n2 t2 x1 x2 _ _ _ _ rfl rfl hx1 rfl rfl hx2 (fun w => less_impl1 x1 x2 w) w ht1 ht2
  clear hx1 hx2
  generalize opR (rightB k1 n1 t1 && rightB k2 n2 t2) (knownB k1 n1 t1 && knownB k2 n2 t2) (subO x1 x2).1 (subO x1 x2).2 = R at H ⊢
  go_enter Tryz.func126, Tryz.ntmps126
  go_wp2_with fail
  refine (H.out _).mono ?_
  rintro e w1 ⟨rfl, hb1⟩
  obtain ⟨⟨a1, b1, c1, d1⟩, ⟨x1, y1, z1, s1⟩, ⟨p1, q1, r1, s2⟩, f0, f1, f2⟩ := three3 hb1
  have hx := chainA (chainAA hb1)
  go_wp2
  exact bodyPost_ret (v := .tuple #[.agg #[.int .i64 R.1, .int .i64 R.2.1, .string ⟨#[]⟩], .int .i64 R.2.2]) (by simp [results, Tryz.results126, go_sem, p1, q1, r1]) rfl ⟨rfl, by go_grown⟩

theorem enters_times (xs : Array Value) (w : World) : (callFunc 154 xs).run Tryz.prog w = .ok (.enter 154 xs) w := by kernel_rfl

set_option maxHeartbeats 400000 in
theorem times_impl (k1 n1 : Int) (t1 : ByteArray) (k2 n2 : Int) (t2 : ByteArray) (w : World) (ht1 : t1.size ≤ maxLen) (ht2 : t2.size ≤ maxLen) :
    Calls Tryz.prog 127 #[.agg #[.int .i64 k1, .int .i64 n1, .string t1], .agg #[.int .i64 k2, .int .i64 n2, .string t2]] w fun e w' => e = .returned (.tuple #[.agg #[.int .i64 (resR mulO k1 n1 t1 k2 n2 t2).1, .int .i64 (resR mulO k1 n1 t1 k2 n2 t2).2.1, .string ⟨#[]⟩], .int .i64 (resR mulO k1 n1 t1 k2 n2 t2).2.2]) ∧ Below w.heap.size w w' := by
  obtain ⟨x1, hx1⟩ : ∃ x, (if knownB k1 n1 t1 = true then n1 else 0) = x := ⟨_, rfl⟩
  obtain ⟨x2, hx2⟩ : ∃ x, (if knownB k2 n2 t2 = true then n2 else 0) = x := ⟨_, rfl⟩
  rw [resR_open mulO k1 n1 t1 k2 n2 t2 x1 x2 hx1 hx2]
  have H : Hid (∀ w, Calls Tryz.prog 151 #[.agg #[.int .i64 k1, .int .i64 n1, .string t1], .agg #[.int .i64 k2, .int .i64 n2, .string t2], .func (.func 154) #[] #[]] w fun e w' => e = .returned (.tuple #[.agg #[.int .i64 (opR (rightB k1 n1 t1 && rightB k2 n2 t2) (knownB k1 n1 t1 && knownB k2 n2 t2) (mulO x1 x2).1 (mulO x1 x2).2).1, .int .i64 (opR (rightB k1 n1 t1 && rightB k2 n2 t2) (knownB k1 n1 t1 && knownB k2 n2 t2) (mulO x1 x2).1 (mulO x1 x2).2).2.1, .string ⟨#[]⟩], .int .i64 (opR (rightB k1 n1 t1 && rightB k2 n2 t2) (knownB k1 n1 t1 && knownB k2 n2 t2) (mulO x1 x2).1 (mulO x1 x2).2).2.2]) ∧ Below w.heap.size w w') := fun w =>
    reckon 154 enters_times _ _ k1 n1 t1 k2 n2 t2 x1 x2 _ _ _ _ rfl rfl hx1 rfl rfl hx2 (fun w => times_impl1 x1 x2 w) w ht1 ht2
  clear hx1 hx2
  generalize opR (rightB k1 n1 t1 && rightB k2 n2 t2) (knownB k1 n1 t1 && knownB k2 n2 t2) (mulO x1 x2).1 (mulO x1 x2).2 = R at H ⊢
  go_enter Tryz.func127, Tryz.ntmps127
  go_wp2_with fail
  refine (H.out _).mono ?_
  rintro e w1 ⟨rfl, hb1⟩
  obtain ⟨⟨a1, b1, c1, d1⟩, ⟨x1, y1, z1, s1⟩, ⟨p1, q1, r1, s2⟩, f0, f1, f2⟩ := three3 hb1
  have hx := chainA (chainAA hb1)
  go_wp2
  exact bodyPost_ret (v := .tuple #[.agg #[.int .i64 R.1, .int .i64 R.2.1, .string ⟨#[]⟩], .int .i64 R.2.2]) (by simp [results, Tryz.results127, go_sem, p1, q1, r1]) rfl ⟨rfl, by go_grown⟩

theorem divide_all (a b : Int) (w : World) :
    Calls Tryz.prog 155 #[.int .i64 a, .int .i64 b] w fun e w' => e = .returned (.tuple #[.int .i64 (divO a b).1, .int .i64 (divO a b).2]) ∧ w' = w := by
  unfold divO
  by_cases hb : b = 0
  · subst hb; exact divide_impl0 a w
  · rw [if_neg hb]; exact divide_impl a b hb w

theorem enters_by (xs : Array Value) (w : World) : (callFunc 155 xs).run Tryz.prog w = .ok (.enter 155 xs) w := by kernel_rfl

set_option maxHeartbeats 400000 in
theorem by_impl (k1 n1 : Int) (t1 : ByteArray) (k2 n2 : Int) (t2 : ByteArray) (w : World) (ht1 : t1.size ≤ maxLen) (ht2 : t2.size ≤ maxLen) :
    Calls Tryz.prog 128 #[.agg #[.int .i64 k1, .int .i64 n1, .string t1], .agg #[.int .i64 k2, .int .i64 n2, .string t2]] w fun e w' => e = .returned (.tuple #[.agg #[.int .i64 (resR divO k1 n1 t1 k2 n2 t2).1, .int .i64 (resR divO k1 n1 t1 k2 n2 t2).2.1, .string ⟨#[]⟩], .int .i64 (resR divO k1 n1 t1 k2 n2 t2).2.2]) ∧ Below w.heap.size w w' := by
  obtain ⟨x1, hx1⟩ : ∃ x, (if knownB k1 n1 t1 = true then n1 else 0) = x := ⟨_, rfl⟩
  obtain ⟨x2, hx2⟩ : ∃ x, (if knownB k2 n2 t2 = true then n2 else 0) = x := ⟨_, rfl⟩
  rw [resR_open divO k1 n1 t1 k2 n2 t2 x1 x2 hx1 hx2]
  have H : Hid (∀ w, Calls Tryz.prog 151 #[.agg #[.int .i64 k1, .int .i64 n1, .string t1], .agg #[.int .i64 k2, .int .i64 n2, .string t2], .func (.func 155) #[] #[]] w fun e w' => e = .returned (.tuple #[.agg #[.int .i64 (opR (rightB k1 n1 t1 && rightB k2 n2 t2) (knownB k1 n1 t1 && knownB k2 n2 t2) (divO x1 x2).1 (divO x1 x2).2).1, .int .i64 (opR (rightB k1 n1 t1 && rightB k2 n2 t2) (knownB k1 n1 t1 && knownB k2 n2 t2) (divO x1 x2).1 (divO x1 x2).2).2.1, .string ⟨#[]⟩], .int .i64 (opR (rightB k1 n1 t1 && rightB k2 n2 t2) (knownB k1 n1 t1 && knownB k2 n2 t2) (divO x1 x2).1 (divO x1 x2).2).2.2]) ∧ Below w.heap.size w w') := fun w =>
    reckon 155 enters_by _ _ k1 n1 t1 k2 n2 t2 x1 x2 _ _ _ _ rfl rfl hx1 rfl rfl hx2 (fun w => divide_all x1 x2 w) w ht1 ht2
  clear hx1 hx2
  generalize opR (rightB k1 n1 t1 && rightB k2 n2 t2) (knownB k1 n1 t1 && knownB k2 n2 t2) (divO x1 x2).1 (divO x1 x2).2 = R at H ⊢
  go_enter Tryz.func128, Tryz.ntmps128
  go_wp2_with fail
  refine (H.out _).mono ?_
  rintro e w1 ⟨rfl, hb1⟩
  obtain ⟨⟨a1, b1, c1, d1⟩, ⟨x1, y1, z1, s1⟩, ⟨p1, q1, r1, s2⟩, f0, f1, f2⟩ := three3 hb1
  have hx := chainA (chainAA hb1)
  go_wp2
  exact bodyPost_ret (v := .tuple #[.agg #[.int .i64 R.1, .int .i64 R.2.1, .string ⟨#[]⟩], .int .i64 R.2.2]) (by simp [results, Tryz.results128, go_sem, p1, q1, r1]) rfl ⟨rfl, by go_grown⟩

end Go.Proofs.YthgbjnchhaoceaaGreatDoor

/-
  The contract of the program's cell of a truth.
-/
namespace Go.Proofs.YthgbjnchhaoceaaGreatDoor
open Go.ChangeShapes Go.WideShapes Go.ChangeAt Go.RowKit

theorem truth_impl (b : Bool) (w : World) :
    Calls Tryz.prog 78 #[.bool b] w fun e w' => e = .returned (.agg #[.int .i64 3, .int .i64 (if b = true then 1 else 0), .string ⟨#[]⟩]) ∧ Below w.heap.size w w' := by
  cases b
  · go_enter Tryz.func78, Tryz.ntmps78
    go_wp2_with fail
    refine (cell3 _ _).mono ?_
    rintro e w1 ⟨rfl, hb1⟩
    obtain ⟨⟨a1, b1, c1, d1⟩, f0, f1, f2⟩ := box3F hb1
    have hx := chainA hb1
    go_wp2
    exact bodyPost_ret (v := .agg #[.int .i64 3, .int .i64 0, .string ⟨#[]⟩]) (by simp [results, Tryz.results78, go_sem, a1, b1, c1]) rfl ⟨rfl, by go_grown⟩
  · go_enter Tryz.func78, Tryz.ntmps78
    go_wp2_with fail
    refine (cell3 _ _).mono ?_
    rintro e w1 ⟨rfl, hb1⟩
    obtain ⟨⟨a1, b1, c1, d1⟩, f0, f1, f2⟩ := box3F hb1
    have hx := chainA hb1
    go_wp2
    exact bodyPost_ret (v := .agg #[.int .i64 3, .int .i64 1, .string ⟨#[]⟩]) (by simp [results, Tryz.results78, go_sem, a1, b1, c1]) rfl ⟨rfl, by go_grown⟩

theorem truth_implb (b : Bool) (n : Int) (hn : (if b = true then 1 else 0) = n) (w : World) :
    Calls Tryz.prog 78 #[.bool b] w fun e w' => e = .returned (.agg #[.int .i64 3, .int .i64 n, .string ⟨#[]⟩]) ∧ Below w.heap.size w w' := by
  subst hn; exact truth_impl b w

end Go.Proofs.YthgbjnchhaoceaaGreatDoor

/-
  The contracts of the program's own small functions on truths: what an answer's rank is, what the lesser, the greater and the turned one of ranks is, and the cell of a rank.
-/
namespace Go.Proofs.YthgbjnchhaoceaaGreatDoor
open Go.ChangeShapes Go.WideShapes Go.ChangeAt Go.RowKit

/-- A right cell that is a truth or none. -/
def threeB (k n : Int) (t : ByteArray) : Bool := okB k n t && (k == 3 || k == 0)
/-- Where an answer stands: no, nobody knows, yes. -/
def rankI (k n : Int) : Int := if k = 0 then 1 else if n = 1 then 2 else 0
/-- The kind and the number of the cell at a rank. -/
def rkK (r : Int) : Int := if r = 1 then 0 else 3
def rkN (r : Int) : Int := if r = 2 then 1 else 0
/-- What comes of right answers, and what else: kind, number, fault. -/
def resT (right : Bool) (r : Int) : Int × Int × Int := if right = true then (rkK r, rkN r, 0) else (0, 0, 3)
/-- What Not comes to: kind, number, fault. -/
def notR (k n : Int) (t : ByteArray) : Int × Int × Int := resT (threeB k n t) (2 - rankI k n)
/-- What Both comes to: kind, number, fault. -/
def bothR (k1 n1 : Int) (t1 : ByteArray) (k2 n2 : Int) (t2 : ByteArray) : Int × Int × Int := resT (threeB k1 n1 t1 && threeB k2 n2 t2) (min (rankI k1 n1) (rankI k2 n2))
/-- What Either comes to: kind, number, fault. -/
def eitherR (k1 n1 : Int) (t1 : ByteArray) (k2 n2 : Int) (t2 : ByteArray) : Int × Int × Int := resT (threeB k1 n1 t1 && threeB k2 n2 t2) (max (rankI k1 n1) (rankI k2 n2))
/-- What IsNone comes to: kind, number, fault. -/
def noneR (k n : Int) (t : ByteArray) : Int × Int × Int := if okB k n t = true then (3, if k = 0 then 1 else 0, 0) else (0, 0, 3)

theorem acell_impl (r : Int) (w : World) :
    Calls Tryz.prog 169 #[.int .i64 r] w fun e w' => e = .returned (.agg #[.int .i64 (rkK r), .int .i64 (rkN r), .string ⟨#[]⟩]) ∧ Below w.heap.size w w' := by
  by_cases h1 : r = 1
  · subst h1
    go_enter Tryz.func169, Tryz.ntmps169
    go_wp2_with fail
    refine (cell0 _).mono ?_
    rintro e w1 ⟨rfl, hb1⟩
    obtain ⟨⟨a1, b1, c1, d1⟩, f0, f1, f2⟩ := box3F hb1
    have hx := chainA hb1
    go_wp2
    exact bodyPost_ret (v := .agg #[.int .i64 0, .int .i64 0, .string ⟨#[]⟩]) (by simp [results, Tryz.results169, go_sem, a1, b1, c1]) rfl ⟨rfl, by go_grown⟩
  · have hk : rkK r = 3 := by simp [rkK, h1]
    rw [hk]
    go_enter Tryz.func169, Tryz.ntmps169
    go_wp2_with fail
    refine (truth_implb _ (rkN r) (by simp [rkN]) _).mono ?_
    rintro e w1 ⟨rfl, hb1⟩
    obtain ⟨⟨a1, b1, c1, d1⟩, f0, f1, f2⟩ := box3F hb1
    have hx := chainA hb1
    go_wp2
    exact bodyPost_ret (v := .agg #[.int .i64 3, .int .i64 (rkN r), .string ⟨#[]⟩]) (by simp [results, Tryz.results169, go_sem, a1, b1, c1]) rfl ⟨rfl, by go_grown⟩

theorem both_m (x y : Int) (w : World) :
    Calls Tryz.prog 160 #[.int .i64 x, .int .i64 y] w fun e w' => e = .returned (.int .i64 (min x y)) ∧ w' = w := by
  go_enter Tryz.func160, Tryz.ntmps160
  go_wp2
  all_goals go_ret
  all_goals exact ⟨ret_int (by omega), rfl⟩

theorem either_m (x y : Int) (w : World) :
    Calls Tryz.prog 161 #[.int .i64 x, .int .i64 y] w fun e w' => e = .returned (.int .i64 (max x y)) ∧ w' = w := by
  go_enter Tryz.func161, Tryz.ntmps161
  go_wp2
  all_goals go_ret
  all_goals exact ⟨ret_int (by omega), rfl⟩

theorem turned_m (x : Int) (h0 : 0 ≤ x) (h2 : x ≤ 2) (w : World) :
    Calls Tryz.prog 162 #[.int .i64 x] w fun e w' => e = .returned (.int .i64 (2 - x)) ∧ w' = w := by
  go_enter Tryz.func162, Tryz.ntmps162
  go_wp2
  go_ret
  exact ⟨by first | rfl | (rw [wrap64_id (by omega) (by omega)]), rfl⟩

set_option maxHeartbeats 400000 in
theorem answer_wrong (k n : Int) (t : ByteArray) (h : okB k n t = false) (w : World) (ht : t.size ≤ maxLen) :
    Calls Tryz.prog 41 #[.agg #[.int .i64 k, .int .i64 n, .string t]] w fun e w' => e = .returned (.tuple #[.int .i64 0, .bool false]) ∧ Below w.heap.size w w' := by
  go_enter Tryz.func41, Tryz.ntmps41
  go_wp2_with fail
  refine (ok_implb _ _ _ _ h _ ht).mono ?_
  rintro e w1 ⟨rfl, hb1⟩
  have hx := chainA hb1
  go_wp2
  go_ret2
  exact ⟨rfl, by go_grown⟩

set_option maxHeartbeats 400000 in
theorem answer_none (n : Int) (t : ByteArray) (h : okB 0 n t = true) (w : World) (ht : t.size ≤ maxLen) :
    Calls Tryz.prog 41 #[.agg #[.int .i64 0, .int .i64 n, .string t]] w fun e w' => e = .returned (.tuple #[.int .i64 1, .bool true]) ∧ Below w.heap.size w w' := by
  have q0 := asserts_noneShape
  go_enter Tryz.func41, Tryz.ntmps41
  go_wp2_with fail
  refine (ok_implb _ _ _ _ h _ ht).mono ?_
  rintro e w1 ⟨rfl, hb1⟩
  obtain ⟨a1, b1, c1, d1⟩ := box3 hb1
  go_wp2_with fail
  refine (shape0 _ _ _).mono ?_
  rintro e w2 ⟨rfl, hb2⟩
  have hx := chain (chainA hb1) hb2
  have hxs := hx.size
  go_wp2
  go_ret2
  exact ⟨rfl, by go_grown⟩

set_option maxHeartbeats 400000 in
theorem answer_num (n : Int) (t : ByteArray) (h : okB 1 n t = true) (w : World) (ht : t.size ≤ maxLen) :
    Calls Tryz.prog 41 #[.agg #[.int .i64 1, .int .i64 n, .string t]] w fun e w' => e = .returned (.tuple #[.int .i64 0, .bool false]) ∧ Below w.heap.size w w' := by
  have q0 := asserts_numberShape.1
  have q1 : (∀ (v : Value) (w : World), (Instr.typeAssert (.iface 124 v) 100 105 true).run Tryz.prog w = .ok (.tuple #[.agg #[.int .i64 0], .bool false]) w) := fun v w => by kernel_rfl
  go_enter Tryz.func41, Tryz.ntmps41
  go_wp2_with fail
  refine (ok_implb _ _ _ _ h _ ht).mono ?_
  rintro e w1 ⟨rfl, hb1⟩
  obtain ⟨a1, b1, c1, d1⟩ := box3 hb1
  go_wp2_with fail
  refine (shape1 _ _ _).mono ?_
  rintro e w2 ⟨rfl, hb2⟩
  have hx := chain (chainA hb1) hb2
  have hxs := hx.size
  go_wp2
  go_ret2
  exact ⟨rfl, by go_grown⟩

set_option maxHeartbeats 400000 in
theorem answer_text (n : Int) (t : ByteArray) (h : okB 2 n t = true) (w : World) (ht : t.size ≤ maxLen) :
    Calls Tryz.prog 41 #[.agg #[.int .i64 2, .int .i64 n, .string t]] w fun e w' => e = .returned (.tuple #[.int .i64 0, .bool false]) ∧ Below w.heap.size w w' := by
  have q0 := asserts_textShape.1
  have q1 : (∀ (v : Value) (w : World), (Instr.typeAssert (.iface 126 v) 100 105 true).run Tryz.prog w = .ok (.tuple #[.agg #[.int .i64 0], .bool false]) w) := fun v w => by kernel_rfl
  go_enter Tryz.func41, Tryz.ntmps41
  go_wp2_with fail
  refine (ok_implb _ _ _ _ h _ ht).mono ?_
  rintro e w1 ⟨rfl, hb1⟩
  obtain ⟨a1, b1, c1, d1⟩ := box3 hb1
  go_wp2_with fail
  refine (shape2 _ _ _).mono ?_
  rintro e w2 ⟨rfl, hb2⟩
  have hx := chain (chainA hb1) hb2
  have hxs := hx.size
  go_wp2
  go_ret2
  exact ⟨rfl, by go_grown⟩

set_option maxHeartbeats 400000 in
theorem answer_truth (n : Int) (t : ByteArray) (h : okB 3 n t = true) (w : World) (ht : t.size ≤ maxLen) :
    Calls Tryz.prog 41 #[.agg #[.int .i64 3, .int .i64 n, .string t]] w fun e w' => e = .returned (.tuple #[.int .i64 (if n = 1 then 2 else 0), .bool true]) ∧ Below w.heap.size w w' := by
  have q0 := asserts_truthShape.1
  have q3 := asserts_truthShape.2.2.2
  by_cases hn : n = 1
  · subst hn
    go_enter Tryz.func41, Tryz.ntmps41
    go_wp2_with fail
    refine (ok_implb _ _ _ _ h _ ht).mono ?_
    rintro e w1 ⟨rfl, hb1⟩
    obtain ⟨a1, b1, c1, d1⟩ := box3 hb1
    go_wp2_with fail
    refine (shape3 _ _ _).mono ?_
    rintro e w2 ⟨rfl, hb2⟩
    have hx := chain (chainA hb1) hb2
    have hxs := hx.size
    go_wp2
    go_ret2
    exact ⟨rfl, by go_grown⟩
  · rw [if_neg hn]
    go_enter Tryz.func41, Tryz.ntmps41
    go_wp2_with fail
    refine (ok_implb _ _ _ _ h _ ht).mono ?_
    rintro e w1 ⟨rfl, hb1⟩
    obtain ⟨a1, b1, c1, d1⟩ := box3 hb1
    go_wp2_with fail
    refine (shape3 _ _ _).mono ?_
    rintro e w2 ⟨rfl, hb2⟩
    have hx := chain (chainA hb1) hb2
    have hxs := hx.size
    go_wp2
    go_ret2
    exact ⟨rfl, by go_grown⟩

/-- What the program makes of a cell to answer with. -/
theorem answer_impl (k n : Int) (t : ByteArray) (x : Int) (rt : Bool) (hr : threeB k n t = rt) (hx : (if rt = true then rankI k n else 0) = x) (w : World) (ht : t.size ≤ maxLen) :
    Calls Tryz.prog 41 #[.agg #[.int .i64 k, .int .i64 n, .string t]] w fun e w' => e = .returned (.tuple #[.int .i64 x, .bool rt]) ∧ Below w.heap.size w w' := by
  subst hr hx
  cases h : okB k n t
  · have h2 : threeB k n t = false := by simp [threeB, h]
    rw [h2]; exact answer_wrong k n t h w ht
  by_cases k0 : k = 0
  · subst k0
    have h2 : threeB 0 n t = true := by simp [threeB, h]
    rw [h2]; exact answer_none n t h w ht
  by_cases k3 : k = 3
  · subst k3
    have h2 : threeB 3 n t = true := by simp [threeB, h]
    rw [h2]; exact answer_truth n t h w ht
  have h2 : threeB k n t = false := by simp [threeB, k0, k3]
  rw [h2]
  by_cases k1 : k = 1
  · subst k1; exact answer_num n t h w ht
  by_cases k2 : k = 2
  · subst k2; exact answer_text n t h w ht
  · exact absurd h (by simp [okB, k0, k1, k2, k3])

end Go.Proofs.YthgbjnchhaoceaaGreatDoor

/-
  The contracts of the model's order on cells.
-/
namespace Go.Proofs.YthgbjnchhaoceaaGreatDoor
open Go.ChangeShapes Go.WideShapes Go.ChangeAt Go.RowKit
attribute [local go_sem ↓] Go.wp_at_zero Go.wp_at_succ

/-- Is the one cell less than the other? By kind, then by number, then by text. -/
def lessB (k1 n1 : Int) (t1 : ByteArray) (k2 n2 : Int) (t2 : ByteArray) : Bool :=
  if (k1 != k2) = true then decide (k1 < k2) else if (n1 != n2) = true then decide (n1 < n2) else Op.bytesLess t1.toList t2.toList

theorem cless_spec (k1 n1 : Int) (t1 : ByteArray) (k2 n2 : Int) (t2 : ByteArray) (w : World) :
    Calls Tryz.prog 141 #[.agg #[.int .i64 k1, .int .i64 n1, .string t1], .agg #[.int .i64 k2, .int .i64 n2, .string t2]] w fun e w' => e = .returned (.bool (lessB k1 n1 t1 k2 n2 t2)) ∧ Below w.heap.size w w' := by
  cases h1 : (k1 != k2)
  · cases h2 : (n1 != n2)
    · rw [show lessB k1 n1 t1 k2 n2 t2 = Op.bytesLess t1.toList t2.toList from by simp only [lessB, h1, h2]; rfl]
      go_enter Tryz.func141, Tryz.ntmps141
      go_wp2
      go_ret
      exact ⟨rfl, by go_grown⟩
    · rw [show lessB k1 n1 t1 k2 n2 t2 = decide (n1 < n2) from by simp only [lessB, h1, h2]; rfl]
      go_enter Tryz.func141, Tryz.ntmps141
      go_wp2
      go_ret
      exact ⟨rfl, by go_grown⟩
  · rw [show lessB k1 n1 t1 k2 n2 t2 = decide (k1 < k2) from by simp only [lessB, h1]; rfl]
    go_enter Tryz.func141, Tryz.ntmps141
    go_wp2
    go_ret
    exact ⟨rfl, by go_grown⟩

theorem cless_specb (k1 n1 : Int) (t1 : ByteArray) (k2 n2 : Int) (t2 : ByteArray) (b : Bool) (hb : lessB k1 n1 t1 k2 n2 t2 = b) (w : World) :
    Calls Tryz.prog 141 #[.agg #[.int .i64 k1, .int .i64 n1, .string t1], .agg #[.int .i64 k2, .int .i64 n2, .string t2]] w fun e w' => e = .returned (.bool b) ∧ Below w.heap.size w w' := by
  subst hb; exact cless_spec k1 n1 t1 k2 n2 t2 w

end Go.Proofs.YthgbjnchhaoceaaGreatDoor

/-
  The contracts of the model's SameAs and Below.
-/
namespace Go.Proofs.YthgbjnchhaoceaaGreatDoor
open Go.ChangeShapes Go.WideShapes Go.ChangeAt Go.RowKit
attribute [local go_sem ↓] Go.wp_at_zero Go.wp_at_succ

/-- Are both right, and is one none? -/
def nonesB (k1 n1 : Int) (t1 : ByteArray) (k2 n2 : Int) (t2 : ByteArray) : Bool := (okB k1 n1 t1 && okB k2 n2 t2) && (k1 == 0 || k2 == 0)
/-- Are both right, and of one kind, or is one none? -/
def likeB (k1 n1 : Int) (t1 : ByteArray) (k2 n2 : Int) (t2 : ByteArray) : Bool := (okB k1 n1 t1 && okB k2 n2 t2) && ((k1 == 0 || k2 == 0) || k1 == k2)
/-- What comes of two cells that are held against each other: kind, number, fault. -/
def heldR (like none yes : Bool) : Int × Int × Int := if like = false then (0, 0, 3) else if none = true then (0, 0, 0) else (3, if yes = true then 1 else 0, 0)
/-- What SameAs comes to: kind, number, fault. -/
def sameR (k1 n1 : Int) (t1 : ByteArray) (k2 n2 : Int) (t2 : ByteArray) : Int × Int × Int := heldR (likeB k1 n1 t1 k2 n2 t2) (nonesB k1 n1 t1 k2 n2 t2) (sameB k1 n1 t1 k2 n2 t2)
/-- What Below comes to: kind, number, fault. -/
def belowR (k1 n1 : Int) (t1 : ByteArray) (k2 n2 : Int) (t2 : ByteArray) : Int × Int × Int := heldR (likeB k1 n1 t1 k2 n2 t2) (nonesB k1 n1 t1 k2 n2 t2) (lessB k1 n1 t1 k2 n2 t2)

set_option maxHeartbeats 2000000 in
theorem like_spec (k1 n1 : Int) (t1 : ByteArray) (k2 n2 : Int) (t2 : ByteArray) (w : World) (ht1 : t1.size ≤ maxLen) (ht2 : t2.size ≤ maxLen) :
    Calls Tryz.prog 140 #[.agg #[.int .i64 k1, .int .i64 n1, .string t1], .agg #[.int .i64 k2, .int .i64 n2, .string t2]] w fun e w' => e = .returned (.tuple #[.bool (likeB k1 n1 t1 k2 n2 t2), .bool (nonesB k1 n1 t1 k2 n2 t2)]) ∧ Below w.heap.size w w' := by
  unfold likeB nonesB
  cases h1 : okB k1 n1 t1
  · go_enter Tryz.func140, Tryz.ntmps140
    go_wp2_with fail
    refine (ok_specb _ _ _ _ h1 _ ht1).mono ?_
    rintro e w1 ⟨rfl, hb1⟩
    obtain ⟨⟨a1, b1, c1, d1⟩, ⟨x1, y1, z1, s1⟩, ff⟩ := two3 hb1
    have hx := chainAA hb1
    go_wp2
    go_ret2
    exact ⟨rfl, hx⟩
  cases h2 : okB k2 n2 t2
  · go_enter Tryz.func140, Tryz.ntmps140
    go_wp2_with fail
    refine (ok_specb _ _ _ _ h1 _ ht1).mono ?_
    rintro e w1 ⟨rfl, hb1⟩
    obtain ⟨⟨a1, b1, c1, d1⟩, ⟨x1, y1, z1, s1⟩, ff⟩ := two3 hb1
    go_wp2_with fail
    refine (ok_specb _ _ _ _ h2 _ ht2).mono ?_
    rintro e w2 ⟨rfl, hb2⟩
    have hx := chain (chainAA hb1) hb2
    go_wp2
    go_ret2
    exact ⟨rfl, hx⟩
  cases g1 : (k1 == 0) <;> cases g2 : (k2 == 0) <;> cases g3 : (k1 == k2)
  all_goals
    go_enter Tryz.func140, Tryz.ntmps140
    go_wp2_with fail
    refine (ok_specb _ _ _ _ h1 _ ht1).mono ?_
    rintro e w1 ⟨rfl, hb1⟩
    obtain ⟨⟨a1, b1, c1, d1⟩, ⟨x1, y1, z1, s1⟩, ff⟩ := two3 hb1
    go_wp2_with fail
    refine (ok_specb _ _ _ _ h2 _ ht2).mono ?_
    rintro e w2 ⟨rfl, hb2⟩
    obtain ⟨a2, b2, c2, d2⟩ := later3 hb2 ⟨a1, b1, c1, d1⟩
    obtain ⟨x2, y2, z2, s2⟩ := later3 hb2 ⟨x1, y1, z1, s1⟩
    have hx := chain (chainAA hb1) hb2
    go_wp2
    go_ret2
    exact ⟨rfl, hx⟩


set_option maxHeartbeats 1000000 in
theorem same_spec (k1 n1 : Int) (t1 : ByteArray) (k2 n2 : Int) (t2 : ByteArray) (w : World) (ht1 : t1.size ≤ maxLen) (ht2 : t2.size ≤ maxLen) :
    Calls Tryz.prog 105 #[.agg #[.int .i64 k1, .int .i64 n1, .string t1], .agg #[.int .i64 k2, .int .i64 n2, .string t2]] w fun e w' => e = .returned (.tuple #[.agg #[.int .i64 (sameR k1 n1 t1 k2 n2 t2).1, .int .i64 (sameR k1 n1 t1 k2 n2 t2).2.1, .string ⟨#[]⟩], .int .i64 (sameR k1 n1 t1 k2 n2 t2).2.2]) ∧ Below w.heap.size w w' := by
  have H : Hid (∀ w, Calls Tryz.prog 140 #[.agg #[.int .i64 k1, .int .i64 n1, .string t1], .agg #[.int .i64 k2, .int .i64 n2, .string t2]] w fun e w' => e = .returned (.tuple #[.bool (likeB k1 n1 t1 k2 n2 t2), .bool (nonesB k1 n1 t1 k2 n2 t2)]) ∧ Below w.heap.size w w') := fun w => like_spec k1 n1 t1 k2 n2 t2 w ht1 ht2
  unfold sameR
  obtain ⟨yes, hy⟩ : ∃ b, sameB k1 n1 t1 k2 n2 t2 = b := ⟨_, rfl⟩
  rw [hy]
  have hq : ∀ w, (binOp .eql 30 (.agg #[.int .i64 k1, .int .i64 n1, .string t1]) (.agg #[.int .i64 k2, .int .i64 n2, .string t2])).run Tryz.prog w = .ok (.bool yes) w := fun w => by rw [run_eql, hy]
  generalize likeB k1 n1 t1 k2 n2 t2 = li at H ⊢
  generalize nonesB k1 n1 t1 k2 n2 t2 = no at H ⊢
  cases li
  · go_enter Tryz.func105, Tryz.ntmps105
    go_wp2_with fail
    refine (H.out _).mono ?_
    rintro e w1 ⟨rfl, hb1⟩
    obtain ⟨⟨a1, b1, c1, d1⟩, ⟨x1, y1, z1, s1⟩, ⟨p1, q1, r1, s2⟩, f0, f1, f2⟩ := three3 hb1
    have hx := chainA (chainAA hb1)
    have hxs := hx.size
    go_wp2
    exact bodyPost_ret (v := .tuple #[.agg #[.int .i64 0, .int .i64 0, .string ⟨#[]⟩], .int .i64 3]) (by simp [results, Tryz.results105, go_sem, p1, q1, r1]) rfl ⟨rfl, by go_grown⟩
  cases no
  · obtain ⟨m, hm⟩ : ∃ m : Int, (if yes = true then 1 else 0) = m := ⟨_, rfl⟩
    simp only [show heldR true false yes = (3, m, 0) from by simp [heldR, hm]]
    go_enter Tryz.func105, Tryz.ntmps105
    go_wp2_with fail
    refine (H.out _).mono ?_
    rintro e w1 ⟨rfl, hb1⟩
    obtain ⟨⟨a1, b1, c1, d1⟩, ⟨x1, y1, z1, s1⟩, ⟨p1, q1, r1, s2⟩, ff⟩ := three3 hb1
    have hx := chainA (chainAA hb1)
    clear hb1
    go_wp2_with fail
    refine (truth_specb _ m hm _).mono ?_
    rintro e w6 ⟨rfl, hb6⟩
    obtain ⟨f0, f1, f2⟩ := frozen3 hb6 s2 ff
    obtain ⟨p4, q4, r4, s7⟩ := later3 hb6 ⟨p1, q1, r1, s2⟩
    replace hx := chain hx hb6
    have hxs := hx.size
    go_wp2
    exact bodyPost_ret (v := .tuple #[.agg #[.int .i64 3, .int .i64 m, .string ⟨#[]⟩], .int .i64 0]) (by simp [results, Tryz.results105, go_sem, p4, q4, r4]) rfl ⟨rfl, by go_grown⟩
  · go_enter Tryz.func105, Tryz.ntmps105
    go_wp2_with fail
    refine (H.out _).mono ?_
    rintro e w1 ⟨rfl, hb1⟩
    obtain ⟨⟨a1, b1, c1, d1⟩, ⟨x1, y1, z1, s1⟩, ⟨p1, q1, r1, s2⟩, f0, f1, f2⟩ := three3 hb1
    have hx := chainA (chainAA hb1)
    have hxs := hx.size
    go_wp2
    exact bodyPost_ret (v := .tuple #[.agg #[.int .i64 0, .int .i64 0, .string ⟨#[]⟩], .int .i64 0]) (by simp [results, Tryz.results105, go_sem, p1, q1, r1]) rfl ⟨rfl, by go_grown⟩


set_option maxHeartbeats 1000000 in
theorem below_spec (k1 n1 : Int) (t1 : ByteArray) (k2 n2 : Int) (t2 : ByteArray) (w : World) (ht1 : t1.size ≤ maxLen) (ht2 : t2.size ≤ maxLen) :
    Calls Tryz.prog 106 #[.agg #[.int .i64 k1, .int .i64 n1, .string t1], .agg #[.int .i64 k2, .int .i64 n2, .string t2]] w fun e w' => e = .returned (.tuple #[.agg #[.int .i64 (belowR k1 n1 t1 k2 n2 t2).1, .int .i64 (belowR k1 n1 t1 k2 n2 t2).2.1, .string ⟨#[]⟩], .int .i64 (belowR k1 n1 t1 k2 n2 t2).2.2]) ∧ Below w.heap.size w w' := by
  have H : Hid (∀ w, Calls Tryz.prog 140 #[.agg #[.int .i64 k1, .int .i64 n1, .string t1], .agg #[.int .i64 k2, .int .i64 n2, .string t2]] w fun e w' => e = .returned (.tuple #[.bool (likeB k1 n1 t1 k2 n2 t2), .bool (nonesB k1 n1 t1 k2 n2 t2)]) ∧ Below w.heap.size w w') := fun w => like_spec k1 n1 t1 k2 n2 t2 w ht1 ht2
  unfold belowR
  obtain ⟨yes, hy⟩ : ∃ b, lessB k1 n1 t1 k2 n2 t2 = b := ⟨_, rfl⟩
  rw [hy]
  generalize likeB k1 n1 t1 k2 n2 t2 = li at H ⊢
  generalize nonesB k1 n1 t1 k2 n2 t2 = no at H ⊢
  cases li
  · go_enter Tryz.func106, Tryz.ntmps106
    go_wp2_with fail
    refine (H.out _).mono ?_
    rintro e w1 ⟨rfl, hb1⟩
    obtain ⟨⟨a1, b1, c1, d1⟩, ⟨x1, y1, z1, s1⟩, ⟨p1, q1, r1, s2⟩, f0, f1, f2⟩ := three3 hb1
    have hx := chainA (chainAA hb1)
    have hxs := hx.size
    go_wp2
    exact bodyPost_ret (v := .tuple #[.agg #[.int .i64 0, .int .i64 0, .string ⟨#[]⟩], .int .i64 3]) (by simp [results, Tryz.results106, go_sem, p1, q1, r1]) rfl ⟨rfl, by go_grown⟩
  cases no
  · obtain ⟨m, hm⟩ : ∃ m : Int, (if yes = true then 1 else 0) = m := ⟨_, rfl⟩
    simp only [show heldR true false yes = (3, m, 0) from by simp [heldR, hm]]
    go_enter Tryz.func106, Tryz.ntmps106
    go_wp2_with fail
    refine (H.out _).mono ?_
    rintro e w1 ⟨rfl, hb1⟩
    obtain ⟨⟨a1, b1, c1, d1⟩, ⟨x1, y1, z1, s1⟩, ⟨p1, q1, r1, s2⟩, ff⟩ := three3 hb1
    have hx := chainA (chainAA hb1)
    clear hb1
    go_wp2_with fail
    refine (cless_specb _ _ _ _ _ _ _ hy _).mono ?_
    rintro e w5 ⟨rfl, hb5⟩
    replace ff := frozen3 hb5 s2 ff
    obtain ⟨p1, q1, r1, s2⟩ := later3 hb5 ⟨p1, q1, r1, s2⟩
    replace hx := chain hx hb5
    clear hb5
    go_wp2_with fail
    refine (truth_specb _ m hm _).mono ?_
    rintro e w6 ⟨rfl, hb6⟩
    obtain ⟨f0, f1, f2⟩ := frozen3 hb6 s2 ff
    obtain ⟨p4, q4, r4, s7⟩ := later3 hb6 ⟨p1, q1, r1, s2⟩
    replace hx := chain hx hb6
    have hxs := hx.size
    go_wp2
    exact bodyPost_ret (v := .tuple #[.agg #[.int .i64 3, .int .i64 m, .string ⟨#[]⟩], .int .i64 0]) (by simp [results, Tryz.results106, go_sem, p4, q4, r4]) rfl ⟨rfl, by go_grown⟩
  · go_enter Tryz.func106, Tryz.ntmps106
    go_wp2_with fail
    refine (H.out _).mono ?_
    rintro e w1 ⟨rfl, hb1⟩
    obtain ⟨⟨a1, b1, c1, d1⟩, ⟨x1, y1, z1, s1⟩, ⟨p1, q1, r1, s2⟩, f0, f1, f2⟩ := three3 hb1
    have hx := chainA (chainAA hb1)
    have hxs := hx.size
    go_wp2
    exact bodyPost_ret (v := .tuple #[.agg #[.int .i64 0, .int .i64 0, .string ⟨#[]⟩], .int .i64 0]) (by simp [results, Tryz.results106, go_sem, p1, q1, r1]) rfl ⟨rfl, by go_grown⟩

end Go.Proofs.YthgbjnchhaoceaaGreatDoor

/-
  Reckoning without any program: what a sum comes to of columns and a row, item by item.
-/
namespace Go.Proofs.YthgbjnchhaoceaaGreatDoor

/-- What comes of a sign between two, and ahead of one: kind, number, fault. The text is empty. -/
def twoR (k : Int) (a b : CK) : Int × Int × Int :=
  if k = 3 then resR addO a.1 a.2.1 a.2.2 b.1 b.2.1 b.2.2 else if k = 4 then resR subO a.1 a.2.1 a.2.2 b.1 b.2.1 b.2.2
  else if k = 5 then resR mulO a.1 a.2.1 a.2.2 b.1 b.2.1 b.2.2 else if k = 6 then resR divO a.1 a.2.1 a.2.2 b.1 b.2.1 b.2.2
  else if k = 7 then sameR a.1 a.2.1 a.2.2 b.1 b.2.1 b.2.2 else if k = 8 then belowR a.1 a.2.1 a.2.2 b.1 b.2.1 b.2.2
  else if k = 9 then bothR a.1 a.2.1 a.2.2 b.1 b.2.1 b.2.2 else eitherR a.1 a.2.1 a.2.2 b.1 b.2.1 b.2.2
def oneR (k : Int) (a : CK) : Int × Int × Int := if k = 11 then notR a.1 a.2.1 a.2.2 else noneR a.1 a.2.1 a.2.2
/-- The cell of a column. -/
def colR : List ByteArray → List CK → ByteArray → CK
  | c :: C, r :: R, s => if c = s then r else colR C R s
  | _, _, _ => zeroC
theorem colR_at : ∀ (C : List ByteArray) (R : List CK) (s : ByteArray) (k : Nat) (hC : k < C.length) (hR : k < R.length), C[k] = s → (∀ j (hj : j < C.length), j < k → C[j] ≠ s) → R[k] = colR C R s
  | [], _, _, _, hC, _, _, _ => absurd hC (by simp)
  | _ :: _, [], _, _, _, hR, _, _ => absurd hR (by simp)
  | c :: C, r :: R, s, 0, _, _, h, _ => by
    have h' : c = s := h
    show r = colR (c :: C) (r :: R) s
    unfold colR
    rw [if_pos h']
  | c :: C, r :: R, s, k + 1, hC, hR, h, hf => by
    have h0 : c ≠ s := hf 0 (by simp) (by omega)
    show R[k]'(by simpa using hR) = colR (c :: C) (r :: R) s
    unfold colR
    rw [if_neg h0]
    refine colR_at C R s k (by simpa using hC) (by simpa using hR) (by simpa using h) ?_
    intro j hj hjk
    have := hf (j + 1) (by simpa using hj) (by omega)
    simpa using this
/-- The cell that stands for an item that needs none. -/
def leafR (C : List ByteArray) (R : List CK) (x : TI) : CK := if x.1 = 2 then colR C R x.2.2 else x.2.1
def cellOf (r : Int × Int × Int) : CK := (r.1, r.2.1, ⟨#[]⟩)
/-- One item: the pile, and the fault. -/
def stepR (C : List ByteArray) (R : List CK) (P : List CK) (x : TI) : List CK × Int :=
  if needsI x.1 = 0 then (P ++ [leafR C R x], 0)
  else if needsI x.1 = 1 then (P.take (P.length - 1) ++ [cellOf (oneR x.1 (P.getD (P.length - 1) zeroC))], (oneR x.1 (P.getD (P.length - 1) zeroC)).2.2)
  else (P.take (P.length - 2) ++ [cellOf (twoR x.1 (P.getD (P.length - 2) zeroC) (P.getD (P.length - 1) zeroC))], (twoR x.1 (P.getD (P.length - 2) zeroC) (P.getD (P.length - 1) zeroC)).2.2)
/-- Item by item, up to a fault. -/
def runR (C : List ByteArray) (R : List CK) : List TI → List CK → List CK × Int
  | [], P => (P, 0)
  | x :: l, P => if (stepR C R P x).2 = 0 then runR C R l (stepR C R P x).1 else ([], (stepR C R P x).2)
theorem runR_append (C : List ByteArray) (R : List CK) : ∀ (l m : List TI) (P : List CK), runR C R (l ++ m) P = if (runR C R l P).2 = 0 then runR C R m (runR C R l P).1 else ([], (runR C R l P).2)
  | [], m, P => by simp [runR]
  | x :: l, m, P => by
    show (if (stepR C R P x).2 = 0 then runR C R (l ++ m) (stepR C R P x).1 else ([], (stepR C R P x).2)) = _
    by_cases h : (stepR C R P x).2 = 0
    · rw [if_pos h, runR_append C R l m]
      show _ = if (if (stepR C R P x).2 = 0 then runR C R l (stepR C R P x).1 else ([], (stepR C R P x).2)).2 = 0 then _ else _
      simp only [if_pos h]
      have : runR C R (x :: l) P = runR C R l (stepR C R P x).1 := by show (if _ then _ else _) = _; rw [if_pos h]
      rw [this]
    · rw [if_neg h]
      have : runR C R (x :: l) P = ([], (stepR C R P x).2) := by show (if _ then _ else _) = _; rw [if_neg h]
      rw [this]
      dsimp only
      rw [if_neg h]
/-- What a right sum comes to. -/
def sumV (C : List ByteArray) (R : List CK) (l : List TI) : CK × Int := if (runR C R l []).2 = 0 then ((runR C R l []).1.headD zeroC, 0) else (zeroC, (runR C R l []).2)
/-- Are all names columns? -/
def hasC (C : List ByteArray) (l : List TI) : Bool := l.all fun x => !(decide (x.1 = 2)) || C.any (fun c => decide (c = x.2.2))
/-- What Reckon answers. -/
def reckR (C : List ByteArray) (R : List CK) (l : List TI) : CK × Int :=
  if sumB l = true ∧ hasC C l = true ∧ R.length = C.length ∧ R.all okC = true then sumV C R l else (zeroC, 3)
/-- What Passes answers. -/
def passR (C : List ByteArray) (R : List CK) (l : List TI) : Bool × Int :=
  if (reckR C R l).2 ≠ 0 then (false, (reckR C R l).2) else if (reckR C R l).1.1 ≠ 3 ∧ (reckR C R l).1.1 ≠ 0 then (false, 3) else (sameB (reckR C R l).1.1 (reckR C R l).1.2.1 (reckR C R l).1.2.2 3 1 ⟨#[]⟩, 0)
theorem stepR_len {C : List ByteArray} {R P : List CK} {x : TI} (h : needsI x.1 ≤ P.length) : (stepR C R P x).1.length = P.length + 1 - needsI x.1 := by
  unfold stepR
  by_cases h0 : needsI x.1 = 0
  · rw [if_pos h0]; simp [h0]
  · rw [if_neg h0]
    by_cases h1 : needsI x.1 = 1
    · rw [if_pos h1]; simp [List.length_take]; omega
    · rw [if_neg h1]
      have : needsI x.1 = 2 := by
        have : needsI x.1 ≤ 2 := by unfold needsI; split <;> (try split) <;> omega
        omega
      simp [List.length_take]; omega
theorem runR_snoc {C : List ByteArray} {R : List CK} {l : List TI} {k : Nat} {P : List CK} (hk : k < l.length) (h : runR C R (l.take k) [] = (P, 0)) : runR C R (l.take (k + 1)) [] = if (stepR C R P l[k]).2 = 0 then ((stepR C R P l[k]).1, 0) else ([], (stepR C R P l[k]).2) := by
  rw [List.take_succ_eq_append_getElem hk, runR_append, h]
  show (if (0 : Int) = 0 then runR C R [l[k]] P else _) = _
  rw [if_pos rfl]
  show (if (stepR C R P l[k]).2 = 0 then runR C R [] (stepR C R P l[k]).1 else _) = _
  rfl
/-- A fault on the way is the fault of the whole. -/
theorem runR_fault {C : List ByteArray} {R : List CK} {l : List TI} {k : Nat} {f : Int} (h : runR C R (l.take k) [] = ([], f)) (hf : f ≠ 0) : sumV C R l = (zeroC, f) := by
  have : runR C R l [] = ([], f) := by
    have h2 := runR_append C R (l.take k) (l.drop k) []
    rw [List.take_append_drop, h] at h2
    dsimp only at h2
    rw [if_neg hf] at h2
    exact h2
  unfold sumV
  rw [this]
  dsimp only
  rw [if_neg hf]
end Go.Proofs.YthgbjnchhaoceaaGreatDoor
