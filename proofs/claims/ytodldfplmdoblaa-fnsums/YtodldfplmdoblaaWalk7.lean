/-
  The contract of the program's own way to reckon with two cells.
-/
import Derived.Test.YtodldfplmdoblaaWalk6
import Derived.Deep.RegionHeld3
import Derived.Deep.DeepCutAuto
import Derived.Deep.DrawnRows
namespace Go.Proofs.Ytodldfplmdoblaa
open Go.ChangeShapes Go.WideShapes Go.ChangeAt Go.RowKit
attribute [local go_sem ↓] Go.wp_at_zero Go.wp_at_succ

theorem cell_far (w : World) (m j n i : Nat) (v : Value) (h : n ≠ m) : (w.setCell ⟨m, j, none⟩ v).cell? ⟨n, i, none⟩ = w.cell? ⟨n, i, none⟩ :=
  World.cell?_of_block (w := w) (Below.heap_setCell w _ v n h)

theorem cell_off (w : World) (m j i : Nat) (v : Value) (h : i ≠ j) : (w.setCell ⟨m, j, none⟩ v).cell? ⟨m, i, none⟩ = w.cell? ⟨m, i, none⟩ :=
  World.cell?_setCell_other w ⟨m, j, none⟩ ⟨m, i, none⟩ v (fun e => h (by cases e; rfl))
theorem cell_here (w : World) (m i : Nat) (v : Value) (h : (w.cell? ⟨m, i, none⟩).isSome = true) : (w.setCell ⟨m, i, none⟩ v).cell? ⟨m, i, none⟩ = some v :=
  World.cell?_setCell_same' w ⟨m, i, none⟩ v h

/-- What comes of two cells: are both right, both numbers, what is reckoned of them, and the fault: the kind, the number, the fault. -/
def opR (rt kn : Bool) (r f : Int) : Int × Int × Int :=
  if rt = false then (0, 0, 3) else if kn = false then (0, 0, 0) else if f ≠ 0 then (0, 0, f) else if numB r = true then (1, r, 0) else (0, 0, 1)

attribute [local simp] World.cell?_alloc_past World.cell?_alloc_at World.frozen?_alloc_at cell_far cell_off cell_here World.frozen?_alloc_past

set_option maxHeartbeats 2000000 in
theorem reckon (g : Nat) (hent : ∀ (xs : Array Value) (w : World), (callFunc g xs).run Try.prog w = .ok (.enter g xs) w) (r f : Int) (k1 n1 : Int) (t1 : ByteArray) (k2 n2 : Int) (t2 : ByteArray) (x1 x2 : Int) (kn1 kn2 rt1 rt2 : Bool)
    (hk1 : knownB k1 n1 t1 = kn1) (hr1 : rightB k1 n1 t1 = rt1) (hx1 : (if kn1 = true then n1 else 0) = x1)
    (hk2 : knownB k2 n2 t2 = kn2) (hr2 : rightB k2 n2 t2 = rt2) (hx2 : (if kn2 = true then n2 else 0) = x2)
    (hg : ∀ w, Calls Try.prog g #[.int .i64 x1, .int .i64 x2] w fun e w' => e = .returned (.tuple #[.int .i64 r, .int .i64 f]) ∧ w' = w)
    (w : World) (ht1 : t1.size ≤ maxLen) (ht2 : t2.size ≤ maxLen) :
    Calls Try.prog 18 #[.agg #[.int .i64 k1, .int .i64 n1, .string t1], .agg #[.int .i64 k2, .int .i64 n2, .string t2], .func (.func g) #[] #[]] w fun e w' => e = .returned (.tuple #[.agg #[.int .i64 (opR (rt1 && rt2) (kn1 && kn2) r f).1, .int .i64 (opR (rt1 && rt2) (kn1 && kn2) r f).2.1, .string ⟨#[]⟩], .int .i64 (opR (rt1 && rt2) (kn1 && kn2) r f).2.2]) ∧ Below w.heap.size w w' := by
  have O1 : Hid (∀ w, Calls Try.prog 33 #[.agg #[.int .i64 k1, .int .i64 n1, .string t1]] w fun e w' => e = .returned (.agg #[.int .i64 x1, .bool kn1, .bool rt1]) ∧ Below w.heap.size w w') := fun w => operand_impl k1 n1 t1 x1 kn1 rt1 hk1 hr1 hx1 w ht1
  have O2 : Hid (∀ w, Calls Try.prog 33 #[.agg #[.int .i64 k2, .int .i64 n2, .string t2]] w fun e w' => e = .returned (.agg #[.int .i64 x2, .bool kn2, .bool rt2]) ∧ Below w.heap.size w w') := fun w => operand_impl k2 n2 t2 x2 kn2 rt2 hk2 hr2 hx2 w ht2
  have G : Hid (∀ w, Calls Try.prog g #[.int .i64 x1, .int .i64 x2] w fun e w' => e = .returned (.tuple #[.int .i64 r, .int .i64 f]) ∧ w' = w) := hg
  clear hk1 hr1 hx1 hk2 hr2 hx2 hg
  have l2 : ∀ n : Nat, n < n + 1 + 1 := fun n => by omega
  have l3 : ∀ n : Nat, n < n + 1 + 1 + 1 := fun n => by omega
  have l4 : ∀ n : Nat, n < n + 1 + 1 + 1 + 1 := fun n => by omega
  have lm : ∀ a b : Nat, a < b → a < b + 1 := fun a b h => by omega
  have l6 : ∀ n : Nat, n < n + 1 := fun n => by omega
  have l5 : ∀ n : Nat, n < n + 1 + 1 + 1 + 1 + 1 := fun n => by omega
  go_enter Try.func18, Try.ntmps18
  go_wp2_with fail
  go_cut [8, 9] (fun s8 s9 wc => ∃ b8 b9 : Nat, s8 = .pointer (some ⟨b8, 0, none⟩) ∧ s9 = .pointer (some ⟨b9, 0, none⟩) ∧
    wc.cell? ⟨b8, 0, none⟩ = some (.int .i64 x1) ∧ wc.cell? ⟨b8, 1, none⟩ = some (.bool kn1) ∧ wc.cell? ⟨b8, 2, none⟩ = some (.bool rt1) ∧
    wc.cell? ⟨b9, 0, none⟩ = some (.int .i64 x2) ∧ wc.cell? ⟨b9, 1, none⟩ = some (.bool kn2) ∧ wc.cell? ⟨b9, 2, none⟩ = some (.bool rt2) ∧
    wc.cell? ⟨w.heap.size + 1 + 1, 0, none⟩ = some (.int .i64 0) ∧ wc.cell? ⟨w.heap.size + 1 + 1, 1, none⟩ = some (.int .i64 0) ∧ wc.cell? ⟨w.heap.size + 1 + 1, 2, none⟩ = some (.string ⟨#[]⟩) ∧
    wc.frozen? ⟨w.heap.size + 1 + 1, 0, none⟩ = false ∧ wc.frozen? ⟨w.heap.size + 1 + 1, 1, none⟩ = false ∧ wc.frozen? ⟨w.heap.size + 1 + 1, 2, none⟩ = false ∧
    Below w.heap.size w wc)
  case first =>
    go_region_held3 (fun w' => w'.cell? ⟨w.heap.size, 0, none⟩ = some (.int .i64 k1) ∧ w'.cell? ⟨w.heap.size, 1, none⟩ = some (.int .i64 n1) ∧ w'.cell? ⟨w.heap.size, 2, none⟩ = some (.string t1) ∧
        w'.cell? ⟨w.heap.size + 1, 0, none⟩ = some (.int .i64 k2) ∧ w'.cell? ⟨w.heap.size + 1, 1, none⟩ = some (.int .i64 n2) ∧ w'.cell? ⟨w.heap.size + 1, 2, none⟩ = some (.string t2)) (((try dsimp only); (repeat' apply And.intro) <;> first | (go_keep; done) | (simp (disch := first | omega | (simp <;> omega) | fail) [*]; done) | fail))
      (first
        | (go_at_call_of 33 (Value.string t1); refine (O1.out _).mono ?_; rintro e w1 ⟨rfl, hb1⟩; obtain ⟨hc1, hf1⟩ := bcell hb1; have hz1 := hb1.size; (try simp at hz1); (try have y10 : w.heap.size < w1.heap.size := by omega); (try have y11 : w.heap.size + 1 < w1.heap.size := by omega); (try have y12 : w.heap.size + 1 + 1 < w1.heap.size := by omega); (try have y13 : w.heap.size + 1 + 1 + 1 < w1.heap.size := by omega); (try have y14 : w.heap.size + 1 + 1 + 1 + 1 < w1.heap.size := by omega))
        | (go_at_call_of 33 (Value.string t2); refine (O2.out _).mono ?_; rintro e w2 ⟨rfl, hb2⟩; obtain ⟨hc2, hf2⟩ := bcell hb2; have hz2 := hb2.size; (try simp at hz2); (try have y20 : w.heap.size < w2.heap.size := by omega); (try have y21 : w.heap.size + 1 < w2.heap.size := by omega); (try have y22 : w.heap.size + 1 + 1 < w2.heap.size := by omega); (try have y23 : w.heap.size + 1 + 1 + 1 < w2.heap.size := by omega); (try have y24 : w.heap.size + 1 + 1 + 1 + 1 < w2.heap.size := by omega); (try have v20 : w1.heap.size < w2.heap.size := by omega); (try have v21 : w1.heap.size + 1 < w2.heap.size := by omega)))
    all_goals
      go_wp2_with fail
      go_meet
      case rel =>
        refine ⟨_, _, rfl, rfl, ?_, ?_, ?_, ?_, ?_, ?_, ?_, ?_, ?_, ?_, ?_, ?_, ?_⟩
        all_goals first
          | (simp (disch := first | omega | (simp <;> omega) | (simp (disch := first | omega | (simp <;> omega) | fail) [*]; done) | fail) [*]; done)
          | (repeat' (first | (with_reducible exact Below.refl _ _) | (with_reducible refine Below.alloc ?_ ?_ _) | (with_reducible refine Below.drew ?_) | (with_reducible refine Below.setCell ?_ ?_ _) | (with_reducible refine chain ?_ hb2) | (with_reducible refine chain ?_ hb1) | (simp <;> omega) | omega)
             done)
  case rest =>
    obtain ⟨b8, b9, rfl, rfl, c80, c81, c82, c90, c91, c92, r0, r1, r2, f0, f1, f2, hb⟩ := hcut
    cases rt1
    · go_wp2
      exact bodyPost_ret (v := .tuple #[.agg #[.int .i64 0, .int .i64 0, .string ⟨#[]⟩], .int .i64 3]) (by simp [results, Try.results18, go_sem, r0, r1, r2]) rfl ⟨by simp [opR], by go_grown⟩
    cases rt2
    · go_wp2
      exact bodyPost_ret (v := .tuple #[.agg #[.int .i64 0, .int .i64 0, .string ⟨#[]⟩], .int .i64 3]) (by simp [results, Try.results18, go_sem, r0, r1, r2]) rfl ⟨by simp [opR], by go_grown⟩
    cases kn1
    · go_wp2
      exact bodyPost_ret (v := .tuple #[.agg #[.int .i64 0, .int .i64 0, .string ⟨#[]⟩], .int .i64 0]) (by simp [results, Try.results18, go_sem, r0, r1, r2]) rfl ⟨by simp [opR], by go_grown⟩
    cases kn2
    · go_wp2
      exact bodyPost_ret (v := .tuple #[.agg #[.int .i64 0, .int .i64 0, .string ⟨#[]⟩], .int .i64 0]) (by simp [results, Try.results18, go_sem, r0, r1, r2]) rfl ⟨by simp [opR], by go_grown⟩
    by_cases hf : f = 0
    · subst hf
      cases hn : numB r
      · go_wp2_with fail
        refine (G.out _).mono ?_
        rintro e w' ⟨rfl, rfl⟩
        go_wp2_with (go_at_call 34; refine (numberFits_impl _ _).mono ?_; rintro e w' ⟨rfl, rfl⟩)
        exact bodyPost_ret (v := .tuple #[.agg #[.int .i64 0, .int .i64 0, .string ⟨#[]⟩], .int .i64 1]) (by simp [results, Try.results18, go_sem, r0, r1, r2]) rfl ⟨by simp [opR, hn], by go_grown⟩
      · go_wp2_with fail
        refine (G.out _).mono ?_
        rintro e w' ⟨rfl, rfl⟩
        go_wp2_with (go_at_call 34; refine (numberFits_impl _ _).mono ?_; rintro e w' ⟨rfl, rfl⟩)
        exact bodyPost_ret (v := .tuple #[.agg #[.int .i64 1, .int .i64 r, .string ⟨#[]⟩], .int .i64 0]) (by simp [results, Try.results18, go_sem, r0, r1, r2]) rfl ⟨by simp [opR, hn], by go_grown⟩
    · go_wp2_with fail
      refine (G.out _).mono ?_
      rintro e w' ⟨rfl, rfl⟩
      go_wp2
      exact bodyPost_ret (v := .tuple #[.agg #[.int .i64 0, .int .i64 0, .string ⟨#[]⟩], .int .i64 f]) (by simp [results, Try.results18, go_sem, r0, r1, r2]) rfl ⟨by simp [opR, hf], by go_grown⟩

end Go.Proofs.Ytodldfplmdoblaa
