/-
  The program's heap of rows: how it lies in memory, and the contracts of its methods that only look.
-/
import Derived.Test.YtgeipficjfaocaaSortedS
import Derived.Test.YtgeipficjfaocaaCmp2
import Derived.BigRegion
namespace Go.Proofs.Ytgeipficjfaocaa
open Go.ChangeShapes Go.WideShapes Go.ChangeAt Go.RowKit
attribute [local go_sem ↓] Go.wp_at_zero Go.wp_at_succ
attribute [local simp] World.cell?_alloc_past World.cell?_alloc_at World.frozen?_alloc_at cell_far cell_off cell_here World.frozen?_alloc_past

/-- The cells of rows that wait: the head of each, and its place. -/
def flatW (R : Nat → Value) : List Nat → List Value
  | [] => []
  | q :: s => R q :: .int .i64 q :: flatW R s
theorem flatW_length (R : Nat → Value) (s : List Nat) : (flatW R s).length = s.length * 2 := by
  induction s with
  | nil => rfl
  | cons x l ih => simp only [flatW, List.length_cons, ih]; omega
theorem flatW_append (R : Nat → Value) (s u : List Nat) : flatW R (s ++ u) = flatW R s ++ flatW R u := by
  induction s with
  | nil => rfl
  | cons x l ih => simp only [List.cons_append, flatW, ih]
theorem flatW_at (R : Nat → Value) (s : List Nat) (j : Nat) (h : j < s.length) : (flatW R s)[j * 2]? = some (R (s.getD j 0)) ∧ (flatW R s)[j * 2 + 1]? = some (.int .i64 (s.getD j 0)) := by
  induction s generalizing j with
  | nil => simp at h
  | cons x l ih =>
    cases j with
    | zero => exact ⟨rfl, rfl⟩
    | succ j =>
      have := ih j (by simpa using h)
      have e0 : (j + 1) * 2 = j * 2 + 1 + 1 := by omega
      have e1 : (j + 1) * 2 + 1 = j * 2 + 1 + 1 + 1 := by omega
      rw [e1, e0]
      simpa only [flatW, List.getElem?_cons_succ, List.getD_cons_succ] using this

/-- The heap lies in block H: rows wait in V, at the places s. -/
structure HeapAt (w : World) (base H : Nat) (V : Value) (R : Nat → Value) (s : List Nat) (at_ : Int) (down : Bool) : Prop where
  c0 : w.cell? ⟨H, 0, none⟩ = some V
  c1 : w.cell? ⟨H, 1, none⟩ = some (.int .i64 at_)
  c2 : w.cell? ⟨H, 2, none⟩ = some (.bool down)
  fz : w.frozen? ⟨H, 0, none⟩ = false
  hH : base ≤ H
  own : w.ownsRow base 84 2 V s.length (flatW R s)
  apart : V.ownBlock ≠ some H
  hd : ∀ q, ∃ a n k, R q = .slice a n k
  ty : ∃ cur, w.heap[H]? = some (.cells cur 81 (0, 0))
theorem HeapAt.lt {w : World} {base H : Nat} {V : Value} {R : Nat → Value} {s : List Nat} {at_ : Int} {down : Bool} (h : HeapAt w base H V R s at_ down) : H < w.heap.size := World.block_lt_of_cell? w _ h.c0
theorem HeapAt.below {w w' : World} {base H : Nat} {V : Value} {R : Nat → Value} {s : List Nat} {at_ : Int} {down : Bool} (h : HeapAt w base H V R s at_ down) (hb : Below w.heap.size w w') : HeapAt w' base H V R s at_ down := by
  have hlt := h.lt
  refine ⟨?_, ?_, ?_, ?_, h.hH, own_below h.own hb, h.apart, h.hd, by rw [hb.block H hlt]; exact h.ty⟩
  · rw [hb.cell (p := ⟨H, 0, none⟩) hlt]; exact h.c0
  · rw [hb.cell (p := ⟨H, 1, none⟩) hlt]; exact h.c1
  · rw [hb.cell (p := ⟨H, 2, none⟩) hlt]; exact h.c2
  · rw [hb.frozen (p := ⟨H, 0, none⟩) hlt]; exact h.fz
/-- Where someone waits there is a block. -/
theorem HeapAt.form {w : World} {base H : Nat} {V : Value} {R : Nat → Value} {s : List Nat} {at_ : Int} {down : Bool} (h : HeapAt w base H V R s at_ down) (hs : 0 < s.length) :
    ∃ g c, V = .slice (some ⟨g, 0, none⟩) s.length c ∧ base ≤ g ∧ g < w.heap.size ∧ g ≠ H ∧ s.length ≤ c := by
  rcases h.own.2 with ⟨_, h0⟩ | ⟨g, c, cur, h', hb, hg, hc, _⟩
  · omega
  · refine ⟨g, c, h', hb, ?_, ?_, hc⟩
    · by_cases hl : g < w.heap.size
      · exact hl
      · rw [Array.getElem?_eq_none (by omega)] at hg; cases hg
    · intro e
      apply h.apart
      rw [h', e]; rfl
theorem HeapAt.look {w : World} {base H g c : Nat} {R : Nat → Value} {s : List Nat} {at_ : Int} {down : Bool} (h : HeapAt w base H (.slice (some ⟨g, 0, none⟩) s.length c) R s at_ down) (j : Nat) (hj : j < s.length) :
    w.cell? ⟨g, j * 2, none⟩ = some (R (s.getD j 0)) ∧ w.cell? ⟨g, j * 2 + 1, none⟩ = some (.int .i64 (s.getD j 0)) ∧ w.frozen? ⟨g, j * 2, none⟩ = false ∧ w.frozen? ⟨g, j * 2 + 1, none⟩ = false := by
  obtain ⟨f0, f1⟩ := flatW_at R s j hj
  refine ⟨?_, ?_, h.own.frozenAt _, h.own.frozenAt _⟩
  · rw [h.own.cellAt _ (by omega)]; exact f0
  · rw [h.own.cellAt _ (by omega)]; exact f1

theorem len_of {w : World} {base : Nat} {e : TypeId} {size n : Nat} {v : Value} {xs : List Value} (h : w.ownsRow base e size v n xs) : ∃ a c, v = .slice a n c := by
  rcases h.2 with ⟨rfl, rfl⟩ | ⟨g, c, cur, rfl, _⟩
  · exact ⟨none, 0, rfl⟩
  · exact ⟨_, c, rfl⟩

theorem heap_len {w : World} {base H : Nat} {V : Value} {R : Nat → Value} {s : List Nat} {at_ : Int} {down : Bool} (h : HeapAt w base H V R s at_ down) :
    Calls Try.prog 85 #[.pointer (some ⟨H, 0, none⟩)] w fun e w' => e = .returned (.int .i64 s.length) ∧ w = w' := by
  obtain ⟨a, c, rfl⟩ := len_of h.own
  have c0 := h.c0
  go_enter Try.func85, Try.ntmps85
  go_wp2
  go_ret
  exact ⟨rfl, rfl⟩

theorem compare_n (x y : Int) (w : World) : Calls Try.prog 125 #[.int .i64 x, .int .i64 y] w fun e w' => e = .returned (.int .i64 (cmpI x y)) ∧ w = w' := by
  have nan : ∀ (x : Int) (w : World), Calls Try.prog 126 #[.int .i64 x] w fun e w' => e = .returned (.bool false) ∧ w = w' := by
    intro x w
    go_enter Try.func126, Try.ntmps126
    go_wp2
    go_ret
    exact ⟨by simp, rfl⟩
  have nan' : Hid (∀ (x : Int) (w : World), Calls Try.prog 126 #[.int .i64 x] w fun e w' => e = .returned (.bool false) ∧ w = w') := nan
  clear nan
  by_cases h1 : x < y
  · rw [show cmpI x y = -1 from if_pos h1]
    go_enter Try.func125, Try.ntmps125
    go_wp2_with (go_at_call 126; refine (nan'.out _ _).mono ?_; rintro e w' ⟨rfl, rfl⟩)
    go_ret
    exact ⟨rfl, rfl⟩
  by_cases h2 : y < x
  · rw [show cmpI x y = 1 from by rw [cmpI, if_neg h1, if_pos h2]]
    go_enter Try.func125, Try.ntmps125
    go_wp2_with (go_at_call 126; refine (nan'.out _ _).mono ?_; rintro e w' ⟨rfl, rfl⟩)
    go_ret
    exact ⟨rfl, rfl⟩
  rw [show cmpI x y = 0 from by rw [cmpI, if_neg h1, if_neg h2]]
  go_enter Try.func125, Try.ntmps125
  go_wp2_with (go_at_call 126; refine (nan'.out _ _).mono ?_; rintro e w' ⟨rfl, rfl⟩)
  go_ret
  exact ⟨rfl, rfl⟩

/-- The order of rows that wait is that of their places. -/
theorem place_cmp (key : Nat → CT3) (down : Bool) (p q : Nat) (c : Int) (hc : cmpC (key p).1 (key p).2.1 (key p).2.2 (key q).1 (key q).2.1 (key q).2.2 = c) :
    placeLt key down p q = decide (orL [if down = true then -c else c, cmpI p q] < 0) := by
  have h1 : lessC (key p) (key q) = decide (c < 0) := by unfold lessC; rw [less_cmp, hc]
  have h2 : lessC (key q) (key p) = decide (-c < 0) := by unfold lessC; rw [less_cmp, cmpC_neg (key p).1 (key p).2.1 (key p).2.2, hc]
  have h3 := cmpI_lt (p : Int) (q : Int)
  unfold placeLt
  rw [h1, h2]
  simp only [orL]
  by_cases e1 : c < 0
  · cases down
    · simp [e1, show ¬ c = 0 by omega]
    · simp [e1, show ¬ c = 0 by omega]; omega
  · by_cases e2 : 0 < c
    · cases down
      · simp [show ¬ c = 0 by omega]; omega
      · simp [e2, show ¬ c = 0 by omega]; omega
    · have e3 : c = 0 := by omega
      subst e3
      by_cases e4 : cmpI (p : Int) (q : Int) = 0
      · have := (cmpI_zero (p : Int) (q : Int)).1 e4
        cases down <;> simp [e4] <;> omega
      · cases down <;> simp [e4, h3]

set_option maxRecDepth 100000 in
set_option maxHeartbeats 4000000 in
theorem heap_less {w : World} {base H : Nat} {V : Value} {R : Nat → Value} {s : List Nat} {t : Nat} {down : Bool} (h : HeapAt w base H V R s (t : Int) down) (i k : Nat) (hi : i < s.length) (hk : k < s.length) (hsm : s.length ≤ 1048576)
    (key : Nat → CT) (A : Nat → Nat × Nat) (N K : Nat → Nat) (hR : ∀ q ∈ s, R q = .slice (some ⟨(A q).1, (A q).2, none⟩) (N q) (K q) ∧ t < N q ∧ (A q).1 < w.heap.size ∧
      w.cell? ⟨(A q).1, (A q).2 + t * 3, none⟩ = some (.int .i64 (key q).1) ∧ w.cell? ⟨(A q).1, (A q).2 + t * 3 + 1, none⟩ = some (.int .i64 (key q).2.1) ∧ w.cell? ⟨(A q).1, (A q).2 + t * 3 + 2, none⟩ = some (.string (key q).2.2)) :
    Calls Try.prog 121 #[.pointer (some ⟨H, 0, none⟩), .int .i64 i, .int .i64 k] w fun e w' => e = .returned (.bool (placeLt key down (s.getD i 0) (s.getD k 0))) ∧ Below w.heap.size w w' := by
  obtain ⟨g, c, rfl, hbg, hgw, hgH, _⟩ := h.form (by omega)
  obtain ⟨c0, c1, c2⟩ : _ ∧ _ ∧ _ := ⟨h.c0, h.c1, h.c2⟩
  have hHw := h.lt
  obtain ⟨x0, x1, _, _⟩ := h.look i hi
  obtain ⟨y0, y1, _, _⟩ := h.look k hk
  have mp : s.getD i 0 ∈ s := by simp [List.getD, List.getElem?_eq_getElem hi]
  have mq : s.getD k 0 ∈ s := by simp [List.getD, List.getElem?_eq_getElem hk]
  obtain ⟨rp, np, bp, p0, p1, p2⟩ := hR _ mp
  obtain ⟨rq, nq, bq, q0, q1, q2⟩ := hR _ mq
  clear hR mp mq h
  obtain ⟨c, hc⟩ : ∃ c, cmpC (key (s.getD i 0)).1 (key (s.getD i 0)).2.1 (key (s.getD i 0)).2.2 (key (s.getD k 0)).1 (key (s.getD k 0)).2.1 (key (s.getD k 0)).2.2 = c := ⟨_, rfl⟩
  rw [place_cmp key down _ _ c hc]
  have hcb : -1 ≤ c ∧ c ≤ 1 := by rw [← hc]; exact cmpC_bound _ _ _ _ _ _
  rw [rp] at x0
  rw [rq] at y0
  clear rp rq
  generalize s.getD i 0 = p at *
  generalize s.getD k 0 = q at *
  generalize (A p).1 = b1 at *
  generalize (A p).2 = o1 at *
  generalize (A q).1 = b2 at *
  generalize (A q).2 = o2 at *
  generalize N p = n1 at *
  generalize N q = n2 at *
  generalize K p = k1 at *
  generalize K q = k2 at *
  generalize key p = X at *
  generalize key q = Y at *
  obtain ⟨z, hz⟩ : ∃ z, cmpI (p : Int) (q : Int) = z := ⟨_, rfl⟩
  rw [hz]
  have j0 : (0 : Int) ≤ (t : Int) := by omega
  have j1 : (t : Int) < (n1 : Int) := by omega
  have j2 : (t : Int) < (n2 : Int) := by omega
  have j3 : (0 : Int) ≤ (i : Int) := by omega
  have j4 : (i : Int) < (s.length : Int) := by omega
  have j5 : (0 : Int) ≤ (k : Int) := by omega
  have j6 : (k : Int) < (s.length : Int) := by omega
  have CC : Hid (∀ w, Calls Try.prog 78 #[.agg #[.int .i64 X.1, .int .i64 X.2.1, .string X.2.2], .agg #[.int .i64 Y.1, .int .i64 Y.2.1, .string Y.2.2]] w fun e w' => e = .returned (.int .i64 c) ∧ Below w.heap.size w w') := fun w => compare_cellsb _ _ _ _ _ _ c hc w
  have CN : Hid (∀ w, Calls Try.prog 125 #[.int .i64 p, .int .i64 q] w fun e w' => e = .returned (.int .i64 z) ∧ w = w') := by
    intro w; have := compare_n (p : Int) (q : Int) w; rwa [hz] at this
  clear hc hz
  go_enter Try.func121, Try.ntmps121
  go_wp2_with fail
  go_cut [7, 8] (fun s7 s8 wc => ∃ b7 b8 : Nat, s7 = .pointer (some ⟨b7, 0, none⟩) ∧ s8 = .pointer (some ⟨b8, 0, none⟩) ∧ wc.cell? ⟨b7, 0, none⟩ = some (.slice (some ⟨b1, o1, none⟩) n1 k1) ∧ wc.cell? ⟨b7, 1, none⟩ = some (.int .i64 p) ∧ wc.cell? ⟨b8, 0, none⟩ = some (.slice (some ⟨b2, o2, none⟩) n2 k2) ∧ wc.cell? ⟨b8, 1, none⟩ = some (.int .i64 q) ∧ Below w.heap.size w wc)
  case first =>
    go_region
    all_goals
      go_wp2_with fail
      go_meet
      case rel =>
        refine ⟨_, _, rfl, rfl, ?_, ?_, ?_, ?_, ?_⟩
        all_goals first
          | (simp (disch := first | omega | (simp <;> omega) | fail); done)
          | go_grown
  case rest =>
    obtain ⟨b7, b8, rfl, rfl, d0, d1, e0, e1, hbc⟩ := hcut
    have w7 : b7 < wc.heap.size := World.block_lt_of_cell? wc _ d0
    have w8 : b8 < wc.heap.size := World.block_lt_of_cell? wc _ e0
    have wH : H < wc.heap.size := Nat.lt_of_lt_of_le hHw hbc.size
    have w1 : b1 < wc.heap.size := Nat.lt_of_lt_of_le bp hbc.size
    have w2 : b2 < wc.heap.size := Nat.lt_of_lt_of_le bq hbc.size
    rw [← hbc.cell (p := ⟨H, 1, none⟩) hHw] at c1
    rw [← hbc.cell (p := ⟨H, 2, none⟩) hHw] at c2
    rw [← hbc.cell (p := ⟨b1, _, none⟩) bp] at p0 p1 p2
    rw [← hbc.cell (p := ⟨b2, _, none⟩) bq] at q0 q1 q2
    clear x0 x1 y0 y1 c0 hHw bp bq
    go_wp2_with fail
    refine wp_region_held_drew (S := (fun w' => w'.cell? ⟨b7, 0, none⟩ = some (.slice (some ⟨b1, o1, none⟩) n1 k1) ∧ w'.cell? ⟨b8, 0, none⟩ = some (.slice (some ⟨b2, o2, none⟩) n2 k2) ∧ w'.cell? ⟨H, 1, none⟩ = some (.int .i64 t) ∧ w'.cell? ⟨b1, o1 + t * 3, none⟩ = some (.int .i64 X.1) ∧ w'.cell? ⟨b1, o1 + t * 3 + 1, none⟩ = some (.int .i64 X.2.1) ∧ w'.cell? ⟨b1, o1 + t * 3 + 2, none⟩ = some (.string X.2.2) ∧ w'.cell? ⟨b2, o2 + t * 3, none⟩ = some (.int .i64 Y.1) ∧ w'.cell? ⟨b2, o2 + t * 3 + 1, none⟩ = some (.int .i64 Y.2.1) ∧ w'.cell? ⟨b2, o2 + t * 3 + 2, none⟩ = some (.string Y.2.2))) (by kernel_rfl) ?_ (fun hHeld => ?_)
    · (((try dsimp only); (repeat' apply And.intro) <;> first | (go_keep; done) | (simp (disch := first | omega | (simp <;> omega) | fail) [*]; done) | fail))
    refine wpAnyH_take (i := 0) (by simp only [List.getElem?_toArray, List.getElem?_cons_zero]; rfl) (by kernel_rfl) (by kernel_rfl) (by kernel_rfl) (by intro _ _ _ h; exact h) (Or.inl ⟨by rfl, fun w hSw => by (dsimp only at hSw; go_simp; (try with_reducible rfl))⟩) (by assumption) ?_
    simp only [Act.put, List.setIfInBounds_toArray, List.set_cons_zero, List.set_cons_succ]
    refine wpAnyH_take (i := 1) (by simp only [List.getElem?_toArray, List.getElem?_cons_zero, List.getElem?_cons_succ]; rfl) (by kernel_rfl) (by kernel_rfl) (by kernel_rfl) (by intro _ _ _ h; exact h) (Or.inl ⟨by rfl, fun w hSw => by (dsimp only at hSw; go_simp; (try with_reducible rfl))⟩) (by assumption) ?_
    simp only [Act.put, List.setIfInBounds_toArray, List.set_cons_zero, List.set_cons_succ]
    refine wpAnyH_take (i := 2) (by simp only [List.getElem?_toArray, List.getElem?_cons_zero, List.getElem?_cons_succ]; rfl) (by kernel_rfl) (by kernel_rfl) (by kernel_rfl) (by intro _ _ _ h; exact h) (Or.inl ⟨by rfl, fun w hSw => by (dsimp only at hSw; go_simp; (try with_reducible rfl))⟩) (by assumption) ?_
    simp only [Act.put, List.setIfInBounds_toArray, List.set_cons_zero, List.set_cons_succ]
    refine wpAnyH_take (i := 3) (by simp only [List.getElem?_toArray, List.getElem?_cons_zero, List.getElem?_cons_succ]; rfl) (by kernel_rfl) (by kernel_rfl) (by kernel_rfl) (by intro _ _ _ h; exact h) (Or.inl ⟨by rfl, fun w hSw => by (dsimp only at hSw; go_simp; (try with_reducible rfl))⟩) (by assumption) ?_
    simp only [Act.put, List.setIfInBounds_toArray, List.set_cons_zero, List.set_cons_succ]
    refine wpAnyH_take (i := 4) (by simp only [List.getElem?_toArray, List.getElem?_cons_zero, List.getElem?_cons_succ]; rfl) (by kernel_rfl) (by kernel_rfl) (by kernel_rfl) (by intro _ _ _ h; exact h) (Or.inl ⟨by rfl, fun w hSw => by (dsimp only at hSw; go_simp; (try with_reducible rfl))⟩) (by assumption) ?_
    simp only [Act.put, List.setIfInBounds_toArray, List.set_cons_zero, List.set_cons_succ]
    refine wpAnyH_take (i := 5) (by simp only [List.getElem?_toArray, List.getElem?_cons_zero, List.getElem?_cons_succ]; rfl) (by kernel_rfl) (by kernel_rfl) (by kernel_rfl) (by intro _ _ _ h; exact h) (Or.inl ⟨by rfl, fun w hSw => by (dsimp only at hSw; go_simp; (try with_reducible rfl))⟩) (by assumption) ?_
    simp only [Act.put, List.setIfInBounds_toArray, List.set_cons_zero, List.set_cons_succ]
    refine wpAnyH_take (i := 6) (by simp only [List.getElem?_toArray, List.getElem?_cons_zero, List.getElem?_cons_succ]; rfl) (by kernel_rfl) (by kernel_rfl) (by kernel_rfl) (by intro _ _ _ h; exact h) (Or.inl ⟨by rfl, fun w hSw => by (dsimp only at hSw; go_simp; (try with_reducible rfl))⟩) (by assumption) ?_
    simp only [Act.put, List.setIfInBounds_toArray, List.set_cons_zero, List.set_cons_succ]
    refine wpAnyH_take (i := 7) (by simp only [List.getElem?_toArray, List.getElem?_cons_zero, List.getElem?_cons_succ]; rfl) (by kernel_rfl) (by kernel_rfl) (by kernel_rfl) (by intro _ _ _ h; exact h) (Or.inl ⟨by rfl, fun w hSw => by (dsimp only at hSw; go_simp; (try with_reducible rfl))⟩) (by assumption) ?_
    simp only [Act.put, List.setIfInBounds_toArray, List.set_cons_zero, List.set_cons_succ]
    refine wpAnyH_take (i := 8) (by simp only [List.getElem?_toArray, List.getElem?_cons_zero, List.getElem?_cons_succ]; rfl) (by kernel_rfl) (by kernel_rfl) (by kernel_rfl) (by intro _ _ _ h; exact h) (Or.inl ⟨by rfl, fun w hSw => by (dsimp only at hSw; go_simp; (try with_reducible rfl))⟩) (by assumption) ?_
    simp only [Act.put, List.setIfInBounds_toArray, List.set_cons_zero, List.set_cons_succ]
    refine wpAnyH_take (i := 9) (by simp only [List.getElem?_toArray, List.getElem?_cons_zero, List.getElem?_cons_succ]; rfl) (by kernel_rfl) (by kernel_rfl) (by kernel_rfl) (by intro _ _ _ h; exact h) (Or.inl ⟨by rfl, fun w hSw => by (dsimp only at hSw; go_simp; (try with_reducible rfl))⟩) (by assumption) ?_
    simp only [Act.put, List.setIfInBounds_toArray, List.set_cons_zero, List.set_cons_succ]
    refine wpAnyH_take (i := 10) (by simp only [List.getElem?_toArray, List.getElem?_cons_zero, List.getElem?_cons_succ]; rfl) (by kernel_rfl) (by kernel_rfl) (by kernel_rfl) (by intro _ _ _ h; exact h) (Or.inl ⟨by rfl, fun w hSw => by (dsimp only at hSw; go_simp; (try with_reducible rfl))⟩) (by assumption) ?_
    simp only [Act.put, List.setIfInBounds_toArray, List.set_cons_zero, List.set_cons_succ]
    refine wpAnyH_take (i := 11) (by simp only [List.getElem?_toArray, List.getElem?_cons_zero, List.getElem?_cons_succ]; rfl) (by kernel_rfl) (by kernel_rfl) (by kernel_rfl) (by intro _ _ _ h; exact h) (Or.inl ⟨by rfl, fun w hSw => by (dsimp only at hSw; go_simp; (try with_reducible rfl))⟩) (by assumption) ?_
    simp only [Act.put, List.setIfInBounds_toArray, List.set_cons_zero, List.set_cons_succ]
    refine wpAnyH_take (i := 12) (by simp only [List.getElem?_toArray, List.getElem?_cons_zero, List.getElem?_cons_succ]; rfl) (by kernel_rfl) (by kernel_rfl) (by kernel_rfl) (by intro _ _ _ h; exact h) (Or.inl ⟨by rfl, fun w hSw => by (dsimp only at hSw; go_simp; (try with_reducible rfl))⟩) (by assumption) ?_
    simp only [Act.put, List.setIfInBounds_toArray, List.set_cons_zero, List.set_cons_succ]
    refine wpAnyH_take (i := 13) (by simp only [List.getElem?_toArray, List.getElem?_cons_zero, List.getElem?_cons_succ]; rfl) (by kernel_rfl) (by kernel_rfl) (by kernel_rfl) (by intro _ _ _ h; exact h) (Or.inl ⟨by rfl, fun w hSw => by (dsimp only at hSw; go_simp; (try with_reducible rfl))⟩) (by assumption) ?_
    simp only [Act.put, List.setIfInBounds_toArray, List.set_cons_zero, List.set_cons_succ]
    refine wpAnyH_take (i := 14) (by simp only [List.getElem?_toArray, List.getElem?_cons_zero, List.getElem?_cons_succ]; rfl) (by kernel_rfl) (by kernel_rfl) (by kernel_rfl) (by intro _ _ _ h; exact h) (Or.inl ⟨by rfl, fun w hSw => by (dsimp only at hSw; go_simp; (try with_reducible rfl))⟩) (by assumption) ?_
    simp only [Act.put, List.setIfInBounds_toArray, List.set_cons_zero, List.set_cons_succ]
    refine wpAnyH_take (i := 15) (by simp only [List.getElem?_toArray, List.getElem?_cons_zero, List.getElem?_cons_succ]; rfl) (by kernel_rfl) (by kernel_rfl) (by kernel_rfl) (by intro _ _ _ h; exact h) (Or.inl ⟨by rfl, fun w hSw => by (dsimp only at hSw; go_simp; (try with_reducible rfl))⟩) (by assumption) ?_
    simp only [Act.put, List.setIfInBounds_toArray, List.set_cons_zero, List.set_cons_succ]
    refine wpAnyH_ready (rs := [16]) (by kernel_rfl) (by simp) ?_
    refine AllReadyH.cons (by simp only [List.getElem?_toArray, List.getElem?_cons_zero, List.getElem?_cons_succ]; rfl) ?_ AllReadyH.nil
    intro K hK
    go_simp
    refine (CC.out _).mono ?_
    rintro e w3 ⟨rfl, hb3⟩
    obtain ⟨hcA, hfA⟩ := bcell hb3
    go_wp2_with fail
    refine hK.out _ _ ?_ (fun hHeld => ?_)
    · (((try dsimp only); (repeat' apply And.intro) <;> first | (go_keep; done) | (simp (disch := first | omega | (simp <;> omega) | fail) [*]; done) | fail))
    clear hK K
    try simp only [Act.put, List.setIfInBounds_toArray, List.set_cons_zero, List.set_cons_succ]
    refine wpAnyH_take (i := 17) (by simp only [List.getElem?_toArray, List.getElem?_cons_zero, List.getElem?_cons_succ]; rfl) (by kernel_rfl) (by kernel_rfl) (by kernel_rfl) (by intro _ _ _ h; exact h) (Or.inl ⟨by rfl, fun w hSw => by (dsimp only at hSw; go_simp; (try with_reducible rfl))⟩) (by assumption) ?_
    simp only [Act.put, List.setIfInBounds_toArray, List.set_cons_zero, List.set_cons_succ]
    refine wpAnyH_done (by kernel_rfl) ?_ _
    have hb3' : Below wc.heap.size wc w3 := undrew hb3
    have f1 := hb3'.cell (p := ⟨H, 2, none⟩) wH
    have f2 := hb3'.cell (p := ⟨b7, 1, none⟩) w7
    have f3 := hb3'.cell (p := ⟨b8, 1, none⟩) w8
    rw [c2] at f1
    rw [d1] at f2
    rw [e1] at f3
    have hx := chain hbc hb3'
    have hxs := hx.size
    clear hb3 hb3' hbc hcA hfA hHeld p0 p1 p2 q0 q1 q2 c1 c2 d0 d1 e0 e1
    have hz2 : ∀ (v : Int), Calls Try.prog 98 #[.slice (some ⟨w3.heap.size, 0, none⟩) 2 2] (w3.alloc (.cells #[.int .i64 v, .int .i64 z] 3)) fun e w' => e = .returned (.int .i64 (orL [v, z])) ∧ (w3.alloc (.cells #[.int .i64 v, .int .i64 z] 3)) = w' := by
      intro v
      refine or_cmp _ _ _ [v, z] _ ?_ (by simp)
      intro j hj
      match j, hj with
      | 0, _ => simp
      | 1, _ => simp
    cases down
    · go_wp2_with fail
      refine (CN.out _).mono ?_
      rintro e w' ⟨rfl, rfl⟩
      go_wp2_with fail
      refine (hz2 _).mono ?_
      rintro e w' ⟨rfl, rfl⟩
      go_wp2
      go_ret
      exact ⟨rfl, by go_grown⟩
    · go_wp2_with fail
      refine (CN.out _).mono ?_
      rintro e w' ⟨rfl, rfl⟩
      go_wp2_with fail
      refine (hz2 _).mono ?_
      rintro e w' ⟨rfl, rfl⟩
      go_wp2
      go_ret
      exact ⟨rfl, by go_grown⟩

end Go.Proofs.Ytgeipficjfaocaa
