/-
  The contracts of the methods of the program's heap of rows that write.
-/
import Derived.Test.YtgeipficjfaocaaHeapI1
namespace Go.Proofs.Ytgeipficjfaocaa
open Go.ChangeShapes Go.WideShapes Go.ChangeAt Go.RowKit
attribute [local go_sem ↓] Go.wp_at_zero Go.wp_at_succ
attribute [local simp] World.cell?_alloc_past World.cell?_alloc_at World.frozen?_alloc_at cell_far cell_off cell_here World.frozen?_alloc_past

theorem flatW_get (R : Nat → Value) (s : List Nat) (m : Nat) (h : m < s.length * 2) : (flatW R s)[m]? = some (if m % 2 = 0 then R (s.getD (m / 2) 0) else .int .i64 (s.getD (m / 2) 0)) := by
  obtain ⟨f0, f1⟩ := flatW_at R s (m / 2) (by omega)
  by_cases e : m % 2 = 0
  · rw [if_pos e]
    rw [show m / 2 * 2 = m by omega] at f0; exact f0
  · rw [if_neg e]
    rw [show m / 2 * 2 + 1 = m by omega] at f1; exact f1

/-- Four cells are written: two change places. -/
theorem flatW_swap (R : Nat → Value) (s : List Nat) (i k : Nat) (hi : i < s.length) (hk : k < s.length) :
    ((((flatW R s).set (i * 2) (R (s.getD k 0))).set (i * 2 + 1) (.int .i64 (s.getD k 0))).set (k * 2) (R (s.getD i 0))).set (k * 2 + 1) (.int .i64 (s.getD i 0)) = flatW R (swap 0 s i k) := by
  apply List.ext_getElem?
  intro m
  by_cases hm : m < s.length * 2
  · have hl := flatW_length R s
    rw [flatW_get R (swap 0 s i k) m (by rw [swap_length]; exact hm), swap_getD _ _ _ _ _ hi hk]
    simp only [List.getElem?_set, List.length_set, hl, flatW_get R s m hm]
    by_cases e1 : m / 2 = k
    · rw [if_pos e1]
      by_cases e : m % 2 = 0
      · rw [if_neg (by omega), if_pos (by omega), if_pos (by omega), if_pos e]
      · rw [if_pos (by omega), if_pos (by omega), if_neg e]
    · rw [if_neg e1, if_neg (by omega), if_neg (by omega)]
      by_cases e2 : m / 2 = i
      · rw [if_pos e2]
        by_cases e : m % 2 = 0
        · rw [if_neg (by omega), if_pos (by omega), if_pos (by omega), if_pos e]
        · rw [if_pos (by omega), if_pos (by omega), if_neg e]
      · rw [if_neg e2, if_neg (by omega), if_neg (by omega)]
  · rw [List.getElem?_eq_none (by simp only [List.length_set, flatW_length]; omega), List.getElem?_eq_none (by rw [flatW_length, swap_length]; omega)]

/-- Two rows that wait change places. -/
theorem HeapAt.swapped {w : World} {base H g c : Nat} {R : Nat → Value} {s : List Nat} {at_ : Int} {down : Bool} (h : HeapAt w base H (.slice (some ⟨g, 0, none⟩) s.length c) R s at_ down) (i k : Nat) (hi : i < s.length) (hk : k < s.length) :
    HeapAt ((((w.setCell ⟨g, i * 2, none⟩ (R (s.getD k 0))).setCell ⟨g, i * 2 + 1, none⟩ (.int .i64 (s.getD k 0))).setCell ⟨g, k * 2, none⟩ (R (s.getD i 0))).setCell ⟨g, k * 2 + 1, none⟩ (.int .i64 (s.getD i 0))) base H (.slice (some ⟨g, 0, none⟩) s.length c) R (swap 0 s i k) at_ down ∧
    KeepS (fun b => b = g) w ((((w.setCell ⟨g, i * 2, none⟩ (R (s.getD k 0))).setCell ⟨g, i * 2 + 1, none⟩ (.int .i64 (s.getD k 0))).setCell ⟨g, k * 2, none⟩ (R (s.getD i 0))).setCell ⟨g, k * 2 + 1, none⟩ (.int .i64 (s.getD i 0))) := by
  have hgH : H ≠ g := by intro e; apply h.apart; rw [e]; rfl
  have s1 := h.own.stored (i * 2) (R (s.getD k 0))
  have s2 := s1.1.stored (i * 2 + 1) (.int .i64 (s.getD k 0))
  have s3 := s2.1.stored (k * 2) (R (s.getD i 0))
  have s4 := s3.1.stored (k * 2 + 1) (.int .i64 (s.getD i 0))
  rw [flatW_swap R s i k hi hk] at s4
  have K : KeepS (fun b => b = g) w _ := ((((KeepS.refl (fun b => b = g) w).setCell (p := ⟨g, i * 2, none⟩) rfl (R (s.getD k 0))).setCell (p := ⟨g, i * 2 + 1, none⟩) rfl (.int .i64 (s.getD k 0))).setCell (p := ⟨g, k * 2, none⟩) rfl (R (s.getD i 0))).setCell (p := ⟨g, k * 2 + 1, none⟩) rfl (.int .i64 (s.getD i 0))
  have hlt := h.lt
  refine ⟨⟨?_, ?_, ?_, ?_, h.hH, ?_, h.apart, h.hd, by rw [K.block H hlt hgH]; exact h.ty⟩, K⟩
  · rw [K.cell hlt hgH]; exact h.c0
  · rw [K.cell hlt hgH]; exact h.c1
  · rw [K.cell hlt hgH]; exact h.c2
  · rw [K.frozen hlt hgH]; exact h.fz
  · rw [swap_length]; exact s4.1

set_option maxRecDepth 100000 in
set_option maxHeartbeats 4000000 in
theorem heap_swap {w : World} {base H g c : Nat} {R : Nat → Value} {s : List Nat} {at_ : Int} {down : Bool} (h : HeapAt w base H (.slice (some ⟨g, 0, none⟩) s.length c) R s at_ down) (i k : Nat) (hi : i < s.length) (hk : k < s.length) :
    Calls Try.prog 124 #[.pointer (some ⟨H, 0, none⟩), .int .i64 i, .int .i64 k] w fun e w' => (∃ v, e = .returned v) ∧ HeapAt w' base H (.slice (some ⟨g, 0, none⟩) s.length c) R (swap 0 s i k) at_ down ∧ KeepS (fun b => b = g) w w' := by
  have hdr : Below w.heap.size w w.drew := (Below.refl _ _).drew
  have HS : Hid (∀ w', w' = ((((w.drew.setCell ⟨g, i * 2, none⟩ (R (s.getD k 0))).setCell ⟨g, i * 2 + 1, none⟩ (.int .i64 (s.getD k 0))).setCell ⟨g, k * 2, none⟩ (R (s.getD i 0))).setCell ⟨g, k * 2 + 1, none⟩ (.int .i64 (s.getD i 0))) → HeapAt w' base H (.slice (some ⟨g, 0, none⟩) s.length c) R (swap 0 s i k) at_ down ∧ KeepS (fun b => b = g) w w') := by
    rintro w' rfl
    have := (h.below hdr).swapped i k hi hk
    exact ⟨this.1, (KeepS.ofBelow hdr).trans this.2⟩
  have c0 := h.c0
  obtain ⟨x0, x1, x2, x3⟩ := h.look i hi
  obtain ⟨y0, y1, y2, y3⟩ := h.look k hk
  have hgw : g < w.heap.size := World.block_lt_of_cell? w _ x0
  have hHw := h.lt
  have hgH : ¬ H = g := by intro e; apply h.apart; rw [e]; rfl
  obtain ⟨a1, n1, k1, e1⟩ := h.hd (s.getD i 0)
  obtain ⟨a2, n2, k2, e2⟩ := h.hd (s.getD k 0)
  rw [e1, e2] at HS
  rw [e1] at x0
  rw [e2] at y0
  clear h hdr e1 e2
  have j3 : (0 : Int) ≤ (i : Int) := by omega
  have j4 : (i : Int) < (s.length : Int) := by omega
  have j5 : (0 : Int) ≤ (k : Int) := by omega
  have j6 : (k : Int) < (s.length : Int) := by omega
  by_cases hik : k = i
  · subst hik
    obtain ⟨rfl, rfl, rfl⟩ : a1 = a2 ∧ n1 = n2 ∧ k1 = k2 := by simpa using x0.symm.trans y0
    generalize s.getD k 0 = p at *
    go_enter Try.func124, Try.ntmps124
    go_wp2_with fail
    go_region
    all_goals
      go_wp2_with fail
      exact bodyPost_end (v := .tuple #[]) (by first | rfl | kernel_rfl) rfl ⟨⟨_, rfl⟩, HS.out _ rfl⟩
  · have d0 : ¬ k * 2 = i * 2 := by omega
    have d1 : ¬ k * 2 = i * 2 + 1 := by omega
    have d2 : ¬ k * 2 + 1 = i * 2 := by omega
    have d3 : ¬ k * 2 + 1 = i * 2 + 1 := by omega
    generalize s.getD i 0 = p at *
    generalize s.getD k 0 = q at *
    go_enter Try.func124, Try.ntmps124
    go_wp2_with fail
    go_region
    all_goals
      go_wp2_with fail
      exact bodyPost_end (v := .tuple #[]) (by first | rfl | kernel_rfl) rfl ⟨⟨_, rfl⟩, HS.out _ rfl⟩

/-- A row more waits. -/
theorem HeapAt.pushed {w w1 w2 : World} {base H : Nat} {V v' : Value} {R : Nat → Value} {s : List Nat} {at_ : Int} {down : Bool} {q : Nat} (h : HeapAt w base H V R s at_ down) (hb : Below w.heap.size w w1) (own2 : w2.ownsRow base 84 2 v' (s.length + 1) (flatW R s ++ [R q, .int .i64 q])) (hg : w1.grownBy w2 V.ownBlock) :
    w2.cell? ⟨H, 0, none⟩ = some V ∧ w2.frozen? ⟨H, 0, none⟩ = false ∧ HeapAt (w2.setCell ⟨H, 0, none⟩ v') base H v' R (s ++ [q]) at_ down ∧ KeepS (fun b => b = H ∨ V.ownBlock = some b) w (w2.setCell ⟨H, 0, none⟩ v') := by
  have h1 := h.below hb
  have hlt := h1.lt
  have hne : some H ≠ V.ownBlock := fun e => h.apart e.symm
  have hbl := hg.block H hlt hne
  have e0 : w2.cell? ⟨H, 0, none⟩ = some V := (World.cell?_of_block (a := ⟨H, 0, none⟩) hbl).trans h1.c0
  have e1 : w2.cell? ⟨H, 1, none⟩ = some (.int .i64 at_) := (World.cell?_of_block (a := ⟨H, 1, none⟩) hbl).trans h1.c1
  have e2 : w2.cell? ⟨H, 2, none⟩ = some (.bool down) := (World.cell?_of_block (a := ⟨H, 2, none⟩) hbl).trans h1.c2
  have e3 : w2.frozen? ⟨H, 0, none⟩ = false := (World.frozen?_of_block (a := ⟨H, 0, none⟩) hbl).trans h1.fz
  obtain ⟨cur, hc⟩ := h1.ty
  rw [← hbl] at hc
  have hv : v'.ownBlock ≠ some H := by
    rcases own2.2 with ⟨rfl, _⟩ | ⟨g, c, cur2, rfl, _, hg2, _⟩
    · simp [Value.ownBlock]
    · intro e
      simp only [Value.ownBlock, Option.some.injEq] at e
      subst e
      rw [hc] at hg2
      simp at hg2
  have hs : (w2.setCell ⟨H, 0, none⟩ v').heap[H]? = some (.cells (cur.setIfInBounds 0 v') 81 (0, 0)) := heap_setCell_same w2 H 0 cur 81 v' hc
  have K : KeepS (fun b => b = H ∨ V.ownBlock = some b) w (w2.setCell ⟨H, 0, none⟩ v') := by
    refine KeepS.setCell (p := ⟨H, 0, none⟩) ((KeepS.ofBelow hb).trans ⟨hg.os, hg.tape, hg.output, hg.size, fun k hk hn => hg.block k hk (fun e => hn (.inr e.symm))⟩) (.inl rfl) v'
  refine ⟨e0, e3, ⟨?_, ?_, ?_, ?_, h.hH, ?_, hv, h.hd, ⟨_, hs⟩⟩, K⟩
  · exact cell_here w2 H 0 v' (by rw [e0]; rfl)
  · rw [cell_off w2 H 0 1 v' (by decide)]; exact e1
  · rw [cell_off w2 H 0 2 v' (by decide)]; exact e2
  · exact frozen_of_row _ H 0 _ 81 hs
  · have k2 := own2.kept (w' := w2.setCell ⟨H, 0, none⟩ v') (row := some H) ⟨rfl, rfl, rfl, by simp, fun k _ hk => heap_setCell_other w2 ⟨H, 0, none⟩ k v' (fun e => hk (by simp [e]))⟩ (.inr hv)
    rw [List.length_append, flatW_append]
    exact k2

theorem asserts_row : ∀ (v : Value) (w : World), (Instr.typeAssert (.iface 84 v) 20 84 false).run Try.prog w = .ok v w := fun v w => by kernel_rfl
theorem infoW : (Try.prog.info? 84).map (fun i => (i.zero, i.size, i.bytes)) = some (some (.agg #[.slice none 0 0, .int .i64 0]), 2, 32) := by kernel_rfl

set_option maxRecDepth 100000 in
set_option maxHeartbeats 4000000 in
theorem heap_pushm {w : World} {base H : Nat} {V : Value} {R : Nat → Value} {s : List Nat} {at_ : Int} {down : Bool} (h : HeapAt w base H V R s at_ down) (q : Nat) (hsm : s.length < 1048576) (hbw : base ≤ w.heap.size) :
    Calls Try.prog 123 #[.pointer (some ⟨H, 0, none⟩), .iface 84 (.agg #[R q, .int .i64 q])] w fun e w' => (∃ v, e = .returned v) ∧ ∃ V', HeapAt w' base H V' R (s ++ [q]) at_ down ∧ KeepS (fun b => b = H ∨ V.ownBlock = some b) w w' := by
  obtain ⟨i0, hi, hz0, hz1, hz2⟩ := info_parts infoW
  have qa := asserts_row
  have c0 := h.c0
  have f0 := h.fz
  have hHw := h.lt
  obtain ⟨a1, n1, k1, e1⟩ := h.hd q
  rw [e1]
  have HH : Hid (HeapAt w base H V R s at_ down) := h
  clear h
  go_enter Try.func123, Try.ntmps123
  go_wp2_with fail
  refine wp_region_any (by kernel_rfl) (show wpAny _ _ _ _ _ _ _ w.drew from ?_)
  refine wpAny_take (i := 0) (by simp only [List.getElem?_toArray, List.getElem?_cons_zero]; rfl) (by kernel_rfl) (by kernel_rfl) (by kernel_rfl) (by intro _ _ _ h; exact h) (Or.inl ⟨by rfl, fun w => by (go_simp; (try with_reducible rfl))⟩) ?_
  simp only [Act.put, List.setIfInBounds_toArray, List.set_cons_zero, List.set_cons_succ]
  refine wpAny_take (i := 1) (by simp only [List.getElem?_toArray, List.getElem?_cons_zero, List.getElem?_cons_succ]; rfl) (by kernel_rfl) (by kernel_rfl) (by kernel_rfl) (by intro _ _ _ h; exact h) (Or.inl ⟨by rfl, fun w => by (go_simp; (try with_reducible rfl))⟩) ?_
  simp only [Act.put, List.setIfInBounds_toArray, List.set_cons_zero, List.set_cons_succ]
  refine wpAny_take (i := 2) (by simp only [List.getElem?_toArray, List.getElem?_cons_zero, List.getElem?_cons_succ]; rfl) (by kernel_rfl) (by kernel_rfl) (by kernel_rfl) (by intro _ _ _ h; exact h) (Or.inl ⟨by rfl, fun w => by (go_simp; (try with_reducible rfl))⟩) ?_
  simp only [Act.put, List.setIfInBounds_toArray, List.set_cons_zero, List.set_cons_succ]
  refine wpAny_take (i := 3) (by simp only [List.getElem?_toArray, List.getElem?_cons_zero, List.getElem?_cons_succ]; rfl) (by kernel_rfl) (by kernel_rfl) (by kernel_rfl) (by intro _ _ _ h; exact h) (Or.inl ⟨by rfl, fun w => by (go_simp; (try with_reducible rfl))⟩) ?_
  simp only [Act.put, List.setIfInBounds_toArray, List.set_cons_zero, List.set_cons_succ]
  refine wpAny_take (i := 5) (by simp only [List.getElem?_toArray, List.getElem?_cons_zero, List.getElem?_cons_succ]; rfl) (by kernel_rfl) (by kernel_rfl) (by kernel_rfl) (by intro _ _ _ h; exact h) (Or.inl ⟨by rfl, fun w => by (go_simp; (try with_reducible rfl))⟩) ?_
  simp only [Act.put, List.setIfInBounds_toArray, List.set_cons_zero, List.set_cons_succ]
  refine wpAny_take (i := 6) (by simp only [List.getElem?_toArray, List.getElem?_cons_zero, List.getElem?_cons_succ]; rfl) (by kernel_rfl) (by kernel_rfl) (by kernel_rfl) (by intro _ _ _ h; exact h) (Or.inl ⟨by rfl, fun w => by (go_simp; (try with_reducible rfl))⟩) ?_
  simp only [Act.put, List.setIfInBounds_toArray, List.set_cons_zero, List.set_cons_succ]
  refine wpAny_ready (rs := [4, 7]) (by kernel_rfl) (by simp) ?_
  refine AllReady.cons (by simp only [List.getElem?_toArray, List.getElem?_cons_zero, List.getElem?_cons_succ]; rfl) ?_ (AllReady.cons (by simp only [List.getElem?_toArray, List.getElem?_cons_zero, List.getElem?_cons_succ]; rfl) ?_ AllReady.nil)
  · intro K hK
    go_simp
    refine hK _ _ ?_
    clear hK K
    try simp only [Act.put, List.setIfInBounds_toArray, List.set_cons_zero, List.set_cons_succ]
    refine wpAny_ready (rs := [7]) (by kernel_rfl) (by simp) ?_
    refine AllReady.cons (by simp only [List.getElem?_toArray, List.getElem?_cons_zero, List.getElem?_cons_succ]; rfl) ?_ AllReady.nil
    intro K hK
    go_simp
    refine hK _ _ ?_
    clear hK K
    try simp only [Act.put, List.setIfInBounds_toArray, List.set_cons_zero, List.set_cons_succ]
    refine wpAny_ready (rs := [8]) (by kernel_rfl) (by simp) ?_
    refine AllReady.cons (by simp only [List.getElem?_toArray, List.getElem?_cons_zero, List.getElem?_cons_succ]; rfl) ?_ AllReady.nil
    intro K hK
    rw [if_pos (by rfl)]
    refine wp_append_own _ _ _ 79 rfl base 84 i0 (.agg #[.slice none 0 0, .int .i64 0]) 2 32 Try.underlying79 hi hz0 hz1 hz2 rfl (by decide) V s.length (flatW R s) rfl (own_below HH.out.own ((Below.refl _ _).drew.alloc (Nat.le_refl _) _)) ⟨w.heap.size, 0, none⟩ 1 1 [.slice a1 n1 k1, .int .i64 q] rfl rfl ?_ ?_ ?_ ?_ ?_ ?_
    · intro j u hj
      match j, hj with
      | 0, hj => simp at hj; subst hj; simp [Addr.add]
      | 1, hj => simp at hj; subst hj; simp [Addr.add]
    · intro u hu; simp at hu; rcases hu with rfl | rfl <;> rfl
    · unfold maxLen; omega
    · omega
    · simp; omega
    intro v' w2 own2 hgrow hnn
    obtain ⟨a', c', rfl⟩ := len_of own2
    refine hK _ _ ?_
    clear hK K
    try simp only [Act.put, List.setIfInBounds_toArray, List.set_cons_zero, List.set_cons_succ]
    refine wpAny_take (i := 9) (by simp only [List.getElem?_toArray, List.getElem?_cons_zero, List.getElem?_cons_succ]; rfl) (by kernel_rfl) (by kernel_rfl) (by kernel_rfl) (by intro _ _ _ h; exact h) (Or.inl ⟨by rfl, fun w => by (go_simp; (try with_reducible rfl))⟩) ?_
    simp only [Act.put, List.setIfInBounds_toArray, List.set_cons_zero, List.set_cons_succ]
    refine wpAny_take (i := 10) (by simp only [List.getElem?_toArray, List.getElem?_cons_zero, List.getElem?_cons_succ]; rfl) (by kernel_rfl) (by kernel_rfl) (by kernel_rfl) (by intro _ _ _ h; exact h) (Or.inl ⟨by rfl, fun w => by (go_simp; (try with_reducible rfl))⟩) ?_
    simp only [Act.put, List.setIfInBounds_toArray, List.set_cons_zero, List.set_cons_succ]
    rw [← e1] at own2
    obtain ⟨u0, u1, u2, u3⟩ := HH.out.pushed ((Below.refl _ _).drew.alloc (Nat.le_refl _) _) own2 hgrow
    have U : Hid (HeapAt (w2.setCell ⟨H, 0, none⟩ (.slice a' (s.length + 1) c')) base H (.slice a' (s.length + 1) c') R (s ++ [q]) at_ down ∧ KeepS (fun b => b = H ∨ V.ownBlock = some b) w (w2.setCell ⟨H, 0, none⟩ (.slice a' (s.length + 1) c'))) := ⟨u2, u3⟩
    clear u2 u3 own2 hgrow hnn
    refine wpAny_ready (rs := [11]) (by kernel_rfl) (by simp) ?_
    refine AllReady.cons (by simp only [List.getElem?_toArray, List.getElem?_cons_zero, List.getElem?_cons_succ]; rfl) ?_ AllReady.nil
    intro K hK
    go_simp
    refine hK _ _ ?_
    clear hK K
    try simp only [Act.put, List.setIfInBounds_toArray, List.set_cons_zero, List.set_cons_succ]
    refine wpAny_done (by kernel_rfl) ?_ _
    go_wp2_with fail
    exact bodyPost_end (v := .tuple #[]) (by first | rfl | kernel_rfl) rfl ⟨⟨_, rfl⟩, _, U.out⟩
  · intro K hK
    go_simp
    refine hK _ _ ?_
    clear hK K
    try simp only [Act.put, List.setIfInBounds_toArray, List.set_cons_zero, List.set_cons_succ]
    refine wpAny_ready (rs := [4]) (by kernel_rfl) (by simp) ?_
    refine AllReady.cons (by simp only [List.getElem?_toArray, List.getElem?_cons_zero, List.getElem?_cons_succ]; rfl) ?_ AllReady.nil
    intro K hK
    go_simp
    refine hK _ _ ?_
    clear hK K
    try simp only [Act.put, List.setIfInBounds_toArray, List.set_cons_zero, List.set_cons_succ]
    refine wpAny_ready (rs := [8]) (by kernel_rfl) (by simp) ?_
    refine AllReady.cons (by simp only [List.getElem?_toArray, List.getElem?_cons_zero, List.getElem?_cons_succ]; rfl) ?_ AllReady.nil
    intro K hK
    rw [if_pos (by rfl)]
    refine wp_append_own _ _ _ 79 rfl base 84 i0 (.agg #[.slice none 0 0, .int .i64 0]) 2 32 Try.underlying79 hi hz0 hz1 hz2 rfl (by decide) V s.length (flatW R s) rfl (own_below HH.out.own ((Below.refl _ _).drew.alloc (Nat.le_refl _) _)) ⟨w.heap.size, 0, none⟩ 1 1 [.slice a1 n1 k1, .int .i64 q] rfl rfl ?_ ?_ ?_ ?_ ?_ ?_
    · intro j u hj
      match j, hj with
      | 0, hj => simp at hj; subst hj; simp [Addr.add]
      | 1, hj => simp at hj; subst hj; simp [Addr.add]
    · intro u hu; simp at hu; rcases hu with rfl | rfl <;> rfl
    · unfold maxLen; omega
    · omega
    · simp; omega
    intro v' w2 own2 hgrow hnn
    obtain ⟨a', c', rfl⟩ := len_of own2
    refine hK _ _ ?_
    clear hK K
    try simp only [Act.put, List.setIfInBounds_toArray, List.set_cons_zero, List.set_cons_succ]
    refine wpAny_take (i := 9) (by simp only [List.getElem?_toArray, List.getElem?_cons_zero, List.getElem?_cons_succ]; rfl) (by kernel_rfl) (by kernel_rfl) (by kernel_rfl) (by intro _ _ _ h; exact h) (Or.inl ⟨by rfl, fun w => by (go_simp; (try with_reducible rfl))⟩) ?_
    simp only [Act.put, List.setIfInBounds_toArray, List.set_cons_zero, List.set_cons_succ]
    refine wpAny_take (i := 10) (by simp only [List.getElem?_toArray, List.getElem?_cons_zero, List.getElem?_cons_succ]; rfl) (by kernel_rfl) (by kernel_rfl) (by kernel_rfl) (by intro _ _ _ h; exact h) (Or.inl ⟨by rfl, fun w => by (go_simp; (try with_reducible rfl))⟩) ?_
    simp only [Act.put, List.setIfInBounds_toArray, List.set_cons_zero, List.set_cons_succ]
    rw [← e1] at own2
    obtain ⟨u0, u1, u2, u3⟩ := HH.out.pushed ((Below.refl _ _).drew.alloc (Nat.le_refl _) _) own2 hgrow
    have U : Hid (HeapAt (w2.setCell ⟨H, 0, none⟩ (.slice a' (s.length + 1) c')) base H (.slice a' (s.length + 1) c') R (s ++ [q]) at_ down ∧ KeepS (fun b => b = H ∨ V.ownBlock = some b) w (w2.setCell ⟨H, 0, none⟩ (.slice a' (s.length + 1) c'))) := ⟨u2, u3⟩
    clear u2 u3 own2 hgrow hnn
    refine wpAny_ready (rs := [11]) (by kernel_rfl) (by simp) ?_
    refine AllReady.cons (by simp only [List.getElem?_toArray, List.getElem?_cons_zero, List.getElem?_cons_succ]; rfl) ?_ AllReady.nil
    intro K hK
    go_simp
    refine hK _ _ ?_
    clear hK K
    try simp only [Act.put, List.setIfInBounds_toArray, List.set_cons_zero, List.set_cons_succ]
    refine wpAny_done (by kernel_rfl) ?_ _
    go_wp2_with fail
    exact bodyPost_end (v := .tuple #[]) (by first | rfl | kernel_rfl) rfl ⟨⟨_, rfl⟩, _, U.out⟩

set_option maxRecDepth 100000 in
set_option maxHeartbeats 4000000 in
theorem heap_popm {w : World} {base H g c : Nat} {R : Nat → Value} {s : List Nat} {at_ : Int} {down : Bool} (n : Nat) (hn : s.length = n + 1) (h : HeapAt w base H (.slice (some ⟨g, 0, none⟩) s.length c) R s at_ down) (hsm : s.length ≤ 1048576) :
    Calls Try.prog 122 #[.pointer (some ⟨H, 0, none⟩)] w fun e w' => e = .returned (.iface 84 (.agg #[R (s.getD n 0), .int .i64 (s.getD n 0)])) ∧ HeapAt w' base H (.slice (some ⟨g, 0, none⟩) n c) R (s.take n) at_ down ∧ KeepS (fun b => b = H) w w' := by
  have c0 := h.c0
  have f0 := h.fz
  have hHw := h.lt
  obtain ⟨x0, x1, _, _⟩ := h.look n (by omega)
  have hgw : g < w.heap.size := World.block_lt_of_cell? w _ x0
  obtain ⟨a1, n1, k1, e1⟩ := h.hd (s.getD n 0)
  obtain ⟨hcap, hle⟩ : n ≤ c ∧ s.length ≤ c := by
    rcases h.own.2 with ⟨h', _⟩ | ⟨g', c', cur, h', _, _, hc, _⟩
    · simp at h'
    · simp at h'; omega
  have HS : Hid (∀ w1, Below w.heap.size w w1 → HeapAt (w1.setCell ⟨H, 0, none⟩ (.slice (some ⟨g, 0, none⟩) n c)) base H (.slice (some ⟨g, 0, none⟩) n c) R (s.take n) at_ down ∧ KeepS (fun b => b = H) w (w1.setCell ⟨H, 0, none⟩ (.slice (some ⟨g, 0, none⟩) n c))) := by
    intro w1 hb
    have h1 := h.below hb
    obtain ⟨cur, hc⟩ := h1.ty
    have hs : (w1.setCell ⟨H, 0, none⟩ (.slice (some ⟨g, 0, none⟩) n c)).heap[H]? = some (.cells (cur.setIfInBounds 0 _) 81 (0, 0)) := heap_setCell_same w1 H 0 cur 81 _ hc
    have own1 : w1.ownsRow base 84 2 (.slice (some ⟨g, 0, none⟩) n c) n (flatW R (s.take n)) := by
      rcases h1.own.2 with ⟨h', _⟩ | ⟨g', c', cur, h', hb', hg', hc', hm', hz', ht'⟩
      · simp at h'
      · simp only [Value.slice.injEq, Option.some.injEq, Addr.mk.injEq, and_true, true_and] at h'
        obtain ⟨rfl, rfl⟩ := h'
        refine ⟨by rw [flatW_length, List.length_take]; congr 1; omega, .inr ⟨g, c, cur, rfl, hb', hg', hcap, hm', hz', ?_⟩⟩
        have e2 : cur.toList.take (n * 2) = (cur.toList.take (s.length * 2)).take (n * 2) := by rw [List.take_take]; congr 1; omega
        rw [e2, ht']
        conv => lhs; rw [← List.take_append_drop n s, flatW_append]
        rw [List.take_left' (by rw [flatW_length, List.length_take]; congr 1; omega)]
    have hv : (Value.slice (some ⟨g, 0, none⟩) n c).ownBlock ≠ some H := by
      have := h.apart
      simpa [Value.ownBlock] using this
    have k2 := own1.kept (w' := w1.setCell ⟨H, 0, none⟩ (.slice (some ⟨g, 0, none⟩) n c)) (row := some H) ⟨rfl, rfl, rfl, by simp, fun k _ hk => heap_setCell_other w1 ⟨H, 0, none⟩ k _ (fun e => hk (by simp [e]))⟩ (.inr hv)
    refine ⟨⟨?_, ?_, ?_, ?_, h.hH, ?_, hv, h.hd, ⟨_, hs⟩⟩, KeepS.setCell (p := ⟨H, 0, none⟩) (KeepS.ofBelow (P := fun b => b = H) hb) rfl _⟩
    · exact cell_here w1 H 0 _ (by rw [h1.c0]; rfl)
    · rw [cell_off w1 H 0 1 _ (by decide)]; exact h1.c1
    · rw [cell_off w1 H 0 2 _ (by decide)]; exact h1.c2
    · exact frozen_of_row _ H 0 _ 81 hs
    · rw [show (s.take n).length = n from by rw [List.length_take]; omega]; exact k2
  rw [e1] at x0 ⊢
  clear h
  rw [hn] at c0
  generalize s.getD n 0 = q at *
  have j1 : ((n + 1 : Nat) : Int) - 1 = (n : Int) := by omega
  have j2 : (0 : Int) ≤ (n : Int) := by omega
  have j3 : (n : Int) < ((n + 1 : Nat) : Int) := by omega
  have j4 : (n : Int) ≤ (c : Int) := by omega
  go_enter Try.func122, Try.ntmps122
  go_wp2_with fail
  go_ret
  have z := HS.out w (Below.refl _ _)
  have hal : ∀ (w9 : World) (o : Obj), Below w9.heap.size w9 (w9.alloc o) := fun w9 o => (Below.refl _ _).alloc (Nat.le_refl _) o
  exact ⟨rfl, z.1.below (hal _ _), z.2.trans (KeepS.ofBelow (hal _ _))⟩

end Go.Proofs.Ytgeipficjfaocaa
