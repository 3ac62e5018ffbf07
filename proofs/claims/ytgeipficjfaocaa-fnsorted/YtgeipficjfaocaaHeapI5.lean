/-
  The contracts of the library's Push and Pop over the program's heap of rows.
-/
import Derived.Test.YtgeipficjfaocaaHeapI4
namespace Go.Proofs.Ytgeipficjfaocaa
open Go.ChangeShapes Go.WideShapes Go.ChangeAt Go.RowKit
attribute [local go_sem ↓] Go.wp_at_zero Go.wp_at_succ

theorem Waits.form {w : World} {base H : Nat} {V : Value} {n t : Nat} {R : Nat → Value} {key : Nat → CT} {A : Nat → Nat × Nat} {N K : Nat → Nat} {s : List Nat} {down : Bool} (h : Waits w base H V n t R key A N K s down) (hs : 0 < s.length) :
    ∃ g c, V = .slice (some ⟨g, 0, none⟩) s.length c ∧ base ≤ g := by
  obtain ⟨g, c, hv, hb, _⟩ := h.heap.form hs
  exact ⟨g, c, hv, hb⟩

set_option maxRecDepth 100000 in
set_option maxHeartbeats 4000000 in
theorem heap_push {w : World} {base H : Nat} {V : Value} {n t : Nat} {R : Nat → Value} {key : Nat → CT} {A : Nat → Nat × Nat} {N K : Nat → Nat} {s : List Nat} {down : Bool} (h : Waits w base H V n t R key A N K s down) (hp : Heap (placeLt key down) s s.length) (hsm : s.length < 1048576) (q : Nat) (hq : q < n) :
    Calls Try.prog 84 #[.iface 78 (.pointer (some ⟨H, 0, none⟩)), .iface 84 (.agg #[R q, .int .i64 q])] w fun e w' => (∃ v, e = .returned v) ∧ ∃ V' s', s'.Perm (s ++ [q]) ∧ Waits w' base H V' n t R key A N K s' down ∧ Heap (placeLt key down) s' s'.length ∧ Below base w w' := by
  have HW : Hid (Waits w base H V n t R key A N K s down) := h
  have HP : Hid (Heap (placeLt key down) s s.length) := hp
  have hbase := h.bw
  obtain ⟨a1, n1, k1, e1⟩ := h.heap.hd q
  have PM : Hid (Calls Try.prog 123 #[.pointer (some ⟨H, 0, none⟩), .iface 84 (.agg #[.slice a1 n1 k1, .int .i64 q])] w fun e w' => (∃ v, e = .returned v) ∧ ∃ V', HeapAt w' base H V' R (s ++ [q]) (t : Int) down ∧ KeepS (fun b => b = H ∨ V.ownBlock = some b) w w') := by
    have := heap_pushm h.heap q hsm h.bw
    rw [e1] at this; exact this
  rw [e1]
  clear h hp
  go_enter Try.func84, Try.ntmps84
  go_wp2_with fail
  refine PM.out.mono ?_
  rintro e w1 ⟨⟨v, rfl⟩, V', hh, hk⟩
  have hb1 : Below base w w1 := by
    refine hk.below (fun b hb => ?_) hbase
    rcases hb with rfl | hb
    · exact HW.out.heap.hH
    · exact (HW.out.heap.own.lt b hb).1
  have W1 : Hid (Waits w1 base H V' n t R key A N K (s ++ [q]) down) := by
    refine ⟨hh, HW.out.keys.below hb1, fun x hx => ?_, Nat.le_trans hbase hk.size⟩
    rcases List.mem_append.1 hx with hx | hx
    · exact HW.out.all x hx
    · simp at hx; omega
  have hlen : (s ++ [q]).length = s.length + 1 := by simp
  have U : Hid (UpAt (placeLt key down) (s ++ [q]) (s ++ [q]).length s.length) := by
    rw [hlen]
    refine UpAt.start fun i h0 hi => ?_
    have ha : ∀ x, x < s.length → (s ++ [q]).getD x 0 = s.getD x 0 := fun x hx => by simp [List.getD, List.getElem?_append_left hx]
    rw [ha i hi, ha _ (by omega)]
    exact HP.out i h0 hi
  have HL : Hid (Calls Try.prog 85 #[.pointer (some ⟨H, 0, none⟩)] w1 fun e w' => e = .returned (.int .i64 ((s.length + 1 : Nat) : Int)) ∧ w1 = w') := by
    have := heap_len W1.out.heap
    rw [hlen] at this; exact this
  have hsub : ((s.length + 1 : Nat) : Int) - 1 = (s.length : Int) := by omega
  obtain ⟨g, c, hV, hg⟩ := W1.out.form (by omega)
  subst hV
  clear hh hk PM
  go_wp2_with fail
  refine HL.out.mono ?_
  rintro e w' ⟨rfl, rfl⟩
  go_wp2_with fail
  refine (heap_up W1.out hg (by omega) s.length (by omega) U.out).mono ?_
  rintro e w2 ⟨⟨v2, rfl⟩, s', hp, hw, hh, hk⟩
  have fin : Hid (∃ V' s', s'.Perm (s ++ [q]) ∧ Waits w2 base H V' n t R key A N K s' down ∧ Heap (placeLt key down) s' s'.length ∧ Below base w w2) :=
    ⟨_, s', hp, hw, by rw [hp.length_eq]; exact hh, hb1.trans (hk.below (fun b hb => by omega) W1.out.bw)⟩
  clear hp hw hh hk W1 U HL
  go_wp2_with fail
  exact bodyPost_end (v := .tuple #[]) (by first | rfl | kernel_rfl) rfl ⟨⟨_, rfl⟩, fin.out⟩

set_option maxRecDepth 100000 in
set_option maxHeartbeats 4000000 in
theorem heap_pop {w : World} {base H g c : Nat} {n t : Nat} {R : Nat → Value} {key : Nat → CT} {A : Nat → Nat × Nat} {N K : Nat → Nat} {s : List Nat} {down : Bool} (m q : Nat) (hm : s.length = m + 1) (hq : s.getD 0 0 = q) (h : Waits w base H (.slice (some ⟨g, 0, none⟩) s.length c) n t R key A N K s down) (hp : Heap (placeLt key down) s s.length) (hg : base ≤ g) (hsm : s.length ≤ 1048576) :
    Calls Try.prog 87 #[.iface 78 (.pointer (some ⟨H, 0, none⟩))] w fun e w' => ∃ s', e = .returned (.iface 84 (.agg #[R q, .int .i64 q])) ∧ s.Perm (q :: s') ∧ (∀ x ∈ s', placeLt key down x q = false) ∧ s'.length = m ∧ Waits w' base H (.slice (some ⟨g, 0, none⟩) m c) n t R key A N K s' down ∧ Heap (placeLt key down) s' s'.length ∧ KeepS (fun b => b = g ∨ b = H) w w' := by
  have ST := placeLt_strict key down n
  have HW : Hid (Waits w base H (.slice (some ⟨g, 0, none⟩) s.length c) n t R key A N K s down) := h
  have HP : Hid (Heap (placeLt key down) s s.length) := hp
  have HL : Hid (Calls Try.prog 85 #[.pointer (some ⟨H, 0, none⟩)] w fun e w' => e = .returned (.int .i64 ((m + 1 : Nat) : Int)) ∧ w = w') := by
    have := heap_len h.heap
    rw [hm] at this; exact this
  have SW : Hid (Calls Try.prog 124 #[.pointer (some ⟨H, 0, none⟩), .int .i64 0, .int .i64 m] w fun e w' => (∃ v, e = .returned v) ∧ Waits w' base H (.slice (some ⟨g, 0, none⟩) s.length c) n t R key A N K (swap 0 s 0 m) down ∧ KeepS (fun b => b = g) w w') := waits_swap h hg 0 m (by omega) (by omega)
  have hsub : ((m + 1 : Nat) : Int) - 1 = (m : Int) := by omega
  clear h hp
  obtain ⟨u, hu⟩ : ∃ u, swap 0 s 0 m = u := ⟨_, rfl⟩
  have hul : u.length = s.length := by rw [← hu, swap_length]
  rw [hu] at SW
  go_enter Try.func87, Try.ntmps87
  go_wp2_with fail
  refine HL.out.mono ?_
  rintro e w' ⟨rfl, rfl⟩
  go_wp2_with fail
  refine SW.out.mono ?_
  rintro e w1 ⟨⟨v, rfl⟩, hw1, hk1⟩
  have W1 : Hid (Waits w1 base H (.slice (some ⟨g, 0, none⟩) u.length c) n t R key A N K u down) := by rw [hul]; exact hw1
  have D : Hid (DownAt (placeLt key down) u m 0) := by
    refine DownAt.start (s := s) (by rw [← hm]; exact HP.out) fun i h0 hi => ?_
    rw [← hu, swap_getD _ _ _ _ _ (by omega) (by omega), if_neg (by omega), if_neg (by omega)]
  clear hw1 SW HL
  go_wp2_with fail
  refine (heap_down W1.out hg (by omega) m (by omega) D.out).mono ?_
  rintro e w2 ⟨⟨v2, rfl⟩, z, hz, hzx, hw2, hh2, hk2⟩
  have hzl : z.length = u.length := hz.length_eq
  have W2 : Hid (Waits w2 base H (.slice (some ⟨g, 0, none⟩) z.length c) n t R key A N K z down) := by rw [hzl]; exact hw2
  have hlast : z.getD m 0 = q := by
    rw [hzx m (Nat.le_refl _), ← hu, swap_getD _ _ _ _ _ (by omega) (by omega), if_pos rfl]; exact hq
  have HH : Hid (Heap (placeLt key down) z m) := hh2
  have PO : Hid (Calls Try.prog 122 #[.pointer (some ⟨H, 0, none⟩)] w2 fun e w' => e = .returned (.iface 84 (.agg #[R q, .int .i64 q])) ∧ HeapAt w' base H (.slice (some ⟨g, 0, none⟩) m c) R (z.take m) (t : Int) down ∧ KeepS (fun b => b = H) w2 w') := by
    have := heap_popm m (by omega) W2.out.heap (by omega)
    rw [hlast] at this; exact this
  have hzs : z.Perm s := hz.trans (by rw [← hu]; exact swap_perm 0 s 0 m (by omega) (by omega))
  clear hw2 hh2 W1 D
  go_wp2_with fail
  refine PO.out.mono ?_
  rintro e w3 ⟨rfl, hh3, hk3⟩
  have hperm : s.Perm (q :: z.take m) := by
    have e1 : z = z.take m ++ [q] := by
      conv => lhs; rw [← List.take_append_drop m z]
      congr 1
      rw [List.drop_eq_getElem_cons (by omega), List.drop_of_length_le (by omega), ← hlast]
      simp [List.getD, List.getElem?_eq_getElem (show m < z.length by omega)]
    refine hzs.symm.trans ?_
    conv => lhs; rw [e1]
    exact List.perm_append_comm
  have hbb : Below base w2 w3 := hk3.below (fun b hb => by rw [hb]; exact W2.out.heap.hH) W2.out.bw
  have fin : Hid (∃ s', s.Perm (q :: s') ∧ (∀ x ∈ s', placeLt key down x q = false) ∧ s'.length = m ∧ Waits w3 base H (.slice (some ⟨g, 0, none⟩) m c) n t R key A N K s' down ∧ Heap (placeLt key down) s' s'.length ∧ KeepS (fun b => b = g ∨ b = H) w w3) := by
    have hl : (z.take m).length = m := by rw [List.length_take]; omega
    refine ⟨z.take m, hperm, fun x hx => ?_, hl, ⟨hh3, W2.out.keys.below hbb, fun x hx => W2.out.all x (List.mem_of_mem_take hx), Nat.le_trans W2.out.bw hk3.size⟩, ?_, ((hk1.trans hk2).mono (fun b h => .inl h)).trans (hk3.mono (fun b h => .inr h))⟩
    · have hxs : x ∈ s := hperm.symm.mem_iff.1 (List.mem_cons_of_mem _ hx)
      obtain ⟨i, hi, rfl⟩ := List.getElem_of_mem hxs
      have := HP.out.least ST HW.out.all (Nat.le_refl _) i i (Nat.le_refl _) hi
      rw [getD_get _ _ _ hi, hq] at this; exact this
    · rw [hl]
      intro i h0 hi
      have ht : ∀ x, x < m → (z.take m).getD x 0 = z.getD x 0 := fun x hx => by simp [List.getD, hx]
      rw [ht i hi, ht _ (by omega)]
      exact HH.out i h0 hi
  clear hh3 hk3 W2 HH PO
  obtain ⟨a1, n1, k1, e1⟩ := HW.out.heap.hd q
  rw [e1]
  go_wp2_with fail
  go_ret
  obtain ⟨s', f⟩ := fin.out
  exact ⟨s', by rw [e1]; rfl, f⟩

end Go.Proofs.Ytgeipficjfaocaa
