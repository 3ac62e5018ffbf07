/-
  The contracts of the library's heap over the program's rows: what waits is in heap order again.
-/
import Derived.Test.YtgeipficjfaocaaHeapI2
namespace Go.Proofs.Ytgeipficjfaocaa
open Go.ChangeShapes Go.WideShapes Go.ChangeAt Go.RowKit
attribute [local go_sem ↓] Go.wp_at_zero Go.wp_at_succ
attribute [local simp] World.cell?_alloc_past World.cell?_alloc_at World.frozen?_alloc_at cell_far cell_off cell_here World.frozen?_alloc_past

/-- The rows that may wait lie in old memory, each with its cell at place t. -/
def KeysAt (w : World) (base n t : Nat) (R : Nat → Value) (key : Nat → CT) (A : Nat → Nat × Nat) (N K : Nat → Nat) : Prop :=
  ∀ q, q < n → R q = .slice (some ⟨(A q).1, (A q).2, none⟩) (N q) (K q) ∧ t < N q ∧ (A q).1 < base ∧
      w.cell? ⟨(A q).1, (A q).2 + t * 3, none⟩ = some (.int .i64 (key q).1) ∧ w.cell? ⟨(A q).1, (A q).2 + t * 3 + 1, none⟩ = some (.int .i64 (key q).2.1) ∧ w.cell? ⟨(A q).1, (A q).2 + t * 3 + 2, none⟩ = some (.string (key q).2.2)
theorem KeysAt.below {w w' : World} {base n t : Nat} {R : Nat → Value} {key : Nat → CT} {A : Nat → Nat × Nat} {N K : Nat → Nat} (h : KeysAt w base n t R key A N K) (hb : Below base w w') : KeysAt w' base n t R key A N K := by
  intro q hq
  obtain ⟨h0, h1, h2, h3, h4, h5⟩ := h q hq
  refine ⟨h0, h1, h2, ?_, ?_, ?_⟩
  · rw [hb.cell (p := ⟨_, _, none⟩) h2]; exact h3
  · rw [hb.cell (p := ⟨_, _, none⟩) h2]; exact h4
  · rw [hb.cell (p := ⟨_, _, none⟩) h2]; exact h5

/-- The heap, and all that it may ask. -/
structure Waits (w : World) (base H : Nat) (V : Value) (n t : Nat) (R : Nat → Value) (key : Nat → CT) (A : Nat → Nat × Nat) (N K : Nat → Nat) (s : List Nat) (down : Bool) : Prop where
  heap : HeapAt w base H V R s (t : Int) down
  keys : KeysAt w base n t R key A N K
  all : ∀ q ∈ s, q < n
  bw : base ≤ w.heap.size
theorem Waits.below {w w' : World} {base H : Nat} {V : Value} {n t : Nat} {R : Nat → Value} {key : Nat → CT} {A : Nat → Nat × Nat} {N K : Nat → Nat} {s : List Nat} {down : Bool} (h : Waits w base H V n t R key A N K s down) (hb : Below w.heap.size w w') : Waits w' base H V n t R key A N K s down :=
  ⟨h.heap.below hb, h.keys.below (hb.mono h.bw), h.all, Nat.le_trans h.bw hb.size⟩
theorem waits_less {w : World} {base H : Nat} {V : Value} {n t : Nat} {R : Nat → Value} {key : Nat → CT} {A : Nat → Nat × Nat} {N K : Nat → Nat} {s : List Nat} {down : Bool} (h : Waits w base H V n t R key A N K s down) (i k : Nat) (hi : i < s.length) (hk : k < s.length) (hsm : s.length ≤ 1048576) (b : Bool) (hb : placeLt key down (s.getD i 0) (s.getD k 0) = b) :
    Calls Try.prog 121 #[.pointer (some ⟨H, 0, none⟩), .int .i64 i, .int .i64 k] w fun e w' => e = .returned (.bool b) ∧ Below w.heap.size w w' := by
  subst hb
  refine heap_less h.heap i k hi hk hsm key A N K fun q hq => ?_
  obtain ⟨h0, h1, h2, h3⟩ := h.keys q (h.all q hq)
  exact ⟨h0, h1, Nat.lt_of_lt_of_le h2 h.bw, h3⟩
theorem waits_swap {w : World} {base H g c : Nat} {n t : Nat} {R : Nat → Value} {key : Nat → CT} {A : Nat → Nat × Nat} {N K : Nat → Nat} {s : List Nat} {down : Bool} (h : Waits w base H (.slice (some ⟨g, 0, none⟩) s.length c) n t R key A N K s down) (hg : base ≤ g) (i k : Nat) (hi : i < s.length) (hk : k < s.length) :
    Calls Try.prog 124 #[.pointer (some ⟨H, 0, none⟩), .int .i64 i, .int .i64 k] w fun e w' => (∃ v, e = .returned v) ∧ Waits w' base H (.slice (some ⟨g, 0, none⟩) s.length c) n t R key A N K (swap 0 s i k) down ∧ KeepS (fun b => b = g) w w' := by
  refine (heap_swap h.heap i k hi hk).mono ?_
  rintro e w' ⟨he, hh, hk'⟩
  refine ⟨he, ⟨hh, h.keys.below (hk'.below (fun b hb => by omega) h.bw), fun q hq => h.all q ((swap_perm 0 s i k hi hk).mem_iff.1 hq), Nat.le_trans h.bw hk'.size⟩, hk'⟩

theorem half (m : Nat) : (m : Int).tdiv 2 = ((m / 2 : Nat) : Int) := rfl

set_option maxRecDepth 100000 in
set_option maxHeartbeats 4000000 in
theorem heap_up {w : World} {base H g c : Nat} {n t : Nat} {R : Nat → Value} {key : Nat → CT} {A : Nat → Nat × Nat} {N K : Nat → Nat} {s : List Nat} {down : Bool} (h : Waits w base H (.slice (some ⟨g, 0, none⟩) s.length c) n t R key A N K s down) (hg : base ≤ g) (hsm : s.length ≤ 1048576) (j0 : Nat) (hj0 : j0 < s.length) (hu : UpAt (placeLt key down) s s.length j0) :
    Calls Try.prog 101 #[.iface 78 (.pointer (some ⟨H, 0, none⟩)), .int .i64 j0] w fun e w' => (∃ v, e = .returned v) ∧ ∃ s', s'.Perm s ∧ Waits w' base H (.slice (some ⟨g, 0, none⟩) s.length c) n t R key A N K s' down ∧ Heap (placeLt key down) s' s.length ∧ KeepS (fun b => b = g) w w' := by
  have ST := placeLt_strict key down n
  have HW : Hid (Waits w base H (.slice (some ⟨g, 0, none⟩) s.length c) n t R key A N K s down ∧ UpAt (placeLt key down) s s.length j0) := ⟨h, hu⟩
  clear h hu
  go_enter Try.func101, Try.ntmps101
  go_wp2_with fail
  go_loopw [1] (fun jv wr => ∃ j : Nat, j < s.length ∧ jv = .int .i64 j ∧ Hid (∃ s' : List Nat, s'.Perm s ∧ Waits wr base H (.slice (some ⟨g, 0, none⟩) s.length c) n t R key A N K s' down ∧ UpAt (placeLt key down) s' s.length j ∧ KeepS (fun b => b = g) w wr)) (fun jv _ => (intOf jv).toNat)
  case atStart => exact ⟨j0, hj0, rfl, s, List.Perm.refl _, HW.out.1, HW.out.2, KeepS.refl _ _⟩
  case round =>
    obtain ⟨j, hj, rfl, hP⟩ := hrel
    by_cases hz : j = 0
    · subst hz
      have hfin : Hid (∃ s', s'.Perm s ∧ Waits wr base H (.slice (some ⟨g, 0, none⟩) s.length c) n t R key A N K s' down ∧ Heap (placeLt key down) s' s.length ∧ KeepS (fun b => b = g) w wr) := by
        obtain ⟨s', h1, h2, h3, h4⟩ := hP.out
        exact ⟨s', h1, h2, h3.done0, h4⟩
      clear hP
      go_wp2
      exact bodyPost_end (v := .tuple #[]) (by first | rfl | kernel_rfl) rfl ⟨⟨_, rfl⟩, hfin.out⟩
    · obtain ⟨m, rfl⟩ : ∃ m, j = m + 1 := ⟨j - 1, by omega⟩
      obtain ⟨s', h1, h2, h3, h4⟩ := hP.out
      have hl : s'.length = s.length := h1.length_eq
      have hd := half m
      have hsub : ((m + 1 : Nat) : Int) - 1 = (m : Int) := by omega
      have hne : ¬ ((m / 2 : Nat) : Int) = ((m + 1 : Nat) : Int) := by omega
      have q1 : ((m / 2 : Nat) : Int) ≤ 1048576 := by omega
      have q2 : (0 : Int) ≤ ((m / 2 : Nat) : Int) := by omega
      obtain ⟨r, hr⟩ : ∃ r, placeLt key down (s'.getD (m + 1) 0) (s'.getD (m / 2) 0) = r := ⟨_, rfl⟩
      have hm2 : m / 2 < s.length := by omega
      have HH : Hid (Waits wr base H (.slice (some ⟨g, 0, none⟩) s.length c) n t R key A N K s' down) := h2
      have h3' : Hid (UpAt (placeLt key down) s' s.length (m + 1)) := h3
      clear hP h2 h3
      generalize hmm : m / 2 = p at *
      go_wp2_with fail
      refine (waits_less HH.out (m + 1) p (by omega) (by omega) (by omega) r hr).mono ?_
      rintro e w1 ⟨rfl, hb1⟩
      have H1 : Hid (Waits w1 base H (.slice (some ⟨g, 0, none⟩) s'.length c) n t R key A N K s' down) := by
        have := HH.out.below hb1
        rw [← hl] at this; exact this
      have K1 := h4.trans (KeepS.ofBelow hb1)
      clear HH hb1 h4
      cases r
      · have hfin : Hid (∃ s', s'.Perm s ∧ Waits w1 base H (.slice (some ⟨g, 0, none⟩) s.length c) n t R key A N K s' down ∧ Heap (placeLt key down) s' s.length ∧ KeepS (fun b => b = g) w w1) :=
          ⟨s', h1, by rw [← hl]; exact H1.out, h3'.out.done (by rw [show m + 1 - 1 = m by omega, hmm]; exact hr), K1⟩
        clear H1 h3'
        go_wp2
        exact bodyPost_end (v := .tuple #[]) (by first | rfl | kernel_rfl) rfl ⟨⟨_, rfl⟩, hfin.out⟩
      · go_wp2_with fail
        refine (waits_swap H1.out hg p (m + 1) (by omega) (by omega)).mono ?_
        rintro e w2 ⟨⟨v, rfl⟩, hw2, hk2⟩
        have step := UpAt.step ST H1.out.all (by omega) hj (by omega) h3'.out (by rw [show m + 1 - 1 = m by omega, hmm]; exact hr)
        rw [show m + 1 - 1 = m by omega, hmm] at step
        have hfin : Hid (∃ s' : List Nat, s'.Perm s ∧ Waits w2 base H (.slice (some ⟨g, 0, none⟩) s.length c) n t R key A N K s' down ∧ UpAt (placeLt key down) s' s.length p ∧ KeepS (fun b => b = g) w w2) :=
          ⟨_, (swap_perm 0 s' p (m + 1) (by omega) (by omega)).trans h1, by rw [← hl]; exact hw2, step, K1.trans hk2⟩
        clear H1 h3' hw2 hk2 step
        go_wp2
        go_roundw
        case rel => exact ⟨p, hm2, rfl, hfin⟩
        case measure => simp [intOf]; omega

end Go.Proofs.Ytgeipficjfaocaa
