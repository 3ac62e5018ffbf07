/-
  A part of the proof: Tab3, Rank5, TakenX, OutTab, PutS, TabI1, TabI2, HeapMath.
-/
import Derived.Test.YtadbbkpillfjaaaGreatDoorPart11
import Derived.Test.YtadbbkpillfjaaaGreatDoorPart9
import Derived.WalkKit

/-
  The contract of the law's helper that takes a table over: all of it lies in new memory.
-/
namespace Go.Proofs.YtadbbkpillfjaaaGreatDoor
open Go.ChangeShapes Go.WideShapes Go.ChangeAt Go.RowKit
attribute [local go_sem ↓] Go.wp_at_zero Go.wp_at_succ
attribute [local simp] World.cell?_alloc_past World.cell?_alloc_at World.frozen?_alloc_at cell_far cell_off cell_here World.frozen?_alloc_past

theorem Taken.lies {w : World} {g : Nat} {L : List (List CT)} {G : Nat → Nat} (h : Taken w g L G L.length) (hf : ∀ i (hi : i < L.length), Fit L[i]) (hm : ∀ i (hi : i < L.length), L[i].length ≤ maxLen) : RowsAt w (some ⟨g, 0, none⟩) L := by
  intro i hi
  obtain ⟨h1, h2, _⟩ := h.rows i hi hi
  exact ⟨g, 0, _, _, rfl, h.lt, by rw [Nat.zero_add]; exact h1, h2, hf i hi, hm i hi, fun e => by cases e⟩

end Go.Proofs.YtadbbkpillfjaaaGreatDoor

/-
  Rows that lie in memory of their own may be marked: their heads lie there, no two share a block, and all may be written.
-/
namespace Go.Proofs.YtadbbkpillfjaaaGreatDoor
open Go.ChangeShapes Go.WideShapes Go.ChangeAt Go.RowKit

theorem getD_at {L : List (List CT)} {i : Nat} (h : i < L.length) : L.getD i [] = L[i] := by simp [List.getD, List.getElem?_eq_getElem h]

end Go.Proofs.YtadbbkpillfjaaaGreatDoor

/-
  Rows that were taken over, or that lie in memory of their own: what the marks want of them.
-/
namespace Go.Proofs.YtadbbkpillfjaaaGreatDoor
open Go.ChangeShapes Go.WideShapes Go.ChangeAt Go.RowKit

theorem Taken.heads {w : World} {g : Nat} {L : List (List CT)} {G : Nat → Nat} (h : Taken w g L G L.length) : HeadsAt w (some ⟨g, 0, none⟩) L (fun i => some ⟨G i, 0, none⟩) (fun i => (L.getD i []).length) := by
  intro i hi
  refine ⟨g, 0, rfl, h.lt, ?_⟩
  rw [show 0 + i = i by omega, (h.rows i hi hi).1]
  dsimp only; rw [getD_at hi]
theorem Taken.blks {w : World} {g : Nat} {L : List (List CT)} {G : Nat → Nat} (h : Taken w g L G L.length) (b : Nat) (hb : rowBlks L (fun i => some ⟨G i, 0, none⟩) b) : g < b ∧ b < w.heap.size := by
  obtain ⟨i, hi, _, o, e⟩ := hb
  simp only [Option.some.injEq, Addr.mk.injEq] at e
  have := h.bounds i hi; omega

theorem HeadsAt.below {w w' : World} {a : Option Addr} {L : List (List CT)} {A : Nat → Option Addr} {C : Nat → Nat} (h : HeadsAt w a L A C) (hb : Below w.heap.size w w') : HeadsAt w' a L A C := by
  intro i hi
  obtain ⟨b, o, ha, hlt, h0⟩ := h i hi
  exact ⟨b, o, ha, Nat.lt_of_lt_of_le hlt hb.size, by rw [hb.cell (p := ⟨b, _, none⟩) hlt]; exact h0⟩
theorem Marked.below {w w' : World} {L : List (List CT)} {A : Nat → Option Addr} {k : Nat} (h : Marked w L A k L.length) (hb : Below w.heap.size w w') : Marked w' L A k L.length := by
  intro j hj
  obtain ⟨h1, _, h3⟩ := h j hj
  refine ⟨fun hlt => (h1 hlt).below hb, fun hle => by omega, ?_⟩
  intro b o e q hq
  have hlt : b < w.heap.size := by
    obtain ⟨b', o', e', hlt, _⟩ := h1 hj 0 (by rw [marks_length]; omega)
    rw [e] at e'
    simp only [Option.some.injEq, Addr.mk.injEq] at e'
    omega
  rw [hb.frozen (p := ⟨b, _, none⟩) hlt]; exact h3 b o e q hq

end Go.Proofs.YtadbbkpillfjaaaGreatDoor

/-
  A table in memory of its own: what the marks want of it, and the contracts of the law's helpers that mark a table, and look whether the marks are still there.
-/
namespace Go.Proofs.YtadbbkpillfjaaaGreatDoor
open Go.ChangeShapes Go.WideShapes Go.ChangeAt Go.RowKit
attribute [local go_sem ↓] Go.wp_at_zero Go.wp_at_succ
attribute [local simp] World.cell?_alloc_past World.cell?_alloc_at World.frozen?_alloc_at cell_far cell_off cell_here World.frozen?_alloc_past

theorem FreeS.keepS {P : Nat → Prop} {w w' : World} {a : Option Addr} {l : List ByteArray} (hf : FreeS w a l.length) (h : StrsAt w a l) (hk : KeepS P w w') (hP : ∀ b, inBlk a l.length b → ¬ P b) : FreeS w' a l.length := by
  intro b o ha j hj
  obtain ⟨b', o', ha', hlt, _⟩ := h j hj
  rw [ha] at ha'
  cases ha'
  rw [hk.frozen hlt (hP b ⟨by omega, o, ha⟩)]
  exact hf b o ha j hj
theorem HeadsAt.keepN {P : Nat → Prop} {w w' : World} {a : Option Addr} {L : List (List CT)} {A : Nat → Option Addr} {C : Nat → Nat} (h : HeadsAt w a L A C) (hk : KeepS P w w') (hP : ∀ b o, 0 < L.length → a = some ⟨b, o, none⟩ → ¬ P b) : HeadsAt w' a L A C := by
  intro i hi
  obtain ⟨b, o, ha, hlt, h0⟩ := h i hi
  exact ⟨b, o, ha, Nat.lt_of_lt_of_le hlt hk.size, by rw [hk.cell hlt (hP b o (by omega) ha)]; exact h0⟩
theorem Marked.keep0 {P : Nat → Prop} {w w' : World} {L : List (List CT)} {A : Nat → Option Addr} {k : Nat} (h : Marked w L A k 0) (hk : KeepS P w w') (hP : ∀ b, rowBlks L A b → ¬ P b) : Marked w' L A k 0 := by
  intro j hj
  obtain ⟨_, h2, h3⟩ := h j hj
  have hq : ∀ b, inBlk (A j) L[j].length b → ¬ P b := fun b hb => hP b ⟨j, hj, hb⟩
  exact ⟨fun hlt => by omega, fun _ => (h2 (Nat.zero_le _)).keepS hk hq, h3.keepS (h2 (Nat.zero_le _)) hk hq⟩
theorem Marked.keepL {P : Nat → Prop} {w w' : World} {L : List (List CT)} {A : Nat → Option Addr} {k : Nat} (h : Marked w L A k L.length) (hk : KeepS P w w') (hP : ∀ b, rowBlks L A b → ¬ P b) : Marked w' L A k L.length := by
  intro j hj
  obtain ⟨h1, _, h3⟩ := h j hj
  have hq : ∀ b, inBlk (A j) L[j].length b → ¬ P b := fun b hb => hP b ⟨j, hj, hb⟩
  refine ⟨fun _ => (h1 hj).keepS hk (by rw [marks_length]; exact hq), fun hle => by omega, ?_⟩
  have := Free.keepS (l := marks (k + 3 * offs L j) L[j].length) (by rw [marks_length]; exact h3) (h1 hj) hk (by rw [marks_length]; exact hq)
  rwa [marks_length] at this

/-- The blocks of a table. -/
def tabBlks (ca ra : Option Addr) (t : TB) (A : Nat → Option Addr) (b : Nat) : Prop :=
  inBlk ca t.2.1.length b ∨ rowBlks t.2.2 A b ∨ (0 < t.2.2.length ∧ ∃ o, ra = some ⟨b, o, none⟩)
/-- A table whose lists share no memory, all of it at base or behind. -/
structure OutTab (w : World) (base : Nat) (ca : Option Addr) (cc : Nat) (ra : Option Addr) (t : TB) (A : Nat → Option Addr) (C : Nat → Nat) : Prop where
  cols : StrsAt w ca t.2.1
  fit : FitS t.2.1
  len : t.2.1.length ≤ maxLen
  cap : t.2.1.length ≤ cc
  nilC : ca = none → cc = 0
  lenR : t.2.2.length ≤ maxLen
  name : t.1.size ≤ maxLen
  fitR : ∀ i (hi : i < t.2.2.length), Fit t.2.2[i]
  lenL : ∀ i (hi : i < t.2.2.length), t.2.2[i].length ≤ maxLen
  nilR : ∀ i, A i = none → C i = 0
  free : FreeS w ca t.2.1.length
  heads : HeadsAt w ra t.2.2 A C
  un : ∀ k, Marked w t.2.2 A k 0
  ap : Apart ra t.2.2 A
  colR : ∀ b, inBlk ca t.2.1.length b → ¬ rowBlks t.2.2 A b
  colH : ∀ b, inBlk ca t.2.1.length b → 0 < t.2.2.length → ∀ o, ra ≠ some ⟨b, o, none⟩
  lo : ∀ b, tabBlks ca ra t A b → base ≤ b
theorem OutTab.tab {w : World} {base : Nat} {ca : Option Addr} {cc : Nat} {ra : Option Addr} {t : TB} {A : Nat → Option Addr} {C : Nat → Nat} (h : OutTab w base ca cc ra t A C) : TabAt w ca cc ra t := by
  refine ⟨h.cols, h.fit, h.len, h.cap, h.nilC, ?_, h.lenR, h.name⟩
  intro i hi
  obtain ⟨b, o, e, hlt, c0⟩ := h.heads i hi
  exact ⟨b, o, A i, C i, e, hlt, c0, (h.un 0 i hi).2.1 (Nat.zero_le _), h.fitR i hi, h.lenL i hi, h.nilR i⟩
theorem OutTab.keepS {w w' : World} {P : Nat → Prop} {base : Nat} {ca : Option Addr} {cc : Nat} {ra : Option Addr} {t : TB} {A : Nat → Option Addr} {C : Nat → Nat} (h : OutTab w base ca cc ra t A C) (hk : KeepS P w w') (hP : ∀ b, tabBlks ca ra t A b → ¬ P b) : OutTab w' base ca cc ra t A C :=
  ⟨h.cols.keepS hk (fun b hb => hP b (.inl hb)), h.fit, h.len, h.cap, h.nilC, h.lenR, h.name, h.fitR, h.lenL, h.nilR, h.free.keepS h.cols hk (fun b hb => hP b (.inl hb)), h.heads.keepN hk (fun b o h0 e => hP b (.inr (.inr ⟨h0, o, e⟩))),
    fun k => (h.un k).keep0 hk (fun b hb => hP b (.inr (.inl hb))), h.ap, h.colR, h.colH, h.lo⟩
theorem OutTab.below {w w' : World} {base : Nat} {ca : Option Addr} {cc : Nat} {ra : Option Addr} {t : TB} {A : Nat → Option Addr} {C : Nat → Nat} (h : OutTab w base ca cc ra t A C) (hb : Below w.heap.size w w') : OutTab w' base ca cc ra t A C :=
  h.keepS (KeepS.ofBelow (P := fun _ => False) hb) (fun _ _ h => h)
theorem OutTab.lt {w : World} {base : Nat} {ca : Option Addr} {cc : Nat} {ra : Option Addr} {t : TB} {A : Nat → Option Addr} {C : Nat → Nat} (h : OutTab w base ca cc ra t A C) (b : Nat) (hb : tabBlks ca ra t A b) : b < w.heap.size := by
  rcases hb with ⟨h0, o, e⟩ | ⟨i, hi, h0, o, e⟩ | ⟨h0, o, e⟩
  · obtain ⟨b', o', e', hlt, _⟩ := h.cols 0 h0
    rw [e] at e'; cases e'; exact hlt
  · obtain ⟨b', o', e', hlt, _⟩ := (h.un 0 i hi).2.1 (Nat.zero_le _) 0 h0
    rw [e] at e'; cases e'; exact hlt
  · obtain ⟨b', o', e', hlt, _⟩ := h.heads 0 h0
    rw [e] at e'; cases e'; exact hlt

theorem own_freeS {w : World} {base g n c : Nat} {e : TypeId} {xs : List Value} (h : w.ownsRow base e 1 (.slice (some ⟨g, 0, none⟩) n c) n xs) : FreeS w (some ⟨g, 0, none⟩) n := by
  intro b o e j hj
  cases e
  rw [Nat.zero_add]
  exact h.frozenAt j

/-- The marked table. -/
structure MarkedT (w : World) (ca ra : Option Addr) (t : TB) (A : Nat → Option Addr) (C : Nat → Nat) (k : Nat) : Prop where
  cols : StrsAt w ca (marksS k t.2.1.length)
  heads : HeadsAt w ra t.2.2 A C
  rows : Marked w t.2.2 A (k + t.2.1.length) t.2.2.length
theorem MarkedT.below {w w' : World} {ca ra : Option Addr} {t : TB} {A : Nat → Option Addr} {C : Nat → Nat} {k : Nat} (h : MarkedT w ca ra t A C k) (hb : Below w.heap.size w w') : MarkedT w' ca ra t A C k :=
  ⟨h.cols.below hb, h.heads.below hb, h.rows.below hb⟩
end Go.Proofs.YtadbbkpillfjaaaGreatDoor

/-
  What Put answers, and the contract of the model's Put.
-/
namespace Go.Proofs.YtadbbkpillfjaaaGreatDoor
open Go.ChangeShapes Go.WideShapes Go.ChangeAt Go.RowKit
attribute [local go_sem ↓] Go.wp_at_zero Go.wp_at_succ
attribute [local simp] World.cell?_alloc_past World.cell?_alloc_at World.frozen?_alloc_at cell_far cell_off cell_here World.frozen?_alloc_past

theorem OutTab.base {w : World} {b1 b2 : Nat} {ca : Option Addr} {cc : Nat} {ra : Option Addr} {t : TB} {A : Nat → Option Addr} {C : Nat → Nat} (h : OutTab w b1 ca cc ra t A C) (hle : b2 ≤ b1) : OutTab w b2 ca cc ra t A C :=
  ⟨h.cols, h.fit, h.len, h.cap, h.nilC, h.lenR, h.name, h.fitR, h.lenL, h.nilR, h.free, h.heads, h.un, h.ap, h.colR, h.colH, fun b hb => Nat.le_trans hle (h.lo b hb)⟩
/-- Three stores into a block that is not the table's. -/
theorem OutTab.set3 {w : World} {base : Nat} {ca : Option Addr} {cc : Nat} {ra : Option Addr} {t : TB} {A : Nat → Option Addr} {C : Nat → Nat} (h : OutTab w base ca cc ra t A C) (c : Nat) (hc : c < base) (i j k : Nat) (x y z : Value) : OutTab (((w.setCell ⟨c, i, none⟩ x).setCell ⟨c, j, none⟩ y).setCell ⟨c, k, none⟩ z) base ca cc ra t A C := by
  refine h.keepS (P := fun b => b = c) ?_ (fun b hb e => by have := h.lo b hb; omega)
  exact (((KeepS.refl (fun b => b = c) w).setCell (p := ⟨c, i, none⟩) rfl x).setCell (p := ⟨c, j, none⟩) rfl y).setCell (p := ⟨c, k, none⟩) rfl z
end Go.Proofs.YtadbbkpillfjaaaGreatDoor

/-
  The contracts of the program's questions on names: whether a text is one, whether all of a list are, whether no two are alike.
-/
namespace Go.Proofs.YtadbbkpillfjaaaGreatDoor
open Go.ChangeShapes Go.WideShapes Go.ChangeAt Go.RowKit
attribute [local go_sem ↓] Go.wp_at_zero Go.wp_at_succ
attribute [local simp] World.cell?_alloc_past World.cell?_alloc_at World.frozen?_alloc_at cell_far cell_off cell_here World.frozen?_alloc_past

theorem nameB_short {s : ByteArray} (h : ¬ (1 : Int) ≤ (s.size : Int)) : nameB s = false := by
  have : s = ⟨#[]⟩ := by
    apply ByteArray.ext
    apply Array.eq_empty_of_size_eq_zero
    have : s.size = 0 := by omega
    exact this
  rw [this]; rfl
theorem nameB_long {s : ByteArray} (h : ¬ (s.size : Int) ≤ 6) : nameB s = false := by
  unfold nameB
  rw [decide_eq_false h, Bool.and_false, Bool.and_false]
theorem nameB_mid {s : ByteArray} (h : (1 : Int) ≤ (s.size : Int)) (h6 : (s.size : Int) ≤ 6) : nameB s = (lets s.data.toList && decide ((s.size : Int) ≤ 12)) := by
  unfold nameB
  rw [decide_eq_true h6, decide_eq_true (by omega : (s.size : Int) ≤ 12), decide_eq_true, Bool.true_and]
  intro e
  rw [e] at h
  exact absurd h (by decide)

theorem name_impl (s : ByteArray) (w : World) (hs : s.size ≤ maxLen) (b : Bool) (hb : nameB s = b) :
    Calls Tryz.prog 91 #[.string s] w fun e w' => e = .returned (.bool b) ∧ w' = w := by
  have hm := hs
  unfold maxLen at hm
  by_cases h1 : (1 : Int) ≤ (s.size : Int)
  · by_cases h6 : (s.size : Int) ≤ 6
    · rw [nameB_mid h1 h6] at hb
      have HB : Hid ((lets s.data.toList && decide ((s.size : Int) ≤ 12)) = b) := hb
      clear hb
      go_enter Tryz.func91, Tryz.ntmps91
      go_wp2_with fail
      refine (textFits_impl s _ hs).mono ?_
      rintro e w' ⟨rfl, rfl⟩
      rw [HB.out]
      go_wp2
      go_ret
      exact ⟨rfl, rfl⟩
    · rw [nameB_long h6] at hb
      subst hb
      go_enter Tryz.func91, Tryz.ntmps91
      go_wp2
      go_ret
      exact ⟨rfl, rfl⟩
  · rw [nameB_short h1] at hb
    subst hb
    go_enter Tryz.func91, Tryz.ntmps91
    go_wp2
    go_ret
    exact ⟨rfl, rfl⟩

set_option maxHeartbeats 1000000 in
theorem index_str (n : Nat) (a : Option Addr) (cap : Nat) (l : List ByteArray) (hn : l.length = n) (s : ByteArray) (w : World) (hrow : StrsAt w a l) (hm : n ≤ maxLen) :
    Calls Tryz.prog 98 #[.slice a n cap, .string s] w fun e w' => ∃ r, e = .returned (.int .i64 r) ∧ AtIs l s r ∧ Below w.heap.size w w' := by
  subst hn
  have HR : Hid (StrsAt w a l) := hrow
  clear hrow
  unfold maxLen at hm
  go_enter Tryz.func98, Tryz.ntmps98
  go_wp2
  go_loopw [8] (fun kk wr => ∃ k : Nat, k ≤ l.length ∧ kk = .int .i64 k ∧ Hid (∀ j (hj : j < l.length), j < k → l[j] ≠ s) ∧ Below w.heap.size w wr) (fun kk _ => l.length - (intOf kk).toNat)
  case atStart => exact ⟨0, Nat.zero_le _, rfl, fun j _ h => by omega, Below.refl _ _⟩
  case round =>
    obtain ⟨k, hk, rfl, hall, hbw⟩ := hrel
    by_cases hlt : k < l.length
    · obtain ⟨g, o, rfl, hgw, c0⟩ := HR.out.below hbw k hlt
      have hi0 : (0 : Int) ≤ (k : Int) := by omega
      have hi1 : (k : Int) < (l.length : Int) := by omega
      by_cases e : l[k] = s
      · have fin : Hid (AtIs l s (k : Int)) := Or.inr ⟨k, hlt, rfl, e, hall.out⟩
        have hq := txt_same e.symm
        clear e
        generalize l[k] = x at c0 hq
        go_wp2
        go_ret
        exact ⟨_, rfl, fin.out, hbw⟩
      · have hall2 : Hid (∀ j (hj : j < l.length), j < k + 1 → l[j] ≠ s) := by
          have : ∀ j (hj : j < l.length), j < k + 1 → l[j] ≠ s := by
            intro j hj hjk
            by_cases ej : j = k
            · subst ej; exact e
            · exact hall.out j hj (by omega)
          exact this
        have hq := txt_other (Ne.symm e)
        clear e
        generalize l[k] = x at c0 hq
        go_wp2
        go_roundw
        case rel => exact ⟨k + 1, by omega, by go_num, hall2, hbw⟩
        case measure => simp [intOf]; omega
    · have fin : Hid (AtIs l s (-1)) := Or.inl ⟨rfl, fun hmem => by
        obtain ⟨j, hj, e⟩ := List.getElem_of_mem hmem
        exact hall.out j hj (by omega) e⟩
      have hkl : k = l.length := by omega
      subst hkl
      have hnn : ¬ (l.length : Int) < (l.length : Int) := by omega
      go_wp2
      go_ret
      exact ⟨_, rfl, fin.out, hbw⟩

theorem contains_str (n : Nat) (a : Option Addr) (cap : Nat) (l : List ByteArray) (hn : l.length = n) (s : ByteArray) (w : World) (hrow : StrsAt w a l) (hm : n ≤ maxLen) (b : Bool) (hb : inB l s = b) :
    Calls Tryz.prog 93 #[.slice a n cap, .string s] w fun e w' => e = .returned (.bool b) ∧ Below w.heap.size w w' := by
  have HI : Hid (Calls Tryz.prog 98 #[.slice a n cap, .string s] w fun e w' => ∃ r, e = .returned (.int .i64 r) ∧ AtIs l s r ∧ Below w.heap.size w w') := index_str n a cap l hn s w hrow hm
  have HB : Hid (inB l s = b) := hb
  clear hrow hn hb
  go_enter Tryz.func93, Tryz.ntmps93
  go_wp2_with fail
  refine HI.out.mono ?_
  rintro e w1 ⟨r, rfl, hat, hb1⟩
  have HAT : Hid (AtIs l s r) := hat
  clear hat HI
  by_cases hr : 0 ≤ r
  · have e : b = true := by rw [← HB.out]; exact inB_iff.2 (HAT.out.neg.1 hr)
    subst e
    go_wp2
    go_ret
    exact ⟨by first | rfl | simp, hb1⟩
  · have e : b = false := by rw [← HB.out]; exact inB_no.2 (fun h => hr (HAT.out.neg.2 h))
    subst e
    go_wp2
    go_ret
    exact ⟨by first | rfl | (simp; done) | (simp; omega), hb1⟩

theorem nodup_snoc (l : List ByteArray) (k : Nat) (h : k < l.length) (h0 : (l.take k).Nodup) : (l.take (k + 1)).Nodup ↔ inB (l.take k) l[k] = false := by
  rw [List.take_succ_eq_append_getElem h, List.nodup_append, inB_no]
  constructor
  · rintro ⟨_, _, h4⟩ hm
    exact h4 _ hm _ (List.mem_singleton.2 rfl) rfl
  · intro hn
    exact ⟨h0, by simp, fun x hx y hy e => hn (by rw [List.mem_singleton] at hy; rw [← hy, ← e]; exact hx)⟩

set_option maxHeartbeats 2000000 in
theorem differ_impl (n : Nat) (a : Option Addr) (cap : Nat) (l : List ByteArray) (hn : l.length = n) (w : World) (hrow : StrsAt w a l) (hm : n ≤ maxLen) (hcap : n ≤ cap) (b : Bool) (hb : decide l.Nodup = b) :
    Calls Tryz.prog 84 #[.slice a n cap] w fun e w' => e = .returned (.bool b) ∧ Below w.heap.size w w' := by
  have HR : Hid (StrsAt w a l) := hrow
  have HB : Hid (decide l.Nodup = b) := hb
  have HN : Hid (l.length = n) := hn
  clear hrow hb hn
  unfold maxLen at hm
  go_enter Tryz.func84, Tryz.ntmps84
  go_wp2
  go_loopw [7] (fun kk wr => ∃ k : Nat, k ≤ n ∧ kk = .int .i64 k ∧ Hid ((l.take k).Nodup) ∧ Below w.heap.size w wr) (fun kk _ => n - (intOf kk).toNat)
  case atStart => exact ⟨0, Nat.zero_le _, rfl, List.nodup_nil, Below.refl _ _⟩
  case round =>
    obtain ⟨k, hk, rfl, hall, hbw⟩ := hrel
    by_cases hlt : k < n
    · have hlt' : k < l.length := by rw [HN.out]; exact hlt
      have HW : Hid (StrsAt wr a l) := HR.out.below hbw
      obtain ⟨g, o, rfl, hgw, c0⟩ := HW.out k hlt'
      have hi0 : (0 : Int) ≤ (k : Int) := by omega
      have hi1 : (k : Int) < (n : Int) := by omega
      have hkc : (k : Int) ≤ (cap : Int) := by omega
      have HS : Hid ((l.take (k + 1)).Nodup ↔ inB (l.take k) l[k] = false) := nodup_snoc l k hlt' hall.out
      have hno : Hid (inB (l.take k) l[k] = true → b = false) := by
        have : inB (l.take k) l[k] = true → b = false := by
          intro e
          rw [← HB.out, decide_eq_false_iff_not]
          intro h
          have := (nodup_snoc l k hlt' hall.out).1 (h.sublist (List.take_sublist _ _))
          rw [this] at e; cases e
        exact this
      have HT : Hid ((l.take k).length = k) := by
        have : (l.take k).length = k := by rw [List.length_take]; omega
        exact this
      obtain ⟨r, hr⟩ : ∃ r, inB (l.take k) l[k] = r := ⟨_, rfl⟩
      generalize l[k] = x at c0 HS hr hno
      have HRR : Hid (inB (l.take k) x = r) := hr
      clear hr
      go_wp2_with fail
      refine (contains_str k _ _ (l.take k) HT.out x _ (HW.out.take k) (by unfold maxLen; omega) r HRR.out).mono ?_
      rintro e wA ⟨rfl, hbA⟩
      cases r
      · go_wp2
        go_roundw
        case rel => exact ⟨k + 1, by omega, by go_num, HS.out.2 HRR.out, chain hbw hbA⟩
        case measure => simp [intOf]; omega
      · have e := hno.out HRR.out
        subst e
        go_wp2
        go_ret
        exact ⟨rfl, chain hbw hbA⟩
    · have hkl : k = n := by omega
      subst hkl
      have hnn : ¬ (k : Int) < (k : Int) := by omega
      have e : b = true := by
        rw [← HB.out, decide_eq_true_eq]
        have := hall.out
        rw [← HN.out, List.take_length] at this
        exact this
      subst e
      go_wp2
      go_ret
      exact ⟨rfl, hbw⟩

end Go.Proofs.YtadbbkpillfjaaaGreatDoor

/-
  The contracts of the program's questions whether a row fits, and whether a table is right.
-/
namespace Go.Proofs.YtadbbkpillfjaaaGreatDoor
open Go.ChangeShapes Go.WideShapes Go.ChangeAt Go.RowKit
attribute [local go_sem ↓] Go.wp_at_zero Go.wp_at_succ
attribute [local simp] World.cell?_alloc_past World.cell?_alloc_at World.frozen?_alloc_at cell_far cell_off cell_here World.frozen?_alloc_past

end Go.Proofs.YtadbbkpillfjaaaGreatDoor

/-
  Lists in heap order, without any program: what moves up or down one step keeps all but one place right, the first one is the least.
-/
namespace Go.Proofs.YtadbbkpillfjaaaGreatDoor

/-- A strict order in which of two one is less, or they are one. -/
structure Strict (lt : Nat → Nat → Bool) (n : Nat) : Prop where
  irr : ∀ a, lt a a = false
  tri : ∀ a b, a < n → b < n → lt a b = false → lt b a = false → a = b
  trans : ∀ a b c, lt a b = true → lt b c = true → lt a c = true

theorem Strict.asym {lt : Nat → Nat → Bool} {n : Nat} (S : Strict lt n) {a b : Nat} (h : lt a b = true) : lt b a = false := by
  cases hb : lt b a with
  | false => rfl
  | true => have := S.trans a b a h hb; rw [S.irr] at this; cases this
/-- What is not less, twice. -/
theorem Strict.neg {lt : Nat → Nat → Bool} {n : Nat} (S : Strict lt n) {a b c : Nat} (ha : a < n) (hb : b < n) (h1 : lt a b = false) (h2 : lt b c = false) : lt a c = false := by
  cases hc : lt a c with
  | false => rfl
  | true =>
    cases hba : lt b a with
    | true => have := S.trans b a c hba hc; rw [h2] at this; cases this
    | false => have e := S.tri a b ha hb h1 hba; subst e; rw [h2] at hc; cases hc

/-- The first n are in heap order. -/
def Heap (lt : Nat → Nat → Bool) (s : List Nat) (n : Nat) : Prop := ∀ i, 0 < i → i < n → lt (s.getD i 0) (s.getD ((i - 1) / 2) 0) = false
/-- So are they but for place j, which may be too low. -/
def UpAt (lt : Nat → Nat → Bool) (s : List Nat) (n j : Nat) : Prop :=
  (∀ i, 0 < i → i < n → i ≠ j → lt (s.getD i 0) (s.getD ((i - 1) / 2) 0) = false) ∧
  (∀ i, 0 < i → i < n → (i - 1) / 2 = j → 0 < j → lt (s.getD i 0) (s.getD ((j - 1) / 2) 0) = false)
/-- So are they but for place j, which may be too high. -/
def DownAt (lt : Nat → Nat → Bool) (s : List Nat) (n j : Nat) : Prop :=
  (∀ i, 0 < i → i < n → (i - 1) / 2 ≠ j → lt (s.getD i 0) (s.getD ((i - 1) / 2) 0) = false) ∧
  (∀ i, 0 < i → i < n → (i - 1) / 2 = j → 0 < j → lt (s.getD i 0) (s.getD ((j - 1) / 2) 0) = false)

/-- Two change places. -/
def swap {α : Type} (d : α) (s : List α) (i j : Nat) : List α := (s.set i (s.getD j d)).set j (s.getD i d)
theorem swap_getD {α : Type} (d : α) (s : List α) (i j k : Nat) (hi : i < s.length) (hj : j < s.length) : (swap d s i j).getD k d = if k = j then s.getD i d else if k = i then s.getD j d else s.getD k d := by
  unfold swap
  simp only [List.getD_eq_getElem?_getD, List.getElem?_set, List.length_set]
  by_cases h1 : j = k
  · subst h1; simp [hj]
  · by_cases h2 : i = k
    · subst h2; simp [h1, hi, Ne.symm h1]
    · simp [h1, h2, Ne.symm h1, Ne.symm h2]
theorem mem_lt {s : List Nat} {N i : Nat} (h : ∀ x ∈ s, x < N) (hi : i < s.length) : s.getD i 0 < N := by
  have : s.getD i 0 ∈ s := by simp [List.getD, List.getElem?_eq_getElem hi]
  exact h _ this

theorem UpAt.start {lt : Nat → Nat → Bool} {s : List Nat} {n : Nat} (h : Heap lt s n) : UpAt lt s (n + 1) n :=
  ⟨fun i h0 hi hne => h i h0 (by omega), fun i h0 hi hp hj => by omega⟩
theorem UpAt.done {lt : Nat → Nat → Bool} {s : List Nat} {n j : Nat} (h : UpAt lt s n j) (hj : lt (s.getD j 0) (s.getD ((j - 1) / 2) 0) = false) : Heap lt s n := by
  intro i h0 hi
  by_cases e : i = j
  · subst e; exact hj
  · exact h.1 i h0 hi e
theorem UpAt.step {lt : Nat → Nat → Bool} {s : List Nat} {n j N : Nat} (S : Strict lt N) (hs : ∀ x ∈ s, x < N) (hn : n ≤ s.length) (hjn : j < n) (h0 : 0 < j) (h : UpAt lt s n j) (hj : lt (s.getD j 0) (s.getD ((j - 1) / 2) 0) = true) :
    UpAt lt (swap 0 s ((j - 1) / 2) j) n ((j - 1) / 2) := by
  obtain ⟨p, hp⟩ : ∃ p, (j - 1) / 2 = p := ⟨_, rfl⟩
  rw [hp] at hj ⊢
  have hpj : p < j := by omega
  have hpl : p < s.length := by omega
  have hjl : j < s.length := by omega
  obtain ⟨A, B⟩ := h
  refine ⟨fun i i0 hi hne => ?_, fun i i0 hi hpar hp0 => ?_⟩
  · rw [swap_getD _ _ _ _ _ hpl hjl, swap_getD _ _ _ _ _ hpl hjl]
    by_cases e1 : i = j
    · subst e1
      rw [if_pos rfl, hp, if_neg (by omega), if_pos rfl]
      exact S.asym hj
    · rw [if_neg e1, if_neg hne]
      have A1 := A i i0 hi e1
      by_cases e2 : (i - 1) / 2 = j
      · rw [if_pos e2]
        have := B i i0 hi e2 h0
        rwa [hp] at this
      · rw [if_neg e2]
        by_cases e3 : (i - 1) / 2 = p
        · rw [if_pos e3]
          rw [e3] at A1
          cases hc : lt (s.getD i 0) (s.getD j 0) with
          | false => rfl
          | true => have := S.trans _ _ _ hc hj; rw [A1] at this; cases this
        · rw [if_neg e3]; exact A1
  · have App := A p hp0 (by omega) (by omega)
    rw [swap_getD _ _ _ _ _ hpl hjl, swap_getD _ _ _ _ _ hpl hjl, if_neg (by omega : ¬ (p - 1) / 2 = j), if_neg (by omega : ¬ (p - 1) / 2 = p)]
    by_cases e1 : i = j
    · rw [if_pos e1]; exact App
    · rw [if_neg e1, if_neg (by omega)]
      have A1 := A i i0 hi e1
      rw [hpar] at A1
      exact S.neg (mem_lt hs (by omega)) (mem_lt hs (by omega)) A1 App

theorem DownAt.start {lt : Nat → Nat → Bool} {s s' : List Nat} {n : Nat} (h : Heap lt s (n + 1)) (hs : ∀ i, 0 < i → i < n → s'.getD i 0 = s.getD i 0) : DownAt lt s' n 0 := by
  refine ⟨fun i h0 hi hne => ?_, fun i h0 hi hp hj => by omega⟩
  rw [hs i h0 hi, hs _ (by omega) (by omega)]
  exact h i h0 (by omega)
theorem DownAt.done {lt : Nat → Nat → Bool} {s : List Nat} {n j : Nat} (h : DownAt lt s n j) (h1 : 2 * j + 1 < n → lt (s.getD (2 * j + 1) 0) (s.getD j 0) = false) (h2 : 2 * j + 2 < n → lt (s.getD (2 * j + 2) 0) (s.getD j 0) = false) : Heap lt s n := by
  intro i h0 hi
  by_cases e : (i - 1) / 2 = j
  · rcases (show i = 2 * j + 1 ∨ i = 2 * j + 2 by omega) with rfl | rfl
    · rw [e]; exact h1 hi
    · rw [e]; exact h2 hi
  · exact h.1 i h0 hi e
/-- The lesser one c of those below j goes up. -/
theorem DownAt.step {lt : Nat → Nat → Bool} {s : List Nat} {n j c N : Nat} (S : Strict lt N) (hn : n ≤ s.length) (hc : c < n) (hcj : c = 2 * j + 1 ∨ c = 2 * j + 2) (h : DownAt lt s n j)
    (hl : lt (s.getD c 0) (s.getD j 0) = true) (hleast : ∀ d, d = 2 * j + 1 ∨ d = 2 * j + 2 → d < n → lt (s.getD d 0) (s.getD c 0) = false) :
    DownAt lt (swap 0 s j c) n c := by
  have hjl : j < s.length := by omega
  have hcl : c < s.length := by omega
  obtain ⟨A, B⟩ := h
  refine ⟨fun i i0 hi hne => ?_, fun i i0 hi hpar hp0 => ?_⟩
  · rw [swap_getD _ _ _ _ _ hjl hcl, swap_getD _ _ _ _ _ hjl hcl, if_neg hne]
    by_cases e1 : i = c
    · rw [if_pos e1, if_pos (by omega)]
      exact S.asym hl
    · rw [if_neg e1]
      by_cases e2 : i = j
      · rw [if_pos e2, if_neg (by omega)]
        have := B c (by omega) hc (by omega) (by omega)
        rwa [e2]
      · rw [if_neg e2]
        by_cases e3 : (i - 1) / 2 = j
        · rw [if_pos e3]; exact hleast i (by omega) hi
        · rw [if_neg e3]; exact A i i0 hi e3
  · have Ai := A i i0 hi (by omega)
    rw [swap_getD _ _ _ _ _ hjl hcl, swap_getD _ _ _ _ _ hjl hcl, if_neg (by omega), if_neg (by omega), if_neg (by omega), if_pos (by omega)]
    rw [hpar] at Ai; exact Ai

/-- Of a heap the first one is the least. -/
theorem Heap.least {lt : Nat → Nat → Bool} {s : List Nat} {n N : Nat} (S : Strict lt N) (hs : ∀ x ∈ s, x < N) (hn : n ≤ s.length) (h : Heap lt s n) : ∀ k i, i ≤ k → i < n → lt (s.getD i 0) (s.getD 0 0) = false := by
  intro k
  induction k with
  | zero => intro i hi hin; have : i = 0 := by omega
            subst this; exact S.irr _
  | succ k ih =>
    intro i hi hin
    by_cases e : i = 0
    · subst e; exact S.irr _
    · exact S.neg (mem_lt hs (by omega)) (mem_lt hs (by omega)) (h i (by omega) hin) (ih _ (by omega) (by omega))

/-- In order, and all there: there is but one such list. -/
theorem one_order {lt : Nat → Nat → Bool} {N : Nat} (S : Strict lt N) {a b : List Nat} (ha : a.Perm (List.range N)) (hb : b.Perm (List.range N)) (pa : a.Pairwise (fun x y => lt y x = false)) (pb : b.Pairwise (fun x y => lt y x = false)) : a = b := by
  refine List.Perm.eq_of_pairwise (le := fun x y => lt y x = false) ?_ pa pb (ha.trans hb.symm)
  intro x y hx hy h1 h2
  have hx' : x < N := by simpa using (ha.mem_iff.1 hx)
  have hy' : y < N := by simpa using (hb.mem_iff.1 hy)
  exact S.tri x y hx' hy' h2 h1

end Go.Proofs.YtadbbkpillfjaaaGreatDoor
