/-
  A part of the proof: Like, Ints1, TabLike, TabI1, TabI2, Tab4.
-/
import Derived.Test.YtbjpjhhdnbclbabPart3
import Derived.Test.YtbjpjhhdnbclbabPart4

/-
  The contracts of the law's helpers that hold rows against each other: of two that are one they answer true.
-/
namespace Go.Proofs.Ytbjpjhhdnbclbab
open Go.ChangeShapes Go.WideShapes Go.ChangeAt Go.RowKit
attribute [local go_sem ↓] Go.wp_at_zero Go.wp_at_succ
attribute [local simp] World.cell?_alloc_past World.cell?_alloc_at World.frozen?_alloc_at cell_far cell_off cell_here World.frozen?_alloc_past

theorem neq_one (a b : Int) (s : ByteArray) (w : World) :
    (binOp .neq 49 (.agg #[.int .i64 a, .int .i64 b, .string s]) (.agg #[.int .i64 a, .int .i64 b, .string s])).run Try.prog w = .ok (.bool false) w := by
  rw [run_neq, sameB_refl]; rfl

set_option maxHeartbeats 1000000 in
theorem like_row (a b : Option Addr) (ca cb : Nat) (l : List CT) (w : World) (ha : RowAt w a l) (hb : RowAt w b l) (hm : l.length ≤ maxLen) :
    Calls Try.prog 10 #[.slice a l.length ca, .slice b l.length cb] w fun e w' => e = .returned (.bool true) ∧ Below w.heap.size w w' := by
  have hA : Hid (RowAt w a l) := ha
  have hB : Hid (RowAt w b l) := hb
  clear ha hb
  have hq := neq_one
  unfold maxLen at hm
  go_enter Try.func10, Try.ntmps10
  go_wp2
  go_loopw [5] (fun i wr => ∃ k : Nat, k ≤ l.length ∧ i = .int .i64 k ∧ Below w.heap.size w wr) (fun i _ => l.length - (intOf i).toNat)
  case atStart => exact ⟨0, Nat.zero_le _, rfl, Below.refl _ _⟩
  case round =>
    obtain ⟨k, hk, rfl, hx⟩ := hrel
    by_cases hlt : k < l.length
    · obtain ⟨b1, o1, rfl, hbw, c0, c1, c2⟩ := hA.out.below hx k hlt
      obtain ⟨b2, o2, rfl, hbw2, d0, d1, d2⟩ := hB.out.below hx k hlt
      have hi0 : (0 : Int) ≤ (k : Int) := by omega
      have hi1 : (k : Int) < (l.length : Int) := by omega
      generalize l[k] = x at c0 c1 c2 d0 d1 d2
      go_wp2_with fail
      go_quiet (fail)
      go_wp2
      go_roundw
      case rel => exact ⟨k + 1, by omega, by go_num, belowN hx _⟩
      case measure => simp [intOf]; omega
    · have hnn : ¬ (k : Int) < (l.length : Int) := by omega
      go_wp2
      go_ret
      exact ⟨rfl, hx⟩

set_option maxHeartbeats 2000000 in
theorem like_rows (a b : Option Addr) (ca cb : Nat) (L : List (List CT)) (w : World) (ha : RowsAt w a L) (hb : RowsAt w b L) (hm : L.length ≤ maxLen) :
    Calls Try.prog 8 #[.slice a L.length ca, .slice b L.length cb] w fun e w' => e = .returned (.bool true) ∧ Below w.heap.size w w' := by
  have hA : Hid (RowsAt w a L) := ha
  have hB : Hid (RowsAt w b L) := hb
  clear ha hb
  unfold maxLen at hm
  go_enter Try.func8, Try.ntmps8
  go_wp2
  go_loopw [5] (fun i wr => ∃ k : Nat, k ≤ L.length ∧ i = .int .i64 k ∧ Below w.heap.size w wr) (fun i _ => L.length - (intOf i).toNat)
  case atStart => exact ⟨0, Nat.zero_le _, rfl, Below.refl _ _⟩
  case round =>
    obtain ⟨k, hk, rfl, hx⟩ := hrel
    by_cases hlt : k < L.length
    · obtain ⟨b1, o1, a1, n1, rfl, hbw, c0, r1, _, hl1, _⟩ := hA.out.below hx k hlt
      obtain ⟨b2, o2, a2, n2, rfl, hbw2, d0, r2, _, _, _⟩ := hB.out.below hx k hlt
      have hi0 : (0 : Int) ≤ (k : Int) := by omega
      have hi1 : (k : Int) < (L.length : Int) := by omega
      have R1 : Hid (RowAt wr a1 L[k] ∧ RowAt wr a2 L[k]) := ⟨r1, r2⟩
      have HL : Hid (L[k].length ≤ maxLen) := hl1
      clear r1 r2 hl1
      generalize L[k] = x at c0 d0 R1 HL
      go_wp2_with fail
      refine wp_region_held_drew (S := (fun w' => w'.cell? ⟨b1, o1 + k, none⟩ = some (.slice a1 x.length n1) ∧ w'.cell? ⟨b2, o2 + k, none⟩ = some (.slice a2 x.length n2))) (by kernel_rfl) ?_ (fun hHeld => ?_)
      · (((try dsimp only); (repeat' apply And.intro) <;> first | (go_keep; done) | (simp (disch := first | omega | (simp <;> omega) | fail) [*]; done) | fail))
      refine wpAnyH_take (i := 0) (by simp only [List.getElem?_toArray, List.getElem?_cons_zero]; rfl) (by kernel_rfl) (by kernel_rfl) (by kernel_rfl) (by intro _ _ _ h; exact h) (Or.inl ⟨by rfl, fun w hSw => by (dsimp only at hSw; go_simp; (try with_reducible rfl))⟩) (by assumption) ?_
      simp only [Act.put, List.setIfInBounds_toArray, List.set_cons_zero, List.set_cons_succ]
      refine wpAnyH_take (i := 1) (by simp only [List.getElem?_toArray, List.getElem?_cons_zero, List.getElem?_cons_succ]; rfl) (by kernel_rfl) (by kernel_rfl) (by kernel_rfl) (by intro _ _ _ h; exact h) (Or.inl ⟨by rfl, fun w hSw => by (dsimp only at hSw; go_simp; (try with_reducible rfl))⟩) (by assumption) ?_
      simp only [Act.put, List.setIfInBounds_toArray, List.set_cons_zero, List.set_cons_succ]
      refine wpAnyH_take (i := 2) (by simp only [List.getElem?_toArray, List.getElem?_cons_zero, List.getElem?_cons_succ]; rfl) (by kernel_rfl) (by kernel_rfl) (by kernel_rfl) (by intro _ _ _ h; exact h) (Or.inl ⟨by rfl, fun w hSw => by (dsimp only at hSw; go_simp; (try with_reducible rfl))⟩) (by assumption) ?_
      simp only [Act.put, List.setIfInBounds_toArray, List.set_cons_zero, List.set_cons_succ]
      refine wpAnyH_take (i := 3) (by simp only [List.getElem?_toArray, List.getElem?_cons_zero, List.getElem?_cons_succ]; rfl) (by kernel_rfl) (by kernel_rfl) (by kernel_rfl) (by intro _ _ _ h; exact h) (Or.inl ⟨by rfl, fun w hSw => by (dsimp only at hSw; go_simp; (try with_reducible rfl))⟩) (by assumption) ?_
      simp only [Act.put, List.setIfInBounds_toArray, List.set_cons_zero, List.set_cons_succ]
      refine wpAnyH_take (i := 4) (by simp only [List.getElem?_toArray, List.getElem?_cons_zero, List.getElem?_cons_succ]; rfl) (by kernel_rfl) (by kernel_rfl) (by kernel_rfl) (by intro _ _ _ h; exact h) (Or.inl ⟨by rfl, fun w hSw => by (dsimp only at hSw; go_simp; (try with_reducible rfl))⟩) (by assumption) ?_
      simp only [Act.put, List.setIfInBounds_toArray, List.set_cons_zero, List.set_cons_succ]
      refine wpAnyH_take (i := 5) (by simp only [List.getElem?_toArray, List.getElem?_cons_zero, List.getElem?_cons_succ]; rfl) (by kernel_rfl) (by kernel_rfl) (by kernel_rfl) (by intro _ _ _ h; exact h) (Or.inl ⟨by rfl, fun w hSw => by (dsimp only at hSw; go_simp; (try with_reducible rfl))⟩) (by assumption) ?_
      simp only [Act.put, List.setIfInBounds_toArray, List.set_cons_zero, List.set_cons_succ]
      refine wpAnyH_take (i := 6) (by simp only [List.getElem?_toArray, List.getElem?_cons_zero, List.getElem?_cons_succ]; rfl) (by kernel_rfl) (by kernel_rfl) (by kernel_rfl) (by intro _ _ _ h; exact h) (Or.inl ⟨by rfl, fun w hSw => by (dsimp only at hSw; go_simp; (try with_reducible rfl))⟩) (by assumption) ?_
      simp only [Act.put, List.setIfInBounds_toArray, List.set_cons_zero, List.set_cons_succ]
      refine wpAnyH_take (i := 7) (by simp only [List.getElem?_toArray, List.getElem?_cons_zero, List.getElem?_cons_succ]; rfl) (by kernel_rfl) (by kernel_rfl) (by kernel_rfl) (by intro _ _ _ h; exact h) (Or.inl ⟨by rfl, fun w hSw => by (dsimp only at hSw; go_simp; (try with_reducible rfl))⟩) (by assumption) ?_
      simp only [Act.put, List.setIfInBounds_toArray, List.set_cons_zero, List.set_cons_succ]
      refine wpAnyH_ready (rs := [8]) (by kernel_rfl) (by simp) ?_
      refine AllReadyH.cons (by simp only [List.getElem?_toArray, List.getElem?_cons_zero, List.getElem?_cons_succ]; rfl) ?_ AllReadyH.nil
      intro K hK
      go_simp
      refine (like_row _ _ _ _ x _ (R1.out.1.below ((Below.refl _ _).drew)) (R1.out.2.below ((Below.refl _ _).drew)) HL.out).mono ?_
      rintro e w1 ⟨rfl, hb1⟩
      obtain ⟨hcA, hfA⟩ := bcell hb1
      go_wp2_with fail
      refine hK.out _ _ ?_ (fun hHeld => ?_)
      · (((try dsimp only); (repeat' apply And.intro) <;> first | (go_keep; done) | (simp (disch := first | omega | (simp <;> omega) | fail) [*]; done) | fail))
      clear hK K
      try simp only [Act.put, List.setIfInBounds_toArray, List.set_cons_zero, List.set_cons_succ]
      refine wpAnyH_take (i := 9) (by simp only [List.getElem?_toArray, List.getElem?_cons_zero, List.getElem?_cons_succ]; rfl) (by kernel_rfl) (by kernel_rfl) (by kernel_rfl) (by intro _ _ _ h; exact h) (Or.inl ⟨by rfl, fun w hSw => by (dsimp only at hSw; go_simp; (try with_reducible rfl))⟩) (by assumption) ?_
      simp only [Act.put, List.setIfInBounds_toArray, List.set_cons_zero, List.set_cons_succ]
      refine wpAnyH_done (by kernel_rfl) ?_ _
      go_wp2
      go_roundw
      case rel => exact ⟨k + 1, by omega, by go_num, chain hx (undrew hb1)⟩
      case measure => simp [intOf]; omega
    · have hnn : ¬ (k : Int) < (L.length : Int) := by omega
      go_wp2
      go_ret
      exact ⟨rfl, hx⟩

end Go.Proofs.Ytbjpjhhdnbclbab

/-
  Lists of numbers: how one lies in memory, and the contracts of the law's helpers that hold two against each other, mark one, and look whether the marks are still there.
-/
namespace Go.Proofs.Ytbjpjhhdnbclbab
open Go.ChangeShapes Go.WideShapes Go.ChangeAt Go.RowKit
attribute [local go_sem ↓] Go.wp_at_zero Go.wp_at_succ

/-- The numbers of a slice lie where it says. -/
def IntsAt (w : World) (a : Option Addr) (l : List Int) : Prop :=
  ∀ j (h : j < l.length), ∃ b o, a = some ⟨b, o, none⟩ ∧ b < w.heap.size ∧ w.cell? ⟨b, o + j, none⟩ = some (.int .i64 l[j])
theorem IntsAt.below {w w' : World} {a : Option Addr} {l : List Int} (h : IntsAt w a l) (hb : Below w.heap.size w w') : IntsAt w' a l := by
  intro j hj
  obtain ⟨b, o, ha, hlt, h0⟩ := h j hj
  exact ⟨b, o, ha, Nat.lt_of_lt_of_le hlt hb.size, by rw [hb.cell (p := ⟨b, _, none⟩) hlt]; exact h0⟩
theorem IntsAt.keepS {P : Nat → Prop} {w w' : World} {a : Option Addr} {l : List Int} (h : IntsAt w a l) (hk : KeepS P w w') (hP : ∀ b, inBlk a l.length b → ¬ P b) : IntsAt w' a l := by
  intro j hj
  obtain ⟨b, o, ha, hlt, h0⟩ := h j hj
  exact ⟨b, o, ha, Nat.lt_of_lt_of_le hlt hk.size, by rw [hk.cell hlt (hP b ⟨by omega, o, ha⟩)]; exact h0⟩
def FreeI (w : World) (a : Option Addr) (n : Nat) : Prop := ∀ b o, a = some ⟨b, o, none⟩ → ∀ j, j < n → w.frozen? ⟨b, o + j, none⟩ = false
theorem FreeI.keepS {P : Nat → Prop} {w w' : World} {a : Option Addr} {l : List Int} (hf : FreeI w a l.length) (h : IntsAt w a l) (hk : KeepS P w w') (hP : ∀ b, inBlk a l.length b → ¬ P b) : FreeI w' a l.length := by
  intro b o ha j hj
  obtain ⟨b', o', ha', hlt, _⟩ := h j hj
  rw [ha] at ha'
  cases ha'
  rw [hk.frozen hlt (hP b ⟨by omega, o, ha⟩)]
  exact hf b o ha j hj
theorem IntsAt.upd {w w' : World} {b o : Nat} {l : List Int} {i : Nat} {x : Int} (h : IntsAt w (some ⟨b, o, none⟩) l) (hs : w.heap.size ≤ w'.heap.size)
    (hfar : ∀ q, q ≠ o + i → w'.cell? ⟨b, q, none⟩ = w.cell? ⟨b, q, none⟩) (h0 : w'.cell? ⟨b, o + i, none⟩ = some (.int .i64 x)) : IntsAt w' (some ⟨b, o, none⟩) (l.set i x) := by
  intro j hj
  have hj' : j < l.length := by simpa using hj
  obtain ⟨b', o', e, hlt, c0⟩ := h j hj'
  cases e
  refine ⟨b, o, rfl, Nat.lt_of_lt_of_le hlt hs, ?_⟩
  by_cases hij : i = j
  · subst hij
    rw [List.getElem_set_self]; exact h0
  · rw [List.getElem_set_ne hij, hfar _ (by omega)]; exact c0
theorem FreeI.upd {w w' : World} {a : Option Addr} {n : Nat} (h : FreeI w a n) (hf : ∀ b o q, a = some ⟨b, o, none⟩ → w'.frozen? ⟨b, q, none⟩ = w.frozen? ⟨b, q, none⟩) : FreeI w' a n :=
  fun b o e j hj => by rw [hf b o _ e]; exact h b o e j hj
/-- The marks of a list of n numbers. -/
def marksI (k n : Nat) : List Int := (List.range n).map fun i => ((k + i : Nat) : Int)
theorem marksI_length (k n : Nat) : (marksI k n).length = n := by simp [marksI]
theorem marksI_at (k n i : Nat) (h : i < (marksI k n).length) : (marksI k n)[i] = ((k + i : Nat) : Int) := by simp [marksI]
theorem marksI_step (k : Nat) (l : List Int) (i : Nat) (h : i < l.length) : (marksI k i ++ l.drop i).set i ((k + i : Nat) : Int) = marksI k (i + 1) ++ l.drop (i + 1) := by
  rw [List.set_append_right _ _ (by rw [marksI_length]; omega), marksI_length, Nat.sub_self]
  have e : l.drop i = l[i] :: l.drop (i + 1) := List.drop_eq_getElem_cons h
  rw [e, List.set_cons_zero]
  simp [marksI, List.range_succ]
theorem own_ints {w : World} {base g c : Nat} {e : TypeId} {l : List Int} (h : w.ownsRow base e 1 (.slice (some ⟨g, 0, none⟩) l.length c) l.length (l.map (Value.int .i64))) : IntsAt w (some ⟨g, 0, none⟩) l := by
  have hlt : g < w.heap.size := (h.lt g rfl).2
  intro j hj
  refine ⟨g, 0, rfl, hlt, ?_⟩
  rw [Nat.zero_add, h.cellAt _ (by omega), List.getElem?_map, List.getElem?_eq_getElem hj]; rfl
theorem own_freeI {w : World} {base g n c : Nat} {e : TypeId} {xs : List Value} (h : w.ownsRow base e 1 (.slice (some ⟨g, 0, none⟩) n c) n xs) : FreeI w (some ⟨g, 0, none⟩) n := by
  intro b o e j hj
  cases e
  rw [Nat.zero_add]
  exact h.frozenAt j

end Go.Proofs.Ytbjpjhhdnbclbab

/-
  The contracts of the law's helpers that hold two tables, or two lists, that are one against each other.
-/
namespace Go.Proofs.Ytbjpjhhdnbclbab
open Go.ChangeShapes Go.WideShapes Go.ChangeAt Go.RowKit
attribute [local go_sem ↓] Go.wp_at_zero Go.wp_at_succ
attribute [local simp] World.cell?_alloc_past World.cell?_alloc_at World.frozen?_alloc_at cell_far cell_off cell_here World.frozen?_alloc_past

set_option maxHeartbeats 1000000 in
theorem liketexts (a b : Option Addr) (ca cb : Nat) (l : List ByteArray) (w : World) (ha : StrsAt w a l) (hb : StrsAt w b l) (hm : l.length ≤ maxLen) :
    Calls Try.prog 45 #[.slice a l.length ca, .slice b l.length cb] w fun e w' => e = .returned (.bool true) ∧ Below w.heap.size w w' := by
  have hA : Hid (StrsAt w a l) := ha
  have hB : Hid (StrsAt w b l) := hb
  clear ha hb
  unfold maxLen at hm
  go_enter Try.func45, Try.ntmps45
  go_wp2
  go_loopw [5] (fun i wr => ∃ k : Nat, k ≤ l.length ∧ i = .int .i64 k ∧ Below w.heap.size w wr) (fun i _ => l.length - (intOf i).toNat)
  case atStart => exact ⟨0, Nat.zero_le _, rfl, Below.refl _ _⟩
  case round =>
    obtain ⟨k, hk, rfl, hx⟩ := hrel
    by_cases hlt : k < l.length
    · obtain ⟨b1, o1, rfl, hbw, c0⟩ := hA.out.below hx k hlt
      obtain ⟨b2, o2, rfl, hbw2, d0⟩ := hB.out.below hx k hlt
      have hi0 : (0 : Int) ≤ (k : Int) := by omega
      have hi1 : (k : Int) < (l.length : Int) := by omega
      generalize l[k] = x at c0 d0
      have hxx : (x.toList == x.toList) = true := by simp
      go_wp2_with fail
      go_quiet (fail)
      go_wp2
      go_roundw
      case rel => exact ⟨k + 1, by omega, by go_num, belowN hx _⟩
      case measure => simp [intOf]; omega
    · go_wp2
      go_ret
      exact ⟨rfl, hx⟩

set_option maxHeartbeats 1000000 in
theorem likeints (n : Nat) (a b : Option Addr) (ca cb : Nat) (l : List Int) (hn : l.length = n) (w : World) (ha : IntsAt w a l) (hb : IntsAt w b l) (hm : n ≤ maxLen) :
    Calls Try.prog 21 #[.slice a n ca, .slice b n cb] w fun e w' => e = .returned (.bool true) ∧ Below w.heap.size w w' := by
  subst hn
  have hA : Hid (IntsAt w a l) := ha
  have hB : Hid (IntsAt w b l) := hb
  clear ha hb
  unfold maxLen at hm
  go_enter Try.func21, Try.ntmps21
  go_wp2
  go_loopw [5] (fun i wr => ∃ k : Nat, k ≤ l.length ∧ i = .int .i64 k ∧ Below w.heap.size w wr) (fun i _ => l.length - (intOf i).toNat)
  case atStart => exact ⟨0, Nat.zero_le _, rfl, Below.refl _ _⟩
  case round =>
    obtain ⟨k, hk, rfl, hx⟩ := hrel
    by_cases hlt : k < l.length
    · obtain ⟨b1, o1, rfl, hbw, c0⟩ := hA.out.below hx k hlt
      obtain ⟨b2, o2, rfl, hbw2, d0⟩ := hB.out.below hx k hlt
      have hi0 : (0 : Int) ≤ (k : Int) := by omega
      have hi1 : (k : Int) < (l.length : Int) := by omega
      generalize l[k] = x at c0 d0
      go_wp2_with fail
      go_quiet (fail)
      go_wp2
      go_roundw
      case rel => exact ⟨k + 1, by omega, by go_num, belowN hx _⟩
      case measure => simp [intOf]; omega
    · go_wp2
      go_ret
      exact ⟨rfl, hx⟩

theorem liketextsN (n : Nat) (a b : Option Addr) (ca cb : Nat) (l : List ByteArray) (hn : l.length = n) (w : World) (ha : StrsAt w a l) (hb : StrsAt w b l) (hm : n ≤ maxLen) :
    Calls Try.prog 45 #[.slice a n ca, .slice b n cb] w fun e w' => e = .returned (.bool true) ∧ Below w.heap.size w w' := by
  subst hn; exact liketexts a b ca cb l w ha hb hm
theorem likerowsN (n : Nat) (a b : Option Addr) (ca cb : Nat) (L : List (List CT)) (hn : L.length = n) (w : World) (ha : RowsAt w a L) (hb : RowsAt w b L) (hm : n ≤ maxLen) :
    Calls Try.prog 8 #[.slice a n ca, .slice b n cb] w fun e w' => e = .returned (.bool true) ∧ Below w.heap.size w w' := by
  subst hn; exact like_rows a b ca cb L w ha hb hm

set_option maxRecDepth 100000 in
set_option maxHeartbeats 2000000 in
theorem liketab (ca : Option Addr) (cc : Nat) (ra : Option Addr) (cr : Nat) (da : Option Addr) (dc : Nat) (sa : Option Addr) (sc : Nat) (t : TB) (nc nr : Nat) (hnc : t.2.1.length = nc) (hnr : t.2.2.length = nr) (w : World) (ht : TabAt w ca cc ra t) (hu : TabAt w da dc sa t) :
    Calls Try.prog 18 #[.agg #[.string t.1, .slice ca nc cc, .slice ra nr cr], .agg #[.string t.1, .slice da nc dc, .slice sa nr sc]] w fun e w' => e = .returned (.bool true) ∧ Below w.heap.size w w' := by
  obtain ⟨nm, C, L⟩ := t
  dsimp only at hnc hnr ⊢
  have HT : Hid (TabAt w ca cc ra (nm, C, L)) := ht
  have HU : Hid (TabAt w da dc sa (nm, C, L)) := hu
  have HNC : Hid (C.length = nc) := hnc
  have HNR : Hid (L.length = nr) := hnr
  have hncM : nc ≤ maxLen := by rw [← hnc]; exact ht.len
  have hnrM : nr ≤ maxLen := by rw [← hnr]; exact ht.lenR
  have hxx : (nm.toList == nm.toList) = true := by simp
  clear ht hu hnc hnr
  go_enter Try.func18, Try.ntmps18
  have hA : Below w.heap.size w ((w.alloc (.cells #[.string nm, .slice ca nc cc, .slice ra nr cr] 32)).alloc (.cells #[.string nm, .slice da nc dc, .slice sa nr sc] 32)) := ((Below.refl _ _).alloc (Nat.le_refl _) _).alloc (by simp) _
  go_wp2_with fail
  refine (liketextsN nc ca da cc dc C HNC.out _ (HT.out.below hA).cols (HU.out.below hA).cols hncM).mono ?_
  rintro e w1 ⟨rfl, hb1⟩
  obtain ⟨⟨p0, p1, p2, p3⟩, q0, q1, q2, q3⟩ := two3 hb1
  have hx1 := chain hA hb1
  have H1 : Hid (TabAt w1 ca cc ra (nm, C, L)) := HT.out.below hx1
  have H2 : Hid (TabAt w1 da dc sa (nm, C, L)) := HU.out.below hx1
  clear hb1 HT HU hA
  go_wp2_with fail
  refine (likerowsN nr ra sa cr sc L HNR.out _ H1.out.rows H2.out.rows hnrM).mono ?_
  rintro e w2 ⟨rfl, hb2⟩
  go_wp2
  go_ret
  exact ⟨rfl, chain hx1 hb2⟩

end Go.Proofs.Ytbjpjhhdnbclbab

/-
  The contracts of the program's questions on names: whether a text is one, whether all of a list are, whether no two are alike.
-/
namespace Go.Proofs.Ytbjpjhhdnbclbab
open Go.ChangeShapes Go.WideShapes Go.ChangeAt Go.RowKit
attribute [local go_sem ↓] Go.wp_at_zero Go.wp_at_succ
attribute [local simp] World.cell?_alloc_past World.cell?_alloc_at World.frozen?_alloc_at cell_far cell_off cell_here World.frozen?_alloc_past

theorem nameB_short {s : ByteArray} (h : ¬ (1 : Int) ≤ (s.size : Int)) : nameB s = false := by
  have : s = ⟨#[]⟩ := by
    apply ByteArray.ext
    apply Array.eq_empty_of_size_eq_zero
    have : s.size = 0 := by omega
    exact this
  rw [this]; rfl
theorem nameB_long {s : ByteArray} (h : ¬ (s.size : Int) ≤ 6) : nameB s = false := by
  unfold nameB
  rw [decide_eq_false h, Bool.and_false, Bool.and_false]
theorem nameB_mid {s : ByteArray} (h : (1 : Int) ≤ (s.size : Int)) (h6 : (s.size : Int) ≤ 6) : nameB s = (lets s.data.toList && decide ((s.size : Int) ≤ 12)) := by
  unfold nameB
  rw [decide_eq_true h6, decide_eq_true (by omega : (s.size : Int) ≤ 12), decide_eq_true, Bool.true_and]
  intro e
  rw [e] at h
  exact absurd h (by decide)

theorem name_impl (s : ByteArray) (w : World) (hs : s.size ≤ maxLen) (b : Bool) (hb : nameB s = b) :
    Calls Try.prog 46 #[.string s] w fun e w' => e = .returned (.bool b) ∧ w' = w := by
  have hm := hs
  unfold maxLen at hm
  by_cases h1 : (1 : Int) ≤ (s.size : Int)
  · by_cases h6 : (s.size : Int) ≤ 6
    · rw [nameB_mid h1 h6] at hb
      have HB : Hid ((lets s.data.toList && decide ((s.size : Int) ≤ 12)) = b) := hb
      clear hb
      go_enter Try.func46, Try.ntmps46
      go_wp2_with fail
      refine (textFits_impl s _ hs).mono ?_
      rintro e w' ⟨rfl, rfl⟩
      rw [HB.out]
      go_wp2
      go_ret
      exact ⟨rfl, rfl⟩
    · rw [nameB_long h6] at hb
      subst hb
      go_enter Try.func46, Try.ntmps46
      go_wp2
      go_ret
      exact ⟨rfl, rfl⟩
  · rw [nameB_short h1] at hb
    subst hb
    go_enter Try.func46, Try.ntmps46
    go_wp2
    go_ret
    exact ⟨rfl, rfl⟩

set_option maxHeartbeats 2000000 in
theorem every_names (a : Option Addr) (cap : Nat) (l : List ByteArray) (w : World) (hrow : StrsAt w a l) (hfit : FitS l) (hm : l.length ≤ maxLen) (b : Bool) (hb : l.all nameB = b) :
    Calls Try.prog 68 #[.agg #[.slice a l.length cap], .func (.func 46) #[] #[]] w fun e w' => e = .returned (.bool b) ∧ Below w.heap.size w w' := by
  have HR : Hid (StrsAt w a l) := hrow
  have HF : Hid (FitS l) := hfit
  have HB : Hid (l.all nameB = b) := hb
  clear hrow hfit hb
  unfold maxLen at hm
  go_enter Try.func68, Try.ntmps68
  have hA : Below w.heap.size w (w.alloc (.cells #[.slice a l.length cap] 83)) := (Below.refl _ _).alloc (Nat.le_refl _) _
  go_wp2
  go_loopw [10] (fun kk wr => ∃ k : Nat, k ≤ l.length ∧ kk = .int .i64 k ∧ Hid ((l.take k).all nameB = true) ∧ Below w.heap.size w wr) (fun kk _ => l.length - (intOf kk).toNat)
  case atStart => exact ⟨0, Nat.zero_le _, rfl, rfl, hA⟩
  case round =>
    obtain ⟨k, hk, rfl, hall, hbw⟩ := hrel
    by_cases hlt : k < l.length
    · obtain ⟨g, o, rfl, hgw, c0⟩ := HR.out.below hbw k hlt
      have hi0 : (0 : Int) ≤ (k : Int) := by omega
      have hi1 : (k : Int) < (l.length : Int) := by omega
      have hft := HF.out k hlt
      have HS : Hid ((l.take (k + 1)).all nameB = nameB l[k]) := by
        have : (l.take (k + 1)).all nameB = nameB l[k] := by
          rw [List.take_succ_eq_append_getElem hlt, List.all_append, hall.out, Bool.true_and, List.all_cons, List.all_nil, Bool.and_true]
        exact this
      have hno : Hid (nameB l[k] = false → b = false) := by
        have : nameB l[k] = false → b = false := by
          intro e
          rw [← HB.out, Bool.eq_false_iff]
          intro h
          rw [List.all_eq_true.1 h _ (List.getElem_mem hlt)] at e
          cases e
        exact this
      obtain ⟨r, hr⟩ : ∃ r, nameB l[k] = r := ⟨_, rfl⟩
      generalize l[k] = x at c0 hft HS hr hno
      have HRR : Hid (nameB x = r) := hr
      clear hr
      go_wp2_with fail
      refine (name_impl x _ hft r HRR.out).mono ?_
      rintro e wA ⟨rfl, rfl⟩
      cases r
      · have e := hno.out HRR.out
        subst e
        go_wp2
        go_ret
        exact ⟨rfl, hbw⟩
      · go_wp2
        go_roundw
        case rel => exact ⟨k + 1, by omega, by go_num, by rw [HS.out]; exact HRR.out, hbw⟩
        case measure => simp [intOf]; omega
    · have hkl : k = l.length := by omega
      subst hkl
      have hnn : ¬ (l.length : Int) < (l.length : Int) := by omega
      have e : b = true := by
        rw [← HB.out]
        have := hall.out
        rw [List.take_length] at this
        exact this
      subst e
      go_wp2
      go_ret
      exact ⟨rfl, hbw⟩

set_option maxHeartbeats 1000000 in
theorem index_str (n : Nat) (a : Option Addr) (cap : Nat) (l : List ByteArray) (hn : l.length = n) (s : ByteArray) (w : World) (hrow : StrsAt w a l) (hm : n ≤ maxLen) :
    Calls Try.prog 43 #[.slice a n cap, .string s] w fun e w' => ∃ r, e = .returned (.int .i64 r) ∧ AtIs l s r ∧ Below w.heap.size w w' := by
  subst hn
  have HR : Hid (StrsAt w a l) := hrow
  clear hrow
  unfold maxLen at hm
  go_enter Try.func43, Try.ntmps43
  go_wp2
  go_loopw [8] (fun kk wr => ∃ k : Nat, k ≤ l.length ∧ kk = .int .i64 k ∧ Hid (∀ j (hj : j < l.length), j < k → l[j] ≠ s) ∧ Below w.heap.size w wr) (fun kk _ => l.length - (intOf kk).toNat)
  case atStart => exact ⟨0, Nat.zero_le _, rfl, fun j _ h => by omega, Below.refl _ _⟩
  case round =>
    obtain ⟨k, hk, rfl, hall, hbw⟩ := hrel
    by_cases hlt : k < l.length
    · obtain ⟨g, o, rfl, hgw, c0⟩ := HR.out.below hbw k hlt
      have hi0 : (0 : Int) ≤ (k : Int) := by omega
      have hi1 : (k : Int) < (l.length : Int) := by omega
      by_cases e : l[k] = s
      · have fin : Hid (AtIs l s (k : Int)) := Or.inr ⟨k, hlt, rfl, e, hall.out⟩
        have hq := txt_same e.symm
        clear e
        generalize l[k] = x at c0 hq
        go_wp2
        go_ret
        exact ⟨_, rfl, fin.out, hbw⟩
      · have hall2 : Hid (∀ j (hj : j < l.length), j < k + 1 → l[j] ≠ s) := by
          have : ∀ j (hj : j < l.length), j < k + 1 → l[j] ≠ s := by
            intro j hj hjk
            by_cases ej : j = k
            · subst ej; exact e
            · exact hall.out j hj (by omega)
          exact this
        have hq := txt_other (Ne.symm e)
        clear e
        generalize l[k] = x at c0 hq
        go_wp2
        go_roundw
        case rel => exact ⟨k + 1, by omega, by go_num, hall2, hbw⟩
        case measure => simp [intOf]; omega
    · have fin : Hid (AtIs l s (-1)) := Or.inl ⟨rfl, fun hmem => by
        obtain ⟨j, hj, e⟩ := List.getElem_of_mem hmem
        exact hall.out j hj (by omega) e⟩
      have hkl : k = l.length := by omega
      subst hkl
      have hnn : ¬ (l.length : Int) < (l.length : Int) := by omega
      go_wp2
      go_ret
      exact ⟨_, rfl, fin.out, hbw⟩

theorem contains_str (n : Nat) (a : Option Addr) (cap : Nat) (l : List ByteArray) (hn : l.length = n) (s : ByteArray) (w : World) (hrow : StrsAt w a l) (hm : n ≤ maxLen) (b : Bool) (hb : inB l s = b) :
    Calls Try.prog 77 #[.slice a n cap, .string s] w fun e w' => e = .returned (.bool b) ∧ Below w.heap.size w w' := by
  have HI : Hid (Calls Try.prog 43 #[.slice a n cap, .string s] w fun e w' => ∃ r, e = .returned (.int .i64 r) ∧ AtIs l s r ∧ Below w.heap.size w w') := index_str n a cap l hn s w hrow hm
  have HB : Hid (inB l s = b) := hb
  clear hrow hn hb
  go_enter Try.func77, Try.ntmps77
  go_wp2_with fail
  refine HI.out.mono ?_
  rintro e w1 ⟨r, rfl, hat, hb1⟩
  have HAT : Hid (AtIs l s r) := hat
  clear hat HI
  by_cases hr : 0 ≤ r
  · have e : b = true := by rw [← HB.out]; exact inB_iff.2 (HAT.out.neg.1 hr)
    subst e
    go_wp2
    go_ret
    exact ⟨by first | rfl | simp, hb1⟩
  · have e : b = false := by rw [← HB.out]; exact inB_no.2 (fun h => hr (HAT.out.neg.2 h))
    subst e
    go_wp2
    go_ret
    exact ⟨by first | rfl | (simp; done) | (simp; omega), hb1⟩

theorem nodup_snoc (l : List ByteArray) (k : Nat) (h : k < l.length) (h0 : (l.take k).Nodup) : (l.take (k + 1)).Nodup ↔ inB (l.take k) l[k] = false := by
  rw [List.take_succ_eq_append_getElem h, List.nodup_append, inB_no]
  constructor
  · rintro ⟨_, _, h4⟩ hm
    exact h4 _ hm _ (List.mem_singleton.2 rfl) rfl
  · intro hn
    exact ⟨h0, by simp, fun x hx y hy e => hn (by rw [List.mem_singleton] at hy; rw [← hy, ← e]; exact hx)⟩

set_option maxHeartbeats 2000000 in
theorem differ_impl (n : Nat) (a : Option Addr) (cap : Nat) (l : List ByteArray) (hn : l.length = n) (w : World) (hrow : StrsAt w a l) (hm : n ≤ maxLen) (hcap : n ≤ cap) (b : Bool) (hb : decide l.Nodup = b) :
    Calls Try.prog 69 #[.slice a n cap] w fun e w' => e = .returned (.bool b) ∧ Below w.heap.size w w' := by
  have HR : Hid (StrsAt w a l) := hrow
  have HB : Hid (decide l.Nodup = b) := hb
  have HN : Hid (l.length = n) := hn
  clear hrow hb hn
  unfold maxLen at hm
  go_enter Try.func69, Try.ntmps69
  go_wp2
  go_loopw [7] (fun kk wr => ∃ k : Nat, k ≤ n ∧ kk = .int .i64 k ∧ Hid ((l.take k).Nodup) ∧ Below w.heap.size w wr) (fun kk _ => n - (intOf kk).toNat)
  case atStart => exact ⟨0, Nat.zero_le _, rfl, List.nodup_nil, Below.refl _ _⟩
  case round =>
    obtain ⟨k, hk, rfl, hall, hbw⟩ := hrel
    by_cases hlt : k < n
    · have hlt' : k < l.length := by rw [HN.out]; exact hlt
      have HW : Hid (StrsAt wr a l) := HR.out.below hbw
      obtain ⟨g, o, rfl, hgw, c0⟩ := HW.out k hlt'
      have hi0 : (0 : Int) ≤ (k : Int) := by omega
      have hi1 : (k : Int) < (n : Int) := by omega
      have hkc : (k : Int) ≤ (cap : Int) := by omega
      have HS : Hid ((l.take (k + 1)).Nodup ↔ inB (l.take k) l[k] = false) := nodup_snoc l k hlt' hall.out
      have hno : Hid (inB (l.take k) l[k] = true → b = false) := by
        have : inB (l.take k) l[k] = true → b = false := by
          intro e
          rw [← HB.out, decide_eq_false_iff_not]
          intro h
          have := (nodup_snoc l k hlt' hall.out).1 (h.sublist (List.take_sublist _ _))
          rw [this] at e; cases e
        exact this
      have HT : Hid ((l.take k).length = k) := by
        have : (l.take k).length = k := by rw [List.length_take]; omega
        exact this
      obtain ⟨r, hr⟩ : ∃ r, inB (l.take k) l[k] = r := ⟨_, rfl⟩
      generalize l[k] = x at c0 HS hr hno
      have HRR : Hid (inB (l.take k) x = r) := hr
      clear hr
      go_wp2_with fail
      refine (contains_str k _ _ (l.take k) HT.out x _ (HW.out.take k) (by unfold maxLen; omega) r HRR.out).mono ?_
      rintro e wA ⟨rfl, hbA⟩
      cases r
      · go_wp2
        go_roundw
        case rel => exact ⟨k + 1, by omega, by go_num, HS.out.2 HRR.out, chain hbw hbA⟩
        case measure => simp [intOf]; omega
      · have e := hno.out HRR.out
        subst e
        go_wp2
        go_ret
        exact ⟨rfl, chain hbw hbA⟩
    · have hkl : k = n := by omega
      subst hkl
      have hnn : ¬ (k : Int) < (k : Int) := by omega
      have e : b = true := by
        rw [← HB.out, decide_eq_true_eq]
        have := hall.out
        rw [← HN.out, List.take_length] at this
        exact this
      subst e
      go_wp2
      go_ret
      exact ⟨rfl, hbw⟩

set_option maxRecDepth 100000 in
set_option maxHeartbeats 2000000 in
theorem columns_impl (n : Nat) (a : Option Addr) (cap : Nat) (l : List ByteArray) (hn : l.length = n) (w : World) (hrow : StrsAt w a l) (hfit : FitS l) (hm : n ≤ maxLen) (hcap : n ≤ cap) (b : Bool) (hb : namesB l 1 6 = b) :
    Calls Try.prog 47 #[.slice a n cap] w fun e w' => e = .returned (.bool b) ∧ Below w.heap.size w w' := by
  have hmm := hm
  unfold maxLen at hmm
  unfold namesB namesD at hb
  rw [hn] at hb
  by_cases h1 : (n : Int) < 1
  · have e : b = false := by rw [← hb, decide_eq_false (by omega : ¬ (1 : Int) ≤ (n : Int)), Bool.false_and, Bool.and_false]
    subst e
    clear hb hrow hfit hn
    go_enter Try.func47, Try.ntmps47
    go_wp2
    go_ret
    exact ⟨rfl, Below.refl _ _⟩
  by_cases h6 : (6 : Int) < (n : Int)
  · have e : b = false := by rw [← hb, decide_eq_false (by omega : ¬ (n : Int) ≤ 6), Bool.and_false, Bool.and_false]
    subst e
    clear hb hrow hfit hn
    go_enter Try.func47, Try.ntmps47
    go_wp2
    go_ret
    exact ⟨rfl, Below.refl _ _⟩
  rw [decide_eq_true (by omega : (1 : Int) ≤ (n : Int)), decide_eq_true (by omega : (n : Int) ≤ 6), Bool.and_self, Bool.and_true] at hb
  obtain ⟨q, hq⟩ : ∃ q, l.all nameB = q := ⟨_, rfl⟩
  obtain ⟨d, hd⟩ : ∃ d, decide l.Nodup = d := ⟨_, rfl⟩
  rw [hq, hd] at hb
  have E : Hid (∀ w', Below w.heap.size w w' → Calls Try.prog 68 #[.agg #[.slice a n cap], .func (.func 46) #[] #[]] w' fun e w'' => e = .returned (.bool q) ∧ Below w'.heap.size w' w'') := by
    have : ∀ w', Below w.heap.size w w' → Calls Try.prog 68 #[.agg #[.slice a n cap], .func (.func 46) #[] #[]] w' fun e w'' => e = .returned (.bool q) ∧ Below w'.heap.size w' w'' := by
      subst hn
      exact fun w' hw => every_names a cap l w' (hrow.below hw) hfit hm q hq
    exact this
  have D : Hid (∀ w', Below w.heap.size w w' → Calls Try.prog 69 #[.slice a n cap] w' fun e w'' => e = .returned (.bool d) ∧ Below w'.heap.size w' w'') := by
    have : ∀ w', Below w.heap.size w w' → Calls Try.prog 69 #[.slice a n cap] w' fun e w'' => e = .returned (.bool d) ∧ Below w'.heap.size w' w'' :=
      fun w' hw => differ_impl n a cap l hn w' (hrow.below hw) hm hcap d hd
    exact this
  clear hrow hfit hn hq hd
  cases q
  · have e : b = false := by rw [← hb]; rfl
    subst e
    clear hb
    go_enter Try.func47, Try.ntmps47
    go_wp2_with fail
    refine (E.out _ (Below.refl _ _)).mono ?_
    rintro e w1 ⟨rfl, hb1⟩
    go_wp2
    go_ret
    exact ⟨rfl, hb1⟩
  · have e : d = b := by rw [← hb]; exact (Bool.true_and d).symm
    subst e
    clear hb
    go_enter Try.func47, Try.ntmps47
    go_wp2_with fail
    refine (E.out _ (Below.refl _ _)).mono ?_
    rintro e w1 ⟨rfl, hb1⟩
    go_wp2_with fail
    refine (D.out _ hb1).mono ?_
    rintro e w2 ⟨rfl, hb2⟩
    go_wp2
    go_ret
    exact ⟨rfl, chain hb1 hb2⟩

end Go.Proofs.Ytbjpjhhdnbclbab

/-
  The contracts of the program's questions whether a row fits, and whether a table is right.
-/
namespace Go.Proofs.Ytbjpjhhdnbclbab
open Go.ChangeShapes Go.WideShapes Go.ChangeAt Go.RowKit
attribute [local go_sem ↓] Go.wp_at_zero Go.wp_at_succ
attribute [local simp] World.cell?_alloc_past World.cell?_alloc_at World.frozen?_alloc_at cell_far cell_off cell_here World.frozen?_alloc_past

set_option maxHeartbeats 2000000 in
theorem every_cells (a : Option Addr) (cap : Nat) (l : List CT) (w : World) (hrow : RowAt w a l) (hfit : Fit l) (hm : l.length ≤ maxLen) (b : Bool) (hb : l.all okC = b) :
    Calls Try.prog 70 #[.agg #[.slice a l.length cap], .func (.func 71) #[] #[]] w fun e w' => e = .returned (.bool b) ∧ Below w.heap.size w w' := by
  have HR : Hid (RowAt w a l) := hrow
  have HF : Hid (Fit l) := hfit
  have HB : Hid (l.all okC = b) := hb
  clear hrow hfit hb
  unfold maxLen at hm
  go_enter Try.func70, Try.ntmps70
  have hA : Below w.heap.size w (w.alloc (.cells #[.slice a l.length cap] 86)) := (Below.refl _ _).alloc (Nat.le_refl _) _
  go_wp2
  go_loopw [10] (fun kk wr => ∃ k : Nat, k ≤ l.length ∧ kk = .int .i64 k ∧ Hid ((l.take k).all okC = true) ∧ Below w.heap.size w wr) (fun kk _ => l.length - (intOf kk).toNat)
  case atStart => exact ⟨0, Nat.zero_le _, rfl, rfl, hA⟩
  case round =>
    obtain ⟨k, hk, rfl, hall, hbw⟩ := hrel
    by_cases hlt : k < l.length
    · obtain ⟨g, o, rfl, hgw, c0, c1, c2⟩ := HR.out.below hbw k hlt
      have hi0 : (0 : Int) ≤ (k : Int) := by omega
      have hi1 : (k : Int) < (l.length : Int) := by omega
      have hft := HF.out k hlt
      have HS : Hid ((l.take (k + 1)).all okC = okC l[k]) := by
        have : (l.take (k + 1)).all okC = okC l[k] := by
          rw [List.take_succ_eq_append_getElem hlt, List.all_append, hall.out, Bool.true_and, List.all_cons, List.all_nil, Bool.and_true]
        exact this
      have hno : Hid (okC l[k] = false → b = false) := by
        have : okC l[k] = false → b = false := by
          intro e
          rw [← HB.out, Bool.eq_false_iff]
          intro h
          rw [List.all_eq_true.1 h _ (List.getElem_mem hlt)] at e
          cases e
        exact this
      obtain ⟨r, hr⟩ : ∃ r, okC l[k] = r := ⟨_, rfl⟩
      generalize l[k] = x at c0 c1 c2 hft HS hr hno
      obtain ⟨x0, x1, x2⟩ := x
      dsimp only at c0 c1 c2 hft
      have HRR : Hid (okC (x0, x1, x2) = r) := hr
      have HRB : Hid (okB x0 x1 x2 = r) := hr
      clear hr
      go_wp2_with fail
      refine (ok_implb x0 x1 x2 r HRB.out _ hft).mono ?_
      rintro e wA ⟨rfl, hbA⟩
      have hxA := chain hbw (chainA hbA)
      clear hbA
      cases r
      · have e := hno.out HRR.out
        subst e
        go_wp2
        go_ret
        exact ⟨rfl, hxA⟩
      · go_wp2
        go_roundw
        case rel => exact ⟨k + 1, by omega, by go_num, by rw [HS.out]; exact HRR.out, hxA⟩
        case measure => simp [intOf]; omega
    · have hkl : k = l.length := by omega
      subst hkl
      have hnn : ¬ (l.length : Int) < (l.length : Int) := by omega
      have e : b = true := by
        rw [← HB.out]
        have := hall.out
        rw [List.take_length] at this
        exact this
      subst e
      go_wp2
      go_ret
      exact ⟨rfl, hbw⟩

theorem rowfits_impl (n : Nat) (a : Option Addr) (cap : Nat) (l : List CT) (hn : l.length = n) (w : World) (hrow : RowAt w a l) (hfit : Fit l) (hm : n ≤ maxLen) (nc : Nat) (b : Bool) (hb : rowOk nc l = b) :
    Calls Try.prog 50 #[.slice a n cap, .int .i64 nc] w fun e w' => e = .returned (.bool b) ∧ Below w.heap.size w w' := by
  have hmm := hm
  unfold maxLen at hmm
  unfold rowOk at hb
  rw [hn] at hb
  by_cases he : n = nc
  · rw [decide_eq_true he, Bool.true_and] at hb
    have E : Hid (Calls Try.prog 70 #[.agg #[.slice a n cap], .func (.func 71) #[] #[]] w fun e w' => e = .returned (.bool b) ∧ Below w.heap.size w w') := by
      have : Calls Try.prog 70 #[.agg #[.slice a n cap], .func (.func 71) #[] #[]] w fun e w' => e = .returned (.bool b) ∧ Below w.heap.size w w' := by
        subst hn; exact every_cells a cap l w hrow hfit hm b hb
      exact this
    subst he
    clear hrow hfit hn hb
    go_enter Try.func50, Try.ntmps50
    go_wp2_with fail
    refine E.out.mono ?_
    rintro e w1 ⟨rfl, hb1⟩
    go_wp2
    go_ret
    exact ⟨rfl, hb1⟩
  · rw [decide_eq_false he, Bool.false_and] at hb
    subst hb
    have hne : ((n : Int) == (nc : Int)) = false := by rw [beq_eq_false_iff_ne]; omega
    have hne2 : ¬ (n : Int) = (nc : Int) := by omega
    clear hrow hfit hn
    go_enter Try.func50, Try.ntmps50
    go_wp2
    go_ret
    exact ⟨rfl, Below.refl _ _⟩

set_option maxHeartbeats 2000000 in
theorem every_rows (g : Nat) (hent : ∀ (xs : Array Value) (w : World), (callFunc g xs).run Try.prog w = .ok (.enter g xs) w) (ad : Addr) (p : List CT → Bool) (nr : Nat) (a : Option Addr) (cap : Nat) (L : List (List CT)) (hn : L.length = nr) (w : World) (hrow : RowsAt w a L) (hm : nr ≤ maxLen)
    (hg : ∀ k (hk : k < L.length) w' ai ci, Below w.heap.size w w' → RowAt w' ai L[k] → Calls Try.prog g #[.slice ai L[k].length ci, .pointer (some ad)] w' fun e w'' => e = .returned (.bool (p L[k])) ∧ Below w'.heap.size w' w'') (b : Bool) (hb : L.all p = b) :
    Calls Try.prog 48 #[.agg #[.slice a nr cap], .func (.func g) #[] #[.pointer (some ad)]] w fun e w' => e = .returned (.bool b) ∧ Below w.heap.size w w' := by
  have HR : Hid (RowsAt w a L) := hrow
  have HG : Hid (∀ k (hk : k < L.length) w' ai ci, Below w.heap.size w w' → RowAt w' ai L[k] → Calls Try.prog g #[.slice ai L[k].length ci, .pointer (some ad)] w' fun e w'' => e = .returned (.bool (p L[k])) ∧ Below w'.heap.size w' w'') := hg
  have HB : Hid (L.all p = b) := hb
  have HN : Hid (L.length = nr) := hn
  clear hrow hb hg hn
  unfold maxLen at hm
  go_enter Try.func48, Try.ntmps48
  have hA : Below w.heap.size w (w.alloc (.cells #[.slice a nr cap] 62)) := (Below.refl _ _).alloc (Nat.le_refl _) _
  go_wp2
  go_loopw [10] (fun kk wr => ∃ k : Nat, k ≤ nr ∧ kk = .int .i64 k ∧ Hid ((L.take k).all p = true) ∧ Below w.heap.size w wr) (fun kk _ => nr - (intOf kk).toNat)
  case atStart => exact ⟨0, Nat.zero_le _, rfl, rfl, hA⟩
  case round =>
    obtain ⟨k, hk, rfl, hall, hbw⟩ := hrel
    by_cases hlt : k < nr
    · have hlt' : k < L.length := by rw [HN.out]; exact hlt
      obtain ⟨g1, o, ai, ci, rfl, hgw, c0, hrow, hfit, hlen, _⟩ := HR.out.below hbw k hlt'
      have hi0 : (0 : Int) ≤ (k : Int) := by omega
      have hi1 : (k : Int) < (nr : Int) := by omega
      have HS : Hid ((L.take (k + 1)).all p = p L[k]) := by
        have : (L.take (k + 1)).all p = p L[k] := by
          rw [List.take_succ_eq_append_getElem hlt', List.all_append, hall.out, Bool.true_and, List.all_cons, List.all_nil, Bool.and_true]
        exact this
      have hno : Hid (p L[k] = false → b = false) := by
        have : p L[k] = false → b = false := by
          intro e
          rw [← HB.out, Bool.eq_false_iff]
          intro h
          rw [List.all_eq_true.1 h _ (List.getElem_mem hlt')] at e
          cases e
        exact this
      have HC : Hid (Calls Try.prog g #[.slice ai L[k].length ci, .pointer (some ad)] wr fun e w'' => e = .returned (.bool (p L[k])) ∧ Below wr.heap.size wr w'') := HG.out k hlt' wr ai ci hbw hrow
      clear hrow hfit
      obtain ⟨r, hr⟩ : ∃ r, p L[k] = r := ⟨_, rfl⟩
      rw [hr] at HS hno HC
      clear hr
      obtain ⟨n, hnn⟩ : ∃ n, L[k].length = n := ⟨_, rfl⟩
      rw [hnn] at c0 hlen HC
      clear hnn
      go_wp2_with fail
      refine HC.out.mono ?_
      rintro e wA ⟨rfl, hbA⟩
      have hxA := chain hbw hbA
      clear hbA HC
      cases r
      · have e := hno.out (by trivial)
        subst e
        go_wp2
        go_ret
        exact ⟨rfl, hxA⟩
      · go_wp2
        go_roundw
        case rel => exact ⟨k + 1, by omega, by go_num, HS, hxA⟩
        case measure => simp [intOf]; omega
    · have hkl : k = nr := by omega
      subst hkl
      have hnn : ¬ (k : Int) < (k : Int) := by omega
      have e : b = true := by
        rw [← HB.out]
        have := hall.out
        rw [← HN.out, List.take_length] at this
        exact this
      subst e
      go_wp2
      go_ret
      exact ⟨rfl, hbw⟩

theorem ent_tab1 : ∀ (xs : Array Value) (w : World), (callFunc 49 xs).run Try.prog w = .ok (.enter 49 xs) w := fun xs w => by kernel_rfl

theorem tab1_impl (n : Nat) (ai : Option Addr) (ci : Nat) (l : List CT) (hn : l.length = n) (w : World) (hrow : RowAt w ai l) (hfit : Fit l) (hm : n ≤ maxLen) (B : Nat) (ca : Option Addr) (nc cc : Nat) (hB : w.cell? ⟨B, 1, none⟩ = some (.slice ca nc cc)) (b : Bool) (hb : rowOk nc l = b) :
    Calls Try.prog 49 #[.slice ai n ci, .pointer (some ⟨B, 0, none⟩)] w fun e w' => e = .returned (.bool b) ∧ Below w.heap.size w w' := by
  have E : Hid (Calls Try.prog 50 #[.slice ai n ci, .int .i64 nc] w fun e w' => e = .returned (.bool b) ∧ Below w.heap.size w w') := rowfits_impl n ai ci l hn w hrow hfit hm nc b hb
  clear hrow hfit hn hb
  go_enter Try.func49, Try.ntmps49
  go_wp2_with fail
  refine E.out.mono ?_
  rintro e w1 ⟨rfl, hb1⟩
  go_wp2
  go_ret
  exact ⟨rfl, hb1⟩

theorem rowsof_impl (nm : ByteArray) (ca : Option Addr) (nc cc : Nat) (ra : Option Addr) (nr cr : Nat) (w : World) :
    Calls Try.prog 37 #[.agg #[.string nm, .slice ca nc cc, .slice ra nr cr]] w fun e w' => e = .returned (.agg #[.slice ra nr cr]) ∧ Below w.heap.size w w' := by
  go_enter Try.func37, Try.ntmps37
  go_wp2
  exact bodyPost_ret (v := .agg #[.slice ra nr cr]) (by simp [results, Try.results37, go_sem]) rfl ⟨rfl, ((Below.refl _ _).alloc (Nat.le_refl _) _).alloc (by simp) _⟩

set_option maxRecDepth 100000 in
set_option maxHeartbeats 4000000 in
theorem table_impl (ca : Option Addr) (cc : Nat) (ra : Option Addr) (cr : Nat) (t : TB) (nc nr : Nat) (hnc : t.2.1.length = nc) (hnr : t.2.2.length = nr) (w : World) (ht : TabAt w ca cc ra t) (b : Bool) (hb : tableB t = b) :
    Calls Try.prog 19 #[.agg #[.string t.1, .slice ca nc cc, .slice ra nr cr]] w fun e w' => e = .returned (.bool b) ∧ Below w.heap.size w w' := by
  obtain ⟨nm, C, L⟩ := t
  dsimp only at hnc hnr ⊢
  have HT : Hid (TabAt w ca cc ra (nm, C, L)) := ht
  have HNC : Hid (C.length = nc) := hnc
  have HNR : Hid (L.length = nr) := hnr
  have hncM : nc ≤ maxLen := by rw [← hnc]; exact ht.len
  have hnrM : nr ≤ maxLen := by rw [← hnr]; exact ht.lenR
  have hcap : nc ≤ cc := by rw [← hnc]; exact ht.cap
  have hnm : nm.size ≤ maxLen := ht.name
  obtain ⟨b1, h1⟩ : ∃ x, nameB nm = x := ⟨_, rfl⟩
  obtain ⟨b2, h2⟩ : ∃ x, namesB C 1 6 = x := ⟨_, rfl⟩
  have HB1 : Hid (nameB nm = b1) := h1
  have HB2 : Hid (namesB C 1 6 = b2) := h2
  have hb' : ((b1 && (b2 && decide (nr ≤ 60))) && L.all (rowOk nc)) = b := by rw [← hb, ← h1, ← h2, ← hnc, ← hnr]; rfl
  clear ht hb h1 h2 hnc hnr
  have hm1 := hncM
  have hm2 := hnrM
  unfold maxLen at hm1 hm2
  have HTA : Hid (TabAt (w.alloc (.cells #[.string nm, .slice ca nc cc, .slice ra nr cr] 32)) ca cc ra (nm, C, L)) := HT.out.below ((Below.refl _ _).alloc (Nat.le_refl _) _)
  cases b1
  · rw [Bool.false_and, Bool.false_and] at hb'
    subst hb'
    go_enter Try.func19, Try.ntmps19
    go_wp2_with fail
    refine (name_impl nm _ hnm false HB1.out).mono ?_
    rintro e w' ⟨rfl, rfl⟩
    go_wp2
    go_ret
    exact ⟨rfl, (Below.refl _ _).alloc (Nat.le_refl _) _⟩
  rw [Bool.true_and] at hb'
  go_enter Try.func19, Try.ntmps19
  go_wp2_with fail
  refine (name_impl nm _ hnm true HB1.out).mono ?_
  rintro e w' ⟨rfl, rfl⟩
  go_wp2_with fail
  refine (columns_impl nc ca cc C HNC.out _ HTA.out.cols HTA.out.fit hncM hcap b2 HB2.out).mono ?_
  rintro e w1 ⟨rfl, hbx⟩
  obtain ⟨p0, p1, p2, p3⟩ := box3 hbx
  have hx1 : Below w.heap.size w w1 := chainA hbx
  have H1 : Hid (TabAt w1 ca cc ra (nm, C, L)) := HTA.out.below hbx
  clear hbx HTA HT
  cases b2
  · rw [Bool.false_and, Bool.false_and] at hb'
    subst hb'
    go_wp2
    go_ret
    exact ⟨rfl, hx1⟩
  rw [Bool.true_and] at hb'
  by_cases h60 : (60 : Int) < (nr : Int)
  · rw [decide_eq_false (by omega), Bool.false_and] at hb'
    subst hb'
    go_wp2
    go_ret
    exact ⟨rfl, hx1⟩
  rw [decide_eq_true (by omega), Bool.true_and] at hb'
  have HB : Hid (L.all (rowOk nc) = b) := hb'
  clear hb'
  have E : Hid (∀ w', Below w1.heap.size w1 w' → Calls Try.prog 48 #[.agg #[.slice ra nr cr], .func (.func 49) #[] #[.pointer (some ⟨w.heap.size, 0, none⟩)]] w' fun e w'' => e = .returned (.bool b) ∧ Below w'.heap.size w' w'') := by
    have : ∀ w', Below w1.heap.size w1 w' → Calls Try.prog 48 #[.agg #[.slice ra nr cr], .func (.func 49) #[] #[.pointer (some ⟨w.heap.size, 0, none⟩)]] w' fun e w'' => e = .returned (.bool b) ∧ Below w'.heap.size w' w'' := by
      intro w' hw
      refine every_rows 49 ent_tab1 ⟨w.heap.size, 0, none⟩ (rowOk nc) nr ra cr L HNR.out w' (H1.out.rows.below hw) hnrM ?_ b HB.out
      intro k hk w2 ai ci hw2 hra
      obtain ⟨_, _, _, _, _, _, _, _, hfit, hlen, _⟩ := H1.out.rows k hk
      exact tab1_impl _ ai ci L[k] rfl w2 hra hfit hlen w.heap.size ca nc cc (by rw [(chain hw hw2).cell (p := ⟨w.heap.size, 1, none⟩) p3]; exact p1) _ rfl
    exact this
  go_wp2_with fail
  refine (rowsof_impl _ _ _ _ _ _ _ _).mono ?_
  rintro e w2 ⟨rfl, hb2⟩
  go_wp2_with fail
  refine (E.out _ hb2).mono ?_
  rintro e w3 ⟨rfl, hb3⟩
  go_wp2
  go_ret
  exact ⟨rfl, chain hx1 (chain hb2 hb3)⟩

end Go.Proofs.Ytbjpjhhdnbclbab

/-
  The contract of the model's Census: how many cells of a column are of each kind.
-/
namespace Go.Proofs.Ytbjpjhhdnbclbab
open Go.ChangeShapes Go.WideShapes Go.ChangeAt Go.RowKit
attribute [local go_sem ↓] Go.wp_at_zero Go.wp_at_succ
attribute [local simp] World.cell?_alloc_past World.cell?_alloc_at World.frozen?_alloc_at cell_far cell_off cell_here World.frozen?_alloc_past

/-- The kind of a row's cell in column c. -/
def kindAt (r : List CT) (c : Nat) : Int := (r.getD c (0, 0, ⟨#[]⟩)).1
def cntK (L : List (List CT)) (c : Nat) (q : Int) : Nat := L.countP fun r => decide (kindAt r c = q)
/-- How many of each kind. -/
def cen (L : List (List CT)) (c : Nat) : List Int := [(cntK L c 0 : Int), (cntK L c 1 : Int), (cntK L c 2 : Int), (cntK L c 3 : Int)]
def intsV (l : List Int) : List Value := l.map (Value.int .i64)
def censusR (t : TB) (col : Int) : List Int := if tableB t = true ∧ 0 ≤ col ∧ col < (t.2.1.length : Int) then cen t.2.2 col.toNat else []
theorem cntK_snoc (L : List (List CT)) (k : Nat) (h : k < L.length) (c : Nat) (q : Int) : cntK (L.take (k + 1)) c q = cntK (L.take k) c q + if kindAt L[k] c = q then 1 else 0 := by
  unfold cntK
  rw [List.take_succ_eq_append_getElem h, List.countP_append, List.countP_cons, List.countP_nil]
  simp
theorem cen_snoc (L : List (List CT)) (k : Nat) (h : k < L.length) (c : Nat) (q : Nat) (hq : kindAt L[k] c = (q : Int)) (h4 : q < 4) : intsV (cen (L.take (k + 1)) c) = (intsV (cen (L.take k) c)).set q (.int .i64 ((cntK (L.take k) c q : Int) + 1)) := by
  unfold cen
  rw [cntK_snoc L k h, cntK_snoc L k h, cntK_snoc L k h, cntK_snoc L k h, hq]
  rcases (by omega : q = 0 ∨ q = 1 ∨ q = 2 ∨ q = 3) with rfl | rfl | rfl | rfl <;> simp [intsV]
theorem cntK_le (L : List (List CT)) (c : Nat) (q : Int) : cntK L c q ≤ L.length := List.countP_le_length
theorem cen_at (L : List (List CT)) (c : Nat) (q : Nat) (h4 : q < 4) : (intsV (cen L c))[q]? = some (.int .i64 (cntK L c q : Int)) := by
  rcases (by omega : q = 0 ∨ q = 1 ∨ q = 2 ∨ q = 3) with rfl | rfl | rfl | rfl <;> rfl
theorem table_row {t : TB} (h : tableB t = true) (i : Nat) (hi : i < t.2.2.length) : t.2.2[i].length = t.2.1.length ∧ t.2.2[i].all okC = true := by
  unfold tableB at h
  rw [Bool.and_eq_true, List.all_eq_true] at h
  have := h.2 _ (List.getElem_mem hi)
  unfold rowOk at this
  rw [Bool.and_eq_true, decide_eq_true_eq] at this
  exact this
theorem table_len {t : TB} (h : tableB t = true) : t.2.2.length ≤ 60 := by
  unfold tableB at h
  rw [Bool.and_eq_true, Bool.and_eq_true, Bool.and_eq_true, decide_eq_true_eq] at h
  exact h.1.2.2
theorem kind_of {r : List CT} (h : r.all okC = true) (c : Nat) (hc : c < r.length) : ∃ q : Nat, q < 4 ∧ kindAt r c = (q : Int) ∧ r[c].1 = (q : Int) := by
  have := List.all_eq_true.1 h _ (List.getElem_mem hc)
  have hk := okB_kind this
  have e : kindAt r c = r[c].1 := by unfold kindAt; rw [List.getD_eq_getElem?_getD, List.getElem?_eq_getElem hc]; rfl
  rcases hk with h | h | h | h
  · exact ⟨0, by omega, by rw [e, h]; rfl, by rw [h]; rfl⟩
  · exact ⟨1, by omega, by rw [e, h]; rfl, by rw [h]; rfl⟩
  · exact ⟨2, by omega, by rw [e, h]; rfl, by rw [h]; rfl⟩
  · exact ⟨3, by omega, by rw [e, h]; rfl, by rw [h]; rfl⟩

theorem infoI64 : (Try.prog.info? 2).map (fun i => (i.zero, i.size, i.bytes)) = some (some (.int .i64 0), 1, 8) := by kernel_rfl

set_option maxRecDepth 100000 in
set_option maxHeartbeats 4000000 in
theorem census_spec (ca : Option Addr) (cc : Nat) (ra : Option Addr) (cr : Nat) (t : TB) (nc nr : Nat) (hnc : t.2.1.length = nc) (hnr : t.2.2.length = nr) (w : World) (ht : TabAt w ca cc ra t) (col : Int) (l : List Int) (hl : censusR t col = l) :
    Calls Try.prog 22 #[.agg #[.string t.1, .slice ca nc cc, .slice ra nr cr], .int .i64 col] w fun e w' => ∃ g c, e = .returned (.slice (some ⟨g, 0, none⟩) l.length c) ∧ w'.ownsRow w.heap.size 2 1 (.slice (some ⟨g, 0, none⟩) l.length c) l.length (intsV l) ∧ Below w.heap.size w w' := by
  obtain ⟨i0, hi, hz0, hz1, hz2⟩ := info_parts infoI64
  obtain ⟨nm, C, L⟩ := t
  dsimp only at hnc hnr ⊢
  have HT : Hid (TabAt w ca cc ra (nm, C, L)) := ht
  have HNC : Hid (C.length = nc) := hnc
  have HNR : Hid (L.length = nr) := hnr
  have HL : Hid (censusR (nm, C, L) col = l) := hl
  obtain ⟨b, hb⟩ : ∃ b, tableB (nm, C, L) = b := ⟨_, rfl⟩
  have HB : Hid (tableB (nm, C, L) = b) := hb
  have hA : Below w.heap.size w (w.alloc (.cells #[.string nm, .slice ca nc cc, .slice ra nr cr] 32)) := (Below.refl _ _).alloc (Nat.le_refl _) _
  have hncM : nc ≤ maxLen := by rw [← hnc]; exact ht.len
  unfold maxLen at hncM
  clear ht hnc hnr hl hb
  go_enter Try.func22, Try.ntmps22
  go_wp2_with fail
  refine (table_spec ca cc ra cr (nm, C, L) nc nr HNC.out HNR.out _ (HT.out.below hA) b HB.out).mono ?_
  rintro e w1 ⟨rfl, hb1⟩
  obtain ⟨p0, p1, p2, p3⟩ := box3 hb1
  have hx1 := chainA hb1
  have H1 : Hid (TabAt w1 ca cc ra (nm, C, L)) := HT.out.below hx1
  have hs1 := hx1.size
  clear hb1 HT hA
  by_cases hok : b = true ∧ 0 ≤ col ∧ col < (nc : Int)
  · obtain ⟨rfl, hc0, hc1⟩ := hok
    obtain ⟨c, rfl⟩ := Int.eq_ofNat_of_zero_le hc0
    have el : l = cen L c := by
      rw [← HL.out]; unfold censusR
      rw [if_pos ⟨HB.out, hc0, by show (c : Int) < (C.length : Int); rw [HNC.out]; exact hc1⟩]; rfl
    subst el
    have h60 := table_len HB.out
    have hrow : Hid (∀ i (hi : i < L.length), L[i].length = C.length ∧ L[i].all okC = true) := fun i hi => table_row HB.out i hi
    have hnr60 : nr ≤ 60 := by rw [← HNR.out]; exact h60
    clear h60
    have hge : ¬ ((nc : Int) ≤ (c : Int)) := by omega
    have hlt0 : ¬ ((c : Int) < 0) := by omega
    go_wp2_with (at_make; refine wpList_make_full _ rfl _ _ 39 rfl w.heap.size 2 i0 (.int .i64 0) 1 Try.underlying39 hi hz0 hz1 .i64 .i64 _ _ 4 rfl rfl rfl rfl ?b2 ?b3 (by omega) ?_)
    case b2 => rw [hz2]; omega
    case b3 => unfold maxLen; omega
    intro w2 hown hgrow
    have hb2 : Below w1.heap.size w1 w2 := (Below.refl _ _).grown hgrow (Nat.le_refl _) (by intro k h; cases h)
    have hmk : (madeCells #[Value.int .i64 0] 4).toList = intsV (cen (L.take 0) c) := by simp [madeCells, intsV, cen, cntK]; rfl
    rw [hmk] at hown
    have O2 : Hid (w2.ownsRow w.heap.size 2 1 (.slice (some ⟨w1.heap.size, 0, none⟩) 4 4) 4 (intsV (cen (L.take 0) c))) := hown
    clear hmk hown hgrow
    go_wp2
    go_loopw [6] (fun kk wr => ∃ k : Nat, k ≤ nr ∧ kk = .int .i64 k ∧ Hid (wr.ownsRow w.heap.size 2 1 (.slice (some ⟨w1.heap.size, 0, none⟩) 4 4) 4 (intsV (cen (L.take k) c))) ∧ Below w1.heap.size w1 wr) (fun kk _ => nr - (intOf kk).toNat)
    case atStart => exact ⟨0, Nat.zero_le _, rfl, O2, hb2⟩
    case round =>
      obtain ⟨k, hk, rfl, OK, hbw⟩ := hrel
      obtain ⟨d0, d1, d2, d3⟩ := later3 hbw ⟨p0, p1, p2, p3⟩
      by_cases hlt : k < nr
      · have hlt' : k < L.length := by rw [HNR.out]; exact hlt
        obtain ⟨g, o, ai, ci, rfl, hgw, c0, hrk, _, _, _⟩ := (H1.out.below hbw).rows k hlt'
        have hlen : L[k].length = nc := (hrow.out k hlt').1.trans HNC.out
        have hcl : c < L[k].length := by omega
        obtain ⟨b, o', rfl, hbl, e0, z1, z2⟩ := hrk c hcl
        obtain ⟨q, hq4, hkq, hq⟩ := kind_of (hrow.out k hlt').2 c hcl
        rw [hq] at e0
        rw [hlen] at c0
        have hi0 : (0 : Int) ≤ (k : Int) := by omega
        have hi1 : (k : Int) < (nr : Int) := by omega
        have hst := cen_snoc L k hlt' c q hkq hq4
        have hcnt : cntK (L.take k) c (q : Int) ≤ 60 := by
          have := cntK_le (L.take k) c (q : Int)
          rw [List.length_take] at this
          omega
        have m0 : wr.cell? ⟨w1.heap.size, q, none⟩ = some (.int .i64 (cntK (L.take k) c (q : Int) : Int)) := (OK.out.cellAt q (by omega)).trans (cen_at _ _ q hq4)
        have mf := OK.out.frozenAt q
        have hm := (OK.out.lt _ rfl).2
        generalize cntK (L.take k) c (q : Int) = n at hst hcnt m0
        have hq0 : (0 : Int) ≤ (q : Int) := by omega
        have hq1 : (q : Int) < 4 := by omega
        clear z1 z2 hkq hq hrk hlen hcl
        go_wp2
        go_roundw
        case rel =>
          refine ⟨k + 1, by omega, by go_num, ?_, hbw.setCell (p := ⟨w1.heap.size, q, none⟩) (Nat.le_refl _) _⟩
          have r := OK.out.stored q (.int .i64 ((n : Int) + 1))
          rw [← hst] at r
          exact r.1
        case measure => simp [intOf]; omega
      · have hkl : k = nr := by omega
        subst hkl
        have fin : Hid (wr.ownsRow w.heap.size 2 1 (.slice (some ⟨w1.heap.size, 0, none⟩) 4 4) 4 (intsV (cen L c))) := by
          have := OK.out
          rw [← HNR.out, List.take_length] at this
          exact this
        clear OK
        go_wp2
        go_ret
        exact ⟨_, _, rfl, fin.out, hx1.trans (hbw.mono hs1)⟩
  · have el : l = [] := by
      rw [← HL.out]; unfold censusR
      rw [if_neg (fun h => hok ⟨HB.out.symm.trans h.1, h.2.1, by have := h.2.2; rw [show (nm, C, L).2.1.length = nc from HNC.out] at this; exact this⟩)]
    subst el
    have fin : Hid ((w1.alloc (.cells #[] 2)).ownsRow w.heap.size 2 1 (.slice (some ⟨w1.heap.size, 0, none⟩) 0 0) 0 (intsV [])) :=
      (⟨rfl, .inr ⟨w1.heap.size, 0, #[], rfl, hs1, by show (w1.heap.push _)[w1.heap.size]? = _; simp, Nat.le_refl _, by unfold maxLen; omega, rfl, rfl⟩⟩ : (w1.alloc (.cells #[] 2)).ownsRow w.heap.size 2 1 (.slice (some ⟨w1.heap.size, 0, none⟩) 0 0) 0 (intsV []))
    have hxe : Below w.heap.size w (w1.alloc (.cells #[] 2)) := hx1.alloc hs1 _
    cases b
    · go_wp2
      go_ret
      exact ⟨_, _, rfl, fin.out, hxe⟩
    · by_cases hc0 : col < 0
      · go_wp2
        go_ret
        exact ⟨_, _, rfl, fin.out, hxe⟩
      · have hc1 : (nc : Int) ≤ col := by
          by_cases h : (nc : Int) ≤ col
          · exact h
          · exact absurd ⟨rfl, by omega, by omega⟩ hok
        clear hok
        go_wp2
        go_ret
        exact ⟨_, _, rfl, fin.out, hxe⟩

end Go.Proofs.Ytbjpjhhdnbclbab
