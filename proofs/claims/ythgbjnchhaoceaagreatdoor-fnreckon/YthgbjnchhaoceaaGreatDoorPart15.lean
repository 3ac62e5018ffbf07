/-
  A part of the proof: DepMath, MayS, NamesMath, RkMath2, RkI5, Lists4, Tab1, TabI2.
-/
import Derived.Test.YthgbjnchhaoceaaGreatDoorPart4
import Derived.Test.YthgbjnchhaoceaaGreatDoorPart9
import Derived.Test.YthgbjnchhaoceaaGreatDoorPart6
import Derived.Test.YthgbjnchhaoceaaGreatDoorPart5
import Derived.Test.YthgbjnchhaoceaaGreatDoorPart13
import Derived.Test.YthgbjnchhaoceaaGreatDoorPart14
import Derived.Test.YthgbjnchhaoceaaGreatDoorPart8
import Derived.Test.YthgbjnchhaoceaaGreatDoorPart10

/-
  The depth of a sum without any program: the most that lie there at once.
-/
namespace Go.Proofs.YthgbjnchhaoceaaGreatDoor

/-- The most that lie there at once, from n that lie there, where a was the most up to now. -/
def depF : List TI → Nat → Nat → Nat
  | [], _, a => a
  | x :: l, n, a => depF l (n + 1 - needsI x.1) (max a (n + 1 - needsI x.1))
/-- How many lie there at the end. -/
def highF : List TI → Nat → Nat
  | [], n => n
  | x :: l, n => highF l (n + 1 - needsI x.1)
/-- What DepthOf answers. -/
def depthR (l : List TI) : Nat := if sumB l = true then depF l 0 0 else 0
theorem depF_append : ∀ (l m : List TI) (n a : Nat), depF (l ++ m) n a = depF m (highF l n) (depF l n a)
  | [], _, _, _ => rfl
  | x :: l, m, n, a => depF_append l m (n + 1 - needsI x.1) (max a (n + 1 - needsI x.1))
theorem highF_append : ∀ (l m : List TI) (n : Nat), highF (l ++ m) n = highF m (highF l n)
  | [], _, _ => rfl
  | x :: l, m, n => highF_append l m (n + 1 - needsI x.1)
theorem heap_high : ∀ (l : List TI) (n h : Nat), heapN l n = some h → highF l n = h
  | [], n, h, e => by
    have e' : some n = some h := e
    cases e'; rfl
  | x :: l, n, h, e => by
    unfold heapN at e
    split at e
    · exact heap_high l _ h e
    · cases e
theorem depF_max : ∀ (l : List TI) (n a : Nat), depF l n a = max a (depF l n 0)
  | [], _, a => by show a = max a 0; omega
  | x :: l, n, a => by
    show depF l (n + 1 - needsI x.1) (max a (n + 1 - needsI x.1)) = max a (depF l (n + 1 - needsI x.1) (max 0 (n + 1 - needsI x.1)))
    rw [depF_max l _ (max a _), depF_max l _ (max 0 _)]
    omega
theorem depF_shift : ∀ (l : List TI) (n a h k : Nat), heapN l n = some h → depF l (n + k) (a + k) = depF l n a + k
  | [], _, _, _, _, _ => rfl
  | x :: l, n, a, h, k, e => by
    unfold heapN at e
    split at e
    · rename_i hc
      show depF l (n + k + 1 - needsI x.1) (max (a + k) (n + k + 1 - needsI x.1)) = depF l (n + 1 - needsI x.1) (max a (n + 1 - needsI x.1)) + k
      have h1 : n + k + 1 - needsI x.1 = (n + 1 - needsI x.1) + k := by have := hc.2; omega
      have h2 : max (a + k) ((n + 1 - needsI x.1) + k) = max a (n + 1 - needsI x.1) + k := by omega
      rw [h1, h2]
      exact depF_shift l _ _ h k e
    · cases e
theorem depF_high : ∀ (l : List TI) (n a : Nat), n ≤ a → highF l n ≤ depF l n a
  | [], _, _, h => h
  | x :: l, n, a, _ => depF_high l _ _ (by omega)
theorem sum_heap {l : List TI} (h : sumB l = true) : heapN l 0 = some 1 ∧ l.length ≤ 40 := by
  unfold sumB at h
  simpa using h
theorem depth_pos {l : List TI} (h : sumB l = true) : 1 ≤ depthR l := by
  unfold depthR
  rw [if_pos h]
  have := depF_high l 0 0 (Nat.le_refl _)
  rw [heap_high l 0 1 (sum_heap h).1] at this
  exact this
theorem depF_le : ∀ (l : List TI) (n a : Nat), depF l n a ≤ max a (n + l.length)
  | [], _, _ => by show _ ≤ max _ _; unfold depF; omega
  | x :: l, n, a => by
    have := depF_le l (n + 1 - needsI x.1) (max a (n + 1 - needsI x.1))
    show depF l (n + 1 - needsI x.1) (max a (n + 1 - needsI x.1)) ≤ _
    simp only [List.length_cons]
    omega
theorem depth_le {l : List TI} : depthR l ≤ 40 := by
  unfold depthR
  split
  · rename_i h
    have := depF_le l 0 0
    have := (sum_heap h).2
    omega
  · omega
/-- Two sums side by side are a sum. -/
theorem both_sum {l m : List TI} (hl : sumB l = true) (hm : sumB m = true) (h : l.length + m.length < 40) : sumB (l ++ m ++ [opI 3]) = true := by
  obtain ⟨t, ht, rfl⟩ := sum_tree hl
  obtain ⟨u, hu, rfl⟩ := sum_tree hm
  unfold sumB
  rw [heapN_append, heapN_append, tree_sum ht 0]
  show (decide (((heapN u.post 1).bind (heapN [opI 3])) = some 1) && _) = true
  rw [tree_sum hu 1]
  simp only [List.length_append, List.length_cons, List.length_nil]
  rw [decide_eq_true (p := _ ≤ 40) (by omega), Bool.and_true]
  rfl
theorem not_sum {l : List TI} (hl : sumB l = true) (h : l.length < 40) : sumB (l ++ [opI 11]) = true := by
  unfold sumB
  rw [heapN_append, (sum_heap hl).1]
  simp only [List.length_append, List.length_cons, List.length_nil]
  rw [decide_eq_true (p := _ ≤ 40) (by omega), Bool.and_true]
  rfl
/-- The depth of two sums side by side. -/
theorem depth_both {l m : List TI} (hl : sumB l = true) (hm : sumB m = true) (h : l.length + m.length < 40) : depthR (l ++ m ++ [opI 3]) = max (depthR l) (depthR m + 1) := by
  have hp := depth_pos hl
  have h1 := both_sum hl hm h
  unfold depthR at hp ⊢
  rw [if_pos h1, if_pos hl, if_pos hm]
  rw [if_pos hl] at hp
  obtain ⟨hl1, _⟩ := sum_heap hl
  obtain ⟨hm1, _⟩ := sum_heap hm
  rw [depF_append, depF_append, highF_append, heap_high l 0 1 hl1]
  have hs := depF_shift m 0 0 1 1 hm1
  rw [Nat.zero_add] at hs
  have e1 := depF_max m 1 (depF l 0 0)
  have e2 := depF_max m 1 1
  rw [e1]
  have h2 : highF m 1 = 2 := by
    obtain ⟨u, hu, rfl⟩ := sum_tree hm
    exact heap_high _ _ _ (tree_sum hu 1)
  rw [h2]
  show max (max (depF l 0 0) (depF m 1 0)) (2 + 1 - 2) = _
  omega
theorem depth_not {l : List TI} (hl : sumB l = true) (h : l.length < 40) : depthR (l ++ [opI 11]) = depthR l := by
  have hp := depth_pos hl
  have h1 := not_sum hl h
  unfold depthR at hp ⊢
  rw [if_pos h1, if_pos hl]
  rw [if_pos hl] at hp
  rw [depF_append, heap_high l 0 1 (sum_heap hl).1]
  show max (depF l 0 0) (1 + 1 - 1) = _
  omega
theorem depF_snoc {l : List TI} {k : Nat} (h : k < l.length) (n a : Nat) : depF (l.take (k + 1)) n a = max (depF (l.take k) n a) (highF (l.take k) n + 1 - needsI l[k].1) := by
  rw [List.take_succ_eq_append_getElem h, depF_append]
  rfl
theorem highF_snoc {l : List TI} {k : Nat} (h : k < l.length) (n : Nat) : highF (l.take (k + 1)) n = highF (l.take k) n + 1 - needsI l[k].1 := by
  rw [List.take_succ_eq_append_getElem h, highF_append]
  rfl
/-- In a sum each item finds what it needs. -/
theorem sum_needs {l : List TI} (h : sumB l = true) {k : Nat} (hk : k < l.length) : itemB l[k] = true ∧ needsI l[k].1 ≤ highF (l.take k) 0 := by
  have h1 := (sum_heap h).1
  have e : l = l.take k ++ (l[k] :: l.drop (k + 1)) := by
    rw [← List.drop_eq_getElem_cons hk, List.take_append_drop]
  rw [e, heapN_append] at h1
  cases ht : heapN (l.take k) 0 with
  | none => rw [ht] at h1; cases h1
  | some c =>
    rw [ht] at h1
    have h2 : heapN (l[k] :: l.drop (k + 1)) c = some 1 := h1
    unfold heapN at h2
    split at h2
    · rename_i hc
      rw [heap_high _ _ _ ht]
      exact hc
    · cases h2
end Go.Proofs.YthgbjnchhaoceaaGreatDoor

/-
  The contract of the model's MayFail.
-/
namespace Go.Proofs.YthgbjnchhaoceaaGreatDoor
open Go.ChangeShapes Go.WideShapes Go.ChangeAt Go.RowKit
attribute [local go_sem ↓] Go.wp_at_zero Go.wp_at_succ
attribute [local simp] World.cell?_alloc_past World.cell?_alloc_at World.frozen?_alloc_at cell_far cell_off cell_here World.frozen?_alloc_past

/-- An item that cannot fail. -/
def safeI (x : TI) : Bool := decide (x.1 = 1) || decide (x.1 = 2) || decide (x.1 = 12)
/-- What MayFail answers. -/
def mayR (l : List TI) : Bool := !(l.all safeI && sumB l)
theorem safe_snoc (l : List TI) (k : Nat) (h : k < l.length) : (l.take (k + 1)).all safeI = ((l.take k).all safeI && safeI l[k]) := by
  rw [List.take_succ_eq_append_getElem h, List.all_append]; simp
set_option maxRecDepth 100000 in
set_option maxHeartbeats 4000000 in
theorem may_spec (a : Option Addr) (cap : Nat) (l : List TI) (n : Nat) (hn : l.length = n) (w : World) (hrow : ItmAt w a l) (hfit : FitItm l) (hm : n ≤ maxLen) :
    Calls Tryz.prog 14 #[.slice a n cap] w fun e w' => e = .returned (.bool (mayR l)) ∧ Below w.heap.size w w' := by
  have HN : Hid (l.length = n) := hn
  have HR : Hid (ItmAt w a l) := hrow
  have HF : Hid (FitItm l) := hfit
  have HM : Hid (n ≤ maxLen) := hm
  clear hrow hfit hn
  unfold maxLen at hm
  go_enter Tryz.func14, Tryz.ntmps14
  go_wp2
  go_loopw [3] (fun i wr => ∃ k : Nat, k ≤ n ∧ i = .int .i64 k ∧ Hid ((l.take k).all safeI = true) ∧ wr = w) (fun i _ => n - (intOf i).toNat)
  case atStart => exact ⟨0, Nat.zero_le _, rfl, rfl, rfl⟩
  case round =>
    obtain ⟨k, hkn, rfl, hall, hwr⟩ := hrel
    replace hwr := hwr.symm
    subst hwr
    by_cases hlt : k < n
    · have hlk : k < l.length := by rw [HN.out]; exact hlt
      have hi1 : (k : Int) < (n : Int) := by omega
      have hi0 : (0 : Int) ≤ (k : Int) := by omega
      obtain ⟨g, o, rfl, hgw, c0, c1, c2, c3, c4⟩ := HR.out k hlk
      have hsn := safe_snoc l k hlk
      rw [hall.out, Bool.true_and] at hsn
      have HSn : Hid ((l.take (k + 1)).all safeI = safeI l[k]) := hsn
      have HNo : Hid (safeI l[k] = false → mayR l = true) := by
        have : safeI l[k] = false → mayR l = true := fun h => by
          have h2 : l.all safeI = false := by
            rw [Bool.eq_false_iff]
            intro h3
            have := List.all_eq_true.1 h3 _ (List.getElem_mem hlk)
            rw [h] at this
            cases this
          unfold mayR
          rw [h2]
          rfl
        exact this
      clear hsn c1 c2 c3 c4 hall
      generalize l[k] = x at c0 HSn HNo
      obtain ⟨kd, y⟩ := x
      simp only at c0
      by_cases h1 : kd = 1
      · subst h1
        have HS : Hid ((l.take (k + 1)).all safeI = true) := HSn.out
        clear HNo HSn
        go_wp2
        go_roundw
        case rel => exact ⟨k + 1, by omega, by go_num, HS, by first | rfl | trivial⟩
        case measure => simp [intOf]; omega
      · by_cases h2 : kd = 2
        · subst h2
          have HS : Hid ((l.take (k + 1)).all safeI = true) := HSn.out
          clear HNo HSn h1
          go_wp2
          go_roundw
          case rel => exact ⟨k + 1, by omega, by go_num, HS, by first | rfl | trivial⟩
          case measure => simp [intOf]; omega
        · by_cases h3 : kd = 12
          · subst h3
            have HS : Hid ((l.take (k + 1)).all safeI = true) := HSn.out
            clear HNo HSn h1 h2
            go_wp2
            go_roundw
            case rel => exact ⟨k + 1, by omega, by go_num, HS, by first | rfl | trivial⟩
            case measure => simp [intOf]; omega
          · have fin : Hid (mayR l = true) := HNo.out (by unfold safeI; simp [h1, h2, h3])
            have q1 : (kd != 1) = true := by simp [h1]
            have q2 : (kd != 2) = true := by simp [h2]
            have q3 : (kd != 12) = true := by simp [h3]
            clear HNo HSn
            go_wp2
            go_ret
            exact ⟨by simp [fin.out], Below.refl _ _⟩
    · have hi1 : ¬ (k : Int) < (n : Int) := by omega
      obtain ⟨b, hb⟩ : ∃ b, sumB l = b := ⟨_, rfl⟩
      have HB : Hid (sumB l = b) := hb
      have fin : Hid (mayR l = !b) := by
        have ht : l.take k = l := List.take_of_length_le (by rw [HN.out]; omega)
        have h1 := hall.out
        rw [ht] at h1
        have : mayR l = !b := by unfold mayR; rw [h1, hb, Bool.true_and]
        exact this
      clear hall hb
      go_wp2_with fail
      refine (sum_spec _ _ l n HN.out _ HR.out HF.out HM.out b HB.out).mono ?_
      rintro e w1 ⟨rfl, hb1⟩
      go_wp2
      go_ret
      exact ⟨by simp [fin.out], hb1⟩
end Go.Proofs.YthgbjnchhaoceaaGreatDoor

/-
  Names put in where they belong, each once, without any program: they rise, and they are those that were put.
-/
namespace Go.Proofs.YthgbjnchhaoceaaGreatDoor

def blt (x y : ByteArray) : Bool := Op.bytesLess x.toList y.toList
/-- One name more, where it belongs, once. -/
def putN : List ByteArray → ByteArray → List ByteArray
  | [], s => [s]
  | x :: L, s => if blt x s = true then x :: putN L s else if x = s then x :: L else s :: x :: L
theorem putN_at : ∀ {L : List ByteArray} {s : ByteArray} {k : Nat}, k ≤ L.length → (∀ j (hj : j < L.length), j < k → blt L[j] s = true) → (∀ hk : k < L.length, blt L[k] s = false) →
    putN L s = if h : k < L.length then (if L[k] = s then L else L.take k ++ s :: L.drop k) else L ++ [s]
  | [], s, k, hk, _, _ => by
    have : k = 0 := by simpa using hk
    subst this
    rfl
  | x :: L, s, 0, _, _, hge => by
    have h0 := hge (by simp)
    rw [List.getElem_cons_zero] at h0
    unfold putN
    rw [if_neg (by rw [h0]; decide), dif_pos (by simp)]
    rfl
  | x :: L, s, k + 1, hk, hlt, hge => by
    have h0 := hlt 0 (by simp) (by omega)
    rw [List.getElem_cons_zero] at h0
    unfold putN
    rw [if_pos h0, putN_at (k := k) (by simpa using hk) (fun j hj hjk => by have := hlt (j + 1) (by simpa using hj) (by omega); rwa [List.getElem_cons_succ] at this) (fun hk' => by have := hge (by simpa using hk'); rwa [List.getElem_cons_succ] at this)]
    by_cases hkl : k < L.length
    · rw [dif_pos hkl, dif_pos (by simpa using hkl), List.getElem_cons_succ]
      split <;> rfl
    · rw [dif_neg hkl, dif_neg (by simpa using hkl)]
      rfl
theorem mem_putN {L : List ByteArray} {s y : ByteArray} : y ∈ putN L s ↔ y = s ∨ y ∈ L := by
  induction L with
  | nil => simp [putN]
  | cons x L ih =>
    unfold putN
    split
    · rw [List.mem_cons, ih, List.mem_cons]
      exact ⟨fun h => by rcases h with h | h | h <;> simp [h], fun h => by rcases h with h | h | h <;> simp [h]⟩
    · split
      · rename_i h
        rw [List.mem_cons, ← h]
        exact ⟨fun h => .inr h, fun h => by rcases h with h | h; exact .inl h; exact h⟩
      · rw [List.mem_cons]
/-- What rises goes on rising. -/
theorem putN_rises {L : List ByteArray} {s : ByteArray} (h : L.Pairwise (fun x y => blt x y = true)) : (putN L s).Pairwise (fun x y => blt x y = true) := by
  induction L with
  | nil => exact List.pairwise_singleton _ _
  | cons x L ih =>
    rw [List.pairwise_cons] at h
    unfold putN
    split
    · rename_i hx
      rw [List.pairwise_cons]
      refine ⟨fun y hy => ?_, ih h.2⟩
      rcases mem_putN.1 hy with rfl | hy
      · exact hx
      · exact h.1 y hy
    · rename_i hx
      split
      · rw [List.pairwise_cons]; exact h
      · rename_i hne
        have hsx : blt s x = true := by
          cases hq : blt s x with
          | true => rfl
          | false =>
            exfalso
            have h1 : blt x s = false := by
              cases hz : blt x s with
              | true => exact absurd hz hx
              | false => rfl
            exact hne (bl_tri h1 hq)
        rw [List.pairwise_cons, List.pairwise_cons]
        refine ⟨fun y hy => ?_, h⟩
        rcases List.mem_cons.1 hy with rfl | hy
        · exact hsx
        · exact bl_trans hsx (h.1 y hy)
/-- The names of items, put in one by one. -/
def namesN (l : List TI) : List ByteArray := l.foldl (fun L x => if x.1 = 2 then putN L x.2.2 else L) []
theorem namesN_snoc (l : List TI) (x : TI) : namesN (l ++ [x]) = if x.1 = 2 then putN (namesN l) x.2.2 else namesN l := by
  unfold namesN; rw [List.foldl_append]; rfl
theorem putN_length (L : List ByteArray) (s : ByteArray) : (putN L s).length ≤ L.length + 1 := by
  induction L with
  | nil => exact Nat.le_refl _
  | cons x L ih =>
    unfold putN
    split
    · simp only [List.length_cons]; omega
    · split
      · simp
      · simp
/-- What NamesOf answers. -/
def namesR (l : List TI) : List ByteArray := if sumB l = true then namesN l else []
theorem namesN_rises (l : List TI) : (namesN l).Pairwise (fun x y => blt x y = true) := by
  suffices h : ∀ (l : List TI) (L : List ByteArray), L.Pairwise (fun x y => blt x y = true) → (l.foldl (fun L x => if x.1 = 2 then putN L x.2.2 else L) L).Pairwise (fun x y => blt x y = true) from h l [] List.Pairwise.nil
  intro l
  induction l with
  | nil => intro L h; exact h
  | cons x l ih =>
    intro L h
    rw [List.foldl_cons]
    apply ih
    split
    · exact putN_rises h
    · exact h
theorem mem_namesN (l : List TI) (y : ByteArray) : y ∈ namesN l ↔ ∃ x ∈ l, x.1 = 2 ∧ x.2.2 = y := by
  suffices h : ∀ (l : List TI) (L : List ByteArray), y ∈ (l.foldl (fun L x => if x.1 = 2 then putN L x.2.2 else L) L) ↔ y ∈ L ∨ ∃ x ∈ l, x.1 = 2 ∧ x.2.2 = y by
    have := h l []
    simpa [namesN] using this
  intro l
  induction l with
  | nil => intro L; simp
  | cons x l ih =>
    intro L
    rw [List.foldl_cons, ih]
    by_cases h2 : x.1 = 2
    · rw [if_pos h2, mem_putN]
      constructor
      · rintro ((rfl | h) | ⟨z, hz, h⟩)
        · exact .inr ⟨x, by simp, h2, rfl⟩
        · exact .inl h
        · exact .inr ⟨z, by simp [hz], h⟩
      · rintro (h | ⟨z, hz, h⟩)
        · exact .inl (.inr h)
        · rcases List.mem_cons.1 hz with rfl | hz
          · exact .inl (.inl h.2.symm)
          · exact .inr ⟨z, hz, h⟩
    · rw [if_neg h2]
      constructor
      · rintro (h | ⟨z, hz, h⟩)
        · exact .inl h
        · exact .inr ⟨z, by simp [hz], h⟩
      · rintro (h | ⟨z, hz, h⟩)
        · exact .inl h
        · rcases List.mem_cons.1 hz with rfl | hz
          · exact absurd h.1 h2
          · exact .inr ⟨z, hz, h⟩
end Go.Proofs.YthgbjnchhaoceaaGreatDoor

/-
  Reckoning without any program: what a sum comes to hangs on the columns it names alone, what can't fail does not, and what comes is a right cell.
-/
namespace Go.Proofs.YthgbjnchhaoceaaGreatDoor

theorem zero_ok : okC zeroC = true := by
  show okB 0 0 ⟨#[]⟩ = true
  unfold okB
  simp
theorem one_ok {n : Int} (h : numB n = true) : okC (1, n, ⟨#[]⟩) = true := by
  show okB 1 n ⟨#[]⟩ = true
  unfold okB
  simp [h]
theorem yes_ok {n : Int} (h : n = 0 ∨ n = 1) : okC (3, n, ⟨#[]⟩) = true := by
  show okB 3 n ⟨#[]⟩ = true
  unfold okB
  rcases h with rfl | rfl <;> simp
theorem colR_same : ∀ (C : List ByteArray) (R R' : List CK) (s : ByteArray), R.length = C.length → R'.length = C.length → (∀ k (h : k < C.length) (h1 : k < R.length) (h2 : k < R'.length), C[k] = s → R[k] = R'[k]) → colR C R s = colR C R' s
  | [], R, R', _, h1, h2, _ => by
    obtain rfl : R = [] := by simpa using h1
    obtain rfl : R' = [] := by simpa using h2
    rfl
  | c :: C, r :: R, r' :: R', s, h1, h2, h => by
    unfold colR
    by_cases e : c = s
    · rw [if_pos e, if_pos e]
      exact h 0 (by simp) (by simp) (by simp) e
    · rw [if_neg e, if_neg e]
      refine colR_same C R R' s (by simpa using h1) (by simpa using h2) ?_
      intro k k0 k1 k2 hk
      have := h (k + 1) (by simpa using k0) (by simpa using k1) (by simpa using k2) (by simpa using hk)
      simpa using this
theorem colR_ok : ∀ (C : List ByteArray) (R : List CK) (s : ByteArray), R.all okC = true → okC (colR C R s) = true
  | [], _, _, _ => zero_ok
  | _ :: _, [], _, _ => zero_ok
  | c :: C, r :: R, s, h => by
    simp only [List.all_cons, Bool.and_eq_true] at h
    unfold colR
    split
    · exact h.1
    · exact colR_ok C R s h.2
theorem runR_same (C : List ByteArray) (R R' : List CK) : ∀ (l : List TI) (P : List CK), (∀ x ∈ l, x.1 = 2 → colR C R x.2.2 = colR C R' x.2.2) → runR C R l P = runR C R' l P
  | [], _, _ => rfl
  | x :: l, P, h => by
    have hs : stepR C R P x = stepR C R' P x := by
      unfold stepR
      have : leafR C R x = leafR C R' x := by
        unfold leafR
        split
        · rename_i e; exact h x (by simp) e
        · rfl
      rw [this]
    show (if (stepR C R P x).2 = 0 then runR C R l (stepR C R P x).1 else ([], (stepR C R P x).2)) = (if (stepR C R' P x).2 = 0 then runR C R' l (stepR C R' P x).1 else ([], (stepR C R' P x).2))
    rw [hs, runR_same C R R' l _ (fun y hy => h y (by simp [hy]))]
/-- What a sum comes to hangs on the columns it names alone. -/
theorem reck_same {C : List ByteArray} {R R' : List CK} {l : List TI} (h1 : R.length = C.length) (h2 : R'.length = C.length) (ha : R.all okC = true) (hb : R'.all okC = true) (h : ∀ k (h : k < C.length) (h1 : k < R.length) (h2 : k < R'.length), C[k] ∈ namesR l → R[k] = R'[k]) : reckR C R l = reckR C R' l := by
  unfold reckR
  by_cases hs : sumB l = true
  · have hrun : runR C R l [] = runR C R' l [] := by
      refine runR_same C R R' l [] ?_
      intro x hx hk
      refine colR_same C R R' _ h1 h2 ?_
      intro k k0 k1 k2 e
      refine h k k0 k1 k2 ?_
      unfold namesR
      rw [if_pos hs, e]
      exact (mem_namesN l _).2 ⟨x, hx, hk, rfl⟩
    have hv : sumV C R l = sumV C R' l := by unfold sumV; rw [hrun]
    rw [hv, h1, h2, ha, hb]
  · rw [if_neg (fun h => hs h.1), if_neg (fun h => hs h.1)]
theorem allok_get {P : List CK} (h : P.all okC = true) (k : Nat) : okC (P.getD k zeroC) = true := by
  by_cases hk : k < P.length
  · rw [List.getD_eq_getElem?_getD, List.getElem?_eq_getElem hk]
    exact List.all_eq_true.1 h _ (List.getElem_mem hk)
  · rw [List.getD_eq_getElem?_getD, List.getElem?_eq_none (by omega)]
    exact zero_ok
theorem allok_take {P : List CK} (h : P.all okC = true) (k : Nat) : (P.take k).all okC = true := by
  rw [List.all_eq_true] at h ⊢
  intro x hx
  exact h x (List.mem_of_mem_take hx)
theorem resT_ok (b : Bool) (r : Int) : okC (cellOf (resT b r)) = true := by
  unfold resT rkK rkN
  cases b
  · exact zero_ok
  · simp only [if_true]
    by_cases h1 : r = 1
    · subst h1; exact zero_ok
    · rw [if_neg h1]
      by_cases h2 : r = 2
      · subst h2; exact yes_ok (.inr rfl)
      · rw [if_neg h2]; exact yes_ok (.inl rfl)
theorem heldR_ok (a b c : Bool) : okC (cellOf (heldR a b c)) = true := by
  cases a <;> cases b <;> cases c <;> first | exact zero_ok | exact yes_ok (.inl rfl) | exact yes_ok (.inr rfl)
theorem opR_ok (a b : Bool) (n f : Int) : okC (cellOf (opR a b n f)) = true := by
  unfold opR
  (repeat' split) <;> first | exact zero_ok | (rename_i h; exact one_ok h)
theorem noneR_ok (k n : Int) (t : ByteArray) : okC (cellOf (noneR k n t)) = true := by
  unfold noneR
  (repeat' split) <;> first | exact zero_ok | exact yes_ok (.inl rfl) | exact yes_ok (.inr rfl)
theorem oneR_ok (k : Int) (a : CK) : okC (cellOf (oneR k a)) = true := by
  unfold oneR
  split
  · exact resT_ok _ _
  · exact noneR_ok _ _ _
theorem twoR_ok (k : Int) (a b : CK) : okC (cellOf (twoR k a b)) = true := by
  unfold twoR
  (repeat' split) <;> first | exact opR_ok _ _ _ _ | exact heldR_ok _ _ _ | exact resT_ok _ _
theorem stepR_ok {C : List ByteArray} {R P : List CK} {x : TI} (hR : R.all okC = true) (hP : P.all okC = true) (hx : itemB x = true) : (stepR C R P x).1.all okC = true := by
  unfold stepR
  split
  · rename_i h0
    have : okC (leafR C R x) = true := by
      unfold leafR
      split
      · exact colR_ok C R _ hR
      · rename_i h2
        have h1 : x.1 = 1 := by
          by_cases h1 : x.1 = 1
          · exact h1
          · have := item_op hx h1 h2
            unfold needsI at h0
            (repeat' split at h0) <;> omega
        unfold itemB at hx
        rw [if_pos h1, Bool.and_eq_true] at hx
        exact hx.1
    simp [hP, this]
  · split
    · simp [allok_take hP, oneR_ok]
    · simp [allok_take hP, twoR_ok]
theorem runR_ok {C : List ByteArray} {R : List CK} (hR : R.all okC = true) : ∀ (l : List TI) (P : List CK), P.all okC = true → (∀ x ∈ l, itemB x = true) → (runR C R l P).1.all okC = true
  | [], _, h, _ => h
  | x :: l, P, h, hx => by
    show (if (stepR C R P x).2 = 0 then runR C R l (stepR C R P x).1 else ([], (stepR C R P x).2)).1.all okC = true
    split
    · exact runR_ok hR l _ (stepR_ok hR h (hx x (by simp))) (fun y hy => hx y (by simp [hy]))
    · rfl
theorem heap_items : ∀ (l : List TI) (n m : Nat), heapN l n = some m → ∀ x ∈ l, itemB x = true
  | [], _, _, _, x, hx => by simp at hx
  | y :: l, n, m, h, x, hx => by
    unfold heapN at h
    split at h
    · rename_i hc
      rcases List.mem_cons.1 hx with rfl | hx
      · exact hc.1
      · exact heap_items l _ m h x hx
    · cases h
/-- What comes is a right cell. -/
theorem reck_ok (C : List ByteArray) (R : List CK) (l : List TI) : okC (reckR C R l).1 = true := by
  unfold reckR
  split
  · rename_i h
    unfold sumV
    split
    · have := runR_ok (C := C) h.2.2.2 l [] rfl (heap_items l 0 1 (sum_heap h.1).1)
      show okC ((runR C R l []).1.headD zeroC) = true
      cases e : (runR C R l []).1 with
      | nil => exact zero_ok
      | cons a P =>
        rw [e] at this
        simp only [List.all_cons, Bool.and_eq_true] at this
        exact this.1
    · exact zero_ok
  · exact zero_ok
theorem runR_safe {C : List ByteArray} {R : List CK} (hR : R.all okC = true) : ∀ (l : List TI) (P : List CK), P.all okC = true → (∀ x ∈ l, itemB x = true) → l.all safeI = true → (runR C R l P).2 = 0
  | [], _, _, _, _ => rfl
  | x :: l, P, h, hx, hs => by
    simp only [List.all_cons, Bool.and_eq_true] at hs
    have h0 : (stepR C R P x).2 = 0 := by
      unfold stepR
      split
      · rfl
      · rename_i hn
        have h12 : x.1 = 12 := by
          have := hs.1
          unfold safeI at this
          simp only [Bool.or_eq_true, decide_eq_true_eq] at this
          unfold needsI at hn
          split at hn <;> omega
        rw [if_pos (by rw [h12]; rfl)]
        show (oneR x.1 _).2.2 = 0
        rw [h12]
        show (noneR _ _ _).2.2 = 0
        unfold noneR
        rw [if_pos (show okB _ _ _ = true from allok_get h _)]
    show (if (stepR C R P x).2 = 0 then runR C R l (stepR C R P x).1 else ([], (stepR C R P x).2)).2 = 0
    rw [if_pos h0]
    exact runR_safe hR l _ (stepR_ok hR h (hx x (by simp))) (fun y hy => hx y (by simp [hy])) hs.2
/-- What can't fail does not. -/
theorem reck_safe {C : List ByteArray} {R : List CK} {l : List TI} (hm : mayR l = false) (hc : hasC C l = true) (h1 : R.length = C.length) (ha : R.all okC = true) : (reckR C R l).2 = 0 := by
  unfold mayR at hm
  simp only [Bool.not_eq_false', Bool.and_eq_true] at hm
  unfold reckR
  rw [if_pos ⟨hm.2, hc, h1, ha⟩]
  unfold sumV
  rw [if_pos (runR_safe ha l [] rfl (heap_items l 0 1 (sum_heap hm.2).1) hm.1)]
theorem reck_sum {C : List ByteArray} {R : List CK} {l : List TI} (h : sumB l = false) : reckR C R l = (zeroC, 3) := by
  unfold reckR; rw [if_neg (fun k => by rw [h] at k; exact absurd k.1 (by decide))]
theorem reck_len {C : List ByteArray} {R : List CK} {l : List TI} (h : R.length ≠ C.length) : reckR C R l = (zeroC, 3) := by
  unfold reckR; rw [if_neg (fun k => h k.2.2.1)]
theorem reck_bad {C : List ByteArray} {R : List CK} {l : List TI} (h : R.all okC ≠ true) : reckR C R l = (zeroC, 3) := by
  unfold reckR; rw [if_neg (fun k => h k.2.2.2)]
theorem reck_name {C : List ByteArray} {R : List CK} {l : List TI} (h : hasC C l ≠ true) : reckR C R l = (zeroC, 3) := by
  unfold reckR; rw [if_neg (fun k => h k.2.1)]
theorem reck_zero {C : List ByteArray} {R : List CK} {l : List TI} (h : (reckR C R l).2 ≠ 0) : (reckR C R l).1 = zeroC := by
  unfold reckR at h ⊢
  split
  · rename_i hc
    rw [if_pos hc] at h
    unfold sumV at h ⊢
    split
    · rename_i h0
      rw [if_pos h0] at h
      exact absurd rfl h
    · rfl
  · rfl
end Go.Proofs.YthgbjnchhaoceaaGreatDoor

/-
  The contract of the program's itemCell in the words of one step of the pile.
-/
namespace Go.Proofs.YthgbjnchhaoceaaGreatDoor
open Go.ChangeShapes Go.WideShapes Go.ChangeAt Go.RowKit

theorem colR_fit : ∀ (C : List ByteArray) (R : List CT) (s : ByteArray), (∀ y ∈ R, y.2.2.size ≤ maxLen) → (colR C R s).2.2.size ≤ maxLen
  | [], _, _, _ => by show (0 : Nat) ≤ maxLen; unfold maxLen; omega
  | _ :: _, [], _, _ => by show (0 : Nat) ≤ maxLen; unfold maxLen; omega
  | c :: C, r :: R, s, h => by
    unfold colR
    split
    · exact h r (by simp)
    · exact colR_fit C R s (fun y hy => h y (by simp [hy]))
theorem icell_step (x : TI) (hit : itemB x = true) (hxf : x.2.1.2.2.size ≤ maxLen) (C : List ByteArray) (R : List CT) (m : Nat) (hm : C.length = m) (hRm : R.length = m) (hml : m ≤ maxLen) (hRf : Fit R) (hhas : x.1 = 2 → x.2.2 ∈ C) (P : List CT) (hFP : Fit P) (p nd : Nat) (hp : P.length = p) (hnd : needsI x.1 = nd) (hle : nd ≤ p) :
    ∃ (c : CK) (f : Int), stepR C R P x = (P.take (p - nd) ++ [c], f) ∧ c.2.2.size ≤ maxLen ∧ ∀ (w' : World) (gp : Nat) (pa : Option Addr) (pc : Nat) (ca : Option Addr) (cc : Nat) (ra : Option Addr) (rc : Nat), (0 < nd → pa = some ⟨gp, (p - nd) * 3, none⟩) → RowAt w' (some ⟨gp, 0, none⟩) P → StrsAt w' ca C → RowAt w' ra R →
      Calls Tryz.prog 75 #[.agg #[.int .i64 x.1, .int .i64 x.2.1.1, .int .i64 x.2.1.2.1, .string x.2.1.2.2, .string x.2.2], .slice pa nd pc, .slice ca m cc, .slice ra m rc] w' fun e w'' => OutC c.1 c.2.1 c.2.2 f e ∧ Below w'.heap.size w' w'' := by
  obtain ⟨k, ⟨xa, xb, xc⟩, xs⟩ := x
  dsimp only at hxf hhas hnd ⊢
  have hempty : (⟨#[]⟩ : ByteArray).size ≤ maxLen := by show (0 : Nat) ≤ maxLen; unfold maxLen; omega
  rcases needs_012 k with hq0 | hq0 | hq0
  · obtain rfl : 0 = nd := hq0.symm.trans hnd
    have hPt : P.take (p - 0) = P := List.take_of_length_le (by omega)
    by_cases h2 : k = 2
    · subst h2
      refine ⟨colR C R xs, 0, ?_, ?_, ?_⟩
      · unfold stepR
        dsimp only
        rw [if_pos hq0, hPt]
        rfl
      · refine colR_fit C R xs (fun y hy => ?_)
        obtain ⟨j, hj, rfl⟩ := List.mem_iff_getElem.1 hy
        exact hRf j hj
      · intro w' gp pa pc ca cc ra rc _ _ hC hR
        refine (icell_col xa xb xc xs pa pc ca cc C m hm ra rc R hRm w' hC hml hR (hhas rfl) _ rfl).mono ?_
        rintro e w'' ⟨rfl, hb⟩
        exact ⟨.inl ⟨rfl, rfl⟩, hb⟩
    · refine ⟨(xa, xb, xc), 0, ?_, hxf, ?_⟩
      · unfold stepR
        dsimp only
        rw [if_pos hq0, hPt]
        unfold leafR
        dsimp only
        rw [if_neg h2]
      · intro w' gp pa pc ca cc ra rc _ _ _ _
        refine (icell_cell k xa xb xc xs h2 pa pc _ _ w').mono ?_
        rintro e w'' ⟨rfl, hb⟩
        exact ⟨.inl ⟨rfl, rfl⟩, hb⟩
  · obtain rfl : 1 = nd := hq0.symm.trans hnd
    have hxk : k = 11 ∨ k = 12 := by
      have h1 := item_op hit (by intro e; dsimp only at e; subst e; exact absurd hq0 (by decide)) (by intro e; dsimp only at e; subst e; exact absurd hq0 (by decide))
      dsimp only at h1
      unfold needsI at hq0
      split at hq0
      · cases hq0
      · split at hq0
        · omega
        · cases hq0
    have hmP : p - 1 < P.length := by omega
    obtain ⟨⟨ua, ub, ut⟩, hu⟩ : ∃ u, P[p - 1]'hmP = u := ⟨_, rfl⟩
    have huf := hFP (p - 1) hmP
    rw [hu] at huf
    obtain ⟨r1, r2, r3, hR1⟩ : ∃ r1 r2 r3, oneR k (ua, ub, ut) = (r1, r2, r3) := ⟨_, _, _, rfl⟩
    refine ⟨(r1, r2, ⟨#[]⟩), r3, ?_, hempty, ?_⟩
    · unfold stepR
      dsimp only
      rw [hq0, if_neg (by decide), if_pos rfl, hp]
      rw [show P.getD (p - 1) zeroC = (ua, ub, ut) by rw [List.getD_eq_getElem?_getD, List.getElem?_eq_getElem hmP, hu]; rfl, hR1]
      rfl
    · intro w' gp pa pc ca cc ra rc hpa hrow _ _
      obtain rfl := hpa (by omega)
      obtain ⟨b, o, e, hlt, c0, c1, c2⟩ := hrow (p - 1) hmP
      simp only [Option.some.injEq, Addr.mk.injEq, and_true] at e
      obtain ⟨rfl, rfl⟩ := e
      rw [hu] at c0 c1 c2
      simp only [Nat.zero_add] at c0 c1 c2
      exact icell_one k xa xb xc xs hxk gp _ pc _ _ ua ub ut huf w' hlt c0 c1 c2 r1 r2 r3 hR1
  · obtain rfl : 2 = nd := hq0.symm.trans hnd
    have hxk : 3 ≤ k ∧ k ≤ 10 := by
      have h1 := item_op hit (by intro e; dsimp only at e; subst e; exact absurd hq0 (by decide)) (by intro e; dsimp only at e; subst e; exact absurd hq0 (by decide))
      dsimp only at h1
      unfold needsI at hq0
      split at hq0
      · cases hq0
      · split at hq0
        · cases hq0
        · omega
    have hmP : p - 2 < P.length := by omega
    have hmQ : p - 1 < P.length := by omega
    obtain ⟨⟨ua, ub, ut⟩, hu⟩ : ∃ u, P[p - 2]'hmP = u := ⟨_, rfl⟩
    obtain ⟨⟨va, vb, vt⟩, hv⟩ : ∃ u, P[p - 1]'hmQ = u := ⟨_, rfl⟩
    have huf := hFP (p - 2) hmP
    rw [hu] at huf
    have hvf := hFP (p - 1) hmQ
    rw [hv] at hvf
    obtain ⟨r1, r2, r3, hR1⟩ : ∃ r1 r2 r3, twoR k (ua, ub, ut) (va, vb, vt) = (r1, r2, r3) := ⟨_, _, _, rfl⟩
    refine ⟨(r1, r2, ⟨#[]⟩), r3, ?_, hempty, ?_⟩
    · unfold stepR
      dsimp only
      rw [hq0, if_neg (by decide), if_neg (by decide), hp]
      rw [show P.getD (p - 2) zeroC = (ua, ub, ut) by rw [List.getD_eq_getElem?_getD, List.getElem?_eq_getElem hmP, hu]; rfl, show P.getD (p - 1) zeroC = (va, vb, vt) by rw [List.getD_eq_getElem?_getD, List.getElem?_eq_getElem hmQ, hv]; rfl, hR1]
      rfl
    · intro w' gp pa pc ca cc ra rc hpa hrow _ _
      obtain rfl := hpa (by omega)
      obtain ⟨b, o, e, hlt, c0, c1, c2⟩ := hrow (p - 2) hmP
      simp only [Option.some.injEq, Addr.mk.injEq, and_true] at e
      obtain ⟨rfl, rfl⟩ := e
      rw [hu] at c0 c1 c2
      simp only [Nat.zero_add] at c0 c1 c2
      obtain ⟨b, o, e, _, d0, d1, d2⟩ := hrow (p - 1) hmQ
      simp only [Option.some.injEq, Addr.mk.injEq, and_true] at e
      obtain ⟨rfl, rfl⟩ := e
      rw [hv] at d0 d1 d2
      simp only [Nat.zero_add] at d0 d1 d2
      have e3 : (p - 1) * 3 = (p - 2) * 3 + 3 := by omega
      rw [e3] at d0 d1 d2
      exact icell_two k xa xb xc xs hxk gp _ pc _ _ ua ub ut huf va vb vt hvf w' hlt c0 c1 c2 d0 d1 d2 r1 r2 r3 hR1
end Go.Proofs.YthgbjnchhaoceaaGreatDoor

/-
  Lists of lists of cells: how they lie in memory, and the contracts of the law's helpers that measure them and hold two of them against each other.
-/
namespace Go.Proofs.YthgbjnchhaoceaaGreatDoor
open Go.ChangeShapes Go.WideShapes Go.ChangeAt Go.RowKit
attribute [local go_sem ↓] Go.wp_at_zero Go.wp_at_succ

/-- The lists of a slice of slices lie where it says. -/
def RowsAt (w : World) (a : Option Addr) (L : List (List CT)) : Prop :=
  ∀ i (h : i < L.length), ∃ b o ai ci, a = some ⟨b, o, none⟩ ∧ b < w.heap.size ∧ w.cell? ⟨b, o + i, none⟩ = some (.slice ai L[i].length ci) ∧ RowAt w ai L[i] ∧ Fit L[i] ∧ L[i].length ≤ maxLen ∧ (ai = none → ci = 0)
theorem RowsAt.below {w w' : World} {a : Option Addr} {L : List (List CT)} (h : RowsAt w a L) (hb : Below w.heap.size w w') : RowsAt w' a L := by
  intro i hi
  obtain ⟨b, o, ai, ci, ha, hlt, h0, h1, h2⟩ := h i hi
  refine ⟨b, o, ai, ci, ha, Nat.lt_of_lt_of_le hlt hb.size, ?_, h1.below hb, h2⟩
  rw [hb.cell (p := ⟨b, _, none⟩) hlt]; exact h0
/-- How much a list of lists takes of a measure. -/
def total (L : List (List CT)) : Nat := (L.map fun l => l.length + weight l).sum
theorem total_take (L : List (List CT)) (k : Nat) (h : k < L.length) : total (L.take (k + 1)) = total (L.take k) + ((L[k]).length + weight L[k]) := by
  unfold total
  rw [List.take_succ_eq_append_getElem h, List.map_append, List.sum_append]; simp
theorem total_le (L : List (List CT)) (k : Nat) : total (L.take k) ≤ total L := by
  unfold total
  conv => rhs; rw [← List.take_append_drop k L, List.map_append, List.sum_append]
  omega

end Go.Proofs.YthgbjnchhaoceaaGreatDoor

/-
  Tables: how a table lies in memory, what a right one is, without any program, and the contract of the model's TableOk.
-/
namespace Go.Proofs.YthgbjnchhaoceaaGreatDoor
open Go.ChangeShapes Go.WideShapes Go.ChangeAt Go.RowKit
attribute [local go_sem ↓] Go.wp_at_zero Go.wp_at_succ
attribute [local simp] World.cell?_alloc_past World.cell?_alloc_at World.frozen?_alloc_at cell_far cell_off cell_here World.frozen?_alloc_past

/-- A table: its name, its columns, its rows. -/
abbrev TB := ByteArray × List ByteArray × List (List CT)
/-- The columns and rows of a table lie where it says. -/
structure TabAt (w : World) (ca : Option Addr) (cc : Nat) (ra : Option Addr) (t : TB) : Prop where
  cols : StrsAt w ca t.2.1
  fit : FitS t.2.1
  len : t.2.1.length ≤ maxLen
  cap : t.2.1.length ≤ cc
  nilC : ca = none → cc = 0
  rows : RowsAt w ra t.2.2
  lenR : t.2.2.length ≤ maxLen
  name : t.1.size ≤ maxLen
theorem TabAt.below {w w' : World} {ca : Option Addr} {cc : Nat} {ra : Option Addr} {t : TB} (h : TabAt w ca cc ra t) (hb : Below w.heap.size w w') : TabAt w' ca cc ra t :=
  ⟨h.cols.below hb, h.fit, h.len, h.cap, h.nilC, h.rows.below hb, h.lenR, h.name⟩

def rowOk (n : Nat) (r : List CT) : Bool := decide (r.length = n) && r.all okC
/-- Is it a right table? -/
def tableB (t : TB) : Bool := (nameB t.1 && (namesB t.2.1 1 6 && decide (t.2.2.length ≤ 60))) && t.2.2.all (rowOk t.2.1.length)

end Go.Proofs.YthgbjnchhaoceaaGreatDoor

/-
  The contracts of the program's questions whether a row fits, and whether a table is right.
-/
namespace Go.Proofs.YthgbjnchhaoceaaGreatDoor
open Go.ChangeShapes Go.WideShapes Go.ChangeAt Go.RowKit
attribute [local go_sem ↓] Go.wp_at_zero Go.wp_at_succ
attribute [local simp] World.cell?_alloc_past World.cell?_alloc_at World.frozen?_alloc_at cell_far cell_off cell_here World.frozen?_alloc_past

set_option maxHeartbeats 2000000 in
theorem every_cells (a : Option Addr) (cap : Nat) (l : List CT) (w : World) (hrow : RowAt w a l) (hfit : Fit l) (hm : l.length ≤ maxLen) (b : Bool) (hb : l.all okC = b) :
    Calls Tryz.prog 93 #[.agg #[.slice a l.length cap], .func (.func 76) #[] #[]] w fun e w' => e = .returned (.bool b) ∧ Below w.heap.size w w' := by
  have HR : Hid (RowAt w a l) := hrow
  have HF : Hid (Fit l) := hfit
  have HB : Hid (l.all okC = b) := hb
  clear hrow hfit hb
  unfold maxLen at hm
  go_enter Tryz.func93, Tryz.ntmps93
  have hA : Below w.heap.size w (w.alloc (.cells #[.slice a l.length cap] 119)) := (Below.refl _ _).alloc (Nat.le_refl _) _
  go_wp2
  go_loopw [10] (fun kk wr => ∃ k : Nat, k ≤ l.length ∧ kk = .int .i64 k ∧ Hid ((l.take k).all okC = true) ∧ Below w.heap.size w wr) (fun kk _ => l.length - (intOf kk).toNat)
  case atStart => exact ⟨0, Nat.zero_le _, rfl, rfl, hA⟩
  case round =>
    obtain ⟨k, hk, rfl, hall, hbw⟩ := hrel
    by_cases hlt : k < l.length
    · obtain ⟨g, o, rfl, hgw, c0, c1, c2⟩ := HR.out.below hbw k hlt
      have hi0 : (0 : Int) ≤ (k : Int) := by omega
      have hi1 : (k : Int) < (l.length : Int) := by omega
      have hft := HF.out k hlt
      have HS : Hid ((l.take (k + 1)).all okC = okC l[k]) := by
        have : (l.take (k + 1)).all okC = okC l[k] := by
          rw [List.take_succ_eq_append_getElem hlt, List.all_append, hall.out, Bool.true_and, List.all_cons, List.all_nil, Bool.and_true]
        exact this
      have hno : Hid (okC l[k] = false → b = false) := by
        have : okC l[k] = false → b = false := by
          intro e
          rw [← HB.out, Bool.eq_false_iff]
          intro h
          rw [List.all_eq_true.1 h _ (List.getElem_mem hlt)] at e
          cases e
        exact this
      obtain ⟨r, hr⟩ : ∃ r, okC l[k] = r := ⟨_, rfl⟩
      generalize l[k] = x at c0 c1 c2 hft HS hr hno
      obtain ⟨x0, x1, x2⟩ := x
      dsimp only at c0 c1 c2 hft
      have HRR : Hid (okC (x0, x1, x2) = r) := hr
      have HRB : Hid (okB x0 x1 x2 = r) := hr
      clear hr
      go_wp2_with fail
      refine (ok_implb x0 x1 x2 r HRB.out _ hft).mono ?_
      rintro e wA ⟨rfl, hbA⟩
      have hxA := chain hbw (chainA hbA)
      clear hbA
      cases r
      · have e := hno.out HRR.out
        subst e
        go_wp2
        go_ret
        exact ⟨rfl, hxA⟩
      · go_wp2
        go_roundw
        case rel => exact ⟨k + 1, by omega, by go_num, by rw [HS.out]; exact HRR.out, hxA⟩
        case measure => simp [intOf]; omega
    · have hkl : k = l.length := by omega
      subst hkl
      have hnn : ¬ (l.length : Int) < (l.length : Int) := by omega
      have e : b = true := by
        rw [← HB.out]
        have := hall.out
        rw [List.take_length] at this
        exact this
      subst e
      go_wp2
      go_ret
      exact ⟨rfl, hbw⟩

theorem rowfits_impl (n : Nat) (a : Option Addr) (cap : Nat) (l : List CT) (hn : l.length = n) (w : World) (hrow : RowAt w a l) (hfit : Fit l) (hm : n ≤ maxLen) (nc : Nat) (b : Bool) (hb : rowOk nc l = b) :
    Calls Tryz.prog 73 #[.slice a n cap, .int .i64 nc] w fun e w' => e = .returned (.bool b) ∧ Below w.heap.size w w' := by
  have hmm := hm
  unfold maxLen at hmm
  unfold rowOk at hb
  rw [hn] at hb
  by_cases he : n = nc
  · rw [decide_eq_true he, Bool.true_and] at hb
    have E : Hid (Calls Tryz.prog 93 #[.agg #[.slice a n cap], .func (.func 76) #[] #[]] w fun e w' => e = .returned (.bool b) ∧ Below w.heap.size w w') := by
      have : Calls Tryz.prog 93 #[.agg #[.slice a n cap], .func (.func 76) #[] #[]] w fun e w' => e = .returned (.bool b) ∧ Below w.heap.size w w' := by
        subst hn; exact every_cells a cap l w hrow hfit hm b hb
      exact this
    subst he
    clear hrow hfit hn hb
    go_enter Tryz.func73, Tryz.ntmps73
    go_wp2_with fail
    refine E.out.mono ?_
    rintro e w1 ⟨rfl, hb1⟩
    go_wp2
    go_ret
    exact ⟨rfl, hb1⟩
  · rw [decide_eq_false he, Bool.false_and] at hb
    subst hb
    have hne : ((n : Int) == (nc : Int)) = false := by rw [beq_eq_false_iff_ne]; omega
    have hne2 : ¬ (n : Int) = (nc : Int) := by omega
    clear hrow hfit hn
    go_enter Tryz.func73, Tryz.ntmps73
    go_wp2
    go_ret
    exact ⟨rfl, Below.refl _ _⟩

end Go.Proofs.YthgbjnchhaoceaaGreatDoor
