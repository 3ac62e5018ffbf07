/-
  A part of the proof: TabI1, TabI2, HeapMath, Order, SortMath, SortedS.
-/
import Derived.Test.YtegnekbbbfncgaaGreatDoorPart11
import Derived.WalkKit
import Derived.Sort.Walk0

/-
  The contracts of the program's questions on names: whether a text is one, whether all of a list are, whether no two are alike.
-/
namespace Go.Proofs.YtegnekbbbfncgaaGreatDoor
open Go.ChangeShapes Go.WideShapes Go.ChangeAt Go.RowKit
attribute [local go_sem ↓] Go.wp_at_zero Go.wp_at_succ
attribute [local simp] World.cell?_alloc_past World.cell?_alloc_at World.frozen?_alloc_at cell_far cell_off cell_here World.frozen?_alloc_past

theorem nameB_short {s : ByteArray} (h : ¬ (1 : Int) ≤ (s.size : Int)) : nameB s = false := by
  have : s = ⟨#[]⟩ := by
    apply ByteArray.ext
    apply Array.eq_empty_of_size_eq_zero
    have : s.size = 0 := by omega
    exact this
  rw [this]; rfl
theorem nameB_long {s : ByteArray} (h : ¬ (s.size : Int) ≤ 6) : nameB s = false := by
  unfold nameB
  rw [decide_eq_false h, Bool.and_false, Bool.and_false]
theorem nameB_mid {s : ByteArray} (h : (1 : Int) ≤ (s.size : Int)) (h6 : (s.size : Int) ≤ 6) : nameB s = (lets s.data.toList && decide ((s.size : Int) ≤ 12)) := by
  unfold nameB
  rw [decide_eq_true h6, decide_eq_true (by omega : (s.size : Int) ≤ 12), decide_eq_true, Bool.true_and]
  intro e
  rw [e] at h
  exact absurd h (by decide)

theorem name_impl (s : ByteArray) (w : World) (hs : s.size ≤ maxLen) (b : Bool) (hb : nameB s = b) :
    Calls Tryz.prog 215 #[.string s] w fun e w' => e = .returned (.bool b) ∧ w' = w := by
  have hm := hs
  unfold maxLen at hm
  by_cases h1 : (1 : Int) ≤ (s.size : Int)
  · by_cases h6 : (s.size : Int) ≤ 6
    · rw [nameB_mid h1 h6] at hb
      have HB : Hid ((lets s.data.toList && decide ((s.size : Int) ≤ 12)) = b) := hb
      clear hb
      go_enter Tryz.func215, Tryz.ntmps215
      go_wp2_with fail
      refine (textFits_impl s _ hs).mono ?_
      rintro e w' ⟨rfl, rfl⟩
      rw [HB.out]
      go_wp2
      go_ret
      exact ⟨rfl, rfl⟩
    · rw [nameB_long h6] at hb
      subst hb
      go_enter Tryz.func215, Tryz.ntmps215
      go_wp2
      go_ret
      exact ⟨rfl, rfl⟩
  · rw [nameB_short h1] at hb
    subst hb
    go_enter Tryz.func215, Tryz.ntmps215
    go_wp2
    go_ret
    exact ⟨rfl, rfl⟩

set_option maxHeartbeats 1000000 in
theorem index_str (n : Nat) (a : Option Addr) (cap : Nat) (l : List ByteArray) (hn : l.length = n) (s : ByteArray) (w : World) (hrow : StrsAt w a l) (hm : n ≤ maxLen) :
    Calls Tryz.prog 138 #[.slice a n cap, .string s] w fun e w' => ∃ r, e = .returned (.int .i64 r) ∧ AtIs l s r ∧ Below w.heap.size w w' := by
  subst hn
  have HR : Hid (StrsAt w a l) := hrow
  clear hrow
  unfold maxLen at hm
  go_enter Tryz.func138, Tryz.ntmps138
  go_wp2
  go_loopw [8] (fun kk wr => ∃ k : Nat, k ≤ l.length ∧ kk = .int .i64 k ∧ Hid (∀ j (hj : j < l.length), j < k → l[j] ≠ s) ∧ Below w.heap.size w wr) (fun kk _ => l.length - (intOf kk).toNat)
  case atStart => exact ⟨0, Nat.zero_le _, rfl, fun j _ h => by omega, Below.refl _ _⟩
  case round =>
    obtain ⟨k, hk, rfl, hall, hbw⟩ := hrel
    by_cases hlt : k < l.length
    · obtain ⟨g, o, rfl, hgw, c0⟩ := HR.out.below hbw k hlt
      have hi0 : (0 : Int) ≤ (k : Int) := by omega
      have hi1 : (k : Int) < (l.length : Int) := by omega
      by_cases e : l[k] = s
      · have fin : Hid (AtIs l s (k : Int)) := Or.inr ⟨k, hlt, rfl, e, hall.out⟩
        have hq := txt_same e.symm
        clear e
        generalize l[k] = x at c0 hq
        go_wp2
        go_ret
        exact ⟨_, rfl, fin.out, hbw⟩
      · have hall2 : Hid (∀ j (hj : j < l.length), j < k + 1 → l[j] ≠ s) := by
          have : ∀ j (hj : j < l.length), j < k + 1 → l[j] ≠ s := by
            intro j hj hjk
            by_cases ej : j = k
            · subst ej; exact e
            · exact hall.out j hj (by omega)
          exact this
        have hq := txt_other (Ne.symm e)
        clear e
        generalize l[k] = x at c0 hq
        go_wp2
        go_roundw
        case rel => exact ⟨k + 1, by omega, by go_num, hall2, hbw⟩
        case measure => simp [intOf]; omega
    · have fin : Hid (AtIs l s (-1)) := Or.inl ⟨rfl, fun hmem => by
        obtain ⟨j, hj, e⟩ := List.getElem_of_mem hmem
        exact hall.out j hj (by omega) e⟩
      have hkl : k = l.length := by omega
      subst hkl
      have hnn : ¬ (l.length : Int) < (l.length : Int) := by omega
      go_wp2
      go_ret
      exact ⟨_, rfl, fin.out, hbw⟩

theorem contains_str (n : Nat) (a : Option Addr) (cap : Nat) (l : List ByteArray) (hn : l.length = n) (s : ByteArray) (w : World) (hrow : StrsAt w a l) (hm : n ≤ maxLen) (b : Bool) (hb : inB l s = b) :
    Calls Tryz.prog 72 #[.slice a n cap, .string s] w fun e w' => e = .returned (.bool b) ∧ Below w.heap.size w w' := by
  have HI : Hid (Calls Tryz.prog 138 #[.slice a n cap, .string s] w fun e w' => ∃ r, e = .returned (.int .i64 r) ∧ AtIs l s r ∧ Below w.heap.size w w') := index_str n a cap l hn s w hrow hm
  have HB : Hid (inB l s = b) := hb
  clear hrow hn hb
  go_enter Tryz.func72, Tryz.ntmps72
  go_wp2_with fail
  refine HI.out.mono ?_
  rintro e w1 ⟨r, rfl, hat, hb1⟩
  have HAT : Hid (AtIs l s r) := hat
  clear hat HI
  by_cases hr : 0 ≤ r
  · have e : b = true := by rw [← HB.out]; exact inB_iff.2 (HAT.out.neg.1 hr)
    subst e
    go_wp2
    go_ret
    exact ⟨by first | rfl | simp, hb1⟩
  · have e : b = false := by rw [← HB.out]; exact inB_no.2 (fun h => hr (HAT.out.neg.2 h))
    subst e
    go_wp2
    go_ret
    exact ⟨by first | rfl | (simp; done) | (simp; omega), hb1⟩

theorem nodup_snoc (l : List ByteArray) (k : Nat) (h : k < l.length) (h0 : (l.take k).Nodup) : (l.take (k + 1)).Nodup ↔ inB (l.take k) l[k] = false := by
  rw [List.take_succ_eq_append_getElem h, List.nodup_append, inB_no]
  constructor
  · rintro ⟨_, _, h4⟩ hm
    exact h4 _ hm _ (List.mem_singleton.2 rfl) rfl
  · intro hn
    exact ⟨h0, by simp, fun x hx y hy e => hn (by rw [List.mem_singleton] at hy; rw [← hy, ← e]; exact hx)⟩

set_option maxHeartbeats 2000000 in
theorem differ_impl (n : Nat) (a : Option Addr) (cap : Nat) (l : List ByteArray) (hn : l.length = n) (w : World) (hrow : StrsAt w a l) (hm : n ≤ maxLen) (hcap : n ≤ cap) (b : Bool) (hb : decide l.Nodup = b) :
    Calls Tryz.prog 216 #[.slice a n cap] w fun e w' => e = .returned (.bool b) ∧ Below w.heap.size w w' := by
  have HR : Hid (StrsAt w a l) := hrow
  have HB : Hid (decide l.Nodup = b) := hb
  have HN : Hid (l.length = n) := hn
  clear hrow hb hn
  unfold maxLen at hm
  go_enter Tryz.func216, Tryz.ntmps216
  go_wp2
  go_loopw [7] (fun kk wr => ∃ k : Nat, k ≤ n ∧ kk = .int .i64 k ∧ Hid ((l.take k).Nodup) ∧ Below w.heap.size w wr) (fun kk _ => n - (intOf kk).toNat)
  case atStart => exact ⟨0, Nat.zero_le _, rfl, List.nodup_nil, Below.refl _ _⟩
  case round =>
    obtain ⟨k, hk, rfl, hall, hbw⟩ := hrel
    by_cases hlt : k < n
    · have hlt' : k < l.length := by rw [HN.out]; exact hlt
      have HW : Hid (StrsAt wr a l) := HR.out.below hbw
      obtain ⟨g, o, rfl, hgw, c0⟩ := HW.out k hlt'
      have hi0 : (0 : Int) ≤ (k : Int) := by omega
      have hi1 : (k : Int) < (n : Int) := by omega
      have hkc : (k : Int) ≤ (cap : Int) := by omega
      have HS : Hid ((l.take (k + 1)).Nodup ↔ inB (l.take k) l[k] = false) := nodup_snoc l k hlt' hall.out
      have hno : Hid (inB (l.take k) l[k] = true → b = false) := by
        have : inB (l.take k) l[k] = true → b = false := by
          intro e
          rw [← HB.out, decide_eq_false_iff_not]
          intro h
          have := (nodup_snoc l k hlt' hall.out).1 (h.sublist (List.take_sublist _ _))
          rw [this] at e; cases e
        exact this
      have HT : Hid ((l.take k).length = k) := by
        have : (l.take k).length = k := by rw [List.length_take]; omega
        exact this
      obtain ⟨r, hr⟩ : ∃ r, inB (l.take k) l[k] = r := ⟨_, rfl⟩
      generalize l[k] = x at c0 HS hr hno
      have HRR : Hid (inB (l.take k) x = r) := hr
      clear hr
      go_wp2_with fail
      refine (contains_str k _ _ (l.take k) HT.out x _ (HW.out.take k) (by unfold maxLen; omega) r HRR.out).mono ?_
      rintro e wA ⟨rfl, hbA⟩
      cases r
      · go_wp2
        go_roundw
        case rel => exact ⟨k + 1, by omega, by go_num, HS.out.2 HRR.out, chain hbw hbA⟩
        case measure => simp [intOf]; omega
      · have e := hno.out HRR.out
        subst e
        go_wp2
        go_ret
        exact ⟨rfl, chain hbw hbA⟩
    · have hkl : k = n := by omega
      subst hkl
      have hnn : ¬ (k : Int) < (k : Int) := by omega
      have e : b = true := by
        rw [← HB.out, decide_eq_true_eq]
        have := hall.out
        rw [← HN.out, List.take_length] at this
        exact this
      subst e
      go_wp2
      go_ret
      exact ⟨rfl, hbw⟩

end Go.Proofs.YtegnekbbbfncgaaGreatDoor

/-
  The contracts of the program's questions whether a row fits, and whether a table is right.
-/
namespace Go.Proofs.YtegnekbbbfncgaaGreatDoor
open Go.ChangeShapes Go.WideShapes Go.ChangeAt Go.RowKit
attribute [local go_sem ↓] Go.wp_at_zero Go.wp_at_succ
attribute [local simp] World.cell?_alloc_past World.cell?_alloc_at World.frozen?_alloc_at cell_far cell_off cell_here World.frozen?_alloc_past

end Go.Proofs.YtegnekbbbfncgaaGreatDoor

/-
  Lists in heap order, without any program: what moves up or down one step keeps all but one place right, the first one is the least.
-/
namespace Go.Proofs.YtegnekbbbfncgaaGreatDoor

/-- A strict order in which of two one is less, or they are one. -/
structure Strict (lt : Nat → Nat → Bool) (n : Nat) : Prop where
  irr : ∀ a, lt a a = false
  tri : ∀ a b, a < n → b < n → lt a b = false → lt b a = false → a = b
  trans : ∀ a b c, lt a b = true → lt b c = true → lt a c = true

theorem Strict.asym {lt : Nat → Nat → Bool} {n : Nat} (S : Strict lt n) {a b : Nat} (h : lt a b = true) : lt b a = false := by
  cases hb : lt b a with
  | false => rfl
  | true => have := S.trans a b a h hb; rw [S.irr] at this; cases this
/-- What is not less, twice. -/
theorem Strict.neg {lt : Nat → Nat → Bool} {n : Nat} (S : Strict lt n) {a b c : Nat} (ha : a < n) (hb : b < n) (h1 : lt a b = false) (h2 : lt b c = false) : lt a c = false := by
  cases hc : lt a c with
  | false => rfl
  | true =>
    cases hba : lt b a with
    | true => have := S.trans b a c hba hc; rw [h2] at this; cases this
    | false => have e := S.tri a b ha hb h1 hba; subst e; rw [h2] at hc; cases hc

/-- The first n are in heap order. -/
def Heap (lt : Nat → Nat → Bool) (s : List Nat) (n : Nat) : Prop := ∀ i, 0 < i → i < n → lt (s.getD i 0) (s.getD ((i - 1) / 2) 0) = false
/-- So are they but for place j, which may be too low. -/
def UpAt (lt : Nat → Nat → Bool) (s : List Nat) (n j : Nat) : Prop :=
  (∀ i, 0 < i → i < n → i ≠ j → lt (s.getD i 0) (s.getD ((i - 1) / 2) 0) = false) ∧
  (∀ i, 0 < i → i < n → (i - 1) / 2 = j → 0 < j → lt (s.getD i 0) (s.getD ((j - 1) / 2) 0) = false)
/-- So are they but for place j, which may be too high. -/
def DownAt (lt : Nat → Nat → Bool) (s : List Nat) (n j : Nat) : Prop :=
  (∀ i, 0 < i → i < n → (i - 1) / 2 ≠ j → lt (s.getD i 0) (s.getD ((i - 1) / 2) 0) = false) ∧
  (∀ i, 0 < i → i < n → (i - 1) / 2 = j → 0 < j → lt (s.getD i 0) (s.getD ((j - 1) / 2) 0) = false)

/-- Two change places. -/
def swap {α : Type} (d : α) (s : List α) (i j : Nat) : List α := (s.set i (s.getD j d)).set j (s.getD i d)
theorem swap_length {α : Type} (d : α) (s : List α) (i j : Nat) : (swap d s i j).length = s.length := by simp [swap]
theorem swap_getD {α : Type} (d : α) (s : List α) (i j k : Nat) (hi : i < s.length) (hj : j < s.length) : (swap d s i j).getD k d = if k = j then s.getD i d else if k = i then s.getD j d else s.getD k d := by
  unfold swap
  simp only [List.getD_eq_getElem?_getD, List.getElem?_set, List.length_set]
  by_cases h1 : j = k
  · subst h1; simp [hj]
  · by_cases h2 : i = k
    · subst h2; simp [h1, hi, Ne.symm h1]
    · simp [h1, h2, Ne.symm h1, Ne.symm h2]
theorem mem_lt {s : List Nat} {N i : Nat} (h : ∀ x ∈ s, x < N) (hi : i < s.length) : s.getD i 0 < N := by
  have : s.getD i 0 ∈ s := by simp [List.getD, List.getElem?_eq_getElem hi]
  exact h _ this

theorem UpAt.start {lt : Nat → Nat → Bool} {s : List Nat} {n : Nat} (h : Heap lt s n) : UpAt lt s (n + 1) n :=
  ⟨fun i h0 hi hne => h i h0 (by omega), fun i h0 hi hp hj => by omega⟩
theorem UpAt.done {lt : Nat → Nat → Bool} {s : List Nat} {n j : Nat} (h : UpAt lt s n j) (hj : lt (s.getD j 0) (s.getD ((j - 1) / 2) 0) = false) : Heap lt s n := by
  intro i h0 hi
  by_cases e : i = j
  · subst e; exact hj
  · exact h.1 i h0 hi e
theorem UpAt.step {lt : Nat → Nat → Bool} {s : List Nat} {n j N : Nat} (S : Strict lt N) (hs : ∀ x ∈ s, x < N) (hn : n ≤ s.length) (hjn : j < n) (h0 : 0 < j) (h : UpAt lt s n j) (hj : lt (s.getD j 0) (s.getD ((j - 1) / 2) 0) = true) :
    UpAt lt (swap 0 s ((j - 1) / 2) j) n ((j - 1) / 2) := by
  obtain ⟨p, hp⟩ : ∃ p, (j - 1) / 2 = p := ⟨_, rfl⟩
  rw [hp] at hj ⊢
  have hpj : p < j := by omega
  have hpl : p < s.length := by omega
  have hjl : j < s.length := by omega
  obtain ⟨A, B⟩ := h
  refine ⟨fun i i0 hi hne => ?_, fun i i0 hi hpar hp0 => ?_⟩
  · rw [swap_getD _ _ _ _ _ hpl hjl, swap_getD _ _ _ _ _ hpl hjl]
    by_cases e1 : i = j
    · subst e1
      rw [if_pos rfl, hp, if_neg (by omega), if_pos rfl]
      exact S.asym hj
    · rw [if_neg e1, if_neg hne]
      have A1 := A i i0 hi e1
      by_cases e2 : (i - 1) / 2 = j
      · rw [if_pos e2]
        have := B i i0 hi e2 h0
        rwa [hp] at this
      · rw [if_neg e2]
        by_cases e3 : (i - 1) / 2 = p
        · rw [if_pos e3]
          rw [e3] at A1
          cases hc : lt (s.getD i 0) (s.getD j 0) with
          | false => rfl
          | true => have := S.trans _ _ _ hc hj; rw [A1] at this; cases this
        · rw [if_neg e3]; exact A1
  · have App := A p hp0 (by omega) (by omega)
    rw [swap_getD _ _ _ _ _ hpl hjl, swap_getD _ _ _ _ _ hpl hjl, if_neg (by omega : ¬ (p - 1) / 2 = j), if_neg (by omega : ¬ (p - 1) / 2 = p)]
    by_cases e1 : i = j
    · rw [if_pos e1]; exact App
    · rw [if_neg e1, if_neg (by omega)]
      have A1 := A i i0 hi e1
      rw [hpar] at A1
      exact S.neg (mem_lt hs (by omega)) (mem_lt hs (by omega)) A1 App

theorem DownAt.start {lt : Nat → Nat → Bool} {s s' : List Nat} {n : Nat} (h : Heap lt s (n + 1)) (hs : ∀ i, 0 < i → i < n → s'.getD i 0 = s.getD i 0) : DownAt lt s' n 0 := by
  refine ⟨fun i h0 hi hne => ?_, fun i h0 hi hp hj => by omega⟩
  rw [hs i h0 hi, hs _ (by omega) (by omega)]
  exact h i h0 (by omega)
theorem DownAt.done {lt : Nat → Nat → Bool} {s : List Nat} {n j : Nat} (h : DownAt lt s n j) (h1 : 2 * j + 1 < n → lt (s.getD (2 * j + 1) 0) (s.getD j 0) = false) (h2 : 2 * j + 2 < n → lt (s.getD (2 * j + 2) 0) (s.getD j 0) = false) : Heap lt s n := by
  intro i h0 hi
  by_cases e : (i - 1) / 2 = j
  · rcases (show i = 2 * j + 1 ∨ i = 2 * j + 2 by omega) with rfl | rfl
    · rw [e]; exact h1 hi
    · rw [e]; exact h2 hi
  · exact h.1 i h0 hi e
/-- The lesser one c of those below j goes up. -/
theorem DownAt.step {lt : Nat → Nat → Bool} {s : List Nat} {n j c N : Nat} (S : Strict lt N) (hn : n ≤ s.length) (hc : c < n) (hcj : c = 2 * j + 1 ∨ c = 2 * j + 2) (h : DownAt lt s n j)
    (hl : lt (s.getD c 0) (s.getD j 0) = true) (hleast : ∀ d, d = 2 * j + 1 ∨ d = 2 * j + 2 → d < n → lt (s.getD d 0) (s.getD c 0) = false) :
    DownAt lt (swap 0 s j c) n c := by
  have hjl : j < s.length := by omega
  have hcl : c < s.length := by omega
  obtain ⟨A, B⟩ := h
  refine ⟨fun i i0 hi hne => ?_, fun i i0 hi hpar hp0 => ?_⟩
  · rw [swap_getD _ _ _ _ _ hjl hcl, swap_getD _ _ _ _ _ hjl hcl, if_neg hne]
    by_cases e1 : i = c
    · rw [if_pos e1, if_pos (by omega)]
      exact S.asym hl
    · rw [if_neg e1]
      by_cases e2 : i = j
      · rw [if_pos e2, if_neg (by omega)]
        have := B c (by omega) hc (by omega) (by omega)
        rwa [e2]
      · rw [if_neg e2]
        by_cases e3 : (i - 1) / 2 = j
        · rw [if_pos e3]; exact hleast i (by omega) hi
        · rw [if_neg e3]; exact A i i0 hi e3
  · have Ai := A i i0 hi (by omega)
    rw [swap_getD _ _ _ _ _ hjl hcl, swap_getD _ _ _ _ _ hjl hcl, if_neg (by omega), if_neg (by omega), if_neg (by omega), if_pos (by omega)]
    rw [hpar] at Ai; exact Ai

/-- Of a heap the first one is the least. -/
theorem Heap.least {lt : Nat → Nat → Bool} {s : List Nat} {n N : Nat} (S : Strict lt N) (hs : ∀ x ∈ s, x < N) (hn : n ≤ s.length) (h : Heap lt s n) : ∀ k i, i ≤ k → i < n → lt (s.getD i 0) (s.getD 0 0) = false := by
  intro k
  induction k with
  | zero => intro i hi hin; have : i = 0 := by omega
            subst this; exact S.irr _
  | succ k ih =>
    intro i hi hin
    by_cases e : i = 0
    · subst e; exact S.irr _
    · exact S.neg (mem_lt hs (by omega)) (mem_lt hs (by omega)) (h i (by omega) hin) (ih _ (by omega) (by omega))

/-- In order, and all there: there is but one such list. -/
theorem one_order {lt : Nat → Nat → Bool} {N : Nat} (S : Strict lt N) {a b : List Nat} (ha : a.Perm (List.range N)) (hb : b.Perm (List.range N)) (pa : a.Pairwise (fun x y => lt y x = false)) (pb : b.Pairwise (fun x y => lt y x = false)) : a = b := by
  refine List.Perm.eq_of_pairwise (le := fun x y => lt y x = false) ?_ pa pb (ha.trans hb.symm)
  intro x y hx hy h1 h2
  have hx' : x < N := by simpa using (ha.mem_iff.1 hx)
  have hy' : y < N := by simpa using (hb.mem_iff.1 hy)
  exact S.tri x y hx' hy' h2 h1

end Go.Proofs.YtegnekbbbfncgaaGreatDoor

/-
  The order of cells: of two that are unlike just one is less; what is less than less is less; three answers of one comparison.
-/
namespace Go.Proofs.YtegnekbbbfncgaaGreatDoor

/-- Held against each other: below 0, 0, or above. -/
def cmpI (x y : Int) : Int := if x < y then -1 else if y < x then 1 else 0
def cmpS (s u : ByteArray) : Int := if Op.bytesLess s.toList u.toList = true then -1 else if Op.bytesLess u.toList s.toList = true then 1 else 0
/-- The first that is not 0. -/
def or3 (a b c : Int) : Int := if a ≠ 0 then a else if b ≠ 0 then b else c
def cmpC (k1 n1 : Int) (t1 : ByteArray) (k2 n2 : Int) (t2 : ByteArray) : Int := or3 (cmpI k1 k2) (cmpI n1 n2) (cmpS t1 t2)

theorem bl_irr (s : ByteArray) : Op.bytesLess s.toList s.toList = false := by
  rw [bytesLess_eq]; simp
theorem bl_asym {s u : ByteArray} (h : Op.bytesLess s.toList u.toList = true) : Op.bytesLess u.toList s.toList = false := by
  rw [bytesLess_eq] at h ⊢
  simp only [decide_eq_true_eq, decide_eq_false_iff_not] at h ⊢
  exact List.lt_asymm h
theorem bl_trans {s u v : ByteArray} (h : Op.bytesLess s.toList u.toList = true) (k : Op.bytesLess u.toList v.toList = true) : Op.bytesLess s.toList v.toList = true := by
  rw [bytesLess_eq] at h k ⊢
  simp only [decide_eq_true_eq] at h k ⊢
  exact List.lt_trans h k
theorem bl_tri {s u : ByteArray} (h : Op.bytesLess s.toList u.toList = false) (k : Op.bytesLess u.toList s.toList = false) : s = u := by
  rw [bytesLess_eq] at h k
  simp only [decide_eq_false_iff_not] at h k
  exact bytes_eq (List.le_antisymm k h)

theorem cmpI_neg (x y : Int) : cmpI y x = - cmpI x y := by
  unfold cmpI
  by_cases h1 : x < y
  · rw [if_neg (by omega), if_pos h1, if_pos h1]; rfl
  · by_cases h2 : y < x
    · rw [if_pos h2, if_neg h1, if_pos h2]
    · rw [if_neg h2, if_neg h1, if_neg h1, if_neg h2]; rfl
theorem cmpS_neg (s u : ByteArray) : cmpS u s = - cmpS s u := by
  unfold cmpS
  cases h1 : Op.bytesLess s.toList u.toList
  · cases h2 : Op.bytesLess u.toList s.toList <;> simp
  · simp [bl_asym h1]
theorem cmpC_neg (k1 n1 : Int) (t1 : ByteArray) (k2 n2 : Int) (t2 : ByteArray) : cmpC k2 n2 t2 k1 n1 t1 = - cmpC k1 n1 t1 k2 n2 t2 := by
  unfold cmpC or3
  rw [cmpI_neg k1 k2, cmpI_neg n1 n2, cmpS_neg t1 t2]
  by_cases h1 : cmpI k1 k2 = 0 <;> by_cases h2 : cmpI n1 n2 = 0 <;> simp [h1, h2]
theorem cmpI_lt (x y : Int) : cmpI x y < 0 ↔ x < y := by
  unfold cmpI; split
  · omega
  · split <;> omega
theorem cmpI_zero (x y : Int) : cmpI x y = 0 ↔ x = y := by
  unfold cmpI; split
  · omega
  · split <;> omega
theorem cmpS_lt (s u : ByteArray) : cmpS s u < 0 ↔ Op.bytesLess s.toList u.toList = true := by
  unfold cmpS; split
  · rename_i h; simp [h]
  · rename_i h; split <;> simp [h]
theorem cmpS_zero (s u : ByteArray) : cmpS s u = 0 ↔ s = u := by
  unfold cmpS
  cases h1 : Op.bytesLess s.toList u.toList
  · cases h2 : Op.bytesLess u.toList s.toList
    · simp [bl_tri h1 h2]
    · simp; intro e; rw [e, bl_irr] at h2; cases h2
  · simp; intro e; rw [e, bl_irr] at h1; cases h1

theorem less_cmp (k1 n1 : Int) (t1 : ByteArray) (k2 n2 : Int) (t2 : ByteArray) : lessB k1 n1 t1 k2 n2 t2 = decide (cmpC k1 n1 t1 k2 n2 t2 < 0) := by
  unfold lessB cmpC or3
  by_cases h1 : k1 = k2
  · have e1 : ¬ cmpI k1 k2 ≠ 0 := fun e => e ((cmpI_zero k1 k2).2 h1)
    rw [if_neg (by simp [h1]), if_neg e1]
    by_cases h2 : n1 = n2
    · have e2 : ¬ cmpI n1 n2 ≠ 0 := fun e => e ((cmpI_zero n1 n2).2 h2)
      rw [if_neg (by simp [h2]), if_neg e2]
      have := cmpS_lt t1 t2
      cases h : Op.bytesLess t1.toList t2.toList <;> rw [h] at this <;> simp at this <;> simp [this]
    · have e2 : cmpI n1 n2 ≠ 0 := fun e => h2 ((cmpI_zero n1 n2).1 e)
      rw [if_pos (by simp [h2]), if_pos e2, decide_eq_decide.2 (cmpI_lt n1 n2)]
  · have e1 : cmpI k1 k2 ≠ 0 := fun e => h1 ((cmpI_zero k1 k2).1 e)
    rw [if_pos (by simp [h1]), if_pos e1, decide_eq_decide.2 (cmpI_lt k1 k2)]
theorem cmpC_zero (k1 n1 : Int) (t1 : ByteArray) (k2 n2 : Int) (t2 : ByteArray) : cmpC k1 n1 t1 k2 n2 t2 = 0 ↔ k1 = k2 ∧ n1 = n2 ∧ t1 = t2 := by
  unfold cmpC or3
  by_cases h1 : cmpI k1 k2 = 0
  · have e1 := (cmpI_zero k1 k2).1 h1
    rw [if_neg (Decidable.not_not.2 h1)]
    by_cases h2 : cmpI n1 n2 = 0
    · have e2 := (cmpI_zero n1 n2).1 h2
      rw [if_neg (Decidable.not_not.2 h2), cmpS_zero]
      exact ⟨fun h => ⟨e1, e2, h⟩, fun h => h.2.2⟩
    · have e2 : ¬ n1 = n2 := fun e => h2 ((cmpI_zero n1 n2).2 e)
      rw [if_pos h2]
      exact ⟨fun h => absurd h h2, fun h => absurd h.2.1 e2⟩
  · have e1 : ¬ k1 = k2 := fun e => h1 ((cmpI_zero k1 k2).2 e)
    rw [if_pos h1]
    exact ⟨fun h => absurd h h1, fun h => absurd h.1 e1⟩

abbrev CT3 := Int × Int × ByteArray
/-- The same of two cells. -/
def lessC (x y : CT3) : Bool := lessB x.1 x.2.1 x.2.2 y.1 y.2.1 y.2.2
theorem lessC_irr (x : CT3) : lessC x x = false := by
  unfold lessC; rw [less_cmp, (cmpC_zero _ _ _ _ _ _).2 ⟨rfl, rfl, rfl⟩]; rfl
theorem lessC_tri {x y : CT3} (h : lessC x y = false) (k : lessC y x = false) : x = y := by
  obtain ⟨a, b, c⟩ := x
  obtain ⟨d, e, f⟩ := y
  unfold lessC at h k
  rw [less_cmp] at h k
  rw [cmpC_neg a b c d e f] at k
  simp only [decide_eq_false_iff_not] at h k
  obtain ⟨rfl, rfl, rfl⟩ := (cmpC_zero a b c d e f).1 (by omega)
  rfl
theorem lessC_trans {x y z : CT3} (h : lessC x y = true) (k : lessC y z = true) : lessC x z = true := by
  obtain ⟨a, b, c⟩ := x
  obtain ⟨d, e, f⟩ := y
  obtain ⟨g, i, j⟩ := z
  unfold lessC lessB at *
  dsimp only at *
  by_cases h1 : a = d
  · subst h1
    by_cases k1 : a = g
    · subst k1
      simp only [bne_self_eq_false, Bool.false_eq_true, if_false] at h k ⊢
      by_cases h2 : b = e
      · subst h2
        by_cases k2 : b = i
        · subst k2
          simp only [bne_self_eq_false, Bool.false_eq_true, if_false] at h k ⊢
          exact bl_trans h k
        · simp [k2] at k ⊢; exact k
      · by_cases k2 : e = i
        · subst k2; simp [h2] at h ⊢; exact h
        · simp [h2] at h
          simp [k2] at k
          simp [show ¬ b = i by omega]; omega
    · simp [k1] at k ⊢; exact k
  · by_cases k1 : d = g
    · subst k1; simp [h1] at h ⊢; exact h
    · simp [h1] at h
      simp [k1] at k
      simp [show ¬ a = g by omega]; omega
theorem lessC_asym {x y : CT3} (h : lessC x y = true) : lessC y x = false := by
  cases k : lessC y x with
  | false => rfl
  | true => have := lessC_trans h k; rw [lessC_irr] at this; cases this

/-- By a cell of each, up or down, then by place. -/
def placeLt (key : Nat → CT3) (down : Bool) (i j : Nat) : Bool :=
  if lessC (key i) (key j) = true then !down else if lessC (key j) (key i) = true then down else decide (i < j)
theorem placeLt_strict (key : Nat → CT3) (down : Bool) (n : Nat) : Strict (placeLt key down) n where
  irr a := by simp [placeLt, lessC_irr]
  tri a b _ _ h k := by
    unfold placeLt at h k
    cases h1 : lessC (key a) (key b)
    · cases h2 : lessC (key b) (key a)
      · simp [h1, h2] at h k; omega
      · rw [h1] at h k; rw [h2] at h k; cases down <;> simp at h k
    · have h2 := lessC_asym h1
      rw [h1] at h k; rw [h2] at h k; cases down <;> simp at h k
  trans a b c h k := by
    unfold placeLt at *
    cases h1 : lessC (key a) (key b)
    · cases h2 : lessC (key b) (key a)
      · have e := lessC_tri h1 h2
        rw [h1, h2] at h
        rw [e]
        cases h3 : lessC (key b) (key c)
        · cases h4 : lessC (key c) (key b)
          · simp [h3, h4] at h k ⊢; omega
          · simp [h3, h4] at h k ⊢; exact k
        · simp [h3] at k ⊢; exact k
      · rw [h1, h2] at h
        simp at h
        subst h
        cases h3 : lessC (key b) (key c)
        · cases h4 : lessC (key c) (key b)
          · have e := lessC_tri h3 h4
            rw [← e]; simp [h1, h2]
          · have := lessC_trans h4 h2
            simp [this, lessC_asym this]
        · simp [h3] at k
    · rw [h1] at h
      simp at h
      subst h
      cases h3 : lessC (key b) (key c)
      · cases h4 : lessC (key c) (key b)
        · have e := lessC_tri h3 h4
          rw [← e]; simp [h1]
        · simp [h3, h4] at k
      · have := lessC_trans h1 h3
        simp [this]

end Go.Proofs.YtegnekbbbfncgaaGreatDoor

/-
  Places put in order one by one, without any program: what is moved towards the front, and when all is in order.
-/
namespace Go.Proofs.YtegnekbbbfncgaaGreatDoor

/-- The first m are in order. -/
def SortedTo (lt : Nat → Nat → Bool) (p : List Nat) (m : Nat) : Prop := ∀ x y, x < y → y < m → lt (p.getD y 0) (p.getD x 0) = false
/-- So are those up to i but for place k, which may be too far behind. -/
def InsAt (lt : Nat → Nat → Bool) (p : List Nat) (i k : Nat) : Prop :=
  (∀ x y, x < y → y ≤ i → x ≠ k → y ≠ k → lt (p.getD y 0) (p.getD x 0) = false) ∧ (∀ y, k < y → y ≤ i → lt (p.getD y 0) (p.getD k 0) = false)
/-- Who stands where: i at place k, lesser ones up to i, and behind it each one at its own. -/
def PlAt (p : List Nat) (n i k : Nat) : Prop := p.getD k 0 = i ∧ (∀ x, x ≤ i → x ≠ k → p.getD x 0 < i) ∧ (∀ x, i < x → x < n → p.getD x 0 = x)

theorem InsAt.start {lt : Nat → Nat → Bool} {p : List Nat} {i : Nat} (h : SortedTo lt p i) : InsAt lt p i i :=
  ⟨fun x y hxy hy _ hyk => h x y hxy (by omega), fun y h1 h2 => by omega⟩
theorem InsAt.done {lt : Nat → Nat → Bool} {p : List Nat} {i k N : Nat} (S : Strict lt N) (hp : ∀ x ∈ p, x < N) (hi : i < p.length) (hk : k ≤ i) (h : InsAt lt p i k) (hd : k = 0 ∨ lt (p.getD k 0) (p.getD (k - 1) 0) = false) : SortedTo lt p (i + 1) := by
  intro x y hxy hy
  by_cases e1 : x = k
  · subst e1; exact h.2 y hxy (by omega)
  · by_cases e2 : y = k
    · subst e2
      rcases hd with rfl | hd
      · omega
      · by_cases e3 : x = y - 1
        · subst e3; exact hd
        · exact S.neg (mem_lt hp (by omega)) (mem_lt hp (by omega)) hd (h.1 x (y - 1) (by omega) (by omega) (by omega) (by omega))
    · exact h.1 x y hxy (by omega) e1 e2
theorem InsAt.step {lt : Nat → Nat → Bool} {p : List Nat} {i k N : Nat} (S : Strict lt N) (hi : i < p.length) (hk : k ≤ i) (h0 : 0 < k) (h : InsAt lt p i k) (hl : lt (p.getD k 0) (p.getD (k - 1) 0) = true) : InsAt lt (swap 0 p (k - 1) k) i (k - 1) := by
  have h1 : k - 1 < p.length := by omega
  have h2 : k < p.length := by omega
  refine ⟨fun x y hxy hy hx hyk => ?_, fun y hy hyi => ?_⟩
  · rw [swap_getD _ _ _ _ _ h1 h2, swap_getD _ _ _ _ _ h1 h2, if_neg hx, if_neg hyk]
    by_cases e1 : y = k
    · subst e1
      rw [if_pos rfl, if_neg (by omega)]
      exact h.1 x (y - 1) (by omega) (by omega) (by omega) (by omega)
    · rw [if_neg e1]
      by_cases e2 : x = k
      · subst e2
        rw [if_pos rfl]
        exact h.1 (x - 1) y (by omega) (by omega) (by omega) (by omega)
      · rw [if_neg e2]
        exact h.1 x y hxy hy e2 e1
  · rw [swap_getD _ _ _ _ _ h1 h2, swap_getD _ _ _ _ _ h1 h2, if_neg (by omega : ¬ k - 1 = k), if_pos rfl]
    by_cases e1 : y = k
    · subst e1
      rw [if_pos rfl]
      exact S.asym hl
    · rw [if_neg e1, if_neg (by omega)]
      exact h.2 y (by omega) hyi
theorem PlAt.step {p : List Nat} {n i k : Nat} (hi : i < p.length) (hk : k ≤ i) (h0 : 0 < k) (h : PlAt p n i k) : PlAt (swap 0 p (k - 1) k) n i (k - 1) := by
  have h1 : k - 1 < p.length := by omega
  have h2 : k < p.length := by omega
  refine ⟨?_, fun x hx hxk => ?_, fun x hx hxn => ?_⟩
  · rw [swap_getD _ _ _ _ _ h1 h2, if_neg (by omega), if_pos rfl]; exact h.1
  · rw [swap_getD _ _ _ _ _ h1 h2]
    by_cases e1 : x = k
    · rw [if_pos e1]; exact h.2.1 (k - 1) (by omega) (by omega)
    · rw [if_neg e1, if_neg hxk]; exact h.2.1 x hx e1
  · rw [swap_getD _ _ _ _ _ h1 h2, if_neg (by omega), if_neg (by omega)]; exact h.2.2 x hx hxn

/-- The cell of a row by which it is put in order. -/
def keyOf (L : List (List CT3)) (at_ : Int) (i : Nat) : CT3 := (L.getD i []).getD at_.toNat (0, 0, ⟨#[]⟩)
/-- Has each row that place? -/
def Reach (L : List (List CT3)) (at_ : Int) : Prop := ∀ i (h : i < L.length), 0 ≤ at_ ∧ at_ < (L[i].length : Int)
/-- The places of the rows in the order that is asked for; as they are where one has no such place. -/
structure IsOrder (L : List (List CT3)) (at_ : Int) (down : Bool) (p : List Nat) : Prop where
  perm : p.Perm (List.range L.length)
  inOrder : Reach L at_ → p.Pairwise (fun x y => placeLt (keyOf L at_) down y x = false)
  asTheyAre : ¬ Reach L at_ → p = List.range L.length
theorem IsOrder.one {L : List (List CT3)} {at_ : Int} {down : Bool} {p q : List Nat} (h : IsOrder L at_ down p) (k : IsOrder L at_ down q) : p = q := by
  by_cases hr : Reach L at_
  · exact one_order (placeLt_strict (keyOf L at_) down L.length) h.perm k.perm (h.inOrder hr) (k.inOrder hr)
  · rw [h.asTheyAre hr, k.asTheyAre hr]

/-- The rows at these places. -/
def rowsOf (L : List (List CT3)) (p : List Nat) : List (List CT3) := p.map fun i => L.getD i []
end Go.Proofs.YtegnekbbbfncgaaGreatDoor

/-
  The contract of the model's Sorted: rows in new memory, in the order of their places that is asked for.
-/
namespace Go.Proofs.YtegnekbbbfncgaaGreatDoor
open Go.ChangeShapes Go.WideShapes Go.ChangeAt Go.RowKit
attribute [local go_sem ↓] Go.wp_at_zero Go.wp_at_succ

/-- Where one comes from when two change places. -/
def sw (i j k : Nat) : Nat := if k = j then i else if k = i then j else k
theorem sw_lt {i j k n : Nat} (hi : i < n) (hj : j < n) (hk : k < n) : sw i j k < n := by unfold sw; split <;> (try split) <;> omega
theorem sw_inj {i j a b : Nat} (h : sw i j a = sw i j b) : a = b := by
  unfold sw at h
  split at h <;> split at h <;> (try split at h) <;> (try split at h) <;> omega
theorem swap_sw {α : Type} (d : α) (s : List α) (i j k : Nat) (hi : i < s.length) (hj : j < s.length) : (swap d s i j).getD k d = s.getD (sw i j k) d := by
  rw [swap_getD _ _ _ _ _ hi hj]; unfold sw
  split
  · rfl
  · split <;> rfl

/-- Two heads change places. -/
theorem OwnRows.swap {w : World} {base g c : Nat} {L : List (List CT)} {G C : Nat → Nat} (h : OwnRows w base (.slice (some ⟨g, 0, none⟩) L.length c) L G C) (i j : Nat) (hi : i < L.length) (hj : j < L.length) (hij : i ≠ j) :
    OwnRows ((w.setCell ⟨g, j, none⟩ (headOf G C L i)).setCell ⟨g, i, none⟩ (headOf G C L j)) base (.slice (some ⟨g, 0, none⟩) L.length c) (swap [] L i j) (fun k => G (sw i j k)) (fun k => C (sw i j k)) := by
  have s1 := h.outer.stored j (headOf G C L i)
  have s2 := s1.1.stored i (headOf G C L j)
  have hh : ∀ k, headOf (fun k => G (sw i j k)) (fun k => C (sw i j k)) (Go.Proofs.YtegnekbbbfncgaaGreatDoor.swap [] L i j) k = headOf G C L (sw i j k) := by
    intro k; simp only [headOf, swap_sw [] L i j k hi hj]
  refine ⟨?_, ?_, ?_⟩
  · rw [swap_length]
    have e : ((List.range L.length).map (headOf (fun k => G (sw i j k)) (fun k => C (sw i j k)) (Go.Proofs.YtegnekbbbfncgaaGreatDoor.swap [] L i j))) = (((List.range L.length).map (headOf G C L)).set j (headOf G C L i)).set i (headOf G C L j) := by
      apply List.ext_getElem
      · simp
      · intro k h1 h2
        have hk : k < L.length := by simpa using h1
        simp only [List.getElem_map, List.getElem_range, List.getElem_set]
        rw [hh]
        unfold sw
        by_cases e1 : k = j
        · subst e1; simp [hij]
        · by_cases e2 : k = i
          · subst e2; simp [e1]
          · simp [e1, e2, Ne.symm e1, Ne.symm e2]
    rw [e]; exact s2.1
  · intro k hk
    rw [swap_length] at hk
    rw [hh, swap_sw [] L i j k hi hj]
    have hin := h.inner (sw i j k) (sw_lt hi hj hk)
    have hne : (headOf G C L (sw i j k)).ownBlock ≠ some g := by
      simp only [headOf, Value.ownBlock]
      intro e
      exact own_other h.outer (h.inner (sw i j k) (sw_lt hi hj hk)) (by decide) (by simp only [Value.ownBlock]; exact e.symm)
    exact (hin.kept s1.2 (.inr hne)).kept s2.2 (.inr hne)
  · intro a b ha hb hab
    rw [swap_length] at ha hb
    exact h.apart _ _ (sw_lt hi hj ha) (sw_lt hi hj hb) (fun e => hab (sw_inj e))

/-- Rows in the order of these places, in memory of their own. -/
def Laid (w : World) (base g c : Nat) (L : List (List CT)) (p : List Nat) : Prop := ∃ G C, OwnRows w base (.slice (some ⟨g, 0, none⟩) L.length c) (rowsOf L p) G C
theorem Laid.below {w w' : World} {base g c : Nat} {L : List (List CT)} {p : List Nat} (h : Laid w base g c L p) (hb : Below w.heap.size w w') : Laid w' base g c L p := by
  obtain ⟨G, C, h⟩ := h
  exact ⟨G, C, h.below hb⟩

end Go.Proofs.YtegnekbbbfncgaaGreatDoor
