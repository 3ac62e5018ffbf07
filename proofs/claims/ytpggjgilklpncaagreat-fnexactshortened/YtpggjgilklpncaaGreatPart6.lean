/-
  A part of the proof: Tabs1, Rank1, HeapMath, Order.
-/
import Derived.Test.YtpggjgilklpncaaGreatPart5
import Derived.Test.YtpggjgilklpncaaGreatPart2
import Derived.WalkKit
import Derived.Sort.Walk0

/-
  Lists of tables: how a slice of tables lies in memory, and the contracts of the law's helpers that measure one and hold two that are one against each other.
-/
namespace Go.Proofs.YtpggjgilklpncaaGreat
open Go.ChangeShapes Go.WideShapes Go.ChangeAt Go.RowKit
attribute [local go_sem ↓] Go.wp_at_zero Go.wp_at_succ

/-- The tables of a slice lie where it says. -/
def TabsAt (w : World) (a : Option Addr) (T : List TB) : Prop :=
  ∀ i (h : i < T.length), ∃ b o ca cc ra cr, a = some ⟨b, o, none⟩ ∧ b < w.heap.size ∧ w.cell? ⟨b, o + i * 3, none⟩ = some (.string T[i].1) ∧ w.cell? ⟨b, o + i * 3 + 1, none⟩ = some (.slice ca T[i].2.1.length cc) ∧ w.cell? ⟨b, o + i * 3 + 2, none⟩ = some (.slice ra T[i].2.2.length cr) ∧ TabAt w ca cc ra T[i]
theorem TabsAt.below {w w' : World} {a : Option Addr} {T : List TB} (h : TabsAt w a T) (hb : Below w.heap.size w w') : TabsAt w' a T := by
  intro i hi
  obtain ⟨b, o, ca, cc, ra, cr, ha, hlt, h0, h1, h2, h3⟩ := h i hi
  refine ⟨b, o, ca, cc, ra, cr, ha, Nat.lt_of_lt_of_le hlt hb.size, ?_, ?_, ?_, h3.below hb⟩
  · rw [hb.cell (p := ⟨b, _, none⟩) hlt]; exact h0
  · rw [hb.cell (p := ⟨b, _, none⟩) hlt]; exact h1
  · rw [hb.cell (p := ⟨b, _, none⟩) hlt]; exact h2

/-- What is left of a measure behind the tables of a list, one by one; -1 where it does not last. -/
def leftTs : List TB → Int → Int
  | [], left => left
  | t :: T, left => if leftT t left < 0 then -1 else leftTs T (leftT t left)
/-- What is left of a measure behind a list of tables. -/
def leftTS (T : List TB) (left : Int) : Int := if left < (T.length : Int) then -1 else leftTs T (left - T.length)
theorem leftOfS_le (C : List ByteArray) (x : Int) (h : 0 ≤ leftOfS C x) : leftOfS C x ≤ x := by
  unfold leftOfS at h ⊢; split <;> omega
theorem leftOfs_le (L : List (List CT)) (x : Int) (h : 0 ≤ leftOfs L x) : leftOfs L x ≤ x := by
  unfold leftOfs at h ⊢; split <;> omega
theorem leftT_le (t : TB) (x : Int) (h : 0 ≤ leftT t x) : leftT t x ≤ x := by
  unfold leftT at h ⊢
  by_cases h1 : x < (t.1.size : Int)
  · rw [if_pos h1] at h; omega
  rw [if_neg h1] at h ⊢
  by_cases h2 : leftOfS t.2.1 (x - t.1.size) < 0
  · rw [if_pos h2] at h; omega
  rw [if_neg h2] at h ⊢
  by_cases h3 : leftOfs t.2.2 (leftOfS t.2.1 (x - t.1.size)) < 0
  · rw [if_pos h3] at h; omega
  rw [if_neg h3] at h ⊢
  have := leftOfS_le t.2.1 (x - t.1.size) (by omega)
  have := leftOfs_le t.2.2 _ h
  omega
theorem leftTs_fit {T : List TB} {left : Int} (h1 : left ≤ 1048576) (h : 0 ≤ leftTs T left) : ∀ i (hi : i < T.length), ∃ x, x ≤ 1048576 ∧ 0 ≤ leftT T[i] x := by
  induction T generalizing left with
  | nil => intro i hi; simp at hi
  | cons t T ih =>
    unfold leftTs at h
    split at h
    · omega
    rename_i hn
    intro i hi
    cases i with
    | zero => exact ⟨left, h1, by simp only [List.getElem_cons_zero]; omega⟩
    | succ i =>
      have := leftT_le t left (by omega)
      exact ih (left := leftT t left) (by omega) h i (by simp at hi; omega)
theorem leftTs_step (T : List TB) (k : Nat) (h : k < T.length) (x : Int) : leftTs (T.drop k) x = if leftT T[k] x < 0 then -1 else leftTs (T.drop (k + 1)) (leftT T[k] x) := by
  rw [List.drop_eq_getElem_cons h]; rfl

set_option maxHeartbeats 2000000 in
theorem sztabs_laws (a : Option Addr) (cap : Nat) (T : List TB) (n : Nat) (hn : T.length = n) (left : Int) (w : World) (hrow : TabsAt w a T) (hm : n ≤ maxLen) (h0 : 0 ≤ left) (h1 : left ≤ 1048576) :
    Calls Tryz.prog 4 #[.slice a n cap, .int .i64 left] w fun e w' => e = .returned (.int .i64 (leftTS T left)) ∧ Below w.heap.size w w' := by
  have hR : Hid (TabsAt w a T) := hrow
  have hN : Hid (T.length = n) := hn
  clear hrow
  by_cases hlen : left < (n : Int)
  · have hneg : left - (n : Int) < 0 := by omega
    rw [show leftTS T left = -1 from if_pos (by omega)]
    clear hn
    unfold maxLen at hm
    go_enter Tryz.func4, Tryz.ntmps4
    go_wp2
    go_ret
    exact ⟨rfl, Below.refl _ _⟩
  have hneg : 0 ≤ left - (n : Int) := by omega
  obtain ⟨r, hr⟩ : ∃ r, leftTs T (left - n) = r := ⟨_, rfl⟩
  rw [show leftTS T left = r by rw [← hr, ← hn]; exact if_neg (by omega)]
  have HR : Hid (leftTs T (left - n) = r) := hr
  clear hr hn
  go_enter Tryz.func4, Tryz.ntmps4
  go_wp2
  go_loopw [1, 5] (fun s i wr => ∃ (k : Nat) (x : Int), k ≤ n ∧ i = .int .i64 k ∧ s = .int .i64 x ∧ 0 ≤ x ∧ x ≤ 1048576 ∧ Hid (leftTs (T.drop k) x = r) ∧ Below w.heap.size w wr)
    (fun _ i _ => n - (intOf i).toNat)
  case atStart => exact ⟨0, left - n, Nat.zero_le _, rfl, rfl, hneg, by omega, HR, Below.refl _ _⟩
  case round =>
    obtain ⟨k, x, hk, rfl, rfl, hpos, hle, HX, hb⟩ := hrel
    by_cases hlt : k < n
    · obtain ⟨b, o, ca, cc, ra, cr, rfl, hbw, c0, c1, c2, hta⟩ := hR.out.below hb k (by rw [hN.out]; exact hlt)
      have hi0 : (0 : Int) ≤ (k : Int) := by omega
      have hi1 : (k : Int) < (n : Int) := by omega
      have HT : Hid (TabAt wr ca cc ra (T[k]'(by rw [hN.out]; exact hlt))) := hta
      have HS : Hid (_ = _) := leftTs_step T k (by rw [hN.out]; exact hlt) x
      clear hta
      generalize (T[k]'(by rw [hN.out]; exact hlt)) = t at c0 c1 c2 HT HS
      obtain ⟨y, hy⟩ : ∃ y, leftT t x = y := ⟨_, rfl⟩
      have hyx : 0 ≤ y → y ≤ x := by intro h; rw [← hy] at h ⊢; exact leftT_le t x h
      have HY : Hid (leftT t x = y) := hy
      have HZ : Hid (r = if y < 0 then -1 else leftTs (T.drop (k + 1)) y) := by
        have e := HS.out
        rw [hy] at e
        exact show r = _ by rw [← HX.out, e]
      clear hy HS HX
      obtain ⟨nc, hnc⟩ : ∃ m, t.2.1.length = m := ⟨_, rfl⟩
      obtain ⟨nr, hnr⟩ : ∃ m, t.2.2.length = m := ⟨_, rfl⟩
      rw [hnc] at c1
      rw [hnr] at c2
      have HNC : Hid (t.2.1.length = nc) := hnc
      have HNR : Hid (t.2.2.length = nr) := hnr
      clear hnc hnr
      by_cases hs : y < 0
      · have e : r = -1 := by rw [HZ.out, if_pos hs]
        subst e
        go_wp2_with fail
        refine (sztab_laws ca cc ra cr t nc nr HNC.out HNR.out _ HT.out x hpos hle).mono ?_
        rw [HY.out]
        rintro e w1 ⟨rfl, hb1⟩
        go_wp2
        go_ret
        exact ⟨rfl, chain hb hb1⟩
      · have e : Hid (leftTs (T.drop (k + 1)) y = r) := by rw [HZ.out, if_neg hs]; exact rfl
        have hp2 : 0 ≤ y := by omega
        have hy2 : y ≤ 1048576 := by have := hyx hp2; omega
        clear hyx
        go_wp2_with fail
        refine (sztab_laws ca cc ra cr t nc nr HNC.out HNR.out _ HT.out x hpos hle).mono ?_
        rw [HY.out]
        rintro e' w1 ⟨rfl, hb1⟩
        go_wp2
        go_roundw
        case rel => exact ⟨k + 1, y, by omega, by go_num, rfl, hp2, hy2, e, chain hb hb1⟩
        case measure => simp [intOf]; omega
    · have hkl : k = n := by omega
      subst hkl
      have e : r = x := by rw [← HX.out, List.drop_of_length_le (by rw [hN.out]; exact Nat.le_refl _)]; rfl
      subst e
      go_wp2
      go_ret
      exact ⟨rfl, hb⟩

set_option maxHeartbeats 2000000 in
theorem eqtabs_laws (a b : Option Addr) (ca cb : Nat) (T : List TB) (n : Nat) (hn : T.length = n) (w : World) (ha : TabsAt w a T) (hb : TabsAt w b T) (hm : n ≤ maxLen) :
    Calls Tryz.prog 8 #[.slice a n ca, .slice b n cb] w fun e w' => e = .returned (.bool true) ∧ Below w.heap.size w w' := by
  have hA : Hid (TabsAt w a T) := ha
  have hB : Hid (TabsAt w b T) := hb
  have hN : Hid (T.length = n) := hn
  clear ha hb hn
  unfold maxLen at hm
  go_enter Tryz.func8, Tryz.ntmps8
  go_wp2
  go_loopw [5] (fun i wr => ∃ k : Nat, k ≤ n ∧ i = .int .i64 k ∧ Below w.heap.size w wr) (fun i _ => n - (intOf i).toNat)
  case atStart => exact ⟨0, Nat.zero_le _, rfl, Below.refl _ _⟩
  case round =>
    obtain ⟨k, hk, rfl, hx⟩ := hrel
    by_cases hlt : k < n
    · obtain ⟨b1, o1, ca1, cc1, ra1, cr1, rfl, hbw, c0, c1, c2, hta⟩ := hA.out.below hx k (by rw [hN.out]; exact hlt)
      obtain ⟨b2, o2, ca2, cc2, ra2, cr2, rfl, hbw2, d0, d1, d2, htb⟩ := hB.out.below hx k (by rw [hN.out]; exact hlt)
      have hi0 : (0 : Int) ≤ (k : Int) := by omega
      have hi1 : (k : Int) < (n : Int) := by omega
      have HA : Hid (TabAt wr ca1 cc1 ra1 (T[k]'(by rw [hN.out]; exact hlt))) := hta
      have HB : Hid (TabAt wr ca2 cc2 ra2 (T[k]'(by rw [hN.out]; exact hlt))) := htb
      clear hta htb
      generalize (T[k]'(by rw [hN.out]; exact hlt)) = t at c0 c1 c2 d0 d1 d2 HA HB
      obtain ⟨nc, hnc⟩ : ∃ m, t.2.1.length = m := ⟨_, rfl⟩
      obtain ⟨nr, hnr⟩ : ∃ m, t.2.2.length = m := ⟨_, rfl⟩
      rw [hnc] at c1 d1
      rw [hnr] at c2 d2
      have HNC : Hid (t.2.1.length = nc) := hnc
      have HNR : Hid (t.2.2.length = nr) := hnr
      clear hnc hnr
      go_wp2_with fail
      go_region_held3 (fun w' => w'.cell? ⟨b1, o1 + k * 3, none⟩ = some (.string t.1) ∧ w'.cell? ⟨b1, o1 + k * 3 + 1, none⟩ = some (.slice ca1 nc cc1) ∧ w'.cell? ⟨b1, o1 + k * 3 + 2, none⟩ = some (.slice ra1 nr cr1) ∧
          w'.cell? ⟨b2, o2 + k * 3, none⟩ = some (.string t.1) ∧ w'.cell? ⟨b2, o2 + k * 3 + 1, none⟩ = some (.slice ca2 nc cc2) ∧ w'.cell? ⟨b2, o2 + k * 3 + 2, none⟩ = some (.slice ra2 nr cr2))
        (((try dsimp only); (repeat' apply And.intro) <;> first | (go_keep; done) | (simp (disch := first | omega | (simp <;> omega) | fail) [*]; done) | fail))
        ((go_at_call 18; refine (eqtab_laws ca1 cc1 ra1 cr1 ca2 cc2 ra2 cr2 t nc nr HNC.out HNR.out _ (HA.out.below (Below.refl _ _).drew) (HB.out.below (Below.refl _ _).drew)).mono ?_; rintro e w1 ⟨rfl, hb1⟩; obtain ⟨hc, hf⟩ := bcell hb1))
      all_goals
        go_wp2
        go_roundw
        case rel => exact ⟨k + 1, by omega, by go_num, chain hx (undrew hb1)⟩
        case measure => simp [intOf]; omega
    · go_wp2
      go_ret
      exact ⟨rfl, hx⟩

end Go.Proofs.YtpggjgilklpncaaGreat

/-
  The contracts of the model's order on cells.
-/
namespace Go.Proofs.YtpggjgilklpncaaGreat
open Go.ChangeShapes Go.WideShapes Go.ChangeAt Go.RowKit
attribute [local go_sem ↓] Go.wp_at_zero Go.wp_at_succ

end Go.Proofs.YtpggjgilklpncaaGreat

/-
  Lists in heap order, without any program: what moves up or down one step keeps all but one place right, the first one is the least.
-/
namespace Go.Proofs.YtpggjgilklpncaaGreat

/-- A strict order in which of two one is less, or they are one. -/
structure Strict (lt : Nat → Nat → Bool) (n : Nat) : Prop where
  irr : ∀ a, lt a a = false
  tri : ∀ a b, a < n → b < n → lt a b = false → lt b a = false → a = b
  trans : ∀ a b c, lt a b = true → lt b c = true → lt a c = true

theorem Strict.asym {lt : Nat → Nat → Bool} {n : Nat} (S : Strict lt n) {a b : Nat} (h : lt a b = true) : lt b a = false := by
  cases hb : lt b a with
  | false => rfl
  | true => have := S.trans a b a h hb; rw [S.irr] at this; cases this
/-- What is not less, twice. -/
theorem Strict.neg {lt : Nat → Nat → Bool} {n : Nat} (S : Strict lt n) {a b c : Nat} (ha : a < n) (hb : b < n) (h1 : lt a b = false) (h2 : lt b c = false) : lt a c = false := by
  cases hc : lt a c with
  | false => rfl
  | true =>
    cases hba : lt b a with
    | true => have := S.trans b a c hba hc; rw [h2] at this; cases this
    | false => have e := S.tri a b ha hb h1 hba; subst e; rw [h2] at hc; cases hc

/-- The first n are in heap order. -/
def Heap (lt : Nat → Nat → Bool) (s : List Nat) (n : Nat) : Prop := ∀ i, 0 < i → i < n → lt (s.getD i 0) (s.getD ((i - 1) / 2) 0) = false
/-- So are they but for place j, which may be too low. -/
def UpAt (lt : Nat → Nat → Bool) (s : List Nat) (n j : Nat) : Prop :=
  (∀ i, 0 < i → i < n → i ≠ j → lt (s.getD i 0) (s.getD ((i - 1) / 2) 0) = false) ∧
  (∀ i, 0 < i → i < n → (i - 1) / 2 = j → 0 < j → lt (s.getD i 0) (s.getD ((j - 1) / 2) 0) = false)
/-- So are they but for place j, which may be too high. -/
def DownAt (lt : Nat → Nat → Bool) (s : List Nat) (n j : Nat) : Prop :=
  (∀ i, 0 < i → i < n → (i - 1) / 2 ≠ j → lt (s.getD i 0) (s.getD ((i - 1) / 2) 0) = false) ∧
  (∀ i, 0 < i → i < n → (i - 1) / 2 = j → 0 < j → lt (s.getD i 0) (s.getD ((j - 1) / 2) 0) = false)

/-- Two change places. -/
def swap {α : Type} (d : α) (s : List α) (i j : Nat) : List α := (s.set i (s.getD j d)).set j (s.getD i d)
theorem swap_length {α : Type} (d : α) (s : List α) (i j : Nat) : (swap d s i j).length = s.length := by simp [swap]
theorem swap_getD {α : Type} (d : α) (s : List α) (i j k : Nat) (hi : i < s.length) (hj : j < s.length) : (swap d s i j).getD k d = if k = j then s.getD i d else if k = i then s.getD j d else s.getD k d := by
  unfold swap
  simp only [List.getD_eq_getElem?_getD, List.getElem?_set, List.length_set]
  by_cases h1 : j = k
  · subst h1; simp [hj]
  · by_cases h2 : i = k
    · subst h2; simp [h1, hi, Ne.symm h1]
    · simp [h1, h2, Ne.symm h1, Ne.symm h2]
theorem mem_lt {s : List Nat} {N i : Nat} (h : ∀ x ∈ s, x < N) (hi : i < s.length) : s.getD i 0 < N := by
  have : s.getD i 0 ∈ s := by simp [List.getD, List.getElem?_eq_getElem hi]
  exact h _ this

theorem UpAt.start {lt : Nat → Nat → Bool} {s : List Nat} {n : Nat} (h : Heap lt s n) : UpAt lt s (n + 1) n :=
  ⟨fun i h0 hi hne => h i h0 (by omega), fun i h0 hi hp hj => by omega⟩
theorem UpAt.done {lt : Nat → Nat → Bool} {s : List Nat} {n j : Nat} (h : UpAt lt s n j) (hj : lt (s.getD j 0) (s.getD ((j - 1) / 2) 0) = false) : Heap lt s n := by
  intro i h0 hi
  by_cases e : i = j
  · subst e; exact hj
  · exact h.1 i h0 hi e
theorem UpAt.step {lt : Nat → Nat → Bool} {s : List Nat} {n j N : Nat} (S : Strict lt N) (hs : ∀ x ∈ s, x < N) (hn : n ≤ s.length) (hjn : j < n) (h0 : 0 < j) (h : UpAt lt s n j) (hj : lt (s.getD j 0) (s.getD ((j - 1) / 2) 0) = true) :
    UpAt lt (swap 0 s ((j - 1) / 2) j) n ((j - 1) / 2) := by
  obtain ⟨p, hp⟩ : ∃ p, (j - 1) / 2 = p := ⟨_, rfl⟩
  rw [hp] at hj ⊢
  have hpj : p < j := by omega
  have hpl : p < s.length := by omega
  have hjl : j < s.length := by omega
  obtain ⟨A, B⟩ := h
  refine ⟨fun i i0 hi hne => ?_, fun i i0 hi hpar hp0 => ?_⟩
  · rw [swap_getD _ _ _ _ _ hpl hjl, swap_getD _ _ _ _ _ hpl hjl]
    by_cases e1 : i = j
    · subst e1
      rw [if_pos rfl, hp, if_neg (by omega), if_pos rfl]
      exact S.asym hj
    · rw [if_neg e1, if_neg hne]
      have A1 := A i i0 hi e1
      by_cases e2 : (i - 1) / 2 = j
      · rw [if_pos e2]
        have := B i i0 hi e2 h0
        rwa [hp] at this
      · rw [if_neg e2]
        by_cases e3 : (i - 1) / 2 = p
        · rw [if_pos e3]
          rw [e3] at A1
          cases hc : lt (s.getD i 0) (s.getD j 0) with
          | false => rfl
          | true => have := S.trans _ _ _ hc hj; rw [A1] at this; cases this
        · rw [if_neg e3]; exact A1
  · have App := A p hp0 (by omega) (by omega)
    rw [swap_getD _ _ _ _ _ hpl hjl, swap_getD _ _ _ _ _ hpl hjl, if_neg (by omega : ¬ (p - 1) / 2 = j), if_neg (by omega : ¬ (p - 1) / 2 = p)]
    by_cases e1 : i = j
    · rw [if_pos e1]; exact App
    · rw [if_neg e1, if_neg (by omega)]
      have A1 := A i i0 hi e1
      rw [hpar] at A1
      exact S.neg (mem_lt hs (by omega)) (mem_lt hs (by omega)) A1 App

theorem DownAt.start {lt : Nat → Nat → Bool} {s s' : List Nat} {n : Nat} (h : Heap lt s (n + 1)) (hs : ∀ i, 0 < i → i < n → s'.getD i 0 = s.getD i 0) : DownAt lt s' n 0 := by
  refine ⟨fun i h0 hi hne => ?_, fun i h0 hi hp hj => by omega⟩
  rw [hs i h0 hi, hs _ (by omega) (by omega)]
  exact h i h0 (by omega)
theorem DownAt.done {lt : Nat → Nat → Bool} {s : List Nat} {n j : Nat} (h : DownAt lt s n j) (h1 : 2 * j + 1 < n → lt (s.getD (2 * j + 1) 0) (s.getD j 0) = false) (h2 : 2 * j + 2 < n → lt (s.getD (2 * j + 2) 0) (s.getD j 0) = false) : Heap lt s n := by
  intro i h0 hi
  by_cases e : (i - 1) / 2 = j
  · rcases (show i = 2 * j + 1 ∨ i = 2 * j + 2 by omega) with rfl | rfl
    · rw [e]; exact h1 hi
    · rw [e]; exact h2 hi
  · exact h.1 i h0 hi e
/-- The lesser one c of those below j goes up. -/
theorem DownAt.step {lt : Nat → Nat → Bool} {s : List Nat} {n j c N : Nat} (S : Strict lt N) (hn : n ≤ s.length) (hc : c < n) (hcj : c = 2 * j + 1 ∨ c = 2 * j + 2) (h : DownAt lt s n j)
    (hl : lt (s.getD c 0) (s.getD j 0) = true) (hleast : ∀ d, d = 2 * j + 1 ∨ d = 2 * j + 2 → d < n → lt (s.getD d 0) (s.getD c 0) = false) :
    DownAt lt (swap 0 s j c) n c := by
  have hjl : j < s.length := by omega
  have hcl : c < s.length := by omega
  obtain ⟨A, B⟩ := h
  refine ⟨fun i i0 hi hne => ?_, fun i i0 hi hpar hp0 => ?_⟩
  · rw [swap_getD _ _ _ _ _ hjl hcl, swap_getD _ _ _ _ _ hjl hcl, if_neg hne]
    by_cases e1 : i = c
    · rw [if_pos e1, if_pos (by omega)]
      exact S.asym hl
    · rw [if_neg e1]
      by_cases e2 : i = j
      · rw [if_pos e2, if_neg (by omega)]
        have := B c (by omega) hc (by omega) (by omega)
        rwa [e2]
      · rw [if_neg e2]
        by_cases e3 : (i - 1) / 2 = j
        · rw [if_pos e3]; exact hleast i (by omega) hi
        · rw [if_neg e3]; exact A i i0 hi e3
  · have Ai := A i i0 hi (by omega)
    rw [swap_getD _ _ _ _ _ hjl hcl, swap_getD _ _ _ _ _ hjl hcl, if_neg (by omega), if_neg (by omega), if_neg (by omega), if_pos (by omega)]
    rw [hpar] at Ai; exact Ai

/-- Of a heap the first one is the least. -/
theorem Heap.least {lt : Nat → Nat → Bool} {s : List Nat} {n N : Nat} (S : Strict lt N) (hs : ∀ x ∈ s, x < N) (hn : n ≤ s.length) (h : Heap lt s n) : ∀ k i, i ≤ k → i < n → lt (s.getD i 0) (s.getD 0 0) = false := by
  intro k
  induction k with
  | zero => intro i hi hin; have : i = 0 := by omega
            subst this; exact S.irr _
  | succ k ih =>
    intro i hi hin
    by_cases e : i = 0
    · subst e; exact S.irr _
    · exact S.neg (mem_lt hs (by omega)) (mem_lt hs (by omega)) (h i (by omega) hin) (ih _ (by omega) (by omega))

end Go.Proofs.YtpggjgilklpncaaGreat

/-
  The order of cells: of two that are unlike just one is less; what is less than less is less; three answers of one comparison.
-/
namespace Go.Proofs.YtpggjgilklpncaaGreat

theorem bl_irr (s : ByteArray) : Op.bytesLess s.toList s.toList = false := by
  rw [bytesLess_eq]; simp
theorem bl_asym {s u : ByteArray} (h : Op.bytesLess s.toList u.toList = true) : Op.bytesLess u.toList s.toList = false := by
  rw [bytesLess_eq] at h ⊢
  simp only [decide_eq_true_eq, decide_eq_false_iff_not] at h ⊢
  exact List.lt_asymm h
theorem bl_trans {s u v : ByteArray} (h : Op.bytesLess s.toList u.toList = true) (k : Op.bytesLess u.toList v.toList = true) : Op.bytesLess s.toList v.toList = true := by
  rw [bytesLess_eq] at h k ⊢
  simp only [decide_eq_true_eq] at h k ⊢
  exact List.lt_trans h k
theorem bl_tri {s u : ByteArray} (h : Op.bytesLess s.toList u.toList = false) (k : Op.bytesLess u.toList s.toList = false) : s = u := by
  rw [bytesLess_eq] at h k
  simp only [decide_eq_false_iff_not] at h k
  exact bytes_eq (List.le_antisymm k h)

abbrev CT3 := Int × Int × ByteArray
end Go.Proofs.YtpggjgilklpncaaGreat
