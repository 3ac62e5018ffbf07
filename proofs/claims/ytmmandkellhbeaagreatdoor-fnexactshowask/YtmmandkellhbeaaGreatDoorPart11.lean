/-
  A part of the proof: ReadS, ReadS2, Truth.
-/
import Derived.Test.YtmmandkellhbeaaGreatDoorPart3
import Derived.Laws.DeepStrings4
import Derived.Test.YtmmandkellhbeaaGreatDoorPart1

/-
  The contracts of the model's reading of cells.
-/
namespace Go.Proofs.YtmmandkellhbeaaGreatDoor
open Go.ChangeShapes Go.WideShapes Go.ChangeAt Go.RowKit
attribute [local go_sem ↓] Go.wp_at_zero Go.wp_at_succ

/-- What is read behind the sign. -/
def bodyR (neg : Bool) (len : Nat) (r : List UInt8) : Int × Bool :=
  if r.length < 1 ∨ 10 < r.length then (0, false)
  else if r.all isDig = true then
    if r.head? = some 48 ∧ (neg = true ∨ 1 < len) then (0, false)
    else (if neg = true then -(valFrom 0 r : Int) else valFrom 0 r, true)
  else (0, false)
/-- What is read, as the model answers it. -/
def mostR (l : List UInt8) : Int × Bool := match readMost l with
  | some n => (n, true)
  | none => (0, false)
theorem mostR_body (l : List UInt8) : mostR l = bodyR (decide (l.head? = some 45)) l.length (if decide (l.head? = some 45) = true then l.drop 1 else l) := by
  unfold mostR readMost bodyR
  generalize decide (l.head? = some 45) = neg
  simp only []
  generalize (if neg = true then l.drop 1 else l) = r
  split
  · rename_i n h
    split at h
    · cases h
    · rename_i h1
      rw [if_neg h1]
      split at h
      · rename_i h2
        rw [if_pos h2]
        split at h
        · cases h
        · rename_i h3
          rw [if_neg h3]
          injection h with h
          rw [h]
      · cases h
  · rename_i h
    split at h
    · rename_i h1
      rw [if_pos h1]
    · rename_i h1
      rw [if_neg h1]
      split at h
      · rename_i h2
        rw [if_pos h2]
        split at h
        · rename_i h3
          rw [if_pos h3]
        · cases h
      · rename_i h2
        rw [if_neg h2]
theorem bodyR_len {neg : Bool} {len : Nat} {r : List UInt8} (h : r.length < 1 ∨ 10 < r.length) : bodyR neg len r = (0, false) := if_pos h
theorem bodyR_dig {neg : Bool} {len : Nat} {r : List UInt8} (c : UInt8) (hc : c ∈ r) (h : isDig c = false) : bodyR neg len r = (0, false) := by
  unfold bodyR
  split
  · rfl
  · rw [if_neg]
    intro e
    rw [List.all_eq_true.1 e c hc] at h
    cases h
theorem bodyR_nought {neg : Bool} {len : Nat} {r : List UInt8} (h : r.head? = some 48) (h2 : neg = true ∨ 1 < len) : bodyR neg len r = (0, false) := by
  unfold bodyR
  split
  · rfl
  · split
    · rw [if_pos ⟨h, h2⟩]
    · rfl
theorem bodyR_yes {neg : Bool} {len : Nat} {r : List UInt8} (h : ¬ (r.length < 1 ∨ 10 < r.length)) (hd : r.all isDig = true) (h2 : ¬ (r.head? = some 48 ∧ (neg = true ∨ 1 < len))) : bodyR neg len r = (if neg = true then -(valFrom 0 r : Int) else valFrom 0 r, true) := by
  unfold bodyR
  rw [if_neg h, if_pos hd, if_neg h2]

theorem take_dig (s : ByteArray) (i k : Nat) (hik : i ≤ k) (h : k < s.size) : ((s.data.toList.take (k + 1)).drop i) = (s.data.toList.take k).drop i ++ [s[k]] := by
  rw [take_snoc s k h, List.drop_append_of_le_length (by rw [List.length_take, ← Lib.size_eq]; omega)]
theorem mem_drop (s : ByteArray) (i k : Nat) (hik : i ≤ k) (h : k < s.size) : s[k] ∈ s.data.toList.drop i := by
  have e : (s.data.toList.drop i)[k - i]'(by rw [List.length_drop, ← Lib.size_eq]; omega) = s[k] := by
    rw [List.getElem_drop]
    show s.data.toList[i + (k - i)]'_ = _
    have : i + (k - i) = k := by omega
    simp only [this]
    rfl
  rw [← e]; exact List.getElem_mem _
theorem head_drop (s : ByteArray) (i : Nat) (h : i < s.size) : (s.data.toList.drop i).head? = some s[i] := by
  rw [List.head?_drop, List.getElem?_eq_getElem (by rw [← Lib.size_eq]; exact h)]; rfl
theorem byte_eq {c : UInt8} {n : Nat} (h : n < 256) : c = UInt8.ofNat n ↔ c.toNat = n := by
  constructor
  · intro e; rw [e, UInt8.toNat_ofNat_of_lt' h]
  · intro e; exact UInt8.toNat_inj.1 (by rw [e, UInt8.toNat_ofNat_of_lt' h])
theorem isDig_iff (c : UInt8) : isDig c = true ↔ 48 ≤ c.toNat ∧ c.toNat ≤ 57 := by unfold isDig; rw [Bool.and_eq_true, decide_eq_true_eq, decide_eq_true_eq]
theorem isDig_no {c : UInt8} (h : c.toNat < 48 ∨ 57 < c.toNat) : isDig c = false := by
  cases hd : isDig c with
  | false => rfl
  | true => have := (isDig_iff c).1 hd; omega

set_option maxRecDepth 100000 in
set_option maxHeartbeats 4000000 in
theorem most_pos (s : ByteArray) (hs : s.size ≤ maxLen) (hp : 0 < s.size) (h0 : ¬ s[0].toNat = 45) (w : World) (a : Int) (b : Bool) (hR0 : bodyR false s.size (s.data.toList.drop 0) = (a, b)) :
    Calls Tryz.prog 100 #[.string s, .int .i64 10] w fun e w' => e = .returned (.tuple #[.int .i64 a, .bool b]) ∧ Below w.heap.size w w' := by
  have hR : Hid (bodyR false s.size (s.data.toList.drop 0) = (a, b)) := hR0
  have hrl : Hid ((s.data.toList.drop 0).length = s.size - 0) := by
    have : (s.data.toList.drop 0).length = s.size - 0 := by rw [List.length_drop, ← Lib.size_eq]
    exact this
  clear hR0
  unfold maxLen at hs
  have hne : s.toList.isEmpty = false := by
    rw [Lib.toList_data]
    cases hd : s.data.toList with
    | nil => rw [Lib.size_eq, hd] at hp; simp at hp
    | cons c r => rfl
  have hne2 : ¬ s.toList = [] := by intro e; rw [e] at hne; cases hne
  have hp1 : (0 : Int) < (s.size : Int) := by omega
  have hw : wrap64 ((s.size : Int) - 0) = (s.size : Int) - 0 := by unfold wrap64; omega
  have hw0 : wrap64 (s.size : Int) = (s.size : Int) := by unfold wrap64; omega
  by_cases hl1 : (s.size : Int) - 0 < 1
  · exfalso; omega
  by_cases hl2 : 10 < (s.size : Int) - 0
  · have hf := hR.out
    rw [bodyR_len (.inr (by rw [hrl.out]; omega))] at hf
    injection hf with e1 e2
    subst e1 e2
    go_enter Tryz.func100, Tryz.ntmps100
    go_wp2
    go_ret2
    exact ⟨rfl, Below.refl _ _⟩
  go_enter Tryz.func100, Tryz.ntmps100
  go_wp2
  go_loopw [8, 9] (fun n kk wr => ∃ k : Nat, 0 ≤ k ∧ k ≤ s.size ∧ kk = .int .i64 k ∧ n = .int .i64 (valFrom 0 ((s.data.toList.take k).drop 0)) ∧ Hid (((s.data.toList.take k).drop 0).all isDig = true) ∧ wr = w) (fun _ kk _ => s.size - (intOf kk).toNat)
  case atStart =>
    have e : (s.data.toList.take 0).drop 0 = [] := List.drop_eq_nil_of_le (by rw [List.length_take]; omega)
    exact ⟨0, Nat.le_refl _, by omega, rfl, by rw [e]; rfl, by rw [e]; rfl, rfl⟩
  case round =>
    obtain ⟨k, hk0, hk, rfl, rfl, hall, rfl⟩ := hrel
    by_cases hlt : k < s.size
    · have hi1 : (k : Int) < (s.size : Int) := by omega
      have hi0 : (0 : Int) ≤ (k : Int) := by omega
      by_cases hd1 : s[k].toNat < 48
      · have hf := hR.out
        rw [bodyR_dig s[k] (mem_drop s 0 k hk0 hlt) (isDig_no (.inl hd1))] at hf
        injection hf with e1 e2
        subst e1 e2
        go_wp2
        go_ret2
        exact ⟨rfl, Below.refl _ _⟩
      by_cases hd2 : 57 < s[k].toNat
      · have hf := hR.out
        rw [bodyR_dig s[k] (mem_drop s 0 k hk0 hlt) (isDig_no (.inr hd2))] at hf
        injection hf with e1 e2
        subst e1 e2
        go_wp2
        go_ret2
        exact ⟨rfl, Below.refl _ _⟩
      have htk := take_dig s 0 k hk0 hlt
      have hbound : valFrom 0 ((s.data.toList.take k).drop 0) < 10000000000 := by
        have h := valFrom_lt ((s.data.toList.take k).drop 0) 0 (List.all_eq_true.1 hall.out)
        have hl : ((s.data.toList.take k).drop 0).length ≤ 10 := by rw [List.length_drop, List.length_take, ← Lib.size_eq]; omega
        have h10 : (10 : Nat) ^ ((s.data.toList.take k).drop 0).length ≤ 10 ^ 10 := Nat.pow_le_pow_right (by decide) hl
        have : (10 : Nat) ^ 10 = 10000000000 := by decide
        omega
      have hval : valFrom 0 ((s.data.toList.take (k + 1)).drop 0) = valFrom 0 ((s.data.toList.take k).drop 0) * 10 + (s[k].toNat - 48) := by rw [htk, valFrom_snoc]
      have hall2 : Hid (((s.data.toList.take (k + 1)).drop 0).all isDig = true) := by
        have : ((s.data.toList.take (k + 1)).drop 0).all isDig = true := by
          rw [htk, List.all_append, hall.out]
          simp only [List.all_cons, List.all_nil, Bool.and_true, Bool.true_and]
          exact (isDig_iff _).2 (by omega)
        exact this
      have hV : Hid (valFrom 0 ((s.data.toList.take (k + 1)).drop 0) = valFrom 0 ((s.data.toList.take k).drop 0) * 10 + (s[k].toNat - 48)) := hval
      clear htk hval hall
      generalize valFrom 0 ((s.data.toList.take k).drop 0) = v at hbound hV ⊢
      go_wp2
      go_roundw
      case rel =>
        refine ⟨k + 1, by omega, by omega, by go_num, ?_, hall2, by trivial⟩
        rw [hV.out]
        congr 1
        omega
      case measure => simp [intOf]; omega
    · have hkl : k = s.size := by omega
      subst hkl
      have hi1 : ¬ (s.size : Int) < (s.size : Int) := by omega
      have htake : s.data.toList.take s.size = s.data.toList := by rw [Lib.size_eq]; exact List.take_length
      rw [htake] at hall ⊢
      have hbound : valFrom 0 (s.data.toList.drop 0) < 10000000000 := by
        have h := valFrom_lt (s.data.toList.drop 0) 0 (List.all_eq_true.1 hall.out)
        have hl : (s.data.toList.drop 0).length ≤ 10 := by rw [hrl.out]; omega
        have h10 : (10 : Nat) ^ (s.data.toList.drop 0).length ≤ 10 ^ 10 := Nat.pow_le_pow_right (by decide) hl
        have : (10 : Nat) ^ 10 = 10000000000 := by decide
        omega
      have hlen : Hid (¬ ((s.data.toList.drop 0).length < 1 ∨ 10 < (s.data.toList.drop 0).length)) := by
        have : ¬ ((s.data.toList.drop 0).length < 1 ∨ 10 < (s.data.toList.drop 0).length) := by rw [hrl.out]; omega
        exact this
      have hhd : Hid ((s.data.toList.drop 0).head? = some (s[0]'(by omega))) := head_drop s 0 (by omega)
      have hi48 : 0 < s.size := by omega
      have hii : (0 : Int) < (s.size : Int) := by omega
      by_cases h48 : (s[0]'(by omega)).toNat = 48
      · have h48' : Hid ((s.data.toList.drop 0).head? = some 48) := by
          have : (s.data.toList.drop 0).head? = some 48 := by rw [hhd.out]; congr 1; exact (byte_eq (n := 48) (by decide)).2 h48
          exact this
        by_cases hone : 1 < s.size
        · have hone' : (1 : Int) < (s.size : Int) := by omega
          have hf := hR.out
          rw [bodyR_nought h48'.out (.inr hone)] at hf
          injection hf with e1 e2
          subst e1 e2
          go_wp2
          go_ret2
          exact ⟨rfl, Below.refl _ _⟩
        · have hone' : ¬ (1 : Int) < (s.size : Int) := by omega
          have hno : Hid (¬ ((s.data.toList.drop 0).head? = some 48 ∧ (false = true ∨ 1 < s.size))) := by
            have : ¬ ((s.data.toList.drop 0).head? = some 48 ∧ (false = true ∨ 1 < s.size)) := by
              rintro ⟨_, e | e⟩
              · cases e
              · exact hone e
            exact this
          have hf := hR.out
          rw [bodyR_yes hlen.out hall.out hno.out] at hf
          injection hf with e1 e2
          rw [if_neg (by decide)] at e1
          subst e2
          clear hno hlen hhd hR hrl hall
          generalize valFrom 0 (s.data.toList.drop 0) = v at hbound e1 ⊢
          have hA : Hid (_ = a) := e1
          clear e1
          go_wp2
          go_ret2
          exact ⟨by rw [← hA.out]; rfl, Below.refl _ _⟩
      · have hno : Hid (¬ ((s.data.toList.drop 0).head? = some 48 ∧ (false = true ∨ 1 < s.size))) := by
          have : ¬ ((s.data.toList.drop 0).head? = some 48 ∧ (false = true ∨ 1 < s.size)) := by
            rintro ⟨e, _⟩
            rw [hhd.out] at e
            injection e with e
            exact h48 (by rw [e]; rfl)
          exact this
        have hf := hR.out
        rw [bodyR_yes hlen.out hall.out hno.out] at hf
        injection hf with e1 e2
        rw [if_neg (by decide)] at e1
        subst e2
        clear hno hlen hhd hR hrl hall
        generalize valFrom 0 (s.data.toList.drop 0) = v at hbound e1 ⊢
        have hA : Hid (_ = a) := e1
        clear e1
        go_wp2
        go_ret2
        exact ⟨by rw [← hA.out]; rfl, Below.refl _ _⟩

set_option maxRecDepth 100000 in
set_option maxHeartbeats 4000000 in
theorem most_neg (s : ByteArray) (hs : s.size ≤ maxLen) (hp : 0 < s.size) (h0 : s[0].toNat = 45) (w : World) (a : Int) (b : Bool) (hR0 : bodyR true s.size (s.data.toList.drop 1) = (a, b)) :
    Calls Tryz.prog 100 #[.string s, .int .i64 10] w fun e w' => e = .returned (.tuple #[.int .i64 a, .bool b]) ∧ Below w.heap.size w w' := by
  have hR : Hid (bodyR true s.size (s.data.toList.drop 1) = (a, b)) := hR0
  have hrl : Hid ((s.data.toList.drop 1).length = s.size - 1) := by
    have : (s.data.toList.drop 1).length = s.size - 1 := by rw [List.length_drop, ← Lib.size_eq]
    exact this
  clear hR0
  unfold maxLen at hs
  have hne : s.toList.isEmpty = false := by
    rw [Lib.toList_data]
    cases hd : s.data.toList with
    | nil => rw [Lib.size_eq, hd] at hp; simp at hp
    | cons c r => rfl
  have hne2 : ¬ s.toList = [] := by intro e; rw [e] at hne; cases hne
  have hp1 : (0 : Int) < (s.size : Int) := by omega
  have hw : wrap64 ((s.size : Int) - 1) = (s.size : Int) - 1 := by unfold wrap64; omega
  have hw0 : wrap64 (s.size : Int) = (s.size : Int) := by unfold wrap64; omega
  by_cases hl1 : (s.size : Int) - 1 < 1
  · have hf := hR.out
    rw [bodyR_len (.inl (by rw [hrl.out]; omega))] at hf
    injection hf with e1 e2
    subst e1 e2
    go_enter Tryz.func100, Tryz.ntmps100
    go_wp2
    go_ret2
    exact ⟨rfl, Below.refl _ _⟩
  by_cases hl2 : 10 < (s.size : Int) - 1
  · have hf := hR.out
    rw [bodyR_len (.inr (by rw [hrl.out]; omega))] at hf
    injection hf with e1 e2
    subst e1 e2
    go_enter Tryz.func100, Tryz.ntmps100
    go_wp2
    go_ret2
    exact ⟨rfl, Below.refl _ _⟩
  go_enter Tryz.func100, Tryz.ntmps100
  go_wp2
  go_loopw [8, 9] (fun n kk wr => ∃ k : Nat, 1 ≤ k ∧ k ≤ s.size ∧ kk = .int .i64 k ∧ n = .int .i64 (valFrom 0 ((s.data.toList.take k).drop 1)) ∧ Hid (((s.data.toList.take k).drop 1).all isDig = true) ∧ wr = w) (fun _ kk _ => s.size - (intOf kk).toNat)
  case atStart =>
    have e : (s.data.toList.take 1).drop 1 = [] := List.drop_eq_nil_of_le (by rw [List.length_take]; omega)
    exact ⟨1, Nat.le_refl _, by omega, rfl, by rw [e]; rfl, by rw [e]; rfl, rfl⟩
  case round =>
    obtain ⟨k, hk0, hk, rfl, rfl, hall, rfl⟩ := hrel
    by_cases hlt : k < s.size
    · have hi1 : (k : Int) < (s.size : Int) := by omega
      have hi0 : (0 : Int) ≤ (k : Int) := by omega
      by_cases hd1 : s[k].toNat < 48
      · have hf := hR.out
        rw [bodyR_dig s[k] (mem_drop s 1 k hk0 hlt) (isDig_no (.inl hd1))] at hf
        injection hf with e1 e2
        subst e1 e2
        go_wp2
        go_ret2
        exact ⟨rfl, Below.refl _ _⟩
      by_cases hd2 : 57 < s[k].toNat
      · have hf := hR.out
        rw [bodyR_dig s[k] (mem_drop s 1 k hk0 hlt) (isDig_no (.inr hd2))] at hf
        injection hf with e1 e2
        subst e1 e2
        go_wp2
        go_ret2
        exact ⟨rfl, Below.refl _ _⟩
      have htk := take_dig s 1 k hk0 hlt
      have hbound : valFrom 0 ((s.data.toList.take k).drop 1) < 10000000000 := by
        have h := valFrom_lt ((s.data.toList.take k).drop 1) 0 (List.all_eq_true.1 hall.out)
        have hl : ((s.data.toList.take k).drop 1).length ≤ 10 := by rw [List.length_drop, List.length_take, ← Lib.size_eq]; omega
        have h10 : (10 : Nat) ^ ((s.data.toList.take k).drop 1).length ≤ 10 ^ 10 := Nat.pow_le_pow_right (by decide) hl
        have : (10 : Nat) ^ 10 = 10000000000 := by decide
        omega
      have hval : valFrom 0 ((s.data.toList.take (k + 1)).drop 1) = valFrom 0 ((s.data.toList.take k).drop 1) * 10 + (s[k].toNat - 48) := by rw [htk, valFrom_snoc]
      have hall2 : Hid (((s.data.toList.take (k + 1)).drop 1).all isDig = true) := by
        have : ((s.data.toList.take (k + 1)).drop 1).all isDig = true := by
          rw [htk, List.all_append, hall.out]
          simp only [List.all_cons, List.all_nil, Bool.and_true, Bool.true_and]
          exact (isDig_iff _).2 (by omega)
        exact this
      have hV : Hid (valFrom 0 ((s.data.toList.take (k + 1)).drop 1) = valFrom 0 ((s.data.toList.take k).drop 1) * 10 + (s[k].toNat - 48)) := hval
      clear htk hval hall
      generalize valFrom 0 ((s.data.toList.take k).drop 1) = v at hbound hV ⊢
      go_wp2
      go_roundw
      case rel =>
        refine ⟨k + 1, by omega, by omega, by go_num, ?_, hall2, by trivial⟩
        rw [hV.out]
        congr 1
        omega
      case measure => simp [intOf]; omega
    · have hkl : k = s.size := by omega
      subst hkl
      have hi1 : ¬ (s.size : Int) < (s.size : Int) := by omega
      have htake : s.data.toList.take s.size = s.data.toList := by rw [Lib.size_eq]; exact List.take_length
      rw [htake] at hall ⊢
      have hbound : valFrom 0 (s.data.toList.drop 1) < 10000000000 := by
        have h := valFrom_lt (s.data.toList.drop 1) 0 (List.all_eq_true.1 hall.out)
        have hl : (s.data.toList.drop 1).length ≤ 10 := by rw [hrl.out]; omega
        have h10 : (10 : Nat) ^ (s.data.toList.drop 1).length ≤ 10 ^ 10 := Nat.pow_le_pow_right (by decide) hl
        have : (10 : Nat) ^ 10 = 10000000000 := by decide
        omega
      have hlen : Hid (¬ ((s.data.toList.drop 1).length < 1 ∨ 10 < (s.data.toList.drop 1).length)) := by
        have : ¬ ((s.data.toList.drop 1).length < 1 ∨ 10 < (s.data.toList.drop 1).length) := by rw [hrl.out]; omega
        exact this
      have hhd : Hid ((s.data.toList.drop 1).head? = some (s[1]'(by omega))) := head_drop s 1 (by omega)
      have hi48 : 1 < s.size := by omega
      have hii : (1 : Int) < (s.size : Int) := by omega
      by_cases h48 : (s[1]'(by omega)).toNat = 48
      · have h48' : Hid ((s.data.toList.drop 1).head? = some 48) := by
          have : (s.data.toList.drop 1).head? = some 48 := by rw [hhd.out]; congr 1; exact (byte_eq (n := 48) (by decide)).2 h48
          exact this
        have hf := hR.out
        rw [bodyR_nought h48'.out (.inl rfl)] at hf
        injection hf with e1 e2
        subst e1 e2
        go_wp2
        go_ret2
        exact ⟨rfl, Below.refl _ _⟩
      · have hno : Hid (¬ ((s.data.toList.drop 1).head? = some 48 ∧ (true = true ∨ 1 < s.size))) := by
          have : ¬ ((s.data.toList.drop 1).head? = some 48 ∧ (true = true ∨ 1 < s.size)) := by
            rintro ⟨e, _⟩
            rw [hhd.out] at e
            injection e with e
            exact h48 (by rw [e]; rfl)
          exact this
        have hf := hR.out
        rw [bodyR_yes hlen.out hall.out hno.out] at hf
        injection hf with e1 e2
        rw [if_pos rfl] at e1
        subst e2
        clear hno hlen hhd hR hrl hall
        generalize valFrom 0 (s.data.toList.drop 1) = v at hbound e1 ⊢
        have hA : Hid (_ = a) := e1
        clear e1
        go_wp2
        go_ret2
        exact ⟨by rw [← hA.out]; rfl, Below.refl _ _⟩

end Go.Proofs.YtmmandkellhbeaaGreatDoor

/-
  The contract of the model's reading of a cell.
-/
namespace Go.Proofs.YtmmandkellhbeaaGreatDoor
open Go.ChangeShapes Go.WideShapes Go.ChangeAt Go.RowKit
attribute [local go_sem ↓] Go.wp_at_zero Go.wp_at_succ

set_option maxRecDepth 100000 in
theorem most_spec (s : ByteArray) (hs : s.size ≤ maxLen) (w : World) (a : Int) (b : Bool) (hR : mostR s.data.toList = (a, b)) :
    Calls Tryz.prog 100 #[.string s, .int .i64 10] w fun e w' => e = .returned (.tuple #[.int .i64 a, .bool b]) ∧ Below w.heap.size w w' := by
  rw [mostR_body] at hR
  by_cases hp : s.size = 0
  · have hs0 : s = ⟨#[]⟩ := bytes_ext (by rw [Lib.size_eq] at hp; exact List.length_eq_zero_iff.1 hp)
    subst hs0
    have hf : bodyR false 0 [] = (a, b) := hR
    rw [bodyR_len (.inl (by simp))] at hf
    injection hf with e1 e2
    subst e1 e2
    clear hR
    go_enter Tryz.func100, Tryz.ntmps100
    go_wp2
    go_ret2
    exact ⟨rfl, Below.refl _ _⟩
  · have hh := head_drop s 0 (by omega)
    rw [List.drop_zero] at hh
    by_cases h0 : (s[0]'(by omega)).toNat = 45
    · have e : decide (s.data.toList.head? = some 45) = true := by rw [hh, decide_eq_true_eq]; congr 1; exact (byte_eq (n := 45) (by decide)).2 h0
      rw [e, if_pos rfl, ← Lib.size_eq] at hR
      exact most_neg s hs (by omega) h0 w a b hR
    · have e : decide (s.data.toList.head? = some 45) = false := by
        rw [hh, decide_eq_false_iff_not]
        intro x
        injection x with x
        exact h0 (by rw [x]; rfl)
      rw [e, if_neg (by decide), ← Lib.size_eq] at hR
      exact most_pos s hs (by omega) h0 w a b (by rw [List.drop_zero]; exact hR)

/-- What a text is read as, as both answer it. -/
def readR (s : ByteArray) : Int × Int × ByteArray × Bool := match readB s with
  | some (k, n, t) => (k, n, t, true)
  | none => (0, 0, ⟨#[]⟩, false)
theorem readR_most {s : ByteArray} {a : Int} (h1 : ¬ s.data.toList = wNone) (h2 : ¬ s.data.toList = wYes) (h3 : ¬ s.data.toList = wNo) (hm : mostR s.data.toList = (a, true)) :
    readR s = if numB a = true then (1, a, ⟨#[]⟩, true) else (0, 0, ⟨#[]⟩, false) := by
  unfold readR readB
  rw [if_neg h1, if_neg h2, if_neg h3]
  unfold mostR at hm
  cases hr : readMost s.data.toList with
  | none => rw [hr] at hm; injection hm with _ e; cases e
  | some n =>
    rw [hr] at hm
    injection hm with e _
    subst e
    simp only []
    by_cases hn : numB n = true
    · rw [if_pos hn, if_pos hn]
    · rw [if_neg hn, if_neg hn]
theorem readR_text {s : ByteArray} {a : Int} (h1 : ¬ s.data.toList = wNone) (h2 : ¬ s.data.toList = wYes) (h3 : ¬ s.data.toList = wNo) (hm : mostR s.data.toList = (a, false)) :
    a = 0 ∧ readR s = if 1 < s.size ∧ s.data.toList.head? = some 39 ∧ s.data.toList.getLast? = some 39 then (if textB (inner s) = true then (2, 0, inner s, true) else (0, 0, ⟨#[]⟩, false)) else (0, 0, ⟨#[]⟩, false) := by
  unfold readR readB
  rw [if_neg h1, if_neg h2, if_neg h3]
  unfold mostR at hm
  cases hr : readMost s.data.toList with
  | some n => rw [hr] at hm; injection hm with _ e; cases e
  | none =>
    rw [hr] at hm
    injection hm with e _
    refine ⟨e.symm, ?_⟩
    simp only []
    by_cases hq : 1 < s.size ∧ s.data.toList.head? = some 39 ∧ s.data.toList.getLast? = some 39
    · rw [if_pos hq, if_pos hq]
      by_cases ht : textB (inner s) = true
      · rw [if_pos ht, if_pos ht]
      · rw [if_neg ht, if_neg ht]
    · rw [if_neg hq, if_neg hq]
theorem last_get (s : ByteArray) (h : 0 < s.size) : s.data.toList.getLast? = some (s[s.size - 1]'(by omega)) := by
  rw [List.getLast?_eq_getElem?, ← Lib.size_eq, List.getElem?_eq_getElem (by rw [← Lib.size_eq]; omega)]; rfl

/-- Two new blocks of three, in every later world, and that both may be written. -/
theorem two3F {w w1 : World} {a b c : Value} {T : TypeId} {x y z : Value} {U : TypeId}
    (hb : Below ((w.alloc (.cells #[a, b, c] T)).alloc (.cells #[x, y, z] U)).heap.size ((w.alloc (.cells #[a, b, c] T)).alloc (.cells #[x, y, z] U)) w1) :
    ((w1.cell? ⟨w.heap.size, 0, none⟩ = some a ∧ w1.cell? ⟨w.heap.size, 1, none⟩ = some b ∧ w1.cell? ⟨w.heap.size, 2, none⟩ = some c ∧ w.heap.size < w1.heap.size) ∧
    (w1.cell? ⟨w.heap.size + 1, 0, none⟩ = some x ∧ w1.cell? ⟨w.heap.size + 1, 1, none⟩ = some y ∧ w1.cell? ⟨w.heap.size + 1, 2, none⟩ = some z ∧ w.heap.size + 1 < w1.heap.size)) ∧
    ((w1.frozen? ⟨w.heap.size, 0, none⟩ = false ∧ w1.frozen? ⟨w.heap.size, 1, none⟩ = false ∧ w1.frozen? ⟨w.heap.size, 2, none⟩ = false) ∧
    (w1.frozen? ⟨w.heap.size + 1, 0, none⟩ = false ∧ w1.frozen? ⟨w.heap.size + 1, 1, none⟩ = false ∧ w1.frozen? ⟨w.heap.size + 1, 2, none⟩ = false)) := by
  obtain ⟨h1, h2, h3⟩ := two3 hb
  refine ⟨⟨h1, h2⟩, ⟨?_, ?_, ?_⟩, h3⟩
  · rw [hb.frozen (p := ⟨w.heap.size, 0, none⟩) (by simp; omega)]; simp [go_sem]
  · rw [hb.frozen (p := ⟨w.heap.size, 1, none⟩) (by simp; omega)]; simp [go_sem]
  · rw [hb.frozen (p := ⟨w.heap.size, 2, none⟩) (by simp; omega)]; simp [go_sem]

/-- Three cells of a block are written: they hold it, and what lies in another block stays. -/
theorem set3 {w W : World} {B : Nat} {x y z p q r : Value} (hW : W = ((w.setCell ⟨B, 0, none⟩ x).setCell ⟨B, 1, none⟩ y).setCell ⟨B, 2, none⟩ z) (h : w.cell? ⟨B, 0, none⟩ = some p ∧ w.cell? ⟨B, 1, none⟩ = some q ∧ w.cell? ⟨B, 2, none⟩ = some r) :
    (W.cell? ⟨B, 0, none⟩ = some x ∧ W.cell? ⟨B, 1, none⟩ = some y ∧ W.cell? ⟨B, 2, none⟩ = some z) ∧ W.heap.size = w.heap.size ∧ (∀ D o, D ≠ B → W.cell? ⟨D, o, none⟩ = w.cell? ⟨D, o, none⟩) ∧ (∀ D o, W.frozen? ⟨D, o, none⟩ = w.frozen? ⟨D, o, none⟩) := by
  obtain ⟨h0, h1, h2⟩ := h
  have c1 : ((w.setCell ⟨B, 0, none⟩ x).cell? ⟨B, 1, none⟩) = some q := by rw [cell_off _ _ _ _ _ (by decide)]; exact h1
  have c2 : (((w.setCell ⟨B, 0, none⟩ x).setCell ⟨B, 1, none⟩ y).cell? ⟨B, 2, none⟩) = some r := by rw [cell_off _ _ _ _ _ (by decide), cell_off _ _ _ _ _ (by decide)]; exact h2
  subst hW
  refine ⟨⟨?_, ?_, ?_⟩, by simp, ?_, ?_⟩
  · rw [cell_off _ _ _ _ _ (by decide), cell_off _ _ _ _ _ (by decide), cell_here _ _ _ _ (by rw [h0]; rfl)]
  · rw [cell_off _ _ _ _ _ (by decide), cell_here _ _ _ _ (by rw [c1]; rfl)]
  · rw [cell_here _ _ _ _ (by rw [c2]; rfl)]
  · intro D o hD
    rw [cell_far _ _ _ _ _ _ hD, cell_far _ _ _ _ _ _ hD, cell_far _ _ _ _ _ _ hD]
  · intro D o
    simp

set_option maxRecDepth 100000 in
set_option maxHeartbeats 4000000 in
theorem readcell_spec (s : ByteArray) (hs : s.size ≤ 1048576) (w : World) (k n : Int) (t : ByteArray) (b : Bool) (hR0 : readR s = (k, n, t, b)) :
    Calls Tryz.prog 153 #[.string s] w fun e w' => e = .returned (.tuple #[.agg #[.int .i64 k, .int .i64 n, .string t], .bool b]) ∧ Below w.heap.size w w' := by
  by_cases h1 : s.data.toList = wNone
  · have e : s = ⟨wNone.toArray⟩ := bytes_ext h1
    subst e
    have hf : (0, 0, ⟨#[]⟩, true) = (k, n, t, b) := hR0
    injection hf with e1 hf; injection hf with e2 hf; injection hf with e3 e4
    subst e1 e2 e3 e4
    clear hR0
    go_enter Tryz.func153, Tryz.ntmps153
    go_wp2
    go_returns
    exact ⟨rfl, by go_grown⟩
  by_cases h2 : s.data.toList = wYes
  · have e : s = ⟨wYes.toArray⟩ := bytes_ext h2
    subst e
    have hf : (3, 1, ⟨#[]⟩, true) = (k, n, t, b) := hR0
    injection hf with e1 hf; injection hf with e2 hf; injection hf with e3 e4
    subst e1 e2 e3 e4
    clear hR0
    go_enter Tryz.func153, Tryz.ntmps153
    go_wp2_with fail
    refine (truth_specb _ 1 rfl _).mono ?_
    rintro e w1 ⟨rfl, hb1⟩
    obtain ⟨⟨a1, b1, c1, d1⟩, f1, f2, f3⟩ := box3F hb1
    go_wp2
    generalize hZ : ((w1.setCell ⟨w.heap.size, 0, none⟩ _).setCell ⟨w.heap.size, 1, none⟩ _).setCell ⟨w.heap.size, 2, none⟩ _ = Z
    obtain ⟨⟨z1, z2, z3⟩, _, _, _⟩ := set3 hZ.symm ⟨a1, b1, c1⟩
    refine bodyPost_ret (by simp [results, Tryz.results153, go_sem, z1, z2, z3]; try rfl) rfl ?_
    exact ⟨rfl, by rw [← hZ]; exact (((chainA hb1).setCell (Nat.le_refl _) _).setCell (Nat.le_refl _) _).setCell (Nat.le_refl _) _⟩
  by_cases h3 : s.data.toList = wNo
  · have e : s = ⟨wNo.toArray⟩ := bytes_ext h3
    subst e
    have hf : (3, 0, ⟨#[]⟩, true) = (k, n, t, b) := hR0
    injection hf with e1 hf; injection hf with e2 hf; injection hf with e3 e4
    subst e1 e2 e3 e4
    clear hR0
    go_enter Tryz.func153, Tryz.ntmps153
    go_wp2_with fail
    refine (truth_specb _ 0 rfl _).mono ?_
    rintro e w1 ⟨rfl, hb1⟩
    obtain ⟨⟨a1, b1, c1, d1⟩, f1, f2, f3⟩ := box3F hb1
    go_wp2
    generalize hZ : ((w1.setCell ⟨w.heap.size, 0, none⟩ _).setCell ⟨w.heap.size, 1, none⟩ _).setCell ⟨w.heap.size, 2, none⟩ _ = Z
    obtain ⟨⟨z1, z2, z3⟩, _, _, _⟩ := set3 hZ.symm ⟨a1, b1, c1⟩
    refine bodyPost_ret (by simp [results, Tryz.results153, go_sem, z1, z2, z3]; try rfl) rfl ?_
    exact ⟨rfl, by rw [← hZ]; exact (((chainA hb1).setCell (Nat.le_refl _) _).setCell (Nat.le_refl _) _).setCell (Nat.le_refl _) _⟩
  have hR : Hid (readR s = (k, n, t, b)) := hR0
  clear hR0
  have q1 : (s.toList == [110, 111, 110, 101]) = false := by rw [Lib.toList_data]; exact beq_eq_false_iff_ne.2 h1
  have q2 : (s.toList == [121, 101, 115]) = false := by rw [Lib.toList_data]; exact beq_eq_false_iff_ne.2 h2
  have q3 : (s.toList == [110, 111]) = false := by rw [Lib.toList_data]; exact beq_eq_false_iff_ne.2 h3
  have hsM : s.size ≤ maxLen := by unfold maxLen; omega
  obtain ⟨a, bm, hm⟩ : ∃ a b, mostR s.data.toList = (a, b) := ⟨_, _, rfl⟩
  cases bm with
  | true =>
    have hf := hR.out
    rw [readR_most h1 h2 h3 hm] at hf
    clear h1 h2 h3 hR
    have hM : Hid (mostR s.data.toList = (a, true)) := hm
    clear hm
    cases hnb : numB a with
    | true =>
      rw [hnb, if_pos rfl] at hf
      injection hf with e1 hf; injection hf with e2 hf; injection hf with e3 e4
      subst e1 e2 e3 e4
      have hok : okB 1 a ⟨#[]⟩ = true := okB_1'.trans hnb
      go_enter Tryz.func153, Tryz.ntmps153
      go_wp2_with fail
      refine (most_spec s hsM _ _ _ hM.out).mono ?_
      rintro e w1 ⟨rfl, hb1⟩
      obtain ⟨⟨⟨a1, b1, c1, d1⟩, a2, b2, c2, d2⟩, ⟨f1, f2, f3⟩, g1, g2, g3⟩ := two3F hb1
      go_wp2_with fail
      generalize hW : ((w1.setCell ⟨w.heap.size + 1, 0, none⟩ _).setCell ⟨w.heap.size + 1, 1, none⟩ _).setCell ⟨w.heap.size + 1, 2, none⟩ _ = W
      obtain ⟨⟨e1, e2, e3⟩, e4, e5, e6⟩ := set3 hW.symm ⟨a2, b2, c2⟩
      have hbW : Below w.heap.size w W := by rw [← hW]; exact (((chainAA hb1).setCell (by simp) _).setCell (by simp) _).setCell (by simp) _
      refine (ok_specb _ _ _ _ hok _ (Nat.zero_le _)).mono ?_
      rintro e w2 ⟨rfl, hb2⟩
      obtain ⟨p1, p2, p3, p4⟩ := later3 hb2 ⟨e1, e2, e3, by omega⟩
      obtain ⟨r1, r2, r3, r4⟩ := later3 (B := w.heap.size) hb2 ⟨(e5 _ _ (by omega)).trans a1, (e5 _ _ (by omega)).trans b1, (e5 _ _ (by omega)).trans c1, by omega⟩
      obtain ⟨s1, s2, s3⟩ := frozen3 (B := w.heap.size) hb2 (by omega) ⟨(e6 _ _).trans f1, (e6 _ _).trans f2, (e6 _ _).trans f3⟩
      have hb3 := chain hbW hb2
      clear e1 e2 e3 e5 e6 a1 b1 c1 a2 b2 c2 f1 f2 f3 g1 g2 g3 hW hb2 hbW
      go_wp2
      generalize hZ : ((w2.setCell ⟨w.heap.size, 0, none⟩ _).setCell ⟨w.heap.size, 1, none⟩ _).setCell ⟨w.heap.size, 2, none⟩ _ = Z
      obtain ⟨⟨z1, z2, z3⟩, _, _, _⟩ := set3 hZ.symm ⟨r1, r2, r3⟩
      refine bodyPost_ret (by simp [results, Tryz.results153, go_sem, z1, z2, z3]; try rfl) rfl ?_
      exact ⟨rfl, by rw [← hZ]; exact ((hb3.setCell (Nat.le_refl _) _).setCell (Nat.le_refl _) _).setCell (Nat.le_refl _) _⟩
    | false =>
      rw [hnb, if_neg (by decide)] at hf
      injection hf with e1 hf; injection hf with e2 hf; injection hf with e3 e4
      subst e1 e2 e3 e4
      have hok : okB 1 a ⟨#[]⟩ = false := okB_1'.trans hnb
      go_enter Tryz.func153, Tryz.ntmps153
      go_wp2_with fail
      refine (most_spec s hsM _ _ _ hM.out).mono ?_
      rintro e w1 ⟨rfl, hb1⟩
      obtain ⟨⟨⟨a1, b1, c1, d1⟩, a2, b2, c2, d2⟩, ⟨f1, f2, f3⟩, g1, g2, g3⟩ := two3F hb1
      go_wp2_with fail
      generalize hW : ((w1.setCell ⟨w.heap.size + 1, 0, none⟩ _).setCell ⟨w.heap.size + 1, 1, none⟩ _).setCell ⟨w.heap.size + 1, 2, none⟩ _ = W
      obtain ⟨⟨e1, e2, e3⟩, e4, e5, e6⟩ := set3 hW.symm ⟨a2, b2, c2⟩
      have hbW : Below w.heap.size w W := by rw [← hW]; exact (((chainAA hb1).setCell (by simp) _).setCell (by simp) _).setCell (by simp) _
      refine (ok_specb _ _ _ _ hok _ (Nat.zero_le _)).mono ?_
      rintro e w2 ⟨rfl, hb2⟩
      obtain ⟨p1, p2, p3, p4⟩ := later3 hb2 ⟨e1, e2, e3, by omega⟩
      obtain ⟨r1, r2, r3, r4⟩ := later3 (B := w.heap.size) hb2 ⟨(e5 _ _ (by omega)).trans a1, (e5 _ _ (by omega)).trans b1, (e5 _ _ (by omega)).trans c1, by omega⟩
      obtain ⟨s1, s2, s3⟩ := frozen3 (B := w.heap.size) hb2 (by omega) ⟨(e6 _ _).trans f1, (e6 _ _).trans f2, (e6 _ _).trans f3⟩
      have hb3 := chain hbW hb2
      clear e1 e2 e3 e5 e6 a1 b1 c1 a2 b2 c2 f1 f2 f3 g1 g2 g3 hW hb2 hbW
      go_wp2
      generalize hZ : ((w2.setCell ⟨w.heap.size, 0, none⟩ _).setCell ⟨w.heap.size, 1, none⟩ _).setCell ⟨w.heap.size, 2, none⟩ _ = Z
      obtain ⟨⟨z1, z2, z3⟩, _, _, _⟩ := set3 hZ.symm ⟨r1, r2, r3⟩
      refine bodyPost_ret (by simp [results, Tryz.results153, go_sem, z1, z2, z3]; try rfl) rfl ?_
      exact ⟨rfl, by rw [← hZ]; exact ((hb3.setCell (Nat.le_refl _) _).setCell (Nat.le_refl _) _).setCell (Nat.le_refl _) _⟩
  | false =>
    obtain ⟨rfl, hf0⟩ := readR_text h1 h2 h3 hm
    have hf := hR.out
    rw [hf0] at hf
    clear h1 h2 h3 hR hf0
    have hM : Hid (mostR s.data.toList = (0, false)) := hm
    clear hm
    by_cases hq1 : 1 < s.size
    · have hl := last_get s (by omega)
      have hh := head_drop s 0 (by omega)
      rw [List.drop_zero] at hh
      have hq1' : (1 : Int) < (s.size : Int) := by omega
      have hw1 : wrap64 ((s.size : Int) - 1) = (s.size : Int) - 1 := by unfold wrap64; omega
      have hw2 : ((s.size : Int) - 1).toNat = s.size - 1 := by omega
      have hp1 : (0 : Int) < (s.size : Int) := by omega
      by_cases hq2 : (s[0]'(by omega)).toNat = 39
      · by_cases hq3 : (s[s.size - 1]'(by omega)).toNat = 39
        · rw [if_pos ⟨hq1, by rw [hh]; congr 1; exact (byte_eq (n := 39) (by decide)).2 hq2, by rw [hl]; congr 1; exact (byte_eq (n := 39) (by decide)).2 hq3⟩] at hf
          have hin : (inner s).size ≤ maxLen := by
            have : (inner s).size ≤ s.size := by unfold inner; rw [Lib.size_eq, Lib.extract_data, List.length_take, List.length_drop, ← Lib.size_eq]; omega
            omega
          have hex : s.extract 1 (s.size - 1) = inner s := rfl
          cases htb : textB (inner s) with
          | true =>
            rw [htb, if_pos rfl] at hf
            have hok : okB 2 0 (inner s) = true := okB_2'.trans htb
            generalize inner s = u at hf hok hin hex htb
            injection hf with e1 hf; injection hf with e2 hf; injection hf with e3 e4
            subst e1 e2 e3 e4
            go_enter Tryz.func153, Tryz.ntmps153
            go_wp2_with fail
            refine (most_spec s hsM _ _ _ hM.out).mono ?_
            rintro e w1 ⟨rfl, hb1⟩
            obtain ⟨⟨⟨a1, b1, c1, d1⟩, a2, b2, c2, d2⟩, ⟨f1, f2, f3⟩, g1, g2, g3⟩ := two3F hb1
            go_wp2_with fail
            generalize hW : ((w1.setCell ⟨w.heap.size + 1, 0, none⟩ _).setCell ⟨w.heap.size + 1, 1, none⟩ _).setCell ⟨w.heap.size + 1, 2, none⟩ _ = W
            obtain ⟨⟨e1, e2, e3⟩, e4, e5, e6⟩ := set3 hW.symm ⟨a2, b2, c2⟩
            have hbW : Below w.heap.size w W := by rw [← hW]; exact (((chainAA hb1).setCell (by simp) _).setCell (by simp) _).setCell (by simp) _
            refine (ok_specb _ _ _ _ hok _ hin).mono ?_
            rintro e w2 ⟨rfl, hb2⟩
            obtain ⟨p1, p2, p3, p4⟩ := later3 hb2 ⟨e1, e2, e3, by omega⟩
            obtain ⟨r1, r2, r3, r4⟩ := later3 (B := w.heap.size) hb2 ⟨(e5 _ _ (by omega)).trans a1, (e5 _ _ (by omega)).trans b1, (e5 _ _ (by omega)).trans c1, by omega⟩
            obtain ⟨s1, s2, s3⟩ := frozen3 (B := w.heap.size) hb2 (by omega) ⟨(e6 _ _).trans f1, (e6 _ _).trans f2, (e6 _ _).trans f3⟩
            have hb3 := chain hbW hb2
            clear e1 e2 e3 e5 e6 a1 b1 c1 a2 b2 c2 f1 f2 f3 g1 g2 g3 hW hb2 hbW
            go_wp2
            generalize hZ : ((w2.setCell ⟨w.heap.size, 0, none⟩ _).setCell ⟨w.heap.size, 1, none⟩ _).setCell ⟨w.heap.size, 2, none⟩ _ = Z
            obtain ⟨⟨z1, z2, z3⟩, _, _, _⟩ := set3 hZ.symm ⟨r1, r2, r3⟩
            refine bodyPost_ret (by simp [results, Tryz.results153, go_sem, z1, z2, z3]; try rfl) rfl ?_
            exact ⟨rfl, by rw [← hZ]; exact ((hb3.setCell (Nat.le_refl _) _).setCell (Nat.le_refl _) _).setCell (Nat.le_refl _) _⟩
          | false =>
            rw [htb, if_neg (by decide)] at hf
            have hok : okB 2 0 (inner s) = false := okB_2'.trans htb
            generalize inner s = u at hf hok hin hex htb
            injection hf with e1 hf; injection hf with e2 hf; injection hf with e3 e4
            subst e1 e2 e3 e4
            go_enter Tryz.func153, Tryz.ntmps153
            go_wp2_with fail
            refine (most_spec s hsM _ _ _ hM.out).mono ?_
            rintro e w1 ⟨rfl, hb1⟩
            obtain ⟨⟨⟨a1, b1, c1, d1⟩, a2, b2, c2, d2⟩, ⟨f1, f2, f3⟩, g1, g2, g3⟩ := two3F hb1
            go_wp2_with fail
            generalize hW : ((w1.setCell ⟨w.heap.size + 1, 0, none⟩ _).setCell ⟨w.heap.size + 1, 1, none⟩ _).setCell ⟨w.heap.size + 1, 2, none⟩ _ = W
            obtain ⟨⟨e1, e2, e3⟩, e4, e5, e6⟩ := set3 hW.symm ⟨a2, b2, c2⟩
            have hbW : Below w.heap.size w W := by rw [← hW]; exact (((chainAA hb1).setCell (by simp) _).setCell (by simp) _).setCell (by simp) _
            refine (ok_specb _ _ _ _ hok _ hin).mono ?_
            rintro e w2 ⟨rfl, hb2⟩
            obtain ⟨p1, p2, p3, p4⟩ := later3 hb2 ⟨e1, e2, e3, by omega⟩
            obtain ⟨r1, r2, r3, r4⟩ := later3 (B := w.heap.size) hb2 ⟨(e5 _ _ (by omega)).trans a1, (e5 _ _ (by omega)).trans b1, (e5 _ _ (by omega)).trans c1, by omega⟩
            obtain ⟨s1, s2, s3⟩ := frozen3 (B := w.heap.size) hb2 (by omega) ⟨(e6 _ _).trans f1, (e6 _ _).trans f2, (e6 _ _).trans f3⟩
            have hb3 := chain hbW hb2
            clear e1 e2 e3 e5 e6 a1 b1 c1 a2 b2 c2 f1 f2 f3 g1 g2 g3 hW hb2 hbW
            go_wp2
            generalize hZ : ((w2.setCell ⟨w.heap.size, 0, none⟩ _).setCell ⟨w.heap.size, 1, none⟩ _).setCell ⟨w.heap.size, 2, none⟩ _ = Z
            obtain ⟨⟨z1, z2, z3⟩, _, _, _⟩ := set3 hZ.symm ⟨r1, r2, r3⟩
            refine bodyPost_ret (by simp [results, Tryz.results153, go_sem, z1, z2, z3]; try rfl) rfl ?_
            exact ⟨rfl, by rw [← hZ]; exact ((hb3.setCell (Nat.le_refl _) _).setCell (Nat.le_refl _) _).setCell (Nat.le_refl _) _⟩
        · rw [if_neg (by rintro ⟨_, _, e⟩; rw [hl] at e; injection e with e; exact hq3 (by rw [e]; rfl))] at hf
          injection hf with e1 hf; injection hf with e2 hf; injection hf with e3 e4
          subst e1 e2 e3 e4
          go_enter Tryz.func153, Tryz.ntmps153
          go_wp2_with fail
          refine (most_spec s hsM _ _ _ hM.out).mono ?_
          rintro e w1 ⟨rfl, hb1⟩
          obtain ⟨⟨⟨a1, b1, c1, d1⟩, a2, b2, c2, d2⟩, ⟨f1, f2, f3⟩, g1, g2, g3⟩ := two3F hb1
          go_wp2
          generalize hZ : ((w1.setCell ⟨w.heap.size, 0, none⟩ _).setCell ⟨w.heap.size, 1, none⟩ _).setCell ⟨w.heap.size, 2, none⟩ _ = Z
          obtain ⟨⟨z1, z2, z3⟩, _, _, _⟩ := set3 hZ.symm ⟨a1, b1, c1⟩
          refine bodyPost_ret (by simp [results, Tryz.results153, go_sem, z1, z2, z3]; try rfl) rfl ?_
          exact ⟨rfl, by rw [← hZ]; exact (((chainAA hb1).setCell (Nat.le_refl _) _).setCell (Nat.le_refl _) _).setCell (Nat.le_refl _) _⟩
      · rw [if_neg (by rintro ⟨_, e, _⟩; rw [hh] at e; injection e with e; exact hq2 (by rw [e]; rfl))] at hf
        injection hf with e1 hf; injection hf with e2 hf; injection hf with e3 e4
        subst e1 e2 e3 e4
        go_enter Tryz.func153, Tryz.ntmps153
        go_wp2_with fail
        refine (most_spec s hsM _ _ _ hM.out).mono ?_
        rintro e w1 ⟨rfl, hb1⟩
        obtain ⟨⟨⟨a1, b1, c1, d1⟩, a2, b2, c2, d2⟩, ⟨f1, f2, f3⟩, g1, g2, g3⟩ := two3F hb1
        go_wp2
        generalize hZ : ((w1.setCell ⟨w.heap.size, 0, none⟩ _).setCell ⟨w.heap.size, 1, none⟩ _).setCell ⟨w.heap.size, 2, none⟩ _ = Z
        obtain ⟨⟨z1, z2, z3⟩, _, _, _⟩ := set3 hZ.symm ⟨a1, b1, c1⟩
        refine bodyPost_ret (by simp [results, Tryz.results153, go_sem, z1, z2, z3]; try rfl) rfl ?_
        exact ⟨rfl, by rw [← hZ]; exact (((chainAA hb1).setCell (Nat.le_refl _) _).setCell (Nat.le_refl _) _).setCell (Nat.le_refl _) _⟩
    · have hq1' : ¬ (1 : Int) < (s.size : Int) := by omega
      rw [if_neg (by rintro ⟨e, _⟩; exact hq1 e)] at hf
      injection hf with e1 hf; injection hf with e2 hf; injection hf with e3 e4
      subst e1 e2 e3 e4
      go_enter Tryz.func153, Tryz.ntmps153
      go_wp2_with fail
      refine (most_spec s hsM _ _ _ hM.out).mono ?_
      rintro e w1 ⟨rfl, hb1⟩
      obtain ⟨⟨⟨a1, b1, c1, d1⟩, a2, b2, c2, d2⟩, ⟨f1, f2, f3⟩, g1, g2, g3⟩ := two3F hb1
      go_wp2
      generalize hZ : ((w1.setCell ⟨w.heap.size, 0, none⟩ _).setCell ⟨w.heap.size, 1, none⟩ _).setCell ⟨w.heap.size, 2, none⟩ _ = Z
      obtain ⟨⟨z1, z2, z3⟩, _, _, _⟩ := set3 hZ.symm ⟨a1, b1, c1⟩
      refine bodyPost_ret (by simp [results, Tryz.results153, go_sem, z1, z2, z3]; try rfl) rfl ?_
      exact ⟨rfl, by rw [← hZ]; exact (((chainAA hb1).setCell (Nat.le_refl _) _).setCell (Nat.le_refl _) _).setCell (Nat.le_refl _) _⟩

end Go.Proofs.YtmmandkellhbeaaGreatDoor

/-
  The contract of the program's cell of a truth.
-/
namespace Go.Proofs.YtmmandkellhbeaaGreatDoor
open Go.ChangeShapes Go.WideShapes Go.ChangeAt Go.RowKit

theorem truth_impl (b : Bool) (w : World) :
    Calls Tryz.prog 174 #[.bool b] w fun e w' => e = .returned (.agg #[.int .i64 3, .int .i64 (if b = true then 1 else 0), .string ⟨#[]⟩]) ∧ Below w.heap.size w w' := by
  cases b
  · go_enter Tryz.func174, Tryz.ntmps174
    go_wp2_with fail
    refine (cell3 _ _).mono ?_
    rintro e w1 ⟨rfl, hb1⟩
    obtain ⟨⟨a1, b1, c1, d1⟩, f0, f1, f2⟩ := box3F hb1
    have hx := chainA hb1
    go_wp2
    exact bodyPost_ret (v := .agg #[.int .i64 3, .int .i64 0, .string ⟨#[]⟩]) (by simp [results, Tryz.results174, go_sem, a1, b1, c1]) rfl ⟨rfl, by go_grown⟩
  · go_enter Tryz.func174, Tryz.ntmps174
    go_wp2_with fail
    refine (cell3 _ _).mono ?_
    rintro e w1 ⟨rfl, hb1⟩
    obtain ⟨⟨a1, b1, c1, d1⟩, f0, f1, f2⟩ := box3F hb1
    have hx := chainA hb1
    go_wp2
    exact bodyPost_ret (v := .agg #[.int .i64 3, .int .i64 1, .string ⟨#[]⟩]) (by simp [results, Tryz.results174, go_sem, a1, b1, c1]) rfl ⟨rfl, by go_grown⟩

theorem truth_implb (b : Bool) (n : Int) (hn : (if b = true then 1 else 0) = n) (w : World) :
    Calls Tryz.prog 174 #[.bool b] w fun e w' => e = .returned (.agg #[.int .i64 3, .int .i64 n, .string ⟨#[]⟩]) ∧ Below w.heap.size w w' := by
  subst hn; exact truth_impl b w

end Go.Proofs.YtmmandkellhbeaaGreatDoor
