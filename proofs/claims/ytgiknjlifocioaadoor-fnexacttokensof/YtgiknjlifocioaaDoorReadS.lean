/-
  The contracts of the model's reading of cells.
-/
import Derived.Test.YtgiknjlifocioaaDoorKeyS
namespace Go.Proofs.YtgiknjlifocioaaDoor
open Go.ChangeShapes Go.WideShapes Go.ChangeAt Go.RowKit
attribute [local go_sem ↓] Go.wp_at_zero Go.wp_at_succ

/-- What is read behind the sign. -/
def bodyR (neg : Bool) (len : Nat) (r : List UInt8) : Int × Bool :=
  if r.length < 1 ∨ 10 < r.length then (0, false)
  else if r.all isDig = true then
    if r.head? = some 48 ∧ (neg = true ∨ 1 < len) then (0, false)
    else (if neg = true then -(valFrom 0 r : Int) else valFrom 0 r, true)
  else (0, false)
/-- What is read, as the model answers it. -/
def mostR (l : List UInt8) : Int × Bool := match readMost l with
  | some n => (n, true)
  | none => (0, false)
theorem mostR_body (l : List UInt8) : mostR l = bodyR (decide (l.head? = some 45)) l.length (if decide (l.head? = some 45) = true then l.drop 1 else l) := by
  unfold mostR readMost bodyR
  generalize decide (l.head? = some 45) = neg
  simp only []
  generalize (if neg = true then l.drop 1 else l) = r
  split
  · rename_i n h
    split at h
    · cases h
    · rename_i h1
      rw [if_neg h1]
      split at h
      · rename_i h2
        rw [if_pos h2]
        split at h
        · cases h
        · rename_i h3
          rw [if_neg h3]
          injection h with h
          rw [h]
      · cases h
  · rename_i h
    split at h
    · rename_i h1
      rw [if_pos h1]
    · rename_i h1
      rw [if_neg h1]
      split at h
      · rename_i h2
        rw [if_pos h2]
        split at h
        · rename_i h3
          rw [if_pos h3]
        · cases h
      · rename_i h2
        rw [if_neg h2]
theorem bodyR_len {neg : Bool} {len : Nat} {r : List UInt8} (h : r.length < 1 ∨ 10 < r.length) : bodyR neg len r = (0, false) := if_pos h
theorem bodyR_dig {neg : Bool} {len : Nat} {r : List UInt8} (c : UInt8) (hc : c ∈ r) (h : isDig c = false) : bodyR neg len r = (0, false) := by
  unfold bodyR
  split
  · rfl
  · rw [if_neg]
    intro e
    rw [List.all_eq_true.1 e c hc] at h
    cases h
theorem bodyR_nought {neg : Bool} {len : Nat} {r : List UInt8} (h : r.head? = some 48) (h2 : neg = true ∨ 1 < len) : bodyR neg len r = (0, false) := by
  unfold bodyR
  split
  · rfl
  · split
    · rw [if_pos ⟨h, h2⟩]
    · rfl
theorem bodyR_yes {neg : Bool} {len : Nat} {r : List UInt8} (h : ¬ (r.length < 1 ∨ 10 < r.length)) (hd : r.all isDig = true) (h2 : ¬ (r.head? = some 48 ∧ (neg = true ∨ 1 < len))) : bodyR neg len r = (if neg = true then -(valFrom 0 r : Int) else valFrom 0 r, true) := by
  unfold bodyR
  rw [if_neg h, if_pos hd, if_neg h2]

theorem take_dig (s : ByteArray) (i k : Nat) (hik : i ≤ k) (h : k < s.size) : ((s.data.toList.take (k + 1)).drop i) = (s.data.toList.take k).drop i ++ [s[k]] := by
  rw [take_snoc s k h, List.drop_append_of_le_length (by rw [List.length_take, ← Lib.size_eq]; omega)]
theorem mem_drop (s : ByteArray) (i k : Nat) (hik : i ≤ k) (h : k < s.size) : s[k] ∈ s.data.toList.drop i := by
  have e : (s.data.toList.drop i)[k - i]'(by rw [List.length_drop, ← Lib.size_eq]; omega) = s[k] := by
    rw [List.getElem_drop]
    show s.data.toList[i + (k - i)]'_ = _
    have : i + (k - i) = k := by omega
    simp only [this]
    rfl
  rw [← e]; exact List.getElem_mem _
theorem head_drop (s : ByteArray) (i : Nat) (h : i < s.size) : (s.data.toList.drop i).head? = some s[i] := by
  rw [List.head?_drop, List.getElem?_eq_getElem (by rw [← Lib.size_eq]; exact h)]; rfl
theorem byte_eq {c : UInt8} {n : Nat} (h : n < 256) : c = UInt8.ofNat n ↔ c.toNat = n := by
  constructor
  · intro e; rw [e, UInt8.toNat_ofNat_of_lt' h]
  · intro e; exact UInt8.toNat_inj.1 (by rw [e, UInt8.toNat_ofNat_of_lt' h])
theorem isDig_iff (c : UInt8) : isDig c = true ↔ 48 ≤ c.toNat ∧ c.toNat ≤ 57 := by unfold isDig; rw [Bool.and_eq_true, decide_eq_true_eq, decide_eq_true_eq]
theorem isDig_no {c : UInt8} (h : c.toNat < 48 ∨ 57 < c.toNat) : isDig c = false := by
  cases hd : isDig c with
  | false => rfl
  | true => have := (isDig_iff c).1 hd; omega

set_option maxRecDepth 100000 in
set_option maxHeartbeats 4000000 in
theorem most_pos (s : ByteArray) (hs : s.size ≤ maxLen) (hp : 0 < s.size) (h0 : ¬ s[0].toNat = 45) (w : World) (a : Int) (b : Bool) (hR0 : bodyR false s.size (s.data.toList.drop 0) = (a, b)) :
    Calls Tryd.prog 21 #[.string s, .int .i64 10] w fun e w' => e = .returned (.tuple #[.int .i64 a, .bool b]) ∧ Below w.heap.size w w' := by
  have hR : Hid (bodyR false s.size (s.data.toList.drop 0) = (a, b)) := hR0
  have hrl : Hid ((s.data.toList.drop 0).length = s.size - 0) := by
    have : (s.data.toList.drop 0).length = s.size - 0 := by rw [List.length_drop, ← Lib.size_eq]
    exact this
  clear hR0
  unfold maxLen at hs
  have hne : s.toList.isEmpty = false := by
    rw [Lib.toList_data]
    cases hd : s.data.toList with
    | nil => rw [Lib.size_eq, hd] at hp; simp at hp
    | cons c r => rfl
  have hne2 : ¬ s.toList = [] := by intro e; rw [e] at hne; cases hne
  have hp1 : (0 : Int) < (s.size : Int) := by omega
  have hw : wrap64 ((s.size : Int) - 0) = (s.size : Int) - 0 := by unfold wrap64; omega
  have hw0 : wrap64 (s.size : Int) = (s.size : Int) := by unfold wrap64; omega
  by_cases hl1 : (s.size : Int) - 0 < 1
  · exfalso; omega
  by_cases hl2 : 10 < (s.size : Int) - 0
  · have hf := hR.out
    rw [bodyR_len (.inr (by rw [hrl.out]; omega))] at hf
    injection hf with e1 e2
    subst e1 e2
    go_enter Tryd.func21, Tryd.ntmps21
    go_wp2
    go_ret2
    exact ⟨rfl, Below.refl _ _⟩
  go_enter Tryd.func21, Tryd.ntmps21
  go_wp2
  go_loopw [8, 9] (fun n kk wr => ∃ k : Nat, 0 ≤ k ∧ k ≤ s.size ∧ kk = .int .i64 k ∧ n = .int .i64 (valFrom 0 ((s.data.toList.take k).drop 0)) ∧ Hid (((s.data.toList.take k).drop 0).all isDig = true) ∧ wr = w) (fun _ kk _ => s.size - (intOf kk).toNat)
  case atStart =>
    have e : (s.data.toList.take 0).drop 0 = [] := List.drop_eq_nil_of_le (by rw [List.length_take]; omega)
    exact ⟨0, Nat.le_refl _, by omega, rfl, by rw [e]; rfl, by rw [e]; rfl, rfl⟩
  case round =>
    obtain ⟨k, hk0, hk, rfl, rfl, hall, rfl⟩ := hrel
    by_cases hlt : k < s.size
    · have hi1 : (k : Int) < (s.size : Int) := by omega
      have hi0 : (0 : Int) ≤ (k : Int) := by omega
      by_cases hd1 : s[k].toNat < 48
      · have hf := hR.out
        rw [bodyR_dig s[k] (mem_drop s 0 k hk0 hlt) (isDig_no (.inl hd1))] at hf
        injection hf with e1 e2
        subst e1 e2
        go_wp2
        go_ret2
        exact ⟨rfl, Below.refl _ _⟩
      by_cases hd2 : 57 < s[k].toNat
      · have hf := hR.out
        rw [bodyR_dig s[k] (mem_drop s 0 k hk0 hlt) (isDig_no (.inr hd2))] at hf
        injection hf with e1 e2
        subst e1 e2
        go_wp2
        go_ret2
        exact ⟨rfl, Below.refl _ _⟩
      have htk := take_dig s 0 k hk0 hlt
      have hbound : valFrom 0 ((s.data.toList.take k).drop 0) < 10000000000 := by
        have h := valFrom_lt ((s.data.toList.take k).drop 0) 0 (List.all_eq_true.1 hall.out)
        have hl : ((s.data.toList.take k).drop 0).length ≤ 10 := by rw [List.length_drop, List.length_take, ← Lib.size_eq]; omega
        have h10 : (10 : Nat) ^ ((s.data.toList.take k).drop 0).length ≤ 10 ^ 10 := Nat.pow_le_pow_right (by decide) hl
        have : (10 : Nat) ^ 10 = 10000000000 := by decide
        omega
      have hval : valFrom 0 ((s.data.toList.take (k + 1)).drop 0) = valFrom 0 ((s.data.toList.take k).drop 0) * 10 + (s[k].toNat - 48) := by rw [htk, valFrom_snoc]
      have hall2 : Hid (((s.data.toList.take (k + 1)).drop 0).all isDig = true) := by
        have : ((s.data.toList.take (k + 1)).drop 0).all isDig = true := by
          rw [htk, List.all_append, hall.out]
          simp only [List.all_cons, List.all_nil, Bool.and_true, Bool.true_and]
          exact (isDig_iff _).2 (by omega)
        exact this
      have hV : Hid (valFrom 0 ((s.data.toList.take (k + 1)).drop 0) = valFrom 0 ((s.data.toList.take k).drop 0) * 10 + (s[k].toNat - 48)) := hval
      clear htk hval hall
      generalize valFrom 0 ((s.data.toList.take k).drop 0) = v at hbound hV ⊢
      go_wp2
      go_roundw
      case rel =>
        refine ⟨k + 1, by omega, by omega, by go_num, ?_, hall2, by trivial⟩
        rw [hV.out]
        congr 1
        omega
      case measure => simp [intOf]; omega
    · have hkl : k = s.size := by omega
      subst hkl
      have hi1 : ¬ (s.size : Int) < (s.size : Int) := by omega
      have htake : s.data.toList.take s.size = s.data.toList := by rw [Lib.size_eq]; exact List.take_length
      rw [htake] at hall ⊢
      have hbound : valFrom 0 (s.data.toList.drop 0) < 10000000000 := by
        have h := valFrom_lt (s.data.toList.drop 0) 0 (List.all_eq_true.1 hall.out)
        have hl : (s.data.toList.drop 0).length ≤ 10 := by rw [hrl.out]; omega
        have h10 : (10 : Nat) ^ (s.data.toList.drop 0).length ≤ 10 ^ 10 := Nat.pow_le_pow_right (by decide) hl
        have : (10 : Nat) ^ 10 = 10000000000 := by decide
        omega
      have hlen : Hid (¬ ((s.data.toList.drop 0).length < 1 ∨ 10 < (s.data.toList.drop 0).length)) := by
        have : ¬ ((s.data.toList.drop 0).length < 1 ∨ 10 < (s.data.toList.drop 0).length) := by rw [hrl.out]; omega
        exact this
      have hhd : Hid ((s.data.toList.drop 0).head? = some (s[0]'(by omega))) := head_drop s 0 (by omega)
      have hi48 : 0 < s.size := by omega
      have hii : (0 : Int) < (s.size : Int) := by omega
      by_cases h48 : (s[0]'(by omega)).toNat = 48
      · have h48' : Hid ((s.data.toList.drop 0).head? = some 48) := by
          have : (s.data.toList.drop 0).head? = some 48 := by rw [hhd.out]; congr 1; exact (byte_eq (n := 48) (by decide)).2 h48
          exact this
        by_cases hone : 1 < s.size
        · have hone' : (1 : Int) < (s.size : Int) := by omega
          have hf := hR.out
          rw [bodyR_nought h48'.out (.inr hone)] at hf
          injection hf with e1 e2
          subst e1 e2
          go_wp2
          go_ret2
          exact ⟨rfl, Below.refl _ _⟩
        · have hone' : ¬ (1 : Int) < (s.size : Int) := by omega
          have hno : Hid (¬ ((s.data.toList.drop 0).head? = some 48 ∧ (false = true ∨ 1 < s.size))) := by
            have : ¬ ((s.data.toList.drop 0).head? = some 48 ∧ (false = true ∨ 1 < s.size)) := by
              rintro ⟨_, e | e⟩
              · cases e
              · exact hone e
            exact this
          have hf := hR.out
          rw [bodyR_yes hlen.out hall.out hno.out] at hf
          injection hf with e1 e2
          rw [if_neg (by decide)] at e1
          subst e2
          clear hno hlen hhd hR hrl hall
          generalize valFrom 0 (s.data.toList.drop 0) = v at hbound e1 ⊢
          have hA : Hid (_ = a) := e1
          clear e1
          go_wp2
          go_ret2
          exact ⟨by rw [← hA.out]; rfl, Below.refl _ _⟩
      · have hno : Hid (¬ ((s.data.toList.drop 0).head? = some 48 ∧ (false = true ∨ 1 < s.size))) := by
          have : ¬ ((s.data.toList.drop 0).head? = some 48 ∧ (false = true ∨ 1 < s.size)) := by
            rintro ⟨e, _⟩
            rw [hhd.out] at e
            injection e with e
            exact h48 (by rw [e]; rfl)
          exact this
        have hf := hR.out
        rw [bodyR_yes hlen.out hall.out hno.out] at hf
        injection hf with e1 e2
        rw [if_neg (by decide)] at e1
        subst e2
        clear hno hlen hhd hR hrl hall
        generalize valFrom 0 (s.data.toList.drop 0) = v at hbound e1 ⊢
        have hA : Hid (_ = a) := e1
        clear e1
        go_wp2
        go_ret2
        exact ⟨by rw [← hA.out]; rfl, Below.refl _ _⟩

set_option maxRecDepth 100000 in
set_option maxHeartbeats 4000000 in
theorem most_neg (s : ByteArray) (hs : s.size ≤ maxLen) (hp : 0 < s.size) (h0 : s[0].toNat = 45) (w : World) (a : Int) (b : Bool) (hR0 : bodyR true s.size (s.data.toList.drop 1) = (a, b)) :
    Calls Tryd.prog 21 #[.string s, .int .i64 10] w fun e w' => e = .returned (.tuple #[.int .i64 a, .bool b]) ∧ Below w.heap.size w w' := by
  have hR : Hid (bodyR true s.size (s.data.toList.drop 1) = (a, b)) := hR0
  have hrl : Hid ((s.data.toList.drop 1).length = s.size - 1) := by
    have : (s.data.toList.drop 1).length = s.size - 1 := by rw [List.length_drop, ← Lib.size_eq]
    exact this
  clear hR0
  unfold maxLen at hs
  have hne : s.toList.isEmpty = false := by
    rw [Lib.toList_data]
    cases hd : s.data.toList with
    | nil => rw [Lib.size_eq, hd] at hp; simp at hp
    | cons c r => rfl
  have hne2 : ¬ s.toList = [] := by intro e; rw [e] at hne; cases hne
  have hp1 : (0 : Int) < (s.size : Int) := by omega
  have hw : wrap64 ((s.size : Int) - 1) = (s.size : Int) - 1 := by unfold wrap64; omega
  have hw0 : wrap64 (s.size : Int) = (s.size : Int) := by unfold wrap64; omega
  by_cases hl1 : (s.size : Int) - 1 < 1
  · have hf := hR.out
    rw [bodyR_len (.inl (by rw [hrl.out]; omega))] at hf
    injection hf with e1 e2
    subst e1 e2
    go_enter Tryd.func21, Tryd.ntmps21
    go_wp2
    go_ret2
    exact ⟨rfl, Below.refl _ _⟩
  by_cases hl2 : 10 < (s.size : Int) - 1
  · have hf := hR.out
    rw [bodyR_len (.inr (by rw [hrl.out]; omega))] at hf
    injection hf with e1 e2
    subst e1 e2
    go_enter Tryd.func21, Tryd.ntmps21
    go_wp2
    go_ret2
    exact ⟨rfl, Below.refl _ _⟩
  go_enter Tryd.func21, Tryd.ntmps21
  go_wp2
  go_loopw [8, 9] (fun n kk wr => ∃ k : Nat, 1 ≤ k ∧ k ≤ s.size ∧ kk = .int .i64 k ∧ n = .int .i64 (valFrom 0 ((s.data.toList.take k).drop 1)) ∧ Hid (((s.data.toList.take k).drop 1).all isDig = true) ∧ wr = w) (fun _ kk _ => s.size - (intOf kk).toNat)
  case atStart =>
    have e : (s.data.toList.take 1).drop 1 = [] := List.drop_eq_nil_of_le (by rw [List.length_take]; omega)
    exact ⟨1, Nat.le_refl _, by omega, rfl, by rw [e]; rfl, by rw [e]; rfl, rfl⟩
  case round =>
    obtain ⟨k, hk0, hk, rfl, rfl, hall, rfl⟩ := hrel
    by_cases hlt : k < s.size
    · have hi1 : (k : Int) < (s.size : Int) := by omega
      have hi0 : (0 : Int) ≤ (k : Int) := by omega
      by_cases hd1 : s[k].toNat < 48
      · have hf := hR.out
        rw [bodyR_dig s[k] (mem_drop s 1 k hk0 hlt) (isDig_no (.inl hd1))] at hf
        injection hf with e1 e2
        subst e1 e2
        go_wp2
        go_ret2
        exact ⟨rfl, Below.refl _ _⟩
      by_cases hd2 : 57 < s[k].toNat
      · have hf := hR.out
        rw [bodyR_dig s[k] (mem_drop s 1 k hk0 hlt) (isDig_no (.inr hd2))] at hf
        injection hf with e1 e2
        subst e1 e2
        go_wp2
        go_ret2
        exact ⟨rfl, Below.refl _ _⟩
      have htk := take_dig s 1 k hk0 hlt
      have hbound : valFrom 0 ((s.data.toList.take k).drop 1) < 10000000000 := by
        have h := valFrom_lt ((s.data.toList.take k).drop 1) 0 (List.all_eq_true.1 hall.out)
        have hl : ((s.data.toList.take k).drop 1).length ≤ 10 := by rw [List.length_drop, List.length_take, ← Lib.size_eq]; omega
        have h10 : (10 : Nat) ^ ((s.data.toList.take k).drop 1).length ≤ 10 ^ 10 := Nat.pow_le_pow_right (by decide) hl
        have : (10 : Nat) ^ 10 = 10000000000 := by decide
        omega
      have hval : valFrom 0 ((s.data.toList.take (k + 1)).drop 1) = valFrom 0 ((s.data.toList.take k).drop 1) * 10 + (s[k].toNat - 48) := by rw [htk, valFrom_snoc]
      have hall2 : Hid (((s.data.toList.take (k + 1)).drop 1).all isDig = true) := by
        have : ((s.data.toList.take (k + 1)).drop 1).all isDig = true := by
          rw [htk, List.all_append, hall.out]
          simp only [List.all_cons, List.all_nil, Bool.and_true, Bool.true_and]
          exact (isDig_iff _).2 (by omega)
        exact this
      have hV : Hid (valFrom 0 ((s.data.toList.take (k + 1)).drop 1) = valFrom 0 ((s.data.toList.take k).drop 1) * 10 + (s[k].toNat - 48)) := hval
      clear htk hval hall
      generalize valFrom 0 ((s.data.toList.take k).drop 1) = v at hbound hV ⊢
      go_wp2
      go_roundw
      case rel =>
        refine ⟨k + 1, by omega, by omega, by go_num, ?_, hall2, by trivial⟩
        rw [hV.out]
        congr 1
        omega
      case measure => simp [intOf]; omega
    · have hkl : k = s.size := by omega
      subst hkl
      have hi1 : ¬ (s.size : Int) < (s.size : Int) := by omega
      have htake : s.data.toList.take s.size = s.data.toList := by rw [Lib.size_eq]; exact List.take_length
      rw [htake] at hall ⊢
      have hbound : valFrom 0 (s.data.toList.drop 1) < 10000000000 := by
        have h := valFrom_lt (s.data.toList.drop 1) 0 (List.all_eq_true.1 hall.out)
        have hl : (s.data.toList.drop 1).length ≤ 10 := by rw [hrl.out]; omega
        have h10 : (10 : Nat) ^ (s.data.toList.drop 1).length ≤ 10 ^ 10 := Nat.pow_le_pow_right (by decide) hl
        have : (10 : Nat) ^ 10 = 10000000000 := by decide
        omega
      have hlen : Hid (¬ ((s.data.toList.drop 1).length < 1 ∨ 10 < (s.data.toList.drop 1).length)) := by
        have : ¬ ((s.data.toList.drop 1).length < 1 ∨ 10 < (s.data.toList.drop 1).length) := by rw [hrl.out]; omega
        exact this
      have hhd : Hid ((s.data.toList.drop 1).head? = some (s[1]'(by omega))) := head_drop s 1 (by omega)
      have hi48 : 1 < s.size := by omega
      have hii : (1 : Int) < (s.size : Int) := by omega
      by_cases h48 : (s[1]'(by omega)).toNat = 48
      · have h48' : Hid ((s.data.toList.drop 1).head? = some 48) := by
          have : (s.data.toList.drop 1).head? = some 48 := by rw [hhd.out]; congr 1; exact (byte_eq (n := 48) (by decide)).2 h48
          exact this
        have hf := hR.out
        rw [bodyR_nought h48'.out (.inl rfl)] at hf
        injection hf with e1 e2
        subst e1 e2
        go_wp2
        go_ret2
        exact ⟨rfl, Below.refl _ _⟩
      · have hno : Hid (¬ ((s.data.toList.drop 1).head? = some 48 ∧ (true = true ∨ 1 < s.size))) := by
          have : ¬ ((s.data.toList.drop 1).head? = some 48 ∧ (true = true ∨ 1 < s.size)) := by
            rintro ⟨e, _⟩
            rw [hhd.out] at e
            injection e with e
            exact h48 (by rw [e]; rfl)
          exact this
        have hf := hR.out
        rw [bodyR_yes hlen.out hall.out hno.out] at hf
        injection hf with e1 e2
        rw [if_pos rfl] at e1
        subst e2
        clear hno hlen hhd hR hrl hall
        generalize valFrom 0 (s.data.toList.drop 1) = v at hbound e1 ⊢
        have hA : Hid (_ = a) := e1
        clear e1
        go_wp2
        go_ret2
        exact ⟨by rw [← hA.out]; rfl, Below.refl _ _⟩

end Go.Proofs.YtgiknjlifocioaaDoor
