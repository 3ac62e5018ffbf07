/-
  A part of the proof: Strs1, KeyMath, ReadMath, SplitMath, RowMath.
-/
import Derived.Test.YtmmandkellhbeaaGreatDoorPart1
import Derived.Lib.ItoaNum
import Derived.Lib.ParseIntB
import Derived.Lib.Strings
import Derived.Lib.SplitLaws
import Derived.Lib.Join

/-
  Lists of texts: how a slice of texts lies in memory, and the contracts of the law's helpers that measure one, take one over and hold two against each other.
-/
namespace Go.Proofs.YtmmandkellhbeaaGreatDoor
open Go.ChangeShapes Go.WideShapes Go.ChangeAt Go.RowKit
attribute [local go_sem ↓] Go.wp_at_zero Go.wp_at_succ

/-- The texts of a slice lie where it says. -/
def StrsAt (w : World) (a : Option Addr) (l : List ByteArray) : Prop :=
  ∀ j (h : j < l.length), ∃ b o, a = some ⟨b, o, none⟩ ∧ b < w.heap.size ∧ w.cell? ⟨b, o + j, none⟩ = some (.string l[j])
theorem StrsAt.below {w w' : World} {a : Option Addr} {l : List ByteArray} (h : StrsAt w a l) (hb : Below w.heap.size w w') : StrsAt w' a l := by
  intro j hj
  obtain ⟨b, o, ha, hlt, h0⟩ := h j hj
  exact ⟨b, o, ha, Nat.lt_of_lt_of_le hlt hb.size, by rw [hb.cell (p := ⟨b, _, none⟩) hlt]; exact h0⟩
def FitS (l : List ByteArray) : Prop := ∀ j (h : j < l.length), (l[j]).size ≤ maxLen
def weightS (l : List ByteArray) : Nat := (l.map (·.size)).sum
theorem weightS_take (l : List ByteArray) (k : Nat) (h : k < l.length) : weightS (l.take (k + 1)) = weightS (l.take k) + (l[k]).size := by
  unfold weightS
  rw [List.take_succ_eq_append_getElem h, List.map_append, List.sum_append]; simp
theorem weightS_le (l : List ByteArray) (k : Nat) : weightS (l.take k) ≤ weightS l := by
  unfold weightS
  conv => rhs; rw [← List.take_append_drop k l, List.map_append, List.sum_append]
  omega
def strV (l : List ByteArray) : List Value := l.map Value.string
theorem strV_length (l : List ByteArray) : (strV l).length = l.length := List.length_map _
theorem strV_step (l : List ByteArray) (k : Nat) (h : k < l.length) (z : List Value) (hz : z.length = l.length) :
    (strV (l.take k) ++ z.drop k).set k (.string l[k]) = strV (l.take (k + 1)) ++ z.drop (k + 1) := by
  have hl : (strV (l.take k)).length = k := by rw [strV_length, List.length_take]; omega
  obtain ⟨a, r, hr⟩ : ∃ a r, z.drop k = a :: r := by
    have hd : (z.drop k).length ≥ 1 := by rw [List.length_drop]; omega
    match hm : z.drop k, hd with
    | a :: r, _ => exact ⟨a, r, rfl⟩
  have hr1 : z.drop (k + 1) = r := by rw [← List.drop_drop, hr]; rfl
  rw [List.take_succ_eq_append_getElem h, hr, hr1]
  rw [List.set_append_right _ _ (by omega), hl, Nat.sub_self, List.set_cons_zero, show strV (l.take k ++ [l[k]]) = strV (l.take k) ++ [.string l[k]] from List.map_append, List.append_assoc]
  rfl
theorem own_strs {w : World} {base g cap : Nat} {e : TypeId} {l : List ByteArray} (h : w.ownsRow base e 1 (.slice (some ⟨g, 0, none⟩) l.length cap) l.length (strV l)) : StrsAt w (some ⟨g, 0, none⟩) l := by
  have hlt : g < w.heap.size := (h.lt g rfl).2
  intro j hj
  refine ⟨g, 0, rfl, hlt, ?_⟩
  rw [Nat.zero_add, h.cellAt _ (by omega)]
  unfold strV
  rw [List.getElem?_map, List.getElem?_eq_getElem hj]; rfl

/-- What is left of a measure behind a list; -1 where it does not last. -/
def leftOfS (l : List ByteArray) (left : Int) : Int := if left < (l.length : Int) + (weightS l : Int) then -1 else left - l.length - weightS l

set_option maxHeartbeats 1000000 in
theorem szstr_laws (a : Option Addr) (cap : Nat) (l : List ByteArray) (left : Int) (w : World) (hrow : StrsAt w a l) (hfit : FitS l) (hm : l.length ≤ maxLen) (h0 : 0 ≤ left) (h1 : left ≤ 1048576) :
    Calls Tryz.prog 23 #[.slice a l.length cap, .int .i64 left] w fun e w' => e = .returned (.int .i64 (leftOfS l left)) ∧ Below w.heap.size w w' := by
  have hR : Hid (StrsAt w a l) := hrow
  have hF : Hid (FitS l) := hfit
  clear hrow hfit
  by_cases hlen : left < (l.length : Int)
  · have hneg : left - (l.length : Int) < 0 := by omega
    rw [show leftOfS l left = -1 from if_pos (by omega)]
    unfold maxLen at hm
    go_enter Tryz.func23, Tryz.ntmps23
    go_wp2
    go_ret
    exact ⟨rfl, Below.refl _ _⟩
  have hneg : 0 ≤ left - (l.length : Int) := by omega
  go_enter Tryz.func23, Tryz.ntmps23
  go_wp2
  go_loopw [1, 5] (fun s i wr => ∃ k : Nat, k ≤ l.length ∧ i = .int .i64 k ∧ s = .int .i64 (left - l.length - weightS (l.take k)) ∧ 0 ≤ left - l.length - weightS (l.take k) ∧ Below w.heap.size w wr)
    (fun _ i _ => l.length - (intOf i).toNat)
  case atStart => exact ⟨0, Nat.zero_le _, rfl, by simp [weightS], by simp [weightS]; omega, Below.refl _ _⟩
  case round =>
    obtain ⟨k, hk, rfl, rfl, hpos, hb⟩ := hrel
    by_cases hlt : k < l.length
    · obtain ⟨b, o, rfl, hbw, c0⟩ := hR.out.below hb k hlt
      have hi0 : (0 : Int) ≤ (k : Int) := by omega
      have hi1 : (k : Int) < (l.length : Int) := by omega
      have hwt := weightS_take l k hlt
      have hft := hF.out k hlt
      have hwl := weightS_le l (k + 1)
      unfold maxLen at hft
      generalize l[k] = x at c0 hwt hft
      generalize weightS (l.take k) = W at *
      by_cases hs : left - (l.length : Int) - (W : Int) < (x.size : Int)
      · have hp2 : left - (l.length : Int) - (W : Int) - (x.size : Int) < 0 := by omega
        go_wp2
        go_ret
        exact ⟨ret_int (by rw [leftOfS, if_pos (by omega)]), hb⟩
      · have hp2 : 0 ≤ left - (l.length : Int) - (W : Int) - (x.size : Int) := by omega
        go_wp2
        go_roundw
        case rel => exact ⟨k + 1, by omega, by go_num, by rw [hwt]; congr 1; omega, by rw [hwt]; omega, hb⟩
        case measure => simp [intOf]; omega
    · have hkl : k = l.length := by omega
      subst hkl
      rw [List.take_length] at hpos ⊢
      go_wp2
      go_ret
      exact ⟨ret_int (by rw [leftOfS, if_neg (by omega)]), hb⟩

theorem infoStrT : (Tryz.prog.info? 9).map (fun i => (i.zero, i.size, i.bytes)) = some (some (.string ⟨#[]⟩), 1, 16) := by kernel_rfl

set_option maxHeartbeats 1000000 in
theorem tostr_laws (a : Option Addr) (cap : Nat) (l : List ByteArray) (w : World) (hrow : StrsAt w a l) (hm : l.length ≤ 1048576) :
    Calls Tryz.prog 28 #[.slice a l.length cap] w fun e w' => e = .returned (.slice (some ⟨w.heap.size, 0, none⟩) l.length l.length) ∧
      w'.ownsRow w.heap.size 9 1 (.slice (some ⟨w.heap.size, 0, none⟩) l.length l.length) l.length (strV l) ∧ Below w.heap.size w w' := by
  obtain ⟨i0, hi, hz0, hz1, hz2⟩ := info_parts infoStrT
  have hR : Hid (StrsAt w a l) := hrow
  clear hrow
  go_enter Tryz.func28, Tryz.ntmps28
  go_wp2_with (at_make; refine wpList_make_full _ rfl _ _ 22 rfl w.heap.size 9 i0 (.string ⟨#[]⟩) 1 Tryz.underlying22 hi hz0 hz1 .i64 .i64 _ _ l.length rfl rfl rfl rfl ?b2 ?b3 (Nat.le_refl _) ?_)
  case b2 => rw [hz2]; omega
  case b3 => unfold maxLen; omega
  intro w1 hown hgrow
  have hb1 : Below w.heap.size w w1 := (Below.refl _ _).grown hgrow (Nat.le_refl _) (by intro k h; cases h)
  generalize (madeCells _ _).toList = z at hown
  have hzl : z.length = l.length := by have := hown.1; omega
  have hO : Hid (w1.ownsRow w.heap.size 9 1 (.slice (some ⟨w.heap.size, 0, none⟩) l.length l.length) l.length z) := hown
  clear hown hgrow
  go_wp2
  go_loopw [4] (fun i wr => ∃ k : Nat, k ≤ l.length ∧ i = .int .i64 k ∧ wr.ownsRow w.heap.size 9 1 (.slice (some ⟨w.heap.size, 0, none⟩) l.length l.length) l.length (strV (l.take k) ++ z.drop k) ∧ Below w.heap.size w wr)
    (fun i _ => l.length - (intOf i).toNat)
  case atStart => exact ⟨0, Nat.zero_le _, rfl, by simpa [strV] using hO.out, hb1⟩
  case round =>
    obtain ⟨k, hk, rfl, hown, hb⟩ := hrel
    by_cases hlt : k < l.length
    · obtain ⟨b, o, rfl, hbw, c0⟩ := hR.out.below hb k hlt
      have hi0 : (0 : Int) ≤ (k : Int) := by omega
      have hi1 : (k : Int) < (l.length : Int) := by omega
      have hst := strV_step l k hlt z hzl
      obtain ⟨u0, g0⟩ : ∃ u, wr.cell? ⟨w.heap.size, k, none⟩ = some u := ⟨_, (hown.cellAt k (by omega)).trans (List.getElem?_eq_getElem (by rw [hown.1]; omega))⟩
      have f0 := hown.frozenAt k
      have hO2 : Hid (wr.ownsRow w.heap.size 9 1 (.slice (some ⟨w.heap.size, 0, none⟩) l.length l.length) l.length (strV (l.take k) ++ z.drop k)) := hown
      clear hown
      generalize l[k] = x at c0 hst
      go_wp2
      go_roundw
      case rel =>
        refine ⟨k + 1, by omega, by go_num, ?_, ?_⟩
        · have r := hO2.out.stored k (.string x)
          rw [hst] at r; exact r.1
        · exact hb.setCell (Nat.le_refl _) _
      case measure => simp [intOf]; omega
    · have hkl : k = l.length := by omega
      subst hkl
      rw [List.take_length, List.drop_of_length_le (by omega), List.append_nil] at hown
      go_wp2
      go_ret
      exact ⟨rfl, hown, hb⟩

set_option maxHeartbeats 1000000 in
theorem eqstr_laws (a b : Option Addr) (ca cb : Nat) (l : List ByteArray) (w : World) (ha : StrsAt w a l) (hb : StrsAt w b l) (hm : l.length ≤ maxLen) :
    Calls Tryz.prog 32 #[.slice a l.length ca, .slice b l.length cb] w fun e w' => e = .returned (.bool true) ∧ Below w.heap.size w w' := by
  have hA : Hid (StrsAt w a l) := ha
  have hB : Hid (StrsAt w b l) := hb
  clear ha hb
  unfold maxLen at hm
  go_enter Tryz.func32, Tryz.ntmps32
  go_wp2
  go_loopw [5] (fun i wr => ∃ k : Nat, k ≤ l.length ∧ i = .int .i64 k ∧ Below w.heap.size w wr) (fun i _ => l.length - (intOf i).toNat)
  case atStart => exact ⟨0, Nat.zero_le _, rfl, Below.refl _ _⟩
  case round =>
    obtain ⟨k, hk, rfl, hx⟩ := hrel
    by_cases hlt : k < l.length
    · obtain ⟨b1, o1, rfl, hbw, c0⟩ := hA.out.below hx k hlt
      obtain ⟨b2, o2, rfl, hbw2, d0⟩ := hB.out.below hx k hlt
      have hi0 : (0 : Int) ≤ (k : Int) := by omega
      have hi1 : (k : Int) < (l.length : Int) := by omega
      generalize l[k] = x at c0 d0
      have hxx : (x.toList == x.toList) = true := by simp
      go_wp2_with fail
      go_quiet (fail)
      go_wp2
      go_roundw
      case rel => exact ⟨k + 1, by omega, by go_num, belowN hx _⟩
      case measure => simp [intOf]; omega
    · go_wp2
      go_ret
      exact ⟨rfl, hx⟩

end Go.Proofs.YtmmandkellhbeaaGreatDoor

/-
  Numerals without any program: what a list of digits spells, and that a numeral without noughts ahead is the one of what it spells.
-/
namespace Go.Proofs.YtmmandkellhbeaaGreatDoor

def isDig (c : UInt8) : Bool := decide (48 ≤ c.toNat) && decide (c.toNat ≤ 57)
/-- What digits spell behind acc. -/
def valFrom (acc : Nat) : List UInt8 → Nat
  | [] => acc
  | c :: r => valFrom (acc * 10 + (c.toNat - 48)) r
theorem valFrom_nil (acc : Nat) : valFrom acc [] = acc := rfl
theorem valFrom_one (acc : Nat) (c : UInt8) : valFrom acc [c] = acc * 10 + (c.toNat - 48) := rfl
theorem valFrom_append (l m : List UInt8) (acc : Nat) : valFrom acc (l ++ m) = valFrom (valFrom acc l) m := by
  induction l generalizing acc with
  | nil => rfl
  | cons c l ih => exact ih _
theorem valFrom_snoc (l : List UInt8) (c : UInt8) (acc : Nat) : valFrom acc (l ++ [c]) = valFrom acc l * 10 + (c.toNat - 48) := by rw [valFrom_append]; rfl
theorem valFrom_mono (l : List UInt8) (acc : Nat) : acc ≤ valFrom acc l := by
  induction l generalizing acc with
  | nil => exact Nat.le_refl _
  | cons c l ih => exact Nat.le_trans (by omega) (ih _)
theorem valFrom_lt (l : List UInt8) (acc : Nat) (h : ∀ c ∈ l, isDig c = true) : valFrom acc l < (acc + 1) * 10 ^ l.length := by
  induction l generalizing acc with
  | nil => rw [valFrom_nil, List.length_nil, Nat.pow_zero]; omega
  | cons c l ih =>
    have hc : isDig c = true := h c (by simp)
    unfold isDig at hc
    simp at hc
    have := ih (acc * 10 + (c.toNat - 48)) (fun x hx => h x (by simp [hx]))
    refine Nat.lt_of_lt_of_le this ?_
    rw [List.length_cons, Nat.pow_succ, Nat.mul_comm (10 ^ l.length) 10, ← Nat.mul_assoc]
    exact Nat.mul_le_mul_right (10 ^ l.length) (show acc * 10 + (c.toNat - 48) + 1 ≤ (acc + 1) * 10 by omega)
theorem dig_of (c : UInt8) (h : isDig c = true) : UInt8.ofNat (48 + (c.toNat - 48)) = c := by
  unfold isDig at h
  simp at h
  rw [show 48 + (c.toNat - 48) = c.toNat by omega]
  simp
theorem dig_toNat (u : Nat) (h : u < 10) : (UInt8.ofNat (48 + u)).toNat = 48 + u := by
  rw [UInt8.toNat_ofNat_of_lt']
  exact Nat.lt_of_lt_of_le (show 48 + u < 58 by omega) (by decide)
theorem isDig_of (u : Nat) (h : u < 10) : isDig (UInt8.ofNat (48 + u)) = true := by
  unfold isDig; rw [dig_toNat u h]; simp; omega
/-- No nought ahead, but for 0 itself. -/
def Plain (l : List UInt8) : Prop := l ≠ [] ∧ (∀ c ∈ l, isDig c = true) ∧ (l.head? = some 48 → l.length = 1)
theorem Plain.pos {l : List UInt8} (h : Plain l) (h1 : l.length ≠ 1) : 1 ≤ valFrom 0 l := by
  obtain ⟨h0, hd, hh⟩ := h
  cases l with
  | nil => exact absurd rfl h0
  | cons c r =>
    have hc := hd c (by simp)
    have : c ≠ 48 := fun e => h1 (hh (by simp [e]))
    have h48 : c.toNat ≠ 48 := fun e => this (UInt8.toNat_inj.1 (by simpa using e))
    unfold isDig at hc
    simp at hc
    exact Nat.le_trans (by omega) (valFrom_mono r _)
/-- A numeral without noughts ahead is that of what it spells. -/
theorem decDigits_val : ∀ (n : Nat) (l : List UInt8), l.length = n → Plain l → Lib.decDigits (valFrom 0 l) = l := by
  intro n
  induction n with
  | zero => intro l hl h; exact absurd (List.length_eq_zero_iff.1 hl) h.1
  | succ n ih =>
    intro l hl h
    rcases List.eq_nil_or_concat l with rfl | ⟨r, c, hr⟩
    · exact absurd rfl h.1
    · have hr : l = r ++ [c] := by rw [hr, List.concat_eq_append]
      subst hr
      have hc := h.2.1 c (by simp)
      have hc2 := hc
      unfold isDig at hc2
      simp at hc2
      rw [valFrom_snoc]
      cases r with
      | nil =>
        rw [valFrom_nil, show 0 * 10 + (c.toNat - 48) = c.toNat - 48 by omega, Lib.decDigits_one (by omega), dig_of c hc]
        rfl
      | cons d r =>
        have P : Plain (d :: r) := ⟨by simp, fun x hx => h.2.1 x (by simp at hx ⊢; rcases hx with h | h <;> simp [h]), fun e => by
          have := h.2.2 (by simpa using e)
          simp at this⟩
        have hne : d ≠ 48 := fun e => by
          have := h.2.2 (by simp [e])
          simp at this
        have hpos : 1 ≤ valFrom 0 (d :: r) := by
          by_cases h1 : (d :: r).length = 1
          · have : r = [] := by simpa using h1
            subst this
            have hd := P.2.1 d (by simp)
            unfold isDig at hd
            simp at hd
            have h48 : d.toNat ≠ 48 := fun e => hne (UInt8.toNat_inj.1 (by simpa using e))
            rw [valFrom_one]; omega
          · exact P.pos h1
        have hIH := ih (d :: r) (by simp at hl ⊢; omega) P
        rw [Lib.decDigits, dif_neg (by omega), show (valFrom 0 (d :: r) * 10 + (c.toNat - 48)) / 10 = valFrom 0 (d :: r) by omega, hIH,
          show (valFrom 0 (d :: r) * 10 + (c.toNat - 48)) % 10 = c.toNat - 48 by omega, dig_of c hc]
/-- A numeral spells its number, and has no nought ahead. -/
theorem decDigits_plain (u : Nat) : valFrom 0 (Lib.decDigits u) = u ∧ Plain (Lib.decDigits u) ∧ (Lib.decDigits u).head? ≠ none := by
  induction u using Nat.strongRecOn with
  | _ u ih =>
    by_cases h : u < 10
    · rw [Lib.decDigits_one h]
      refine ⟨?_, ⟨by simp, ?_, fun _ => rfl⟩, by simp⟩
      · rw [valFrom_one, dig_toNat u h]; omega
      · intro c hc; rw [List.mem_singleton] at hc; subst hc; exact isDig_of u h
    · obtain ⟨h1, h2, h3⟩ := ih (u / 10) (by omega)
      rw [Lib.decDigits, dif_neg h]
      have hm : u % 10 < 10 := by omega
      refine ⟨?_, ⟨by simp, ?_, ?_⟩, ?_⟩
      · rw [valFrom_snoc, h1, dig_toNat _ hm]; omega
      · intro c hc
        rcases List.mem_append.1 hc with h | h
        · exact h2.2.1 c h
        · rw [List.mem_singleton] at h; subst h; exact isDig_of _ hm
      · intro e
        exfalso
        cases hD : Lib.decDigits (u / 10) with
        | nil => exact h2.1 hD
        | cons d r =>
          rw [hD] at e h1 h2
          have e48 : d = 48 := by simpa using e
          have hl := h2.2.2 (by simp [e48])
          have : r = [] := by simpa using hl
          subst this
          rw [e48] at h1
          have : u / 10 = 0 := by rw [← h1]; rfl
          omega
      · simp
theorem decDigits_len (u : Nat) (h : u < 10000000000) : (Lib.decDigits u).length ≤ 10 := by
  rw [Lib.decDigits_length]
  have : ∀ (k v : Nat), v < 10 ^ (k + 1) → Lib.nDigits v ≤ k + 1 := by
    intro k
    induction k with
    | zero => intro v hv; rw [Lib.nDigits_small (by simpa using hv)]; omega
    | succ k ih =>
      intro v hv
      by_cases h10 : v < 10
      · rw [Lib.nDigits_small h10]; omega
      · rw [Lib.nDigits_big h10]
        have := ih (v / 10) (by rw [Nat.pow_succ] at hv; omega)
        omega
  exact this 9 u (by simpa using h)
/-- What ParseUint makes of digits that spell no more than a uint64 holds. -/
theorem parseUintM_val (l : List UInt8) (acc : Nat) (hd : ∀ c ∈ l, isDig c = true) (hv : valFrom acc l ≤ 18446744073709551615) : Lib.parseUintM 18446744073709551615 acc l = .ok (valFrom acc l) := by
  induction l generalizing acc with
  | nil => rfl
  | cons c r ih =>
    have hc := hd c (by simp)
    unfold isDig at hc
    simp at hc
    have hm := valFrom_mono r (acc * 10 + (c.toNat - 48))
    have hv' : valFrom (acc * 10 + (c.toNat - 48)) r ≤ 18446744073709551615 := hv
    rw [Lib.parseUintM, if_pos hc, if_neg (by omega), if_neg (by omega), ih _ (fun x hx => hd x (by simp [hx])) hv']
    rfl
theorem itoa_nonneg (n : Int) (h : 0 ≤ n) : Lib.itoa n = Lib.decDigits n.toNat := by unfold Lib.itoa; rw [if_neg (by omega)]
theorem itoa_neg (n : Int) (h : n < 0) : Lib.itoa n = 45 :: Lib.decDigits n.natAbs := by unfold Lib.itoa; rw [if_pos h]
/-- What is parsed of a numeral is its number. -/
theorem parse_itoa (n : Int) (h0 : -1000000000 ≤ n) (h1 : n ≤ 1000000000) : Lib.parseIntB 64 (Lib.itoa n) = .ok n := by
  have key : ∀ u : Nat, u ≤ 1000000000 → Lib.parseUintB 64 (Lib.decDigits u) = .ok u := by
    intro u hu
    obtain ⟨v, p, _⟩ := decDigits_plain u
    unfold Lib.parseUintB
    rw [if_neg p.1]
    have := parseUintM_val (Lib.decDigits u) 0 p.2.1 (by omega)
    rw [v] at this
    simpa using this
  by_cases hn : n < 0
  · rw [itoa_neg n hn]
    unfold Lib.parseIntB
    simp only []
    rw [if_pos (by decide), key n.natAbs (by omega)]
    simp only []
    rw [if_neg (by simp), if_neg (by simp; omega), if_pos (by decide)]
    congr 1; omega
  · rw [itoa_nonneg n (by omega)]
    obtain ⟨v, p, _⟩ := decDigits_plain n.toNat
    have k := key n.toNat (by omega)
    cases hD : Lib.decDigits n.toNat with
    | nil => exact absurd hD p.1
    | cons c r =>
      rw [hD] at k p
      have hc := p.2.1 c (by simp)
      unfold isDig at hc
      simp at hc
      unfold Lib.parseIntB
      simp only []
      rw [if_neg (by omega), k]
      simp only []
      rw [if_neg (by simp; omega), if_neg (by simp; omega), if_neg (by omega)]
      congr 1; omega

/-- What a numeral of at most ten digits, of just the form, spells. -/
def readMost (l : List UInt8) : Option Int :=
  let neg : Bool := decide (l.head? = some 45)
  let r := if neg = true then l.drop 1 else l
  if r.length < 1 ∨ 10 < r.length then none
  else if r.all isDig = true then
    if r.head? = some 48 ∧ (neg = true ∨ 1 < l.length) then none
    else some (if neg = true then -(valFrom 0 r : Int) else valFrom 0 r)
  else none
theorem readMost_itoa (n : Int) (h0 : -9999999999 ≤ n) (h1 : n ≤ 9999999999) : readMost (Lib.itoa n) = some n := by
  by_cases hn : n < 0
  · obtain ⟨v, p, _⟩ := decDigits_plain n.natAbs
    have hl := decDigits_len n.natAbs (by omega)
    have hp : (Lib.decDigits n.natAbs).length ≠ 0 := fun e => p.1 (List.length_eq_zero_iff.1 e)
    rw [itoa_neg n hn]
    unfold readMost
    simp only [List.head?_cons, decide_true, if_true, List.drop_succ_cons, List.drop_zero]
    rw [if_neg (by omega), if_pos (List.all_eq_true.2 p.2.1), if_neg, v]
    · congr 1; omega
    · rintro ⟨e, _⟩
      have h1 := p.2.2 e
      cases hD : Lib.decDigits n.natAbs with
      | nil => exact p.1 hD
      | cons c r =>
        rw [hD] at e h1 v
        have e' : c = 48 := by simpa using e
        have : r = [] := by simpa using h1
        subst this e'
        have : n.natAbs = 0 := by rw [← v]; rfl
        omega
  · obtain ⟨v, p, _⟩ := decDigits_plain n.toNat
    have hl := decDigits_len n.toNat (by omega)
    have hp : (Lib.decDigits n.toNat).length ≠ 0 := fun e => p.1 (List.length_eq_zero_iff.1 e)
    rw [itoa_nonneg n (by omega)]
    have hh : ¬ (Lib.decDigits n.toNat).head? = some 45 := by
      intro e
      cases hD : Lib.decDigits n.toNat with
      | nil => exact p.1 hD
      | cons c r =>
        rw [hD] at e p
        have e' : c = 45 := by simpa using e
        have := p.2.1 c (by simp)
        subst e'
        exact absurd this (by decide)
    unfold readMost
    simp only [hh, decide_false, Bool.false_eq_true, if_false, false_or]
    rw [if_neg (by omega), if_pos (List.all_eq_true.2 p.2.1), if_neg, v]
    · congr 1; omega
    · rintro ⟨e, h⟩
      have := p.2.2 e
      omega
theorem readMost_some {l : List UInt8} {n : Int} (h : readMost l = some n) : l = Lib.itoa n := by
  unfold readMost at h
  by_cases hh : l.head? = some 45
  · simp only [hh, decide_true, if_true] at h
    split at h
    · cases h
    · rename_i hlen
      split at h
      · rename_i hd
        split at h
        · cases h
        · rename_i h48
          injection h with h
          cases l with
          | nil => simp at hh
          | cons c r =>
            have e : c = 45 := by simpa using hh
            subst e
            simp only [List.drop_succ_cons, List.drop_zero] at *
            have P : Plain r := ⟨fun e => by subst e; simp at hlen, List.all_eq_true.1 hd, fun e => absurd ⟨e, .inl trivial⟩ h48⟩
            have hpos : 1 ≤ valFrom 0 r := by
              by_cases h1 : r.length = 1
              · cases r with
                | nil => exact absurd rfl P.1
                | cons d r =>
                  have : r = [] := by simpa using h1
                  subst this
                  have hd' := P.2.1 d (by simp)
                  unfold isDig at hd'
                  simp at hd'
                  have hne : d ≠ 48 := fun e => h48 ⟨by simp [e], .inl trivial⟩
                  have : d.toNat ≠ 48 := fun e => hne (UInt8.toNat_inj.1 (by simpa using e))
                  rw [valFrom_one]; omega
              · exact P.pos h1
            rw [itoa_neg n (by omega), show n.natAbs = valFrom 0 r by omega, decDigits_val _ r rfl P]
      · cases h
  · simp only [hh, decide_false, Bool.false_eq_true, if_false, false_or] at h
    split at h
    · cases h
    · rename_i hlen
      split at h
      · rename_i hd
        split at h
        · cases h
        · rename_i h48
          injection h with h
          have P : Plain l := ⟨fun e => by subst e; simp at hlen, List.all_eq_true.1 hd, fun e => by
            by_cases h1 : 1 < l.length
            · exact absurd ⟨e, h1⟩ h48
            · omega⟩
          rw [itoa_nonneg n (by omega), show n.toNat = valFrom 0 l by omega, decDigits_val _ l rfl P]
      · cases h
end Go.Proofs.YtmmandkellhbeaaGreatDoor

/-
  Cells and their texts without any program: what a text is read as, what the program guesses, and that a cell is read from its own text alone.
-/
namespace Go.Proofs.YtmmandkellhbeaaGreatDoor

theorem bytes_ext {s u : ByteArray} (h : s.data.toList = u.data.toList) : s = u := by
  obtain ⟨⟨a⟩⟩ := s
  obtain ⟨⟨b⟩⟩ := u
  simp at h
  rw [h]
theorem bytes_mk (l : List UInt8) : (⟨l.toArray⟩ : ByteArray).data.toList = l := rfl
theorem empty_bytes {t : ByteArray} (h : t.toList.isEmpty = true) : t = ⟨#[]⟩ := by
  rw [Lib.toList_data, List.isEmpty_iff] at h
  exact bytes_ext h
theorem bytes_empty : (⟨#[]⟩ : ByteArray).toList.isEmpty = true := by rw [Lib.toList_data]; rfl

def wNone : List UInt8 := [110, 111, 110, 101]
def wYes : List UInt8 := [121, 101, 115]
def wNo : List UInt8 := [110, 111]
/-- The text of a right cell. -/
def l4T (k n : Int) (t : List UInt8) : List UInt8 :=
  if k = 1 then Lib.itoa n else if k = 2 then 39 :: (t ++ [39]) else if k = 3 then (if n = 1 then wYes else wNo) else wNone
/-- The text of a cell; empty where it is not right. -/
def cellT (k n : Int) (t : ByteArray) : ByteArray := if okB k n t = true then ⟨(l4T k n t.data.toList).toArray⟩ else ⟨#[]⟩
def inner (s : ByteArray) : ByteArray := s.extract 1 (s.size - 1)
def textB (t : ByteArray) : Bool := lets t.data.toList && decide ((t.size : Int) ≤ 12)
/-- What a text is read as. -/
def readB (s : ByteArray) : Option (Int × Int × ByteArray) :=
  if s.data.toList = wNone then some (0, 0, ⟨#[]⟩)
  else if s.data.toList = wYes then some (3, 1, ⟨#[]⟩)
  else if s.data.toList = wNo then some (3, 0, ⟨#[]⟩)
  else match readMost s.data.toList with
    | some n => if numB n = true then some (1, n, ⟨#[]⟩) else none
    | none => if 1 < s.size ∧ s.data.toList.head? = some 39 ∧ s.data.toList.getLast? = some 39 then (if textB (inner s) = true then some (2, 0, inner s) else none) else none

theorem okB_0 {n : Int} {t : ByteArray} (h : okB 0 n t = true) : n = 0 ∧ t = ⟨#[]⟩ := by
  unfold okB at h
  rw [if_pos rfl, Bool.and_eq_true, beq_iff_eq] at h
  exact ⟨h.1, empty_bytes h.2⟩
theorem okB_1 {n : Int} {t : ByteArray} (h : okB 1 n t = true) : numB n = true ∧ t = ⟨#[]⟩ := by
  unfold okB at h
  rw [if_neg (by decide), if_pos rfl, Bool.and_eq_true] at h
  exact ⟨h.1, empty_bytes h.2⟩
theorem okB_2 {n : Int} {t : ByteArray} (h : okB 2 n t = true) : n = 0 ∧ textB t = true := by
  unfold okB at h
  rw [if_neg (by decide), if_neg (by decide), if_pos rfl, Bool.and_eq_true, beq_iff_eq] at h
  exact ⟨h.2, h.1⟩
theorem okB_3 {n : Int} {t : ByteArray} (h : okB 3 n t = true) : (n = 0 ∨ n = 1) ∧ t = ⟨#[]⟩ := by
  unfold okB at h
  rw [if_neg (by decide), if_neg (by decide), if_neg (by decide), if_pos rfl, Bool.and_eq_true, Bool.and_eq_true, decide_eq_true_eq, decide_eq_true_eq] at h
  exact ⟨by omega, empty_bytes h.2⟩
theorem okB_kind {k n : Int} {t : ByteArray} (h : okB k n t = true) : k = 0 ∨ k = 1 ∨ k = 2 ∨ k = 3 := by
  by_cases h0 : k = 0
  · exact .inl h0
  by_cases h1 : k = 1
  · exact .inr (.inl h1)
  by_cases h2 : k = 2
  · exact .inr (.inr (.inl h2))
  by_cases h3 : k = 3
  · exact .inr (.inr (.inr h3))
  unfold okB at h
  rw [if_neg h0, if_neg h1, if_neg h2, if_neg h3] at h
  cases h
theorem okB_0' : okB 0 0 ⟨#[]⟩ = true := by unfold okB; rw [if_pos rfl, bytes_empty]; rfl
theorem okB_1' {n : Int} : okB 1 n ⟨#[]⟩ = numB n := by unfold okB; rw [if_neg (by decide), if_pos rfl, bytes_empty, Bool.and_true]
theorem okB_2' {t : ByteArray} : okB 2 0 t = textB t := by unfold okB; rw [if_neg (by decide), if_neg (by decide), if_pos rfl]; simp [textB]
theorem okB_31 : okB 3 1 ⟨#[]⟩ = true := by unfold okB; rw [if_neg (by decide), if_neg (by decide), if_neg (by decide), if_pos rfl, bytes_empty]; rfl
theorem okB_30 : okB 3 0 ⟨#[]⟩ = true := by unfold okB; rw [if_neg (by decide), if_neg (by decide), if_neg (by decide), if_pos rfl, bytes_empty]; rfl

theorem l4T_0 (n : Int) (t : List UInt8) : l4T 0 n t = wNone := rfl
theorem l4T_1 (n : Int) (t : List UInt8) : l4T 1 n t = Lib.itoa n := rfl
theorem l4T_2 (n : Int) (t : List UInt8) : l4T 2 n t = 39 :: (t ++ [39]) := rfl
theorem l4T_31 (t : List UInt8) : l4T 3 1 t = wYes := rfl
theorem l4T_30 (t : List UInt8) : l4T 3 0 t = wNo := rfl
theorem cellT_ok {k n : Int} {t : ByteArray} (h : okB k n t = true) : (cellT k n t).data.toList = l4T k n t.data.toList := by unfold cellT; rw [if_pos h]
theorem cellT_no {k n : Int} {t : ByteArray} (h : okB k n t = false) : cellT k n t = ⟨#[]⟩ := by unfold cellT; rw [if_neg (by rw [h]; decide)]

theorem numB_iff {n : Int} : numB n = true ↔ -1000000000 ≤ n ∧ n ≤ 1000000000 := by unfold numB; rw [Bool.and_eq_true, decide_eq_true_eq, decide_eq_true_eq]
/-- A numeral begins with a digit or the sign -. -/
theorem itoa_head (n : Int) : ∃ c r, Lib.itoa n = c :: r ∧ (isDig c = true ∨ c = 45) := by
  by_cases hn : n < 0
  · exact ⟨45, _, itoa_neg n hn, .inr rfl⟩
  · obtain ⟨_, p, _⟩ := decDigits_plain n.toNat
    cases hD : Lib.decDigits n.toNat with
    | nil => exact absurd hD p.1
    | cons c r => rw [hD] at p; exact ⟨c, r, by rw [itoa_nonneg n (by omega), hD], .inl (p.2.1 c (by simp))⟩
theorem itoa_no (n : Int) (l : List UInt8) (c : UInt8) (h : l.head? = some c) (hc : isDig c = false) (h45 : c ≠ 45) : l ≠ Lib.itoa n := by
  intro e
  obtain ⟨d, r, hd, hx⟩ := itoa_head n
  rw [e, hd] at h
  have : d = c := by simpa using h
  subst this
  rcases hx with hx | hx
  · rw [hc] at hx; cases hx
  · exact h45 hx
theorem readMost_no {l : List UInt8} (c : UInt8) (h : l.head? = some c) (hc : isDig c = false) (h45 : c ≠ 45) : readMost l = none := by
  cases hr : readMost l with
  | none => rfl
  | some n => exact absurd (readMost_some hr) (itoa_no n l c h hc h45)

theorem inner_list {s : ByteArray} {l : List UInt8} (h : s.data.toList = 39 :: (l ++ [39])) : (inner s).data.toList = l := by
  unfold inner
  rw [Lib.extract_data, h, Lib.size_eq, h]
  simp
/-- A right cell is read from its text. -/
theorem readB_text {k n : Int} {t : ByteArray} (h : okB k n t = true) : readB (cellT k n t) = some (k, n, t) := by
  rcases okB_kind h with rfl | rfl | rfl | rfl
  · obtain ⟨rfl, rfl⟩ := okB_0 h
    unfold readB
    rw [cellT_ok h, l4T_0, if_pos rfl]
  · obtain ⟨hn, rfl⟩ := okB_1 h
    obtain ⟨c, r, he, hx⟩ := itoa_head n
    have hne : ∀ l : List UInt8, l.head? = some 110 ∨ l.head? = some 121 → Lib.itoa n ≠ l := by
      intro l hl e
      rw [← e, he] at hl
      have : c = 110 ∨ c = 121 := by simpa using hl
      rcases this with rfl | rfl <;> rcases hx with hx | hx <;> exact absurd hx (by decide)
    have hb := numB_iff.1 hn
    unfold readB
    rw [cellT_ok h, l4T_1, if_neg (hne _ (.inl rfl)), if_neg (hne _ (.inr rfl)), if_neg (hne _ (.inl rfl)), readMost_itoa n (by omega) (by omega)]
    simp only []
    rw [if_pos hn]
  · obtain ⟨rfl, ht⟩ := okB_2 h
    have e := cellT_ok h
    rw [l4T_2] at e
    have hi := inner_list e
    have hi' : inner (cellT 2 0 t) = t := bytes_ext hi
    have hs : 1 < (cellT 2 0 t).size := by rw [Lib.size_eq, e]; simp
    unfold readB
    rw [if_neg (by rw [e]; intro x; exact absurd x (by simp [wNone])), if_neg (by rw [e]; intro x; exact absurd x (by simp [wYes])), if_neg (by rw [e]; intro x; exact absurd x (by simp [wNo])),
      readMost_no 39 (by rw [e]; rfl) (by decide) (by decide)]
    simp only []
    rw [if_pos ⟨hs, by rw [e]; rfl, by rw [e, ← List.cons_append, List.getLast?_concat]⟩, hi', if_pos ht]
  · obtain ⟨hn, rfl⟩ := okB_3 h
    rcases hn with rfl | rfl
    · unfold readB
      rw [cellT_ok h, l4T_30, if_neg (by decide), if_neg (by decide), if_pos rfl]
    · unfold readB
      rw [cellT_ok h, l4T_31, if_neg (by decide), if_pos rfl]
/-- What is read is right, and its text is what was read. -/
theorem readB_some {s : ByteArray} {k n : Int} {t : ByteArray} (h : readB s = some (k, n, t)) : okB k n t = true ∧ cellT k n t = s := by
  have fin : ∀ {k n : Int} {t : ByteArray}, okB k n t = true → l4T k n t.data.toList = s.data.toList → okB k n t = true ∧ cellT k n t = s := fun ho hl => ⟨ho, bytes_ext (by rw [cellT_ok ho, hl])⟩
  unfold readB at h
  split at h
  · rename_i e
    injection h with h
    injection h with h1 h2
    injection h2 with h2 h3
    subst h1 h2 h3
    exact fin okB_0' e.symm
  · split at h
    · rename_i e
      injection h with h
      injection h with h1 h2
      injection h2 with h2 h3
      subst h1 h2 h3
      exact fin okB_31 e.symm
    · split at h
      · rename_i e
        injection h with h
        injection h with h1 h2
        injection h2 with h2 h3
        subst h1 h2 h3
        exact fin okB_30 e.symm
      · split at h
        · rename_i m hm
          split at h
          · rename_i hn
            injection h with h
            injection h with h1 h2
            injection h2 with h2 h3
            subst h1 h2 h3
            exact fin (okB_1'.trans hn) (readMost_some hm).symm
          · cases h
        · split at h
          · rename_i hq
            split at h
            · rename_i ht
              injection h with h
              injection h with h1 h2
              injection h2 with h2 h3
              subst h1 h2
              obtain ⟨hs, hh, hl⟩ := hq
              rw [← h3]
              refine fin (okB_2'.trans ht) ?_
              obtain ⟨m, he⟩ : ∃ m, s.data.toList = 39 :: (m ++ [39]) := by
                cases hd : s.data.toList with
                | nil => rw [hd] at hh; cases hh
                | cons c r =>
                  rw [hd] at hh hl
                  have : c = 39 := by simpa using hh
                  subst this
                  rcases List.eq_nil_or_concat r with rfl | ⟨r', d, hr⟩
                  · rw [Lib.size_eq, hd] at hs; simp at hs
                  · have hr : r = r' ++ [d] := by rw [hr, List.concat_eq_append]
                    subst hr
                    have : d = 39 := by
                      rw [← List.cons_append, List.getLast?_concat] at hl
                      simpa using hl
                    subst this
                    exact ⟨r', rfl⟩
              rw [inner_list he, he]; rfl
            · cases h
          · cases h

/-- What the program guesses of a text. -/
def innerL (l : List UInt8) : List UInt8 := Lib.trimSuffix (Lib.trimPrefix l [39]) [39]
/-- The guess is the cell that is read. -/
theorem guess_text {s : ByteArray} {k n : Int} {t : ByteArray} (h : readB s = some (k, n, t)) :
    (k = 0 ∧ n = 0 ∧ t = ⟨#[]⟩ ∧ s.data.toList = wNone) ∨ (k = 3 ∧ n = 1 ∧ t = ⟨#[]⟩ ∧ s.data.toList = wYes) ∨ (k = 3 ∧ n = 0 ∧ t = ⟨#[]⟩ ∧ s.data.toList = wNo) ∨
    (k = 2 ∧ n = 0 ∧ t.data.toList = innerL s.data.toList ∧ s.data.toList.head? = some 39) ∨ (k = 1 ∧ t = ⟨#[]⟩ ∧ Lib.parseIntB 64 s.data.toList = .ok n ∧ s.data.toList.head? ≠ some 39) := by
  obtain ⟨ho, rfl⟩ := readB_some h
  have e := cellT_ok ho
  rcases okB_kind ho with rfl | rfl | rfl | rfl
  · obtain ⟨rfl, rfl⟩ := okB_0 ho
    exact .inl ⟨rfl, rfl, rfl, e⟩
  · obtain ⟨hn, rfl⟩ := okB_1 ho
    have hb := numB_iff.1 hn
    refine .inr (.inr (.inr (.inr ⟨rfl, rfl, ?_, ?_⟩)))
    · rw [e, l4T_1]; exact parse_itoa n hb.1 hb.2
    · rw [e, l4T_1]
      intro x
      exact itoa_no n _ 39 x (by decide) (by decide) rfl
  · obtain ⟨rfl, ht⟩ := okB_2 ho
    refine .inr (.inr (.inr (.inl ⟨rfl, rfl, ?_, ?_⟩)))
    · rw [e, l4T_2]
      unfold innerL Lib.trimPrefix Lib.hasPrefix
      rw [if_pos (by simp)]
      simp only [List.length_cons, List.length_nil, Nat.zero_add, List.drop_succ_cons, List.drop_zero]
      unfold Lib.trimSuffix Lib.hasSuffix
      rw [if_pos (by rw [List.isSuffixOf_iff_suffix]; exact List.suffix_append _ _)]
      simp
    · rw [e, l4T_2]; rfl
  · obtain ⟨hn, rfl⟩ := okB_3 ho
    rcases hn with rfl | rfl
    · exact .inr (.inr (.inl ⟨rfl, rfl, rfl, e⟩))
    · exact .inr (.inl ⟨rfl, rfl, rfl, e⟩)
/-- What is no cell's text is no text of the guess. -/
theorem guess_no {s : ByteArray} (h : readB s = none) (hs : s ≠ ⟨#[]⟩) (k n : Int) (t : ByteArray) : cellT k n t ≠ s := by
  intro e
  cases ho : okB k n t with
  | true => rw [← e, readB_text ho] at h; cases h
  | false => rw [cellT_no ho] at e; exact hs e.symm
theorem readB_nil : readB ⟨#[]⟩ = none := by
  cases h : readB ⟨#[]⟩ with
  | none => rfl
  | some c =>
    obtain ⟨k, n, t⟩ := c
    obtain ⟨ho, e⟩ := readB_some h
    have e' := cellT_ok ho
    rw [e] at e'
    exfalso
    have e2 : ([] : List UInt8) = l4T k n t.data.toList := e'
    rcases okB_kind ho with rfl | rfl | rfl | rfl
    · cases e2
    · obtain ⟨c, r, he, _⟩ := itoa_head n
      rw [l4T_1, he] at e2; cases e2
    · rw [l4T_2] at e2; cases e2
    · obtain ⟨hn, _⟩ := okB_3 ho
      rcases hn with rfl | rfl
      · rw [l4T_30] at e2; cases e2
      · rw [l4T_31] at e2; cases e2

/-- The text of a right cell is not empty, and has no blank. -/
theorem l4T_some {k n : Int} {t : ByteArray} (h : okB k n t = true) : l4T k n t.data.toList ≠ [] ∧ (32 : UInt8) ∉ l4T k n t.data.toList := by
  rcases okB_kind h with rfl | rfl | rfl | rfl
  · rw [l4T_0]; decide
  · rw [l4T_1]
    have key : ∀ u, (32 : UInt8) ∉ Lib.decDigits u := by
      intro u hm
      obtain ⟨_, p, _⟩ := decDigits_plain u
      exact absurd (p.2.1 32 hm) (by decide)
    obtain ⟨c, r, he, _⟩ := itoa_head n
    refine ⟨by rw [he]; simp, ?_⟩
    by_cases hn : n < 0
    · rw [itoa_neg n hn]
      intro hm
      rcases List.mem_cons.1 hm with h | h
      · exact absurd h (by decide)
      · exact key _ h
    · rw [itoa_nonneg n (by omega)]; exact key _
  · obtain ⟨_, ht⟩ := okB_2 h
    rw [l4T_2]
    refine ⟨by simp, ?_⟩
    intro hm
    rcases List.mem_cons.1 hm with h | h
    · exact absurd h (by decide)
    · rcases List.mem_append.1 h with h | h
      · unfold textB lets at ht
        rw [Bool.and_eq_true] at ht
        have := List.all_eq_true.1 ht.1 32 h
        exact absurd this (by decide)
      · exact absurd h (by decide)
  · obtain ⟨hn, _⟩ := okB_3 h
    rcases hn with rfl | rfl
    · rw [l4T_30]; decide
    · rw [l4T_31]; decide
/-- It is short. -/
theorem l4T_len {k n : Int} {t : ByteArray} (h : okB k n t = true) : (l4T k n t.data.toList).length ≤ 14 := by
  rcases okB_kind h with rfl | rfl | rfl | rfl
  · rw [l4T_0]; decide
  · rw [l4T_1]
    have hb := numB_iff.1 (okB_1 h).1
    by_cases hn : n < 0
    · rw [itoa_neg n hn]
      have := decDigits_len n.natAbs (by omega)
      simp; omega
    · rw [itoa_nonneg n (by omega)]
      have := decDigits_len n.toNat (by omega)
      omega
  · obtain ⟨_, ht⟩ := okB_2 h
    unfold textB at ht
    rw [Bool.and_eq_true, decide_eq_true_eq, Lib.size_eq] at ht
    rw [l4T_2, List.length_cons, List.length_append, List.length_singleton]
    omega
  · obtain ⟨hn, _⟩ := okB_3 h
    rcases hn with rfl | rfl
    · rw [l4T_30]; decide
    · rw [l4T_31]; decide

end Go.Proofs.YtmmandkellhbeaaGreatDoor

/-
  Pieces of a text between the blanks, without any program: byte by byte, and as the library's own word has it.
-/
namespace Go.Proofs.YtmmandkellhbeaaGreatDoor

/-- The pieces between the signs c; cur: what stands of the first one. -/
def cutAt (c : UInt8) (cur : List UInt8) : List UInt8 → List (List UInt8)
  | [] => [cur]
  | b :: l => if b = c then cur :: cutAt c [] l else cutAt c (cur ++ [b]) l
def onHead (cur : List UInt8) : List (List UInt8) → List (List UInt8)
  | [] => [cur]
  | p :: ps => (cur ++ p) :: ps
theorem onHead_cons (cur p : List UInt8) (ps : List (List UInt8)) : onHead cur (p :: ps) = (cur ++ p) :: ps := rfl
theorem index_cons_ne (b c : UInt8) (l : List UInt8) (h : b ≠ c) : Lib.index (b :: l) [c] = if Lib.index l [c] == -1 then -1 else Lib.index l [c] + 1 := by
  rw [Lib.index, if_neg]
  intro e
  simp at e
  exact h e.symm
theorem index_cons_eq (c : UInt8) (l : List UInt8) : Lib.index (c :: l) [c] = 0 := by
  rw [Lib.index, if_pos (by simp)]
theorem splitK_ne (c : UInt8) : ∀ (k : Nat) (b : UInt8) (l : List UInt8), b ≠ c → Lib.splitK [c] 0 k (b :: l) = onHead [b] (Lib.splitK [c] 0 k l)
  | 0, b, l, h => rfl
  | k + 1, b, l, h => by
    rw [Lib.splitK, Lib.splitK, index_cons_ne b c l h]
    by_cases hi : (Lib.index l [c] == -1) = true
    · rw [if_pos hi, if_pos (by decide), if_pos hi]; rfl
    · rw [if_neg hi, if_neg hi]
      have hg := Lib.index_ge l [c]
      have hne : Lib.index l [c] ≠ -1 := fun e => hi (by rw [e]; decide)
      obtain ⟨i, e⟩ : ∃ i : Nat, Lib.index l [c] = i := ⟨(Lib.index l [c]).toNat, by omega⟩
      rw [e, if_neg (by simp; omega)]
      have e1 : ((i : Int) + 1).toNat = i + 1 := by omega
      have e2 : ((i : Int)).toNat = i := by omega
      rw [e1, e2]
      simp [onHead, List.take_succ_cons, List.drop_succ_cons]
theorem splitK_eq (c : UInt8) (k : Nat) (l : List UInt8) : Lib.splitK [c] 0 (k + 1) (c :: l) = [] :: Lib.splitK [c] 0 k l := by
  rw [Lib.splitK, index_cons_eq, if_neg (by decide)]
  simp
theorem splitK_ne_nil (c : UInt8) (k : Nat) (l : List UInt8) : Lib.splitK [c] 0 k l ≠ [] := by
  cases k with
  | zero => simp [Lib.splitK]
  | succ k => rw [Lib.splitK]; split <;> simp
theorem cutAt_split (c : UInt8) (l : List UInt8) : ∀ cur, cutAt c cur l = onHead cur (Lib.splitK [c] 0 (Lib.count l [c]) l) := by
  induction l with
  | nil => intro cur; simp [cutAt, Lib.count, Lib.countFrom, Lib.index, Lib.splitK, onHead]
  | cons b l ih =>
    intro cur
    by_cases h : b = c
    · subst h
      rw [Lib.count_cons_eq, Nat.add_comm, splitK_eq, cutAt, if_pos rfl, ih [], onHead_cons, List.append_nil]
      cases hS : Lib.splitK [b] 0 (Lib.count l [b]) l with
      | nil => exact absurd hS (splitK_ne_nil _ _ _)
      | cons p ps => rfl
    · rw [Lib.count_cons_ne b c l h, splitK_ne c _ b l h, cutAt, if_neg h, ih]
      cases hS : Lib.splitK [c] 0 (Lib.count l [c]) l with
      | nil => exact absurd hS (splitK_ne_nil _ _ _)
      | cons p ps => simp [onHead]
/-- All pieces of a text. -/
def pieces (l : List UInt8) : List (List UInt8) := cutAt 32 [] l
theorem pieces_split (s : ByteArray) : (Lib.splitB ⟨#[32]⟩ 0 (Lib.countB s ⟨#[32]⟩) s).map (·.data.toList) = pieces s.data.toList := by
  rw [Lib.splitB_data]
  unfold pieces
  rw [cutAt_split]
  show Lib.splitK [32] 0 (Lib.count s.data.toList [32]) s.data.toList = _
  cases hS : Lib.splitK [32] 0 (Lib.count s.data.toList [32]) s.data.toList with
  | nil => exact absurd hS (splitK_ne_nil _ _ _)
  | cons p ps => rfl
theorem cutAt_length (c : UInt8) (l : List UInt8) : ∀ cur, (cutAt c cur l).length ≤ l.length + 1 := by
  induction l with
  | nil => intro cur; simp [cutAt]
  | cons b l ih =>
    intro cur
    rw [cutAt]
    split
    · have := ih []; simp only [List.length_cons]; omega
    · have := ih (cur ++ [b]); simp only [List.length_cons]; omega
/-- No piece is longer than the text. -/
theorem cutAt_each (c : UInt8) (l : List UInt8) : ∀ cur, ∀ p ∈ cutAt c cur l, p.length ≤ cur.length + l.length := by
  induction l with
  | nil => intro cur p hp; simp [cutAt] at hp; subst hp; simp
  | cons b l ih =>
    intro cur p hp
    rw [cutAt] at hp
    split at hp
    · rcases List.mem_cons.1 hp with rfl | h
      · omega
      · have := ih [] p h; simp at this ⊢; omega
    · have := ih _ p hp; simp at this ⊢; omega
/-- What has no sign c within joined by c is cut there again. -/
theorem cutAt_free (c : UInt8) (x : List UInt8) (h : c ∉ x) : ∀ (cur l : List UInt8), cutAt c cur (x ++ l) = cutAt c (cur ++ x) l := by
  induction x with
  | nil => intro cur l; simp
  | cons b x ih =>
    intro cur l
    have hb : b ≠ c := fun e => h (by simp [e])
    rw [List.cons_append, cutAt, if_neg hb, ih (fun e => h (by simp [e]))]
    simp
theorem pieces_join (xs : List (List UInt8)) (hx : xs ≠ []) (h : ∀ x ∈ xs, (32 : UInt8) ∉ x) : pieces (Lib.join xs [32]) = xs := by
  have key : ∀ (xs : List (List UInt8)) (x : List UInt8), (32 : UInt8) ∉ x → (∀ y ∈ xs, (32 : UInt8) ∉ y) → cutAt 32 [] (x ++ Lib.joinTail [32] xs) = x :: xs := by
    intro xs
    induction xs with
    | nil => intro x hx _; rw [cutAt_free _ _ hx]; simp [Lib.joinTail, cutAt]
    | cons y ys ih =>
      intro x hx hys
      rw [cutAt_free _ _ hx]
      have e : Lib.joinTail [32] (y :: ys) = 32 :: (y ++ Lib.joinTail [32] ys) := by simp [Lib.joinTail]
      rw [e, cutAt, if_pos rfl, ih y (hys y (by simp)) (fun z hz => hys z (by simp [hz]))]
      simp
  cases xs with
  | nil => exact absurd rfl hx
  | cons x xs =>
    rw [Lib.join_cons]
    exact key xs x (h x (by simp)) (fun y hy => h y (by simp [hy]))
theorem cutAt_ne_nil (c : UInt8) (cur l : List UInt8) : cutAt c cur l ≠ [] := by
  induction l generalizing cur with
  | nil => simp [cutAt]
  | cons b l ih => rw [cutAt]; split; · simp
                   · exact ih _
theorem join_cutAt (l : List UInt8) : ∀ cur, Lib.join (cutAt 32 cur l) [32] = cur ++ l := by
  induction l with
  | nil => intro cur; rw [cutAt, Lib.join_one, List.append_nil]
  | cons b l ih =>
    intro cur
    rw [cutAt]
    split
    · rename_i h
      subst h
      have := ih []
      cases hD : cutAt 32 [] l with
      | nil => exact absurd hD (cutAt_ne_nil _ _ _)
      | cons p ps =>
        rw [hD, Lib.join_cons] at this
        rw [Lib.join_cons]
        have e : Lib.joinTail [32] (p :: ps) = 32 :: (p ++ Lib.joinTail [32] ps) := by simp [Lib.joinTail]
        rw [e, this]
        simp
    · rw [ih]; simp
/-- The pieces, joined again, are the text. -/
theorem join_pieces (l : List UInt8) : Lib.join (pieces l) [32] = l := by
  have := join_cutAt l []
  simpa [pieces] using this
theorem pieces_ne_nil (l : List UInt8) : pieces l ≠ [] := cutAt_ne_nil _ _ _
end Go.Proofs.YtmmandkellhbeaaGreatDoor

/-
  Rows and their texts without any program.
-/
namespace Go.Proofs.YtmmandkellhbeaaGreatDoor

/-- A cell: kind, number, text. -/
abbrev CK := Int × Int × ByteArray
def okC (c : CK) : Bool := okB c.1 c.2.1 c.2.2
def textC (c : CK) : List UInt8 := l4T c.1 c.2.1 c.2.2.data.toList
/-- The text of a row; empty where a cell is not right. -/
def rowT (l : List CK) : ByteArray := if l.all okC = true then ⟨(Lib.join (l.map textC) [32]).toArray⟩ else ⟨#[]⟩
/-- What pieces are read as, if all are. -/
def readAll : List (List UInt8) → Option (List CK)
  | [] => some []
  | p :: ps => match readB ⟨p.toArray⟩ with
    | none => none
    | some c => match readAll ps with
      | none => none
      | some cs => some (c :: cs)
def readRowB (s : ByteArray) : Option (List CK) := if s.data.toList = [] then some [] else readAll (pieces s.data.toList)

theorem readAll_snoc (ps : List (List UInt8)) (p : List UInt8) (out : List CK) (c : CK) (h : readAll ps = some out) (hp : readB ⟨p.toArray⟩ = some c) : readAll (ps ++ [p]) = some (out ++ [c]) := by
  induction ps generalizing out with
  | nil =>
    simp only [readAll] at h
    injection h with h
    subst h
    simp only [List.nil_append, readAll, hp]
  | cons q ps ih =>
    simp only [readAll] at h
    cases hq : readB ⟨q.toArray⟩ with
    | none => rw [hq] at h; cases h
    | some d =>
      rw [hq] at h
      cases hr : readAll ps with
      | none => rw [hr] at h; cases h
      | some cs =>
        rw [hr] at h
        simp only [] at h
        injection h with h
        subst h
        rw [List.cons_append, readAll, hq, ih cs hr]
        rfl
theorem readAll_none (ps : List (List UInt8)) (i : Nat) (hi : i < ps.length) (h : readB ⟨(ps[i]).toArray⟩ = none) : readAll ps = none := by
  induction ps generalizing i with
  | nil => simp at hi
  | cons q ps ih =>
    rw [readAll]
    cases i with
    | zero =>
      rw [List.getElem_cons_zero] at h
      rw [h]
    | succ i =>
      have := ih i (by simpa using hi) (by simpa using h)
      cases readB ⟨q.toArray⟩ with
      | none => rfl
      | some d => simp only [this]
theorem readAll_length (ps : List (List UInt8)) (out : List CK) (h : readAll ps = some out) : out.length = ps.length := by
  induction ps generalizing out with
  | nil =>
    simp only [readAll] at h
    injection h with h
    subst h; rfl
  | cons q ps ih =>
    simp only [readAll] at h
    cases hq : readB ⟨q.toArray⟩ with
    | none => rw [hq] at h; cases h
    | some d =>
      rw [hq] at h
      cases hr : readAll ps with
      | none => rw [hr] at h; cases h
      | some cs =>
        rw [hr] at h
        simp only [] at h
        injection h with h
        subst h
        simp [ih cs hr]
theorem readAll_texts (l : List CK) (h : l.all okC = true) : readAll (l.map textC) = some l := by
  induction l with
  | nil => rfl
  | cons c l ih =>
    rw [List.all_cons, Bool.and_eq_true] at h
    have e : (⟨(textC c).toArray⟩ : ByteArray) = cellT c.1 c.2.1 c.2.2 := bytes_ext (by rw [cellT_ok h.1]; rfl)
    rw [List.map_cons, readAll, e, readB_text h.1, ih h.2]
theorem readAll_some (ps : List (List UInt8)) (l : List CK) (h : readAll ps = some l) : l.all okC = true ∧ l.map textC = ps := by
  induction ps generalizing l with
  | nil =>
    simp only [readAll] at h
    injection h with h
    subst h; exact ⟨rfl, rfl⟩
  | cons q ps ih =>
    simp only [readAll] at h
    cases hq : readB ⟨q.toArray⟩ with
    | none => rw [hq] at h; cases h
    | some d =>
      rw [hq] at h
      cases hr : readAll ps with
      | none => rw [hr] at h; cases h
      | some cs =>
        rw [hr] at h
        simp only [] at h
        injection h with h
        subst h
        obtain ⟨h1, h2⟩ := ih cs hr
        obtain ⟨k, n, t⟩ := d
        obtain ⟨ho, e⟩ := readB_some hq
        refine ⟨by rw [List.all_cons, h1, Bool.and_true]; exact ho, ?_⟩
        rw [List.map_cons, h2]
        congr 1
        have := cellT_ok ho
        rw [e] at this
        exact this.symm
/-- A row is read from its text. -/
theorem readRow_text (l : List CK) (h : l.all okC = true) : readRowB (rowT l) = some l := by
  unfold rowT
  rw [if_pos h]
  unfold readRowB
  rw [bytes_mk]
  cases l with
  | nil => rw [if_pos (show Lib.join (List.map textC []) [32] = [] from rfl)]
  | cons c l =>
    have hc : okC c = true := by rw [List.all_cons, Bool.and_eq_true] at h; exact h.1
    have hne : Lib.join ((c :: l).map textC) [32] ≠ [] := by
      rw [List.map_cons, Lib.join_cons]
      intro e
      have := (l4T_some hc).1
      exact this (List.append_eq_nil_iff.1 e).1
    rw [if_neg hne, pieces_join _ (by simp) ?_, readAll_texts _ h]
    intro x hx
    obtain ⟨d, hd, rfl⟩ := List.mem_map.1 hx
    exact (l4T_some (List.all_eq_true.1 h d hd)).2
/-- What is read is right, and its text is what was read. -/
theorem readRow_some {s : ByteArray} {l : List CK} (h : readRowB s = some l) : l.all okC = true ∧ rowT l = s := by
  unfold readRowB at h
  split at h
  · rename_i e
    injection h with h
    subst h
    refine ⟨rfl, bytes_ext ?_⟩
    rw [e]; rfl
  · obtain ⟨h1, h2⟩ := readAll_some _ _ h
    refine ⟨h1, bytes_ext ?_⟩
    unfold rowT
    rw [if_pos h1, bytes_mk, h2, join_pieces]
theorem pieces_length (l : List UInt8) : (pieces l).length ≤ l.length + 1 := cutAt_length _ _ _
theorem pieces_each (l : List UInt8) (p : List UInt8) (h : p ∈ pieces l) : p.length ≤ l.length := by
  have := cutAt_each 32 l [] p h
  simpa using this

end Go.Proofs.YtmmandkellhbeaaGreatDoor
