/-
  The contracts of the model's texts of cells.
-/
import Derived.Test.YtfokdblojlmnlamDoorBase
import Derived.Test.YtfokdblojlmnlamDoorRowMath
import Derived.Laws.IdiomStrings
namespace Go.Proofs.YtfokdblojlmnlamDoor
open Go.ChangeShapes Go.WideShapes Go.ChangeAt Go.RowKit
attribute [local go_sem ↓] Go.wp_at_zero Go.wp_at_succ

def strOf : Value → ByteArray
  | .string b => b
  | _ => ⟨#[]⟩
def emptyN : Value → Nat
  | .string b => if b.data.toList = [] then 1 else 0
  | _ => 0
theorem emptyN_no {b : ByteArray} (h : b.data.toList ≠ []) : emptyN (.string b) = 0 := if_neg h
theorem emptyN_nil : emptyN (.string ⟨#[]⟩) = 1 := rfl
/-- The digits of a number; none of 0. -/
def digsN (u : Nat) : List UInt8 := if u = 0 then [] else Lib.decDigits u
theorem decDigits_step (u : Nat) : Lib.decDigits u = digsN (u / 10) ++ [UInt8.ofNat (48 + u % 10)] := by
  by_cases h : u < 10
  · rw [Lib.decDigits_one h, show u / 10 = 0 by omega, show u % 10 = u by omega]; rfl
  · rw [Lib.decDigits, dif_neg h]
    unfold digsN
    rw [if_neg (by omega)]
/-- What the loop keeps: what is left of the number, and the digits behind. -/
def IntInv (n0 m : Int) (l : List UInt8) : Prop :=
  (l = [] ∧ m = n0) ∨ (l ≠ [] ∧ digsN m.natAbs ++ l = Lib.decDigits n0.natAbs ∧ (n0 < 0 → m ≤ 0) ∧ (0 ≤ n0 → 0 ≤ m) ∧ m.natAbs ≤ n0.natAbs)
theorem tdiv_sign (m : Int) : (0 ≤ m → 0 ≤ m.tdiv 10) ∧ (m ≤ 0 → m.tdiv 10 ≤ 0) := ⟨fun h => Int.tdiv_nonneg h (by decide), fun h => by
  have := Int.tdiv_nonneg (a := -m) (b := 10) (by omega) (by decide)
  rw [Int.neg_tdiv] at this; omega⟩
theorem IntInv.step {n0 m : Int} {l : List UInt8} (h : IntInv n0 m l) (hgo : l = [] ∨ m ≠ 0) : IntInv n0 (m.tdiv 10) (UInt8.ofNat (48 + m.natAbs % 10) :: l) := by
  have e : (m.tdiv 10).natAbs = m.natAbs / 10 := by rw [Int.natAbs_tdiv]; rfl
  obtain ⟨s1, s2⟩ := tdiv_sign m
  rcases h with ⟨rfl, rfl⟩ | ⟨hl, he, h1, h2, h3⟩
  · refine .inr ⟨by simp, ?_, ?_, ?_, ?_⟩
    · rw [e, decDigits_step]
    · intro h; exact s2 (by omega)
    · intro h; exact s1 h
    · rw [e]; omega
  · have hm : m ≠ 0 := by rcases hgo with h | h; exact absurd h hl; exact h
    refine .inr ⟨by simp, ?_, ?_, ?_, ?_⟩
    · rw [← he, e]
      unfold digsN
      rw [if_neg (show ¬ m.natAbs = 0 by omega), decDigits_step m.natAbs]
      unfold digsN
      simp
    · intro h; exact s2 (h1 h)
    · intro h; exact s1 (h2 h)
    · rw [e]; omega
theorem IntInv.out {n0 : Int} {l : List UInt8} (h : IntInv n0 0 l) (hl : l ≠ []) : l = Lib.decDigits n0.natAbs := by
  rcases h with ⟨rfl, _⟩ | ⟨_, he, _⟩
  · exact absurd rfl hl
  · simpa [digsN] using he

theorem conv_one (d : Nat) (hd : d < 10) (W : World) : (convert 68 9 (.slice (some ⟨W.heap.size, 0, none⟩) 1 1)).run Tryd.prog (W.alloc (.cells #[.int .u8 (48 + (d : Int))] 5)) = .ok (.string ⟨#[UInt8.ofNat (48 + d)]⟩) (W.alloc (.cells #[.int .u8 (48 + (d : Int))] 5)) := by
  refine run_convert_bytes_back _ 68 9 5 ⟨W.heap.size, 0, none⟩ 1 [UInt8.ofNat (48 + d)] Tryd.underlying68 Tryd.underlying5 Tryd.underlying9 ?_
  intro j hj
  match j, hj with
  | 0, _ =>
    rw [List.getElem_cons_zero, dig_toNat d hd]
    simp [Addr.add]
theorem tmod_digit (m : Int) : (0 ≤ m.tmod 10 ∧ m.tmod 10 = ((m.natAbs % 10 : Nat) : Int)) ∨ (m.tmod 10 < 0 ∧ m.tmod 10 = -((m.natAbs % 10 : Nat) : Int) ∧ 0 < m.natAbs % 10) := by
  have e : (m.tmod 10).natAbs = m.natAbs % 10 := by rw [Int.natAbs_tmod]; rfl
  by_cases h : 0 ≤ m.tmod 10
  · exact .inl ⟨h, by omega⟩
  · exact .inr ⟨by omega, by omega, by omega⟩

set_option maxRecDepth 100000 in
set_option maxHeartbeats 1000000 in
theorem int_spec (n0 : Int) (h0 : -1000000000 ≤ n0) (h1 : n0 ≤ 1000000000) (w : World) :
    Calls Tryd.prog 37 #[.int .i64 n0] w fun e w' => e = .returned (.string ⟨(Lib.itoa n0).toArray⟩) ∧ Below w.heap.size w w' := by
  obtain ⟨y, hy0⟩ : ∃ y : ByteArray, (⟨(Lib.itoa n0).toArray⟩ : ByteArray) = y := ⟨_, rfl⟩
  rw [hy0]
  have hy : Hid ((⟨(Lib.itoa n0).toArray⟩ : ByteArray) = y) := hy0
  clear hy0
  go_enter Tryd.func37, Tryd.ntmps37
  go_wp2
  go_loopw [0, 3] (fun n s wr => ∃ m b, n = .int .i64 m ∧ s = .string b ∧ Hid (IntInv n0 m b.data.toList) ∧ -1000000000 ≤ m ∧ m ≤ 1000000000 ∧ Below w.heap.size w wr)
    (fun n s _ => (intOf n).natAbs + emptyN s)
  case atStart => exact ⟨n0, _, rfl, rfl, .inl ⟨rfl, rfl⟩, h0, h1, Below.refl _ _⟩
  case round =>
    obtain ⟨m, b, rfl, rfl, hI, hm0, hm1, hb⟩ := hrel
    have hstep : Hid ((b.data.toList = [] ∨ m ≠ 0) → IntInv n0 (m.tdiv 10) (UInt8.ofNat (48 + m.natAbs % 10) :: b.data.toList)) := fun h => hI.out.step h
    have hd10 : m.natAbs % 10 < 10 := by omega
    have hdl : (m.tdiv 10).natAbs = m.natAbs / 10 := by rw [Int.natAbs_tdiv]; rfl
    have hcv := conv_one (m.natAbs % 10) hd10
    have hmod := tmod_digit m
    have hlen : b.data.toList.length ≤ 10 := by
      rcases hI.out with ⟨h, _⟩ | ⟨_, he, _⟩
      · rw [h]; simp
      · have h10 := decDigits_len n0.natAbs (by omega)
        rw [← he, List.length_append] at h10
        omega
    rw [← Lib.size_eq] at hlen
    have hz1 : ¬ (9223372036854775807 < 1 + b.size) := by omega
    generalize m.natAbs % 10 = d at hstep hd10 hcv hmod
    generalize UInt8.ofNat (48 + d) = c at hstep hcv
    have hap : (⟨#[c]⟩ ++ b : ByteArray).data.toList = c :: b.data.toList := by simp
    have hw1 : wrap64 (48 + (d : Int)) = 48 + (d : Int) := by unfold wrap64; omega
    have hw2 : (48 + (d : Int)) % 256 = 48 + (d : Int) := by omega
    have hw3 : wrap64 (d : Int) = (d : Int) := by unfold wrap64; omega
    by_cases hs : b.data.toList = []
    · have hb0 : b = ⟨#[]⟩ := bytes_ext hs
      have hst := hstep.out (.inl hs)
      rw [← hap] at hst
      subst hb0
      have hS : Hid (IntInv n0 (m.tdiv 10) (⟨#[c]⟩ ++ ⟨#[]⟩ : ByteArray).data.toList) := hst
      have hA0 : (⟨#[c]⟩ ++ ⟨#[]⟩ : ByteArray).data.toList ≠ [] := by rw [hap]; simp
      have hA : Hid ((⟨#[c]⟩ ++ ⟨#[]⟩ : ByteArray).data.toList ≠ []) := hA0
      clear hst hstep hap hA0
      rcases hmod with ⟨hp, hd⟩ | ⟨hp, hd, hd0⟩
      · have hd' : ¬ m.tmod 10 < 0 := by omega
        go_wp2
        go_roundw
        case rel => exact ⟨m.tdiv 10, _, rfl, rfl, hS.out, by omega, by omega, hb.alloc hb.size _⟩
        case measure =>
          rw [emptyN_no hA.out, emptyN_nil]
          simp only [intOf]
          rw [hdl]
          omega
      · have hd' : -(d : Int) < 0 := by omega
        go_wp2
        go_roundw
        case rel => exact ⟨m.tdiv 10, _, rfl, rfl, hS.out, by omega, by omega, hb.alloc hb.size _⟩
        case measure =>
          rw [emptyN_no hA.out, emptyN_nil]
          simp only [intOf]
          rw [hdl]
          omega
    · have hne : b.toList.isEmpty = false := by rw [Lib.toList_data]; simpa using hs
      by_cases hm : m = 0
      · subst hm
        have hout := hI.out.out hs
        clear hstep hmod hcv
        by_cases hn : n0 < 0
        · have e45 : (⟨#[45]⟩ : ByteArray) ++ b = y := by
            rw [← hy.out]
            refine bytes_ext ?_
            rw [itoa_neg n0 hn, bytes_mk]
            simp [hout]
          have hS : Hid ((⟨#[45]⟩ : ByteArray) ++ b = y) := e45
          clear hout hs hy hap e45
          go_wp2
          go_ret
          exact ⟨by rw [← hS.out]; rfl, hb⟩
        · have e0 : b = y := by
            rw [← hy.out]
            refine bytes_ext ?_
            rw [itoa_nonneg n0 (by omega), bytes_mk, hout]
            congr 1; omega
          subst e0
          clear hout hs hy hap
          go_wp2
          go_ret
          exact ⟨rfl, hb⟩
      · have hst := hstep.out (.inr hm)
        rw [← hap] at hst
        have hS : Hid (IntInv n0 (m.tdiv 10) (⟨#[c]⟩ ++ b : ByteArray).data.toList) := hst
        have hA0 : (⟨#[c]⟩ ++ b : ByteArray).data.toList ≠ [] := by rw [hap]; simp
        have hA : Hid ((⟨#[c]⟩ ++ b : ByteArray).data.toList ≠ []) := hA0
        have hs' : Hid (b.data.toList ≠ []) := hs
        clear hst hstep hap hs hA0
        rcases hmod with ⟨hp, hd⟩ | ⟨hp, hd, hd0⟩
        · have hd' : ¬ m.tmod 10 < 0 := by omega
          go_wp2
          go_roundw
          case rel => exact ⟨m.tdiv 10, _, rfl, rfl, hS.out, by omega, by omega, hb.alloc hb.size _⟩
          case measure =>
            rw [emptyN_no hA.out, emptyN_no hs'.out]
            simp only [intOf]
            rw [hdl]
            omega
        · have hd' : -(d : Int) < 0 := by omega
          go_wp2
          go_roundw
          case rel => exact ⟨m.tdiv 10, _, rfl, rfl, hS.out, by omega, by omega, hb.alloc hb.size _⟩
          case measure =>
            rw [emptyN_no hA.out, emptyN_no hs'.out]
            simp only [intOf]
            rw [hdl]
            omega

theorem int_specb (n : Int) (y : ByteArray) (hy : (⟨(Lib.itoa n).toArray⟩ : ByteArray) = y) (h0 : -1000000000 ≤ n) (h1 : n ≤ 1000000000) (w : World) :
    Calls Tryd.prog 37 #[.int .i64 n] w fun e w' => e = .returned (.string y) ∧ Below w.heap.size w w' := by
  subst hy; exact int_spec n h0 h1 w

set_option maxRecDepth 100000 in
theorem l4_spec (k n : Int) (t : ByteArray) (ho : okB k n t = true) (y : ByteArray) (hy : (⟨(l4T k n t.data.toList).toArray⟩ : ByteArray) = y) (w : World) :
    Calls Tryd.prog 25 #[.agg #[.int .i64 k, .int .i64 n, .string t]] w fun e w' => e = .returned (.string y) ∧ Below w.heap.size w w' := by
  rcases okB_kind ho with rfl | rfl | rfl | rfl
  · have hy' : y = ⟨wNone.toArray⟩ := by rw [← hy]; rfl
    subst hy'
    clear hy
    go_enter Tryd.func25, Tryd.ntmps25
    go_wp2
    go_ret
    exact ⟨rfl, by go_grown⟩
  · have hb := numB_iff.1 (okB_1 ho).1
    go_enter Tryd.func25, Tryd.ntmps25
    go_wp2_with fail
    refine (int_specb n y hy (by omega) (by omega) _).mono ?_
    rintro e w1 ⟨rfl, hb1⟩
    go_wp2
    go_ret
    exact ⟨rfl, chainA hb1⟩
  · have h12 : t.size ≤ 12 := by
      have := (okB_2 ho).2
      unfold textB at this
      rw [Bool.and_eq_true, decide_eq_true_eq] at this
      omega
    have e1 : Hid ((⟨#[39]⟩ ++ t ++ ⟨#[39]⟩ : ByteArray) = y) := by
      have : (⟨#[39]⟩ ++ t ++ ⟨#[39]⟩ : ByteArray) = y := by
        rw [← hy]
        refine bytes_ext ?_
        rw [bytes_mk, l4T_2]
        simp
      exact this
    clear hy
    have hz1 : ¬ (9223372036854775807 < 1 + t.size) := by omega
    have hz2 : ¬ (9223372036854775807 < 1 + t.size + 1) := by omega
    have hz3 : (⟨#[39]⟩ ++ t : ByteArray).size = 1 + t.size := by rw [ByteArray.size_append]; rfl
    go_enter Tryd.func25, Tryd.ntmps25
    go_wp2
    go_ret
    exact ⟨by rw [← e1.out]; rfl, by go_grown⟩
  · rcases (okB_3 ho).1 with rfl | rfl
    · have hy' : y = ⟨wNo.toArray⟩ := by rw [← hy]; rfl
      subst hy'
      clear hy
      go_enter Tryd.func25, Tryd.ntmps25
      go_wp2
      go_ret
      exact ⟨rfl, by go_grown⟩
    · have hy' : y = ⟨wYes.toArray⟩ := by rw [← hy]; rfl
      subst hy'
      clear hy
      go_enter Tryd.func25, Tryd.ntmps25
      go_wp2
      go_ret
      exact ⟨rfl, by go_grown⟩

end Go.Proofs.YtfokdblojlmnlamDoor
