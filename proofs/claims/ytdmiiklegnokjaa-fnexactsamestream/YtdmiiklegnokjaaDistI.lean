/-
  The contract of the program's Distinct.
-/
import Derived.Test.YtdmiiklegnokjaaDistS
import Derived.Test.YtdmiiklegnokjaaCopyI
namespace Go.Proofs.Ytdmiiklegnokjaa
open Go.ChangeShapes Go.WideShapes Go.ChangeAt Go.RowKit
attribute [local go_sem ↓] Go.wp_at_zero Go.wp_at_succ

set_option maxRecDepth 100000 in
set_option maxHeartbeats 1000000 in
theorem equal_impl (a b : Option Addr) (ca cb : Nat) (l m : List CT) (w : World) (ha : RowAt w a l) (hb : RowAt w b m) (hl : l.length ≤ maxLen) (r : Bool) (hr : sameRow l m = r) :
    Calls Try.prog 13 #[.slice a l.length ca, .slice b m.length cb] w fun e w' => e = .returned (.bool r) ∧ Below w.heap.size w w' := by
  have HA : Hid (RowAt w a l) := ha
  have HB : Hid (RowAt w b m) := hb
  have HR : Hid (sameRow l m = r) := hr
  clear ha hb hr
  unfold maxLen at hl
  by_cases hlen : l.length = m.length
  · have hli : ((l.length : Int) == (m.length : Int)) = true := by rw [beq_iff_eq]; omega
    have HL : Hid (l.length = m.length) := hlen
    obtain ⟨n, hn⟩ : ∃ n, l.length = n := ⟨_, rfl⟩
    have hn2 : m.length = n := by omega
    have HN : Hid (l.length = n ∧ m.length = n) := ⟨hn, hn2⟩
    rw [hn, hn2]
    clear hlen hli hn2
    rw [hn] at hl
    clear hn
    go_enter Try.func13, Try.ntmps13
    go_wp2
    go_loopw [13] (fun kk wr => ∃ k : Nat, k ≤ n ∧ kk = .int .i64 k ∧ Hid (∀ j (h1 : j < l.length) (h2 : j < m.length), j < k → sameC l[j] m[j] = true) ∧ Below w.heap.size w wr) (fun kk _ => n - (intOf kk).toNat)
    case atStart => exact ⟨0, Nat.zero_le _, rfl, fun j _ _ h => by omega, Below.refl _ _⟩
    case round =>
      obtain ⟨k, hk, rfl, hall, hbw⟩ := hrel
      by_cases hlt : k < n
      · have h1 : k < l.length := by have := HN.out; omega
        have h2 : k < m.length := by have := HN.out; omega
        obtain ⟨g, o, rfl, hgw, c0, c1, c2⟩ := HA.out.below hbw k h1
        obtain ⟨g', o', rfl, hgw', d0, d1, d2⟩ := HB.out.below hbw k h2
        have hi0 : (0 : Int) ≤ (k : Int) := by omega
        have hi1 : (k : Int) < (n : Int) := by omega
        obtain ⟨q, hq⟩ : ∃ q, sameC l[k] m[k] = q := ⟨_, rfl⟩
        have hno : Hid (q = false → r = false) := by
          have : q = false → r = false := fun e => by rw [← HR.out]; exact sameRow_at k h1 h2 (by rw [hq, e])
          exact this
        have hyes : Hid (q = true → ∀ j (h1 : j < l.length) (h2 : j < m.length), j < k + 1 → sameC l[j] m[j] = true) := by
          have : q = true → ∀ j (h1 : j < l.length) (h2 : j < m.length), j < k + 1 → sameC l[j] m[j] = true := by
            intro e j hj1 hj2 hjk
            by_cases ej : j = k
            · subst ej; rw [hq, e]
            · exact hall.out j hj1 hj2 (by omega)
          exact this
        have hqr : ∀ wz, (binOp .neq 37 (.agg #[.int .i64 l[k].1, .int .i64 l[k].2.1, .string l[k].2.2]) (.agg #[.int .i64 m[k].1, .int .i64 m[k].2.1, .string m[k].2.2])).run Try.prog wz = .ok (.bool !q) wz := fun wz => by rw [run_neq, ← hq]; rfl
        clear hq
        generalize l[k] = x at c0 c1 c2 hqr
        generalize m[k] = y at d0 d1 d2 hqr
        cases q
        · have e := hno.out rfl
          subst e
          go_wp2_with fail
          go_quiet (fail)
          go_wp2
          go_ret
          exact ⟨rfl, belowN hbw _⟩
        · go_wp2_with fail
          go_quiet (fail)
          go_wp2
          go_roundw
          case rel => exact ⟨k + 1, by omega, by go_num, hyes.out (by trivial), belowN hbw _⟩
          case measure => simp [intOf]; omega
      · have hkl : k = n := by omega
        subst hkl
        have hi1 : ¬ (k : Int) < (k : Int) := by omega
        have e : r = true := by
          rw [← HR.out]
          exact sameRow_all HL.out fun j h1 h2 => hall.out j h1 h2 (by have := HN.out; omega)
        subst e
        go_wp2
        go_ret
        exact ⟨rfl, hbw⟩
  · have hli : ((l.length : Int) == (m.length : Int)) = false := by rw [beq_eq_false_iff_ne]; omega
    have hli2 : ¬ ((l.length : Int) = (m.length : Int)) := by omega
    have e : r = false := by rw [← HR.out]; exact sameRow_len hlen
    subst e
    go_enter Try.func13, Try.ntmps13
    go_wp2
    go_ret
    exact ⟨rfl, Below.refl _ _⟩


end Go.Proofs.Ytdmiiklegnokjaa
