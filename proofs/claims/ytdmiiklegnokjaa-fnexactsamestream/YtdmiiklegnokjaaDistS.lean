/-
  Each row once: what it is, and the contract of the model's Distinct.
-/
import Derived.Test.YtdmiiklegnokjaaRank4
import Derived.Test.YtdmiiklegnokjaaRank5
namespace Go.Proofs.Ytdmiiklegnokjaa
open Go.ChangeShapes Go.WideShapes Go.ChangeAt Go.RowKit
attribute [local go_sem ↓] Go.wp_at_zero Go.wp_at_succ

def sameC (x y : CT) : Bool := sameB x.1 x.2.1 x.2.2 y.1 y.2.1 y.2.2
theorem sameC_eq {x y : CT} : sameC x y = true ↔ x = y := by
  unfold sameC
  rw [sameB_eq]
  constructor
  · rintro ⟨h1, h2, h3⟩; exact Prod.ext h1 (Prod.ext h2 h3)
  · rintro rfl; exact ⟨rfl, rfl, rfl⟩
/-- Are two rows one? -/
def sameRow : List CT → List CT → Bool
  | [], [] => true
  | x :: l, y :: m => sameC x y && sameRow l m
  | _, _ => false
theorem sameRow_eq : ∀ {l m : List CT}, sameRow l m = true ↔ l = m
  | [], [] => by simp [sameRow]
  | [], _ :: _ => by simp [sameRow]
  | _ :: _, [] => by simp [sameRow]
  | x :: l, y :: m => by rw [sameRow, Bool.and_eq_true, sameC_eq, sameRow_eq, List.cons.injEq]
theorem sameRow_len {l m : List CT} (h : l.length ≠ m.length) : sameRow l m = false := by
  rw [Bool.eq_false_iff]
  intro e
  exact h (by rw [sameRow_eq.1 e])
theorem sameRow_at {l m : List CT} (k : Nat) (h1 : k < l.length) (h2 : k < m.length) (h : sameC l[k] m[k] = false) : sameRow l m = false := by
  rw [Bool.eq_false_iff]
  intro e
  have := sameRow_eq.1 e
  subst this
  rw [sameC_eq.2 rfl] at h
  cases h
theorem sameRow_all {l m : List CT} (h : l.length = m.length) (ha : ∀ k (h1 : k < l.length) (h2 : k < m.length), sameC l[k] m[k] = true) : sameRow l m = true := by
  rw [sameRow_eq]
  exact List.ext_getElem h fun k h1 h2 => sameC_eq.1 (ha k h1 h2)
/-- Is the row among them? -/
def hasR (L : List (List CT)) (x : List CT) : Bool := L.any fun y => sameRow y x
theorem hasR_iff {L : List (List CT)} {x : List CT} : hasR L x = true ↔ x ∈ L := by
  unfold hasR
  rw [List.any_eq_true]
  constructor
  · rintro ⟨y, hy, h⟩; rw [← sameRow_eq.1 h]; exact hy
  · intro h; exact ⟨x, h, sameRow_eq.2 rfl⟩
/-- Each row once, where it comes first. -/
def distTo (L : List (List CT)) : Nat → List (List CT)
  | 0 => []
  | k + 1 => if hasR (distTo L k) (L.getD k []) = true then distTo L k else distTo L k ++ [L.getD k []]
def distR (L : List (List CT)) : List (List CT) := distTo L L.length
theorem distTo_len (L : List (List CT)) (k : Nat) : (distTo L k).length ≤ k := by
  induction k with
  | zero => simp [distTo]
  | succ k ih =>
    rw [distTo]
    split
    · omega
    · rw [List.length_append, List.length_singleton]; omega
/-- What holds of each row holds of each that is left. -/
theorem distTo_each {P : List CT → Prop} (L : List (List CT)) (k : Nat) (hk : k ≤ L.length) (h : ∀ i (hi : i < L.length), P L[i]) : ∀ i (hi : i < (distTo L k).length), P (distTo L k)[i] := by
  have key : ∀ x ∈ distTo L k, P x := by
    induction k with
    | zero => intro x hx; simp [distTo] at hx
    | succ k ih =>
      have hlt : k < L.length := by omega
      have hd : L.getD k [] = L[k] := by simp [List.getD, List.getElem?_eq_getElem hlt]
      intro x hx
      rw [distTo] at hx
      split at hx
      · exact ih (by omega) x hx
      · rcases List.mem_append.1 hx with h' | h'
        · exact ih (by omega) x h'
        · rw [List.mem_singleton] at h'
          rw [h', hd]; exact h k hlt
  intro i hi
  exact key _ (List.getElem_mem hi)

set_option maxRecDepth 100000 in
set_option maxHeartbeats 1000000 in
theorem same_specR (a b : Option Addr) (ca cb : Nat) (l m : List CT) (w : World) (ha : RowAt w a l) (hb : RowAt w b m) (hl : l.length ≤ maxLen) (r : Bool) (hr : sameRow l m = r) :
    Calls Try.prog 10 #[.slice a l.length ca, .slice b m.length cb] w fun e w' => e = .returned (.bool r) ∧ Below w.heap.size w w' := by
  have HA : Hid (RowAt w a l) := ha
  have HB : Hid (RowAt w b m) := hb
  have HR : Hid (sameRow l m = r) := hr
  clear ha hb hr
  unfold maxLen at hl
  by_cases hlen : l.length = m.length
  · have hli : ((l.length : Int) == (m.length : Int)) = true := by rw [beq_iff_eq]; omega
    have HL : Hid (l.length = m.length) := hlen
    obtain ⟨n, hn⟩ : ∃ n, l.length = n := ⟨_, rfl⟩
    have hn2 : m.length = n := by omega
    have HN : Hid (l.length = n ∧ m.length = n) := ⟨hn, hn2⟩
    rw [hn, hn2]
    clear hlen hli hn2
    rw [hn] at hl
    clear hn
    go_enter Try.func10, Try.ntmps10
    go_wp2
    go_loopw [5] (fun kk wr => ∃ k : Nat, k ≤ n ∧ kk = .int .i64 k ∧ Hid (∀ j (h1 : j < l.length) (h2 : j < m.length), j < k → sameC l[j] m[j] = true) ∧ Below w.heap.size w wr) (fun kk _ => n - (intOf kk).toNat)
    case atStart => exact ⟨0, Nat.zero_le _, rfl, fun j _ _ h => by omega, Below.refl _ _⟩
    case round =>
      obtain ⟨k, hk, rfl, hall, hbw⟩ := hrel
      by_cases hlt : k < n
      · have h1 : k < l.length := by have := HN.out; omega
        have h2 : k < m.length := by have := HN.out; omega
        obtain ⟨g, o, rfl, hgw, c0, c1, c2⟩ := HA.out.below hbw k h1
        obtain ⟨g', o', rfl, hgw', d0, d1, d2⟩ := HB.out.below hbw k h2
        have hi0 : (0 : Int) ≤ (k : Int) := by omega
        have hi1 : (k : Int) < (n : Int) := by omega
        obtain ⟨q, hq⟩ : ∃ q, sameC l[k] m[k] = q := ⟨_, rfl⟩
        have hno : Hid (q = false → r = false) := by
          have : q = false → r = false := fun e => by rw [← HR.out]; exact sameRow_at k h1 h2 (by rw [hq, e])
          exact this
        have hyes : Hid (q = true → ∀ j (h1 : j < l.length) (h2 : j < m.length), j < k + 1 → sameC l[j] m[j] = true) := by
          have : q = true → ∀ j (h1 : j < l.length) (h2 : j < m.length), j < k + 1 → sameC l[j] m[j] = true := by
            intro e j hj1 hj2 hjk
            by_cases ej : j = k
            · subst ej; rw [hq, e]
            · exact hall.out j hj1 hj2 (by omega)
          exact this
        have hqr : ∀ wz, (binOp .neq 37 (.agg #[.int .i64 l[k].1, .int .i64 l[k].2.1, .string l[k].2.2]) (.agg #[.int .i64 m[k].1, .int .i64 m[k].2.1, .string m[k].2.2])).run Try.prog wz = .ok (.bool !q) wz := fun wz => by rw [run_neq, ← hq]; rfl
        clear hq
        generalize l[k] = x at c0 c1 c2 hqr
        generalize m[k] = y at d0 d1 d2 hqr
        cases q
        · have e := hno.out rfl
          subst e
          go_wp2_with fail
          go_quiet (fail)
          go_wp2
          go_ret
          exact ⟨rfl, belowN hbw _⟩
        · go_wp2_with fail
          go_quiet (fail)
          go_wp2
          go_roundw
          case rel => exact ⟨k + 1, by omega, by go_num, hyes.out (by trivial), belowN hbw _⟩
          case measure => simp [intOf]; omega
      · have hkl : k = n := by omega
        subst hkl
        have hi1 : ¬ (k : Int) < (k : Int) := by omega
        have e : r = true := by
          rw [← HR.out]
          exact sameRow_all HL.out fun j h1 h2 => hall.out j h1 h2 (by have := HN.out; omega)
        subst e
        go_wp2
        go_ret
        exact ⟨rfl, hbw⟩
  · have hli : ((l.length : Int) == (m.length : Int)) = false := by rw [beq_eq_false_iff_ne]; omega
    have hli2 : ¬ ((l.length : Int) = (m.length : Int)) := by omega
    have e : r = false := by rw [← HR.out]; exact sameRow_len hlen
    subst e
    go_enter Try.func10, Try.ntmps10
    go_wp2
    go_ret
    exact ⟨rfl, Below.refl _ _⟩

theorem own_slice {w : World} {base n sz : Nat} {e : TypeId} {xs : List Value} {v : Value} (h : w.ownsRow base e sz v n xs) (hv : v ≠ .slice none 0 0) : ∃ g c, v = .slice (some ⟨g, 0, none⟩) n c := by
  rcases h.2 with ⟨h', _⟩ | ⟨g, c, cur, h', _⟩
  · exact absurd h' hv
  · exact ⟨g, c, h'⟩
end Go.Proofs.Ytdmiiklegnokjaa
