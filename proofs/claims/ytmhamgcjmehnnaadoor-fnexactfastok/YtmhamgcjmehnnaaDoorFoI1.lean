/-
  The program's FastOk: steps' words, what a step has of its own, what it reads and writes, whether all are registers.
-/
import Derived.Test.YtmhamgcjmehnnaaDoorFastMath
import Derived.Test.YtmhamgcjmehnnaaDoorRegEq
import Derived.Test.YtmhamgcjmehnnaaDoorOpVar
import Derived.Test.YtmhamgcjmehnnaaDoorInts1
import Derived.Test.YtmhamgcjmehnnaaDoorKept
import Derived.Laws.Tables
import Derived.Laws.Rows
import Derived.Laws.CopyOwn
namespace Go.Proofs.YtmhamgcjmehnnaaDoor
open Go.ChangeShapes Go.WideShapes Go.ChangeAt Go.RowKit
attribute [local go_sem ↓] Go.wp_at_zero Go.wp_at_succ
attribute [local simp] World.cell?_alloc_past World.cell?_alloc_at World.frozen?_alloc_at cell_far cell_off cell_here World.frozen?_alloc_past

/-- The word of a kind as an answer: empty where it is none. -/
def WordOut (kind : Int) (w w' : World) (e : Ending) : Prop := ∃ s : ByteArray, e = .returned (.string s) ∧ (s.size = 0 ↔ ¬ (1 ≤ kind ∧ kind ≤ 12)) ∧ w' = w
theorem opword_impl (kind : Int) (w : World) (hw : OpwAt w) :
    Calls Tryd.prog 29 #[.int .i64 kind] w fun e w' => WordOut kind w w' e := by
  by_cases h0 : kind < 0
  · go_enter Tryd.func29, Tryd.ntmps29
    go_wp2
    go_ret
    exact ⟨_, rfl, ⟨fun _ => by omega, fun _ => rfl⟩, rfl⟩
  by_cases h1 : 13 ≤ kind
  · go_enter Tryd.func29, Tryd.ntmps29
    go_wp2
    go_ret
    exact ⟨_, rfl, ⟨fun _ => by omega, fun _ => rfl⟩, rfl⟩
  obtain ⟨k, rfl⟩ : ∃ k : Nat, kind = k := ⟨kind.toNat, by omega⟩
  have c := hw.cell k (by omega)
  have hz := hid (opW0_size k (by omega))
  generalize opW0 k = s at c hz
  clear hw
  have h2 : (k : Int) < 13 := by omega
  go_enter Tryd.func29, Tryd.ntmps29
  go_wp2
  go_ret
  exact ⟨s, rfl, hz.out.trans (by omega), rfl⟩
/-- What a step has of its own. -/
def ownO (o : FO) : FO := if o.1 = 1 ∨ o.1 = 2 ∨ o.1 = 11 then (o.1, o.2.1, o.2.2.1, 0) else if o.1 = 12 then (o.1, 0, o.2.2.1, 0) else o
def foV (o : FO) : Value := .agg #[.int .i64 o.1, .int .i64 o.2.1, .int .i64 o.2.2.1, .int .i64 o.2.2.2]
theorem own_impl (o : FO) (w : World) :
    Calls Tryd.prog 30 #[foV o] w fun e w' => e = .returned (foV (ownO o)) ∧ Below w.heap.size w w' := by
  obtain ⟨k, t, a, b⟩ := o
  unfold ownO foV
  dsimp only
  by_cases h1 : k = 1
  · subst h1
    go_enter Tryd.func30, Tryd.ntmps30
    go_wp2
    exact bodyPost_ret (v := .agg #[.int .i64 1, .int .i64 t, .int .i64 a, .int .i64 0]) (by simp [results, Tryd.results30, go_sem]) rfl ⟨rfl, by repeat (first | exact Below.refl _ _ | refine Below.alloc ?_ (by first | exact Nat.le_refl _ | (simp; done) | (simp; omega)) _)⟩
  by_cases h2 : k = 2
  · subst h2
    go_enter Tryd.func30, Tryd.ntmps30
    go_wp2
    exact bodyPost_ret (v := .agg #[.int .i64 2, .int .i64 t, .int .i64 a, .int .i64 0]) (by simp [results, Tryd.results30, go_sem]) rfl ⟨rfl, by repeat (first | exact Below.refl _ _ | refine Below.alloc ?_ (by first | exact Nat.le_refl _ | (simp; done) | (simp; omega)) _)⟩
  by_cases h3 : k = 11
  · subst h3
    go_enter Tryd.func30, Tryd.ntmps30
    go_wp2
    exact bodyPost_ret (v := .agg #[.int .i64 11, .int .i64 t, .int .i64 a, .int .i64 0]) (by simp [results, Tryd.results30, go_sem]) rfl ⟨rfl, by repeat (first | exact Below.refl _ _ | refine Below.alloc ?_ (by first | exact Nat.le_refl _ | (simp; done) | (simp; omega)) _)⟩
  rw [if_neg (by omega)]
  by_cases h4 : k = 12
  · subst h4
    go_enter Tryd.func30, Tryd.ntmps30
    go_wp2
    exact bodyPost_ret (v := .agg #[.int .i64 12, .int .i64 0, .int .i64 a, .int .i64 0]) (by simp [results, Tryd.results30, go_sem]) rfl ⟨rfl, by repeat (first | exact Below.refl _ _ | refine Below.alloc ?_ (by first | exact Nat.le_refl _ | (simp; done) | (simp; omega)) _)⟩
  rw [if_neg h4]
  go_enter Tryd.func30, Tryd.ntmps30
  go_wp2
  exact bodyPost_ret (v := .agg #[.int .i64 k, .int .i64 t, .int .i64 a, .int .i64 b]) (by simp [results, Tryd.results30, go_sem]) rfl ⟨rfl, by repeat (first | exact Below.refl _ _ | refine Below.alloc ?_ (by first | exact Nat.le_refl _ | (simp; done) | (simp; omega)) _)⟩
/-- The registers that a step reads, and that it writes. -/
def readsO (o : FO) : List Int := if o.1 = 1 ∨ o.1 = 2 then [] else if o.1 = 11 ∨ o.1 = 12 then [o.2.2.1] else [o.2.2.1, o.2.2.2]
def writesO (o : FO) : List Int := if o.1 = 12 then [] else [o.2.1]
/-- A list of numbers as an answer. -/
def IntsOut (w w' : World) (l : List Int) (e : Ending) : Prop := ∃ a c, e = .returned (.slice a l.length c) ∧ IntsAt w' a l ∧ Below w.heap.size w w'
theorem ints_new {w : World} {B : Nat} {l : List Int} (hB : B < w.heap.size) (h : ∀ k (hk : k < l.length), w.cell? ⟨B, k, none⟩ = some (.int .i64 l[k])) : IntsAt w (some ⟨B, 0, none⟩) l := by
  intro k hk
  refine ⟨B, 0, rfl, hB, ?_⟩
  rw [Nat.zero_add]
  exact h k hk
theorem reads_impl (o : FO) (w : World) :
    Calls Tryd.prog 17 #[foV o] w fun e w' => IntsOut w w' (readsO o) e := by
  obtain ⟨k, t, a, b⟩ := o
  unfold readsO foV
  dsimp only
  by_cases h1 : k = 1
  · subst h1
    go_enter Tryd.func17, Tryd.ntmps17
    go_wp2
    go_ret
    exact ⟨none, 0, rfl, fun j hj => absurd hj (by simp), (Below.refl _ _).alloc (Nat.le_refl _) _⟩
  by_cases h2 : k = 2
  · subst h2
    go_enter Tryd.func17, Tryd.ntmps17
    go_wp2
    go_ret
    exact ⟨none, 0, rfl, fun j hj => absurd hj (by simp), (Below.refl _ _).alloc (Nat.le_refl _) _⟩
  rw [if_neg (by omega)]
  by_cases h3 : k = 11
  · subst h3
    go_enter Tryd.func17, Tryd.ntmps17
    go_wp2
    go_ret
    refine ⟨some ⟨w.heap.size + 1, 0, none⟩, 1, rfl, ints_new (by simp) ?_, ((Below.refl _ _).alloc (Nat.le_refl _) _).alloc (by simp) _⟩
    intro j hj
    obtain rfl : j = 0 := by simpa using hj
    simp
  by_cases h4 : k = 12
  · subst h4
    go_enter Tryd.func17, Tryd.ntmps17
    go_wp2
    go_ret
    refine ⟨some ⟨w.heap.size + 1, 0, none⟩, 1, rfl, ints_new (by simp) ?_, ((Below.refl _ _).alloc (Nat.le_refl _) _).alloc (by simp) _⟩
    intro j hj
    obtain rfl : j = 0 := by simpa using hj
    simp
  rw [if_neg (by omega)]
  go_enter Tryd.func17, Tryd.ntmps17
  go_wp2
  go_ret
  refine ⟨some ⟨w.heap.size + 1, 0, none⟩, 2, rfl, ints_new (by simp) ?_, ((Below.refl _ _).alloc (Nat.le_refl _) _).alloc (by simp) _⟩
  intro j hj
  match j, hj with
  | 0, _ => simp
  | 1, _ => simp
theorem writes_impl (o : FO) (w : World) :
    Calls Tryd.prog 19 #[foV o] w fun e w' => IntsOut w w' (writesO o) e := by
  obtain ⟨k, t, a, b⟩ := o
  unfold writesO foV
  dsimp only
  by_cases h4 : k = 12
  · subst h4
    go_enter Tryd.func19, Tryd.ntmps19
    go_wp2
    go_ret
    exact ⟨none, 0, rfl, fun j hj => absurd hj (by simp), (Below.refl _ _).alloc (Nat.le_refl _) _⟩
  rw [if_neg (by omega)]
  go_enter Tryd.func19, Tryd.ntmps19
  go_wp2
  go_ret
  refine ⟨some ⟨w.heap.size + 1, 0, none⟩, 1, rfl, ints_new (by simp) ?_, ((Below.refl _ _).alloc (Nat.le_refl _) _).alloc (by simp) _⟩
  intro j hj
  obtain rfl : j = 0 := by simpa using hj
  simp
def regB (x : Int) : Bool := decide (0 ≤ x) && decide (x < 30)
theorem regone_impl (x : Int) (w : World) (b : Bool) (hb : regB x = b) :
    Calls Tryd.prog 36 #[.int .i64 x] w fun e w' => e = .returned (.bool b) ∧ w' = w := by
  unfold regB at hb
  subst hb
  by_cases h0 : 0 ≤ x
  · by_cases h1 : x < 30
    · rw [decide_eq_true h0, decide_eq_true h1]
      go_enter Tryd.func36, Tryd.ntmps36
      go_wp2
      go_ret
      exact ⟨rfl, rfl⟩
    · rw [decide_eq_true h0, decide_eq_false h1]
      go_enter Tryd.func36, Tryd.ntmps36
      go_wp2
      go_ret
      exact ⟨rfl, rfl⟩
  · rw [decide_eq_false h0, Bool.false_and]
    go_enter Tryd.func36, Tryd.ntmps36
    go_wp2
    go_ret
    exact ⟨rfl, rfl⟩
set_option maxHeartbeats 2000000 in
theorem every_regs (a : Option Addr) (cap : Nat) (l : List Int) (w : World) (hrow : IntsAt w a l) (hm : l.length ≤ maxLen) (b : Bool) (hb : l.all regB = b) :
    Calls Tryd.prog 35 #[.agg #[.slice a l.length cap], .func (.func 36) #[] #[]] w fun e w' => e = .returned (.bool b) ∧ Below w.heap.size w w' := by
  have HR := hid hrow
  have HB := hid hb
  clear hrow hb
  unfold maxLen at hm
  go_enter Tryd.func35, Tryd.ntmps35
  have hA : Below w.heap.size w (w.alloc (.cells #[.slice a l.length cap] 71)) := (Below.refl _ _).alloc (Nat.le_refl _) _
  go_wp2
  go_loopw [10] (fun kk wr => ∃ k : Nat, k ≤ l.length ∧ kk = .int .i64 k ∧ Hid ((l.take k).all regB = true) ∧ Below w.heap.size w wr) (fun kk _ => l.length - (intOf kk).toNat)
  case atStart => exact ⟨0, Nat.zero_le _, rfl, rfl, hA⟩
  case round =>
    obtain ⟨k, hk, rfl, hall, hbw⟩ := hrel
    by_cases hlt : k < l.length
    · obtain ⟨g, o, rfl, hgw, c0⟩ := HR.out.below hbw k hlt
      have hi0 : (0 : Int) ≤ (k : Int) := by omega
      have hi1 : (k : Int) < (l.length : Int) := by omega
      have HS : Hid ((l.take (k + 1)).all regB = regB l[k]) := by
        have : (l.take (k + 1)).all regB = regB l[k] := by
          rw [List.take_succ_eq_append_getElem hlt, List.all_append, hall.out, Bool.true_and, List.all_cons, List.all_nil, Bool.and_true]
        exact this
      have hno : Hid (regB l[k] = false → b = false) := by
        have : regB l[k] = false → b = false := by
          intro e
          rw [← HB.out, Bool.eq_false_iff]
          intro h
          rw [List.all_eq_true.1 h _ (List.getElem_mem hlt)] at e
          cases e
        exact this
      obtain ⟨r, hr⟩ : ∃ r, regB l[k] = r := ⟨_, rfl⟩
      generalize l[k] = x at c0 HS hr hno
      have HRR := hid hr
      clear hr
      go_wp2_with fail
      refine (regone_impl x _ r HRR.out).mono ?_
      rintro e wA ⟨rfl, rfl⟩
      cases r
      · have e := hno.out HRR.out
        subst e
        go_wp2
        go_ret
        exact ⟨rfl, hbw⟩
      · go_wp2
        go_roundw
        case rel => exact ⟨k + 1, by omega, by go_num, by rw [HS.out]; exact HRR.out, hbw⟩
        case measure => simp [intOf]; omega
    · have hkl : k = l.length := by omega
      subst hkl
      have hnn : ¬ (l.length : Int) < (l.length : Int) := by omega
      have e : b = true := by
        rw [← HB.out]
        have := hall.out
        rw [List.take_length] at this
        exact this
      subst e
      go_wp2
      go_ret
      exact ⟨rfl, hbw⟩
theorem allregs_impl (a : Option Addr) (cap : Nat) (l : List Int) (n : Nat) (hn : l.length = n) (w : World) (hrow : IntsAt w a l) (hm : n ≤ maxLen) (b : Bool) (hb : l.all regB = b) :
    Calls Tryd.prog 32 #[.slice a n cap] w fun e w' => e = .returned (.bool b) ∧ Below w.heap.size w w' := by
  subst hn
  have HR := hid hrow
  have HB := hid hb
  clear hrow hb
  go_enter Tryd.func32, Tryd.ntmps32
  go_wp2_with fail
  refine (every_regs a cap l _ HR.out hm b HB.out).mono ?_
  rintro e w1 ⟨rfl, hb1⟩
  go_wp2
  go_ret
  exact ⟨rfl, hb1⟩
end Go.Proofs.YtmhamgcjmehnnaaDoor
