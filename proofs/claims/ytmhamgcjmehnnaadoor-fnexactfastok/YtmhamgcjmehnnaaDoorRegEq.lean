/-
  Two arrays of thirty flags compared.
-/
import Derived.Test.YtmhamgcjmehnnaaDoorHd
import Derived.Test.YtmhamgcjmehnnaaDoorTk
import Derived.Test.YtmhamgcjmehnnaaDoorLists6
namespace Go.Proofs.YtmhamgcjmehnnaaDoor
open Go.ChangeShapes Go.WideShapes Go.ChangeAt Go.RowKit
attribute [local go_sem ↓] Go.wp_at_zero Go.wp_at_succ

/-- Thirty flags in a row. -/
def regL (p : Nat → Bool) : List Value := (List.range 30).map fun k => Value.bool (p k)
def regV (p : Nat → Bool) : Value := .agg (regL p).toArray
theorem regL_len (p : Nat → Bool) : (regL p).length = 30 := by simp [regL]
theorem regL_at (p : Nat → Bool) (k : Nat) (h : k < 30) : (regL p)[k]? = some (.bool (p k)) := by simp [regL, h]
/-- A loop that leaves off at the first one that is unlike. -/
theorem loop_until {β : Type} (P : Program) (w : World) (e : Nat → Bool) (i0 : β) (stop : β) (f : Nat → β → Sem (ForInStep β)) :
    ∀ (n i : Nat), (∀ k, i ≤ k → k < i + n → (f k i0).run P w = .ok (if e k then .yield i0 else .done stop) w) →
    (forIn (List.range' i n) i0 f).run P w = .ok (if (List.range' i n).all e then i0 else stop) w
  | 0, i, _ => by simp
  | n + 1, i, h => by
    rw [List.range'_succ, List.forIn_cons, Sem.run_bind, h i (Nat.le_refl _) (by omega), Result.andThen_ok]
    by_cases hk : e i = true
    · rw [if_pos hk]
      simp only [List.all_cons, hk, Bool.true_and]
      exact loop_until P w e i0 stop f n (i + 1) (fun k h1 h2 => h k (by omega) (by omega))
    · rw [if_neg hk]
      simp [hk]
set_option maxRecDepth 100000 in
set_option maxHeartbeats 2000000 in
theorem run_regs (p q : Nat → Bool) (w : World) :
    (Op.equalIn 10000 47 (regV p) (regV q)).run Tryd.prog w = .ok ((List.range 30).all fun k => p k == q k) w := by
  rw [show (10000 : Nat) = 9999 + 1 from rfl, Op.equalIn]
  unfold regV
  simp only [Sem.run_bind, run_underlying Tryd.underlying47, Result.andThen_ok]
  simp only [Std.Legacy.Range.forIn_eq_forIn_range', Std.Legacy.Range.size, Nat.sub_zero, Nat.add_sub_cancel, Nat.div_one]
  have hs : Sem.run Tryd.prog (sizeOf 4) w = .ok 1 w := by kernel_rfl
  rw [hs, Result.andThen_ok]
  have hp : ∀ (r : Nat → Bool) (k : Nat), k < 30 → Sem.run Tryd.prog (part 4 (regL r).toArray (k * 1)) w = .ok (.bool (r k)) w := by
    intro r k hk
    have hr := regL_at r k hk
    have hl := regL_len r
    generalize regL r = L at hr hl
    go_simp
    exact (List.getElem_eq_iff _).2 hr
  rw [loop_until Tryd.prog w (fun k => p k == q k) (none, ()) (some false, ()) _ 30 0 (fun k h1 h2 => by
    simp only [Sem.run_bind, hp p k (by omega), hp q k (by omega), Result.andThen_ok]
    have he : Sem.run Tryd.prog (Op.equalIn 9999 4 (.bool (p k)) (.bool (q k))) w = .ok (p k == q k) w := by
      rw [show (9999 : Nat) = 9998 + 1 from rfl, Op.equalIn]
      simp only [Sem.run_bind, run_underlying Tryd.underlying4, Result.andThen_ok]
      rfl
    rw [he, Result.andThen_ok]
    cases (p k == q k) <;> rfl)]
  rw [Result.andThen_ok]
  cases h : (List.range' 0 30).all fun k => p k == q k
  · have h' : ((List.range 30).all fun k => p k == q k) = false := by rw [← h, List.range_eq_range']
    rw [h']; rfl
  · have h' : ((List.range 30).all fun k => p k == q k) = true := by rw [← h, List.range_eq_range']
    rw [h']; rfl
theorem run_eql_regs (p q : Nat → Bool) (w : World) : (binOp .eql 47 (regV p) (regV q)).run Tryd.prog w = .ok (.bool ((List.range 30).all fun k => p k == q k)) w := by
  have ha := run_regs p q w
  generalize ((List.range 30).all fun k => p k == q k) = r at ha
  unfold regV at ha ⊢
  generalize (regL p).toArray = x at ha ⊢
  generalize (regL q).toArray = y at ha ⊢
  go_simp
theorem run_neq_regs (p q : Nat → Bool) (w : World) : (binOp .neq 47 (regV p) (regV q)).run Tryd.prog w = .ok (.bool !((List.range 30).all fun k => p k == q k)) w := by
  have ha := run_regs p q w
  generalize ((List.range 30).all fun k => p k == q k) = r at ha
  unfold regV at ha ⊢
  generalize (regL p).toArray = x at ha ⊢
  generalize (regL q).toArray = y at ha ⊢
  go_simp
end Go.Proofs.YtmhamgcjmehnnaaDoor
