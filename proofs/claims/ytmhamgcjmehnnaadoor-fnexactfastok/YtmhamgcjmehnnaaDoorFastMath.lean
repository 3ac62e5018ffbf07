/-
  Which quick steps are right (no program).
-/
import Derived.Test.YtmhamgcjmehnnaaDoorFastL
namespace Go.Proofs.YtmhamgcjmehnnaaDoor

def inI (x lo hi : Int) : Bool := decide (lo ≤ x) && decide (x ≤ hi)
/-- Is a step right, of registers that are had? -/
def opB (P : Int → Bool) (width : Int) (o : FO) : Bool :=
  if o.1 = 12 then decide (o.2.1 = 0) && (decide (o.2.2.2 = 0) && (inI o.2.2.1 0 29 && P o.2.2.1))
  else inI o.2.1 0 29 && (!P o.2.1 &&
    (if o.1 = 1 then inI o.2.2.1 0 (width - 1) && decide (o.2.2.2 = 0)
     else if o.1 = 2 then inI o.2.2.1 (-1000000000) 1000000000 && decide (o.2.2.2 = 0)
     else if o.1 = 11 then inI o.2.2.1 0 29 && (P o.2.2.1 && decide (o.2.2.2 = 0))
     else inI o.1 3 10 && (inI o.2.2.1 0 29 && (P o.2.2.1 && (inI o.2.2.2 0 29 && P o.2.2.2)))))
/-- The registers that steps have made. -/
def hadB (L : List FO) (r : Int) : Bool := L.any fun o => decide (o.1 ≠ 12) && decide (o.2.1 = r)
def opsB (width : Int) (L : List FO) : Bool := (List.range L.length).all fun k => match L[k]? with | some o => opB (hadB (L.take k)) width o | none => true
def outB (P : Int → Bool) (width : Int) (u : FU) : Bool := (decide (u.2.1 = -1) && (inI u.1 0 (width - 1) && !u.2.2)) || (decide (u.1 = -1) && (inI u.2.1 0 29 && P u.2.1))
def fastB (O : List FO) (U : List FU) (width : Int) : Bool := inI width 1 6 && (opsB width O && U.all (outB (hadB O) width))
theorem had_nil (r : Int) : hadB [] r = false := rfl
theorem had_step {L : List FO} {k : Nat} (hk : k < L.length) (r : Int) : hadB (L.take (k + 1)) r = (hadB (L.take k) r || (decide (L[k].1 ≠ 12) && decide (L[k].2.1 = r))) := by
  unfold hadB
  rw [List.take_succ_eq_append_getElem hk, List.any_append]
  simp
theorem ops_no {width : Int} {L : List FO} {k : Nat} (hk : k < L.length) (h : opB (hadB (L.take k)) width L[k] = false) : opsB width L = false := by
  unfold opsB
  rw [Bool.eq_false_iff]
  intro hall
  have := List.all_eq_true.1 hall k (List.mem_range.2 hk)
  rw [List.getElem?_eq_getElem hk] at this
  simp only at this
  rw [h] at this
  cases this
theorem ops_yes {width : Int} {L : List FO} (h : ∀ k (hk : k < L.length), opB (hadB (L.take k)) width L[k] = true) : opsB width L = true := by
  unfold opsB
  rw [List.all_eq_true]
  intro k hk
  have hk' := List.mem_range.1 hk
  rw [List.getElem?_eq_getElem hk']
  exact h k hk'
end Go.Proofs.YtmhamgcjmehnnaaDoor
