/-
  Lists of numbers: how one lies in memory, and the contracts of the law's helpers that hold two against each other, mark one, and look whether the marks are still there.
-/
import Derived.Test.YtmhamgcjmehnnaaDoorHd
import Derived.Test.YtmhamgcjmehnnaaDoorLists6
namespace Go.Proofs.YtmhamgcjmehnnaaDoor
open Go.ChangeShapes Go.WideShapes Go.ChangeAt Go.RowKit
attribute [local go_sem ↓] Go.wp_at_zero Go.wp_at_succ

/-- The numbers of a slice lie where it says. -/
def IntsAt (w : World) (a : Option Addr) (l : List Int) : Prop :=
  ∀ j (h : j < l.length), ∃ b o, a = some ⟨b, o, none⟩ ∧ b < w.heap.size ∧ w.cell? ⟨b, o + j, none⟩ = some (.int .i64 l[j])
theorem IntsAt.below {w w' : World} {a : Option Addr} {l : List Int} (h : IntsAt w a l) (hb : Below w.heap.size w w') : IntsAt w' a l := by
  intro j hj
  obtain ⟨b, o, ha, hlt, h0⟩ := h j hj
  exact ⟨b, o, ha, Nat.lt_of_lt_of_le hlt hb.size, by rw [hb.cell (p := ⟨b, _, none⟩) hlt]; exact h0⟩
theorem IntsAt.keepS {P : Nat → Prop} {w w' : World} {a : Option Addr} {l : List Int} (h : IntsAt w a l) (hk : KeepS P w w') (hP : ∀ b, inBlk a l.length b → ¬ P b) : IntsAt w' a l := by
  intro j hj
  obtain ⟨b, o, ha, hlt, h0⟩ := h j hj
  exact ⟨b, o, ha, Nat.lt_of_lt_of_le hlt hk.size, by rw [hk.cell hlt (hP b ⟨by omega, o, ha⟩)]; exact h0⟩
def FreeI (w : World) (a : Option Addr) (n : Nat) : Prop := ∀ b o, a = some ⟨b, o, none⟩ → ∀ j, j < n → w.frozen? ⟨b, o + j, none⟩ = false
theorem FreeI.keepS {P : Nat → Prop} {w w' : World} {a : Option Addr} {l : List Int} (hf : FreeI w a l.length) (h : IntsAt w a l) (hk : KeepS P w w') (hP : ∀ b, inBlk a l.length b → ¬ P b) : FreeI w' a l.length := by
  intro b o ha j hj
  obtain ⟨b', o', ha', hlt, _⟩ := h j hj
  rw [ha] at ha'
  cases ha'
  rw [hk.frozen hlt (hP b ⟨by omega, o, ha⟩)]
  exact hf b o ha j hj
theorem IntsAt.upd {w w' : World} {b o : Nat} {l : List Int} {i : Nat} {x : Int} (h : IntsAt w (some ⟨b, o, none⟩) l) (hs : w.heap.size ≤ w'.heap.size)
    (hfar : ∀ q, q ≠ o + i → w'.cell? ⟨b, q, none⟩ = w.cell? ⟨b, q, none⟩) (h0 : w'.cell? ⟨b, o + i, none⟩ = some (.int .i64 x)) : IntsAt w' (some ⟨b, o, none⟩) (l.set i x) := by
  intro j hj
  have hj' : j < l.length := by simpa using hj
  obtain ⟨b', o', e, hlt, c0⟩ := h j hj'
  cases e
  refine ⟨b, o, rfl, Nat.lt_of_lt_of_le hlt hs, ?_⟩
  by_cases hij : i = j
  · subst hij
    rw [List.getElem_set_self]; exact h0
  · rw [List.getElem_set_ne hij, hfar _ (by omega)]; exact c0
theorem FreeI.upd {w w' : World} {a : Option Addr} {n : Nat} (h : FreeI w a n) (hf : ∀ b o q, a = some ⟨b, o, none⟩ → w'.frozen? ⟨b, q, none⟩ = w.frozen? ⟨b, q, none⟩) : FreeI w' a n :=
  fun b o e j hj => by rw [hf b o _ e]; exact h b o e j hj
/-- The marks of a list of n numbers. -/
def marksI (k n : Nat) : List Int := (List.range n).map fun i => ((k + i : Nat) : Int)
theorem marksI_length (k n : Nat) : (marksI k n).length = n := by simp [marksI]
theorem marksI_at (k n i : Nat) (h : i < (marksI k n).length) : (marksI k n)[i] = ((k + i : Nat) : Int) := by simp [marksI]
theorem marksI_step (k : Nat) (l : List Int) (i : Nat) (h : i < l.length) : (marksI k i ++ l.drop i).set i ((k + i : Nat) : Int) = marksI k (i + 1) ++ l.drop (i + 1) := by
  rw [List.set_append_right _ _ (by rw [marksI_length]; omega), marksI_length, Nat.sub_self]
  have e : l.drop i = l[i] :: l.drop (i + 1) := List.drop_eq_getElem_cons h
  rw [e, List.set_cons_zero]
  simp [marksI, List.range_succ]
theorem own_ints {w : World} {base g c : Nat} {e : TypeId} {l : List Int} (h : w.ownsRow base e 1 (.slice (some ⟨g, 0, none⟩) l.length c) l.length (l.map (Value.int .i64))) : IntsAt w (some ⟨g, 0, none⟩) l := by
  have hlt : g < w.heap.size := (h.lt g rfl).2
  intro j hj
  refine ⟨g, 0, rfl, hlt, ?_⟩
  rw [Nat.zero_add, h.cellAt _ (by omega), List.getElem?_map, List.getElem?_eq_getElem hj]; rfl
theorem own_freeI {w : World} {base g n c : Nat} {e : TypeId} {xs : List Value} (h : w.ownsRow base e 1 (.slice (some ⟨g, 0, none⟩) n c) n xs) : FreeI w (some ⟨g, 0, none⟩) n := by
  intro b o e j hj
  cases e
  rw [Nat.zero_add]
  exact h.frozenAt j

end Go.Proofs.YtmhamgcjmehnnaaDoor
