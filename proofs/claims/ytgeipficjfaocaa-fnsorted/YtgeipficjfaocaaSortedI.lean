/-
  The contract of the program's Sorted: rows in new memory, in the order of their places that is asked for.
-/
import Derived.Test.YtgeipficjfaocaaHeapI5
import Derived.Test.YtgeipficjfaocaaCopyI
namespace Go.Proofs.Ytgeipficjfaocaa
open Go.ChangeShapes Go.WideShapes Go.ChangeAt Go.RowKit
attribute [local go_sem ↓] Go.wp_at_zero Go.wp_at_succ

theorem own_keepS {w w' : World} {P : Nat → Prop} {base : Nat} {e : TypeId} {size n : Nat} {v : Value} {xs : List Value} (h : w.ownsRow base e size v n xs) (hk : KeepS P w w') (hP : ∀ b, P b → b < base) : w'.ownsRow base e size v n xs := by
  refine ⟨h.1, ?_⟩
  rcases h.2 with h' | ⟨g, cap, cur, h', hbg, hg, hr⟩
  · exact .inl h'
  · refine .inr ⟨g, cap, cur, h', hbg, ?_, hr⟩
    have hlt : g < w.heap.size := by
      by_cases hl : g < w.heap.size
      · exact hl
      · rw [Array.getElem?_eq_none (by omega)] at hg; cases hg
    rw [hk.block g hlt (fun hp => by have := hP g hp; omega)]; exact hg
theorem OwnRows.keepS {w w' : World} {P : Nat → Prop} {base : Nat} {v : Value} {L : List (List CT)} {G C : Nat → Nat} (h : OwnRows w base v L G C) (hk : KeepS P w w') (hP : ∀ b, P b → b < base) : OwnRows w' base v L G C :=
  ⟨own_keepS h.outer hk hP, fun i hi => own_keepS (h.inner i hi) hk hP, h.apart⟩
theorem OwnRows.base {w : World} {b1 b2 : Nat} {v : Value} {L : List (List CT)} {G C : Nat → Nat} (h : OwnRows w b1 v L G C) (hle : b2 ≤ b1) : OwnRows w b2 v L G C :=
  ⟨own_base h.outer hle, fun i hi => own_base (h.inner i hi) hle, h.apart⟩

/-- The heads of rows, by their places. -/
theorem heads_of {w : World} {a : Option Addr} {L : List (List CT)} (h : RowsAt w a L) : ∃ A : Nat → Option Addr, ∃ K : Nat → Nat, ∀ i, i < L.length → ∃ b o, a = some ⟨b, o, none⟩ ∧ b < w.heap.size ∧ w.cell? ⟨b, o + i, none⟩ = some (.slice (A i) (L.getD i []).length (K i)) ∧ RowAt w (A i) (L.getD i []) ∧ (A i = none → K i = 0) := by
  have hx : ∀ i, ∃ p : Option Addr × Nat, i < L.length → ∃ b o, a = some ⟨b, o, none⟩ ∧ b < w.heap.size ∧ w.cell? ⟨b, o + i, none⟩ = some (.slice p.1 (L.getD i []).length p.2) ∧ RowAt w p.1 (L.getD i []) ∧ (p.1 = none → p.2 = 0) := by
    intro i
    by_cases hi : i < L.length
    · obtain ⟨b, o, ai, ci, ha, hlt, h0, h1, _, _, h4⟩ := h i hi
      refine ⟨(ai, ci), fun _ => ⟨b, o, ha, hlt, ?_, ?_, h4⟩⟩
      · rw [getD_get _ _ _ hi]; exact h0
      · rw [getD_get _ _ _ hi]; exact h1
    · exact ⟨(none, 0), fun hi' => absurd hi' hi⟩
  obtain ⟨f, hf⟩ := Classical.axiomOfChoice hx
  exact ⟨fun i => (f i).1, fun i => (f i).2, fun i hi => hf i hi⟩

/-- Out of the rows that have place t: what the heap may ask of them. -/
theorem keys_of {w : World} {a : Option Addr} {L : List (List CT)} {t : Nat} (hr : Reach L (t : Int)) {A : Nat → Option Addr} {K : Nat → Nat} (h : ∀ i, i < L.length → ∃ b o, a = some ⟨b, o, none⟩ ∧ b < w.heap.size ∧ w.cell? ⟨b, o + i, none⟩ = some (.slice (A i) (L.getD i []).length (K i)) ∧ RowAt w (A i) (L.getD i []) ∧ (A i = none → K i = 0)) :
    ∃ B : Nat → Nat × Nat, KeysAt w w.heap.size L.length t (fun i => .slice (A i) (L.getD i []).length (K i)) (keyOf L (t : Int)) B (fun i => (L.getD i []).length) K := by
  refine ⟨fun i => (((A i).getD ⟨0, 0, none⟩).block, ((A i).getD ⟨0, 0, none⟩).off), fun q hq => ?_⟩
  obtain ⟨_, hn, _⟩ := reach_key hr q hq
  obtain ⟨_, _, _, _, _, hrow, _⟩ := h q hq
  simp only [Int.toNat_natCast] at hn
  obtain ⟨b, o, ha, hlt, c0, c1, c2⟩ := hrow t hn
  have hk : (L.getD q [])[t] = keyOf L (t : Int) q := by
    unfold keyOf
    rw [Int.toNat_natCast, getD_get _ _ _ hn]
  rw [hk] at c0 c1 c2
  simp only [ha, Option.getD_some]
  exact ⟨trivial, hn, hlt, c0, c1, c2⟩

end Go.Proofs.Ytgeipficjfaocaa
