/-
  The contract of the law's helper that takes a table over: all of it lies in new memory.
-/
import Derived.Test.YtdmiiklegnokjaaTab2
import Derived.Test.YtdmiiklegnokjaaLists9
namespace Go.Proofs.Ytdmiiklegnokjaa
open Go.ChangeShapes Go.WideShapes Go.ChangeAt Go.RowKit
attribute [local go_sem ↓] Go.wp_at_zero Go.wp_at_succ
attribute [local simp] World.cell?_alloc_past World.cell?_alloc_at World.frozen?_alloc_at cell_far cell_off cell_here World.frozen?_alloc_past

theorem Taken.lies {w : World} {g : Nat} {L : List (List CT)} {G : Nat → Nat} (h : Taken w g L G L.length) (hf : ∀ i (hi : i < L.length), Fit L[i]) (hm : ∀ i (hi : i < L.length), L[i].length ≤ maxLen) : RowsAt w (some ⟨g, 0, none⟩) L := by
  intro i hi
  obtain ⟨h1, h2, _⟩ := h.rows i hi hi
  exact ⟨g, 0, _, _, rfl, h.lt, by rw [Nat.zero_add]; exact h1, h2, hf i hi, hm i hi, fun e => by cases e⟩

theorem own_keepG {w w' : World} {base base' g c : Nat} {e : TypeId} {size n : Nat} {xs : List Value} (h : w.ownsRow base e size (.slice (some ⟨g, 0, none⟩) n c) n xs) (hb : base' ≤ base) (hk : w'.heap[g]? = w.heap[g]?) : w'.ownsRow base' e size (.slice (some ⟨g, 0, none⟩) n c) n xs := by
  refine ⟨h.1, ?_⟩
  rcases h.2 with h' | ⟨g', cap, cur, h', hbg, hg, hr⟩
  · exact .inl h'
  · refine .inr ⟨g', cap, cur, h', by omega, ?_, hr⟩
    simp only [Value.slice.injEq, Option.some.injEq, Addr.mk.injEq, and_true, true_and] at h'
    obtain ⟨rfl, _⟩ := h'
    rw [hk]; exact hg
theorem Taken.low {w w' : World} {g : Nat} {L : List (List CT)} {G : Nat → Nat} (h : Taken w g L G L.length) (hs : w.heap.size ≤ w'.heap.size) (hk : ∀ k, g ≤ k → k < w.heap.size → w'.heap[k]? = w.heap[k]?) : Taken w' g L G L.length where
  lt := Nat.lt_of_lt_of_le h.lt hs
  there := fun i hi => by rw [World.cell?_of_block (a := ⟨g, i, none⟩) (hk g (Nat.le_refl _) h.lt)]; exact h.there i hi
  free := fun i hi => by rw [World.frozen?_of_block (a := ⟨g, i, none⟩) (hk g (Nat.le_refl _) h.lt)]; exact h.free i hi
  bounds := fun i hi => ⟨(h.bounds i hi).1, Nat.lt_of_lt_of_le (h.bounds i hi).2 hs⟩
  rises := h.rises
  rows := fun i hi hm => by
    obtain ⟨h1, h2, h3⟩ := h.rows i hi hm
    have hb := h.bounds i hm
    have e := hk (G i) (by omega) hb.2
    refine ⟨by rw [World.cell?_of_block (a := ⟨g, i, none⟩) (hk g (Nat.le_refl _) h.lt)]; exact h1, ?_, ?_⟩
    · intro j hj
      obtain ⟨b, o, ha, hlt, c0, c1, c2⟩ := h2 j hj
      simp only [Option.some.injEq, Addr.mk.injEq, and_true] at ha
      obtain ⟨rfl, rfl⟩ := ha
      exact ⟨_, _, rfl, Nat.lt_of_lt_of_le hlt hs, by rw [World.cell?_of_block (a := ⟨G i, _, none⟩) e]; exact c0, by rw [World.cell?_of_block (a := ⟨G i, _, none⟩) e]; exact c1, by rw [World.cell?_of_block (a := ⟨G i, _, none⟩) e]; exact c2⟩
    · intro b o ha j hj
      cases ha
      rw [World.frozen?_of_block (a := ⟨G i, _, none⟩) e]
      exact h3 _ _ rfl j hj
end Go.Proofs.Ytdmiiklegnokjaa
