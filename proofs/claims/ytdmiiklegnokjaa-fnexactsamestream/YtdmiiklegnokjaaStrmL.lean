/-
  The contracts of the law's helpers on streams: the measure, the taking over, and two that are one held against each other.
-/
import Derived.Test.YtdmiiklegnokjaaDistS
import Derived.Test.YtdmiiklegnokjaaLists9
import Derived.Test.YtdmiiklegnokjaaTab3
namespace Go.Proofs.Ytdmiiklegnokjaa
open Go.ChangeShapes Go.WideShapes Go.ChangeAt Go.RowKit
attribute [local go_sem ↓] Go.wp_at_zero Go.wp_at_succ
attribute [local simp] World.cell?_alloc_past World.cell?_alloc_at World.frozen?_alloc_at cell_far cell_off cell_here World.frozen?_alloc_past

theorem szssS (n : Nat) (a : Option Addr) (cap : Nat) (L : List (List CT)) (hn : L.length = n) (left : Int) (w : World) (hrow : RowsAt w a L) (hm : n ≤ maxLen) (h0 : 0 ≤ left) (h1 : left ≤ 1048576) :
    Calls Try.prog 9 #[.slice a n cap, .int .i64 left] w fun e w' => e = .returned (.int .i64 (leftOfs L left)) ∧ Below w.heap.size w w' := by
  subst hn; exact szss_laws a cap L left w hrow hm h0 h1
theorem eqssS (n : Nat) (a b : Option Addr) (ca cb : Nat) (L : List (List CT)) (hn : L.length = n) (w : World) (ha : RowsAt w a L) (hb : RowsAt w b L) (hm : n ≤ maxLen) :
    Calls Try.prog 15 #[.slice a n ca, .slice b n cb] w fun e w' => e = .returned (.bool true) ∧ Below w.heap.size w w' := by
  subst hn; exact eqss_laws a b ca cb L w ha hb hm
theorem tossS (n : Nat) (a : Option Addr) (cap : Nat) (L : List (List CT)) (hn : L.length = n) (w : World) (H : Nat) (hH : w.heap.size = H) (hrow : RowsAt w a L) (hm : n ≤ 1048576) (hms : ∀ i (h : i < L.length), L[i].length ≤ 1048576) :
    Calls Try.prog 11 #[.slice a n cap] w fun e w' => e = .returned (.slice (some ⟨H, 0, none⟩) n n) ∧
      (∃ G, Taken w' H L G L.length) ∧ Below w.heap.size w w' := by
  subst hn hH; exact toss_laws a cap L w hrow hm hms
/-- What a measure of at most 2^20 says of rows. -/
theorem leftOfs_fit {L : List (List CT)} {left : Int} (h1 : left ≤ 1048576) (h : 0 ≤ leftOfs L left) : L.length ≤ 1048576 ∧ (∀ i (hi : i < L.length), L[i].length ≤ 1048576) ∧ leftOfs L left ≤ 1048576 := by
  unfold leftOfs at h ⊢
  split at h
  · omega
  · rename_i hn
    rw [if_neg hn]
    refine ⟨by omega, ?_, by omega⟩
    intro i hi
    have : L[i].length ≤ total L := by
      unfold total
      have hm : (L[i].length + weight L[i]) ∈ (L.map fun l => l.length + weight l) := List.mem_map.2 ⟨_, List.getElem_mem hi, rfl⟩
      have h2 : ∀ {l : List Nat} {x : Nat}, x ∈ l → x ≤ l.sum := by
        intro l x h
        induction l with
        | nil => cases h
        | cons y l ih =>
          rw [List.sum_cons]
          rcases List.mem_cons.1 h with rfl | h
          · omega
          · have := ih h; omega
      have := h2 hm
      omega
    omega
set_option maxHeartbeats 1000000 in
theorem szstrm_laws (n : Nat) (a : Option Addr) (cap : Nat) (L : List (List CT)) (hn : L.length = n) (f : Int) (left : Int) (w : World) (hrow : RowsAt w a L) (hm : n ≤ maxLen) (h0 : 0 ≤ left) (h1 : left ≤ 1048576) :
    Calls Try.prog 4 #[.agg #[.slice a n cap, .int .i64 f], .int .i64 left] w fun e w' => e = .returned (.int .i64 (leftOfs L left)) ∧ Below w.heap.size w w' := by
  have HR : Hid (RowsAt w a L) := hrow
  have HN : Hid (L.length = n) := hn
  obtain ⟨r, hr⟩ : ∃ r, leftOfs L left = r := ⟨_, rfl⟩
  have HL : Hid (leftOfs L left = r) := hr
  rw [hr]
  have hA : Below w.heap.size w (w.alloc (.cells #[.slice a n cap, .int .i64 f] 24)) := (Below.refl _ _).alloc (Nat.le_refl _) _
  have hcase : r = -1 ∨ 0 ≤ r := by
    rw [← hr]; unfold leftOfs; split
    · exact .inl rfl
    · exact .inr (by omega)
  clear hr hrow hn
  go_enter Try.func4, Try.ntmps4
  go_wp2_with fail
  refine (szssS n a cap L HN.out left _ (HR.out.below hA) hm h0 h1).mono ?_
  rintro e w1 ⟨rfl, hb1⟩
  rw [HL.out]
  have hx1 := chain hA hb1
  clear hb1 hA
  rcases hcase with rfl | hp
  · go_wp2
    go_ret
    exact ⟨rfl, hx1⟩
  · have hp' : ¬ r < 0 := by omega
    go_wp2
    go_ret
    exact ⟨rfl, hx1⟩
set_option maxHeartbeats 1000000 in
theorem eqstrm_laws (n : Nat) (a b : Option Addr) (ca cb : Nat) (L : List (List CT)) (hn : L.length = n) (f : Int) (w : World) (ha : RowsAt w a L) (hb : RowsAt w b L) (hm : n ≤ maxLen) :
    Calls Try.prog 8 #[.agg #[.slice a n ca, .int .i64 f], .agg #[.slice b n cb, .int .i64 f]] w fun e w' => e = .returned (.bool true) ∧ Below w.heap.size w w' := by
  have HA : Hid (RowsAt w a L) := ha
  have HB : Hid (RowsAt w b L) := hb
  have HN : Hid (L.length = n) := hn
  clear ha hb hn
  have hA : Below w.heap.size w ((w.alloc (.cells #[.slice a n ca, .int .i64 f] 29)).alloc (.cells #[.slice b n cb, .int .i64 f] 29)) := ((Below.refl _ _).alloc (Nat.le_refl _) _).alloc (by simp) _
  go_enter Try.func8, Try.ntmps8
  go_wp2_with fail
  refine (eqssS n a b ca cb L HN.out _ (HA.out.below hA) (HB.out.below hA) hm).mono ?_
  rintro e w1 ⟨rfl, hb1⟩
  obtain ⟨hc, hf⟩ := bcell hb1
  have p1 : w1.cell? ⟨w.heap.size, 1, none⟩ = some (.int .i64 f) := by rw [hc _ _ (by simp; omega)]; simp [go_sem]
  have q1 : w1.cell? ⟨w.heap.size + 1, 1, none⟩ = some (.int .i64 f) := by rw [hc _ _ (by simp)]; simp [go_sem]
  have hx1 := chain hA hb1
  clear hc hf hb1 hA HA HB
  go_wp2
  go_ret
  exact ⟨rfl, hx1⟩
set_option maxHeartbeats 4000000 in
/-- A stream that was taken over: its rows in block g and those behind. -/
theorem tostrm_laws (n : Nat) (a : Option Addr) (cap : Nat) (L : List (List CT)) (hn : L.length = n) (f : Int) (w : World) (hrow : RowsAt w a L) (hm : n ≤ 1048576) (hms : ∀ i (h : i < L.length), L[i].length ≤ 1048576) :
    Calls Try.prog 6 #[.agg #[.slice a n cap, .int .i64 f]] w fun e w' => ∃ g, e = .returned (.agg #[.slice (some ⟨g, 0, none⟩) n n, .int .i64 f]) ∧ w.heap.size ≤ g ∧ (∃ G, Taken w' g L G L.length) ∧ Below w.heap.size w w' := by
  have HR : Hid (RowsAt w a L) := hrow
  have HN : Hid (L.length = n) := hn
  have HMS : Hid (∀ i (h : i < L.length), L[i].length ≤ 1048576) := hms
  clear hrow hn hms
  obtain ⟨V, hV⟩ : ∃ V, V = ((w.alloc (.cells #[.slice a n cap, .int .i64 f] 24)).alloc (.cells #[.slice none 0 0, .int .i64 0] 29)).alloc (.cells #[.slice none 0 0, .int .i64 0] 29) := ⟨_, rfl⟩
  have hA : Below w.heap.size w V := by rw [hV]; exact (((Below.refl _ _).alloc (Nat.le_refl _) _).alloc (by simp) _).alloc (by simp; omega) _
  have hs : V.heap.size = w.heap.size + 1 + 1 + 1 := by rw [hV]; simp
  have b0 : V.heap[w.heap.size]? = some (.cells #[.slice a n cap, .int .i64 f] 24) := by
    rw [hV, _root_.Go.heap_alloc_old _ _ (by simp; omega), _root_.Go.heap_alloc_old _ _ (by simp)]; exact _root_.Go.heap_alloc_new _ _
  have b1 : V.heap[w.heap.size + 1]? = some (.cells #[.slice none 0 0, .int .i64 0] 29) := by
    rw [hV, _root_.Go.heap_alloc_old _ _ (by simp)]; exact (show (w.alloc (.cells #[.slice a n cap, .int .i64 f] 24)).heap.size = w.heap.size + 1 by simp) ▸ _root_.Go.heap_alloc_new _ _
  have b2 : V.heap[w.heap.size + 1 + 1]? = some (.cells #[.slice none 0 0, .int .i64 0] 29) := by
    rw [hV]; exact (show ((w.alloc (.cells #[.slice a n cap, .int .i64 f] 24)).alloc (.cells #[.slice none 0 0, .int .i64 0] 29)).heap.size = w.heap.size + 1 + 1 by simp) ▸ _root_.Go.heap_alloc_new _ _
  have HS : Hid (V.heap.size = w.heap.size + 1 + 1 + 1) := hs
  have B0 : Hid (V.heap[w.heap.size]? = some (.cells #[.slice a n cap, .int .i64 f] 24)) := b0
  have B1 : Hid (V.heap[w.heap.size + 1]? = some (.cells #[.slice none 0 0, .int .i64 0] 29)) := b1
  have B2 : Hid (V.heap[w.heap.size + 1 + 1]? = some (.cells #[.slice none 0 0, .int .i64 0] 29)) := b2
  clear hs b0 b1 b2
  go_enter Try.func6, Try.ntmps6
  go_wp2_with fail
  rw [← hV]
  clear hV
  refine (tossS n a cap L HN.out _ V.heap.size rfl (HR.out.below hA) hm HMS.out).mono ?_
  rintro e w1 ⟨rfl, ⟨G, hG⟩, hb1⟩
  have hx1 := chain hA hb1
  have hs := HS.out
  have TG : Hid (Taken w1 V.heap.size L G L.length) := hG
  have C0 : Hid (w1.heap[w.heap.size]? = some (.cells #[.slice a n cap, .int .i64 f] 24)) := (hb1.block _ (by omega)).trans B0.out
  have C1 : Hid (w1.heap[w.heap.size + 1]? = some (.cells #[.slice none 0 0, .int .i64 0] 29)) := (hb1.block _ (by omega)).trans B1.out
  have C2 : Hid (w1.heap[w.heap.size + 1 + 1]? = some (.cells #[.slice none 0 0, .int .i64 0] 29)) := (hb1.block _ (by omega)).trans B2.out
  have p1 : w1.cell? ⟨w.heap.size, 1, none⟩ = some (.int .i64 f) := cell_of_row _ _ _ _ _ _ C0.out
  have q0 : w1.cell? ⟨w.heap.size + 1, 0, none⟩ = some (.slice none 0 0) := cell_of_row _ _ _ _ _ _ C1.out
  have q1 : w1.cell? ⟨w.heap.size + 1, 1, none⟩ = some (.int .i64 0) := cell_of_row _ _ _ _ _ _ C1.out
  have r0 : w1.cell? ⟨w.heap.size + 1 + 1, 0, none⟩ = some (.slice none 0 0) := cell_of_row _ _ _ _ _ _ C2.out
  have r1 : w1.cell? ⟨w.heap.size + 1 + 1, 1, none⟩ = some (.int .i64 0) := cell_of_row _ _ _ _ _ _ C2.out
  have f10 : w1.frozen? ⟨w.heap.size + 1, 0, none⟩ = false := by unfold World.frozen?; simp [C1.out]
  have f11 : w1.frozen? ⟨w.heap.size + 1, 1, none⟩ = false := by unfold World.frozen?; simp [C1.out]
  have f20 : w1.frozen? ⟨w.heap.size + 1 + 1, 0, none⟩ = false := by unfold World.frozen?; simp [C2.out]
  have f21 : w1.frozen? ⟨w.heap.size + 1 + 1, 1, none⟩ = false := by unfold World.frozen?; simp [C2.out]
  obtain ⟨g, hg⟩ : ∃ g, V.heap.size = g := ⟨_, rfl⟩
  have hgl : w.heap.size + 3 ≤ g := by omega
  have TG2 : Hid (Taken w1 g L G L.length) := hg ▸ TG.out
  rw [hg]
  clear hs hb1 hG TG C0 C1 C2 HS B0 B1 B2 hA HR hg V
  go_wp2
  refine bodyPost_ret (v := .agg #[.slice (some ⟨g, 0, none⟩) n n, .int .i64 f]) (by simp [results, Try.results6, go_sem, q0, q1]) rfl ⟨g, rfl, by omega, ⟨G, TG2.out.low (by simp) ?_⟩, ?_⟩
  · intro k hk hlt
    refine KeepS.block (P := fun b => b = w.heap.size + 1 ∨ b = w.heap.size + 1 + 1) (w := w1) ?_ k hlt (fun hp => by omega)
    repeat (first | exact KeepS.refl _ _ | refine KeepS.setCell ?_ (by simp) _)
  · exact (((hx1.setCell (p := ⟨w.heap.size + 1 + 1, 0, none⟩) (show w.heap.size ≤ w.heap.size + 1 + 1 by omega) _).setCell (p := ⟨w.heap.size + 1 + 1, 1, none⟩) (show w.heap.size ≤ w.heap.size + 1 + 1 by omega) _).setCell (p := ⟨w.heap.size + 1, 0, none⟩) (show w.heap.size ≤ w.heap.size + 1 by omega) _).setCell (p := ⟨w.heap.size + 1, 1, none⟩) (show w.heap.size ≤ w.heap.size + 1 by omega) _
/-- Are the rows of two streams alike, one by one? -/
def sameRows : List (List CT) → List (List CT) → Bool
  | [], [] => true
  | x :: l, y :: m => sameRow x y && sameRows l m
  | _, _ => false
theorem sameRows_eq : ∀ {l m : List (List CT)}, sameRows l m = true ↔ l = m
  | [], [] => by simp [sameRows]
  | [], _ :: _ => by simp [sameRows]
  | _ :: _, [] => by simp [sameRows]
  | x :: l, y :: m => by rw [sameRows, Bool.and_eq_true, sameRow_eq, sameRows_eq, List.cons.injEq]
theorem sameRows_len {l m : List (List CT)} (h : l.length ≠ m.length) : sameRows l m = false := by
  rw [Bool.eq_false_iff]
  intro hs
  exact h (by rw [sameRows_eq.1 hs])
theorem sameRows_at {l m : List (List CT)} (k : Nat) (h1 : k < l.length) (h2 : k < m.length) (h : sameRow l[k] m[k] = false) : sameRows l m = false := by
  rw [Bool.eq_false_iff]
  intro hs
  have e := sameRows_eq.1 hs
  subst e
  rw [sameRow_eq.2 rfl] at h
  cases h
theorem sameRows_all {l m : List (List CT)} (h : l.length = m.length) (ha : ∀ k (h1 : k < l.length) (h2 : k < m.length), sameRow l[k] m[k] = true) : sameRows l m = true := by
  rw [sameRows_eq]
  exact List.ext_getElem h fun k h1 h2 => sameRow_eq.1 (ha k h1 h2)
/-- What SameStream answers. -/
def sameS (L M : List (List CT)) (f g : Int) : Bool := sameRows L M && (f == g)
end Go.Proofs.Ytdmiiklegnokjaa
